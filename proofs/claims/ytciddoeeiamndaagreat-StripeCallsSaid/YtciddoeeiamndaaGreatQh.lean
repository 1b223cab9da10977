/-
  The reference's Sound, by contract.
-/
import Derived.Test.YtciddoeeiamndaaGreatQc
namespace Go.Proofs.YtciddoeeiamndaaGreat
open Go.RowKit Go.Maps
set_option linter.unusedVariables false

section
variable {M : Nat → Prop} {L : RLay} {R : Rk} {F : Rf} {w : World} {B : Bn} {b : Nat}
set_option maxRecDepth 100000 in
set_option maxHeartbeats 8000000 in
theorem sound_any (g q : Int) (hr : RefAt w M L F) (hb : RbAt w b L.p B) (hrel : Rel R F) (hS : Sml B) :
    Calls Tryz.prog 39 #[.pointer (some ⟨b, 0, none⟩), .int .i64 g, .int .i64 q] w fun e w' => e = .returned (.tuple #[.bool (sndV B R 3 3 g q), .int .i64 (chkE R (segO B g))]) ∧ Below w.heap.size w w' := by
  have c0 := hb.c0
  have c1 := hb.c1
  have c2 := hb.c2
  have c3 := hb.c3
  rw [hS.d] at c1
  rw [hS.r] at c2
  rw [hS.s] at c3
  have c7 := hr.c7
  rw [← hrel.off] at c7
  have HNO : segO B g = false → Hid (sndV B R 3 3 g q = false ∧ chkE R (segO B g) = 28) := fun h => by
    have hc : chkE R (segO B g) = 28 := by rw [h]; rfl
    exact ⟨by unfold sndV; rw [hc]; rfl, hc⟩
  by_cases g0 : g < 0
  · have H := HNO (segO_out hS (.inl g0))
    clear HNO hr hb hrel hS
    go_enter Tryz.func39, Tryz.ntmps39
    go_wp2_with (fail)
    go_ret2
    rw [H.out.1, H.out.2]
    exact ⟨rfl, Below.refl _ _⟩
  by_cases g1 : 12 ≤ g
  · have H := HNO (segO_out hS (.inr g1))
    have d0 : decide (g < 0) = false := decide_eq_false g0
    clear HNO hr hb hrel hS g0
    go_enter Tryz.func39, Tryz.ntmps39
    go_wp2_with (fail)
    go_ret2
    rw [H.out.1, H.out.2]
    exact ⟨rfl, Below.refl _ _⟩
  have hth := segO_in hS (g := g) (by omega) (by omega)
  have d0 : decide (g < 0) = false := decide_eq_false g0
  have d1 : decide (12 ≤ g) = false := decide_eq_false g1
  have hg := sg_small (g := g) (by omega) (by omega)
  clear HNO g0 g1
  cases hoff : R.off with
  | true =>
    rw [hoff] at c7
    have H : Hid (sndV B R 3 3 g q = false ∧ chkE R (segO B g) = 12) := by
      have hc : chkE R (segO B g) = 12 := by unfold chkE; rw [hth, hoff]; rfl
      exact ⟨by unfold sndV; rw [hc]; rfl, hc⟩
    clear hr hb hrel hS hth hoff hg
    go_enter Tryz.func39, Tryz.ntmps39
    go_wp2_with (fail)
    go_ret2
    rw [H.out.1, H.out.2]
    exact ⟨rfl, Below.refl _ _⟩
  | false =>
    rw [hoff] at c7
    have H : Hid (sndV B R 3 3 g q = sdG B R 3 g q 3 ∧ chkE R (segO B g) = 0) := by
      have hc : chkE R (segO B g) = 0 := by unfold chkE; rw [hth, hoff]; rfl
      exact ⟨by unfold sndV; rw [if_pos hc], hc⟩
    have HR := Lib.hid hr
    have HB := Lib.hid hb
    have HREL := Lib.hid hrel
    have HSM := Lib.hid hS
    have HG := Lib.hid hg
    have hbl := hb.lt
    have HC : Hid (∀ wr, Below w.heap.size w wr → (wr.cell? ⟨b, 1, none⟩ = some (.int .i64 3) ∧ wr.cell? ⟨b, 2, none⟩ = some (.int .i64 3) ∧ wr.cell? ⟨b, 3, none⟩ = some (.int .i64 12))) := fun wr h1 =>
      ⟨(h1.cell (p := ⟨b, 1, none⟩) hbl).trans c1, (h1.cell (p := ⟨b, 2, none⟩) hbl).trans c2, (h1.cell (p := ⟨b, 3, none⟩) hbl).trans c3⟩
    have HST : Hid (∀ t : Nat, ∃ y : Nat, y < 3 ∧ PD 3 (g * 3 + (t : Int)) = y ∧ sdG B R 3 g q (t + 1) = (sdG B R 3 g q t && sdO B R (5 + (g * 3 + (t : Int))) q y 3)) := fun t => by
      obtain ⟨h1, h2⟩ := PD_bd (d := 3) (q := g * 3 + (t : Int)) (by omega)
      obtain ⟨y, hy⟩ := Int.eq_ofNat_of_zero_le h1
      exact ⟨y, by omega, hy, by rw [sdG, hS.r, hS.d, hy]; rfl⟩
    clear hr hb hrel hS hth hoff hg
    go_enter Tryz.func39, Tryz.ntmps39
    go_wp2_with (fail)
    clear d0 d1 c0 c1 c2 c3 c7 hbl
    go_loopw [8, 9, 10, 11, 12, 13] (fun v _p _q _r _s _t wr => ∃ t : Nat, t ≤ 3 ∧ v = .int .i64 t ∧ sdG B R 3 g q t = true ∧ Below w.heap.size w wr) (fun v _ _ _ _ _ _ => 3 - (RowKit.intOf v).toNat)
    case atStart => exact ⟨0, by omega, rfl, rfl, Below.refl _ _⟩
    case round =>
      obtain ⟨t, ht, rfl, hsd, hbw⟩ := hrel
      obtain ⟨c1, c2, c3⟩ := HC.out wr hbw
      by_cases hlt : t < 3
      · obtain ⟨y, hy, hpd, hst⟩ := HST.out t
        rw [hsd, Bool.true_and] at hst
        obtain ⟨z, hz⟩ : ∃ z, z = 5 + (g * 3 + (t : Int)) := ⟨_, rfl⟩
        obtain ⟨m, hm⟩ : ∃ m : Nat, m = 3 * t + 2 := ⟨_, rfl⟩
        have hmw : IntKind.i64.wrap (IntKind.i64.wrap (IntKind.i64.wrap ((t : Int) + 1) * 3) - 1) = (m : Int) := by rw [IntWalk.i64_in ((t : Int) + 1) (by omega), IntWalk.i64_in (((t : Int) + 1) * 3) (by omega), IntWalk.i64_in _ (by omega)]; omega
        have hsp : ∀ w, Calls Tryz.prog 80 #[gv 3 3 12, .int .i64 g, .int .i64 m] w fun e w' => e = .returned (spV y z) ∧ Below w.heap.size w w' := fun w => by
          have := spot_par g t w HG.out hlt
          rw [hpd, ← hz, ← hm] at this
          exact this
        have HGD : Hid (∀ w', Below w.heap.size w w' → Calls Tryz.prog 82 #[.pointer (some ⟨b, 0, none⟩), spV y z, .int .i64 q] w' (RetN w' (brV B R y z) (rdO B R z q y))) := fun w' h' => good_any (B := B) (y : Int) z q (HR.out.below h') (HB.out.next h') HREL.out
        have HOT : Hid (∀ w', Below w.heap.size w w' → Calls Tryz.prog 83 #[.pointer (some ⟨b, 0, none⟩), .int .i64 g, .int .i64 t, spV y z, .int .i64 q] w' (RetN w' (resL B R z q y 3) (resO B R z q y 3))) := fun w' h' => by
          have := others_any (B := B) g q t y (HR.out.below h') (HB.out.next h') HREL.out HSM.out HG.out hlt hy
          rw [← hz] at this
          exact this
        rw [← hz] at hst
        have HSD := Lib.hid hst
        have HLE : Hid (∀ i k, (brV B R i k).length ≤ 64) := fun i k => by
          by_cases he : brE B R i k = 0
          · exact Nat.le_of_eq ((HR.out.len64 HREL.out B) i k he).1
          · rw [br_nil he]; exact Nat.zero_le _
        have HBW := Lib.hid hbw
        have HNOT : Hid (sdO B R z q y 3 = false → sdG B R 3 g q 3 = false) := fun h => sdG_no (a := t + 1) hlt (by rw [HSD.out, h])
        clear hsd hz hm hpd hy hst hbw
        go_wp2_with (fail)
        have hb0 : Below wr.heap.size wr wr.drew := below_drewN (Below.refl _ wr) 1
        generalize hW3 : wr.drew = W3 at *
        have HB0 : Hid (Below w.heap.size w W3) := HBW.out.trans (hb0.mono HBW.out.size)
        have x1 := HC.out W3 HB0.out
        clear hb0
        refine wp_region_held_drew (S := fun w' => w'.cell? ⟨b, 1, none⟩ = some (.int .i64 3) ∧ w'.cell? ⟨b, 2, none⟩ = some (.int .i64 3) ∧ w'.cell? ⟨b, 3, none⟩ = some (.int .i64 12)) (by kernel_rfl) ?_ (fun hHeld => ?_)
        · rw [hW3]; exact x1
        rw [hW3] at hHeld
        rw [hW3]
        clear hW3
        obtain ⟨x1, x2, x3⟩ := x1
        refine wpAnyH_take (i := 0) (v := ?_) rfl (by kernel_rfl) (by kernel_rfl) (by kernel_rfl) (fun _ _ _ h => h) (Or.inl ⟨by rfl, fun w hSw => ?_⟩) (by assumption) ?_
        rotate_left
        · (try dsimp only at hSw); go_simp; try with_reducible rfl
        simp only [Act.put, List.setIfInBounds_toArray, List.set_cons_zero, List.set_cons_succ, List.getElem_toArray, List.getElem_cons_zero]
        refine wpAnyH_take (i := 1) (v := ?_) rfl (by kernel_rfl) (by kernel_rfl) (by kernel_rfl) (fun _ _ _ h => h) (Or.inl ⟨by rfl, fun w hSw => ?_⟩) (by assumption) ?_
        rotate_left
        · (try dsimp only at hSw); go_simp; try with_reducible rfl
        simp only [Act.put, List.setIfInBounds_toArray, List.set_cons_zero, List.set_cons_succ, List.getElem_toArray, List.getElem_cons_succ, List.getElem_cons_zero]
        refine wpAnyH_take (i := 2) (v := ?_) rfl (by kernel_rfl) (by kernel_rfl) (by kernel_rfl) (fun _ _ _ h => h) (Or.inl ⟨by rfl, fun w hSw => ?_⟩) (by assumption) ?_
        rotate_left
        · (try dsimp only at hSw); go_simp; try with_reducible rfl
        simp only [Act.put, List.setIfInBounds_toArray, List.set_cons_zero, List.set_cons_succ, List.getElem_toArray, List.getElem_cons_succ, List.getElem_cons_zero]
        refine wpAnyH_take (i := 3) (v := ?_) rfl (by kernel_rfl) (by kernel_rfl) (by kernel_rfl) (fun _ _ _ h => h) (Or.inl ⟨by rfl, fun w hSw => ?_⟩) (by assumption) ?_
        rotate_left
        · (try dsimp only at hSw); go_simp; try with_reducible rfl
        simp only [Act.put, List.setIfInBounds_toArray, List.set_cons_zero, List.set_cons_succ, List.getElem_toArray, List.getElem_cons_succ, List.getElem_cons_zero]
        refine wpAnyH_take (i := 4) (v := ?_) rfl (by kernel_rfl) (by kernel_rfl) (by kernel_rfl) (fun _ _ _ h => h) (Or.inl ⟨by rfl, fun w hSw => ?_⟩) (by assumption) ?_
        rotate_left
        · (try dsimp only at hSw); go_simp; try with_reducible rfl
        simp only [Act.put, List.setIfInBounds_toArray, List.set_cons_zero, List.set_cons_succ, List.getElem_toArray, List.getElem_cons_succ, List.getElem_cons_zero]
        refine wpAnyH_take (i := 5) (v := ?_) rfl (by kernel_rfl) (by kernel_rfl) (by kernel_rfl) (fun _ _ _ h => h) (Or.inl ⟨by rfl, fun w hSw => ?_⟩) (by assumption) ?_
        rotate_left
        · (try dsimp only at hSw); go_simp; try with_reducible rfl
        simp only [Act.put, List.setIfInBounds_toArray, List.set_cons_zero, List.set_cons_succ, List.getElem_toArray, List.getElem_cons_succ, List.getElem_cons_zero]
        refine wpAnyH_take (i := 6) (v := ?_) rfl (by kernel_rfl) (by kernel_rfl) (by kernel_rfl) (fun _ _ _ h => h) (Or.inl ⟨by rfl, fun w hSw => ?_⟩) (by assumption) ?_
        rotate_left
        · (try dsimp only at hSw); go_simp; try with_reducible rfl
        simp only [Act.put, List.setIfInBounds_toArray, List.set_cons_zero, List.set_cons_succ, List.getElem_toArray, List.getElem_cons_succ, List.getElem_cons_zero]
        refine wpAnyH_take (i := 7) (v := ?_) rfl (by kernel_rfl) (by kernel_rfl) (by kernel_rfl) (fun _ _ _ h => h) (Or.inl ⟨by rfl, fun w hSw => ?_⟩) (by assumption) ?_
        rotate_left
        · (try dsimp only at hSw); go_simp; try with_reducible rfl
        simp only [Act.put, List.setIfInBounds_toArray, List.set_cons_zero, List.set_cons_succ, List.getElem_toArray, List.getElem_cons_succ, List.getElem_cons_zero]
        refine wpAnyH_take (i := 8) (v := ?_) rfl (by kernel_rfl) (by kernel_rfl) (by kernel_rfl) (fun _ _ _ h => h) (Or.inl ⟨by rfl, fun w hSw => ?_⟩) (by assumption) ?_
        rotate_left
        · (try dsimp only at hSw); go_simp; try with_reducible rfl
        simp only [Act.put, List.setIfInBounds_toArray, List.set_cons_zero, List.set_cons_succ, List.getElem_toArray, List.getElem_cons_succ, List.getElem_cons_zero]
        refine wpAnyH_take (i := 9) (v := ?_) rfl (by kernel_rfl) (by kernel_rfl) (by kernel_rfl) (fun _ _ _ h => h) (Or.inl ⟨by rfl, fun w hSw => ?_⟩) (by assumption) ?_
        rotate_left
        · (try dsimp only at hSw); go_simp; try with_reducible rfl
        simp only [Act.put, List.setIfInBounds_toArray, List.set_cons_zero, List.set_cons_succ, List.getElem_toArray, List.getElem_cons_succ, List.getElem_cons_zero]
        refine wpAnyH_take (i := 10) (v := ?_) rfl (by kernel_rfl) (by kernel_rfl) (by kernel_rfl) (fun _ _ _ h => h) (Or.inl ⟨by rfl, fun w hSw => ?_⟩) (by assumption) ?_
        rotate_left
        · (try dsimp only at hSw); go_simp; try with_reducible rfl
        simp only [Act.put, List.setIfInBounds_toArray, List.set_cons_zero, List.set_cons_succ, List.getElem_toArray, List.getElem_cons_succ, List.getElem_cons_zero]
        refine wpAnyH_take (i := 11) (v := ?_) rfl (by kernel_rfl) (by kernel_rfl) (by kernel_rfl) (fun _ _ _ h => h) (Or.inl ⟨by rfl, fun w hSw => ?_⟩) (by assumption) ?_
        rotate_left
        · (try dsimp only at hSw); go_simp; try with_reducible rfl
        simp only [Act.put, List.setIfInBounds_toArray, List.set_cons_zero, List.set_cons_succ, List.getElem_toArray, List.getElem_cons_succ, List.getElem_cons_zero]
        refine wpAnyH_take (i := 12) (v := ?_) rfl (by kernel_rfl) (by kernel_rfl) (by kernel_rfl) (fun _ _ _ h => h) (Or.inl ⟨by rfl, fun w hSw => ?_⟩) (by assumption) ?_
        rotate_left
        · (try dsimp only at hSw); go_simp; try with_reducible rfl
        simp only [Act.put, List.setIfInBounds_toArray, List.set_cons_zero, List.set_cons_succ, List.getElem_toArray, List.getElem_cons_succ, List.getElem_cons_zero]
        refine wpAnyH_take (i := 13) (v := ?_) rfl (by kernel_rfl) (by kernel_rfl) (by kernel_rfl) (fun _ _ _ h => h) (Or.inl ⟨by rfl, fun w hSw => ?_⟩) (by assumption) ?_
        rotate_left
        · (try dsimp only at hSw); go_simp; try with_reducible rfl
        simp only [Act.put, List.setIfInBounds_toArray, List.set_cons_zero, List.set_cons_succ, List.getElem_toArray, List.getElem_cons_succ, List.getElem_cons_zero]
        clear x1 x2 x3 c1 c2 c3
        refine wpAnyH_ready (rs := [14, 15]) (by kernel_rfl) (by simp) ?_
        refine AllReadyH.cons rfl (fun K hK => ?_) (AllReadyH.cons rfl (fun K hK => ?_) AllReadyH.nil)
        · simp only [List.getElem_toArray, List.getElem_cons_succ, List.getElem_cons_zero]
          go_simp
          refine (hsp _).mono ?_
          rintro e w4 ⟨rfl, hb4⟩
          have HB4 := Lib.hid (HB0.out.trans (hb4.mono HB0.out.size))
          clear hb4
          go_wp2_with (fail)
          refine hK.out _ _ (HC.out _ HB4.out) (fun hHeld => ?_)
          clear hK K
          refine wpAnyH_ready (rs := [15]) (by kernel_rfl) (by simp) ?_
          refine AllReadyH.cons rfl (fun K hK => ?_) AllReadyH.nil
          simp only [List.getElem_toArray, List.getElem_cons_succ, List.getElem_cons_zero]
          go_simp
          have HB5 := Lib.hid (HB4.out.alloc HB4.out.size (.cells #[.int .i64 0, .int .i64 0] 116))
          refine hK.out _ _ (HC.out _ HB5.out) (fun hHeld => ?_)
          clear hK K
          refine wpAnyH_ready (rs := [16]) (by kernel_rfl) (by simp) ?_
          refine AllReadyH.cons rfl (fun K hK => ?_) AllReadyH.nil
          simp only [List.getElem_toArray, List.getElem_cons_succ, List.getElem_cons_zero]
          go_simp
          obtain ⟨X, hX⟩ : ∃ X, X = w4.alloc (.cells #[.int .i64 y, .int .i64 z] 116) := ⟨_, rfl⟩
          obtain ⟨p, hp⟩ : ∃ p, p = w4.heap.size := ⟨_, rfl⟩
          have HBX : Hid (Below w.heap.size w X) := by rw [hX]; exact HB4.out.alloc HB4.out.size _
          have s0 : X.cell? ⟨p, 0, none⟩ = some (.int .i64 y) := by rw [hX, hp]; simp
          have s1 : X.cell? ⟨p, 1, none⟩ = some (.int .i64 z) := by rw [hX, hp]; simp
          have sl : p < X.heap.size := by rw [hX, hp]; simp
          rw [← hX, ← hp]
          clear hX hp HB4 HB5
          refine hK.out _ _ (HC.out _ HBX.out) (fun hHeld => ?_)
          clear hK K
          refine wpAnyH_done (by kernel_rfl) ?_ _
          clear hHeld hmw
          have hgd := HGD.out X HBX.out
          clear HGD hsp
          obtain ⟨zs, hzs⟩ : ∃ zs, zs = brV B R (y : Int) z := ⟨_, rfl⟩
          obtain ⟨rs, hrs⟩ : ∃ rs, rs = resL B R z q y 3 := ⟨_, rfl⟩
          have HLZ : Hid (zs.length ≤ 64) := by rw [hzs]; exact HLE.out _ _
          have HSX : Hid (sdO B R z q y 3 = (rdO B R z q y && (resO B R z q y 3 && sameB zs rs))) := by rw [hzs, hrs]; rfl
          rw [← hzs] at hgd
          rw [← hrs] at HOT
          clear hzs hrs
          cases hok : rdO B R z q (y : Int) with
          | false =>
            have hN := HNOT.out (by rw [HSX.out, hok, Bool.false_and])
            rw [hok] at hgd
            have HN := Lib.hid hN
            clear hok hN
            go_wp2_with (fail)
            refine hgd.mono ?_
            rintro e w6 ⟨a6, n6, c6, rfl, hp6, hlo6, hb6⟩
            have t0 := (hb6.cell (p := ⟨p, 0, none⟩) sl).trans s0
            have t1 := (hb6.cell (p := ⟨p, 1, none⟩) sl).trans s1
            have HB6 := Lib.hid (HBX.out.trans (hb6.mono HBX.out.size))
            clear hgd hp6 hlo6 hb6 s0 s1
            go_wp2_with (fail)
            refine (HOT.out w6 HB6.out).mono ?_
            rintro e w7 ⟨a7, n7, c7, rfl, hp7, hlo7, hb7⟩
            have HB7 := Lib.hid (HB6.out.trans (hb7.mono HB6.out.size))
            clear hp7 hlo7 hb7 t0 t1
            go_wp2_with (fail)
            go_ret2
            rw [H.out.1, H.out.2, HN.out]
            exact ⟨rfl, HB7.out⟩
          | true =>
            cases hre : resO B R z q y 3 with
            | false =>
              have hN := HNOT.out (by rw [HSX.out, hre, Bool.false_and, Bool.and_false])
              rw [hok] at hgd
              rw [hre] at HOT
              have HN := Lib.hid hN
              clear hok hre hN
              go_wp2_with (fail)
              refine hgd.mono ?_
              rintro e w6 ⟨a6, n6, c6, rfl, hp6, hlo6, hb6⟩
              have t0 := (hb6.cell (p := ⟨p, 0, none⟩) sl).trans s0
              have t1 := (hb6.cell (p := ⟨p, 1, none⟩) sl).trans s1
              have HB6 := Lib.hid (HBX.out.trans (hb6.mono HBX.out.size))
              clear hgd hp6 hlo6 hb6 s0 s1
              go_wp2_with (fail)
              refine (HOT.out w6 HB6.out).mono ?_
              rintro e w7 ⟨a7, n7, c7, rfl, hp7, hlo7, hb7⟩
              have HB7 := Lib.hid (HB6.out.trans (hb7.mono HB6.out.size))
              clear hp7 hlo7 hb7 t0 t1
              go_wp2_with (fail)
              go_ret2
              rw [H.out.1, H.out.2, HN.out]
              exact ⟨rfl, HB7.out⟩
            | true =>
              have HSY : Hid (sdO B R z q y 3 = sameB zs rs) := by show _ = _; rw [HSX.out, hok, hre]; rfl
              rw [hok] at hgd
              rw [hre] at HOT
              clear hok hre
              go_wp2_with (fail)
              refine hgd.mono ?_
              rintro e w6 ⟨a6, n6, c6, rfl, hp6, hlo6, hb6⟩
              have t0 := (hb6.cell (p := ⟨p, 0, none⟩) sl).trans s0
              have t1 := (hb6.cell (p := ⟨p, 1, none⟩) sl).trans s1
              have HB6 := Lib.hid (HBX.out.trans (hb6.mono HBX.out.size))
              have HP6 := Lib.hid hp6
              clear hgd hp6 hlo6 hb6 s0 s1
              go_wp2_with (fail)
              refine (HOT.out w6 HB6.out).mono ?_
              rintro e w7 ⟨a7, n7, c7, rfl, hp7, hlo7, hb7⟩
              have HB7 := Lib.hid (HB6.out.trans (hb7.mono HB6.out.size))
              have hp6' := HP6.out.next hb7
              have hsm := same_any a6 a7 n6 c6 n7 c7 zs rs w7 hp6'.bys hp7.bys (by have := HLZ.out; have := hp6'.len; omega)
              clear hp7 hp6' hlo7 hb7 t0 t1
              cases hsb : sameB zs rs with
              | false =>
                have hN := HNOT.out (by rw [HSY.out, hsb])
                rw [hsb] at hsm
                have HN := Lib.hid hN
                clear hsb hN
                go_wp2_with (go_at_call 15; refine hsm.mono ?_; clear hsm; rintro e8 w8 ⟨rfl, nn, rfl⟩)
                go_ret2
                rw [H.out.1, H.out.2, HN.out]
                exact ⟨rfl, below_drewN HB7.out nn⟩
              | true =>
                have HN : Hid (sdG B R 3 g q (t + 1) = true) := by show _ = _; rw [HSD.out, HSY.out, hsb]
                rw [hsb] at hsm
                clear hsb
                go_wp2_with (go_at_call 15; refine hsm.mono ?_; clear hsm; rintro e8 w8 ⟨rfl, nn, rfl⟩)
                go_roundw
                case rel => exact ⟨t + 1, by omega, by go_num, HN.out, below_drewN HB7.out nn⟩
                case measure => simp [RowKit.intOf]; omega
        · simp only [List.getElem_toArray, List.getElem_cons_succ, List.getElem_cons_zero]
          go_simp
          have HB4 := Lib.hid (HB0.out.alloc HB0.out.size (.cells #[.int .i64 0, .int .i64 0] 116))
          have HN := Lib.hid (Sx.mk' W3 (.int .i64 0) (.int .i64 0) 116)
          have hl3 := HB0.out.size
          refine hK.out _ _ (HC.out _ HB4.out) (fun hHeld => ?_)
          clear hK K
          refine wpAnyH_ready (rs := [14]) (by kernel_rfl) (by simp) ?_
          refine AllReadyH.cons rfl (fun K hK => ?_) AllReadyH.nil
          simp only [List.getElem_toArray, List.getElem_cons_succ, List.getElem_cons_zero]
          go_simp
          refine (hsp _).mono ?_
          rintro e w5 ⟨rfl, hb5⟩
          have HB5 := Lib.hid (HB4.out.trans (hb5.mono HB4.out.size))
          have hn5 := HN.out.next hb5
          obtain ⟨p, hp⟩ : ∃ p, p = W3.heap.size := ⟨_, rfl⟩
          rw [← hp] at hn5
          clear hb5
          go_wp2_with (fail)
          refine hK.out _ _ (HC.out _ HB5.out) (fun hHeld => ?_)
          clear hK K
          rw [← hp]
          have HG0 := Lib.hid hp
          clear hp
          obtain ⟨sl0, ⟨v1, k1⟩, ⟨v2, k2⟩, f1, f2⟩ := hn5
          refine wpAnyH_ready (rs := [16]) (by kernel_rfl) (by simp) ?_
          refine AllReadyH.cons rfl (fun K hK => ?_) AllReadyH.nil
          simp only [List.getElem_toArray, List.getElem_cons_succ, List.getElem_cons_zero]
          go_simp
          obtain ⟨X, hX⟩ : ∃ X, X = (w5.setCell ⟨p, 0, none⟩ (.int .i64 y)).setCell ⟨p, 1, none⟩ (.int .i64 z) := ⟨_, rfl⟩
          have HBX : Hid (Below w.heap.size w X) := by
            have := HG0.out
            rw [hX]
            exact (HB5.out.setCell (p := ⟨p, 0, none⟩) (by show _ ≤ p; omega) _).setCell (p := ⟨p, 1, none⟩) (by show _ ≤ p; omega) _
          have s0 : X.cell? ⟨p, 0, none⟩ = some (.int .i64 y) := by rw [hX]; exact (set_three' k1 k2 _ _).1
          have s1 : X.cell? ⟨p, 1, none⟩ = some (.int .i64 z) := by rw [hX]; exact (set_three' k1 k2 _ _).2
          have sl : p < X.heap.size := by rw [hX]; simpa using sl0
          rw [← hX]
          clear hX HB4 HB5 sl0 k1 k2 f1 f2
          refine hK.out _ _ (HC.out _ HBX.out) (fun hHeld => ?_)
          clear hK K
          refine wpAnyH_done (by kernel_rfl) ?_ _
          clear hHeld hmw
          have hgd := HGD.out X HBX.out
          clear HGD hsp
          obtain ⟨zs, hzs⟩ : ∃ zs, zs = brV B R (y : Int) z := ⟨_, rfl⟩
          obtain ⟨rs, hrs⟩ : ∃ rs, rs = resL B R z q y 3 := ⟨_, rfl⟩
          have HLZ : Hid (zs.length ≤ 64) := by rw [hzs]; exact HLE.out _ _
          have HSX : Hid (sdO B R z q y 3 = (rdO B R z q y && (resO B R z q y 3 && sameB zs rs))) := by rw [hzs, hrs]; rfl
          rw [← hzs] at hgd
          rw [← hrs] at HOT
          clear hzs hrs
          cases hok : rdO B R z q (y : Int) with
          | false =>
            have hN := HNOT.out (by rw [HSX.out, hok, Bool.false_and])
            rw [hok] at hgd
            have HN := Lib.hid hN
            clear hok hN
            go_wp2_with (fail)
            refine hgd.mono ?_
            rintro e w6 ⟨a6, n6, c6, rfl, hp6, hlo6, hb6⟩
            have t0 := (hb6.cell (p := ⟨p, 0, none⟩) sl).trans s0
            have t1 := (hb6.cell (p := ⟨p, 1, none⟩) sl).trans s1
            have HB6 := Lib.hid (HBX.out.trans (hb6.mono HBX.out.size))
            clear hgd hp6 hlo6 hb6 s0 s1
            go_wp2_with (fail)
            refine (HOT.out w6 HB6.out).mono ?_
            rintro e w7 ⟨a7, n7, c7, rfl, hp7, hlo7, hb7⟩
            have HB7 := Lib.hid (HB6.out.trans (hb7.mono HB6.out.size))
            clear hp7 hlo7 hb7 t0 t1
            go_wp2_with (fail)
            go_ret2
            rw [H.out.1, H.out.2, HN.out]
            exact ⟨rfl, HB7.out⟩
          | true =>
            cases hre : resO B R z q y 3 with
            | false =>
              have hN := HNOT.out (by rw [HSX.out, hre, Bool.false_and, Bool.and_false])
              rw [hok] at hgd
              rw [hre] at HOT
              have HN := Lib.hid hN
              clear hok hre hN
              go_wp2_with (fail)
              refine hgd.mono ?_
              rintro e w6 ⟨a6, n6, c6, rfl, hp6, hlo6, hb6⟩
              have t0 := (hb6.cell (p := ⟨p, 0, none⟩) sl).trans s0
              have t1 := (hb6.cell (p := ⟨p, 1, none⟩) sl).trans s1
              have HB6 := Lib.hid (HBX.out.trans (hb6.mono HBX.out.size))
              clear hgd hp6 hlo6 hb6 s0 s1
              go_wp2_with (fail)
              refine (HOT.out w6 HB6.out).mono ?_
              rintro e w7 ⟨a7, n7, c7, rfl, hp7, hlo7, hb7⟩
              have HB7 := Lib.hid (HB6.out.trans (hb7.mono HB6.out.size))
              clear hp7 hlo7 hb7 t0 t1
              go_wp2_with (fail)
              go_ret2
              rw [H.out.1, H.out.2, HN.out]
              exact ⟨rfl, HB7.out⟩
            | true =>
              have HSY : Hid (sdO B R z q y 3 = sameB zs rs) := by show _ = _; rw [HSX.out, hok, hre]; rfl
              rw [hok] at hgd
              rw [hre] at HOT
              clear hok hre
              go_wp2_with (fail)
              refine hgd.mono ?_
              rintro e w6 ⟨a6, n6, c6, rfl, hp6, hlo6, hb6⟩
              have t0 := (hb6.cell (p := ⟨p, 0, none⟩) sl).trans s0
              have t1 := (hb6.cell (p := ⟨p, 1, none⟩) sl).trans s1
              have HB6 := Lib.hid (HBX.out.trans (hb6.mono HBX.out.size))
              have HP6 := Lib.hid hp6
              clear hgd hp6 hlo6 hb6 s0 s1
              go_wp2_with (fail)
              refine (HOT.out w6 HB6.out).mono ?_
              rintro e w7 ⟨a7, n7, c7, rfl, hp7, hlo7, hb7⟩
              have HB7 := Lib.hid (HB6.out.trans (hb7.mono HB6.out.size))
              have hp6' := HP6.out.next hb7
              have hsm := same_any a6 a7 n6 c6 n7 c7 zs rs w7 hp6'.bys hp7.bys (by have := HLZ.out; have := hp6'.len; omega)
              clear hp7 hp6' hlo7 hb7 t0 t1
              cases hsb : sameB zs rs with
              | false =>
                have hN := HNOT.out (by rw [HSY.out, hsb])
                rw [hsb] at hsm
                have HN := Lib.hid hN
                clear hsb hN
                go_wp2_with (go_at_call 15; refine hsm.mono ?_; clear hsm; rintro e8 w8 ⟨rfl, nn, rfl⟩)
                go_ret2
                rw [H.out.1, H.out.2, HN.out]
                exact ⟨rfl, below_drewN HB7.out nn⟩
              | true =>
                have HN : Hid (sdG B R 3 g q (t + 1) = true) := by show _ = _; rw [HSD.out, HSY.out, hsb]
                rw [hsb] at hsm
                clear hsb
                go_wp2_with (go_at_call 15; refine hsm.mono ?_; clear hsm; rintro e8 w8 ⟨rfl, nn, rfl⟩)
                go_roundw
                case rel => exact ⟨t + 1, by omega, by go_num, HN.out, below_drewN HB7.out nn⟩
                case measure => simp [RowKit.intOf]; omega
      · obtain rfl : t = 3 := by omega
        have HL := Lib.hid hsd
        have HB3 := Lib.hid hbw
        clear hsd hbw hlt
        go_wp2_with (fail)
        go_ret2
        rw [H.out.1, H.out.2, HL.out]
        exact ⟨rfl, HB3.out⟩
end

end Go.Proofs.YtciddoeeiamndaaGreat

/-
  The reference's Decode: its payload is new.
-/
namespace Go.Proofs.YtciddoeeiamndaaGreat
open Go.RowKit

set_option maxHeartbeats 1000000 in
theorem refDecN_no (a : Option Addr) (n c : Nat) (x : List Int) (w : World) (hx : Pin w a n c x) (hn : n ≠ 64) :
    Calls Tryz.prog 84 #[.slice a n c] w (DecNew w x) := by
  have ho : Hid (decO x = false) := by show _ = _; simp [decO, hx.len, hn]
  have hi : ((n : Int) != 64) = true := by simp; omega
  clear hx hn
  go_enter Tryz.func84, Tryz.ntmps84
  go_wp2_with (fail)
  exact bodyPost_ret (v := .tuple #[hv 0 0 0, .slice none 0 0, .bool false]) (by simp [results, Tryz.results84, go_sem]) rfl (by
    rw [DecNew, decN, decN, decN, decL, ho.out]
    exact ⟨_, _, _, rfl, Pin.zero _, (fun y hy => by cases hy), ((Below.refl _ _).alloc (Nat.le_refl _) _)⟩)

set_option maxHeartbeats 2000000 in
theorem refDecN_yes (a : Option Addr) (c : Nat) (x : List Int) (w : World) (hx : Pin w a 64 c x) :
    Calls Tryz.prog 84 #[.slice a 64 c] w (DecNew w x) := by
  have ho : Hid (decO x = true) := by show _ = _; simp [decO, hx.len]
  obtain ⟨b, off, rfl, hlt, _⟩ := hx.at (by omega)
  have hcap := hx.cap
  have hmax := hx.max
  have hc8 : ¬ c = 8 := by omega
  have hx1 := (hx.alloc (.cells #[.int .i64 0, .int .i64 0, .int .i64 0] 126 (0, 0))).alloc (.cells #[.int .i64 0, .int .i64 0, .int .i64 0] 126 (0, 0))
  go_enter Tryz.func84, Tryz.ntmps84
  go_wp2_with (fail)
  refine (refGet_yes _ 64 c 0 4 x _ hx1.bys (by omega) (by omega) (by omega) (by omega)).mono ?_
  rintro e w1 ⟨rfl, rfl⟩
  obtain ⟨p, hp⟩ : ∃ p, p = getN x 0 4 := ⟨_, rfl⟩
  rw [← hp]
  have hP := Lib.hid hp
  clear hp
  go_wp2_with (fail)
  refine (refGet_yes _ 64 c 4 2 x _ ((hx.alloc _).alloc _).bys (by omega) (by omega) (by omega) (by omega)).mono ?_
  rintro e w1 ⟨rfl, rfl⟩
  obtain ⟨q, hq⟩ : ∃ p, p = getN x 4 2 := ⟨_, rfl⟩
  rw [← hq]
  have hQ := Lib.hid hq
  clear hq
  go_wp2_with (fail)
  refine (refGet_yes _ 64 c 6 2 x _ ((hx.alloc _).alloc _).bys (by omega) (by omega) (by omega) (by omega)).mono ?_
  rintro e w1 ⟨rfl, rfl⟩
  obtain ⟨r, hr⟩ : ∃ p, p = getN x 6 2 := ⟨_, rfl⟩
  rw [← hr]
  have hR := Lib.hid hr
  clear hr
  go_wp2_with (fail)
  obtain ⟨w2, hw2⟩ : ∃ w2, w2 = (w.alloc (.cells #[.int .i64 0, .int .i64 0, .int .i64 0] 126)).alloc (.cells #[.int .i64 p, .int .i64 q, .int .i64 r] 126) := ⟨_, rfl⟩
  have hd : Hx w2.drew (w.heap.size + 1) p q r := by rw [hw2]; have := Hx.mk' (w.alloc (.cells #[.int .i64 0, .int .i64 0, .int .i64 0] 126)) p q r 126; simpa using this.drew
  have hz : Rc w2.drew w.heap.size := by rw [hw2]; exact ((Rc.mk' w 126).alloc _).drew
  have hx2 : Pin w2.drew (some ⟨b, off, none⟩) 64 c x := by rw [hw2]; exact ((hx.alloc _).alloc _).drewN 1
  have hB2 : Below w.heap.size w w2.drew := by rw [hw2]; exact below_drewN (((Below.refl _ _).alloc (Nat.le_refl _) _).alloc (by simp) _) 1
  rw [← hw2]
  clear hw2 hx hx1
  have hc0 := hd.c0
  have hc1 := hd.c1
  have hc2 := hd.c2
  refine wp_region_held_drew (S := (fun w' => w'.cell? ⟨w.heap.size + 1, 0, none⟩ = some (.int .i64 p) ∧ w'.cell? ⟨w.heap.size + 1, 1, none⟩ = some (.int .i64 q) ∧ w'.cell? ⟨w.heap.size + 1, 2, none⟩ = some (.int .i64 r))) (by kernel_rfl) ?_ (fun hHeld => ?_)
  · exact ⟨hc0, hc1, hc2⟩
  refine wpAnyH_take (i := 0) (v := ?_) rfl (by kernel_rfl) (by kernel_rfl) (by kernel_rfl) (fun _ _ _ h => h) (Or.inl ⟨by rfl, fun w hSw => ?_⟩) (by assumption) ?_
  rotate_left
  · (try dsimp only at hSw); go_simp; try with_reducible rfl
  simp only [Act.put, List.setIfInBounds_toArray, List.set_cons_zero, List.set_cons_succ, List.getElem_toArray, List.getElem_cons_zero]
  refine wpAnyH_take (i := 1) (v := ?_) rfl (by kernel_rfl) (by kernel_rfl) (by kernel_rfl) (fun _ _ _ h => h) (Or.inl ⟨by rfl, fun w hSw => ?_⟩) (by assumption) ?_
  rotate_left
  · (try dsimp only at hSw); go_simp; try with_reducible rfl
  simp only [Act.put, List.setIfInBounds_toArray, List.set_cons_zero, List.set_cons_succ, List.getElem_toArray, List.getElem_cons_succ, List.getElem_cons_zero]
  refine wpAnyH_take (i := 2) (v := ?_) rfl (by kernel_rfl) (by kernel_rfl) (by kernel_rfl) (fun _ _ _ h => h) (Or.inl ⟨by rfl, fun w hSw => ?_⟩) (by assumption) ?_
  rotate_left
  · (try dsimp only at hSw); go_simp; try with_reducible rfl
  simp only [Act.put, List.setIfInBounds_toArray, List.set_cons_zero, List.set_cons_succ, List.getElem_toArray, List.getElem_cons_succ, List.getElem_cons_zero]
  refine wpAnyH_ready (rs := [3]) (by kernel_rfl) (by simp) ?_
  refine AllReadyH.cons rfl (fun K hK => ?_) AllReadyH.nil
  simp only [List.getElem_toArray, List.getElem_cons_succ, List.getElem_cons_zero]
  go_simp
  refine (copy_any _ 56 (c - 8) (x.drop 8) _ (hx2.rest 8).bys (fun h => by cases h) (by omega)).mono ?_
  rintro e w3 ⟨v3, rfl, ho3, hb3⟩
  have hd3 := hd.next hb3
  have hz3 := hz.next hb3
  have hB3 := hB2.trans (hb3.mono hB2.size)
  have hz2lt := hz.lt
  have HBS := Lib.hid hB2.size
  have hxl : (x.drop 8).length = 56 := by rw [List.length_drop, hx2.len]
  have HXL := Lib.hid hxl
  clear hd hz hB2 hb3 hx2 hxl
  obtain ⟨v0, z0⟩ := hz3.c0
  obtain ⟨v1, z1⟩ := hz3.c1
  obtain ⟨v2, z2⟩ := hz3.c2
  have f0 := hz3.f0
  have f1 := hz3.f1
  have f2 := hz3.f2
  go_wp2_with (fail)
  refine hK.out _ _ ⟨hd3.c0, hd3.c1, hd3.c2⟩ (fun hHeld => ?_)
  clear hK K
  refine wpAnyH_ready (rs := [4]) (by kernel_rfl) (by simp) ?_
  refine AllReadyH.cons rfl (fun K hK => ?_) AllReadyH.nil
  simp only [List.getElem_toArray, List.getElem_cons_succ, List.getElem_cons_zero]
  go_simp
  have hd4 : Hx (setH w3 w.heap.size p q r) (w.heap.size + 1) p q r := hd3.setOther (by omega)
  have hr4 : Hx (setH w3 w.heap.size p q r) w.heap.size p q r := hz3.set p q r
  have ho4 : Own (setH w3 w.heap.size p q r) w2.drew.heap.size v3 56 (x.drop 8) := ho3.setH hz2lt
  have hB4 : Below w.heap.size w (setH w3 w.heap.size p q r) := hB3.setH (Nat.le_refl _)
  refine hK.out _ (setH w3 w.heap.size p q r) ⟨hd4.c0, hd4.c1, hd4.c2⟩ (fun hHeld => ?_)
  clear hK K
  obtain ⟨w4, hw4⟩ : ∃ w4, w4 = setH w3 w.heap.size p q r := ⟨_, rfl⟩
  rw [← hw4] at hd4 hr4 ho4 hB4 hHeld ⊢
  clear hw4
  obtain ⟨a4, c4, rfl, hp4, hlo4⟩ := ho4.pin
  have HLO : Hid (∀ y, a4 = some y → w.heap.size ≤ y.block) := fun y hy => Nat.le_trans HBS.out (hlo4 y hy).1
  clear hlo4
  refine wpAnyH_take (i := 5) (v := ?_) rfl (by kernel_rfl) (by kernel_rfl) (by kernel_rfl) (fun _ _ _ h => h) (Or.inl ⟨by rfl, fun w hSw => ?_⟩) (by assumption) ?_
  rotate_left
  · (try dsimp only at hSw); go_simp; try with_reducible rfl
  simp only [Act.put, List.setIfInBounds_toArray, List.set_cons_zero, List.set_cons_succ, List.getElem_toArray, List.getElem_cons_succ, List.getElem_cons_zero]
  refine wpAnyH_take (i := 6) (v := ?_) rfl (by kernel_rfl) (by kernel_rfl) (by kernel_rfl) (fun _ _ _ h => h) (Or.inl ⟨by rfl, fun w hSw => ?_⟩) (by assumption) ?_
  rotate_left
  · (try dsimp only at hSw); go_simp; try with_reducible rfl
  simp only [Act.put, List.setIfInBounds_toArray, List.set_cons_zero, List.set_cons_succ, List.getElem_toArray, List.getElem_cons_succ, List.getElem_cons_zero]
  refine wpAnyH_done (by kernel_rfl) ?_ _
  go_wp2_with (fail)
  have g0 := hr4.c0
  have g1 := hr4.c1
  have g2 := hr4.c2
  exact bodyPost_ret (v := .tuple #[hv p q r, .slice a4 56 c4, .bool true]) (by simp [results, Tryz.results84, go_sem, g0, g1, g2]) rfl (by
    rw [DecNew, decN, decN, decN, decL, ho.out, ← hP.out, ← hQ.out, ← hR.out]
    exact ⟨_, _, _, rfl, hp4, HLO.out, hB4⟩)

theorem refDecN_any (a : Option Addr) (n c : Nat) (x : List Int) (w : World) (hx : Pin w a n c x) : Calls Tryz.prog 84 #[.slice a n c] w (DecNew w x) := by
  by_cases h : n = 64
  · subst h; exact refDecN_yes a c x w hx
  · exact refDecN_no a n c x w hx h

end Go.Proofs.YtciddoeeiamndaaGreat

/-
  The reference's Read, by contract.
-/
namespace Go.Proofs.YtciddoeeiamndaaGreat
open Go.RowKit Go.Maps
set_option linter.unusedVariables false

theorem rblock_no (d r s g k : Int) (w : World) (h : ¬ Bk d r s g k) :
    Calls Tryz.prog 81 #[gv d r s, .int .i64 g, .int .i64 k] w fun e w' => e = .returned (sv 0 0 false) ∧ Below w.heap.size w w' := by
  by_cases hR : Rt d r s
  · by_cases k0 : 0 ≤ k
    · by_cases k1 : k ≤ PL d r
      · exact rblock_off d r s g k w hR (fun hs => h ⟨hs, k0, k1⟩) k0 k1
      · exact rblock_khigh d r s g k w hR (by omega)
    · exact rblock_klow d r s g k w hR (by omega)
  · exact rblock_out d r s g k w hR
theorem rblock_all (B : Bn) (g k : Int) (w : World) :
    Calls Tryz.prog 81 #[gv B.d B.r B.s, .int .i64 g, .int .i64 k] w fun e w' => e = .returned (sv (spD B g k) (spS B g k) (bkO B g k)) ∧ Below w.heap.size w w' := by
  classical
  unfold spD spS bkO
  by_cases h : Bk B.d B.r B.s g k
  · rw [decide_eq_true h, if_pos rfl, if_pos rfl]
    exact rblock_yes B.d B.r B.s g k w h.toSg h.k0 h.k1
  · rw [decide_eq_false h, if_neg (by simp), if_neg (by simp)]
    exact rblock_no B.d B.r B.s g k w h
section
variable {M : Nat → Prop} {L : RLay} {R : Rk} {F : Rf} {w : World} {B : Bn} {b : Nat}
set_option maxRecDepth 100000 in
set_option maxHeartbeats 8000000 in
theorem read_ref (g k q : Int) (hr : RefAt w M L F) (hb : RbAt w b L.p B) (hrel : Rel R F) (hS : Sml B) :
    Calls Tryz.prog 32 #[.pointer (some ⟨b, 0, none⟩), .int .i64 g, .int .i64 k, .int .i64 q] w (RbPost w (rbL B R 3 g k q) (rbE B R 3 g k q)) := by
  obtain ⟨W1, hW1⟩ : ∃ W1, W1 = w.alloc (.cells #[.int .i64 0, .int .i64 0, .slice none 0 0] 65 (0, 0)) := ⟨_, rfl⟩
  obtain ⟨gb, hgb⟩ : ∃ gb, gb = w.heap.size := ⟨_, rfl⟩
  have hB1 : Below w.heap.size w W1 := by rw [hW1]; exact (Below.refl _ _).alloc (Nat.le_refl _) _
  have hx1 : Bb W1 gb := by rw [hW1, hgb]; exact ⟨by simp, ⟨.int .i64 0, by simp⟩, ⟨.int .i64 0, by simp⟩, ⟨.slice none 0 0, by simp⟩, by simp, by simp, by simp⟩
  have HG := Lib.hid hgb
  have hsp := rblock_all B g k W1
  rw [hS.d, hS.r, hS.s] at hsp
  have HR := Lib.hid hr
  have HB := Lib.hid hb
  have HREL := Lib.hid hrel
  have HSM := Lib.hid hS
  have c1 := hb.c1
  have c2 := hb.c2
  have c3 := hb.c3
  rw [hS.d] at c1
  rw [hS.r] at c2
  rw [hS.s] at c3
  have hbl := hb.lt
  have HC : Hid (∀ wr, Below w.heap.size w wr → wr.cell? ⟨b, 0, none⟩ = some (.pointer (some ⟨L.p, 0, none⟩)) ∧ wr.cell? ⟨L.p, 7, none⟩ = some (.bool R.off)) := fun wr h1 =>
    ⟨((hb.next h1).c0), by have := (hr.below h1).c7; rwa [← hrel.off] at this⟩
  have HC1 : Hid (∀ wr, Below w.heap.size w wr → wr.cell? ⟨b, 1, none⟩ = some (.int .i64 3)) := fun wr h1 => (h1.cell (p := ⟨b, 1, none⟩) hbl).trans c1
  have hxl : bkO B g k = true → ∃ x a : Nat, spD B g k = x ∧ x < 3 ∧ a < 3 ∧ Sg 3 3 12 g ∧ spS B g k = 5 + (g * 3 + (a : Int)) ∧ IntKind.i64.wrap (Int.tdiv k 2) = (a : Int) := fun h => by
    obtain ⟨x, hx, hx3⟩ := spD_lt (B := B) (n := 3) (g := g) (k := k) hS.d h
    have hbk := bkO_yes h
    have k0 := hbk.k0
    have k1 := hbk.k1
    have hsg := hbk.toSg
    rw [hS.d, hS.r, hS.s] at hsg
    rw [hS.d, hS.r] at k1
    unfold PL at k1
    have e : Int.tdiv k 2 = k / 2 := Int.tdiv_eq_ediv_of_nonneg k0
    refine ⟨x, (k / 2).toNat, hx, hx3, by omega, hsg, ?_, ?_⟩
    · unfold spS
      rw [if_pos h, hS.d, hS.r]
      have : ((k / 2).toNat : Int) = k / 2 := by omega
      rw [this]
      rfl
    · rw [e, IntWalk.i64_in _ (by omega)]; omega
  obtain ⟨zs, hzs⟩ : ∃ zs, zs = rbL B R 3 g k q := ⟨_, rfl⟩
  obtain ⟨er, her⟩ : ∃ er, er = rbE B R 3 g k q := ⟨_, rfl⟩
  rw [← hzs, ← her]
  unfold rbL at hzs
  unfold rbE at her
  obtain ⟨ok, hok⟩ : ∃ ok, ok = bkO B g k := ⟨_, rfl⟩
  obtain ⟨D, hD⟩ : ∃ x, x = spD B g k := ⟨_, rfl⟩
  obtain ⟨z, hz⟩ : ∃ z, z = spS B g k := ⟨_, rfl⟩
  rw [← hok, ← hD, ← hz] at hxl
  rw [← hok, ← hD, ← hz] at hsp hzs her
  have HXL := Lib.hid hxl
  have HZS := Lib.hid hzs
  have HER := Lib.hid her
  clear hr hb hok hD hz hxl hzs her hrel hS
  go_enter Tryz.func32, Tryz.ntmps32
  go_wp2_with (fail)
  rw [← hW1, ← hgb]
  clear hW1 hgb
  refine hsp.mono ?_
  rintro e w2 ⟨rfl, hb2⟩
  have hB2 := hB1.trans (hb2.mono hB1.size)
  have hx2 := (hx1.next hb2).next ((Below.refl _ _).alloc (Nat.le_refl _) (.cells #[.int .i64 D, .int .i64 z] 116 (0, 0)))
  obtain ⟨W3, hW3⟩ : ∃ W3, W3 = w2.alloc (.cells #[.int .i64 D, .int .i64 z] 116 (0, 0)) := ⟨_, rfl⟩
  obtain ⟨gs, hgs⟩ : ∃ gs, gs = w2.heap.size := ⟨_, rfl⟩
  have hB3 : Below w.heap.size w W3 := by rw [hW3]; exact hB2.alloc hB2.size _
  have s0 : W3.cell? ⟨gs, 0, none⟩ = some (.int .i64 D) := by rw [hW3, hgs]; simp
  have s1 : W3.cell? ⟨gs, 1, none⟩ = some (.int .i64 z) := by rw [hW3, hgs]; simp
  have sl : gs < W3.heap.size := by rw [hW3, hgs]; simp
  rw [← hW3] at hx2
  have HX2 := Lib.hid hx2
  have HB3 := Lib.hid hB3
  obtain ⟨m0, m7⟩ := HC.out W3 hB3
  clear hsp hb2 hB1 hx1 hB2 hx2 hB3 c1 c2 c3 hbl
  cases ok with
  | false =>
    have hc : chkE R false = 28 := rfl
    have eZ : Hid (zs = []) := by show _ = _; rw [HZS.out, hc]; rfl
    have eE : Hid (er = 28) := by show _ = _; rw [HER.out, hc]; rfl
    have HBX := HB3
    have HXX := HX2
    rw [hW3] at HBX HXX
    clear hc m0 m7 s0 s1 sl HB3 HX2 hgs HC HC1
    clear hW3
    obtain ⟨lt, ⟨v0, c0⟩, ⟨v1, c1⟩, ⟨v2, c2⟩, f0, f1, f2⟩ := HXX.out
    go_wp2_with (fail)
    refine bodyPost_ret (v := .tuple #[blV 0 0 none 0 0, .int .i64 28]) ?_ rfl ⟨none, 0, 0, ?_, ?_, ?_⟩
    · obtain ⟨e0, e1, e2⟩ := set_three c0 c1 c2 (.int .i64 0) (.int .i64 0) (.slice none 0 0)
      simp [results, Tryz.results32, go_sem, e0, e1, e2]
    · rw [eZ.out, eE.out]; rfl
    · rw [eZ.out]; exact Pin.zero _
    · have hg := HG.out
      exact ((HBX.out.setCell (p := ⟨gb, 0, none⟩) (by show _ ≤ gb; omega) _).setCell (p := ⟨gb, 1, none⟩) (by show _ ≤ gb; omega) _).setCell (p := ⟨gb, 2, none⟩) (by show _ ≤ gb; omega) _
  | true =>
    obtain ⟨x, a, rfl, hx3, ha3, hsg, hza, hq1⟩ := HXL.out rfl
    cases hoff : R.off with
    | true =>
      rw [hoff] at m7
      have hc : chkE R true = 12 := by unfold chkE; rw [hoff]; rfl
      have eZ : Hid (zs = []) := by show _ = _; rw [HZS.out, hc]; rfl
      have eE : Hid (er = 12) := by show _ = _; rw [HER.out, hc]; rfl
      have HBX := HB3
      have HXX := HX2
      rw [hW3] at HBX HXX m0 m7
      clear hc s0 s1 sl HB3 HX2 hgs HC HC1 hoff hq1 hza
      clear hW3
      obtain ⟨lt, ⟨v0, c0⟩, ⟨v1, c1⟩, ⟨v2, c2⟩, f0, f1, f2⟩ := HXX.out
      go_wp2_with (fail)
      refine bodyPost_ret (v := .tuple #[blV 0 0 none 0 0, .int .i64 12]) ?_ rfl ⟨none, 0, 0, ?_, ?_, ?_⟩
      · obtain ⟨e0, e1, e2⟩ := set_three c0 c1 c2 (.int .i64 0) (.int .i64 0) (.slice none 0 0)
        simp [results, Tryz.results32, go_sem, e0, e1, e2]
      · rw [eZ.out, eE.out]; rfl
      · rw [eZ.out]; exact Pin.zero _
      · have hg := HG.out
        exact ((HBX.out.setCell (p := ⟨gb, 0, none⟩) (by show _ ≤ gb; omega) _).setCell (p := ⟨gb, 1, none⟩) (by show _ ≤ gb; omega) _).setCell (p := ⟨gb, 2, none⟩) (by show _ ≤ gb; omega) _
    | false =>
      rw [hoff] at m7
      have hc : chkE R true = 0 := by unfold chkE; rw [hoff]; rfl
      rw [if_pos hc] at HZS HER
      have HGD : Hid (∀ w', Below w.heap.size w w' → Calls Tryz.prog 82 #[.pointer (some ⟨b, 0, none⟩), spV x z, .int .i64 q] w' (RetN w' (brV B R x z) (rdO B R z q x))) := fun w' h' => good_any (B := B) (x : Int) z q (HR.out.below h') (HB.out.next h') HREL.out
      have HOT : Hid (∀ w', Below w.heap.size w w' → Calls Tryz.prog 83 #[.pointer (some ⟨b, 0, none⟩), .int .i64 g, .int .i64 a, spV x z, .int .i64 q] w' (RetN w' (resL B R z q x 3) (resO B R z q x 3))) := fun w' h' => by
        have := others_any (B := B) g q a x (HR.out.below h') (HB.out.next h') HREL.out HSM.out hsg ha3 hx3
        rw [← hza] at this
        exact this
      have hgd := HGD.out W3 HB3.out
      rw [hW3] at m0 m7
      clear hc hoff hza HGD HC hsg
      cases hro : rdO B R z q (x : Int) with
      | true =>
        have eZ : Hid (zs = brV B R x z) := by show _ = _; rw [HZS.out, if_pos hro]
        have eE : Hid (er = 0) := by show _ = _; rw [HER.out, hro]; rfl
        rw [hro, ← eZ.out] at hgd
        clear hro hq1 HOT HC1
        rw [hW3] at s0 s1
        rw [hgs] at s0 s1
        go_wp2_with (fail)
        rw [← hW3]
        clear hW3 s0 s1 m0 m7
        refine hgd.mono ?_
        rintro e w5 ⟨a5, n5, c5, rfl, hp5, _, hb5⟩
        have HB5 := Lib.hid (HB3.out.trans (hb5.mono HB3.out.size))
        have HX5 := Lib.hid (HX2.out.next hb5)
        have HP5 := Lib.hid hp5
        clear hgd hp5 hb5
        go_wp2_with (fail)
        refine (refDecN_any a5 n5 c5 zs w5 HP5.out).mono ?_
        rintro e w6 ⟨a6, n6, c6, rfl, hp6, hn6, hb6⟩
        have HN6 : Hid (∀ y, a6 = some y → y.block ≠ gb) := fun y hy => by have := hn6 y hy; have := HX5.out.lt; omega
        have HB6 := HB5.out.trans (hb6.mono HB5.out.size)
        have HX6 := HX5.out.next hb6
        have HP6 := Lib.hid hp6
        have HBF := Lib.hid HB6
        obtain ⟨o1, ho1⟩ : ∃ o, o = decN zs 4 2 := ⟨_, rfl⟩
        obtain ⟨o2, ho2⟩ : ∃ o, o = decN zs 6 2 := ⟨_, rfl⟩
        obtain ⟨o0, ho0⟩ : ∃ o, o = decN zs 0 4 := ⟨_, rfl⟩
        rw [← ho1, ← ho2, ← ho0]
        have HO1 := Lib.hid ho1
        have HO2 := Lib.hid ho2
        obtain ⟨lt, ⟨v0, c0⟩, ⟨v1, c1⟩, ⟨v2, c2⟩, f0, f1, f2⟩ := HX6
        clear hp6 hb6 hn6 HB6 ho1 ho2 ho0
        go_wp2_with (fail)
        refine bodyPost_ret (v := .tuple #[blV o1 o2 a6 n6 c6, .int .i64 0]) ?_ rfl ⟨a6, n6, c6, ?_, ?_, ?_⟩
        · obtain ⟨e0, e1, e2⟩ := set_three c0 c1 c2 (.int .i64 o1) (.int .i64 o2) (.slice a6 n6 c6)
          have e0 := cell_alloc_l (.cells #[.int .i64 o0, .int .i64 o1, .int .i64 o2] 126) e0
          have e1 := cell_alloc_l (.cells #[.int .i64 o0, .int .i64 o1, .int .i64 o2] 126) e1
          have e2 := cell_alloc_l (.cells #[.int .i64 o0, .int .i64 o1, .int .i64 o2] 126) e2
          simp [results, Tryz.results32, go_sem, e0, e1, e2]
        · rw [← HO1.out, ← HO2.out, eE.out]
        · exact (((HP6.out.setCell _ (.inr HN6.out)).setCell _ (.inr HN6.out)).setCell _ (.inr HN6.out)).alloc _
        · have hg := HG.out
          exact (((HBF.out.setCell (p := ⟨gb, 0, none⟩) (by show _ ≤ gb; omega) _).setCell (p := ⟨gb, 1, none⟩) (by show _ ≤ gb; omega) _).setCell (p := ⟨gb, 2, none⟩) (by show _ ≤ gb; omega) _).alloc (by simpa using HBF.out.size) _
      | false =>
        have HZ2 : Hid (zs = resL B R z q x 3) := by show _ = _; rw [HZS.out, hro]; rfl
        have HE2 : Hid (er = if resO B R z q x 3 then 0 else 14) := by show _ = _; rw [HER.out, hro]; rfl
        rw [hro] at hgd
        clear hro
        rw [hW3] at s0 s1
        rw [hgs] at s0 s1
        go_wp2_with (fail)
        rw [← hW3]
        rw [← hW3, ← hgs] at s0 s1
        rw [← hgs]
        clear hW3 m0 m7 hgs
        refine hgd.mono ?_
        rintro e w4 ⟨a4, n4, c4, rfl, _, _, hb4⟩
        have t0 := (hb4.cell (p := ⟨gs, 0, none⟩) sl).trans s0
        have t1 := (hb4.cell (p := ⟨gs, 1, none⟩) sl).trans s1
        have tl := Nat.lt_of_lt_of_le sl hb4.size
        have HB4 := Lib.hid (HB3.out.trans (hb4.mono HB3.out.size))
        have HX4 := Lib.hid (HX2.out.next hb4)
        clear hgd hb4 s0 s1 sl HB3 HX2
        go_wp2_with (fail)
        have hb0 : Below w4.heap.size w4 w4.drew := below_drewN (Below.refl _ w4) 1
        have y0 := (hb0.cell (p := ⟨gs, 0, none⟩) tl).trans t0
        have y1 := (hb0.cell (p := ⟨gs, 1, none⟩) tl).trans t1
        have HB0 := Lib.hid (HB4.out.trans (hb0.mono HB4.out.size))
        have HX0 := Lib.hid (HX4.out.next hb0)
        have tl0 : gs < w4.drew.heap.size := tl
        have y2 := HC1.out _ HB0.out
        generalize hW5 : w4.drew = W5 at *
        clear hb0 t0 t1 tl HB4 HX4
        have hw2 : IntKind.i64.wrap 2 = 2 := by decide
        refine wp_region_held_drew (S := fun w' => w'.cell? ⟨gs, 0, none⟩ = some (.int .i64 x) ∧ w'.cell? ⟨gs, 1, none⟩ = some (.int .i64 z) ∧ w'.cell? ⟨b, 1, none⟩ = some (.int .i64 3)) (by kernel_rfl) ?_ (fun hHeld => ?_)
        · rw [hW5]; exact ⟨y0, y1, y2⟩
        rw [hW5] at hHeld
        rw [hW5]
        clear hW5
        refine wpAnyH_take (i := 0) (v := ?_) rfl (by kernel_rfl) (by kernel_rfl) (by kernel_rfl) (fun _ _ _ h => h) (Or.inl ⟨by rfl, fun w hSw => ?_⟩) (by assumption) ?_
        rotate_left
        · (try dsimp only at hSw); go_simp; try with_reducible rfl
        simp only [Act.put, List.setIfInBounds_toArray, List.set_cons_zero, List.set_cons_succ, List.getElem_toArray, List.getElem_cons_zero]
        refine wpAnyH_take (i := 1) (v := ?_) rfl (by kernel_rfl) (by kernel_rfl) (by kernel_rfl) (fun _ _ _ h => h) (Or.inl ⟨by rfl, fun w hSw => ?_⟩) (by assumption) ?_
        rotate_left
        · (try dsimp only at hSw); go_simp; try with_reducible rfl
        simp only [Act.put, List.setIfInBounds_toArray, List.set_cons_zero, List.set_cons_succ, List.getElem_toArray, List.getElem_cons_succ, List.getElem_cons_zero]
        refine wpAnyH_take (i := 2) (v := ?_) rfl (by kernel_rfl) (by kernel_rfl) (by kernel_rfl) (fun _ _ _ h => h) (Or.inl ⟨by rfl, fun w hSw => ?_⟩) (by assumption) ?_
        rotate_left
        · (try dsimp only at hSw); go_simp; try with_reducible rfl
        simp only [Act.put, List.setIfInBounds_toArray, List.set_cons_zero, List.set_cons_succ, List.getElem_toArray, List.getElem_cons_succ, List.getElem_cons_zero]
        refine wpAnyH_take (i := 3) (v := ?_) rfl (by kernel_rfl) (by kernel_rfl) (by kernel_rfl) (fun _ _ _ h => h) (Or.inl ⟨by rfl, fun w hSw => ?_⟩) (by assumption) ?_
        rotate_left
        · (try dsimp only at hSw); go_simp; try with_reducible rfl
        simp only [Act.put, List.setIfInBounds_toArray, List.set_cons_zero, List.set_cons_succ, List.getElem_toArray, List.getElem_cons_succ, List.getElem_cons_zero]
        refine wpAnyH_take (i := 4) (v := ?_) rfl (by kernel_rfl) (by kernel_rfl) (by kernel_rfl) (fun _ _ _ h => h) (Or.inl ⟨by rfl, fun w hSw => ?_⟩) (by assumption) ?_
        rotate_left
        · (try dsimp only at hSw); go_simp; try with_reducible rfl
        simp only [Act.put, List.setIfInBounds_toArray, List.set_cons_zero, List.set_cons_succ, List.getElem_toArray, List.getElem_cons_succ, List.getElem_cons_zero]
        refine wpAnyH_take (i := 5) (v := ?_) rfl (by kernel_rfl) (by kernel_rfl) (by kernel_rfl) (fun _ _ _ h => h) (Or.inl ⟨by rfl, fun w hSw => ?_⟩) (by assumption) ?_
        rotate_left
        · (try dsimp only at hSw); go_simp; try with_reducible rfl
        simp only [Act.put, List.setIfInBounds_toArray, List.set_cons_zero, List.set_cons_succ, List.getElem_toArray, List.getElem_cons_succ, List.getElem_cons_zero]
        refine wpAnyH_take (i := 6) (v := ?_) rfl (by kernel_rfl) (by kernel_rfl) (by kernel_rfl) (fun _ _ _ h => h) (Or.inl ⟨by rfl, fun w hSw => ?_⟩) (by assumption) ?_
        rotate_left
        · (try dsimp only at hSw); go_simp; try with_reducible rfl
        simp only [Act.put, List.setIfInBounds_toArray, List.set_cons_zero, List.set_cons_succ, List.getElem_toArray, List.getElem_cons_succ, List.getElem_cons_zero]
        refine wpAnyH_take (i := 7) (v := ?_) rfl (by kernel_rfl) (by kernel_rfl) (by kernel_rfl) (fun _ _ _ h => h) (Or.inl ⟨by rfl, fun w hSw => ?_⟩) (by assumption) ?_
        rotate_left
        · (try dsimp only at hSw); go_simp; try with_reducible rfl
        simp only [Act.put, List.setIfInBounds_toArray, List.set_cons_zero, List.set_cons_succ, List.getElem_toArray, List.getElem_cons_succ, List.getElem_cons_zero]
        refine wpAnyH_take (i := 8) (v := ?_) rfl (by kernel_rfl) (by kernel_rfl) (by kernel_rfl) (fun _ _ _ h => h) (Or.inl ⟨by rfl, fun w hSw => ?_⟩) (by assumption) ?_
        rotate_left
        · (try dsimp only at hSw); go_simp; try with_reducible rfl
        simp only [Act.put, List.setIfInBounds_toArray, List.set_cons_zero, List.set_cons_succ, List.getElem_toArray, List.getElem_cons_succ, List.getElem_cons_zero]
        refine wpAnyH_take (i := 9) (v := ?_) rfl (by kernel_rfl) (by kernel_rfl) (by kernel_rfl) (fun _ _ _ h => h) (Or.inl ⟨by rfl, fun w hSw => ?_⟩) (by assumption) ?_
        rotate_left
        · (try dsimp only at hSw); go_simp; try with_reducible rfl
        simp only [Act.put, List.setIfInBounds_toArray, List.set_cons_zero, List.set_cons_succ, List.getElem_toArray, List.getElem_cons_succ, List.getElem_cons_zero]
        refine wpAnyH_take (i := 10) (v := ?_) rfl (by kernel_rfl) (by kernel_rfl) (by kernel_rfl) (fun _ _ _ h => h) (Or.inl ⟨by rfl, fun w hSw => ?_⟩) (by assumption) ?_
        rotate_left
        · (try dsimp only at hSw); go_simp; try with_reducible rfl
        simp only [Act.put, List.setIfInBounds_toArray, List.set_cons_zero, List.set_cons_succ, List.getElem_toArray, List.getElem_cons_succ, List.getElem_cons_zero]
        refine wpAnyH_take (i := 11) (v := ?_) rfl (by kernel_rfl) (by kernel_rfl) (by kernel_rfl) (fun _ _ _ h => h) (Or.inl ⟨by rfl, fun w hSw => ?_⟩) (by assumption) ?_
        rotate_left
        · (try dsimp only at hSw); go_simp; try with_reducible rfl
        simp only [Act.put, List.setIfInBounds_toArray, List.set_cons_zero, List.set_cons_succ, List.getElem_toArray, List.getElem_cons_succ, List.getElem_cons_zero]
        refine wpAnyH_ready (rs := [12]) (by kernel_rfl) (by simp) ?_
        refine AllReadyH.cons rfl (fun K hK => ?_) AllReadyH.nil
        simp only [List.getElem_toArray, List.getElem_cons_succ, List.getElem_cons_zero]
        go_simp
        have hot := HOT.out W5 HB0.out
        cases hre : resO B R z q x 3 with
        | true =>
          have eE : Hid (er = 0) := by show _ = _; rw [HE2.out, hre]; rfl
          rw [hre, ← HZ2.out] at hot
          refine hot.mono ?_
          clear hre HOT
          rintro e w5 ⟨a5, n5, c5, rfl, hp5, _, hb5⟩
          have HB5 := Lib.hid (HB0.out.trans (hb5.mono HB0.out.size))
          have HX5 := Lib.hid (HX0.out.next hb5)
          have HP5 := Lib.hid hp5
          have u0 := (hb5.cell (p := ⟨gs, 0, none⟩) tl0).trans y0
          have u1 := (hb5.cell (p := ⟨gs, 1, none⟩) tl0).trans y1
          have u2 := HC1.out _ HB5.out
          clear hot hp5 hb5
          go_wp2_with (fail)
          refine hK.out _ _ ⟨u0, u1, u2⟩ (fun hHeld => ?_)
          clear hK K y0 y1 y2 u0 u1 u2 tl0 hq1 HC1
          refine wpAnyH_take (i := 13) (v := ?_) rfl (by kernel_rfl) (by kernel_rfl) (by kernel_rfl) (fun _ _ _ h => h) (Or.inl ⟨by rfl, fun w hSw => ?_⟩) (by assumption) ?_
          rotate_left
          · (try dsimp only at hSw); go_simp; try with_reducible rfl
          simp only [Act.put, List.setIfInBounds_toArray, List.set_cons_zero, List.set_cons_succ, List.getElem_toArray, List.getElem_cons_succ, List.getElem_cons_zero]
          refine wpAnyH_take (i := 14) (v := ?_) rfl (by kernel_rfl) (by kernel_rfl) (by kernel_rfl) (fun _ _ _ h => h) (Or.inl ⟨by rfl, fun w hSw => ?_⟩) (by assumption) ?_
          rotate_left
          · (try dsimp only at hSw); go_simp; try with_reducible rfl
          simp only [Act.put, List.setIfInBounds_toArray, List.set_cons_zero, List.set_cons_succ, List.getElem_toArray, List.getElem_cons_succ, List.getElem_cons_zero]
          refine wpAnyH_take (i := 15) (v := ?_) rfl (by kernel_rfl) (by kernel_rfl) (by kernel_rfl) (fun _ _ _ h => h) (Or.inl ⟨by rfl, fun w hSw => ?_⟩) (by assumption) ?_
          rotate_left
          · (try dsimp only at hSw); go_simp; try with_reducible rfl
          simp only [Act.put, List.setIfInBounds_toArray, List.set_cons_zero, List.set_cons_succ, List.getElem_toArray, List.getElem_cons_succ, List.getElem_cons_zero]
          refine wpAnyH_take (i := 16) (v := ?_) rfl (by kernel_rfl) (by kernel_rfl) (by kernel_rfl) (fun _ _ _ h => h) (Or.inl ⟨by rfl, fun w hSw => ?_⟩) (by assumption) ?_
          rotate_left
          · (try dsimp only at hSw); go_simp; try with_reducible rfl
          simp only [Act.put, List.setIfInBounds_toArray, List.set_cons_zero, List.set_cons_succ, List.getElem_toArray, List.getElem_cons_succ, List.getElem_cons_zero]
          refine wpAnyH_take (i := 17) (v := ?_) rfl (by kernel_rfl) (by kernel_rfl) (by kernel_rfl) (fun _ _ _ h => h) (Or.inl ⟨by rfl, fun w hSw => ?_⟩) (by assumption) ?_
          rotate_left
          · (try dsimp only at hSw); go_simp; try with_reducible rfl
          simp only [Act.put, List.setIfInBounds_toArray, List.set_cons_zero, List.set_cons_succ, List.getElem_toArray, List.getElem_cons_succ, List.getElem_cons_zero]
          refine wpAnyH_done (by kernel_rfl) ?_ _
          clear hHeld
          go_wp2_with (fail)
          refine (refDecN_any a5 n5 c5 zs w5 HP5.out).mono ?_
          rintro e w6 ⟨a6, n6, c6, rfl, hp6, hn6, hb6⟩
          have HN6 : Hid (∀ y, a6 = some y → y.block ≠ gb) := fun y hy => by have := hn6 y hy; have := HX5.out.lt; omega
          have HB6 := HB5.out.trans (hb6.mono HB5.out.size)
          have HX6 := HX5.out.next hb6
          have HP6 := Lib.hid hp6
          have HBF := Lib.hid HB6
          obtain ⟨o1, ho1⟩ : ∃ o, o = decN zs 4 2 := ⟨_, rfl⟩
          obtain ⟨o2, ho2⟩ : ∃ o, o = decN zs 6 2 := ⟨_, rfl⟩
          obtain ⟨o0, ho0⟩ : ∃ o, o = decN zs 0 4 := ⟨_, rfl⟩
          rw [← ho1, ← ho2, ← ho0]
          have HO1 := Lib.hid ho1
          have HO2 := Lib.hid ho2
          obtain ⟨lt, ⟨v0, c0⟩, ⟨v1, c1⟩, ⟨v2, c2⟩, f0, f1, f2⟩ := HX6
          clear hp6 hb6 hn6 HB6 ho1 ho2 ho0
          go_wp2_with (fail)
          refine bodyPost_ret (v := .tuple #[blV o1 o2 a6 n6 c6, .int .i64 0]) ?_ rfl ⟨a6, n6, c6, ?_, ?_, ?_⟩
          · obtain ⟨e0, e1, e2⟩ := set_three c0 c1 c2 (.int .i64 o1) (.int .i64 o2) (.slice a6 n6 c6)
            have e0 := cell_alloc_l (.cells #[.int .i64 o0, .int .i64 o1, .int .i64 o2] 126) e0
            have e1 := cell_alloc_l (.cells #[.int .i64 o0, .int .i64 o1, .int .i64 o2] 126) e1
            have e2 := cell_alloc_l (.cells #[.int .i64 o0, .int .i64 o1, .int .i64 o2] 126) e2
            simp [results, Tryz.results32, go_sem, e0, e1, e2]
          · rw [← HO1.out, ← HO2.out, eE.out]
          · exact (((HP6.out.setCell _ (.inr HN6.out)).setCell _ (.inr HN6.out)).setCell _ (.inr HN6.out)).alloc _
          · have hg := HG.out
            exact (((HBF.out.setCell (p := ⟨gb, 0, none⟩) (by show _ ≤ gb; omega) _).setCell (p := ⟨gb, 1, none⟩) (by show _ ≤ gb; omega) _).setCell (p := ⟨gb, 2, none⟩) (by show _ ≤ gb; omega) _).alloc (by simpa using HBF.out.size) _
        | false =>
          have eZ : Hid (zs = []) := by show _ = _; rw [HZ2.out, resL, hre]; rfl
          have eE : Hid (er = 14) := by show _ = _; rw [HE2.out, hre]; rfl
          rw [hre] at hot
          refine hot.mono ?_
          clear hre HOT
          rintro e w5 ⟨a5, n5, c5, rfl, hp5, _, hb5⟩
          have HBX := Lib.hid (HB0.out.trans (hb5.mono HB0.out.size))
          have HXX := Lib.hid (HX0.out.next hb5)
          have u0 := (hb5.cell (p := ⟨gs, 0, none⟩) tl0).trans y0
          have u1 := (hb5.cell (p := ⟨gs, 1, none⟩) tl0).trans y1
          have u2 := HC1.out _ HBX.out
          clear hot hp5 hb5
          go_wp2_with (fail)
          refine hK.out _ _ ⟨u0, u1, u2⟩ (fun hHeld => ?_)
          clear hK K y0 y1 y2 u0 u1 u2 tl0 hq1 HC1
          refine wpAnyH_take (i := 13) (v := ?_) rfl (by kernel_rfl) (by kernel_rfl) (by kernel_rfl) (fun _ _ _ h => h) (Or.inl ⟨by rfl, fun w hSw => ?_⟩) (by assumption) ?_
          rotate_left
          · (try dsimp only at hSw); go_simp; try with_reducible rfl
          simp only [Act.put, List.setIfInBounds_toArray, List.set_cons_zero, List.set_cons_succ, List.getElem_toArray, List.getElem_cons_succ, List.getElem_cons_zero]
          refine wpAnyH_take (i := 14) (v := ?_) rfl (by kernel_rfl) (by kernel_rfl) (by kernel_rfl) (fun _ _ _ h => h) (Or.inl ⟨by rfl, fun w hSw => ?_⟩) (by assumption) ?_
          rotate_left
          · (try dsimp only at hSw); go_simp; try with_reducible rfl
          simp only [Act.put, List.setIfInBounds_toArray, List.set_cons_zero, List.set_cons_succ, List.getElem_toArray, List.getElem_cons_succ, List.getElem_cons_zero]
          refine wpAnyH_take (i := 15) (v := ?_) rfl (by kernel_rfl) (by kernel_rfl) (by kernel_rfl) (fun _ _ _ h => h) (Or.inl ⟨by rfl, fun w hSw => ?_⟩) (by assumption) ?_
          rotate_left
          · (try dsimp only at hSw); go_simp; try with_reducible rfl
          simp only [Act.put, List.setIfInBounds_toArray, List.set_cons_zero, List.set_cons_succ, List.getElem_toArray, List.getElem_cons_succ, List.getElem_cons_zero]
          refine wpAnyH_take (i := 16) (v := ?_) rfl (by kernel_rfl) (by kernel_rfl) (by kernel_rfl) (fun _ _ _ h => h) (Or.inl ⟨by rfl, fun w hSw => ?_⟩) (by assumption) ?_
          rotate_left
          · (try dsimp only at hSw); go_simp; try with_reducible rfl
          simp only [Act.put, List.setIfInBounds_toArray, List.set_cons_zero, List.set_cons_succ, List.getElem_toArray, List.getElem_cons_succ, List.getElem_cons_zero]
          refine wpAnyH_take (i := 17) (v := ?_) rfl (by kernel_rfl) (by kernel_rfl) (by kernel_rfl) (fun _ _ _ h => h) (Or.inl ⟨by rfl, fun w hSw => ?_⟩) (by assumption) ?_
          rotate_left
          · (try dsimp only at hSw); go_simp; try with_reducible rfl
          simp only [Act.put, List.setIfInBounds_toArray, List.set_cons_zero, List.set_cons_succ, List.getElem_toArray, List.getElem_cons_succ, List.getElem_cons_zero]
          refine wpAnyH_done (by kernel_rfl) ?_ _
          clear hHeld
          obtain ⟨lt, ⟨v0, c0⟩, ⟨v1, c1⟩, ⟨v2, c2⟩, f0, f1, f2⟩ := HXX.out
          go_wp2_with (fail)
          refine bodyPost_ret (v := .tuple #[blV 0 0 none 0 0, .int .i64 14]) ?_ rfl ⟨none, 0, 0, ?_, ?_, ?_⟩
          · obtain ⟨e0, e1, e2⟩ := set_three c0 c1 c2 (.int .i64 0) (.int .i64 0) (.slice none 0 0)
            simp [results, Tryz.results32, go_sem, e0, e1, e2]
          · rw [eZ.out, eE.out]; rfl
          · rw [eZ.out]; exact Pin.zero _
          · have hg := HG.out
            exact ((HBX.out.setCell (p := ⟨gb, 0, none⟩) (by show _ ≤ gb; omega) _).setCell (p := ⟨gb, 1, none⟩) (by show _ ≤ gb; omega) _).setCell (p := ⟨gb, 2, none⟩) (by show _ ≤ gb; omega) _
end

end Go.Proofs.YtciddoeeiamndaaGreat
