/-
  The reference's Refill, by contract.
-/
import Derived.Test.YtciddoeeiamndaaGreatQh
import Derived.Test.YtciddoeeiamndaaGreatSc
namespace Go.Proofs.YtciddoeeiamndaaGreat
open Go.RowKit Go.Maps
set_option linter.unusedVariables false

/-- What a call of the reference leaves, beside the program's rack R'. -/
def RqPost (M : Nat → Prop) (L : RLay) (R' : Rk) (w : World) (v : Value) (e : Ending) (w' : World) : Prop := ∃ F', RefPost M L F' w v e w' ∧ Rel R' F'
theorem rfG_step {B : Bn} {R R1 : Rk} {g q z : Int} {x t : Nat} (hS : Sml B) (h : rfG B R 3 g q x t = (none, R1)) (hz : z = 5 + (g * 3 + (t : Int))) :
    (rdO B R1 z q x = true → rfG B R 3 g q x (t + 1) = (none, R1)) ∧ (rdO B R1 z q x = false → resO B R1 z q x 3 = false → rfG B R 3 g q x (t + 1) = (some 14, R1)) ∧
    (rdO B R1 z q x = false → resO B R1 z q x 3 = true → rfG B R 3 g q x (t + 1) = (if bwE B R1 x z (resL B R1 z q x 3) = 0 then none else some (bwE B R1 x z (resL B R1 z q x 3)), bw B R1 x z (resL B R1 z q x 3))) := by
  have hz' : 5 + (g * B.r + (t : Int)) = z := by rw [hS.r, hz]
  refine ⟨fun h1 => ?_, fun h1 h2 => ?_, fun h1 h2 => ?_⟩
  · rw [rfG_skip (by rw [h, hz']; exact h1), h]
  · rw [rfG_no (by rw [h]) (by rw [h, hz']; exact h1) (by rw [h, hz']; exact h2), h]
  · rw [rfG_go (by rw [h]) (by rw [h, hz']; exact h1) (by rw [h, hz']; exact h2), h, hz']
section
variable {M : Nat → Prop} {L : RLay} {R : Rk} {F : Rf} {w : World} {B : Bn} {b : Nat}
/-- Between two rounds of Refill. -/
structure RfI (w : World) (M : Nat → Prop) (L : RLay) (R : Rk) (B : Bn) (b p : Nat) (g q : Int) (x t : Nat) (R1 : Rk) (F1 : Rf) (X : World) : Prop where
  st : rfG B R 3 g q x t = (none, R1)
  rf : RefAt X M L F1
  rl : Rel R1 F1
  rb : RbAt X b L.p B
  tn : Turn L.M w X
  sp : SpAt X w.heap.size p 3 (fun _ => (x : Int)) (fun t => 5 + (g * 3 + (t : Int)))
set_option maxRecDepth 100000 in
set_option maxHeartbeats 8000000 in
theorem refill_ref (g i q : Int) (hr : RefAt w M L F) (hb : RbAt w b L.p B) (hbM : ¬ L.M b) (hrel : Rel R F) (hS : Sml B) :
    Calls Tryz.prog 37 #[.pointer (some ⟨b, 0, none⟩), .int .i64 g, .int .i64 i, .int .i64 q] w (RqPost M L (rfR B R 3 3 g q i) w (.int .i64 (rfE B R 3 3 g q i))) := by
  have hms := missing_any g i q hr hb hrel hS
  have HR := Lib.hid hr
  have HB := Lib.hid hb
  have HBM := Lib.hid hbM
  have HREL := Lib.hid hrel
  have HSM := Lib.hid hS
  obtain ⟨c, hc⟩ : ∃ c, c = chkE R (thO B g i) := ⟨_, rfl⟩
  obtain ⟨mv, hmv⟩ : ∃ m, m = misV B R 3 g q i := ⟨_, rfl⟩
  rw [← hc, ← hmv] at hms
  have HC0 := Lib.hid hc
  have hc3 : Hid (∀ wr, Below w.heap.size w wr → wr.cell? ⟨b, 1, none⟩ = some (.int .i64 3) ∧ wr.cell? ⟨b, 2, none⟩ = some (.int .i64 3) ∧ wr.cell? ⟨b, 3, none⟩ = some (.int .i64 12)) := fun wr h1 => by
    have h2 := hb.next h1
    have c1 := h2.c1
    have c2 := h2.c2
    have c3 := h2.c3
    rw [hS.d] at c1
    rw [hS.r] at c2
    rw [hS.s] at c3
    exact ⟨c1, c2, c3⟩
  by_cases h0 : c = 0
  · subst h0
    have hth : thO B g i = true := chk_zero hc
    obtain ⟨hsg, i0, i3⟩ := thO_yes hth
    rw [hS.d] at i3
    rw [hS.d, hS.r, hS.s] at hsg
    obtain ⟨x, rfl⟩ := Int.eq_ofNat_of_zero_le i0
    have hx3 : x < 3 := by omega
    have HE : Hid (rfE B R 3 3 g q x = (rfG B R 3 g q x 3).1.getD 0 ∧ rfR B R 3 3 g q x = (rfG B R 3 g q x 3).2) := by
      unfold rfE rfR
      rw [← hc]
      exact ⟨rfl, rfl⟩
    have HSG := Lib.hid hsg
    have HX3 := Lib.hid hx3
    clear hr hb hbM hrel hS hc hth hsg i0 i3 hmv hx3
    go_enter Tryz.func37, Tryz.ntmps37
    go_wp2_with (fail)
    refine hms.mono ?_
    rintro e w1 ⟨rfl, hb1⟩
    obtain ⟨c1, c2, c3⟩ := hc3.out w1 hb1
    have HB1 := Lib.hid hb1
    clear hms hb1
    go_wp2_with (fail)
    refine (in_any g x w1 HSG.out HX3.out).mono ?_
    rintro e w2 ⟨p, cc, rfl, hsp, h3, hcm, hb2⟩
    have HBW := Lib.hid (HB1.out.trans (hb2.mono HB1.out.size))
    have HI0 : Hid (RfI w M L R B b p g q x 0 R F w2) := ⟨rfl, HR.out.below HBW.out, HREL.out, HB.out.next HBW.out, Turn.of_below HBW.out, ⟨Nat.le_trans HB1.out.size hsp.lo, hsp.lt, hsp.cell⟩⟩
    clear hsp hb2 c1 c2 c3 hc3
    go_wp2_with (fail)
    go_loopw [12, 13, 14, 15, 16] (fun v _p _q _r _s wr => ∃ (t : Nat) (R1 : Rk) (F1 : Rf), t ≤ 3 ∧ v = .int .i64 t ∧ RfI w M L R B b p g q x t R1 F1 wr) (fun v _ _ _ _ _ => 3 - (RowKit.intOf v).toNat)
    case atStart => exact ⟨0, _, _, by omega, rfl, HI0.out⟩
    case round =>
      obtain ⟨t, R1, F1, ht, rfl, hI⟩ := hrel
      clear HI0 HBW
      by_cases hlt : t < 3
      · obtain ⟨k0, k1⟩ := hI.sp.cell t hlt
        obtain ⟨z, hz⟩ : ∃ z, z = 5 + (g * 3 + (t : Int)) := ⟨_, rfl⟩
        rw [← hz] at k1
        rw [Nat.mul_comm] at k0 k1
        obtain ⟨s1, s2, s3⟩ := rfG_step HSM.out hI.st hz
        have hgd := good_any (B := B) (x : Int) z q hI.rf hI.rb hI.rl
        have hpl := hI.sp.lt
        have HI := Lib.hid hI
        have HOT : Hid (∀ w', Below wr.heap.size wr w' → Calls Tryz.prog 83 #[.pointer (some ⟨b, 0, none⟩), .int .i64 g, .int .i64 t, spV x z, .int .i64 q] w' (RetN w' (resL B R1 z q x 3) (resO B R1 z q x 3))) := fun w' h' => by
          have := others_any (B := B) g q t x (hI.rf.below h') (hI.rb.next h') hI.rl HSM.out HSG.out hlt HX3.out
          rw [← hz] at this
          exact this
        have hlow : Hid (∀ k, L.M k → k < w.heap.size) := fun k hk => HR.out.low k (HR.out.sub k hk)
        have HNX : Hid (∀ (w' : World), Below wr.heap.size wr w' → w'.cell? ⟨p, t * 2, none⟩ = some (.int .i64 x) ∧ w'.cell? ⟨p, t * 2 + 1, none⟩ = some (.int .i64 z)) := fun w' h' => ⟨(h'.cell (p := ⟨p, t * 2, none⟩) hpl).trans k0, (h'.cell (p := ⟨p, t * 2 + 1, none⟩) hpl).trans k1⟩
        clear hz hI
        cases hok : rdO B R1 z q (x : Int) with
        | true =>
          have S1 := Lib.hid (s1 hok)
          rw [hok] at hgd
          clear hok s1 s2 s3
          go_wp2_with (fail)
          refine hgd.mono ?_
          rintro e w3 ⟨a3, n3, c3, rfl, _, _, hb3⟩
          have HI3 : Hid (RfI w M L R B b p g q x (t + 1) R1 F1 w3) := ⟨S1.out, HI.out.rf.below hb3, HI.out.rl, HI.out.rb.next hb3, HI.out.tn.trans (Turn.of_below hb3), HI.out.sp.next hb3⟩
          clear hgd hb3 k0 k1
          go_wp2_with (fail)
          go_roundw
          case rel => exact ⟨t + 1, R1, F1, by omega, by go_num, HI3.out⟩
          case measure => simp [RowKit.intOf]; omega
        | false =>
          have S2 := fun h => Lib.hid (s2 hok h)
          have S3 := fun h => Lib.hid (s3 hok h)
          rw [hok] at hgd
          clear hok s1 s2 s3
          go_wp2_with (fail)
          refine hgd.mono ?_
          rintro e w3 ⟨a3, n3, c3, rfl, _, _, hb3⟩
          obtain ⟨k0', k1'⟩ := HNX.out w3 hb3
          have HB3 := Lib.hid hb3
          have hot := HOT.out w3 hb3
          clear hgd hb3 k0 k1
          cases hre : resO B R1 z q x 3 with
          | false =>
            have S := S2 hre
            rw [hre] at hot
            clear hre S2 S3
            go_wp2_with (fail)
            refine hot.mono ?_
            rintro e w4 ⟨a4, n4, c4, rfl, _, _, hb4⟩
            have HB4 := Lib.hid (HB3.out.trans (hb4.mono HB3.out.size))
            clear hot hb4 k0' k1'
            go_wp2_with (fail)
            go_ret
            have hE : rfG B R 3 g q x 3 = (some 14, R1) := by rw [rfG_end (a := t + 1) hlt (by rw [S.out]; rfl), S.out]
            rw [HE.out.1, HE.out.2, hE]
            exact ⟨F1, ⟨rfl, HI.out.rf.below HB4.out, HI.out.tn.trans (Turn.of_below HB4.out)⟩, HI.out.rl⟩
          | true =>
            have S := S3 hre
            rw [hre] at hot
            clear hre S2 S3
            go_wp2_with (fail)
            refine hot.mono ?_
            rintro e w4 ⟨a4, n4, c4, rfl, hp4, hlo4, hb4⟩
            obtain ⟨zs, hzs⟩ : ∃ zs, zs = resL B R1 z q x 3 := ⟨_, rfl⟩
            rw [← hzs] at hp4 S
            have HB4 := Lib.hid (HB3.out.trans (hb4.mono HB3.out.size))
            have hsz4 := hb4.size
            have hb0 : Below w4.heap.size w4 w4.drew := below_drewN (Below.refl _ w4) 1
            have HB5 := Lib.hid (HB4.out.trans (hb0.mono HB4.out.size))
            have hp5 := hp4.next hb0
            have hwl := HI.out.tn.size
            have hzM : n4 = 0 ∨ ∀ bb off, a4 = some ⟨bb, off, none⟩ → ¬ M bb := .inr fun bb off e x => by
              have h1 := hlo4 _ e
              have h2 := HI.out.rf.low bb x
              have h3 := HB3.out.size
              simp only at h1
              omega
            have hwrt := rbwrite_any (x : Int) z a4 n4 c4 zs (HI.out.rf.below HB5.out) (HI.out.rb.next HB5.out) HBM.out hp5.bys hzM
            rw [← HI.out.rl.bwE] at hwrt
            obtain ⟨er, her⟩ : ∃ e, e = bwE B R1 x z zs := ⟨_, rfl⟩
            rw [← her] at hwrt S
            obtain ⟨y0, y1⟩ := HNX.out _ HB5.out
            have HRL2 := Lib.hid (HI.out.rl.bw B x z zs)
            have HTM : Hid (∀ (w' : World), Turn L.M w4.drew w' → w'.cell? ⟨p, t * 2, none⟩ = some (.int .i64 x) ∧ w'.cell? ⟨p, t * 2 + 1, none⟩ = some (.int .i64 z) ∧ RbAt w' b L.p B ∧ Turn L.M w w' ∧ SpAt w' w.heap.size p 3 (fun _ => (x : Int)) (fun t => 5 + (g * 3 + (t : Int)))) := fun w' h' => by
              have hs5 := HI.out.sp.next HB5.out
              have hnp : ¬ L.M p := fun xx => by have := hlow.out p xx; have := hs5.lo; omega
              have hs6 := hs5.turn h' hnp
              have hlt5 : p < w4.drew.heap.size := hs5.lt
              exact ⟨(h'.cell (a := ⟨p, t * 2, none⟩) hlt5 hnp).trans y0, (h'.cell (a := ⟨p, t * 2 + 1, none⟩) hlt5 hnp).trans y1, (HI.out.rb.next HB5.out).turn h' HBM.out, (HI.out.tn.trans (Turn.of_below HB5.out)).trans h', hs6⟩
            clear hot hb4 k0' k1' hp4 hp5 hb0 hlo4 hzM hzs her hsz4 hwl
            go_wp2_with (fail)
            generalize hW5 : w4.drew = W5 at *
            refine wp_region_held_drew (S := fun w' => w'.cell? ⟨p, t * 2, none⟩ = some (.int .i64 x) ∧ w'.cell? ⟨p, t * 2 + 1, none⟩ = some (.int .i64 z)) (by kernel_rfl) ?_ (fun hHeld => ?_)
            · rw [hW5]; exact ⟨y0, y1⟩
            rw [hW5] at hHeld
            rw [hW5]
            clear hW5
            refine wpAnyH_take (i := 0) (v := ?_) rfl (by kernel_rfl) (by kernel_rfl) (by kernel_rfl) (fun _ _ _ h => h) (Or.inl ⟨by rfl, fun w hSw => ?_⟩) (by assumption) ?_
            rotate_left
            · (try dsimp only at hSw); go_simp; try with_reducible rfl
            simp only [Act.put, List.setIfInBounds_toArray, List.set_cons_zero, List.set_cons_succ, List.getElem_toArray, List.getElem_cons_zero]
            refine wpAnyH_take (i := 1) (v := ?_) rfl (by kernel_rfl) (by kernel_rfl) (by kernel_rfl) (fun _ _ _ h => h) (Or.inl ⟨by rfl, fun w hSw => ?_⟩) (by assumption) ?_
            rotate_left
            · (try dsimp only at hSw); go_simp; try with_reducible rfl
            simp only [Act.put, List.setIfInBounds_toArray, List.set_cons_zero, List.set_cons_succ, List.getElem_toArray, List.getElem_cons_succ, List.getElem_cons_zero]
            refine wpAnyH_take (i := 2) (v := ?_) rfl (by kernel_rfl) (by kernel_rfl) (by kernel_rfl) (fun _ _ _ h => h) (Or.inl ⟨by rfl, fun w hSw => ?_⟩) (by assumption) ?_
            rotate_left
            · (try dsimp only at hSw); go_simp; try with_reducible rfl
            simp only [Act.put, List.setIfInBounds_toArray, List.set_cons_zero, List.set_cons_succ, List.getElem_toArray, List.getElem_cons_succ, List.getElem_cons_zero]
            refine wpAnyH_take (i := 3) (v := ?_) rfl (by kernel_rfl) (by kernel_rfl) (by kernel_rfl) (fun _ _ _ h => h) (Or.inl ⟨by rfl, fun w hSw => ?_⟩) (by assumption) ?_
            rotate_left
            · (try dsimp only at hSw); go_simp; try with_reducible rfl
            simp only [Act.put, List.setIfInBounds_toArray, List.set_cons_zero, List.set_cons_succ, List.getElem_toArray, List.getElem_cons_succ, List.getElem_cons_zero]
            refine wpAnyH_take (i := 4) (v := ?_) rfl (by kernel_rfl) (by kernel_rfl) (by kernel_rfl) (fun _ _ _ h => h) (Or.inl ⟨by rfl, fun w hSw => ?_⟩) (by assumption) ?_
            rotate_left
            · (try dsimp only at hSw); go_simp; try with_reducible rfl
            simp only [Act.put, List.setIfInBounds_toArray, List.set_cons_zero, List.set_cons_succ, List.getElem_toArray, List.getElem_cons_succ, List.getElem_cons_zero]
            refine wpAnyH_take (i := 5) (v := ?_) rfl (by kernel_rfl) (by kernel_rfl) (by kernel_rfl) (fun _ _ _ h => h) (Or.inl ⟨by rfl, fun w hSw => ?_⟩) (by assumption) ?_
            rotate_left
            · (try dsimp only at hSw); go_simp; try with_reducible rfl
            simp only [Act.put, List.setIfInBounds_toArray, List.set_cons_zero, List.set_cons_succ, List.getElem_toArray, List.getElem_cons_succ, List.getElem_cons_zero]
            refine wpAnyH_take (i := 6) (v := ?_) rfl (by kernel_rfl) (by kernel_rfl) (by kernel_rfl) (fun _ _ _ h => h) (Or.inl ⟨by rfl, fun w hSw => ?_⟩) (by assumption) ?_
            rotate_left
            · (try dsimp only at hSw); go_simp; try with_reducible rfl
            simp only [Act.put, List.setIfInBounds_toArray, List.set_cons_zero, List.set_cons_succ, List.getElem_toArray, List.getElem_cons_succ, List.getElem_cons_zero]
            refine wpAnyH_take (i := 7) (v := ?_) rfl (by kernel_rfl) (by kernel_rfl) (by kernel_rfl) (fun _ _ _ h => h) (Or.inl ⟨by rfl, fun w hSw => ?_⟩) (by assumption) ?_
            rotate_left
            · (try dsimp only at hSw); go_simp; try with_reducible rfl
            simp only [Act.put, List.setIfInBounds_toArray, List.set_cons_zero, List.set_cons_succ, List.getElem_toArray, List.getElem_cons_succ, List.getElem_cons_zero]
            refine wpAnyH_take (i := 8) (v := ?_) rfl (by kernel_rfl) (by kernel_rfl) (by kernel_rfl) (fun _ _ _ h => h) (Or.inl ⟨by rfl, fun w hSw => ?_⟩) (by assumption) ?_
            rotate_left
            · (try dsimp only at hSw); go_simp; try with_reducible rfl
            simp only [Act.put, List.setIfInBounds_toArray, List.set_cons_zero, List.set_cons_succ, List.getElem_toArray, List.getElem_cons_succ, List.getElem_cons_zero]
            refine wpAnyH_take (i := 9) (v := ?_) rfl (by kernel_rfl) (by kernel_rfl) (by kernel_rfl) (fun _ _ _ h => h) (Or.inl ⟨by rfl, fun w hSw => ?_⟩) (by assumption) ?_
            rotate_left
            · (try dsimp only at hSw); go_simp; try with_reducible rfl
            simp only [Act.put, List.setIfInBounds_toArray, List.set_cons_zero, List.set_cons_succ, List.getElem_toArray, List.getElem_cons_succ, List.getElem_cons_zero]
            refine wpAnyH_take (i := 10) (v := ?_) rfl (by kernel_rfl) (by kernel_rfl) (by kernel_rfl) (fun _ _ _ h => h) (Or.inl ⟨by rfl, fun w hSw => ?_⟩) (by assumption) ?_
            rotate_left
            · (try dsimp only at hSw); go_simp; try with_reducible rfl
            simp only [Act.put, List.setIfInBounds_toArray, List.set_cons_zero, List.set_cons_succ, List.getElem_toArray, List.getElem_cons_succ, List.getElem_cons_zero]
            refine wpAnyH_take (i := 11) (v := ?_) rfl (by kernel_rfl) (by kernel_rfl) (by kernel_rfl) (fun _ _ _ h => h) (Or.inl ⟨by rfl, fun w hSw => ?_⟩) (by assumption) ?_
            rotate_left
            · (try dsimp only at hSw); go_simp; try with_reducible rfl
            simp only [Act.put, List.setIfInBounds_toArray, List.set_cons_zero, List.set_cons_succ, List.getElem_toArray, List.getElem_cons_succ, List.getElem_cons_zero]
            refine wpAnyH_ready (rs := [12]) (by kernel_rfl) (by simp) ?_
            refine AllReadyH.cons rfl (fun K hK => ?_) AllReadyH.nil
            simp only [List.getElem_toArray, List.getElem_cons_succ, List.getElem_cons_zero]
            go_simp
            refine hwrt.mono ?_
            rintro e w6 ⟨rfl, hr6, ht6⟩
            obtain ⟨u0, u1, hb6, ht7, hs6⟩ := HTM.out w6 ht6
            have HR6 := Lib.hid hr6
            have HB6 := Lib.hid hb6
            have HT6 := Lib.hid ht7
            have HS6 := Lib.hid hs6
            clear hwrt hr6 hb6 ht6 ht7 hs6 HTM HNX HOT
            go_wp2_with (fail)
            refine hK.out _ _ ⟨u0, u1⟩ (fun hHeld => ?_)
            clear hK K
            refine wpAnyH_take (i := 13) (v := ?_) rfl (by kernel_rfl) (by kernel_rfl) (by kernel_rfl) (fun _ _ _ h => h) (Or.inl ⟨by rfl, fun w hSw => ?_⟩) (by assumption) ?_
            rotate_left
            · (try dsimp only at hSw); go_simp; try with_reducible rfl
            simp only [Act.put, List.setIfInBounds_toArray, List.set_cons_zero, List.set_cons_succ, List.getElem_toArray, List.getElem_cons_succ, List.getElem_cons_zero]
            refine wpAnyH_done (by kernel_rfl) ?_ _
            clear hHeld y0 y1 u0 u1
            by_cases he0 : er = 0
            · subst he0
              rw [if_pos rfl] at S
              go_wp2_with (fail)
              go_roundw
              case rel => exact ⟨t + 1, _, _, by omega, by go_num, ⟨S.out, HR6.out, HRL2.out, HB6.out, HT6.out, HS6.out⟩⟩
              case measure => simp [RowKit.intOf]; omega
            · rw [if_neg he0] at S
              have hne : (er != 0) = true := by simpa using he0
              clear he0
              go_wp2_with (fail)
              go_ret
              have hE : rfG B R 3 g q x 3 = (some er, bw B R1 x z zs) := by rw [rfG_end (a := t + 1) hlt (by rw [S.out]; rfl), S.out]
              rw [HE.out.1, HE.out.2, hE]
              exact ⟨_, ⟨rfl, HR6.out, HT6.out⟩, HRL2.out⟩
      · obtain rfl : t = 3 := by omega
        have HI := Lib.hid hI
        clear hI hlt
        go_wp2_with (fail)
        go_ret
        rw [HE.out.1, HE.out.2, HI.out.st]
        exact ⟨F1, ⟨rfl, HI.out.rf, HI.out.tn⟩, HI.out.rl⟩
  · have HE : Hid (rfE B R 3 3 g q i = c ∧ rfR B R 3 3 g q i = R) := by
      unfold rfE rfR
      rw [← hc, if_neg h0, if_neg h0]
      exact ⟨rfl, rfl⟩
    have hne : (c != 0) = true := by simpa using h0
    clear hr hb hbM hrel hS hc h0 hmv
    go_enter Tryz.func37, Tryz.ntmps37
    go_wp2_with (fail)
    refine hms.mono ?_
    rintro e w1 ⟨rfl, hb1⟩
    have HB1 := Lib.hid hb1
    clear hms hb1
    go_wp2_with (fail)
    go_ret
    rw [HE.out.1, HE.out.2]
    exact ⟨F, ⟨rfl, HR.out.below HB1.out, Turn.of_below HB1.out⟩, HREL.out⟩
end

end Go.Proofs.YtciddoeeiamndaaGreat

/-
  The reference's Whole, by contract.
-/
namespace Go.Proofs.YtciddoeeiamndaaGreat
open Go.RowKit Go.Maps
set_option linter.unusedVariables false

/-- What a segment's first i sectors tell, by flat numbers. -/
def whN (B : Bn) (R : Rk) (ks : List Int) (g : Int) : Nat → Option Int
  | 0 => some 0
  | i + 1 => (whN B R ks g i).bind (whS B R ks (qS g i) (qD g i))
theorem whN_row {B : Bn} {R : Rk} {g : Int} (hS : Sml B) (a : Nat) : whN B R (badL B R 3) g (3 * a) = whG B R 3 g a := by
  induction a with
  | zero => rfl
  | succ a ih =>
    rw [show 3 * (a + 1) = 3 * a + 2 + 1 by omega, whN, show 3 * a + 2 = 3 * a + 1 + 1 by omega, whN, show 3 * a + 1 = 3 * a + 0 + 1 by omega, whN, show 3 * a + 0 = 3 * a by omega, ih, whG]
    have d0 := qD_at g (a := a) (j := 0) (by omega)
    have d1 := qD_at g (a := a) (j := 1) (by omega)
    have d2 := qD_at g (a := a) (j := 2) (by omega)
    have s0 := qS_at g (a := a) (j := 0) (by omega)
    have s1 := qS_at g (a := a) (j := 1) (by omega)
    have s2 := qS_at g (a := a) (j := 2) (by omega)
    rw [show 3 * a + 0 = 3 * a by omega] at d0 s0
    rw [d0, s0, show 3 * a + 0 + 1 = 3 * a + 1 by omega, d1, s1, show 3 * a + 1 + 1 = 3 * a + 2 by omega, d2, s2, hS.r]
    cases whG B R 3 g a with
    | none => rfl
    | some u =>
      show _ = whC B R (badL B R 3) (rowD 3 (g * 3 + a)) (5 + (g * 3 + a)) u 3
      rw [whC, whC, whC, whC]
theorem whN_none {B : Bn} {R : Rk} {ks : List Int} {g : Int} {i n : Nat} (h : i ≤ n) (hc : whN B R ks g i = none) : whN B R ks g n = none := by
  induction n with
  | zero => obtain rfl : i = 0 := by omega
            exact hc
  | succ n ih =>
    rcases Nat.lt_or_ge n i with h1 | h1
    · obtain rfl : i = n + 1 := by omega
      exact hc
    · rw [whN, ih h1]; rfl
/-- How the reference's number goes with it. -/
def WhI2 (B : Bn) (R : Rk) (ks : List Int) (g : Int) (i : Nat) (s : Int) : Prop :=
  (whN B R ks g i = some 0 ∧ s = -1 ∧ ∀ j, j < i → qD g j ∈ ks) ∨ (1 ≤ s ∧ whN B R ks g i = some s) ∨ (whN B R ks g i = none ∧ s = 0)
section
variable {B : Bn} {R : Rk} {ks : List Int} {g s : Int} {i : Nat}
theorem WhI2.skip (h : WhI2 B R ks g i s) (hm : qD g i ∈ ks) : WhI2 B R ks g (i + 1) s := by
  have e : ∀ u, whN B R ks g i = some u → whN B R ks g (i + 1) = some u := fun u hu => by rw [whN, hu]; show whS _ _ _ _ _ _ = _; rw [whS, if_pos hm]
  rcases h with ⟨h1, h2, h3⟩ | ⟨h1, h2⟩ | ⟨h1, h2⟩
  · refine .inl ⟨e 0 h1, h2, fun j hj => ?_⟩
    by_cases hji : j = i
    · subst hji; exact hm
    · exact h3 j (by omega)
  · exact .inr (.inl ⟨h1, e s h2⟩)
  · exact .inr (.inr ⟨whN_none (Nat.le_succ i) h1, h2⟩)
theorem WhI2.bad (h : WhI2 B R ks g i s) (hm : ¬ qD g i ∈ ks) (hb : ldO B R (qD g i) (qS g i) = false) : whN B R ks g (i + 1) = none := by
  rw [whN]
  cases whN B R ks g i with
  | none => rfl
  | some u => show whS _ _ _ _ _ _ = _; rw [whS, if_neg hm, if_pos hb]
theorem WhI2.other {v : Int} (h : WhI2 B R ks g i s) (hm : ¬ qD g i ∈ ks) (hb : ldO B R (qD g i) (qS g i) = true) (hv : v = decN (brV B R (qD g i) (qS g i)) 0 4) (h0 : 0 ≤ s) (hne : v ≠ s) : whN B R ks g (i + 1) = none := by
  rcases h with ⟨h1, h2, h3⟩ | ⟨h1, h2⟩ | ⟨h1, h2⟩
  · omega
  · rw [whN, h2]
    show whS _ _ _ _ _ _ = _
    rw [whS, if_neg hm, if_neg (by rw [hb]; simp), ← hv, if_pos (.inr ⟨by omega, hne⟩)]
  · exact whN_none (Nat.le_succ i) h1
theorem WhI2.same {v : Int} (h : WhI2 B R ks g i s) (hm : ¬ qD g i ∈ ks) (hb : ldO B R (qD g i) (qS g i) = true) (hv : v = decN (brV B R (qD g i) (qS g i)) 0 4) (hv0 : 0 ≤ v) (hs : s < 0 ∨ v = s) : WhI2 B R ks g (i + 1) v := by
  rcases h with ⟨h1, h2, h3⟩ | ⟨h1, h2⟩ | ⟨h1, h2⟩
  · by_cases hz : v = 0
    · refine .inr (.inr ⟨?_, hz⟩)
      rw [whN, h1]
      show whS _ _ _ _ _ _ = _
      rw [whS, if_neg hm, if_neg (by rw [hb]; simp), ← hv, if_pos (.inl hz)]
    · refine .inr (.inl ⟨by omega, ?_⟩)
      rw [whN, h1]
      show whS _ _ _ _ _ _ = _
      rw [whS, if_neg hm, if_neg (by rw [hb]; simp), ← hv, if_neg (by omega)]
  · obtain rfl : v = s := by omega
    refine .inr (.inl ⟨h1, ?_⟩)
    rw [whN, h2]
    show whS _ _ _ _ _ _ = _
    rw [whS, if_neg hm, if_neg (by rw [hb]; simp), ← hv, if_neg (by omega)]
  · exact .inr (.inr ⟨whN_none (Nat.le_succ i) h1, by omega⟩)
/-- At the end. -/
theorem WhI2.fin (h : WhI2 B R ks g 9 s) (hk : ks.length ≤ 1) : (s < 1 → whN B R ks g 9 = none) ∧ (1 ≤ s → whN B R ks g 9 = some s) := by
  rcases h with ⟨h1, h2, h3⟩ | ⟨h1, h2⟩ | ⟨h1, h2⟩
  · exfalso
    have a := h3 0 (by omega)
    have b := h3 1 (by omega)
    match ks, hk with
    | [], _ => cases a
    | [k], _ =>
      have e0 : qD g 0 = k := List.mem_singleton.1 a
      have e1 : qD g 1 = k := List.mem_singleton.1 b
      have := rowD_inj (Q := g * 3 + ((0 : Nat) : Int)) (i := 0) (j := 1) (by omega) (by omega) (e0.trans e1.symm)
      omega
  · exact ⟨fun x => by omega, fun _ => h2⟩
  · exact ⟨fun _ => h1, fun x => by omega⟩
end
section
variable {M : Nat → Prop} {L : RLay} {R : Rk} {F : Rf} {w : World} {B : Bn} {b : Nat}
set_option maxRecDepth 100000 in
set_option maxHeartbeats 8000000 in
theorem whole_ref (g : Int) (hr : RefAt w M L F) (hb : RbAt w b L.p B) (hrel : Rel R F) (hS : Sml B) :
    Calls Tryz.prog 33 #[.pointer (some ⟨b, 0, none⟩), .int .i64 g] w fun e w' => e = .returned (.tuple #[.int .i64 ((whR B R 3 3 g).getD 0), .bool (whR B R 3 3 g).isSome, .int .i64 (chkE R (segO B g))]) ∧ Below w.heap.size w w' := by
  have c0 := hb.c0
  have c1 := hb.c1
  have c2 := hb.c2
  have c3 := hb.c3
  rw [hS.d] at c1
  rw [hS.r] at c2
  rw [hS.s] at c3
  have c7 := hr.c7
  rw [← hrel.off] at c7
  have HNO : segO B g = false → Hid (whR B R 3 3 g = none ∧ chkE R (segO B g) = 28) := fun h => by
    have hc : chkE R (segO B g) = 28 := by rw [h]; rfl
    exact ⟨by unfold whR; rw [hc]; rfl, hc⟩
  by_cases g0 : g < 0
  · have H := HNO (segO_out hS (.inl g0))
    clear HNO hr hb hrel hS
    go_enter Tryz.func33, Tryz.ntmps33
    go_wp2_with (fail)
    go_ret3
    rw [H.out.1, H.out.2]
    exact ⟨rfl, Below.refl _ _⟩
  by_cases g1 : 12 ≤ g
  · have H := HNO (segO_out hS (.inr g1))
    have d0 : decide (g < 0) = false := decide_eq_false g0
    clear HNO hr hb hrel hS g0
    go_enter Tryz.func33, Tryz.ntmps33
    go_wp2_with (fail)
    go_ret3
    rw [H.out.1, H.out.2]
    exact ⟨rfl, Below.refl _ _⟩
  have hth := segO_in hS (g := g) (by omega) (by omega)
  have d0 : decide (g < 0) = false := decide_eq_false g0
  have d1 : decide (12 ≤ g) = false := decide_eq_false g1
  have hg := sg_small (g := g) (by omega) (by omega)
  clear HNO g0 g1
  cases hoff : R.off with
  | true =>
    rw [hoff] at c7
    have H : Hid (whR B R 3 3 g = none ∧ chkE R (segO B g) = 12) := by
      have hc : chkE R (segO B g) = 12 := by unfold chkE; rw [hth, hoff]; rfl
      exact ⟨by unfold whR; rw [hc]; rfl, hc⟩
    clear hr hb hrel hS hth hoff hg
    go_enter Tryz.func33, Tryz.ntmps33
    go_wp2_with (fail)
    go_ret3
    rw [H.out.1, H.out.2]
    exact ⟨rfl, Below.refl _ _⟩
  | false =>
    rw [hoff] at c7
    obtain ⟨ks, hks⟩ : ∃ ks, ks = badL B R 3 := ⟨_, rfl⟩
    have H : Hid ((1 < ks.length → whR B R 3 3 g = none) ∧ (ks.length ≤ 1 → whR B R 3 3 g = whN B R ks g 9) ∧ chkE R (segO B g) = 0) := by
      have hc : chkE R (segO B g) = 0 := by unfold chkE; rw [hth, hoff]; rfl
      refine ⟨fun h => ?_, fun h => ?_, hc⟩
      · unfold whR twoB
        rw [if_pos hc, ← hks, decide_eq_true h]
        rfl
      · unfold whR twoB
        rw [if_pos hc, ← hks, decide_eq_false (by omega), hks]
        have := whN_row (R := R) (g := g) hS 3
        rw [if_neg (by simp)]
        exact this.symm
    have hbd := rbad_any 3 hr hb hS.d (by omega)
    rw [← hrel.badL, ← hks] at hbd
    have HR := Lib.hid hr
    have HB := Lib.hid hb
    have HREL := Lib.hid hrel
    have HSM := Lib.hid hS
    have HG := Lib.hid hg
    have hbl := hb.lt
    have HC : Hid (∀ wr, Below w.heap.size w wr → (wr.cell? ⟨b, 1, none⟩ = some (.int .i64 3) ∧ wr.cell? ⟨b, 2, none⟩ = some (.int .i64 3) ∧ wr.cell? ⟨b, 3, none⟩ = some (.int .i64 12))) := fun wr h1 =>
      ⟨(h1.cell (p := ⟨b, 1, none⟩) hbl).trans c1, (h1.cell (p := ⟨b, 2, none⟩) hbl).trans c2, (h1.cell (p := ⟨b, 3, none⟩) hbl).trans c3⟩
    have hk3 : ks.length ≤ 3 := by rw [hks]; exact badL_len B R 3
    obtain ⟨n, hn⟩ : ∃ n, n = ks.length := ⟨_, rfl⟩
    obtain ⟨k0, hk0⟩ : ∃ k, k = ks.getD 0 0 := ⟨_, rfl⟩
    have HKM : Hid (0 < n → k0 ∈ ks) := fun h => by
      rw [hk0]
      match ks, hn with
      | [], e => rw [e] at h; exact absurd h (Nat.lt_irrefl _)
      | k :: l, _ => exact List.mem_cons_self
    have HKO : Hid (∀ D : Int, n ≤ 1 → (n = 0 ∨ k0 ≠ D) → ¬ D ∈ ks) := fun D h1 h2 hm => by
      match ks, hn, hk0, hm with
      | [], _, _, hm => cases hm
      | [k], e, hk, hm =>
        have : D = k := List.mem_singleton.1 hm
        rcases h2 with h2 | h2
        · rw [h2] at e; cases e
        · exact h2 (by rw [hk, this]; rfl)
      | k :: l :: r, e, _, _ => rw [e] at h1; simp at h1
    rw [← hn] at H hk3
    clear hr hb hrel hS hth hoff hg hks
    go_enter Tryz.func33, Tryz.ntmps33
    go_wp2_with (fail)
    refine hbd.mono ?_
    rintro e w1 ⟨v, rfl, ho, hb1⟩
    obtain ⟨ka, kc, rfl, hins, hnc, hcm, _⟩ := ho.ins
    rw [← hn] at hins hnc ⊢
    have HINS : Hid (n = 0 ∨ ∃ kb ko, ka = some ⟨kb, ko, none⟩ ∧ kb < w1.heap.size ∧ w1.cell? ⟨kb, ko, none⟩ = some (.int .i64 k0)) := by
      rcases hins.2 with h | ⟨kb, ko, e, hl, hc⟩
      · exact .inl h
      · by_cases h0 : n = 0
        · exact .inl h0
        · exact .inr ⟨kb, ko, e, hl, by have := hc 0 (by omega); rwa [Nat.add_zero, ← hk0] at this⟩
    have HB1 := Lib.hid hb1
    have HN := Lib.hid hn
    clear hbd ho hins hb1 hk0 hn c0 c1 c2 c3 c7 hbl
    go_wp2_with (fail)
    clear d0 d1
    go_loopw [8, 9, 10, 11, 12, 13, 14, 15] (fun u v _p _q _r _s _t _x wr => ∃ (i : Nat) (s : Int), i ≤ 9 ∧ v = .int .i64 i ∧ u = .int .i64 s ∧ (n ≤ 1 → WhI2 B R ks g i s) ∧ Below w1.heap.size w1 wr) (fun _ v _ _ _ _ _ _ _ => 9 - (RowKit.intOf v).toNat)
    case atStart => exact ⟨0, -1, by omega, rfl, rfl, fun _ => .inl ⟨rfl, rfl, fun j hj => absurd hj (Nat.not_lt_zero _)⟩, Below.refl _ _⟩
    case round =>
      obtain ⟨i, s, hi, rfl, rfl, hJ, hbw⟩ := hrel
      obtain ⟨c1, c2, c3⟩ := HC.out wr (HB1.out.trans (hbw.mono HB1.out.size))
      have HJ := Lib.hid hJ
      have HBW := Lib.hid hbw
      clear hJ hbw
      by_cases hlt : i < 9
      · obtain ⟨D, hD⟩ : ∃ D, D = qD g i := ⟨_, rfl⟩
        obtain ⟨z, hz⟩ : ∃ z, z = qS g i := ⟨_, rfl⟩
        have hsp : ∀ w, Calls Tryz.prog 80 #[gv 3 3 12, .int .i64 g, .int .i64 i] w fun e w' => e = .returned (spV D z) ∧ Below w.heap.size w w' := fun w => by
          rw [hD, hz]
          exact spot_any g i w HG.out hlt
        have HDZ : Hid (D = qD g i ∧ z = qS g i) := ⟨hD, hz⟩
        clear hD hz
        go_wp2_with (fail)
        go_quiet (fail)
        have hbq : Below w1.heap.size w1 (wr.drewN nq) := below_drewN HBW.out nq
        obtain ⟨wo, hwo⟩ : ∃ wo, wo = wr.drewN nq := ⟨_, rfl⟩
        rw [← hwo] at hbq ⊢
        clear hwo c1 c2 c3
        obtain ⟨c1, c2, c3⟩ := HC.out wo (HB1.out.trans (hbq.mono HB1.out.size))
        have HBQ := Lib.hid hbq
        clear hbq
        go_wp2_with (fail)
        refine (hsp _).mono ?_
        rintro e w3 ⟨rfl, hb3⟩
        have hB3 := HBQ.out.trans (hb3.mono HBQ.out.size)
        have HB3 := Lib.hid hB3
        have HB4 : Hid (Below w1.heap.size w1 (w3.alloc (.cells #[.int .i64 D, .int .i64 z] 116))) := hB3.alloc hB3.size _
        clear hb3 hsp c1 c2 c3 hB3
        by_cases hn0 : n = 0
        · have HNM : Hid (n ≤ 1 → ¬ qD g i ∈ ks) := fun h => by rw [← HDZ.out.1]; exact HKO.out D h (.inl hn0)
          have HN0 := Lib.hid hn0
          have g1 : decide ((0 : Int) < (n : Int)) = false := decide_eq_false (by omega)
          have g1' : decide (0 < n) = false := decide_eq_false (by omega)
          clear hn0
          go_wp2_with (fail)
          go_quiet (fail)
          obtain ⟨X, hX⟩ : ∃ X, X = (w3.alloc (.cells #[.int .i64 D, .int .i64 z] 116)).drewN nq := ⟨_, rfl⟩
          obtain ⟨p, hp⟩ : ∃ p, p = w3.heap.size := ⟨_, rfl⟩
          have HBX : Hid (Below w1.heap.size w1 X) := by rw [hX]; exact below_drewN HB4.out nq
          have s0 : X.cell? ⟨p, 0, none⟩ = some (.int .i64 D) := by rw [hX, hp]; simp
          have s1 : X.cell? ⟨p, 1, none⟩ = some (.int .i64 z) := by rw [hX, hp]; simp
          rw [← hX, ← hp]
          have hBw := HB1.out.trans (HBX.out.mono HB1.out.size)
          have hrd := rbread_any D z (HR.out.below hBw) (HB.out.next hBw)
          rw [← HREL.out.brE, ← HREL.out.brV] at hrd
          clear hX hp hBw
          by_cases he : brE B R D z = 0
          · rw [he] at hrd
            obtain ⟨zs, hzs⟩ : ∃ zs, zs = brV B R D z := ⟨_, rfl⟩
            have hdo : decO zs = true := by rw [hzs, ((HR.out.len64 HREL.out B).dec D z), ldO, decide_eq_true he]
            have hld : ldO B R (qD g i) (qS g i) = true := by rw [← HDZ.out.1, ← HDZ.out.2, ldO, decide_eq_true he]
            obtain ⟨v, hv⟩ : ∃ v, v = decN zs 0 4 := ⟨_, rfl⟩
            have hv0 : 0 ≤ v := by
              rw [hv, decN, hdo, if_pos rfl]
              exact (getN_bd (by rw [hzs]; exact (HR.out.len64 HREL.out B).small D z) 0 4).1
            have HVV : Hid (v = decN (brV B R (qD g i) (qS g i)) 0 4) := by show _ = _; rw [hv, hzs, ← HDZ.out.1, ← HDZ.out.2]
            have HLD := Lib.hid hld
            have HV0 := Lib.hid hv0
            rw [← hzs] at hrd
            have HVE := Lib.hid hv
            clear he hzs hdo hld hv
            go_wp2_with (fail)
            refine hrd.mono ?_
            rintro e w5 ⟨vv, rfl, ho5, hb5⟩
            obtain ⟨a5, c5, rfl, hp5, _⟩ := ho5.pin
            have HB5 := Lib.hid (HBX.out.trans (hb5.mono HBX.out.size))
            have hdc := refDec_any a5 zs.length c5 zs w5 hp5
            clear hrd ho5 hp5 hb5 s0 s1
            go_wp2_with (fail)
            refine hdc.mono ?_
            rintro e w6 ⟨a6, n6, c6, rfl, hp6, hb6⟩
            rw [← HVE.out]
            have HB6 := Lib.hid (HB5.out.trans (hb6.mono HB5.out.size))
            obtain ⟨o1, ho1⟩ : ∃ o, o = decN zs 4 2 := ⟨_, rfl⟩
            obtain ⟨o2, ho2⟩ : ∃ o, o = decN zs 6 2 := ⟨_, rfl⟩
            obtain ⟨dd, hdd⟩ : ∃ o, o = decO zs := ⟨_, rfl⟩
            rw [← ho1, ← ho2, ← hdd]
            have HBZ1 : Hid (Below w1.heap.size w1 (w6.alloc (.cells #[.int .i64 v, .int .i64 o1, .int .i64 o2] 126))) := HB6.out.alloc HB6.out.size _
            have HBZ := Lib.hid (HB1.out.trans (HBZ1.out.mono HB1.out.size))
            clear hdc hp6 hb6 ho1 ho2 hdd
            rcases (by omega : s < 0 ∨ 0 ≤ s) with hs0 | hs0
            · have HNY : Hid (n ≤ 1 → WhI2 B R ks g (i + 1) v) := fun h => (HJ.out h).same (HNM.out h) HLD.out HVV.out HV0.out (.inl hs0)
              have g2 : decide (0 ≤ s) = false := decide_eq_false (by omega)
              clear hs0
              go_wp2_with (fail)
              go_roundw
              case rel => exact ⟨i + 1, v, by omega, by go_num, rfl, HNY.out, HBZ1.out⟩
              case measure => simp [RowKit.intOf]; omega
            · have g2 : decide (0 ≤ s) = true := decide_eq_true hs0
              by_cases hvs : v = s
              · have HNY : Hid (n ≤ 1 → WhI2 B R ks g (i + 1) v) := fun h => (HJ.out h).same (HNM.out h) HLD.out HVV.out HV0.out (.inr hvs)
                have g3 : (v != s) = false := by simp [hvs]
                clear hvs hs0
                go_wp2_with (fail)
                go_roundw
                case rel => exact ⟨i + 1, v, by omega, by go_num, rfl, HNY.out, HBZ1.out⟩
                case measure => simp [RowKit.intOf]; omega
              · have HNN : Hid (n ≤ 1 → whN B R ks g (i + 1) = none) := fun h => (HJ.out h).other (HNM.out h) HLD.out HVV.out hs0 hvs
                have g3 : (v != s) = true := by simpa using hvs
                clear hvs hs0
                go_wp2_with (fail)
                go_ret3
                have hres : whR B R 3 3 g = none := by
                  rcases Nat.lt_or_ge 1 n with h | h
                  · exact H.out.1 h
                  · rw [H.out.2.1 h]
                    exact whN_none (i := i + 1) hlt (HNN.out h)
                rw [hres, H.out.2.2]
                exact ⟨rfl, HBZ.out⟩
          · have hld : ldO B R (qD g i) (qS g i) = false := by rw [← HDZ.out.1, ← HDZ.out.2, ldO, decide_eq_false he]
            have HNN : Hid (n ≤ 1 → whN B R ks g (i + 1) = none) := fun h => (HJ.out h).bad (HNM.out h) hld
            obtain ⟨er, her⟩ : ∃ e, e = brE B R D z := ⟨_, rfl⟩
            rw [br_nil he] at hrd
            rw [← her] at hrd he
            have hne : (er != 0) = true := by simpa using he
            clear he her hld
            go_wp2_with (fail)
            refine hrd.mono ?_
            rintro e w5 ⟨vv, rfl, ho5, hb5⟩
            obtain ⟨a5, c5, rfl, hp5, _⟩ := ho5.pin
            have HB5 := Lib.hid (HBX.out.trans (hb5.mono HBX.out.size))
            have hdc := refDec_any a5 0 c5 [] w5 hp5
            clear hrd ho5 hp5 hb5 s0 s1
            go_wp2_with (fail)
            refine hdc.mono ?_
            rintro e w6 ⟨a6, n6, c6, rfl, hp6, hb6⟩
            obtain ⟨o0, ho0⟩ : ∃ o, o = decN ([] : List Int) 0 4 := ⟨_, rfl⟩
            obtain ⟨o1, ho1⟩ : ∃ o, o = decN ([] : List Int) 4 2 := ⟨_, rfl⟩
            obtain ⟨o2, ho2⟩ : ∃ o, o = decN ([] : List Int) 6 2 := ⟨_, rfl⟩
            obtain ⟨dd, hdd⟩ : ∃ o, o = decO ([] : List Int) := ⟨_, rfl⟩
            rw [← ho0, ← ho1, ← ho2, ← hdd]
            have HB6 := Lib.hid (HB5.out.trans (hb6.mono HB5.out.size))
            have HBZ : Hid (Below w.heap.size w (w6.alloc (.cells #[.int .i64 o0, .int .i64 o1, .int .i64 o2] 126))) := HB1.out.trans ((HB6.out.alloc HB6.out.size _).mono HB1.out.size)
            clear hdc hp6 hb6 ho0 ho1 ho2 hdd
            go_wp2_with (fail)
            go_ret3
            have hres : whR B R 3 3 g = none := by
              rcases Nat.lt_or_ge 1 n with h | h
              · exact H.out.1 h
              · rw [H.out.2.1 h]
                exact whN_none (i := i + 1) hlt (HNN.out h)
            rw [hres, H.out.2.2]
            exact ⟨rfl, HBZ.out⟩
        · obtain ⟨kb, ko, rfl, hkl, hkc⟩ := HINS.out.resolve_left hn0
          have k3 : w3.cell? ⟨kb, ko, none⟩ = some (.int .i64 k0) := (HB3.out.cell (p := ⟨kb, ko, none⟩) hkl).trans hkc
          have kl3 : kb < w3.heap.size := Nat.lt_of_lt_of_le hkl HB3.out.size
          have n0 : (0 : Int) < (n : Int) := by omega
          have HKK : Hid (0 < n) := by show _ < _; omega
          have g1 : decide ((0 : Int) < (n : Int)) = true := decide_eq_true n0
          have g1' : decide (0 < n) = true := decide_eq_true HKK.out
          have n0' : 0 < n := HKK.out
          clear hkl hkc hn0
          by_cases hkd : k0 = D
          · subst hkd
            have HNY : Hid (n ≤ 1 → WhI2 B R ks g (i + 1) s) := fun h => (HJ.out h).skip (by rw [← HDZ.out.1]; exact HKM.out HKK.out)
            go_wp2_with (fail)
            go_quiet (fail)
            have HBX : Hid (Below w1.heap.size w1 ((w3.alloc (.cells #[.int .i64 k0, .int .i64 z] 116)).drewN nq)) := below_drewN HB4.out nq
            clear k3 kl3
            go_wp2_with (fail)
            go_roundw
            case rel => exact ⟨i + 1, s, by omega, by go_num, rfl, HNY.out, HBX.out⟩
            case measure => simp [RowKit.intOf]; omega
          · have HNM : Hid (n ≤ 1 → ¬ qD g i ∈ ks) := fun h => by rw [← HDZ.out.1]; exact HKO.out D h (.inr hkd)
            have hkd2 : (k0 == D) = false := by simpa using hkd
            clear hkd
            go_wp2_with (fail)
            go_quiet (fail)
            clear k3 kl3 hkd2
            obtain ⟨X, hX⟩ : ∃ X, X = (w3.alloc (.cells #[.int .i64 D, .int .i64 z] 116)).drewN nq := ⟨_, rfl⟩
            obtain ⟨p, hp⟩ : ∃ p, p = w3.heap.size := ⟨_, rfl⟩
            have HBX : Hid (Below w1.heap.size w1 X) := by rw [hX]; exact below_drewN HB4.out nq
            have s0 : X.cell? ⟨p, 0, none⟩ = some (.int .i64 D) := by rw [hX, hp]; simp
            have s1 : X.cell? ⟨p, 1, none⟩ = some (.int .i64 z) := by rw [hX, hp]; simp
            rw [← hX, ← hp]
            have hBw := HB1.out.trans (HBX.out.mono HB1.out.size)
            have hrd := rbread_any D z (HR.out.below hBw) (HB.out.next hBw)
            rw [← HREL.out.brE, ← HREL.out.brV] at hrd
            clear hX hp hBw
            by_cases he : brE B R D z = 0
            · rw [he] at hrd
              obtain ⟨zs, hzs⟩ : ∃ zs, zs = brV B R D z := ⟨_, rfl⟩
              have hdo : decO zs = true := by rw [hzs, ((HR.out.len64 HREL.out B).dec D z), ldO, decide_eq_true he]
              have hld : ldO B R (qD g i) (qS g i) = true := by rw [← HDZ.out.1, ← HDZ.out.2, ldO, decide_eq_true he]
              obtain ⟨v, hv⟩ : ∃ v, v = decN zs 0 4 := ⟨_, rfl⟩
              have hv0 : 0 ≤ v := by
                rw [hv, decN, hdo, if_pos rfl]
                exact (getN_bd (by rw [hzs]; exact (HR.out.len64 HREL.out B).small D z) 0 4).1
              have HVV : Hid (v = decN (brV B R (qD g i) (qS g i)) 0 4) := by show _ = _; rw [hv, hzs, ← HDZ.out.1, ← HDZ.out.2]
              have HLD := Lib.hid hld
              have HV0 := Lib.hid hv0
              rw [← hzs] at hrd
              have HVE := Lib.hid hv
              clear he hzs hdo hld hv
              go_wp2_with (fail)
              refine hrd.mono ?_
              rintro e w5 ⟨vv, rfl, ho5, hb5⟩
              obtain ⟨a5, c5, rfl, hp5, _⟩ := ho5.pin
              have HB5 := Lib.hid (HBX.out.trans (hb5.mono HBX.out.size))
              have hdc := refDec_any a5 zs.length c5 zs w5 hp5
              clear hrd ho5 hp5 hb5 s0 s1
              go_wp2_with (fail)
              refine hdc.mono ?_
              rintro e w6 ⟨a6, n6, c6, rfl, hp6, hb6⟩
              rw [← HVE.out]
              have HB6 := Lib.hid (HB5.out.trans (hb6.mono HB5.out.size))
              obtain ⟨o1, ho1⟩ : ∃ o, o = decN zs 4 2 := ⟨_, rfl⟩
              obtain ⟨o2, ho2⟩ : ∃ o, o = decN zs 6 2 := ⟨_, rfl⟩
              obtain ⟨dd, hdd⟩ : ∃ o, o = decO zs := ⟨_, rfl⟩
              rw [← ho1, ← ho2, ← hdd]
              have HBZ1 : Hid (Below w1.heap.size w1 (w6.alloc (.cells #[.int .i64 v, .int .i64 o1, .int .i64 o2] 126))) := HB6.out.alloc HB6.out.size _
              have HBZ := Lib.hid (HB1.out.trans (HBZ1.out.mono HB1.out.size))
              clear hdc hp6 hb6 ho1 ho2 hdd
              rcases (by omega : s < 0 ∨ 0 ≤ s) with hs0 | hs0
              · have HNY : Hid (n ≤ 1 → WhI2 B R ks g (i + 1) v) := fun h => (HJ.out h).same (HNM.out h) HLD.out HVV.out HV0.out (.inl hs0)
                have g2 : decide (0 ≤ s) = false := decide_eq_false (by omega)
                clear hs0
                go_wp2_with (fail)
                go_roundw
                case rel => exact ⟨i + 1, v, by omega, by go_num, rfl, HNY.out, HBZ1.out⟩
                case measure => simp [RowKit.intOf]; omega
              · have g2 : decide (0 ≤ s) = true := decide_eq_true hs0
                by_cases hvs : v = s
                · have HNY : Hid (n ≤ 1 → WhI2 B R ks g (i + 1) v) := fun h => (HJ.out h).same (HNM.out h) HLD.out HVV.out HV0.out (.inr hvs)
                  have g3 : (v != s) = false := by simp [hvs]
                  clear hvs hs0
                  go_wp2_with (fail)
                  go_roundw
                  case rel => exact ⟨i + 1, v, by omega, by go_num, rfl, HNY.out, HBZ1.out⟩
                  case measure => simp [RowKit.intOf]; omega
                · have HNN : Hid (n ≤ 1 → whN B R ks g (i + 1) = none) := fun h => (HJ.out h).other (HNM.out h) HLD.out HVV.out hs0 hvs
                  have g3 : (v != s) = true := by simpa using hvs
                  clear hvs hs0
                  go_wp2_with (fail)
                  go_ret3
                  have hres : whR B R 3 3 g = none := by
                    rcases Nat.lt_or_ge 1 n with h | h
                    · exact H.out.1 h
                    · rw [H.out.2.1 h]
                      exact whN_none (i := i + 1) hlt (HNN.out h)
                  rw [hres, H.out.2.2]
                  exact ⟨rfl, HBZ.out⟩
            · have hld : ldO B R (qD g i) (qS g i) = false := by rw [← HDZ.out.1, ← HDZ.out.2, ldO, decide_eq_false he]
              have HNN : Hid (n ≤ 1 → whN B R ks g (i + 1) = none) := fun h => (HJ.out h).bad (HNM.out h) hld
              obtain ⟨er, her⟩ : ∃ e, e = brE B R D z := ⟨_, rfl⟩
              rw [br_nil he] at hrd
              rw [← her] at hrd he
              have hne : (er != 0) = true := by simpa using he
              clear he her hld
              go_wp2_with (fail)
              refine hrd.mono ?_
              rintro e w5 ⟨vv, rfl, ho5, hb5⟩
              obtain ⟨a5, c5, rfl, hp5, _⟩ := ho5.pin
              have HB5 := Lib.hid (HBX.out.trans (hb5.mono HBX.out.size))
              have hdc := refDec_any a5 0 c5 [] w5 hp5
              clear hrd ho5 hp5 hb5 s0 s1
              go_wp2_with (fail)
              refine hdc.mono ?_
              rintro e w6 ⟨a6, n6, c6, rfl, hp6, hb6⟩
              obtain ⟨o0, ho0⟩ : ∃ o, o = decN ([] : List Int) 0 4 := ⟨_, rfl⟩
              obtain ⟨o1, ho1⟩ : ∃ o, o = decN ([] : List Int) 4 2 := ⟨_, rfl⟩
              obtain ⟨o2, ho2⟩ : ∃ o, o = decN ([] : List Int) 6 2 := ⟨_, rfl⟩
              obtain ⟨dd, hdd⟩ : ∃ o, o = decO ([] : List Int) := ⟨_, rfl⟩
              rw [← ho0, ← ho1, ← ho2, ← hdd]
              have HB6 := Lib.hid (HB5.out.trans (hb6.mono HB5.out.size))
              have HBZ : Hid (Below w.heap.size w (w6.alloc (.cells #[.int .i64 o0, .int .i64 o1, .int .i64 o2] 126))) := HB1.out.trans ((HB6.out.alloc HB6.out.size _).mono HB1.out.size)
              clear hdc hp6 hb6 ho0 ho1 ho2 hdd
              go_wp2_with (fail)
              go_ret3
              have hres : whR B R 3 3 g = none := by
                rcases Nat.lt_or_ge 1 n with h | h
                · exact H.out.1 h
                · rw [H.out.2.1 h]
                  exact whN_none (i := i + 1) hlt (HNN.out h)
              rw [hres, H.out.2.2]
              exact ⟨rfl, HBZ.out⟩
      · obtain rfl : i = 9 := by omega
        clear hlt
        go_wp2_with (fail)
        go_quiet (fail)
        have hbq : Below w1.heap.size w1 (wr.drewN nq) := below_drewN HBW.out nq
        obtain ⟨wo, hwo⟩ : ∃ wo, wo = wr.drewN nq := ⟨_, rfl⟩
        rw [← hwo] at hbq ⊢
        have HBQ := Lib.hid (HB1.out.trans (hbq.mono HB1.out.size))
        clear hwo c1 c2 c3 hbq
        rcases Nat.lt_or_ge 1 n with hn1 | hn1
        · have HR1 := Lib.hid (H.out.1 hn1)
          have n1 : (1 : Int) < (n : Int) := by omega
          clear hn1
          go_wp2_with (fail)
          go_ret3
          rw [HR1.out, H.out.2.2]
          exact ⟨rfl, HBQ.out⟩
        · obtain ⟨f1, f2⟩ := (HJ.out hn1).fin (by rw [← HN.out]; exact hn1)
          have HR1 := Lib.hid (H.out.2.1 hn1)
          have n1 : decide ((1 : Int) < (n : Int)) = false := decide_eq_false (by omega)
          have n1' : decide (1 < n) = false := decide_eq_false (by omega)
          clear hn1
          rcases (by omega : s < 1 ∨ 1 ≤ s) with hs1 | hs1
          · have HS := Lib.hid (f1 hs1)
            clear f1 f2
            go_wp2_with (fail)
            go_ret3
            rw [HR1.out, HS.out, H.out.2.2]
            exact ⟨rfl, HBQ.out⟩
          · have HS := Lib.hid (f2 hs1)
            have hs2 : decide (s < 1) = false := decide_eq_false (by omega)
            clear f1 f2 hs1
            go_wp2_with (fail)
            go_ret3
            rw [HR1.out, HS.out, H.out.2.2]
            exact ⟨rfl, HBQ.out⟩
end

end Go.Proofs.YtciddoeeiamndaaGreat
