/-
  The reference's Read, by contract.
-/
import Derived.Test.YtacnhlmhibhlhaaGreatQoa
set_option linter.unusedSimpArgs false
set_option linter.unusedVariables false
namespace Go.Proofs.YtacnhlmhibhlhaaGreat
open Go.RowKit Go.Maps
set_option linter.unusedVariables false

theorem rblock_no (d r s g k : Int) (w : World) (h : ¬ Bk d r s g k) :
    Calls Tryz.prog 90 #[gv d r s, .int .i64 g, .int .i64 k] w fun e w' => e = .returned (sv 0 0 false) ∧ Below w.heap.size w w' := by
  by_cases hR : Rt d r s
  · by_cases k0 : 0 ≤ k
    · by_cases k1 : k ≤ PL d r
      · exact rblock_off d r s g k w hR (fun hs => h ⟨hs, k0, k1⟩) k0 k1
      · exact rblock_khigh d r s g k w hR (by omega)
    · exact rblock_klow d r s g k w hR (by omega)
  · exact rblock_out d r s g k w hR
theorem rblock_all (B : Bn) (g k : Int) (w : World) :
    Calls Tryz.prog 90 #[gv B.d B.r B.s, .int .i64 g, .int .i64 k] w fun e w' => e = .returned (sv (spD B g k) (spS B g k) (bkO B g k)) ∧ Below w.heap.size w w' := by
  classical
  unfold spD spS bkO
  by_cases h : Bk B.d B.r B.s g k
  · rw [decide_eq_true h, if_pos rfl, if_pos rfl]
    exact rblock_yes B.d B.r B.s g k w h.toSg h.k0 h.k1
  · rw [decide_eq_false h, if_neg (by simp), if_neg (by simp)]
    exact rblock_no B.d B.r B.s g k w h
section
variable {M : Nat → Prop} {L : RLay} {R : Rk} {F : Rf} {w : World} {B : Bn} {b : Nat}
set_option maxRecDepth 100000 in
set_option maxHeartbeats 8000000 in
theorem read_ref (g k q : Int) (hr : RefAt w M L F) (hb : RbAt w b L.p B) (hrel : Rel R F) (hS : Sml B) :
    Calls Tryz.prog 47 #[.pointer (some ⟨b, 0, none⟩), .int .i64 g, .int .i64 k, .int .i64 q] w (RbPost w (rbL B R 3 g k q) (rbE B R 3 g k q)) := by
  obtain ⟨W1, hW1⟩ : ∃ W1, W1 = w.alloc (.cells #[.int .i64 0, .int .i64 0, .slice none 0 0] 65 (0, 0)) := ⟨_, rfl⟩
  obtain ⟨gb, hgb⟩ : ∃ gb, gb = w.heap.size := ⟨_, rfl⟩
  have hB1 : Below w.heap.size w W1 := by rw [hW1]; exact (Below.refl _ _).alloc (Nat.le_refl _) _
  have hx1 : Bb W1 gb := by rw [hW1, hgb]; exact ⟨by simp, ⟨.int .i64 0, by simp⟩, ⟨.int .i64 0, by simp⟩, ⟨.slice none 0 0, by simp⟩, by simp, by simp, by simp⟩
  have HG := Lib.hid hgb
  have hsp := rblock_all B g k W1
  rw [hS.d, hS.r, hS.s] at hsp
  have HR := Lib.hid hr
  have HB := Lib.hid hb
  have HREL := Lib.hid hrel
  have HSM := Lib.hid hS
  have c1 := hb.c1
  have c2 := hb.c2
  have c3 := hb.c3
  rw [hS.d] at c1
  rw [hS.r] at c2
  rw [hS.s] at c3
  have hbl := hb.lt
  have HC : Hid (∀ wr, Below w.heap.size w wr → wr.cell? ⟨b, 0, none⟩ = some (.pointer (some ⟨L.p, 0, none⟩)) ∧ wr.cell? ⟨L.p, 7, none⟩ = some (.bool R.off)) := fun wr h1 =>
    ⟨((hb.next h1).c0), by have := (hr.below h1).c7; rwa [← hrel.off] at this⟩
  have HC1 : Hid (∀ wr, Below w.heap.size w wr → wr.cell? ⟨b, 1, none⟩ = some (.int .i64 3)) := fun wr h1 => (h1.cell (p := ⟨b, 1, none⟩) hbl).trans c1
  have hxl : bkO B g k = true → ∃ x a : Nat, spD B g k = x ∧ x < 3 ∧ a < 3 ∧ Sg 3 3 12 g ∧ spS B g k = 5 + (g * 3 + (a : Int)) ∧ IntKind.i64.wrap (Int.tdiv k 2) = (a : Int) := fun h => by
    obtain ⟨x, hx, hx3⟩ := spD_lt (B := B) (n := 3) (g := g) (k := k) hS.d h
    have hbk := bkO_yes h
    have k0 := hbk.k0
    have k1 := hbk.k1
    have hsg := hbk.toSg
    rw [hS.d, hS.r, hS.s] at hsg
    rw [hS.d, hS.r] at k1
    unfold PL at k1
    have e : Int.tdiv k 2 = k / 2 := Int.tdiv_eq_ediv_of_nonneg k0
    refine ⟨x, (k / 2).toNat, hx, hx3, by omega, hsg, ?_, ?_⟩
    · unfold spS
      rw [if_pos h, hS.d, hS.r]
      have : ((k / 2).toNat : Int) = k / 2 := by omega
      rw [this]
      rfl
    · rw [e, IntWalk.i64_in _ (by omega)]; omega
  obtain ⟨zs, hzs⟩ : ∃ zs, zs = rbL B R 3 g k q := ⟨_, rfl⟩
  obtain ⟨er, her⟩ : ∃ er, er = rbE B R 3 g k q := ⟨_, rfl⟩
  rw [← hzs, ← her]
  unfold rbL at hzs
  unfold rbE at her
  obtain ⟨ok, hok⟩ : ∃ ok, ok = bkO B g k := ⟨_, rfl⟩
  obtain ⟨D, hD⟩ : ∃ x, x = spD B g k := ⟨_, rfl⟩
  obtain ⟨z, hz⟩ : ∃ z, z = spS B g k := ⟨_, rfl⟩
  rw [← hok, ← hD, ← hz] at hxl
  rw [← hok, ← hD, ← hz] at hsp hzs her
  have HXL := Lib.hid hxl
  have HZS := Lib.hid hzs
  have HER := Lib.hid her
  clear hr hb hok hD hz hxl hzs her hrel hS
  go_enter Tryz.func47, Tryz.ntmps47
  go_wp2_with (fail)
  rw [← hW1, ← hgb]
  clear hW1 hgb
  refine hsp.mono ?_
  rintro e w2 ⟨rfl, hb2⟩
  have hB2 := hB1.trans (hb2.mono hB1.size)
  have hx2 := (hx1.next hb2).next ((Below.refl _ _).alloc (Nat.le_refl _) (.cells #[.int .i64 D, .int .i64 z] 150 (0, 0)))
  obtain ⟨W3, hW3⟩ : ∃ W3, W3 = w2.alloc (.cells #[.int .i64 D, .int .i64 z] 150 (0, 0)) := ⟨_, rfl⟩
  obtain ⟨gs, hgs⟩ : ∃ gs, gs = w2.heap.size := ⟨_, rfl⟩
  have hB3 : Below w.heap.size w W3 := by rw [hW3]; exact hB2.alloc hB2.size _
  have s0 : W3.cell? ⟨gs, 0, none⟩ = some (.int .i64 D) := by rw [hW3, hgs]; simp
  have s1 : W3.cell? ⟨gs, 1, none⟩ = some (.int .i64 z) := by rw [hW3, hgs]; simp
  have sl : gs < W3.heap.size := by rw [hW3, hgs]; simp
  rw [← hW3] at hx2
  have HX2 := Lib.hid hx2
  have HB3 := Lib.hid hB3
  obtain ⟨m0, m7⟩ := HC.out W3 hB3
  clear hsp hb2 hB1 hx1 hB2 hx2 hB3 c1 c2 c3 hbl
  cases ok with
  | false =>
    have hc : chkE R false = 28 := rfl
    have eZ : Hid (zs = []) := by show _ = _; rw [HZS.out, hc]; rfl
    have eE : Hid (er = 28) := by show _ = _; rw [HER.out, hc]; rfl
    have HBX := HB3
    have HXX := HX2
    rw [hW3] at HBX HXX
    clear hc m0 m7 s0 s1 sl HB3 HX2 hgs HC HC1
    clear hW3
    obtain ⟨lt, ⟨v0, c0⟩, ⟨v1, c1⟩, ⟨v2, c2⟩, f0, f1, f2⟩ := HXX.out
    go_wp2_with (fail)
    refine bodyPost_ret (v := .tuple #[blV 0 0 none 0 0, .int .i64 28]) ?_ rfl ⟨none, 0, 0, ?_, ?_, ?_⟩
    · obtain ⟨e0, e1, e2⟩ := set_three c0 c1 c2 (.int .i64 0) (.int .i64 0) (.slice none 0 0)
      simp [results, Tryz.results47, go_sem, e0, e1, e2]
    · rw [eZ.out, eE.out]; rfl
    · rw [eZ.out]; exact Pin.zero _
    · have hg := HG.out
      exact ((HBX.out.setCell (p := ⟨gb, 0, none⟩) (by show _ ≤ gb; omega) _).setCell (p := ⟨gb, 1, none⟩) (by show _ ≤ gb; omega) _).setCell (p := ⟨gb, 2, none⟩) (by show _ ≤ gb; omega) _
  | true =>
    obtain ⟨x, a, rfl, hx3, ha3, hsg, hza, hq1⟩ := HXL.out rfl
    cases hoff : R.off with
    | true =>
      rw [hoff] at m7
      have hc : chkE R true = 12 := by unfold chkE; rw [hoff]; rfl
      have eZ : Hid (zs = []) := by show _ = _; rw [HZS.out, hc]; rfl
      have eE : Hid (er = 12) := by show _ = _; rw [HER.out, hc]; rfl
      have HBX := HB3
      have HXX := HX2
      rw [hW3] at HBX HXX m0 m7
      clear hc s0 s1 sl HB3 HX2 hgs HC HC1 hoff hq1 hza
      clear hW3
      obtain ⟨lt, ⟨v0, c0⟩, ⟨v1, c1⟩, ⟨v2, c2⟩, f0, f1, f2⟩ := HXX.out
      go_wp2_with (fail)
      refine bodyPost_ret (v := .tuple #[blV 0 0 none 0 0, .int .i64 12]) ?_ rfl ⟨none, 0, 0, ?_, ?_, ?_⟩
      · obtain ⟨e0, e1, e2⟩ := set_three c0 c1 c2 (.int .i64 0) (.int .i64 0) (.slice none 0 0)
        simp [results, Tryz.results47, go_sem, e0, e1, e2]
      · rw [eZ.out, eE.out]; rfl
      · rw [eZ.out]; exact Pin.zero _
      · have hg := HG.out
        exact ((HBX.out.setCell (p := ⟨gb, 0, none⟩) (by show _ ≤ gb; omega) _).setCell (p := ⟨gb, 1, none⟩) (by show _ ≤ gb; omega) _).setCell (p := ⟨gb, 2, none⟩) (by show _ ≤ gb; omega) _
    | false =>
      rw [hoff] at m7
      have hc : chkE R true = 0 := by unfold chkE; rw [hoff]; rfl
      rw [if_pos hc] at HZS HER
      have HGD : Hid (∀ w', Below w.heap.size w w' → Calls Tryz.prog 91 #[.pointer (some ⟨b, 0, none⟩), spV x z, .int .i64 q] w' (RetN w' (brV B R x z) (rdO B R z q x))) := fun w' h' => good_any (B := B) (x : Int) z q (HR.out.below h') (HB.out.next h') HREL.out
      have HOT : Hid (∀ w', Below w.heap.size w w' → Calls Tryz.prog 92 #[.pointer (some ⟨b, 0, none⟩), .int .i64 g, .int .i64 a, spV x z, .int .i64 q] w' (RetN w' (resL B R z q x 3) (resO B R z q x 3))) := fun w' h' => by
        have := others_any (B := B) g q a x (HR.out.below h') (HB.out.next h') HREL.out HSM.out hsg ha3 hx3
        rw [← hza] at this
        exact this
      have hgd := HGD.out W3 HB3.out
      rw [hW3] at m0 m7
      clear hc hoff hza HGD HC hsg
      cases hro : rdO B R z q (x : Int) with
      | true =>
        have eZ : Hid (zs = brV B R x z) := by show _ = _; rw [HZS.out, if_pos hro]
        have eE : Hid (er = 0) := by show _ = _; rw [HER.out, hro]; rfl
        rw [hro, ← eZ.out] at hgd
        clear hro hq1 HOT HC1
        rw [hW3] at s0 s1
        rw [hgs] at s0 s1
        go_wp2_with (fail)
        rw [← hW3]
        clear hW3 s0 s1 m0 m7
        refine hgd.mono ?_
        rintro e w5 ⟨a5, n5, c5, rfl, hp5, _, hb5⟩
        have HB5 := Lib.hid (HB3.out.trans (hb5.mono HB3.out.size))
        have HX5 := Lib.hid (HX2.out.next hb5)
        have HP5 := Lib.hid hp5
        clear hgd hp5 hb5
        go_wp2_with (fail)
        refine (refDecN_any a5 n5 c5 zs w5 HP5.out).mono ?_
        rintro e w6 ⟨a6, n6, c6, rfl, hp6, hn6, hb6⟩
        have HN6 : Hid (∀ y, a6 = some y → y.block ≠ gb) := fun y hy => by have := hn6 y hy; have := HX5.out.lt; omega
        have HB6 := HB5.out.trans (hb6.mono HB5.out.size)
        have HX6 := HX5.out.next hb6
        have HP6 := Lib.hid hp6
        have HBF := Lib.hid HB6
        obtain ⟨o1, ho1⟩ : ∃ o, o = decN zs 4 2 := ⟨_, rfl⟩
        obtain ⟨o2, ho2⟩ : ∃ o, o = decN zs 6 2 := ⟨_, rfl⟩
        obtain ⟨o0, ho0⟩ : ∃ o, o = decN zs 0 4 := ⟨_, rfl⟩
        rw [← ho1, ← ho2, ← ho0]
        have HO1 := Lib.hid ho1
        have HO2 := Lib.hid ho2
        obtain ⟨lt, ⟨v0, c0⟩, ⟨v1, c1⟩, ⟨v2, c2⟩, f0, f1, f2⟩ := HX6
        clear hp6 hb6 hn6 HB6 ho1 ho2 ho0
        go_wp2_with (fail)
        refine bodyPost_ret (v := .tuple #[blV o1 o2 a6 n6 c6, .int .i64 0]) ?_ rfl ⟨a6, n6, c6, ?_, ?_, ?_⟩
        · obtain ⟨e0, e1, e2⟩ := set_three c0 c1 c2 (.int .i64 o1) (.int .i64 o2) (.slice a6 n6 c6)
          have e0 := cell_alloc_l (.cells #[.int .i64 o0, .int .i64 o1, .int .i64 o2] 102) e0
          have e1 := cell_alloc_l (.cells #[.int .i64 o0, .int .i64 o1, .int .i64 o2] 102) e1
          have e2 := cell_alloc_l (.cells #[.int .i64 o0, .int .i64 o1, .int .i64 o2] 102) e2
          simp [results, Tryz.results47, go_sem, e0, e1, e2]
        · rw [← HO1.out, ← HO2.out, eE.out]
        · exact (((HP6.out.setCell _ (.inr HN6.out)).setCell _ (.inr HN6.out)).setCell _ (.inr HN6.out)).alloc _
        · have hg := HG.out
          exact (((HBF.out.setCell (p := ⟨gb, 0, none⟩) (by show _ ≤ gb; omega) _).setCell (p := ⟨gb, 1, none⟩) (by show _ ≤ gb; omega) _).setCell (p := ⟨gb, 2, none⟩) (by show _ ≤ gb; omega) _).alloc (by simpa using HBF.out.size) _
      | false =>
        have HZ2 : Hid (zs = resL B R z q x 3) := by show _ = _; rw [HZS.out, hro]; rfl
        have HE2 : Hid (er = if resO B R z q x 3 then 0 else 14) := by show _ = _; rw [HER.out, hro]; rfl
        rw [hro] at hgd
        clear hro
        rw [hW3] at s0 s1
        rw [hgs] at s0 s1
        go_wp2_with (fail)
        rw [← hW3]
        rw [← hW3, ← hgs] at s0 s1
        rw [← hgs]
        clear hW3 m0 m7 hgs
        refine hgd.mono ?_
        rintro e w4 ⟨a4, n4, c4, rfl, _, _, hb4⟩
        have t0 := (hb4.cell (p := ⟨gs, 0, none⟩) sl).trans s0
        have t1 := (hb4.cell (p := ⟨gs, 1, none⟩) sl).trans s1
        have tl := Nat.lt_of_lt_of_le sl hb4.size
        have HB4 := Lib.hid (HB3.out.trans (hb4.mono HB3.out.size))
        have HX4 := Lib.hid (HX2.out.next hb4)
        clear hgd hb4 s0 s1 sl HB3 HX2
        go_wp2_with (fail)
        have hb0 : Below w4.heap.size w4 w4.drew := below_drewN (Below.refl _ w4) 1
        have y0 := (hb0.cell (p := ⟨gs, 0, none⟩) tl).trans t0
        have y1 := (hb0.cell (p := ⟨gs, 1, none⟩) tl).trans t1
        have HB0 := Lib.hid (HB4.out.trans (hb0.mono HB4.out.size))
        have HX0 := Lib.hid (HX4.out.next hb0)
        have tl0 : gs < w4.drew.heap.size := tl
        have y2 := HC1.out _ HB0.out
        generalize hW5 : w4.drew = W5 at *
        clear hb0 t0 t1 tl HB4 HX4
        have hw2 : IntKind.i64.wrap 2 = 2 := by decide
        refine wp_region_held_drew (S := fun w' => w'.cell? ⟨gs, 0, none⟩ = some (.int .i64 x) ∧ w'.cell? ⟨gs, 1, none⟩ = some (.int .i64 z) ∧ w'.cell? ⟨b, 1, none⟩ = some (.int .i64 3)) (by kernel_rfl) ?_ (fun hHeld => ?_)
        · rw [hW5]; exact ⟨y0, y1, y2⟩
        rw [hW5] at hHeld
        rw [hW5]
        clear hW5
        refine rgY 0 ?_ rfl (by kernel_rfl) (fun _ _ _ h => h) (.inl ⟨by rfl, fun w hSw => ?_⟩) (by assumption) ?_
        rotate_left
        · (try dsimp only at hSw); go_simp; try with_reducible rfl
        simp only [Act.put, rg1, rg2, rg3, rg4, rg6]
        refine rgY 1 ?_ rfl (by kernel_rfl) (fun _ _ _ h => h) (.inl ⟨by rfl, fun w hSw => ?_⟩) (by assumption) ?_
        rotate_left
        · (try dsimp only at hSw); go_simp; try with_reducible rfl
        simp only [Act.put, rg1, rg2, rg3, rg4, rg5, rg6]
        refine rgY 2 ?_ rfl (by kernel_rfl) (fun _ _ _ h => h) (.inl ⟨by rfl, fun w hSw => ?_⟩) (by assumption) ?_
        rotate_left
        · (try dsimp only at hSw); go_simp; try with_reducible rfl
        simp only [Act.put, rg1, rg2, rg3, rg4, rg5, rg6]
        refine rgY 3 ?_ rfl (by kernel_rfl) (fun _ _ _ h => h) (.inl ⟨by rfl, fun w hSw => ?_⟩) (by assumption) ?_
        rotate_left
        · (try dsimp only at hSw); go_simp; try with_reducible rfl
        simp only [Act.put, rg1, rg2, rg3, rg4, rg5, rg6]
        refine rgY 4 ?_ rfl (by kernel_rfl) (fun _ _ _ h => h) (.inl ⟨by rfl, fun w hSw => ?_⟩) (by assumption) ?_
        rotate_left
        · (try dsimp only at hSw); go_simp; try with_reducible rfl
        simp only [Act.put, rg1, rg2, rg3, rg4, rg5, rg6]
        refine rgY 5 ?_ rfl (by kernel_rfl) (fun _ _ _ h => h) (.inl ⟨by rfl, fun w hSw => ?_⟩) (by assumption) ?_
        rotate_left
        · (try dsimp only at hSw); go_simp; try with_reducible rfl
        simp only [Act.put, rg1, rg2, rg3, rg4, rg5, rg6]
        refine rgY 6 ?_ rfl (by kernel_rfl) (fun _ _ _ h => h) (.inl ⟨by rfl, fun w hSw => ?_⟩) (by assumption) ?_
        rotate_left
        · (try dsimp only at hSw); go_simp; try with_reducible rfl
        simp only [Act.put, rg1, rg2, rg3, rg4, rg5, rg6]
        refine rgY 7 ?_ rfl (by kernel_rfl) (fun _ _ _ h => h) (.inl ⟨by rfl, fun w hSw => ?_⟩) (by assumption) ?_
        rotate_left
        · (try dsimp only at hSw); go_simp; try with_reducible rfl
        simp only [Act.put, rg1, rg2, rg3, rg4, rg5, rg6]
        refine rgY 8 ?_ rfl (by kernel_rfl) (fun _ _ _ h => h) (.inl ⟨by rfl, fun w hSw => ?_⟩) (by assumption) ?_
        rotate_left
        · (try dsimp only at hSw); go_simp; try with_reducible rfl
        simp only [Act.put, rg1, rg2, rg3, rg4, rg5, rg6]
        refine rgY 9 ?_ rfl (by kernel_rfl) (fun _ _ _ h => h) (.inl ⟨by rfl, fun w hSw => ?_⟩) (by assumption) ?_
        rotate_left
        · (try dsimp only at hSw); go_simp; try with_reducible rfl
        simp only [Act.put, rg1, rg2, rg3, rg4, rg5, rg6]
        refine rgY 10 ?_ rfl (by kernel_rfl) (fun _ _ _ h => h) (.inl ⟨by rfl, fun w hSw => ?_⟩) (by assumption) ?_
        rotate_left
        · (try dsimp only at hSw); go_simp; try with_reducible rfl
        simp only [Act.put, rg1, rg2, rg3, rg4, rg5, rg6]
        refine rgY 11 ?_ rfl (by kernel_rfl) (fun _ _ _ h => h) (.inl ⟨by rfl, fun w hSw => ?_⟩) (by assumption) ?_
        rotate_left
        · (try dsimp only at hSw); go_simp; try with_reducible rfl
        simp only [Act.put, rg1, rg2, rg3, rg4, rg5, rg6]
        refine wpAnyH_ready (rs := [12]) (by kernel_rfl) (by simp) ?_
        refine AllReadyH.cons rfl (fun K hK => ?_) AllReadyH.nil
        simp only [List.getElem_toArray, List.getElem_cons_succ, List.getElem_cons_zero]
        go_simp
        have hot := HOT.out W5 HB0.out
        cases hre : resO B R z q x 3 with
        | true =>
          have eE : Hid (er = 0) := by show _ = _; rw [HE2.out, hre]; rfl
          rw [hre, ← HZ2.out] at hot
          refine hot.mono ?_
          clear hre HOT
          rintro e w5 ⟨a5, n5, c5, rfl, hp5, _, hb5⟩
          have HB5 := Lib.hid (HB0.out.trans (hb5.mono HB0.out.size))
          have HX5 := Lib.hid (HX0.out.next hb5)
          have HP5 := Lib.hid hp5
          have u0 := (hb5.cell (p := ⟨gs, 0, none⟩) tl0).trans y0
          have u1 := (hb5.cell (p := ⟨gs, 1, none⟩) tl0).trans y1
          have u2 := HC1.out _ HB5.out
          clear hot hp5 hb5
          go_wp2_with (fail)
          refine hK.out _ _ ⟨u0, u1, u2⟩ (fun hHeld => ?_)
          clear hK K y0 y1 y2 u0 u1 u2 tl0 hq1 HC1
          refine rgY 13 ?_ rfl (by kernel_rfl) (fun _ _ _ h => h) (.inl ⟨by rfl, fun w hSw => ?_⟩) (by assumption) ?_
          rotate_left
          · (try dsimp only at hSw); go_simp; try with_reducible rfl
          simp only [Act.put, rg1, rg2, rg3, rg4, rg5, rg6]
          refine rgY 14 ?_ rfl (by kernel_rfl) (fun _ _ _ h => h) (.inl ⟨by rfl, fun w hSw => ?_⟩) (by assumption) ?_
          rotate_left
          · (try dsimp only at hSw); go_simp; try with_reducible rfl
          simp only [Act.put, rg1, rg2, rg3, rg4, rg5, rg6]
          refine rgY 15 ?_ rfl (by kernel_rfl) (fun _ _ _ h => h) (.inl ⟨by rfl, fun w hSw => ?_⟩) (by assumption) ?_
          rotate_left
          · (try dsimp only at hSw); go_simp; try with_reducible rfl
          simp only [Act.put, rg1, rg2, rg3, rg4, rg5, rg6]
          refine rgY 16 ?_ rfl (by kernel_rfl) (fun _ _ _ h => h) (.inl ⟨by rfl, fun w hSw => ?_⟩) (by assumption) ?_
          rotate_left
          · (try dsimp only at hSw); go_simp; try with_reducible rfl
          simp only [Act.put, rg1, rg2, rg3, rg4, rg5, rg6]
          refine rgY 17 ?_ rfl (by kernel_rfl) (fun _ _ _ h => h) (.inl ⟨by rfl, fun w hSw => ?_⟩) (by assumption) ?_
          rotate_left
          · (try dsimp only at hSw); go_simp; try with_reducible rfl
          simp only [Act.put, rg1, rg2, rg3, rg4, rg5, rg6]
          refine wpAnyH_done (by kernel_rfl) ?_ _
          clear hHeld
          go_wp2_with (fail)
          refine (refDecN_any a5 n5 c5 zs w5 HP5.out).mono ?_
          rintro e w6 ⟨a6, n6, c6, rfl, hp6, hn6, hb6⟩
          have HN6 : Hid (∀ y, a6 = some y → y.block ≠ gb) := fun y hy => by have := hn6 y hy; have := HX5.out.lt; omega
          have HB6 := HB5.out.trans (hb6.mono HB5.out.size)
          have HX6 := HX5.out.next hb6
          have HP6 := Lib.hid hp6
          have HBF := Lib.hid HB6
          obtain ⟨o1, ho1⟩ : ∃ o, o = decN zs 4 2 := ⟨_, rfl⟩
          obtain ⟨o2, ho2⟩ : ∃ o, o = decN zs 6 2 := ⟨_, rfl⟩
          obtain ⟨o0, ho0⟩ : ∃ o, o = decN zs 0 4 := ⟨_, rfl⟩
          rw [← ho1, ← ho2, ← ho0]
          have HO1 := Lib.hid ho1
          have HO2 := Lib.hid ho2
          obtain ⟨lt, ⟨v0, c0⟩, ⟨v1, c1⟩, ⟨v2, c2⟩, f0, f1, f2⟩ := HX6
          clear hp6 hb6 hn6 HB6 ho1 ho2 ho0
          go_wp2_with (fail)
          refine bodyPost_ret (v := .tuple #[blV o1 o2 a6 n6 c6, .int .i64 0]) ?_ rfl ⟨a6, n6, c6, ?_, ?_, ?_⟩
          · obtain ⟨e0, e1, e2⟩ := set_three c0 c1 c2 (.int .i64 o1) (.int .i64 o2) (.slice a6 n6 c6)
            have e0 := cell_alloc_l (.cells #[.int .i64 o0, .int .i64 o1, .int .i64 o2] 102) e0
            have e1 := cell_alloc_l (.cells #[.int .i64 o0, .int .i64 o1, .int .i64 o2] 102) e1
            have e2 := cell_alloc_l (.cells #[.int .i64 o0, .int .i64 o1, .int .i64 o2] 102) e2
            simp [results, Tryz.results47, go_sem, e0, e1, e2]
          · rw [← HO1.out, ← HO2.out, eE.out]
          · exact (((HP6.out.setCell _ (.inr HN6.out)).setCell _ (.inr HN6.out)).setCell _ (.inr HN6.out)).alloc _
          · have hg := HG.out
            exact (((HBF.out.setCell (p := ⟨gb, 0, none⟩) (by show _ ≤ gb; omega) _).setCell (p := ⟨gb, 1, none⟩) (by show _ ≤ gb; omega) _).setCell (p := ⟨gb, 2, none⟩) (by show _ ≤ gb; omega) _).alloc (by simpa using HBF.out.size) _
        | false =>
          have eZ : Hid (zs = []) := by show _ = _; rw [HZ2.out, resL, hre]; rfl
          have eE : Hid (er = 14) := by show _ = _; rw [HE2.out, hre]; rfl
          rw [hre] at hot
          refine hot.mono ?_
          clear hre HOT
          rintro e w5 ⟨a5, n5, c5, rfl, hp5, _, hb5⟩
          have HBX := Lib.hid (HB0.out.trans (hb5.mono HB0.out.size))
          have HXX := Lib.hid (HX0.out.next hb5)
          have u0 := (hb5.cell (p := ⟨gs, 0, none⟩) tl0).trans y0
          have u1 := (hb5.cell (p := ⟨gs, 1, none⟩) tl0).trans y1
          have u2 := HC1.out _ HBX.out
          clear hot hp5 hb5
          go_wp2_with (fail)
          refine hK.out _ _ ⟨u0, u1, u2⟩ (fun hHeld => ?_)
          clear hK K y0 y1 y2 u0 u1 u2 tl0 hq1 HC1
          refine rgY 13 ?_ rfl (by kernel_rfl) (fun _ _ _ h => h) (.inl ⟨by rfl, fun w hSw => ?_⟩) (by assumption) ?_
          rotate_left
          · (try dsimp only at hSw); go_simp; try with_reducible rfl
          simp only [Act.put, rg1, rg2, rg3, rg4, rg5, rg6]
          refine rgY 14 ?_ rfl (by kernel_rfl) (fun _ _ _ h => h) (.inl ⟨by rfl, fun w hSw => ?_⟩) (by assumption) ?_
          rotate_left
          · (try dsimp only at hSw); go_simp; try with_reducible rfl
          simp only [Act.put, rg1, rg2, rg3, rg4, rg5, rg6]
          refine rgY 15 ?_ rfl (by kernel_rfl) (fun _ _ _ h => h) (.inl ⟨by rfl, fun w hSw => ?_⟩) (by assumption) ?_
          rotate_left
          · (try dsimp only at hSw); go_simp; try with_reducible rfl
          simp only [Act.put, rg1, rg2, rg3, rg4, rg5, rg6]
          refine rgY 16 ?_ rfl (by kernel_rfl) (fun _ _ _ h => h) (.inl ⟨by rfl, fun w hSw => ?_⟩) (by assumption) ?_
          rotate_left
          · (try dsimp only at hSw); go_simp; try with_reducible rfl
          simp only [Act.put, rg1, rg2, rg3, rg4, rg5, rg6]
          refine rgY 17 ?_ rfl (by kernel_rfl) (fun _ _ _ h => h) (.inl ⟨by rfl, fun w hSw => ?_⟩) (by assumption) ?_
          rotate_left
          · (try dsimp only at hSw); go_simp; try with_reducible rfl
          simp only [Act.put, rg1, rg2, rg3, rg4, rg5, rg6]
          refine wpAnyH_done (by kernel_rfl) ?_ _
          clear hHeld
          obtain ⟨lt, ⟨v0, c0⟩, ⟨v1, c1⟩, ⟨v2, c2⟩, f0, f1, f2⟩ := HXX.out
          go_wp2_with (fail)
          refine bodyPost_ret (v := .tuple #[blV 0 0 none 0 0, .int .i64 14]) ?_ rfl ⟨none, 0, 0, ?_, ?_, ?_⟩
          · obtain ⟨e0, e1, e2⟩ := set_three c0 c1 c2 (.int .i64 0) (.int .i64 0) (.slice none 0 0)
            simp [results, Tryz.results47, go_sem, e0, e1, e2]
          · rw [eZ.out, eE.out]; rfl
          · rw [eZ.out]; exact Pin.zero _
          · have hg := HG.out
            exact ((HBX.out.setCell (p := ⟨gb, 0, none⟩) (by show _ ≤ gb; omega) _).setCell (p := ⟨gb, 1, none⟩) (by show _ ≤ gb; omega) _).setCell (p := ⟨gb, 2, none⟩) (by show _ ≤ gb; omega) _
end

end Go.Proofs.YtacnhlmhibhlhaaGreat
