/-
  The stripe's Read, by contract.
-/
import Derived.Test.YtacnhlmhibhlhaaGreatRda
import Derived.Test.YtacnhlmhibhlhaaGreatBkb
set_option linter.unusedSimpArgs false
set_option linter.unusedVariables false
namespace Go.Proofs.YtacnhlmhibhlhaaGreat
open Go.RowKit Go.Maps
set_option linter.unusedVariables false

/-- A block, as a value. -/
abbrev blV (o i : Int) (a : Option Addr) (n c : Nat) : Value := .agg #[.int .i64 o, .int .i64 i, .slice a n c]
theorem bkO_yes {B : Bn} {g k : Int} (h : bkO B g k = true) : Bk B.d B.r B.s g k := by
  classical
  unfold bkO at h
  by_cases hh : Bk B.d B.r B.s g k
  · exact hh
  · rw [decide_eq_false hh] at h; cases h
theorem spD_lt {B : Bn} {n : Nat} {g k : Int} (hd : B.d = (n : Int)) (h : bkO B g k = true) : ∃ x : Nat, spD B g k = x ∧ x < n := by
  have hb := bkO_yes h
  have d1 := hb.d1
  rw [spD, if_pos h]
  unfold BD
  have a := Int.emod_nonneg (PD B.d (g * B.r + k / (B.d - 1)) + 1 + k % (B.d - 1)) (show B.d ≠ 0 by omega)
  have c := Int.emod_lt_of_pos (PD B.d (g * B.r + k / (B.d - 1)) + 1 + k % (B.d - 1)) (show 0 < B.d by omega)
  obtain ⟨x, hx⟩ := Int.eq_ofNat_of_zero_le a
  exact ⟨x, hx, by omega⟩
/-- What Read reads. -/
noncomputable def rbL (B : Bn) (R : Rk) (n : Nat) (g k q : Int) : List Int :=
  if chkE R (bkO B g k) = 0 then (if rdO B R (spS B g k) q (spD B g k) then brV B R (spD B g k) (spS B g k) else resL B R (spS B g k) q (spD B g k).toNat n) else []
noncomputable def rbE (B : Bn) (R : Rk) (n : Nat) (g k q : Int) : Int :=
  if chkE R (bkO B g k) = 0 then (if rdO B R (spS B g k) q (spD B g k) || resO B R (spS B g k) q (spD B g k).toNat n then 0 else 14) else chkE R (bkO B g k)
def RbPost (w : World) (zs : List Int) (er : Int) (e : Ending) (w' : World) : Prop :=
  ∃ a n c, e = .returned (.tuple #[blV (decN zs 4 2) (decN zs 6 2) a n c, .int .i64 er]) ∧ Pin w' a n c (decL zs) ∧ Below w.heap.size w w'
/-- The cells of a block's box. -/
structure Bb (w : World) (b : Nat) : Prop where
  lt : b < w.heap.size
  c0 : ∃ v, w.cell? ⟨b, 0, none⟩ = some v
  c1 : ∃ v, w.cell? ⟨b, 1, none⟩ = some v
  c2 : ∃ v, w.cell? ⟨b, 2, none⟩ = some v
  f0 : w.frozen? ⟨b, 0, none⟩ = false
  f1 : w.frozen? ⟨b, 1, none⟩ = false
  f2 : w.frozen? ⟨b, 2, none⟩ = false
theorem Bb.next {w w' : World} {b : Nat} (h : Bb w b) (hb : Below w.heap.size w w') : Bb w' b := by
  have hl := h.lt
  obtain ⟨v, hv⟩ := h.c0
  obtain ⟨u, hu⟩ := h.c1
  obtain ⟨t, ht⟩ := h.c2
  exact ⟨Nat.lt_of_lt_of_le h.lt hb.size, ⟨v, (hb.cell (p := ⟨b, 0, none⟩) hl).trans hv⟩, ⟨u, (hb.cell (p := ⟨b, 1, none⟩) hl).trans hu⟩, ⟨t, (hb.cell (p := ⟨b, 2, none⟩) hl).trans ht⟩, (hb.frozen (p := ⟨b, 0, none⟩) hl).trans h.f0, (hb.frozen (p := ⟨b, 1, none⟩) hl).trans h.f1, (hb.frozen (p := ⟨b, 2, none⟩) hl).trans h.f2⟩

theorem set_three {w : World} {g : Nat} {x0 x1 x2 : Value} (c0 : w.cell? ⟨g, 0, none⟩ = some x0) (c1 : w.cell? ⟨g, 1, none⟩ = some x1) (c2 : w.cell? ⟨g, 2, none⟩ = some x2) (u0 u1 u2 : Value) :
    (((w.setCell ⟨g, 0, none⟩ u0).setCell ⟨g, 1, none⟩ u1).setCell ⟨g, 2, none⟩ u2).cell? ⟨g, 0, none⟩ = some u0 ∧ (((w.setCell ⟨g, 0, none⟩ u0).setCell ⟨g, 1, none⟩ u1).setCell ⟨g, 2, none⟩ u2).cell? ⟨g, 1, none⟩ = some u1 ∧ (((w.setCell ⟨g, 0, none⟩ u0).setCell ⟨g, 1, none⟩ u1).setCell ⟨g, 2, none⟩ u2).cell? ⟨g, 2, none⟩ = some u2 := by
  have n01 : (⟨g, 0, none⟩ : Addr) ≠ ⟨g, 1, none⟩ := by simp
  have n02 : (⟨g, 0, none⟩ : Addr) ≠ ⟨g, 2, none⟩ := by simp
  have n12 : (⟨g, 1, none⟩ : Addr) ≠ ⟨g, 2, none⟩ := by simp
  refine ⟨?_, ?_, ?_⟩
  · rw [World.cell?_setCell_other _ _ _ _ n02.symm, World.cell?_setCell_other _ _ _ _ n01.symm]
    exact cell_set_same _ _ _ _ _ c0
  · rw [World.cell?_setCell_other _ _ _ _ n12.symm]
    exact cell_set_same _ _ _ _ _ ((World.cell?_setCell_other _ _ _ _ n01).trans c1)
  · exact cell_set_same _ _ _ _ _ (((World.cell?_setCell_other _ _ _ _ n12).trans (World.cell?_setCell_other _ _ _ _ n02)).trans c2)
section
variable {M : Nat → Prop} {L : Lay} {R : Rk} {w : World} {b : Nat} {B : Bn}
set_option maxRecDepth 100000 in
set_option maxHeartbeats 4000000 in
theorem sRead_any {n : Nat} (g k q : Int) (hr : RackAt w M L R) (hb : BnAt w b L.p B) (hd : B.d = (n : Int)) (hn : n ≤ 16) :
    Calls Tryz.prog 81 #[.pointer (some ⟨b, 0, none⟩), .int .i64 g, .int .i64 k, .int .i64 q] w (RbPost w (rbL B R n g k q) (rbE B R n g k q)) := by
  obtain ⟨W1, hW1⟩ : ∃ W1, W1 = w.alloc (.cells #[.int .i64 0, .int .i64 0, .slice none 0 0] 65 (0, 0)) := ⟨_, rfl⟩
  obtain ⟨gb, hgb⟩ : ∃ gb, gb = w.heap.size := ⟨_, rfl⟩
  have hB1 : Below w.heap.size w W1 := by rw [hW1]; exact (Below.refl _ _).alloc (Nat.le_refl _) _
  have hx1 : Bb W1 gb := by rw [hW1, hgb]; exact ⟨by simp, ⟨.int .i64 0, by simp⟩, ⟨.int .i64 0, by simp⟩, ⟨.slice none 0 0, by simp⟩, by simp, by simp, by simp⟩
  have HG := Lib.hid hgb
  have hsp := spotOf_any g k (hb.next hB1)
  have HR := Lib.hid hr
  have HB := Lib.hid hb
  have hxl := fun h => spD_lt (B := B) (g := g) (k := k) hd h
  obtain ⟨zs, hzs⟩ : ∃ zs, zs = rbL B R n g k q := ⟨_, rfl⟩
  obtain ⟨er, her⟩ : ∃ er, er = rbE B R n g k q := ⟨_, rfl⟩
  rw [← hzs, ← her]
  unfold rbL at hzs
  unfold rbE at her
  obtain ⟨ok, hok⟩ : ∃ ok, ok = bkO B g k := ⟨_, rfl⟩
  obtain ⟨x, hx⟩ : ∃ x, x = spD B g k := ⟨_, rfl⟩
  obtain ⟨z, hz⟩ : ∃ z, z = spS B g k := ⟨_, rfl⟩
  rw [← hok, ← hx] at hxl
  rw [← hok, ← hx, ← hz] at hsp hzs her
  have HXL := Lib.hid hxl
  have HZS := Lib.hid hzs
  have HER := Lib.hid her
  clear hr hb hok hx hz hxl hzs her
  have HD := Lib.hid hd
  go_enter Tryz.func81, Tryz.ntmps81
  go_wp2_with (fail)
  rw [← hW1, ← hgb]
  clear hW1 hgb
  refine hsp.mono ?_
  rintro e w2 ⟨rfl, hb2⟩
  have hB2 := hB1.trans (hb2.mono hB1.size)
  have hx2 := (hx1.next hb2).next ((Below.refl _ _).alloc (Nat.le_refl _) (.cells #[.int .i64 x, .int .i64 z] 150 (0, 0)))
  obtain ⟨W3, hW3⟩ : ∃ W3, W3 = w2.alloc (.cells #[.int .i64 x, .int .i64 z] 150 (0, 0)) := ⟨_, rfl⟩
  obtain ⟨gs, hgs⟩ : ∃ gs, gs = w2.heap.size := ⟨_, rfl⟩
  have hB3 : Below w.heap.size w W3 := by rw [hW3]; exact hB2.alloc hB2.size _
  have s0 : W3.cell? ⟨gs, 0, none⟩ = some (.int .i64 x) := by rw [hW3, hgs]; simp
  have s1 : W3.cell? ⟨gs, 1, none⟩ = some (.int .i64 z) := by rw [hW3, hgs]; simp
  have sl : gs < W3.heap.size := by rw [hW3, hgs]; simp
  have hch := check_any ok (HR.out.below hB3) (HB.out.next hB3)
  rw [← hW3] at hx2
  have HX2 := Lib.hid hx2
  have HB3 := Lib.hid hB3
  clear hsp hb2 hB1 hx1 hB2 hx2 hB3
  go_wp2_with (fail)
  rw [← hW3, ← hgs]
  clear hW3 hgs
  refine hch.mono ?_
  rintro e w4 ⟨rfl, rfl⟩
  obtain ⟨c, hc⟩ : ∃ c, c = chkE R ok := ⟨_, rfl⟩
  rw [← hc] at HZS HER ⊢
  have HC := Lib.hid hc
  clear hch hc
  by_cases h0 : c = 0
  · subst h0
    have hok : ok = true := by
      have := HC.out
      unfold chkE at this
      cases ok
      · cases this
      · rfl
    obtain ⟨i, hi, hin⟩ := HXL.out hok
    subst hi
    have hrd := sread_any (i : Int) z q (HR.out.below HB3.out) (HB.out.next HB3.out)
    have HIN := Lib.hid hin
    clear hok hin
    cases hro : rdO B R z q (i : Int) with
    | true =>
      have eZ : Hid (zs = brV B R i z) := by show _ = _; rw [HZS.out, if_pos rfl, if_pos hro]
      have eE : Hid (er = 0) := by show _ = _; rw [HER.out, if_pos rfl, hro]; rfl
      rw [hro] at hrd
      rw [show rdL B R z q (i : Int) = zs by rw [rdL, if_pos hro, eZ.out]] at hrd
      clear hro
      go_wp2_with (fail)
      refine hrd.mono ?_
      rintro e w5 ⟨a5, n5, c5, rfl, hp5, _, hb5⟩
      have hdc := decn_any a5 n5 c5 zs w5 hp5
      have HB5 := Lib.hid (HB3.out.trans (hb5.mono HB3.out.size))
      have HX5 := Lib.hid (HX2.out.next hb5)
      clear hrd hp5 hb5 s0 s1
      go_wp2_with (fail)
      refine hdc.mono ?_
      rintro e w6 ⟨a6, n6, c6, rfl, hp6, hn6, hb6⟩
      have HN6 : Hid (∀ y, a6 = some y → y.block ≠ gb) := fun y hy => by have := hn6 y hy; have := HX5.out.lt; omega
      have HB6 := HB5.out.trans (hb6.mono HB5.out.size)
      have HX6 := HX5.out.next hb6
      have HP6 := Lib.hid hp6
      have HBF := Lib.hid HB6
      obtain ⟨o1, ho1⟩ : ∃ o, o = decN zs 4 2 := ⟨_, rfl⟩
      obtain ⟨o2, ho2⟩ : ∃ o, o = decN zs 6 2 := ⟨_, rfl⟩
      obtain ⟨o0, ho0⟩ : ∃ o, o = decN zs 0 4 := ⟨_, rfl⟩
      rw [← ho1, ← ho2, ← ho0]
      have HO1 := Lib.hid ho1
      have HO2 := Lib.hid ho2
      obtain ⟨lt, ⟨v0, c0⟩, ⟨v1, c1⟩, ⟨v2, c2⟩, f0, f1, f2⟩ := HX6
      clear hdc hp6 hb6 hn6 HB6 ho1 ho2 ho0
      go_wp2_with (fail)
      refine bodyPost_ret (v := .tuple #[blV o1 o2 a6 n6 c6, .int .i64 0]) ?_ rfl ⟨a6, n6, c6, ?_, ?_, ?_⟩
      · obtain ⟨e0, e1, e2⟩ := set_three c0 c1 c2 (.int .i64 o1) (.int .i64 o2) (.slice a6 n6 c6)
        have e0 := cell_alloc_l (.cells #[.int .i64 o0, .int .i64 o1, .int .i64 o2] 102) e0
        have e1 := cell_alloc_l (.cells #[.int .i64 o0, .int .i64 o1, .int .i64 o2] 102) e1
        have e2 := cell_alloc_l (.cells #[.int .i64 o0, .int .i64 o1, .int .i64 o2] 102) e2
        simp [results, Tryz.results81, go_sem, e0, e1, e2]
      · rw [← HO1.out, ← HO2.out, eE.out]
      · exact (((HP6.out.setCell _ (.inr HN6.out)).setCell _ (.inr HN6.out)).setCell _ (.inr HN6.out)).alloc _
      · have hg := HG.out
        exact (((HBF.out.setCell (p := ⟨gb, 0, none⟩) (by show _ ≤ gb; omega) _).setCell (p := ⟨gb, 1, none⟩) (by show _ ≤ gb; omega) _).setCell (p := ⟨gb, 2, none⟩) (by show _ ≤ gb; omega) _).alloc (by simpa using HBF.out.size) _
    | false =>
      rw [hro] at hrd
      have HRS : Hid (∀ w', Below w.heap.size w w' → Calls Tryz.prog 121 #[.pointer (some ⟨b, 0, none⟩), spV i z, .int .i64 q] w' (RetN w' (resL B R z q i n) (resO B R z q i n))) := fun w' hb' =>
        srestore_any z q (HR.out.below hb') (HB.out.next hb') HD.out hn HIN.out
      have HZ2 : Hid (zs = resL B R z q i n) := by show _ = _; rw [HZS.out, if_pos rfl, hro]; rfl
      have HE2 : Hid (er = if resO B R z q i n then 0 else 14) := by show _ = _; rw [HER.out, if_pos rfl, hro]; rfl
      clear hro
      go_wp2_with (fail)
      refine hrd.mono ?_
      rintro e w5 ⟨a5, n5, c5, rfl, _, _, hb5⟩
      have t0 := (hb5.cell (p := ⟨gs, 0, none⟩) sl).trans s0
      have t1 := (hb5.cell (p := ⟨gs, 1, none⟩) sl).trans s1
      have HB3' := Lib.hid (HB3.out.trans (hb5.mono HB3.out.size))
      have HX2' := Lib.hid (HX2.out.next hb5)
      have hrs := HRS.out w5 HB3'.out
      clear hrd hb5 s0 s1 HB3 HX2
      have HB3 := HB3'
      have HX2 := HX2'
      clear HB3' HX2' HRS
      cases hre : resO B R z q i n with
      | true =>
        have eZ := HZ2
        have eE : Hid (er = 0) := by show _ = _; rw [HE2.out, hre]; rfl
        rw [hre] at hrs
        rw [← HZ2.out] at hrs
        clear hre
        go_wp2_with (fail)
        refine hrs.mono ?_
        rintro e w5' ⟨a5, n5, c5, rfl, hp5, _, hb5⟩
        have hdc := decn_any a5 n5 c5 zs w5' hp5
        have HB5 := Lib.hid (HB3.out.trans (hb5.mono HB3.out.size))
        have HX5 := Lib.hid (HX2.out.next hb5)
        clear hrs hp5 hb5 t0 t1
        go_wp2_with (fail)
        refine hdc.mono ?_
        rintro e w6 ⟨a6, n6, c6, rfl, hp6, hn6, hb6⟩
        have HN6 : Hid (∀ y, a6 = some y → y.block ≠ gb) := fun y hy => by have := hn6 y hy; have := HX5.out.lt; omega
        have HB6 := HB5.out.trans (hb6.mono HB5.out.size)
        have HX6 := HX5.out.next hb6
        have HP6 := Lib.hid hp6
        have HBF := Lib.hid HB6
        obtain ⟨o1, ho1⟩ : ∃ o, o = decN zs 4 2 := ⟨_, rfl⟩
        obtain ⟨o2, ho2⟩ : ∃ o, o = decN zs 6 2 := ⟨_, rfl⟩
        obtain ⟨o0, ho0⟩ : ∃ o, o = decN zs 0 4 := ⟨_, rfl⟩
        rw [← ho1, ← ho2, ← ho0]
        have HO1 := Lib.hid ho1
        have HO2 := Lib.hid ho2
        obtain ⟨lt, ⟨v0, c0⟩, ⟨v1, c1⟩, ⟨v2, c2⟩, f0, f1, f2⟩ := HX6
        clear hdc hp6 hb6 hn6 HB6 ho1 ho2 ho0
        go_wp2_with (fail)
        refine bodyPost_ret (v := .tuple #[blV o1 o2 a6 n6 c6, .int .i64 0]) ?_ rfl ⟨a6, n6, c6, ?_, ?_, ?_⟩
        · obtain ⟨e0, e1, e2⟩ := set_three c0 c1 c2 (.int .i64 o1) (.int .i64 o2) (.slice a6 n6 c6)
          have e0 := cell_alloc_l (.cells #[.int .i64 o0, .int .i64 o1, .int .i64 o2] 102) e0
          have e1 := cell_alloc_l (.cells #[.int .i64 o0, .int .i64 o1, .int .i64 o2] 102) e1
          have e2 := cell_alloc_l (.cells #[.int .i64 o0, .int .i64 o1, .int .i64 o2] 102) e2
          simp [results, Tryz.results81, go_sem, e0, e1, e2]
        · rw [← HO1.out, ← HO2.out, eE.out]
        · exact (((HP6.out.setCell _ (.inr HN6.out)).setCell _ (.inr HN6.out)).setCell _ (.inr HN6.out)).alloc _
        · have hg := HG.out
          exact (((HBF.out.setCell (p := ⟨gb, 0, none⟩) (by show _ ≤ gb; omega) _).setCell (p := ⟨gb, 1, none⟩) (by show _ ≤ gb; omega) _).setCell (p := ⟨gb, 2, none⟩) (by show _ ≤ gb; omega) _).alloc (by simpa using HBF.out.size) _
      | false =>
        have eZ : Hid (zs = []) := by show _ = _; rw [HZ2.out, resL, hre]; rfl
        have eE : Hid (er = 14) := by show _ = _; rw [HE2.out, hre]; rfl
        rw [hre] at hrs
        clear hre
        go_wp2_with (fail)
        refine hrs.mono ?_
        rintro e w6 ⟨a6, n6, c6, rfl, _, _, hb6⟩
        have HBX := Lib.hid (HB3.out.trans (hb6.mono HB3.out.size))
        have HXX := Lib.hid (HX2.out.next hb6)
        clear hrs hb6 t0 t1
        obtain ⟨lt, ⟨v0, c0⟩, ⟨v1, c1⟩, ⟨v2, c2⟩, f0, f1, f2⟩ := HXX.out
        go_wp2_with (fail)
        refine bodyPost_ret (v := .tuple #[blV 0 0 none 0 0, .int .i64 14]) ?_ rfl ⟨none, 0, 0, ?_, ?_, ?_⟩
        · obtain ⟨e0, e1, e2⟩ := set_three c0 c1 c2 (.int .i64 0) (.int .i64 0) (.slice none 0 0)
          simp [results, Tryz.results81, go_sem, e0, e1, e2]
        · rw [eZ.out, eE.out]; rfl
        · rw [eZ.out]; exact Pin.zero _
        · have hg := HG.out
          exact ((HBX.out.setCell (p := ⟨gb, 0, none⟩) (by show _ ≤ gb; omega) _).setCell (p := ⟨gb, 1, none⟩) (by show _ ≤ gb; omega) _).setCell (p := ⟨gb, 2, none⟩) (by show _ ≤ gb; omega) _
  · have eZ : Hid (zs = []) := by show _ = _; rw [HZS.out, if_neg h0]
    have eE : Hid (er = c) := by show _ = _; rw [HER.out, if_neg h0]
    have hc0 : (c == 0) = false := by simpa using h0
    have HBX := HB3
    have HXX := HX2
    obtain ⟨lt, ⟨v0, c0⟩, ⟨v1, c1⟩, ⟨v2, c2⟩, f0, f1, f2⟩ := HXX.out
    go_wp2_with (fail)
    refine bodyPost_ret (v := .tuple #[blV 0 0 none 0 0, .int .i64 c]) ?_ rfl ⟨none, 0, 0, ?_, ?_, ?_⟩
    · obtain ⟨e0, e1, e2⟩ := set_three c0 c1 c2 (.int .i64 0) (.int .i64 0) (.slice none 0 0)
      simp [results, Tryz.results81, go_sem, e0, e1, e2]
    · rw [eZ.out, eE.out]; rfl
    · rw [eZ.out]; exact Pin.zero _
    · have hg := HG.out
      exact ((HBX.out.setCell (p := ⟨gb, 0, none⟩) (by show _ ≤ gb; omega) _).setCell (p := ⟨gb, 1, none⟩) (by show _ ≤ gb; omega) _).setCell (p := ⟨gb, 2, none⟩) (by show _ ≤ gb; omega) _
end

end Go.Proofs.YtacnhlmhibhlhaaGreat
