/-
  The stripe's Read, by contract.
-/
import Derived.Test.YtciddoeeiamndaaGreatSa
import Derived.Test.YtciddoeeiamndaaGreatEvB
import Derived.Test.YtciddoeeiamndaaGreatSb
import Derived.Test.YtciddoeeiamndaaGreatNumz
namespace Go.Proofs.YtciddoeeiamndaaGreat
open Go.RowKit Go.Maps
set_option linter.unusedVariables false

/-- A block, as a value. -/
abbrev blV (o i : Int) (a : Option Addr) (n c : Nat) : Value := .agg #[.int .i64 o, .int .i64 i, .slice a n c]
theorem bkO_yes {B : Bn} {g k : Int} (h : bkO B g k = true) : Bk B.d B.r B.s g k := by
  classical
  unfold bkO at h
  by_cases hh : Bk B.d B.r B.s g k
  · exact hh
  · rw [decide_eq_false hh] at h; cases h
theorem spD_lt {B : Bn} {n : Nat} {g k : Int} (hd : B.d = (n : Int)) (h : bkO B g k = true) : ∃ x : Nat, spD B g k = x ∧ x < n := by
  have hb := bkO_yes h
  have d1 := hb.d1
  rw [spD, if_pos h]
  unfold BD
  have a := Int.emod_nonneg (PD B.d (g * B.r + k / (B.d - 1)) + 1 + k % (B.d - 1)) (show B.d ≠ 0 by omega)
  have c := Int.emod_lt_of_pos (PD B.d (g * B.r + k / (B.d - 1)) + 1 + k % (B.d - 1)) (show 0 < B.d by omega)
  obtain ⟨x, hx⟩ := Int.eq_ofNat_of_zero_le a
  exact ⟨x, hx, by omega⟩
/-- What Read reads. -/
noncomputable def rbL (B : Bn) (R : Rk) (n : Nat) (g k q : Int) : List Int :=
  if chkE R (bkO B g k) = 0 then (if rdO B R (spS B g k) q (spD B g k) then brV B R (spD B g k) (spS B g k) else resL B R (spS B g k) q (spD B g k).toNat n) else []
noncomputable def rbE (B : Bn) (R : Rk) (n : Nat) (g k q : Int) : Int :=
  if chkE R (bkO B g k) = 0 then (if rdO B R (spS B g k) q (spD B g k) || resO B R (spS B g k) q (spD B g k).toNat n then 0 else 14) else chkE R (bkO B g k)
def RbPost (w : World) (zs : List Int) (er : Int) (e : Ending) (w' : World) : Prop :=
  ∃ a n c, e = .returned (.tuple #[blV (decN zs 4 2) (decN zs 6 2) a n c, .int .i64 er]) ∧ Pin w' a n c (decL zs) ∧ Below w.heap.size w w'
/-- The cells of a block's box. -/
structure Bb (w : World) (b : Nat) : Prop where
  lt : b < w.heap.size
  c0 : ∃ v, w.cell? ⟨b, 0, none⟩ = some v
  c1 : ∃ v, w.cell? ⟨b, 1, none⟩ = some v
  c2 : ∃ v, w.cell? ⟨b, 2, none⟩ = some v
  f0 : w.frozen? ⟨b, 0, none⟩ = false
  f1 : w.frozen? ⟨b, 1, none⟩ = false
  f2 : w.frozen? ⟨b, 2, none⟩ = false
theorem Bb.next {w w' : World} {b : Nat} (h : Bb w b) (hb : Below w.heap.size w w') : Bb w' b := by
  have hl := h.lt
  obtain ⟨v, hv⟩ := h.c0
  obtain ⟨u, hu⟩ := h.c1
  obtain ⟨t, ht⟩ := h.c2
  exact ⟨Nat.lt_of_lt_of_le h.lt hb.size, ⟨v, (hb.cell (p := ⟨b, 0, none⟩) hl).trans hv⟩, ⟨u, (hb.cell (p := ⟨b, 1, none⟩) hl).trans hu⟩, ⟨t, (hb.cell (p := ⟨b, 2, none⟩) hl).trans ht⟩, (hb.frozen (p := ⟨b, 0, none⟩) hl).trans h.f0, (hb.frozen (p := ⟨b, 1, none⟩) hl).trans h.f1, (hb.frozen (p := ⟨b, 2, none⟩) hl).trans h.f2⟩

theorem set_three {w : World} {g : Nat} {x0 x1 x2 : Value} (c0 : w.cell? ⟨g, 0, none⟩ = some x0) (c1 : w.cell? ⟨g, 1, none⟩ = some x1) (c2 : w.cell? ⟨g, 2, none⟩ = some x2) (u0 u1 u2 : Value) :
    (((w.setCell ⟨g, 0, none⟩ u0).setCell ⟨g, 1, none⟩ u1).setCell ⟨g, 2, none⟩ u2).cell? ⟨g, 0, none⟩ = some u0 ∧ (((w.setCell ⟨g, 0, none⟩ u0).setCell ⟨g, 1, none⟩ u1).setCell ⟨g, 2, none⟩ u2).cell? ⟨g, 1, none⟩ = some u1 ∧ (((w.setCell ⟨g, 0, none⟩ u0).setCell ⟨g, 1, none⟩ u1).setCell ⟨g, 2, none⟩ u2).cell? ⟨g, 2, none⟩ = some u2 := by
  have n01 : (⟨g, 0, none⟩ : Addr) ≠ ⟨g, 1, none⟩ := by simp
  have n02 : (⟨g, 0, none⟩ : Addr) ≠ ⟨g, 2, none⟩ := by simp
  have n12 : (⟨g, 1, none⟩ : Addr) ≠ ⟨g, 2, none⟩ := by simp
  refine ⟨?_, ?_, ?_⟩
  · rw [World.cell?_setCell_other _ _ _ _ n02.symm, World.cell?_setCell_other _ _ _ _ n01.symm]
    exact cell_set_same _ _ _ _ _ c0
  · rw [World.cell?_setCell_other _ _ _ _ n12.symm]
    exact cell_set_same _ _ _ _ _ ((World.cell?_setCell_other _ _ _ _ n01).trans c1)
  · exact cell_set_same _ _ _ _ _ (((World.cell?_setCell_other _ _ _ _ n12).trans (World.cell?_setCell_other _ _ _ _ n02)).trans c2)
section
variable {M : Nat → Prop} {L : Lay} {R : Rk} {w : World} {b : Nat} {B : Bn}
set_option maxRecDepth 100000 in
set_option maxHeartbeats 4000000 in
theorem sRead_any {n : Nat} (g k q : Int) (hr : RackAt w M L R) (hb : BnAt w b L.p B) (hd : B.d = (n : Int)) (hn : n ≤ 16) :
    Calls Tryz.prog 24 #[.pointer (some ⟨b, 0, none⟩), .int .i64 g, .int .i64 k, .int .i64 q] w (RbPost w (rbL B R n g k q) (rbE B R n g k q)) := by
  obtain ⟨W1, hW1⟩ : ∃ W1, W1 = w.alloc (.cells #[.int .i64 0, .int .i64 0, .slice none 0 0] 65 (0, 0)) := ⟨_, rfl⟩
  obtain ⟨gb, hgb⟩ : ∃ gb, gb = w.heap.size := ⟨_, rfl⟩
  have hB1 : Below w.heap.size w W1 := by rw [hW1]; exact (Below.refl _ _).alloc (Nat.le_refl _) _
  have hx1 : Bb W1 gb := by rw [hW1, hgb]; exact ⟨by simp, ⟨.int .i64 0, by simp⟩, ⟨.int .i64 0, by simp⟩, ⟨.slice none 0 0, by simp⟩, by simp, by simp, by simp⟩
  have HG := Lib.hid hgb
  have hsp := spotOf_any g k (hb.next hB1)
  have HR := Lib.hid hr
  have HB := Lib.hid hb
  have hxl := fun h => spD_lt (B := B) (g := g) (k := k) hd h
  obtain ⟨zs, hzs⟩ : ∃ zs, zs = rbL B R n g k q := ⟨_, rfl⟩
  obtain ⟨er, her⟩ : ∃ er, er = rbE B R n g k q := ⟨_, rfl⟩
  rw [← hzs, ← her]
  unfold rbL at hzs
  unfold rbE at her
  obtain ⟨ok, hok⟩ : ∃ ok, ok = bkO B g k := ⟨_, rfl⟩
  obtain ⟨x, hx⟩ : ∃ x, x = spD B g k := ⟨_, rfl⟩
  obtain ⟨z, hz⟩ : ∃ z, z = spS B g k := ⟨_, rfl⟩
  rw [← hok, ← hx] at hxl
  rw [← hok, ← hx, ← hz] at hsp hzs her
  have HXL := Lib.hid hxl
  have HZS := Lib.hid hzs
  have HER := Lib.hid her
  clear hr hb hok hx hz hxl hzs her
  have HD := Lib.hid hd
  go_enter Tryz.func24, Tryz.ntmps24
  go_wp2_with (fail)
  rw [← hW1, ← hgb]
  clear hW1 hgb
  refine hsp.mono ?_
  rintro e w2 ⟨rfl, hb2⟩
  have hB2 := hB1.trans (hb2.mono hB1.size)
  have hx2 := (hx1.next hb2).next ((Below.refl _ _).alloc (Nat.le_refl _) (.cells #[.int .i64 x, .int .i64 z] 116 (0, 0)))
  obtain ⟨W3, hW3⟩ : ∃ W3, W3 = w2.alloc (.cells #[.int .i64 x, .int .i64 z] 116 (0, 0)) := ⟨_, rfl⟩
  obtain ⟨gs, hgs⟩ : ∃ gs, gs = w2.heap.size := ⟨_, rfl⟩
  have hB3 : Below w.heap.size w W3 := by rw [hW3]; exact hB2.alloc hB2.size _
  have s0 : W3.cell? ⟨gs, 0, none⟩ = some (.int .i64 x) := by rw [hW3, hgs]; simp
  have s1 : W3.cell? ⟨gs, 1, none⟩ = some (.int .i64 z) := by rw [hW3, hgs]; simp
  have sl : gs < W3.heap.size := by rw [hW3, hgs]; simp
  have hch := check_any ok (HR.out.below hB3) (HB.out.next hB3)
  rw [← hW3] at hx2
  have HX2 := Lib.hid hx2
  have HB3 := Lib.hid hB3
  clear hsp hb2 hB1 hx1 hB2 hx2 hB3
  go_wp2_with (fail)
  rw [← hW3, ← hgs]
  clear hW3 hgs
  refine hch.mono ?_
  rintro e w4 ⟨rfl, rfl⟩
  obtain ⟨c, hc⟩ : ∃ c, c = chkE R ok := ⟨_, rfl⟩
  rw [← hc] at HZS HER ⊢
  have HC := Lib.hid hc
  clear hch hc
  by_cases h0 : c = 0
  · subst h0
    have hok : ok = true := by
      have := HC.out
      unfold chkE at this
      cases ok
      · cases this
      · rfl
    obtain ⟨i, hi, hin⟩ := HXL.out hok
    subst hi
    have hrd := sread_any (i : Int) z q (HR.out.below HB3.out) (HB.out.next HB3.out)
    have HIN := Lib.hid hin
    clear hok hin
    cases hro : rdO B R z q (i : Int) with
    | true =>
      have eZ : Hid (zs = brV B R i z) := by show _ = _; rw [HZS.out, if_pos rfl, if_pos hro]
      have eE : Hid (er = 0) := by show _ = _; rw [HER.out, if_pos rfl, hro]; rfl
      rw [hro] at hrd
      rw [show rdL B R z q (i : Int) = zs by rw [rdL, if_pos hro, eZ.out]] at hrd
      clear hro
      go_wp2_with (fail)
      refine hrd.mono ?_
      rintro e w5 ⟨a5, n5, c5, rfl, hp5, _, hb5⟩
      have hdc := decn_any a5 n5 c5 zs w5 hp5
      have HB5 := Lib.hid (HB3.out.trans (hb5.mono HB3.out.size))
      have HX5 := Lib.hid (HX2.out.next hb5)
      clear hrd hp5 hb5 s0 s1
      go_wp2_with (fail)
      refine hdc.mono ?_
      rintro e w6 ⟨a6, n6, c6, rfl, hp6, hn6, hb6⟩
      have HN6 : Hid (∀ y, a6 = some y → y.block ≠ gb) := fun y hy => by have := hn6 y hy; have := HX5.out.lt; omega
      have HB6 := HB5.out.trans (hb6.mono HB5.out.size)
      have HX6 := HX5.out.next hb6
      have HP6 := Lib.hid hp6
      have HBF := Lib.hid HB6
      obtain ⟨o1, ho1⟩ : ∃ o, o = decN zs 4 2 := ⟨_, rfl⟩
      obtain ⟨o2, ho2⟩ : ∃ o, o = decN zs 6 2 := ⟨_, rfl⟩
      obtain ⟨o0, ho0⟩ : ∃ o, o = decN zs 0 4 := ⟨_, rfl⟩
      rw [← ho1, ← ho2, ← ho0]
      have HO1 := Lib.hid ho1
      have HO2 := Lib.hid ho2
      obtain ⟨lt, ⟨v0, c0⟩, ⟨v1, c1⟩, ⟨v2, c2⟩, f0, f1, f2⟩ := HX6
      clear hdc hp6 hb6 hn6 HB6 ho1 ho2 ho0
      go_wp2_with (fail)
      refine bodyPost_ret (v := .tuple #[blV o1 o2 a6 n6 c6, .int .i64 0]) ?_ rfl ⟨a6, n6, c6, ?_, ?_, ?_⟩
      · obtain ⟨e0, e1, e2⟩ := set_three c0 c1 c2 (.int .i64 o1) (.int .i64 o2) (.slice a6 n6 c6)
        have e0 := cell_alloc_l (.cells #[.int .i64 o0, .int .i64 o1, .int .i64 o2] 126) e0
        have e1 := cell_alloc_l (.cells #[.int .i64 o0, .int .i64 o1, .int .i64 o2] 126) e1
        have e2 := cell_alloc_l (.cells #[.int .i64 o0, .int .i64 o1, .int .i64 o2] 126) e2
        simp [results, Tryz.results24, go_sem, e0, e1, e2]
      · rw [← HO1.out, ← HO2.out, eE.out]
      · exact (((HP6.out.setCell _ (.inr HN6.out)).setCell _ (.inr HN6.out)).setCell _ (.inr HN6.out)).alloc _
      · have hg := HG.out
        exact (((HBF.out.setCell (p := ⟨gb, 0, none⟩) (by show _ ≤ gb; omega) _).setCell (p := ⟨gb, 1, none⟩) (by show _ ≤ gb; omega) _).setCell (p := ⟨gb, 2, none⟩) (by show _ ≤ gb; omega) _).alloc (by simpa using HBF.out.size) _
    | false =>
      rw [hro] at hrd
      have HRS : Hid (∀ w', Below w.heap.size w w' → Calls Tryz.prog 69 #[.pointer (some ⟨b, 0, none⟩), spV i z, .int .i64 q] w' (RetN w' (resL B R z q i n) (resO B R z q i n))) := fun w' hb' =>
        srestore_any z q (HR.out.below hb') (HB.out.next hb') HD.out hn HIN.out
      have HZ2 : Hid (zs = resL B R z q i n) := by show _ = _; rw [HZS.out, if_pos rfl, hro]; rfl
      have HE2 : Hid (er = if resO B R z q i n then 0 else 14) := by show _ = _; rw [HER.out, if_pos rfl, hro]; rfl
      clear hro
      go_wp2_with (fail)
      refine hrd.mono ?_
      rintro e w5 ⟨a5, n5, c5, rfl, _, _, hb5⟩
      have t0 := (hb5.cell (p := ⟨gs, 0, none⟩) sl).trans s0
      have t1 := (hb5.cell (p := ⟨gs, 1, none⟩) sl).trans s1
      have HB3' := Lib.hid (HB3.out.trans (hb5.mono HB3.out.size))
      have HX2' := Lib.hid (HX2.out.next hb5)
      have hrs := HRS.out w5 HB3'.out
      clear hrd hb5 s0 s1 HB3 HX2
      have HB3 := HB3'
      have HX2 := HX2'
      clear HB3' HX2' HRS
      cases hre : resO B R z q i n with
      | true =>
        have eZ := HZ2
        have eE : Hid (er = 0) := by show _ = _; rw [HE2.out, hre]; rfl
        rw [hre] at hrs
        rw [← HZ2.out] at hrs
        clear hre
        go_wp2_with (fail)
        refine hrs.mono ?_
        rintro e w5' ⟨a5, n5, c5, rfl, hp5, _, hb5⟩
        have hdc := decn_any a5 n5 c5 zs w5' hp5
        have HB5 := Lib.hid (HB3.out.trans (hb5.mono HB3.out.size))
        have HX5 := Lib.hid (HX2.out.next hb5)
        clear hrs hp5 hb5 t0 t1
        go_wp2_with (fail)
        refine hdc.mono ?_
        rintro e w6 ⟨a6, n6, c6, rfl, hp6, hn6, hb6⟩
        have HN6 : Hid (∀ y, a6 = some y → y.block ≠ gb) := fun y hy => by have := hn6 y hy; have := HX5.out.lt; omega
        have HB6 := HB5.out.trans (hb6.mono HB5.out.size)
        have HX6 := HX5.out.next hb6
        have HP6 := Lib.hid hp6
        have HBF := Lib.hid HB6
        obtain ⟨o1, ho1⟩ : ∃ o, o = decN zs 4 2 := ⟨_, rfl⟩
        obtain ⟨o2, ho2⟩ : ∃ o, o = decN zs 6 2 := ⟨_, rfl⟩
        obtain ⟨o0, ho0⟩ : ∃ o, o = decN zs 0 4 := ⟨_, rfl⟩
        rw [← ho1, ← ho2, ← ho0]
        have HO1 := Lib.hid ho1
        have HO2 := Lib.hid ho2
        obtain ⟨lt, ⟨v0, c0⟩, ⟨v1, c1⟩, ⟨v2, c2⟩, f0, f1, f2⟩ := HX6
        clear hdc hp6 hb6 hn6 HB6 ho1 ho2 ho0
        go_wp2_with (fail)
        refine bodyPost_ret (v := .tuple #[blV o1 o2 a6 n6 c6, .int .i64 0]) ?_ rfl ⟨a6, n6, c6, ?_, ?_, ?_⟩
        · obtain ⟨e0, e1, e2⟩ := set_three c0 c1 c2 (.int .i64 o1) (.int .i64 o2) (.slice a6 n6 c6)
          have e0 := cell_alloc_l (.cells #[.int .i64 o0, .int .i64 o1, .int .i64 o2] 126) e0
          have e1 := cell_alloc_l (.cells #[.int .i64 o0, .int .i64 o1, .int .i64 o2] 126) e1
          have e2 := cell_alloc_l (.cells #[.int .i64 o0, .int .i64 o1, .int .i64 o2] 126) e2
          simp [results, Tryz.results24, go_sem, e0, e1, e2]
        · rw [← HO1.out, ← HO2.out, eE.out]
        · exact (((HP6.out.setCell _ (.inr HN6.out)).setCell _ (.inr HN6.out)).setCell _ (.inr HN6.out)).alloc _
        · have hg := HG.out
          exact (((HBF.out.setCell (p := ⟨gb, 0, none⟩) (by show _ ≤ gb; omega) _).setCell (p := ⟨gb, 1, none⟩) (by show _ ≤ gb; omega) _).setCell (p := ⟨gb, 2, none⟩) (by show _ ≤ gb; omega) _).alloc (by simpa using HBF.out.size) _
      | false =>
        have eZ : Hid (zs = []) := by show _ = _; rw [HZ2.out, resL, hre]; rfl
        have eE : Hid (er = 14) := by show _ = _; rw [HE2.out, hre]; rfl
        rw [hre] at hrs
        clear hre
        go_wp2_with (fail)
        refine hrs.mono ?_
        rintro e w6 ⟨a6, n6, c6, rfl, _, _, hb6⟩
        have HBX := Lib.hid (HB3.out.trans (hb6.mono HB3.out.size))
        have HXX := Lib.hid (HX2.out.next hb6)
        clear hrs hb6 t0 t1
        obtain ⟨lt, ⟨v0, c0⟩, ⟨v1, c1⟩, ⟨v2, c2⟩, f0, f1, f2⟩ := HXX.out
        go_wp2_with (fail)
        refine bodyPost_ret (v := .tuple #[blV 0 0 none 0 0, .int .i64 14]) ?_ rfl ⟨none, 0, 0, ?_, ?_, ?_⟩
        · obtain ⟨e0, e1, e2⟩ := set_three c0 c1 c2 (.int .i64 0) (.int .i64 0) (.slice none 0 0)
          simp [results, Tryz.results24, go_sem, e0, e1, e2]
        · rw [eZ.out, eE.out]; rfl
        · rw [eZ.out]; exact Pin.zero _
        · have hg := HG.out
          exact ((HBX.out.setCell (p := ⟨gb, 0, none⟩) (by show _ ≤ gb; omega) _).setCell (p := ⟨gb, 1, none⟩) (by show _ ≤ gb; omega) _).setCell (p := ⟨gb, 2, none⟩) (by show _ ≤ gb; omega) _
  · have eZ : Hid (zs = []) := by show _ = _; rw [HZS.out, if_neg h0]
    have eE : Hid (er = c) := by show _ = _; rw [HER.out, if_neg h0]
    have hc0 : (c == 0) = false := by simpa using h0
    have HBX := HB3
    have HXX := HX2
    obtain ⟨lt, ⟨v0, c0⟩, ⟨v1, c1⟩, ⟨v2, c2⟩, f0, f1, f2⟩ := HXX.out
    go_wp2_with (fail)
    refine bodyPost_ret (v := .tuple #[blV 0 0 none 0 0, .int .i64 c]) ?_ rfl ⟨none, 0, 0, ?_, ?_, ?_⟩
    · obtain ⟨e0, e1, e2⟩ := set_three c0 c1 c2 (.int .i64 0) (.int .i64 0) (.slice none 0 0)
      simp [results, Tryz.results24, go_sem, e0, e1, e2]
    · rw [eZ.out, eE.out]; rfl
    · rw [eZ.out]; exact Pin.zero _
    · have hg := HG.out
      exact ((HBX.out.setCell (p := ⟨gb, 0, none⟩) (by show _ ≤ gb; omega) _).setCell (p := ⟨gb, 1, none⟩) (by show _ ≤ gb; omega) _).setCell (p := ⟨gb, 2, none⟩) (by show _ ≤ gb; omega) _
end

end Go.Proofs.YtciddoeeiamndaaGreat

/-
  The stripe's isSound and Sound, by contract.
-/
namespace Go.Proofs.YtciddoeeiamndaaGreat
open Go.RowKit Go.Maps
set_option linter.unusedVariables false
attribute [local go_sem] Oper.semAt_some

/-- Is the row of sector z, whose parity is on slot x, sound? -/
def sdO (B : Bn) (R : Rk) (z q : Int) (x n : Nat) : Bool := rdO B R z q x && (resO B R z q x n && sameB (brV B R x z) (resL B R z q x n))
section
variable {M : Nat → Prop} {L : Lay} {R : Rk} {w : World} {b : Nat} {B : Bn}
set_option maxRecDepth 100000 in
set_option maxHeartbeats 4000000 in
theorem isSound_any {n x C : Nat} {D : Nat → Int} {v : Value} (z q : Int) (hr : RackAt w M L R) (hb : BnAt w b L.p B) (hd : B.d = (n : Int)) (hn : n ≤ 16) (h3 : 3 ≤ n) (hx : x < n) (hrow : RowAt w C v n D z) (hDx : D (n - 1) = (x : Int)) :
    Calls Tryz.prog 89 #[.pointer (some ⟨b, 0, none⟩), v, .int .i64 q] w fun e w' => e = .returned (.bool (sdO B R z q x n)) ∧ Below w.heap.size w w' := by
  obtain ⟨gr, cr, rfl, hgl, hgr, hnc, hcm, hcells⟩ := hrow.val
  obtain ⟨o, ho⟩ : ∃ o : Nat, o + 1 = n := ⟨n - 1, by omega⟩
  have ha := (hcells o (by omega)).1
  have hbz := (hcells o (by omega)).2
  rw [show o = n - 1 by omega, hDx, show n - 1 = o by omega, Nat.mul_comm] at ha
  rw [Nat.mul_comm] at hbz
  have hsub : IntKind.i64.wrap ((n : Int) - 1) = (o : Int) := by rw [show (n : Int) - 1 = o by omega]; exact IntWalk.i64_in _ (by omega)
  have hon : o < n := by omega
  obtain ⟨W1, hW1⟩ : ∃ W1, W1 = w.alloc (.cells #[.int .i64 x, .int .i64 z] 116 (0, 0)) := ⟨_, rfl⟩
  have hB1 : Below w.heap.size w W1 := by rw [hW1]; exact (Below.refl _ _).alloc (Nat.le_refl _) _
  obtain ⟨gs, hgs⟩ : ∃ gs, gs = w.heap.size := ⟨_, rfl⟩
  have s0 : W1.cell? ⟨gs, 0, none⟩ = some (.int .i64 x) := by rw [hW1, hgs]; simp
  have s1 : W1.cell? ⟨gs, 1, none⟩ = some (.int .i64 z) := by rw [hW1, hgs]; simp
  have sl : gs < W1.heap.size := by rw [hW1, hgs]; simp
  have hrd := sread_any (x : Int) z q (hr.below hB1) (hb.next hB1)
  have HRS : Hid (∀ w', Below w.heap.size w w' → Calls Tryz.prog 69 #[.pointer (some ⟨b, 0, none⟩), spV x z, .int .i64 q] w' (RetN w' (resL B R z q x n) (resO B R z q x n))) := fun w' hb' =>
    srestore_any z q (hr.below hb') (hb.next hb') hd hn hx
  clear hrow hcells hr hb hDx hd hgl hgr hnc
  have HB1 := Lib.hid hB1
  clear hB1
  cases hro : rdO B R z q (x : Int) with
  | false =>
    have hE : Hid (sdO B R z q x n = false) := by show _ = _; rw [sdO, hro, Bool.false_and]
    rw [hro] at hrd
    clear hro HRS
    go_enter Tryz.func89, Tryz.ntmps89
    go_wp2_with (fail)
    rw [← hW1, ← hgs]
    clear hW1 hgs
    refine hrd.mono ?_
    rintro e w2 ⟨a2, n2, c2, rfl, _, _, hb2⟩
    have HB2 := Lib.hid (HB1.out.trans (hb2.mono HB1.out.size))
    clear hrd hb2 ha hbz s0 s1
    go_wp2_with (fail)
    go_ret
    rw [hE.out]
    exact ⟨rfl, HB2.out⟩
  | true =>
    rw [hro] at hrd
    rw [show rdL B R z q (x : Int) = brV B R x z by rw [rdL, if_pos hro]] at hrd
    have hE : Hid (sdO B R z q x n = (resO B R z q x n && sameB (brV B R x z) (resL B R z q x n))) := by show _ = _; rw [sdO, hro, Bool.true_and]
    clear hro
    go_enter Tryz.func89, Tryz.ntmps89
    go_wp2_with (fail)
    rw [← hW1, ← hgs]
    clear hW1 hgs
    refine hrd.mono ?_
    rintro e w2 ⟨a2, n2, c2, rfl, hp2, _, hb2⟩
    have t0 := (hb2.cell (p := ⟨gs, 0, none⟩) sl).trans s0
    have t1 := (hb2.cell (p := ⟨gs, 1, none⟩) sl).trans s1
    have HB2 := Lib.hid (HB1.out.trans (hb2.mono HB1.out.size))
    have HP2 := Lib.hid hp2
    have hrs := HRS.out w2 HB2.out
    clear hrd hb2 ha hbz s0 s1 hp2 HRS
    cases hre : resO B R z q x n with
    | false =>
      rw [hre] at hrs
      have hE2 : Hid (sdO B R z q x n = false) := by show _ = _; rw [hE.out, hre, Bool.false_and]
      clear hre hE
      go_wp2_with (fail)
      refine hrs.mono ?_
      rintro e w3 ⟨a3, n3, c3, rfl, _, _, hb3⟩
      have HB3 := Lib.hid (HB2.out.trans (hb3.mono HB2.out.size))
      clear hrs hb3 t0 t1
      go_wp2_with (fail)
      go_ret
      rw [hE2.out]
      exact ⟨rfl, HB3.out⟩
    | true =>
      rw [hre] at hrs
      have hE2 : Hid (sdO B R z q x n = sameB (brV B R x z) (resL B R z q x n)) := by show _ = _; rw [hE.out, hre, Bool.true_and]
      clear hre hE
      go_wp2_with (fail)
      refine hrs.mono ?_
      rintro e w3 ⟨a3, n3, c3, rfl, hp3, _, hb3⟩
      have HB3 := Lib.hid (HB2.out.trans (hb3.mono HB2.out.size))
      have heq := equal_any a2 a3 n2 c2 n3 c3 _ _ w3 (HP2.out.next hb3).bys hp3.bys
      rw [← hE2.out] at heq
      clear hrs hb3 t0 t1 hp3
      go_wp2_with (go_at_call 124; refine heq.mono ?_; rintro e w4 ⟨rfl, rfl⟩)
      go_ret
      exact ⟨rfl, HB3.out⟩
/-- Are the first a rows sound? -/
def sdG (B : Bn) (R : Rk) (n : Nat) (g q : Int) : Nat → Bool
  | 0 => true
  | a + 1 => sdG B R n g q a && sdO B R (5 + (g * B.r + a)) q (PD B.d (g * B.r + a)).toNat n
theorem sdG_no {B : Bn} {R : Rk} {n a m : Nat} {g q : Int} (h : a ≤ m) (ha : sdG B R n g q a = false) : sdG B R n g q m = false := by
  induction m with
  | zero => obtain rfl : a = 0 := by omega
            exact ha
  | succ m ih =>
    rcases Nat.lt_or_ge m a with h1 | h1
    · obtain rfl : a = m + 1 := by omega
      exact ha
    · rw [sdG, ih h1, Bool.false_and]
noncomputable def sndV (B : Bn) (R : Rk) (n m : Nat) (g q : Int) : Bool := if chkE R (segO B g) = 0 then sdG B R n g q m else false
theorem segO_yes {B : Bn} {g : Int} (h : segO B g = true) : Sg B.d B.r B.s g := by
  classical
  unfold segO at h
  by_cases hh : Sg B.d B.r B.s g
  · exact hh
  · rw [decide_eq_false hh] at h; cases h
/-- A box of one cell, free to be written. -/
def Cel (p : Nat) (v : Value) (X : World) : Prop := X.cell? ⟨p, 0, none⟩ = some v ∧ X.frozen? ⟨p, 0, none⟩ = false
theorem Cel.lt {p : Nat} {v : Value} {X : World} (h : Cel p v X) : p < X.heap.size := World.block_lt_of_cell? X _ h.1
theorem Cel.next {p : Nat} {v : Value} {X X' : World} (h : Cel p v X) (hb : Below X.heap.size X X') : Cel p v X' := ⟨(hb.cell (p := ⟨p, 0, none⟩) h.lt).trans h.1, (hb.frozen (p := ⟨p, 0, none⟩) h.lt).trans h.2⟩
theorem Cel.turn {N : Nat → Prop} {p : Nat} {v : Value} {X X' : World} (h : Cel p v X) (ht : Turn N X X') (hn : ¬ N p) : Cel p v X' := ⟨(ht.cell (a := ⟨p, 0, none⟩) h.lt hn).trans h.1, (ht.frozen (a := ⟨p, 0, none⟩) h.lt hn).trans h.2⟩
theorem Cel.aside {l p : Nat} {v : Value} {X X' : World} (h : Cel p v X) (ha : Aside l X X') : Cel p v X' := ⟨ha.cell h.1, (ha.frozen h.1).trans h.2⟩
theorem Cel.abides (K p : Nat) (v : Value) : Abides K (Cel p v) := ⟨fun X X' h hb => h.next hb, fun l X X' hl h ha => h.aside ha⟩
theorem Cel.set {p : Nat} {v : Value} {X : World} (h : Cel p v X) (u : Value) : Cel p u (X.setCell ⟨p, 0, none⟩ u) := ⟨cell_set_same _ _ _ _ _ h.1, by simpa using h.2⟩
theorem Cel.off {p k : Nat} {v : Value} {X : World} (h : Cel p v X) (u : Value) (hne : k ≠ p) : Cel p v (X.setCell ⟨k, 0, none⟩ u) := h.turn (turn_set X k 0 u) (fun e => hne e.symm)
theorem Cel.new {w X : World} {v : Value} {t : TypeId} (h : X = w.alloc (.cells #[v] t)) : Cel w.heap.size v X := by rw [h]; exact box_new w v t rfl
theorem below_abides {w : World} {K : Nat} (hK : w.heap.size ≤ K) : Abides K (fun X => Below w.heap.size w X) :=
  ⟨fun X X' h hb => h.trans (hb.mono h.size), fun l X X' hl h ha => h.trans (ha.turn.below h.size (fun k e => by subst e; omega))⟩
set_option maxRecDepth 100000 in
set_option maxHeartbeats 4000000 in
theorem sSound_any {n m : Nat} (g q : Int) (hr : RackAt w M L R) (hb : BnAt w b L.p B) (hd : B.d = (n : Int)) (hm : B.r = (m : Int)) :
    Calls Tryz.prog 38 #[.pointer (some ⟨b, 0, none⟩), .int .i64 g, .int .i64 q] w fun e w' => e = .returned (.tuple #[.bool (sndV B R n m g q), .int .i64 (chkE R (segO B g))]) ∧ Below w.heap.size w w' := by
  have HR := Lib.hid hr
  have HB := Lib.hid hb
  obtain ⟨vv, hvv⟩ : ∃ v, v = sndV B R n m g q := ⟨_, rfl⟩
  obtain ⟨c, hc⟩ : ∃ c, c = chkE R (segO B g) := ⟨_, rfl⟩
  rw [← hvv, ← hc]
  have HV := Lib.hid hvv
  have HC := Lib.hid hc
  clear hvv
  refine (callsIn_wide (n := 3)).1 ?_
  refine callsIn_of_wp_marks Tryz.func38 rfl trivial ?_ rfl
  simp only [Tryz.ntmps38, List.size_toArray, List.length_cons, List.length_nil, Nat.reduceAdd, Nat.reduceSub, Array.replicate_succ, Array.replicate_zero, List.push_toArray, List.append_toArray, List.nil_append, List.cons_append]
  refine wpIn_wide.2 (wp_calm ?_)
  obtain ⟨W1, hW1⟩ : ∃ W1, W1 = w.alloc (.cells #[.pointer (some ⟨b, 0, none⟩)] 27) := ⟨_, rfl⟩
  obtain ⟨W2, hW2⟩ : ∃ W2, W2 = W1.alloc (.cells #[.int .i64 q] 3) := ⟨_, rfl⟩
  obtain ⟨W3, hW3⟩ : ∃ W3, W3 = W2.alloc (.cells #[.bool false] 4) := ⟨_, rfl⟩
  obtain ⟨W4, hW4⟩ : ∃ W4, W4 = W3.alloc (.cells #[.int .i64 0] 36) := ⟨_, rfl⟩
  obtain ⟨p0, hp0⟩ : ∃ p, p = w.heap.size := ⟨_, rfl⟩
  obtain ⟨p1, hp1⟩ : ∃ p, p = p0 + 1 := ⟨_, rfl⟩
  obtain ⟨p2, hp2⟩ : ∃ p, p = p1 + 1 := ⟨_, rfl⟩
  obtain ⟨p3, hp3⟩ : ∃ p, p = p2 + 1 := ⟨_, rfl⟩
  have e1 : W1.heap.size = p1 := by rw [hW1, hp1, hp0]; simp
  have e2 : W2.heap.size = p2 := by rw [hW2, hp2, ← e1]; simp
  have e3 : W3.heap.size = p3 := by rw [hW3, hp3, ← e2]; simp
  have e4 : W4.heap.size = p3 + 1 := by rw [hW4, ← e3]; simp
  have b4 : Below W3.heap.size W3 W4 := by rw [hW4]; exact (Below.refl _ _).alloc (Nat.le_refl _) _
  have b3 : Below W2.heap.size W2 W4 := by
    have : Below W2.heap.size W2 W3 := by rw [hW3]; exact (Below.refl _ _).alloc (Nat.le_refl _) _
    exact this.trans (b4.mono this.size)
  have b2 : Below W1.heap.size W1 W4 := by
    have : Below W1.heap.size W1 W2 := by rw [hW2]; exact (Below.refl _ _).alloc (Nat.le_refl _) _
    exact this.trans (b3.mono this.size)
  have b1 : Below w.heap.size w W4 := by
    have : Below w.heap.size w W1 := by rw [hW1]; exact (Below.refl _ _).alloc (Nat.le_refl _) _
    exact this.trans (b2.mono this.size)
  have k0 : Cel p0 (.pointer (some ⟨b, 0, none⟩)) W4 := by rw [hp0]; exact (Cel.new hW1).next b2
  have k1 : Cel p1 (.int .i64 q) W4 := by rw [← e1]; exact (Cel.new hW2).next b3
  have k2 : Cel p2 (.bool false) W4 := by rw [← e2]; exact (Cel.new hW3).next b4
  have k3 : Cel p3 (.int .i64 0) W4 := by rw [← e3]; exact Cel.new hW4
  go_wp2_with (fail)
  rw [← hW1, ← hW2, ← hW3, ← hW4, ← hp0, ← hp1, ← hp2, ← hp3]
  have hsg := shasSeg_any g (hb.next b1).drew
  have c0 := k0.1
  have HP : Hid (p0 = w.heap.size ∧ p1 = p0 + 1 ∧ p2 = p1 + 1 ∧ p3 = p2 + 1) := ⟨hp0, hp1, hp2, hp3⟩
  have HB1 := Lib.hid b1
  have K0 := Lib.hid k0
  have K1 := Lib.hid k1
  have K2 := Lib.hid k2
  have K3 := Lib.hid k3
  have hlt0 := k0.lt
  clear hW1 hW2 hW3 hW4 hp0 hp1 hp2 hp3 e1 e2 e3 e4 b4 b3 b2 b1 k0 k1 k2 k3 hr hb
  refine wp_region_held_drew (S := fun w' => w'.cell? ⟨p0, 0, none⟩ = some (.pointer (some ⟨b, 0, none⟩))) (by kernel_rfl) ?_ (fun hHeld => ?_)
  · exact c0
  refine wpAnyH_take (i := 0) (v := ?_) rfl (by kernel_rfl) (by kernel_rfl) (by kernel_rfl) (fun _ _ _ h => h) (Or.inl ⟨by rfl, fun w hSw => ?_⟩) (by assumption) ?_
  rotate_left
  · (try dsimp only at hSw); go_simp; try with_reducible rfl
  simp only [Act.put, List.setIfInBounds_toArray, List.set_cons_zero, List.set_cons_succ, List.getElem_toArray, List.getElem_cons_zero]
  refine wpAnyH_take (i := 1) (v := ?_) rfl (by kernel_rfl) (by kernel_rfl) (by kernel_rfl) (fun _ _ _ h => h) (Or.inl ⟨by rfl, fun w hSw => ?_⟩) (by assumption) ?_
  rotate_left
  · (try dsimp only at hSw); go_simp; try with_reducible rfl
  simp only [Act.put, List.setIfInBounds_toArray, List.set_cons_zero, List.set_cons_succ, List.getElem_toArray, List.getElem_cons_succ, List.getElem_cons_zero]
  refine wpAnyH_take (i := 2) (v := ?_) rfl (by kernel_rfl) (by kernel_rfl) (by kernel_rfl) (fun _ _ _ h => h) (Or.inl ⟨by rfl, fun w hSw => ?_⟩) (by assumption) ?_
  rotate_left
  · (try dsimp only at hSw); go_simp; try with_reducible rfl
  simp only [Act.put, List.setIfInBounds_toArray, List.set_cons_zero, List.set_cons_succ, List.getElem_toArray, List.getElem_cons_succ, List.getElem_cons_zero]
  refine wpAnyH_ready (rs := [3]) (by kernel_rfl) (by simp) ?_
  refine AllReadyH.cons rfl (fun K hK => ?_) AllReadyH.nil
  simp only [List.getElem_toArray, List.getElem_cons_succ, List.getElem_cons_zero]
  go_simp
  refine hsg.mono ?_
  rintro e W5 ⟨rfl, b5⟩
  have b5 := undrew b5
  have c0' := (b5.cell (p := ⟨p0, 0, none⟩) hlt0).trans c0
  have hck := check_any (segO B g) (HR.out.below (HB1.out.trans (b5.mono HB1.out.size))) (HB.out.next (HB1.out.trans (b5.mono HB1.out.size)))
  have HB5 := Lib.hid b5
  rw [← hc] at hck
  clear hsg b5 hc
  go_wp2_with (fail)
  refine hK.out _ _ c0' (fun hHeld => ?_)
  clear hK K
  refine wpAnyH_ready (rs := [4]) (by kernel_rfl) (by simp) ?_
  refine AllReadyH.cons rfl (fun K hK => ?_) AllReadyH.nil
  simp only [List.getElem_toArray, List.getElem_cons_succ, List.getElem_cons_zero]
  go_simp
  refine hck.mono ?_
  rintro e W6 ⟨rfl, rfl⟩
  go_wp2_with (fail)
  refine hK.out _ _ c0' (fun hHeld => ?_)
  clear hK K hck
  refine wpAnyH_take (i := 5) (v := ?_) rfl (by kernel_rfl) (by kernel_rfl) (by kernel_rfl) (fun _ _ _ h => h) (Or.inl ⟨by rfl, fun w hSw => ?_⟩) (by assumption) ?_
  rotate_left
  · (try dsimp only at hSw); go_simp; try with_reducible rfl
  simp only [Act.put, List.setIfInBounds_toArray, List.set_cons_zero, List.set_cons_succ, List.getElem_toArray, List.getElem_cons_succ, List.getElem_cons_zero]
  refine wpAnyH_done (by kernel_rfl) ?_ _
  have K0' := Lib.hid (K0.out.next HB5.out)
  have K1' := Lib.hid (K1.out.next HB5.out)
  have K2' := Lib.hid (K2.out.next HB5.out)
  have K3' := Lib.hid (K3.out.next HB5.out)
  have HB6 := Lib.hid (HB1.out.trans (HB5.out.mono HB1.out.size))
  clear hHeld K0 K1 K2 K3 HB1 HB5 c0 c0' hlt0
  by_cases h0 : c = 0
  · subst h0
    have hsO : segO B g = true := by
      have h1 := HC.out
      unfold chkE at h1
      cases hs : segO B g
      · rw [hs] at h1; cases h1
      · rfl
    have hSg := segO_yes hsO
    have hV : Hid (vv = sdG B R n g q m) := by show _ = _; rw [HV.out, sndV, ← HC.out, if_pos rfl]
    have c0 := K0'.out.1
    have hge := geo_any (HB.out.next HB6.out)
    rw [hd, hm] at hge
    have d1 := hSg.d1
    have d2 := hSg.d2
    have r2 := hSg.r2
    rw [hd] at d1 d2
    rw [hm] at r2
    have HSg := Lib.hid hSg
    have HD := Lib.hid hd
    have HM := Lib.hid hm
    clear hsO hSg hd hm
    go_wp2_with (fail)
    refine hge.mono ?_
    rintro e W7 ⟨rfl, b7⟩
    have HB7 := Lib.hid (HB6.out.trans (b7.mono HB6.out.size))
    have K0 := Lib.hid (K0'.out.next b7)
    have K1 := Lib.hid (K1'.out.next b7)
    have K2 := Lib.hid (K2'.out.next b7)
    have K3 := Lib.hid (K3'.out.next b7)
    clear hge b7 K0' K1' K2' K3' HB6 c0
    go_wp2_with (fail)
    refine (rows_any n m B.s g W7).mono ?_
    rintro e W8 ⟨xg, xs, rfl, hbx, hxg, hxs, b8⟩
    have HB8 := Lib.hid (HB7.out.trans (b8.mono HB7.out.size))
    have K0' := Lib.hid (K0.out.next b8)
    have K1' := Lib.hid (K1.out.next b8)
    have K2' := Lib.hid (K2.out.next b8)
    have K3' := Lib.hid (K3.out.next b8)
    have HX := Lib.hid hbx
    have HXL : Hid (p3 < xg ∧ p3 < xs) := by have := K3.out.lt; exact ⟨by omega, by omega⟩
    have HW7 : Hid (p3 < W7.heap.size) := K3.out.lt
    clear b8 K0 K1 K2 K3 HB7 hbx hxg hxs
    go_wp2_with (fail)
    have hMlow : ∀ k, L.M R.n k → k < w.heap.size := fun k hk => HR.out.low k (HR.out.sub k hk)
    have hsz8 := HB8.out.size
    refine (wpIn_wide (n := 3)).1 ?_
    refine wp_over2 (N := fun k => k = p2 ∨ k = p3) rfl (enters_of Tryz.func97 (by kernel_rfl) rfl) (rows_rounds xg xs n W7.heap.size m B.r B.s g (by rw [← HD.out]; exact HSg.out) HM.out) rfl
      (fun a X => sdG B R n g q a = true ∧ RackAt X M L R ∧ BnAt X b L.p B ∧ Bgs xg xs n B.r B.s g W7.heap.size X ∧ Cel p0 (.pointer (some ⟨b, 0, none⟩)) X ∧ Cel p1 (.int .i64 q) X ∧ Cel p2 (.bool false) X ∧ Cel p3 (.int .i64 0) X ∧ Below w.heap.size w X)
      (fun c X => c = .ret ∧ sdG B R n g q m = false ∧ Cel p2 (.bool false) X ∧ Cel p3 (.int .i64 0) X ∧ Below w.heap.size w X)
      (fun a a' X => ∃ v, RowAt X W7.heap.size v n (rowD n (g * B.r + a)) (5 + (g * B.r + a)) ∧ a' = { tmps := #[.pointer (some ⟨b, 0, none⟩), .int .i64 g, .int .i64 q, .pointer (some ⟨p0, 0, none⟩), undef, .pointer (some ⟨p1, 0, none⟩), .pointer (some ⟨p2, 0, none⟩), .pointer (some ⟨p3, 0, none⟩), .int .i64 0, v, .pointer (some ⟨b, 0, none⟩), .pointer (some ⟨b, 0, none⟩), .int .i64 g, .bool (segO B g), .int .i64 0, .int .i64 0, .bool false, undef, .pointer (some ⟨b, 0, none⟩), gv n m B.s, .int .i64 g, .func (.func 97) #[] #[.pointer (some ⟨xg, 0, none⟩), .pointer (some ⟨xs, 0, none⟩)], v, undef, undef, undef, undef, undef], defers := [] })
      (fun a X h => h.2.2.2.1) ?hI ?hIx ?hAx ?hN ?h0 ?assign (fun a X ha hs _ => by cases hs) ?body ?done ?stop
    case hI => exact fun a => (Abides.pure _ _).and ((RackAt.abides (fun k hk => by have := hMlow k hk; omega)).and ((BnAt.abides _).and ((Bgs.abides _).and ((Cel.abides _ _ _).and ((Cel.abides _ _ _).and ((Cel.abides _ _ _).and ((Cel.abides _ _ _).and (below_abides hsz8))))))))
    case hIx => exact fun c => (Abides.pure _ _).and ((Abides.pure _ _).and ((Cel.abides _ _ _).and ((Cel.abides _ _ _).and (below_abides hsz8))))
    case hAx => exact fun a a' => Abides.ex fun v => (RowAt.abides _).and (Abides.pure _ _)
    case hN => rintro k (rfl | rfl); exact K2'.out.lt; exact K3'.out.lt
    case h0 => exact ⟨rfl, HR.out.below HB8.out, HB.out.next HB8.out, by rw [HM.out]; exact HX.out, K0'.out, K1'.out, K2'.out, K3'.out, HB8.out⟩
    case assign =>
      intro l2 a v X K ha hle hI hD hK
      gi_wp2
      exact hK _ _ (Below.refl _ _) ⟨v, hD, rfl⟩
    case body =>
      rintro l2 a a' X ha _ hle ⟨hs, hrk, hbn, hbx, h0, h1, h2, h3, hbl⟩ ⟨v, hrow, rfl⟩
      obtain ⟨x, hx, hxn⟩ : ∃ x : Nat, PD B.d (g * B.r + a) = x ∧ x < n := by
        rw [HD.out]
        obtain ⟨u1, u2⟩ := PD_bd (d := (n : Int)) (q := g * B.r + a) d1
        obtain ⟨x, hx⟩ := Int.eq_ofNat_of_zero_le u1
        exact ⟨x, hx, by omega⟩
      have hsn := isSound_any (R := R) (b := b) (B := B) (L := L) (M := M) (x := x) (5 + (g * B.r + a)) q hrk hbn HD.out (by omega) (by omega) hxn hrow (by rw [rowD_par n _ (by omega), ← HD.out, hx])
      have hst : Hid (sdG B R n g q (a + 1) = sdO B R (5 + (g * B.r + a)) q x n) := by show _ = _; rw [sdG, hs, hx, Int.toNat_natCast, Bool.true_and]
      rw [← hst.out] at hsn
      obtain ⟨gr, cr, rfl, _⟩ := hrow.val
      have c0 := h0.1
      have c1 := h1.1
      have H0 := Lib.hid h0
      have H1 := Lib.hid h1
      have H2 := Lib.hid h2
      have H3 := Lib.hid h3
      have HRK := Lib.hid hrk
      have HBN := Lib.hid hbn
      have HBX := Lib.hid hbx
      have HBL := Lib.hid hbl
      clear h0 h1 h2 h3 hrk hbn hbx hbl hrow hx hs hst
      cases hok : sdG B R n g q (a + 1) with
      | true =>
        rw [hok] at hsn
        have HOK := Lib.hid hok
        clear hok
        gi_wp2_with (refine ⟨trivial, ?_⟩; gi_at_call 89; refine (CallsIn.inRound l2 (callsIn_wide.2 hsn)).mono ?_; clear hsn; rintro e X5 ⟨rfl, b5⟩; have HB5 := Lib.hid b5; clear b5)
        exact ⟨Turn.of_below HB5.out, HRK.out.below HB5.out, HBN.out.next HB5.out, HBX.out.next HB5.out, H0.out.next HB5.out, H1.out.next HB5.out, H2.out.next HB5.out, H3.out.next HB5.out, HBL.out.trans (HB5.out.mono HBL.out.size)⟩
      | false =>
        rw [hok] at hsn
        have HOK := Lib.hid hok
        clear hok
        gi_wp2_with (refine ⟨trivial, ?_⟩; gi_at_call 89; refine (CallsIn.inRound l2 (callsIn_wide.2 hsn)).mono ?_; clear hsn; rintro e X5 ⟨rfl, b5⟩; have HB5 := Lib.hid b5; have K2 := H2.out.next b5; have K3 := H3.out.next b5; have hn23 : p2 ≠ p3 := (by have := HP.out; omega); obtain ⟨c2, f2⟩ := K2; obtain ⟨c3, f3⟩ := K3; obtain ⟨c3', f3'⟩ := (H3.out.next b5).off (.bool false) hn23; clear b5 hn23)
        have hn23 : p2 ≠ p3 := by have := HP.out; omega
        have q2 := H2.out.next HB5.out
        have q3 := H3.out.next HB5.out
        refine ⟨((Turn.of_below HB5.out).trans (Turn.setCell (a := ⟨p2, 0, none⟩) _ (.inl rfl) _)).trans (Turn.setCell (a := ⟨p3, 0, none⟩) _ (.inr rfl) _), rfl, sdG_no ha HOK.out, (q2.set (.bool false)).off (.int .i64 0) hn23.symm, (q3.off (.bool false) hn23).set (.int .i64 0), ?_⟩
        exact ((HBL.out.trans (HB5.out.mono HBL.out.size)).setCell (p := ⟨p2, 0, none⟩) (by have := HP.out; show _ ≤ p2; omega) _).setCell (p := ⟨p3, 0, none⟩) (by have := HP.out; show _ ≤ p3; omega) _
    case done =>
      rintro D X hD ⟨hs, _, _, _, _, _, h2, h3, hbl⟩ hK
      have hn23 : p2 ≠ p3 := by have := HP.out; omega
      have hn1 : p2 ≠ D := by have := h2.lt; have := K2'.out.lt; omega
      have hn2 : p3 ≠ D := by have := K3'.out.lt; omega
      have HF := Lib.hid ((h2.set (.bool true)).off (.int .i64 0) hn23.symm)
      have HF3 := Lib.hid ((h3.off (.bool true) hn23).set (.int .i64 0))
      have HBF : Hid (Below w.heap.size w ((X.setCell ⟨p2, 0, none⟩ (.bool true)).setCell ⟨p3, 0, none⟩ (.int .i64 0))) :=
        (hbl.setCell (p := ⟨p2, 0, none⟩) (by have := HP.out; show _ ≤ p2; omega) _).setCell (p := ⟨p3, 0, none⟩) (by have := HP.out; show _ ≤ p3; omega) _
      have HK : Hid (((X.setCell ⟨p2, 0, none⟩ (.bool true)).setCell ⟨p3, 0, none⟩ (.int .i64 0)).heap[D]? = some (.deferred (some []))) :=
        (Below.heap_setCell _ ⟨p3, 0, none⟩ (.int .i64 0) D hn2.symm).trans ((Below.heap_setCell X ⟨p2, 0, none⟩ (.bool true) D hn1.symm).trans hK)
      obtain ⟨c3', f3'⟩ := h3.off (.bool true) hn23
      obtain ⟨c2, f2⟩ := h2
      obtain ⟨c3, f3⟩ := h3
      have HS := Lib.hid hs
      clear hn23 hn1 hn2 hK hbl hs
      go_wp2_with (fail)
      refine ⟨by simp, .inl ⟨_, _, rfl, run_takeDeferred HK.out, ?_⟩⟩
      have hA := aside_put HK.out rfl (.deferred none)
      have r2 := (HF.out.aside hA).1
      have r3 := (HF3.out.aside hA).1
      refine ⟨.tuple #[.bool vv, .int .i64 0], ?_, rfl, ((below_abides (K := w.heap.size) (Nat.le_refl _)).aside D _ _ (by omega) HBF.out hA)⟩
      rw [hV.out, HS.out]
      simp [results, Tryz.f38, go_sem, r2, r3]
    case stop =>
      rintro D c X hD ⟨rfl, hs, h2, h3, hbl⟩ hK
      gi_wp2
      refine ⟨by simp, .inl ⟨_, _, rfl, run_takeDeferred hK, ?_⟩⟩
      have hA := aside_put hK rfl (.deferred none)
      have r2 := (h2.aside hA).1
      have r3 := (h3.aside hA).1
      refine ⟨.tuple #[.bool vv, .int .i64 0], ?_, rfl, ((below_abides (K := w.heap.size) (Nat.le_refl _)).aside D _ _ (by omega) hbl hA)⟩
      rw [hV.out, hs]
      simp [results, Tryz.f38, go_sem, r2, r3]
  · have hc0 : (c == 0) = false := by simpa using h0
    have hc1 : (c != 0) = true := by simpa using h0
    have hV : Hid (vv = false) := by show _ = _; rw [HV.out, sndV, ← HC.out, if_neg h0]
    obtain ⟨c2, f2⟩ := K2'.out
    obtain ⟨c3, f3⟩ := K3'.out
    have hn23 : p2 ≠ p3 := by have := HP.out; omega
    obtain ⟨c3', f3'⟩ := K3'.out.off (.bool false) hn23
    have HF := Lib.hid ((K2'.out.set (.bool false)).off (.int .i64 c) hn23.symm)
    have HF3 := Lib.hid ((K3'.out.off (.bool false) hn23).set (.int .i64 c))
    have HBF : Hid (Below w.heap.size w ((W6.setCell ⟨p2, 0, none⟩ (.bool false)).setCell ⟨p3, 0, none⟩ (.int .i64 c))) :=
      (HB6.out.setCell (p := ⟨p2, 0, none⟩) (by have := HP.out; show _ ≤ p2; omega) _).setCell (p := ⟨p3, 0, none⟩) (by have := HP.out; show _ ≤ p3; omega) _
    clear hn23
    go_wp2_with (fail)
    rw [hV.out]
    have r2 := HF.out.1
    have r3 := HF3.out.1
    refine ⟨.tuple #[.bool false, .int .i64 c], ?_, rfl, HBF.out⟩
    simp [results, Tryz.f38, go_sem, r2, r3]
end

end Go.Proofs.YtciddoeeiamndaaGreat

/-
  The stripe's Missing, by contract.
-/
namespace Go.Proofs.YtciddoeeiamndaaGreat
open Go.RowKit Go.Maps
set_option linter.unusedVariables false
attribute [local go_sem] Oper.semAt_some

/-- Does slot i lack something in the first a rows? -/
def lkG (B : Bn) (R : Rk) (g q i : Int) : Nat → Bool
  | 0 => false
  | a + 1 => lkG B R g q i a || !rdO B R (5 + (g * B.r + a)) q i
theorem lkG_yes {B : Bn} {R : Rk} {a m : Nat} {g q i : Int} (h : a ≤ m) (ha : lkG B R g q i a = true) : lkG B R g q i m = true := by
  induction m with
  | zero => obtain rfl : a = 0 := by omega
            exact ha
  | succ m ih =>
    rcases Nat.lt_or_ge m a with h1 | h1
    · obtain rfl : a = m + 1 := by omega
      exact ha
    · rw [lkG, ih h1, Bool.true_or]
/-- Is there such a segment and such a slot? -/
noncomputable def thO (B : Bn) (g i : Int) : Bool := segO B g && hasSl B.d i
noncomputable def misV (B : Bn) (R : Rk) (m : Nat) (g q i : Int) : Bool := if chkE R (thO B g i) = 0 then lkG B R g q i m else false
theorem thO_yes {B : Bn} {g i : Int} (h : thO B g i = true) : Sg B.d B.r B.s g ∧ 0 ≤ i ∧ i < B.d := by
  unfold thO at h
  rw [Bool.and_eq_true] at h
  exact ⟨segO_yes h.1, (of_decide_eq_true h.2)⟩
theorem chk_zero {R : Rk} {ok : Bool} (h : 0 = chkE R ok) : ok = true := by
  unfold chkE at h
  cases ok
  · cases h
  · rfl
theorem two_set {p0 p1 : Nat} {w W : World} {v0 v1 : Value} (u0 u1 : Value) (hn : p0 ≠ p1) (k0 : Cel p0 v0 W) (k1 : Cel p1 v1 W) (hb : Below w.heap.size w W) (l0 : w.heap.size ≤ p0) (l1 : w.heap.size ≤ p1) :
    Cel p1 v1 (W.setCell ⟨p0, 0, none⟩ u0) ∧ Cel p0 u0 ((W.setCell ⟨p0, 0, none⟩ u0).setCell ⟨p1, 0, none⟩ u1) ∧ Cel p1 u1 ((W.setCell ⟨p0, 0, none⟩ u0).setCell ⟨p1, 0, none⟩ u1) ∧ Below w.heap.size w ((W.setCell ⟨p0, 0, none⟩ u0).setCell ⟨p1, 0, none⟩ u1) :=
  ⟨k1.off u0 hn, (k0.set u0).off u1 hn.symm, (k1.off u0 hn).set u1, (hb.setCell (p := ⟨p0, 0, none⟩) l0 _).setCell (p := ⟨p1, 0, none⟩) l1 _⟩
section
variable {M : Nat → Prop} {L : Lay} {R : Rk} {w : World} {b : Nat} {B : Bn}
set_option maxRecDepth 100000 in
set_option maxHeartbeats 4000000 in
theorem sMissing_any {n m : Nat} (g i q : Int) (hr : RackAt w M L R) (hb : BnAt w b L.p B) (hd : B.d = (n : Int)) (hm : B.r = (m : Int)) :
    Calls Tryz.prog 34 #[.pointer (some ⟨b, 0, none⟩), .int .i64 g, .int .i64 i, .int .i64 q] w fun e w' => e = .returned (.tuple #[.bool (misV B R m g q i), .int .i64 (chkE R (thO B g i))]) ∧ Below w.heap.size w w' := by
  have HR := Lib.hid hr
  have HB := Lib.hid hb
  obtain ⟨vv, hvv⟩ : ∃ v, v = misV B R m g q i := ⟨_, rfl⟩
  obtain ⟨c, hc⟩ : ∃ c, c = chkE R (thO B g i) := ⟨_, rfl⟩
  rw [← hvv, ← hc]
  have HV := Lib.hid hvv
  have HC := Lib.hid hc
  clear hvv
  refine (callsIn_wide (n := 3)).1 ?_
  refine callsIn_of_wp_marks Tryz.func34 rfl trivial ?_ rfl
  simp only [Tryz.ntmps34, List.size_toArray, List.length_cons, List.length_nil, Nat.reduceAdd, Nat.reduceSub, Array.replicate_succ, Array.replicate_zero, List.push_toArray, List.append_toArray, List.nil_append, List.cons_append]
  refine wpIn_wide.2 (wp_calm ?_)
  obtain ⟨W1, hW1⟩ : ∃ W1, W1 = w.alloc (.cells #[.bool false] 4) := ⟨_, rfl⟩
  obtain ⟨W2, hW2⟩ : ∃ W2, W2 = W1.alloc (.cells #[.int .i64 0] 36) := ⟨_, rfl⟩
  obtain ⟨p0, hp0⟩ : ∃ p, p = w.heap.size := ⟨_, rfl⟩
  obtain ⟨p1, hp1⟩ : ∃ p, p = p0 + 1 := ⟨_, rfl⟩
  have e1 : W1.heap.size = p1 := by rw [hW1, hp1, hp0]; simp
  have b2 : Below W1.heap.size W1 W2 := by rw [hW2]; exact (Below.refl _ _).alloc (Nat.le_refl _) _
  have b1 : Below w.heap.size w W2 := by
    have : Below w.heap.size w W1 := by rw [hW1]; exact (Below.refl _ _).alloc (Nat.le_refl _) _
    exact this.trans (b2.mono this.size)
  have k0 : Cel p0 (.bool false) W2 := by rw [hp0]; exact (Cel.new hW1).next b2
  have k1 : Cel p1 (.int .i64 0) W2 := by rw [← e1]; exact Cel.new hW2
  have hsg := shasSeg_any g (hb.next b1)
  have HP : Hid (p0 = w.heap.size ∧ p1 = p0 + 1) := ⟨hp0, hp1⟩
  have HB2 := Lib.hid b1
  have K0 := Lib.hid k0
  have K1 := Lib.hid k1
  -- the region ahead of the loop: one way out
  have HCK : Hid (∀ w', Below w.heap.size w w' → Calls Tryz.prog 62 #[.pointer (some ⟨b, 0, none⟩), .bool (thO B g i)] w' fun e w'' => e = .returned (.int .i64 c) ∧ w'' = w') := fun w' hb' => by rw [hc]; exact check_any _ (hr.below hb') (hb.next hb')
  have HSL : Hid (∀ w', Below w.heap.size w w' → Calls Tryz.prog 86 #[.pointer (some ⟨b, 0, none⟩), .int .i64 i] w' fun e w'' => e = .returned (.bool (hasSl B.d i)) ∧ Below w'.heap.size w' w'') := fun w' hb' => shasSlot_any i (hb.next hb')
  clear k0 k1 b2 hr hb hc
  go_wp2_with (fail)
  rw [← hW1, ← hW2, ← hp0, ← hp1]
  clear hW1 hW2 hp0 hp1 e1 b1
  refine hsg.mono ?_
  rintro e W3 ⟨rfl, b3⟩
  have HB3 := Lib.hid (HB2.out.trans (b3.mono HB2.out.size))
  have K0' := Lib.hid (K0.out.next b3)
  have K1' := Lib.hid (K1.out.next b3)
  clear hsg b3 K0 K1 HB2
  have HPL : Hid (p0 ≠ p1 ∧ w.heap.size ≤ p0 ∧ w.heap.size ≤ p1) := by have := HP.out; exact ⟨by omega, by omega, by omega⟩
  cases hs : segO B g with
  | false =>
    have hck := HCK.out W3 HB3.out
    have hth : thO B g i = false := by unfold thO; rw [hs, Bool.false_and]
    have h0 : ¬ c = 0 := by rw [HC.out, hth]; unfold chkE; simp
    rw [hth] at hck
    have hc0 : (c == 0) = false := by simpa using h0
    have hc1 : (c != 0) = true := by simpa using h0
    have hV : Hid (vv = false) := by show _ = _; rw [HV.out, misV, ← HC.out, if_neg h0]
    obtain ⟨⟨c1', f1'⟩, hF⟩ := two_set (.bool false) (.int .i64 c) HPL.out.1 K0'.out K1'.out HB3.out HPL.out.2.1 HPL.out.2.2
    have HF := Lib.hid hF
    obtain ⟨c0, f0⟩ := K0'.out
    obtain ⟨c1, f1⟩ := K1'.out
    clear hth hs hF HSL h0
    go_wp2_with (go_at_call 62; refine hck.mono ?_; clear hck; rintro e w' ⟨rfl, rfl⟩)
    rw [hV.out]
    have r0 := HF.out.1.1
    have r1 := HF.out.2.1.1
    refine ⟨.tuple #[.bool false, .int .i64 c], ?_, rfl, HF.out.2.2⟩
    simp [results, Tryz.f34, go_sem, r0, r1]
  | true =>
    have hsl := HSL.out W3 HB3.out
    have hth : thO B g i = hasSl B.d i := by unfold thO; rw [hs, Bool.true_and]
    rw [← hth] at hsl
    clear hth hs
    by_cases h0 : c = 0
    · subst h0
      go_wp2_with (first
        | (go_at_call 86; refine hsl.mono ?_; clear hsl; rintro e W4 ⟨rfl, b4⟩; have hck := HCK.out W4 (HB3.out.trans (b4.mono HB3.out.size)); have HB4 := Lib.hid (HB3.out.trans (b4.mono HB3.out.size)); have K0 := Lib.hid (K0'.out.next b4); have K1 := Lib.hid (K1'.out.next b4); clear b4 K0' K1' HB3)
        | (go_at_call 62; refine hck.mono ?_; clear hck; rintro e W4' ⟨rfl, rfl⟩))
      have hth := chk_zero HC.out
      obtain ⟨hSg, hi0, hi1⟩ := thO_yes hth
      obtain ⟨i, rfl⟩ := Int.eq_ofNat_of_zero_le hi0
      have hV : Hid (vv = lkG B R g q i m) := by show _ = _; rw [HV.out, misV, ← HC.out, if_pos rfl]
      have hin : i < n := by rw [hd] at hi1; omega
      refine (gaps_any b g (i : Int) q W4').mono ?_
      rintro e W5 ⟨pb, pg, pl, pq, rfl, hbg, hps, b5⟩
      have HB5 := Lib.hid (HB4.out.trans (b5.mono HB4.out.size))
      have K0' := Lib.hid (K0.out.next b5)
      have K1' := Lib.hid (K1.out.next b5)
      have hl0 := K0.out.lt
      have hl1 := K1.out.lt
      have HG := Lib.hid hbg
      have hMlow : ∀ k, L.M R.n k → k < w.heap.size := fun k hk => HR.out.low k (HR.out.sub k hk)
      have hsz4 := HB4.out.size
      have hsz5 := HB5.out.size
      have HD := Lib.hid hd
      have HM := Lib.hid hm
      clear b5 K0 K1 hbg hth hi0 hi1
      go_wp2_with (fail)
      refine (wpIn_wide (n := 3)).1 ?_
      refine wp_over2 (N := fun k => k = p0 ∨ k = p1) rfl (enters_of Tryz.func123 (by kernel_rfl) rfl) (gaps_rounds pb pg pl pq b W4'.heap.size n m M L B g q i (fun _ => R) HD.out HM.out hSg hin (fun a k hk => by have := hMlow k hk; omega)) rfl
        (fun a X => lkG B R g q i a = false ∧ (Bgp pb pg pl pq b g i q W4'.heap.size X ∧ RackAt X M L R ∧ BnAt X b L.p B) ∧ Cel p0 (.bool false) X ∧ Cel p1 (.int .i64 0) X ∧ Below w.heap.size w X)
        (fun c X => c = .ret ∧ lkG B R g q i m = true ∧ Cel p0 (.bool true) X ∧ Cel p1 (.int .i64 0) X ∧ Below w.heap.size w X)
        (fun a a' X => ∃ v, a' = { tmps := #[.pointer (some ⟨b, 0, none⟩), .int .i64 g, .int .i64 i, .int .i64 q, undef, undef, undef, undef, .pointer (some ⟨p0, 0, none⟩), .pointer (some ⟨p1, 0, none⟩), .int .i64 0, .pointer (some ⟨b, 0, none⟩), .pointer (some ⟨b, 0, none⟩), .int .i64 g, .bool true, .bool true, .pointer (some ⟨b, 0, none⟩), .int .i64 i, .bool (thO B g i), .bool (thO B g i), .int .i64 0, .int .i64 0, .bool false, undef, .pointer (some ⟨b, 0, none⟩), .int .i64 g, .int .i64 i, .int .i64 q, .func (.func 123) #[] #[.pointer (some ⟨pb, 0, none⟩), .pointer (some ⟨pg, 0, none⟩), .pointer (some ⟨pl, 0, none⟩), .pointer (some ⟨pq, 0, none⟩)], v], defers := [] })
        (fun a X h => h.2.1) ?hI ?hIx ?hAx ?hN ?h0 ?assign ?skip ?body ?done ?stop
      case hI => exact fun a => (Abides.pure _ _).and (((Bgp.abides _).and ((RackAt.abides (fun k hk => by have := hMlow k hk; omega)).and (BnAt.abides _))).and ((Cel.abides _ _ _).and ((Cel.abides _ _ _).and (below_abides hsz5))))
      case hIx => exact fun c => (Abides.pure _ _).and ((Abides.pure _ _).and ((Cel.abides _ _ _).and ((Cel.abides _ _ _).and (below_abides hsz5))))
      case hAx => exact fun a a' => Abides.ex fun v => Abides.pure _ _
      case hN => rintro k (rfl | rfl); exact K0'.out.lt; exact K1'.out.lt
      case h0 => exact ⟨rfl, ⟨HG.out, HR.out.below HB5.out, HB.out.next HB5.out⟩, K0'.out, K1'.out, HB5.out⟩
      case assign =>
        intro l2 a v X K ha hle hI hD hK
        gi_wp2
        exact hK _ _ (Below.refl _ _) ⟨v, by simp⟩
      case skip =>
        rintro a X ha hs ⟨h1, h2, h3, h4, h5⟩
        exact ⟨by rw [lkG, h1, hs]; rfl, h2, h3, h4, h5⟩
      case body =>
        rintro l2 a a' X ha hsk hle ⟨h1, h2, h3, h4, h5⟩ ⟨v, rfl⟩
        obtain ⟨⟨c1', f1'⟩, hF⟩ := two_set (.bool true) (.int .i64 0) HPL.out.1 h3 h4 h5 HPL.out.2.1 HPL.out.2.2
        have HF := Lib.hid hF
        obtain ⟨c0, f0⟩ := h3
        obtain ⟨c1, f1⟩ := h4
        clear hF h5 h2
        gi_wp2
        refine ⟨(Turn.setCell (a := ⟨p0, 0, none⟩) _ (.inl rfl) _).trans (Turn.setCell (a := ⟨p1, 0, none⟩) _ (.inr rfl) _), rfl, lkG_yes (a := a + 1) ha (by rw [lkG, hsk]; simp), HF.out.1, HF.out.2.1, HF.out.2.2⟩
      case done =>
        rintro D X hD ⟨h1, h2, h3, h4, h5⟩ hK
        obtain ⟨⟨c1', f1'⟩, hF⟩ := two_set (.bool false) (.int .i64 0) HPL.out.1 h3 h4 h5 HPL.out.2.1 HPL.out.2.2
        have HF := Lib.hid hF
        have hn1 : p0 ≠ D := by have := K0'.out.lt; omega
        have hn2 : p1 ≠ D := by have := K1'.out.lt; omega
        have HK : Hid (((X.setCell ⟨p0, 0, none⟩ (.bool false)).setCell ⟨p1, 0, none⟩ (.int .i64 0)).heap[D]? = some (.deferred (some []))) :=
          (Below.heap_setCell _ ⟨p1, 0, none⟩ (.int .i64 0) D hn2.symm).trans ((Below.heap_setCell X ⟨p0, 0, none⟩ (.bool false) D hn1.symm).trans hK)
        have H1 := Lib.hid h1
        obtain ⟨c0, f0⟩ := h3
        obtain ⟨c1, f1⟩ := h4
        clear hn1 hn2 hK h2 h5 h1 hF
        go_wp2_with (fail)
        refine ⟨by simp, .inl ⟨_, _, rfl, run_takeDeferred HK.out, ?_⟩⟩
        have hA := aside_put HK.out rfl (.deferred none)
        have r2 := (HF.out.1.aside hA).1
        have r3 := (HF.out.2.1.aside hA).1
        refine ⟨.tuple #[.bool vv, .int .i64 0], ?_, rfl, ((below_abides (K := w.heap.size) (Nat.le_refl _)).aside D _ _ (by omega) HF.out.2.2 hA)⟩
        rw [hV.out, H1.out]
        simp [results, Tryz.f34, go_sem, r2, r3]
      case stop =>
        rintro D c X hD ⟨rfl, h1, h2, h3, hbl⟩ hK
        gi_wp2
        refine ⟨by simp, .inl ⟨_, _, rfl, run_takeDeferred hK, ?_⟩⟩
        have hA := aside_put hK rfl (.deferred none)
        have r2 := (h2.aside hA).1
        have r3 := (h3.aside hA).1
        refine ⟨.tuple #[.bool vv, .int .i64 0], ?_, rfl, ((below_abides (K := w.heap.size) (Nat.le_refl _)).aside D _ _ (by omega) hbl hA)⟩
        rw [hV.out, h1]
        simp [results, Tryz.f34, go_sem, r2, r3]
    · have hc0 : (c == 0) = false := by simpa using h0
      have hc1 : (c != 0) = true := by simpa using h0
      have hV : Hid (vv = false) := by show _ = _; rw [HV.out, misV, ← HC.out, if_neg h0]
      have HE : Hid (∀ W', Below W3.heap.size W3 W' → Cel p0 (.bool false) W' ∧ Cel p1 (.int .i64 0) W' ∧ Cel p1 (.int .i64 0) (W'.setCell ⟨p0, 0, none⟩ (.bool false)) ∧ Hid (Cel p0 (.bool false) ((W'.setCell ⟨p0, 0, none⟩ (.bool false)).setCell ⟨p1, 0, none⟩ (.int .i64 c)) ∧ Cel p1 (.int .i64 c) ((W'.setCell ⟨p0, 0, none⟩ (.bool false)).setCell ⟨p1, 0, none⟩ (.int .i64 c)) ∧ Below w.heap.size w ((W'.setCell ⟨p0, 0, none⟩ (.bool false)).setCell ⟨p1, 0, none⟩ (.int .i64 c)))) := fun W' b' => by
        obtain ⟨h1, h2⟩ := two_set (.bool false) (.int .i64 c) HPL.out.1 (K0'.out.next b') (K1'.out.next b') (HB3.out.trans (b'.mono HB3.out.size)) HPL.out.2.1 HPL.out.2.2
        exact ⟨K0'.out.next b', K1'.out.next b', h1, h2⟩
      clear h0
      go_wp2_with (first
        | (go_at_call 86; refine hsl.mono ?_; clear hsl; rintro e W4 ⟨rfl, b4⟩; have hck := HCK.out W4 (HB3.out.trans (b4.mono HB3.out.size)); obtain ⟨⟨c0, f0⟩, ⟨c1, f1⟩, ⟨c1', f1'⟩, HF⟩ := HE.out W4 b4; clear b4 HE)
        | (go_at_call 62; refine hck.mono ?_; clear hck; rintro e w' ⟨rfl, rfl⟩))
      rw [hV.out]
      have r0 := HF.out.1.1
      have r1 := HF.out.2.1.1
      refine ⟨.tuple #[.bool false, .int .i64 c], ?_, rfl, HF.out.2.2⟩
      simp [results, Tryz.f34, go_sem, r0, r1]
end

end Go.Proofs.YtciddoeeiamndaaGreat

/-
  The stripe's Refill, by contract.
-/
namespace Go.Proofs.YtciddoeeiamndaaGreat
open Go.RowKit Go.Maps
set_option linter.unusedVariables false
attribute [local go_sem] Oper.semAt_some

/-- A slot filled row by row: how it ended, if it did, and the rack. -/
def rfG (B : Bn) (R : Rk) (n : Nat) (g q : Int) (i : Nat) : Nat → Option Int × Rk
  | 0 => (none, R)
  | a + 1 =>
    let s := rfG B R n g q i a
    let z := 5 + (g * B.r + a)
    if s.1.isSome || rdO B s.2 z q i then s
    else if resO B s.2 z q i n then (if bwE B s.2 i z (resL B s.2 z q i n) = 0 then none else some (bwE B s.2 i z (resL B s.2 z q i n)), bw B s.2 i z (resL B s.2 z q i n))
    else (some 14, s.2)
theorem bwn (B : Bn) (R : Rk) (i k : Int) (zs : List Int) : (bw B R i k zs).n = R.n := bw_n B R i k zs
theorem rfG_n (B : Bn) (R : Rk) (n : Nat) (g q : Int) (i a : Nat) : (rfG B R n g q i a).2.n = R.n := by
  induction a with
  | zero => rfl
  | succ a ih =>
    unfold rfG
    dsimp only
    split
    · exact ih
    · split
      · rw [bwn]; exact ih
      · exact ih
theorem rfG_end {B : Bn} {R : Rk} {n i a m : Nat} {g q : Int} (h : a ≤ m) (ha : (rfG B R n g q i a).1.isSome = true) : rfG B R n g q i m = rfG B R n g q i a := by
  induction m with
  | zero => obtain rfl : a = 0 := by omega
            rfl
  | succ m ih =>
    rcases Nat.lt_or_ge m a with h1 | h1
    · obtain rfl : a = m + 1 := by omega
      rfl
    · have := ih h1
      show (if _ then _ else _) = _
      rw [this, ha, Bool.true_or, if_pos rfl]
theorem rfG_skip {B : Bn} {R : Rk} {n i a : Nat} {g q : Int} (hr : rdO B (rfG B R n g q i a).2 (5 + (g * B.r + a)) q i = true) : rfG B R n g q i (a + 1) = rfG B R n g q i a := by
  show (if _ then _ else _) = _
  rw [hr, Bool.or_true, if_pos rfl]
theorem rfG_no {B : Bn} {R : Rk} {n i a : Nat} {g q : Int} (h : (rfG B R n g q i a).1 = none) (hr : rdO B (rfG B R n g q i a).2 (5 + (g * B.r + a)) q i = false) (hs : resO B (rfG B R n g q i a).2 (5 + (g * B.r + a)) q i n = false) :
    rfG B R n g q i (a + 1) = (some 14, (rfG B R n g q i a).2) := by
  show (if _ then _ else if _ then _ else _) = _
  rw [h, hr, hs]
  rfl
theorem rfG_go {B : Bn} {R : Rk} {n i a : Nat} {g q : Int} (h : (rfG B R n g q i a).1 = none) (hr : rdO B (rfG B R n g q i a).2 (5 + (g * B.r + a)) q i = false) (hs : resO B (rfG B R n g q i a).2 (5 + (g * B.r + a)) q i n = true) :
    rfG B R n g q i (a + 1) = (if bwE B (rfG B R n g q i a).2 i (5 + (g * B.r + a)) (resL B (rfG B R n g q i a).2 (5 + (g * B.r + a)) q i n) = 0 then none else some (bwE B (rfG B R n g q i a).2 i (5 + (g * B.r + a)) (resL B (rfG B R n g q i a).2 (5 + (g * B.r + a)) q i n)), bw B (rfG B R n g q i a).2 i (5 + (g * B.r + a)) (resL B (rfG B R n g q i a).2 (5 + (g * B.r + a)) q i n)) := by
  show (if _ then _ else if _ then _ else _) = _
  rw [h, hr, hs]
  rfl
noncomputable def rfE (B : Bn) (R : Rk) (n m : Nat) (g q i : Int) : Int := if chkE R (thO B g i) = 0 then (rfG B R n g q i.toNat m).1.getD 0 else chkE R (thO B g i)
noncomputable def rfR (B : Bn) (R : Rk) (n m : Nat) (g q i : Int) : Rk := if chkE R (thO B g i) = 0 then (rfG B R n g q i.toNat m).2 else R
theorem turn_abides {N : Nat → Prop} {w : World} {K : Nat} (hK : w.heap.size ≤ K) : Abides K (fun X => Turn N w X) :=
  ⟨fun X X' h hb => h.trans (Turn.of_below hb), fun l X X' hl h ha => h.aside ha (by omega)⟩
section
variable {M : Nat → Prop} {L : Lay} {R : Rk} {w : World} {b : Nat} {B : Bn}
set_option maxRecDepth 100000 in
set_option maxHeartbeats 8000000 in
theorem sRefill_any {n m : Nat} (g i q : Int) (hr : RackAt w M L R) (hb : BnAt w b L.p B) (hbM : ¬ L.M R.n b) (hd : B.d = (n : Int)) (hn : n ≤ 16) (hm : B.r = (m : Int)) :
    Calls Tryz.prog 36 #[.pointer (some ⟨b, 0, none⟩), .int .i64 g, .int .i64 i, .int .i64 q] w (CallPost M L R (rfR B R n m g q i) w (.int .i64 (rfE B R n m g q i))) := by
  have HR := Lib.hid hr
  have HB := Lib.hid hb
  have HBM := Lib.hid hbM
  unfold CallPost
  obtain ⟨vv, hvv⟩ : ∃ v, v = rfE B R n m g q i := ⟨_, rfl⟩
  obtain ⟨R', hR'⟩ : ∃ v, v = rfR B R n m g q i := ⟨_, rfl⟩
  obtain ⟨c, hc⟩ : ∃ c, c = chkE R (thO B g i) := ⟨_, rfl⟩
  rw [← hvv, ← hR']
  unfold rfE at hvv
  unfold rfR at hR'
  rw [← hc] at hvv hR'
  have HV := Lib.hid hvv
  have HR' := Lib.hid hR'
  have HC := Lib.hid hc
  clear hvv hR'
  refine (callsIn_wide (n := 3)).1 ?_
  refine callsIn_of_wp_marks Tryz.func36 rfl trivial ?_ rfl
  simp only [Tryz.ntmps36, List.size_toArray, List.length_cons, List.length_nil, Nat.reduceAdd, Nat.reduceSub, Array.replicate_succ, Array.replicate_zero, List.push_toArray, List.append_toArray, List.nil_append, List.cons_append]
  refine wpIn_wide.2 (wp_calm ?_)
  obtain ⟨W1, hW1⟩ : ∃ W1, W1 = w.alloc (.cells #[.pointer (some ⟨b, 0, none⟩)] 27) := ⟨_, rfl⟩
  obtain ⟨W2, hW2⟩ : ∃ W2, W2 = W1.alloc (.cells #[.int .i64 q] 3) := ⟨_, rfl⟩
  obtain ⟨W3, hW3⟩ : ∃ W3, W3 = W2.alloc (.cells #[.int .i64 0] 36) := ⟨_, rfl⟩
  obtain ⟨p0, hp0⟩ : ∃ p, p = w.heap.size := ⟨_, rfl⟩
  obtain ⟨p1, hp1⟩ : ∃ p, p = p0 + 1 := ⟨_, rfl⟩
  obtain ⟨p2, hp2⟩ : ∃ p, p = p1 + 1 := ⟨_, rfl⟩
  have e1 : W1.heap.size = p1 := by rw [hW1, hp1, hp0]; simp
  have e2 : W2.heap.size = p2 := by rw [hW2, hp2, ← e1]; simp
  have b3 : Below W2.heap.size W2 W3 := by rw [hW3]; exact (Below.refl _ _).alloc (Nat.le_refl _) _
  have b2 : Below W1.heap.size W1 W3 := by
    have : Below W1.heap.size W1 W2 := by rw [hW2]; exact (Below.refl _ _).alloc (Nat.le_refl _) _
    exact this.trans (b3.mono this.size)
  have b1 : Below w.heap.size w W3 := by
    have : Below w.heap.size w W1 := by rw [hW1]; exact (Below.refl _ _).alloc (Nat.le_refl _) _
    exact this.trans (b2.mono this.size)
  have k0 : Cel p0 (.pointer (some ⟨b, 0, none⟩)) W3 := by rw [hp0]; exact (Cel.new hW1).next b2
  have k1 : Cel p1 (.int .i64 q) W3 := by rw [← e1]; exact (Cel.new hW2).next b3
  have k2 : Cel p2 (.int .i64 0) W3 := by rw [← e2]; exact Cel.new hW3
  have hsg := shasSeg_any g (hb.next b1).drew
  have HP : Hid (p0 = w.heap.size ∧ p1 = p0 + 1 ∧ p2 = p1 + 1) := ⟨hp0, hp1, hp2⟩
  have HB1 := Lib.hid b1
  have K0 := Lib.hid k0
  have K1 := Lib.hid k1
  have K2 := Lib.hid k2
  have c0 := k0.1
  have hlt0 := k0.lt
  have HCK : Hid (∀ w', Below w.heap.size w w' → Calls Tryz.prog 62 #[.pointer (some ⟨b, 0, none⟩), .bool (thO B g i)] w' fun e w'' => e = .returned (.int .i64 c) ∧ w'' = w') := fun w' hb' => by rw [hc]; exact check_any _ (hr.below hb') (hb.next hb')
  have HSL : Hid (∀ w', Below w.heap.size w w' → Calls Tryz.prog 86 #[.pointer (some ⟨b, 0, none⟩), .int .i64 i] w' fun e w'' => e = .returned (.bool (hasSl B.d i)) ∧ Below w'.heap.size w' w'') := fun w' hb' => shasSlot_any i (hb.next hb')
  clear k0 k1 k2 b3 b2 hr hb hc hbM
  go_wp2_with (fail)
  rw [← hW1, ← hW2, ← hW3, ← hp0, ← hp1, ← hp2]
  clear hW1 hW2 hW3 hp0 hp1 hp2 e1 e2 b1
  refine wp_region_held_drew (S := fun w' => w'.cell? ⟨p0, 0, none⟩ = some (.pointer (some ⟨b, 0, none⟩))) (by kernel_rfl) ?_ (fun hHeld => ?_)
  · exact c0
  refine wpAnyH_take (i := 0) (v := ?_) rfl (by kernel_rfl) (by kernel_rfl) (by kernel_rfl) (fun _ _ _ h => h) (Or.inl ⟨by rfl, fun w hSw => ?_⟩) (by assumption) ?_
  rotate_left
  · (try dsimp only at hSw); go_simp; try with_reducible rfl
  simp only [Act.put, List.setIfInBounds_toArray, List.set_cons_zero, List.set_cons_succ, List.getElem_toArray, List.getElem_cons_zero]
  refine wpAnyH_take (i := 1) (v := ?_) rfl (by kernel_rfl) (by kernel_rfl) (by kernel_rfl) (fun _ _ _ h => h) (Or.inl ⟨by rfl, fun w hSw => ?_⟩) (by assumption) ?_
  rotate_left
  · (try dsimp only at hSw); go_simp; try with_reducible rfl
  simp only [Act.put, List.setIfInBounds_toArray, List.set_cons_zero, List.set_cons_succ, List.getElem_toArray, List.getElem_cons_succ, List.getElem_cons_zero]
  refine wpAnyH_take (i := 2) (v := ?_) rfl (by kernel_rfl) (by kernel_rfl) (by kernel_rfl) (fun _ _ _ h => h) (Or.inl ⟨by rfl, fun w hSw => ?_⟩) (by assumption) ?_
  rotate_left
  · (try dsimp only at hSw); go_simp; try with_reducible rfl
  simp only [Act.put, List.setIfInBounds_toArray, List.set_cons_zero, List.set_cons_succ, List.getElem_toArray, List.getElem_cons_succ, List.getElem_cons_zero]
  refine wpAnyH_ready (rs := [3]) (by kernel_rfl) (by simp) ?_
  refine AllReadyH.cons rfl (fun K hK => ?_) AllReadyH.nil
  simp only [List.getElem_toArray, List.getElem_cons_succ, List.getElem_cons_zero]
  go_simp
  refine hsg.mono ?_
  rintro e W4 ⟨rfl, b4⟩
  have b4 := undrew b4
  have c0' := (b4.cell (p := ⟨p0, 0, none⟩) hlt0).trans c0
  have HB4 := Lib.hid (HB1.out.trans (b4.mono HB1.out.size))
  have K0' := Lib.hid (K0.out.next b4)
  have K1' := Lib.hid (K1.out.next b4)
  have K2' := Lib.hid (K2.out.next b4)
  have hlt0' := Nat.lt_of_lt_of_le hlt0 b4.size
  clear hsg b4 hlt0 c0 K0 K1 K2 HB1
  go_wp2_with (fail)
  refine hK.out _ _ c0' (fun hHeld => ?_)
  clear hK K
  refine wpAnyH_take (i := 4) (v := ?_) rfl (by kernel_rfl) (by kernel_rfl) (by kernel_rfl) (fun _ _ _ h => h) (Or.inl ⟨by rfl, fun w hSw => ?_⟩) (by assumption) ?_
  rotate_left
  · (try dsimp only at hSw); go_simp; try with_reducible rfl
  simp only [Act.put, List.setIfInBounds_toArray, List.set_cons_zero, List.set_cons_succ, List.getElem_toArray, List.getElem_cons_succ, List.getElem_cons_zero]
  cases hs : segO B g with
  | false =>
    have hth : thO B g i = false := by unfold thO; rw [hs, Bool.false_and]
    have h0 : ¬ c = 0 := by rw [HC.out, hth]; unfold chkE; simp
    have hck := HCK.out W4 HB4.out
    rw [hth] at hck
    clear hth hs HSL HCK
    refine wpAnyH_take (i := 5) (v := undef) rfl (by kernel_rfl) (by kernel_rfl) (by kernel_rfl) (fun _ _ _ h => h) (Or.inr ⟨by rfl, rfl⟩) (by assumption) ?_
    simp only [Act.put, List.setIfInBounds_toArray, List.set_cons_zero, List.set_cons_succ, List.getElem_toArray, List.getElem_cons_succ, List.getElem_cons_zero]
    refine wpAnyH_take (i := 6) (v := undef) rfl (by kernel_rfl) (by kernel_rfl) (by kernel_rfl) (fun _ _ _ h => h) (Or.inr ⟨by rfl, rfl⟩) (by assumption) ?_
    simp only [Act.put, List.setIfInBounds_toArray, List.set_cons_zero, List.set_cons_succ, List.getElem_toArray, List.getElem_cons_succ, List.getElem_cons_zero]
    refine wpAnyH_take (i := 7) (v := undef) rfl (by kernel_rfl) (by kernel_rfl) (by kernel_rfl) (fun _ _ _ h => h) (Or.inr ⟨by rfl, rfl⟩) (by assumption) ?_
    simp only [Act.put, List.setIfInBounds_toArray, List.set_cons_zero, List.set_cons_succ, List.getElem_toArray, List.getElem_cons_succ, List.getElem_cons_zero]
    refine wpAnyH_take (i := 8) (v := ?_) rfl (by kernel_rfl) (by kernel_rfl) (by kernel_rfl) (fun _ _ _ h => h) (Or.inl ⟨by rfl, fun w hSw => ?_⟩) (by assumption) ?_
    rotate_left
    · (try dsimp only at hSw); go_simp; try with_reducible rfl
    simp only [Act.put, List.setIfInBounds_toArray, List.set_cons_zero, List.set_cons_succ, List.getElem_toArray, List.getElem_cons_succ, List.getElem_cons_zero]
    refine wpAnyH_ready (rs := [9]) (by kernel_rfl) (by simp) ?_
    refine AllReadyH.cons rfl (fun K hK => ?_) AllReadyH.nil
    simp only [List.getElem_toArray, List.getElem_cons_succ, List.getElem_cons_zero]
    go_simp
    refine hck.mono ?_
    rintro e W5 ⟨rfl, rfl⟩
    go_wp2_with (fail)
    refine hK.out _ _ c0' (fun hHeld => ?_)
    clear hK K hck
    refine wpAnyH_take (i := 10) (v := ?_) rfl (by kernel_rfl) (by kernel_rfl) (by kernel_rfl) (fun _ _ _ h => h) (Or.inl ⟨by rfl, fun w hSw => ?_⟩) (by assumption) ?_
    rotate_left
    · (try dsimp only at hSw); go_simp; try with_reducible rfl
    simp only [Act.put, List.setIfInBounds_toArray, List.set_cons_zero, List.set_cons_succ, List.getElem_toArray, List.getElem_cons_succ, List.getElem_cons_zero]
    refine wpAnyH_done (by kernel_rfl) ?_ _
    clear c0' hHeld hlt0'
    have hc0 : (c == 0) = false := by simpa using h0
    have hc1 : (c != 0) = true := by simpa using h0
    have hV : Hid (vv = c) := by show _ = _; rw [HV.out, if_neg h0]
    have hR : Hid (R' = R) := by show _ = _; rw [HR'.out, if_neg h0]
    have HF := Lib.hid (K2'.out.set (.int .i64 c))
    have HBF : Hid (Below w.heap.size w (W5.setCell ⟨p2, 0, none⟩ (.int .i64 c))) := HB4.out.setCell (p := ⟨p2, 0, none⟩) (by have := HP.out; show _ ≤ p2; omega) _
    obtain ⟨c2, f2⟩ := K2'.out
    clear h0
    go_wp2_with (fail)
    have r0 := HF.out.1
    refine ⟨.int .i64 c, ?_, by rw [hV.out], by rw [hR.out]; exact HR.out.below HBF.out, Turn.of_below HBF.out⟩
    simp [results, Tryz.f36, go_sem, r0]
  | true =>
    have hsl := HSL.out W4 HB4.out
    have hth : thO B g i = hasSl B.d i := by unfold thO; rw [hs, Bool.true_and]
    rw [← hth] at hsl
    clear hth hs HSL
    refine wpAnyH_take (i := 5) (v := ?_) rfl (by kernel_rfl) (by kernel_rfl) (by kernel_rfl) (fun _ _ _ h => h) (Or.inl ⟨by rfl, fun w hSw => ?_⟩) (by assumption) ?_
    rotate_left
    · (try dsimp only at hSw); go_simp; try with_reducible rfl
    simp only [Act.put, List.setIfInBounds_toArray, List.set_cons_zero, List.set_cons_succ, List.getElem_toArray, List.getElem_cons_succ, List.getElem_cons_zero]
    refine wpAnyH_take (i := 6) (v := ?_) rfl (by kernel_rfl) (by kernel_rfl) (by kernel_rfl) (fun _ _ _ h => h) (Or.inl ⟨by rfl, fun w hSw => ?_⟩) (by assumption) ?_
    rotate_left
    · (try dsimp only at hSw); go_simp; try with_reducible rfl
    simp only [Act.put, List.setIfInBounds_toArray, List.set_cons_zero, List.set_cons_succ, List.getElem_toArray, List.getElem_cons_succ, List.getElem_cons_zero]
    refine wpAnyH_ready (rs := [7]) (by kernel_rfl) (by simp) ?_
    refine AllReadyH.cons rfl (fun K hK => ?_) AllReadyH.nil
    simp only [List.getElem_toArray, List.getElem_cons_succ, List.getElem_cons_zero]
    go_simp
    refine hsl.mono ?_
    rintro e W5 ⟨rfl, b5⟩
    have c0 := (b5.cell (p := ⟨p0, 0, none⟩) hlt0').trans c0'
    have HB5 := Lib.hid (HB4.out.trans (b5.mono HB4.out.size))
    have K0 := Lib.hid (K0'.out.next b5)
    have K1 := Lib.hid (K1'.out.next b5)
    have K2 := Lib.hid (K2'.out.next b5)
    have hck := HCK.out W5 HB5.out
    clear hsl b5 hlt0' c0' K0' K1' K2' HB4 HCK
    go_wp2_with (fail)
    refine hK.out _ _ c0 (fun hHeld => ?_)
    clear hK K
    refine wpAnyH_take (i := 8) (v := ?_) rfl (by kernel_rfl) (by kernel_rfl) (by kernel_rfl) (fun _ _ _ h => h) (Or.inl ⟨by rfl, fun w hSw => ?_⟩) (by assumption) ?_
    rotate_left
    · (try dsimp only at hSw); go_simp; try with_reducible rfl
    simp only [Act.put, List.setIfInBounds_toArray, List.set_cons_zero, List.set_cons_succ, List.getElem_toArray, List.getElem_cons_succ, List.getElem_cons_zero]
    refine wpAnyH_ready (rs := [9]) (by kernel_rfl) (by simp) ?_
    refine AllReadyH.cons rfl (fun K hK => ?_) AllReadyH.nil
    simp only [List.getElem_toArray, List.getElem_cons_succ, List.getElem_cons_zero]
    go_simp
    refine hck.mono ?_
    rintro e W6 ⟨rfl, rfl⟩
    go_wp2_with (fail)
    refine hK.out _ _ c0 (fun hHeld => ?_)
    clear hK K hck
    refine wpAnyH_take (i := 10) (v := ?_) rfl (by kernel_rfl) (by kernel_rfl) (by kernel_rfl) (fun _ _ _ h => h) (Or.inl ⟨by rfl, fun w hSw => ?_⟩) (by assumption) ?_
    rotate_left
    · (try dsimp only at hSw); go_simp; try with_reducible rfl
    simp only [Act.put, List.setIfInBounds_toArray, List.set_cons_zero, List.set_cons_succ, List.getElem_toArray, List.getElem_cons_succ, List.getElem_cons_zero]
    refine wpAnyH_done (by kernel_rfl) ?_ _
    clear c0 hHeld
    by_cases h0 : c = 0
    · subst h0
      have hth := chk_zero HC.out
      obtain ⟨hSg, hi0, hi1⟩ := thO_yes hth
      obtain ⟨i, rfl⟩ := Int.eq_ofNat_of_zero_le hi0
      have hV : Hid (vv = (rfG B R n g q i m).1.getD 0) := by show _ = _; rw [HV.out, if_pos rfl, Int.toNat_natCast]
      have hRR : Hid (R' = (rfG B R n g q i m).2) := by show _ = _; rw [HR'.out, if_pos rfl, Int.toNat_natCast]
      have hin : i < n := by rw [hd] at hi1; omega
      have c0 := K0.out.1
      have c1 := K1.out.1
      have HD := Lib.hid hd
      have HM := Lib.hid hm
      have HSg := Lib.hid hSg
      clear hth hi0 hi1 hd hm hSg
      go_wp2_with (fail)
      refine (gaps_any b g (i : Int) q W6).mono ?_
      rintro e W7 ⟨pb, pg, pl, pq, rfl, hbg, hps, b7⟩
      have HB7 := Lib.hid (HB5.out.trans (b7.mono HB5.out.size))
      have K0' := Lib.hid (K0.out.next b7)
      have K1' := Lib.hid (K1.out.next b7)
      have K2' := Lib.hid (K2.out.next b7)
      have HLT : Hid (p2 < W6.heap.size) := K2.out.lt
      have HG := Lib.hid hbg
      have HPS : Hid (W6.heap.size ≤ pb ∧ W6.heap.size ≤ pg ∧ W6.heap.size ≤ pl ∧ W6.heap.size ≤ pq) := hps
      have hMlow : Hid (∀ k, L.M R.n k → k < w.heap.size) := fun k hk => HR.out.low k (HR.out.sub k hk)
      have hsz6 := HB5.out.size
      have hs67 := b7.size
      have hsz7 := HB7.out.size
      have HRM : Hid (RackAt W7 (also M (· = p2)) L R) := HR.out.also HB7.out (fun k e => by subst e; exact ⟨by have := HP.out; omega, K2'.out.lt⟩)
      clear b7 K0 K1 K2 hbg hps c0 c1
      go_wp2_with (fail)
      refine (wpIn_wide (n := 3)).1 ?_
      refine wp_over2 (N := fun k => L.M R.n k ∨ k = p2) rfl (enters_of Tryz.func123 (by kernel_rfl) rfl) (gaps_rounds pb pg pl pq b W6.heap.size n m (also M (· = p2)) L B g q i (fun a => (rfG B R n g q i a).2) HD.out HM.out HSg.out hin (fun a k hk => by rw [rfG_n] at hk; have := hMlow.out k hk; omega)) rfl
        (fun a X => (rfG B R n g q i a).1 = none ∧ (Bgp pb pg pl pq b g i q W6.heap.size X ∧ RackAt X (also M (· = p2)) L (rfG B R n g q i a).2 ∧ BnAt X b L.p B) ∧ Cel p0 (.pointer (some ⟨b, 0, none⟩)) X ∧ Cel p1 (.int .i64 q) X ∧ Cel p2 (.int .i64 0) X ∧ Turn (L.M R.n) w X)
        (fun c X => c = .ret ∧ Cel p2 (.int .i64 vv) X ∧ RackAt X (also M (· = p2)) L R' ∧ Turn (L.M R.n) w X)
        (fun a a' X => ∃ s, X.cell? ⟨s, 0, none⟩ = some (.int .i64 i) ∧ X.cell? ⟨s, 1, none⟩ = some (.int .i64 (5 + (g * B.r + a))) ∧ s < X.heap.size ∧ W6.heap.size ≤ s ∧ a' = { tmps := #[.pointer (some ⟨b, 0, none⟩), .int .i64 g, .int .i64 i, .int .i64 q, .pointer (some ⟨p0, 0, none⟩), undef, undef, .pointer (some ⟨p1, 0, none⟩), .pointer (some ⟨p2, 0, none⟩), .int .i64 0, .pointer (some ⟨s, 0, none⟩), undef, undef, undef, .pointer (some ⟨b, 0, none⟩), .pointer (some ⟨b, 0, none⟩), .int .i64 g, .bool true, .bool true, .pointer (some ⟨b, 0, none⟩), .int .i64 i, .bool (thO B g i), .bool (thO B g i), .int .i64 0, .int .i64 0, .bool false, undef, .pointer (some ⟨b, 0, none⟩), .int .i64 g, .int .i64 i, .int .i64 q, .func (.func 123) #[] #[.pointer (some ⟨pb, 0, none⟩), .pointer (some ⟨pg, 0, none⟩), .pointer (some ⟨pl, 0, none⟩), .pointer (some ⟨pq, 0, none⟩)], spV i (5 + (g * B.r + a)), undef, undef, undef, undef, undef, undef, undef, undef, undef, undef, undef, undef, undef, undef, undef, undef, undef, undef, undef], defers := [] })
        (fun a X h => h.2.1) ?hI ?hIx ?hAx ?hN ?h0 ?assign ?skip ?body ?done ?stop
      case hI => exact fun a => (Abides.pure _ _).and (((Bgp.abides _).and ((RackAt.abides (fun k hk => by rw [rfG_n] at hk; have := hMlow.out k hk; omega)).and (BnAt.abides _))).and ((Cel.abides _ _ _).and ((Cel.abides _ _ _).and ((Cel.abides _ _ _).and (turn_abides hsz7)))))
      case hIx => exact fun c => (Abides.pure _ _).and ((Cel.abides _ _ _).and ((RackAt.abides (fun k hk => by rw [hRR.out, rfG_n] at hk; have := hMlow.out k hk; omega)).and (turn_abides hsz7)))
      case hAx => exact fun a a' => Abides.ex fun s => (cell_abides _ _ _).and ((cell_abides _ _ _).and ((size_abides _ _).and ((Abides.pure _ _).and (Abides.pure _ _))))
      case hN =>
        rintro k (hk | rfl)
        · have := hMlow.out k hk; omega
        · exact K2'.out.lt
      case h0 => exact ⟨rfl, ⟨HG.out, HRM.out, HB.out.next HB7.out⟩, K0'.out, K1'.out, K2'.out, Turn.of_below HB7.out⟩
      case assign =>
        intro l2 a v X K ha hle hI hD hK
        subst hD
        gi_wp2
        exact hK _ _ ((Below.refl _ _).alloc (Nat.le_refl _) _) ⟨X.heap.size, by simp, by simp, by simp, by omega, rfl⟩
      case skip =>
        rintro a X ha hs ⟨h1, h2, h3, h4, h5, h6⟩
        rw [rfG_skip hs]
        exact ⟨h1, h2, h3, h4, h5, h6⟩
      case body =>
        rintro l2 a a' X ha hsk hle ⟨h1, ⟨hbg, hrk, hbn⟩, h3, h4, h5, h6⟩ ⟨s, s0, s1, sl, sle, rfl⟩
        obtain ⟨z, hz⟩ : ∃ z, z = 5 + (g * B.r + (a : Int)) := ⟨_, rfl⟩
        have hgo := rfG_go (B := B) (R := R) (n := n) (g := g) (q := q) (i := i) (a := a) h1 hsk
        have hno := rfG_no (B := B) (R := R) (n := n) (g := g) (q := q) (i := i) (a := a) h1 hsk
        rw [← hz] at s1 hgo hno ⊢
        obtain ⟨Ra, hRa⟩ : ∃ Ra, Ra = (rfG B R n g q i a).2 := ⟨_, rfl⟩
        rw [← hRa] at hgo hno hrk
        have hRn : Ra.n = R.n := by rw [hRa, rfG_n]
        have hrs := srestore_any (x := i) z q hrk hbn HD.out hn hin
        have HZ := Lib.hid hz
        have HS0 := Lib.hid s0
        have HS1 := Lib.hid s1
        have HBG := Lib.hid hbg
        have HRK := Lib.hid hrk
        have HBN := Lib.hid hbn
        have H3 := Lib.hid h3
        have H4 := Lib.hid h4
        have H5 := Lib.hid h5
        have H6 := Lib.hid h6
        have HRN := Lib.hid hRn
        have HGO := Lib.hid hgo
        have HNO := Lib.hid hno
        have HEnd : Hid (∀ e Rb, rfG B R n g q i (a + 1) = (some e, Rb) → vv = e ∧ R' = Rb) := fun e Rb h => by
          have := rfG_end (B := B) (R := R) (n := n) (g := g) (q := q) (i := i) (a := a + 1) (m := m) ha (by rw [h]; rfl)
          rw [hV.out, hRR.out, this, h]
          exact ⟨rfl, rfl⟩
        have c0 := h3.1
        have c1 := h4.1
        clear hz hbg hrk hbn h3 h4 h5 h6 hRn hgo hno hsk hRa h1
        cases hre : resO B Ra z q i n with
        | false =>
          rw [hre] at hrs
          have hF := HNO.out hre
          obtain ⟨hv1, hv2⟩ := HEnd.out _ _ hF
          have HV1 := Lib.hid hv1
          have HV2 := Lib.hid hv2
          clear hre hF hv1 hv2 HNO HGO HEnd
          gi_wp2_with (refine ⟨trivial, ?_⟩; gi_at_call 69; refine (CallsIn.inRound l2 (callsIn_wide.2 hrs)).mono ?_; clear hrs; rintro e X5 ⟨a5, n5, c5, rfl, _, _, b5⟩; have HB5 := Lib.hid b5; obtain ⟨c2, f2⟩ := H5.out.next b5; clear b5)
          refine ⟨(Turn.of_below HB5.out).trans (Turn.setCell (a := ⟨p2, 0, none⟩) _ (.inr rfl) _), rfl, ?_, ?_, ?_⟩
          · rw [HV1.out]; exact (H5.out.next HB5.out).set _
          · rw [HV2.out]
            exact (HRK.out.below HB5.out).store (.inr rfl) (by rw [HRN.out]; intro x; have := hMlow.out _ x; have := HP.out; omega) _
          · exact (H6.out.trans (Turn.of_below HB5.out)).off (by have := HP.out; omega) _
        | true =>
          rw [hre] at hrs
          have hF := HGO.out hre
          obtain ⟨zs, hzs⟩ : ∃ zs, zs = resL B Ra z q i n := ⟨_, rfl⟩
          obtain ⟨er, her⟩ : ∃ e, e = bwE B Ra i z zs := ⟨_, rfl⟩
          rw [← hzs] at hrs hF
          rw [← her] at hF
          have HER := Lib.hid her
          have HF := Lib.hid hF
          have HWR : Hid (∀ W' a5 n5 c5, Below X.heap.size X W' → Pin W' a5 n5 c5 zs → (∀ y, a5 = some y → X.heap.size ≤ y.block) → Calls Tryz.prog 40 #[.pointer (some ⟨b, 0, none⟩), .int .i64 i, .int .i64 z, .slice a5 n5 c5] W' (CallPost (also M (· = p2)) L Ra (bw B Ra i z zs) W' (.int .i64 er))) := fun W' a5 n5 c5 hb' hp' hl' => by
            rw [HER.out]
            refine bwrite_any (i : Int) z a5 n5 c5 zs (HRK.out.below hb') (HBN.out.next hb') (by rw [HRN.out]; exact HBM.out) hp'.bys (.inr fun b' off' e' x => ?_)
            have h8 := hl' _ e'
            have h9 := HRK.out.low b' x
            exact absurd h9 (Nat.not_lt.2 h8)
          clear hre hzs her hF HNO HGO
          by_cases h0 : er = 0
          · subst h0
            have hF2 := HF.out
            rw [if_pos rfl] at hF2
            have HF2 := Lib.hid hF2
            clear hF2 HF HEnd
            gi_wp2_with (first
              | (refine ⟨trivial, ?_⟩; gi_at_call 69; refine (CallsIn.inRound l2 (callsIn_wide.2 hrs)).mono ?_; clear hrs; rintro e X5 ⟨a5, n5, c5, rfl, hp5, hn5, b5⟩; have hwr := HWR.out X5 a5 n5 c5 b5 hp5 hn5; have HB5 := Lib.hid b5; have d0 := (b5.cell (p := ⟨s, 0, none⟩) sl).trans s0; have d1 := (b5.cell (p := ⟨s, 1, none⟩) sl).trans s1; have d2 := (H3.out.next b5).1; clear b5 hp5 hn5 HWR s0 s1)
              | (refine ⟨trivial, ?_⟩; gi_at_call 40; refine (CallsIn.inRound l2 (callsIn_wide.2 hwr)).mono ?_; clear hwr; rintro e X6 ⟨rfl, hr6, ht6⟩; have hk2 := (H5.out.next HB5.out).turn ht6 (by rw [HRN.out]; intro x; have := hMlow.out _ x; have := HP.out; omega); have HK2 := Lib.hid hk2; obtain ⟨c2, f2⟩ := hk2; have HR6 := Lib.hid hr6; have HT6 := Lib.hid ht6; clear hr6 ht6))
            have hb5 := HBG.out.next HB5.out
            have nb : ∀ k, w.heap.size ≤ k → ¬ L.M Ra.n k := fun k hk x => by rw [HRN.out] at x; have := hMlow.out _ x; omega
            have hps := HPS.out
            have hp := HP.out
            refine ⟨(Turn.of_below HB5.out).trans (HT6.out.mono fun k hk => .inl (by rw [HRN.out] at hk; exact hk)), by rw [HF2.out], ⟨hb5.turn HT6.out (nb _ (by omega)) (nb _ (by omega)) (nb _ (by omega)) (nb _ (by omega)), by rw [HF2.out]; exact HR6.out, (HBN.out.next HB5.out).turn HT6.out (by rw [HRN.out]; exact HBM.out)⟩, (H3.out.next HB5.out).turn HT6.out (nb _ (by omega)), (H4.out.next HB5.out).turn HT6.out (nb _ (by omega)), HK2.out, ?_⟩
            have h6 := HT6.out
            rw [HRN.out] at h6
            exact (H6.out.trans (Turn.of_below HB5.out)).trans h6
          · have hz0 : (er == 0) = false := by simpa using h0
            have hz1 : (er != 0) = true := by simpa using h0
            have hF2 := HF.out
            rw [if_neg h0] at hF2
            obtain ⟨hv1, hv2⟩ := HEnd.out _ _ hF2
            have HV1 := Lib.hid hv1
            have HV2 := Lib.hid hv2
            clear hF2 hv1 hv2 h0 HF HEnd
            gi_wp2_with (first
              | (refine ⟨trivial, ?_⟩; gi_at_call 69; refine (CallsIn.inRound l2 (callsIn_wide.2 hrs)).mono ?_; clear hrs; rintro e X5 ⟨a5, n5, c5, rfl, hp5, hn5, b5⟩; have hwr := HWR.out X5 a5 n5 c5 b5 hp5 hn5; have HB5 := Lib.hid b5; have d0 := (b5.cell (p := ⟨s, 0, none⟩) sl).trans s0; have d1 := (b5.cell (p := ⟨s, 1, none⟩) sl).trans s1; have d2 := (H3.out.next b5).1; clear b5 hp5 hn5 HWR s0 s1)
              | (refine ⟨trivial, ?_⟩; gi_at_call 40; refine (CallsIn.inRound l2 (callsIn_wide.2 hwr)).mono ?_; clear hwr; rintro e X6 ⟨rfl, hr6, ht6⟩; have hk2 := (H5.out.next HB5.out).turn ht6 (by rw [HRN.out]; intro x; have := hMlow.out _ x; have := HP.out; omega); have HK2 := Lib.hid hk2; obtain ⟨c2, f2⟩ := hk2; have HR6 := Lib.hid hr6; have HT6 := Lib.hid ht6; clear hr6 ht6))
            refine ⟨((Turn.of_below HB5.out).trans (HT6.out.mono fun k hk => .inl (by rw [HRN.out] at hk; exact hk))).trans (Turn.setCell (a := ⟨p2, 0, none⟩) _ (.inr rfl) _), rfl, ?_, ?_, ?_⟩
            · rw [HV1.out]; exact HK2.out.set _
            · rw [HV2.out]
              exact HR6.out.store (.inr rfl) (by rw [bwn, HRN.out]; intro x; have := hMlow.out _ x; have := HP.out; omega) _
            · have h6 := HT6.out
              rw [HRN.out] at h6
              exact ((H6.out.trans (Turn.of_below HB5.out)).trans h6).off (by have := HP.out; omega) _
      case done =>
        rintro D X hD ⟨h1, ⟨hbg, hrk, hbn⟩, h3, h4, h5, h6⟩ hK
        have hn1 : p2 ≠ D := by have := K2'.out.lt; omega
        have HF := Lib.hid (h5.set (.int .i64 0))
        have HK : Hid ((X.setCell ⟨p2, 0, none⟩ (.int .i64 0)).heap[D]? = some (.deferred (some []))) := (Below.heap_setCell X ⟨p2, 0, none⟩ (.int .i64 0) D hn1.symm).trans hK
        have HRK : Hid (RackAt (X.setCell ⟨p2, 0, none⟩ (.int .i64 0)) (also M (· = p2)) L R') := by
          rw [hRR.out]
          exact hrk.store (.inr rfl) (by rw [rfG_n]; intro x; have := hMlow.out _ x; have := HP.out; omega) _
        have HT : Hid (Turn (L.M R.n) w (X.setCell ⟨p2, 0, none⟩ (.int .i64 0))) := h6.off (by have := HP.out; omega) _
        have H1 := Lib.hid h1
        obtain ⟨c2, f2⟩ := h5
        clear hn1 hK hbg hrk hbn h3 h4 h6 h1
        go_wp2_with (fail)
        refine ⟨by simp, .inl ⟨_, _, rfl, run_takeDeferred HK.out, ?_⟩⟩
        have hA := aside_put HK.out rfl (.deferred none)
        have r0 := (HF.out.aside hA).1
        have hDM : ¬ L.M R'.n D := by rw [hRR.out, rfG_n]; intro x; have := hMlow.out _ x; omega
        refine ⟨.int .i64 vv, ?_, rfl, (HRK.out.aside hA hDM).narrow (M := M) (fun k hk => .inl hk) (by rw [hRR.out, rfG_n]; exact HR.out.sub), HT.out.aside hA (by omega)⟩
        rw [hV.out, H1.out]
        simp [results, Tryz.f36, go_sem, r0]
      case stop =>
        rintro D c X hD ⟨rfl, h2, hrk, ht⟩ hK
        gi_wp2
        refine ⟨by simp, .inl ⟨_, _, rfl, run_takeDeferred hK, ?_⟩⟩
        have hA := aside_put hK rfl (.deferred none)
        have r0 := (h2.aside hA).1
        have hDM : ¬ L.M R'.n D := by rw [hRR.out, rfG_n]; intro x; have := hMlow.out _ x; omega
        refine ⟨.int .i64 vv, ?_, rfl, (hrk.aside hA hDM).narrow (M := M) (fun k hk => .inl hk) (by rw [hRR.out, rfG_n]; exact HR.out.sub), ht.aside hA (by omega)⟩
        simp [results, Tryz.f36, go_sem, r0]
    · have hc0 : (c == 0) = false := by simpa using h0
      have hc1 : (c != 0) = true := by simpa using h0
      have hV : Hid (vv = c) := by show _ = _; rw [HV.out, if_neg h0]
      have hR : Hid (R' = R) := by show _ = _; rw [HR'.out, if_neg h0]
      have HF := Lib.hid (K2.out.set (.int .i64 c))
      have HBF : Hid (Below w.heap.size w (W6.setCell ⟨p2, 0, none⟩ (.int .i64 c))) := HB5.out.setCell (p := ⟨p2, 0, none⟩) (by have := HP.out; show _ ≤ p2; omega) _
      obtain ⟨c2, f2⟩ := K2.out
      clear h0
      go_wp2_with (fail)
      have r0 := HF.out.1
      refine ⟨.int .i64 c, ?_, by rw [hV.out], by rw [hR.out]; exact HR.out.below HBF.out, Turn.of_below HBF.out⟩
      simp [results, Tryz.f36, go_sem, r0]
end

end Go.Proofs.YtciddoeeiamndaaGreat

/-
  The library's Contains of numbers, by contract.
-/
namespace Go.Proofs.YtciddoeeiamndaaGreat
open Go.RowKit
set_option linter.unusedVariables false

theorem index_any (a : Option Addr) (n c : Nat) (ks : List Int) (v : Int) (w : World) (h : Ins w a n ks) (hn : n ≤ 1000000000000) :
    Calls Tryz.prog 110 #[.slice a n c, .int .i64 v] w fun e w' => (∃ r : Int, e = .returned (.int .i64 r) ∧ (0 ≤ r ↔ v ∈ ks)) ∧ w = w' := by
  have HI := Lib.hid h
  have hl : Hid (ks.length = n) := h.1
  clear h
  go_enter Tryz.func110, Tryz.ntmps110
  go_wp2
  go_loop [5, 8] (fun _ i => ∃ k : Nat, k ≤ n ∧ i = .int .i64 k ∧ ∀ j, j < k → ks.getD j 0 ≠ v) (fun _ i => n - (RowKit.intOf i).toNat)
  case atStart => exact ⟨0, Nat.zero_le _, rfl, fun j hj => by omega⟩
  case round =>
    obtain ⟨k, hk, rfl, hno⟩ := hrel
    have HNO := Lib.hid hno
    clear hno
    by_cases hlt : k < n
    · obtain ⟨b, off, rfl, hc⟩ : ∃ b off, a = some ⟨b, off, none⟩ ∧ w.cell? ⟨b, off + k, none⟩ = some (.int .i64 (ks.getD k 0)) := by
        rcases HI.out.2 with h0 | ⟨b, off, e, _, hc⟩
        · omega
        · exact ⟨b, off, e, hc k hlt⟩
      obtain ⟨u, hu⟩ : ∃ u, u = ks.getD k 0 := ⟨_, rfl⟩
      rw [← hu] at hc
      have HU := Lib.hid hu
      clear hu
      by_cases hv : v = u
      · subst hv
        have hin : Hid (v ∈ ks) := by
          show _ ∈ _
          rw [HU.out]
          have : k < ks.length := by rw [hl.out]; exact hlt
          rw [show ks.getD k 0 = ks[k] by simp [List.getD, this]]
          exact List.getElem_mem this
        go_wp2
        go_ret
        exact ⟨⟨k, rfl, ⟨fun _ => hin.out, fun _ => by omega⟩⟩, rfl⟩
      · have hv0 : (v == u) = false := by simpa using hv
        have HV := Lib.hid hv
        clear hv
        go_wp2
        go_round
        case rel => exact ⟨k + 1, by omega, by go_num, fun j hj => by
          rcases Nat.lt_or_ge j k with h1 | h1
          · exact HNO.out j h1
          · obtain rfl : j = k := by omega
            rw [← HU.out]; exact fun e => HV.out e.symm⟩
        case measure => simp [RowKit.intOf]; omega
    · obtain rfl : k = n := by omega
      have hin : Hid (¬ v ∈ ks) := by
        intro hc
        obtain ⟨j, hj, e⟩ := List.mem_iff_getElem.1 hc
        refine HNO.out j (by rw [← hl.out]; exact hj) ?_
        simp [List.getD, hj, e]
      go_wp2
      go_ret
      exact ⟨⟨-1, rfl, ⟨fun h => by omega, fun h => absurd h hin.out⟩⟩, rfl⟩
theorem contains_any (a : Option Addr) (n c : Nat) (ks : List Int) (v : Int) (w : World) (h : Ins w a n ks) (hn : n ≤ 1000000000000) :
    Calls Tryz.prog 64 #[.slice a n c, .int .i64 v] w fun e w' => e = .returned (.bool (decide (v ∈ ks))) ∧ w = w' := by
  have hx := index_any a n c ks v w h hn
  clear h
  go_enter Tryz.func64, Tryz.ntmps64
  go_wp2_with (fail)
  refine hx.mono ?_
  rintro e w1 ⟨⟨r, rfl, hr⟩, rfl⟩
  have HR := Lib.hid hr
  clear hr hx
  go_wp2_with (fail)
  go_ret
  exact ⟨by rw [show decide (v ∈ ks) = decide (0 ≤ r) by rw [decide_eq_decide]; exact HR.out.symm]; simp, rfl⟩

end Go.Proofs.YtciddoeeiamndaaGreat

/-
  The stripe's Whole, by contract.
-/
namespace Go.Proofs.YtciddoeeiamndaaGreat
open Go.RowKit Go.Maps
set_option linter.unusedVariables false
attribute [local go_sem] Oper.semAt_some

/-- One sector more of a segment whose sectors have told u (0: none yet). -/
def whS (B : Bn) (R : Rk) (ks : List Int) (z i u : Int) : Option Int :=
  if i ∈ ks then some u else if ldO B R i z = false then none else
    if decN (brV B R i z) 0 4 = 0 ∨ (u ≠ 0 ∧ decN (brV B R i z) 0 4 ≠ u) then none else some (decN (brV B R i z) 0 4)
/-- .. the first c of a row, on the disks D .. -/
def whC (B : Bn) (R : Rk) (ks : List Int) (D : Nat → Int) (z u : Int) : Nat → Option Int
  | 0 => some u
  | c + 1 => (whC B R ks D z u c).bind (whS B R ks z (D c))
/-- .. the first a rows. -/
def whG (B : Bn) (R : Rk) (n : Nat) (g : Int) : Nat → Option Int
  | 0 => some 0
  | a + 1 => (whG B R n g a).bind fun u => whC B R (badL B R n) (rowD n (g * B.r + a)) (5 + (g * B.r + a)) u n
theorem whC_none {B : Bn} {R : Rk} {ks : List Int} {D : Nat → Int} {z u : Int} {c n : Nat} (h : c ≤ n) (hc : whC B R ks D z u c = none) : whC B R ks D z u n = none := by
  induction n with
  | zero => obtain rfl : c = 0 := by omega
            exact hc
  | succ n ih =>
    rcases Nat.lt_or_ge n c with h1 | h1
    · obtain rfl : c = n + 1 := by omega
      exact hc
    · rw [whC, ih h1]; rfl
theorem whG_none {B : Bn} {R : Rk} {g : Int} {a n m : Nat} (h : a ≤ m) (hc : whG B R n g a = none) : whG B R n g m = none := by
  induction m with
  | zero => obtain rfl : a = 0 := by omega
            exact hc
  | succ m ih =>
    rcases Nat.lt_or_ge m a with h1 | h1
    · obtain rfl : a = m + 1 := by omega
      exact hc
    · rw [whG, ih h1]; rfl
/-- What Whole answers. -/
noncomputable def whR (B : Bn) (R : Rk) (n m : Nat) (g : Int) : Option Int := if chkE R (segO B g) = 0 then (if twoB B R n then none else whG B R n g m) else none
theorem three_set {p1 p2 p3 : Nat} {w W : World} {v1 v2 v3 : Value} (u1 u2 u3 : Value) (n12 : p1 ≠ p2) (n13 : p1 ≠ p3) (n23 : p2 ≠ p3) (k1 : Cel p1 v1 W) (k2 : Cel p2 v2 W) (k3 : Cel p3 v3 W) (hb : Below w.heap.size w W) (l1 : w.heap.size ≤ p1) (l2 : w.heap.size ≤ p2) (l3 : w.heap.size ≤ p3) :
    (Cel p2 v2 (W.setCell ⟨p1, 0, none⟩ u1) ∧ Cel p3 v3 (W.setCell ⟨p1, 0, none⟩ u1) ∧ Cel p3 v3 ((W.setCell ⟨p1, 0, none⟩ u1).setCell ⟨p2, 0, none⟩ u2)) ∧
    (Cel p1 u1 (((W.setCell ⟨p1, 0, none⟩ u1).setCell ⟨p2, 0, none⟩ u2).setCell ⟨p3, 0, none⟩ u3) ∧ Cel p2 u2 (((W.setCell ⟨p1, 0, none⟩ u1).setCell ⟨p2, 0, none⟩ u2).setCell ⟨p3, 0, none⟩ u3) ∧ Cel p3 u3 (((W.setCell ⟨p1, 0, none⟩ u1).setCell ⟨p2, 0, none⟩ u2).setCell ⟨p3, 0, none⟩ u3) ∧
      Below w.heap.size w (((W.setCell ⟨p1, 0, none⟩ u1).setCell ⟨p2, 0, none⟩ u2).setCell ⟨p3, 0, none⟩ u3)) :=
  ⟨⟨k2.off u1 n12, k3.off u1 n13, (k3.off u1 n13).off u2 n23⟩, ((k1.set u1).off u2 n12.symm).off u3 n13.symm, ((k2.off u1 n12).set u2).off u3 n23.symm, ((k3.off u1 n13).off u2 n23).set u3,
    ((hb.setCell (p := ⟨p1, 0, none⟩) l1 _).setCell (p := ⟨p2, 0, none⟩) l2 _).setCell (p := ⟨p3, 0, none⟩) l3 _⟩
/-- Between two sectors of Whole. -/
structure WhI (w : World) (M : Nat → Prop) (L : Lay) (R : Rk) (b : Nat) (B : Bn) (xg xs n : Nat) (g : Int) (C p0 p1 p2 p3 p8 p9 : Nat) (ka : Option Addr) (kn kc : Nat) (ks : List Int) (u : Int) (X : World) : Prop where
  rk : RackAt X (also M (· = p9)) L R
  bn : BnAt X b L.p B
  bx : Bgs xg xs n B.r B.s g C X
  k0 : Cel p0 (.pointer (some ⟨b, 0, none⟩)) X
  k1 : Cel p1 (.int .i64 0) X
  k2 : Cel p2 (.bool false) X
  k3 : Cel p3 (.int .i64 0) X
  k8 : Cel p8 (.slice ka kn kc) X
  k9 : Cel p9 (.int .i64 u) X
  ins : Ins X ka kn ks
  bel : Below w.heap.size w X
section
variable {w : World} {M : Nat → Prop} {L : Lay} {R : Rk} {b : Nat} {B : Bn} {xg xs n : Nat} {g : Int} {C p0 p1 p2 p3 p8 p9 : Nat} {ka : Option Addr} {kn kc : Nat} {ks : List Int} {u : Int} {X X' : World}
theorem Ins.next {a : Option Addr} {n : Nat} {ks : List Int} (h : Ins X a n ks) (hb : Below X.heap.size X X') : Ins X' a n ks := ins_turn' (M := fun _ => False) h (Turn.of_below hb) (.inr fun _ _ _ x => x)
theorem Ins.aside {l : Nat} {a : Option Addr} {n : Nat} {ks : List Int} (h : Ins X a n ks) (ha : Aside l X X') : Ins X' a n ks := by
  refine ⟨h.1, ?_⟩
  rcases h.2 with h0 | ⟨b, off, e, hlt, hc⟩
  · exact .inl h0
  · exact .inr ⟨b, off, e, Nat.lt_of_lt_of_le hlt ha.turn.size, fun i hi => ha.cell (hc i hi)⟩
theorem WhI.next (h : WhI w M L R b B xg xs n g C p0 p1 p2 p3 p8 p9 ka kn kc ks u X) (hb : Below X.heap.size X X') : WhI w M L R b B xg xs n g C p0 p1 p2 p3 p8 p9 ka kn kc ks u X' :=
  ⟨h.rk.below hb, h.bn.next hb, h.bx.next hb, h.k0.next hb, h.k1.next hb, h.k2.next hb, h.k3.next hb, h.k8.next hb, h.k9.next hb, h.ins.next hb, h.bel.trans (hb.mono h.bel.size)⟩
theorem WhI.abides {K : Nat} (hK : ∀ k, L.M R.n k → k < K) (hw : w.heap.size ≤ K) : Abides K (WhI w M L R b B xg xs n g C p0 p1 p2 p3 p8 p9 ka kn kc ks u) :=
  ⟨fun X X' h hb => h.next hb, fun l X X' hl h ha => ⟨h.rk.aside ha (fun x => by have := hK l x; omega), h.bn.aside ha, h.bx.aside ha, h.k0.aside ha, h.k1.aside ha, h.k2.aside ha, h.k3.aside ha, h.k8.aside ha, h.k9.aside ha, h.ins.aside ha, (below_abides hw).aside l _ _ hl h.bel ha⟩⟩
theorem WhI.put (h : WhI w M L R b B xg xs n g C p0 p1 p2 p3 p8 p9 ka kn kc ks u X) (u' : Int) (hM : ¬ L.M R.n p9) (hb : b ≠ p9) (hg : xg ≠ p9) (hs : xs ≠ p9) (h0 : p0 ≠ p9) (h1 : p1 ≠ p9) (h2 : p2 ≠ p9) (h3 : p3 ≠ p9) (h8 : p8 ≠ p9) (hk : kn = 0 ∨ ∀ b off, ka = some ⟨b, off, none⟩ → b ≠ p9) (hw : w.heap.size ≤ p9) :
    WhI w M L R b B xg xs n g C p0 p1 p2 p3 p8 p9 ka kn kc ks u' (X.setCell ⟨p9, 0, none⟩ (.int .i64 u')) :=
  ⟨h.rk.store (.inr rfl) hM _, h.bn.turn (turn_set _ _ _ _) hb, h.bx.turn (turn_set _ _ _ _) hg hs, h.k0.off _ h0.symm, h.k1.off _ h1.symm, h.k2.off _ h2.symm, h.k3.off _ h3.symm, h.k8.off _ h8.symm, h.k9.set _, ins_turn' h.ins (turn_set _ p9 0 _) hk, h.bel.setCell (p := ⟨p9, 0, none⟩) hw _⟩
end
section
variable {M : Nat → Prop} {L : Lay} {R : Rk} {w : World} {b : Nat} {B : Bn}
set_option maxRecDepth 100000 in
set_option maxHeartbeats 8000000 in
theorem sWhole_any {n m : Nat} (g : Int) (hr : RackAt w M L R) (hb : BnAt w b L.p B) (hd : B.d = (n : Int)) (hn : n ≤ 16) (hm : B.r = (m : Int)) :
    Calls Tryz.prog 22 #[.pointer (some ⟨b, 0, none⟩), .int .i64 g] w fun e w' => e = .returned (.tuple #[.int .i64 ((whR B R n m g).getD 0), .bool (whR B R n m g).isSome, .int .i64 (chkE R (segO B g))]) ∧ Below w.heap.size w w' := by
  have HR := Lib.hid hr
  have HB := Lib.hid hb
  obtain ⟨vv, hvv⟩ : ∃ v, v = whR B R n m g := ⟨_, rfl⟩
  obtain ⟨c, hc⟩ : ∃ c, c = chkE R (segO B g) := ⟨_, rfl⟩
  rw [← hvv, ← hc]
  unfold whR at hvv
  rw [← hc] at hvv
  have HV := Lib.hid hvv
  have HC := Lib.hid hc
  clear hvv
  refine (callsIn_wide (n := 3)).1 ?_
  refine callsIn_of_wp_marks Tryz.func22 rfl trivial ?_ rfl
  simp only [Tryz.ntmps22, List.size_toArray, List.length_cons, List.length_nil, Nat.reduceAdd, Nat.reduceSub, Array.replicate_succ, Array.replicate_zero, List.push_toArray, List.append_toArray, List.nil_append, List.cons_append]
  refine wpIn_wide.2 (wp_calm ?_)
  obtain ⟨W1, hW1⟩ : ∃ W1, W1 = w.alloc (.cells #[.pointer (some ⟨b, 0, none⟩)] 27) := ⟨_, rfl⟩
  obtain ⟨W2, hW2⟩ : ∃ W2, W2 = W1.alloc (.cells #[.int .i64 0] 3) := ⟨_, rfl⟩
  obtain ⟨W3, hW3⟩ : ∃ W3, W3 = W2.alloc (.cells #[.bool false] 4) := ⟨_, rfl⟩
  obtain ⟨W4, hW4⟩ : ∃ W4, W4 = W3.alloc (.cells #[.int .i64 0] 36) := ⟨_, rfl⟩
  obtain ⟨p0, hp0⟩ : ∃ p, p = w.heap.size := ⟨_, rfl⟩
  obtain ⟨p1, hp1⟩ : ∃ p, p = p0 + 1 := ⟨_, rfl⟩
  obtain ⟨p2, hp2⟩ : ∃ p, p = p1 + 1 := ⟨_, rfl⟩
  obtain ⟨p3, hp3⟩ : ∃ p, p = p2 + 1 := ⟨_, rfl⟩
  have e1 : W1.heap.size = p1 := by rw [hW1, hp1, hp0]; simp
  have e2 : W2.heap.size = p2 := by rw [hW2, hp2, ← e1]; simp
  have e3 : W3.heap.size = p3 := by rw [hW3, hp3, ← e2]; simp
  have b4 : Below W3.heap.size W3 W4 := by rw [hW4]; exact (Below.refl _ _).alloc (Nat.le_refl _) _
  have b3 : Below W2.heap.size W2 W4 := by
    have : Below W2.heap.size W2 W3 := by rw [hW3]; exact (Below.refl _ _).alloc (Nat.le_refl _) _
    exact this.trans (b4.mono this.size)
  have b2 : Below W1.heap.size W1 W4 := by
    have : Below W1.heap.size W1 W2 := by rw [hW2]; exact (Below.refl _ _).alloc (Nat.le_refl _) _
    exact this.trans (b3.mono this.size)
  have b1 : Below w.heap.size w W4 := by
    have : Below w.heap.size w W1 := by rw [hW1]; exact (Below.refl _ _).alloc (Nat.le_refl _) _
    exact this.trans (b2.mono this.size)
  have k0 : Cel p0 (.pointer (some ⟨b, 0, none⟩)) W4 := by rw [hp0]; exact (Cel.new hW1).next b2
  have k1 : Cel p1 (.int .i64 0) W4 := by rw [← e1]; exact (Cel.new hW2).next b3
  have k2 : Cel p2 (.bool false) W4 := by rw [← e2]; exact (Cel.new hW3).next b4
  have k3 : Cel p3 (.int .i64 0) W4 := by rw [← e3]; exact Cel.new hW4
  have hsg := shasSeg_any g (hb.next b1).drew
  have c0 := k0.1
  have HP : Hid (p0 = w.heap.size ∧ p1 = p0 + 1 ∧ p2 = p1 + 1 ∧ p3 = p2 + 1) := ⟨hp0, hp1, hp2, hp3⟩
  have HB1 := Lib.hid b1
  have K0 := Lib.hid k0
  have K1 := Lib.hid k1
  have K2 := Lib.hid k2
  have K3 := Lib.hid k3
  have hlt0 := k0.lt
  clear k0 k1 k2 k3 b4 b3 b2 hr hb
  go_wp2_with (fail)
  rw [← hW1, ← hW2, ← hW3, ← hW4, ← hp0, ← hp1, ← hp2, ← hp3]
  clear hW1 hW2 hW3 hW4 hp0 hp1 hp2 hp3 e1 e2 e3 b1
  refine wp_region_held_drew (S := fun w' => w'.cell? ⟨p0, 0, none⟩ = some (.pointer (some ⟨b, 0, none⟩))) (by kernel_rfl) ?_ (fun hHeld => ?_)
  · exact c0
  refine wpAnyH_take (i := 0) (v := ?_) rfl (by kernel_rfl) (by kernel_rfl) (by kernel_rfl) (fun _ _ _ h => h) (Or.inl ⟨by rfl, fun w hSw => ?_⟩) (by assumption) ?_
  rotate_left
  · (try dsimp only at hSw); go_simp; try with_reducible rfl
  simp only [Act.put, List.setIfInBounds_toArray, List.set_cons_zero, List.set_cons_succ, List.getElem_toArray, List.getElem_cons_zero]
  refine wpAnyH_take (i := 1) (v := ?_) rfl (by kernel_rfl) (by kernel_rfl) (by kernel_rfl) (fun _ _ _ h => h) (Or.inl ⟨by rfl, fun w hSw => ?_⟩) (by assumption) ?_
  rotate_left
  · (try dsimp only at hSw); go_simp; try with_reducible rfl
  simp only [Act.put, List.setIfInBounds_toArray, List.set_cons_zero, List.set_cons_succ, List.getElem_toArray, List.getElem_cons_succ, List.getElem_cons_zero]
  refine wpAnyH_take (i := 2) (v := ?_) rfl (by kernel_rfl) (by kernel_rfl) (by kernel_rfl) (fun _ _ _ h => h) (Or.inl ⟨by rfl, fun w hSw => ?_⟩) (by assumption) ?_
  rotate_left
  · (try dsimp only at hSw); go_simp; try with_reducible rfl
  simp only [Act.put, List.setIfInBounds_toArray, List.set_cons_zero, List.set_cons_succ, List.getElem_toArray, List.getElem_cons_succ, List.getElem_cons_zero]
  refine wpAnyH_ready (rs := [3]) (by kernel_rfl) (by simp) ?_
  refine AllReadyH.cons rfl (fun K hK => ?_) AllReadyH.nil
  simp only [List.getElem_toArray, List.getElem_cons_succ, List.getElem_cons_zero]
  go_simp
  refine hsg.mono ?_
  rintro e W5 ⟨rfl, b5⟩
  have b5 := undrew b5
  have c0' := (b5.cell (p := ⟨p0, 0, none⟩) hlt0).trans c0
  have hck := check_any (segO B g) (HR.out.below (HB1.out.trans (b5.mono HB1.out.size))) (HB.out.next (HB1.out.trans (b5.mono HB1.out.size)))
  have HB5 := Lib.hid b5
  rw [← hc] at hck
  clear hsg b5 hc
  go_wp2_with (fail)
  refine hK.out _ _ c0' (fun hHeld => ?_)
  clear hK K
  refine wpAnyH_ready (rs := [4]) (by kernel_rfl) (by simp) ?_
  refine AllReadyH.cons rfl (fun K hK => ?_) AllReadyH.nil
  simp only [List.getElem_toArray, List.getElem_cons_succ, List.getElem_cons_zero]
  go_simp
  refine hck.mono ?_
  rintro e W6 ⟨rfl, rfl⟩
  go_wp2_with (fail)
  refine hK.out _ _ c0' (fun hHeld => ?_)
  clear hK K hck
  refine wpAnyH_take (i := 5) (v := ?_) rfl (by kernel_rfl) (by kernel_rfl) (by kernel_rfl) (fun _ _ _ h => h) (Or.inl ⟨by rfl, fun w hSw => ?_⟩) (by assumption) ?_
  rotate_left
  · (try dsimp only at hSw); go_simp; try with_reducible rfl
  simp only [Act.put, List.setIfInBounds_toArray, List.set_cons_zero, List.set_cons_succ, List.getElem_toArray, List.getElem_cons_succ, List.getElem_cons_zero]
  refine wpAnyH_done (by kernel_rfl) ?_ _
  have K0' := Lib.hid (K0.out.next HB5.out)
  have K1' := Lib.hid (K1.out.next HB5.out)
  have K2' := Lib.hid (K2.out.next HB5.out)
  have K3' := Lib.hid (K3.out.next HB5.out)
  have HB6 := Lib.hid (HB1.out.trans (HB5.out.mono HB1.out.size))
  have HPL : Hid (p1 ≠ p2 ∧ p1 ≠ p3 ∧ p2 ≠ p3 ∧ w.heap.size ≤ p1 ∧ w.heap.size ≤ p2 ∧ w.heap.size ≤ p3) := by have := HP.out; exact ⟨by omega, by omega, by omega, by omega, by omega, by omega⟩
  clear hHeld K0 K1 K2 K3 HB1 HB5 c0 c0' hlt0
  by_cases h0 : c = 0
  · subst h0
    have hSg := segO_yes (chk_zero HC.out)
    have hby := beyond_any (HR.out.below HB6.out) (HB.out.next HB6.out) hd hn
    have c0 := K0'.out.1
    cases hbe : twoB B R n with
    | true =>
      have hV : Hid (vv = none) := by show _ = _; rw [HV.out, if_pos rfl, if_pos hbe]
      rw [hbe] at hby
      have HT : Hid (∀ W', Below W6.heap.size W6 W' → (Cel p1 (.int .i64 0) W' ∧ Cel p2 (.bool false) W' ∧ Cel p3 (.int .i64 0) W') ∧ ((Cel p2 (.bool false) (W'.setCell ⟨p1, 0, none⟩ (.int .i64 0)) ∧ Cel p3 (.int .i64 0) (W'.setCell ⟨p1, 0, none⟩ (.int .i64 0)) ∧ Cel p3 (.int .i64 0) ((W'.setCell ⟨p1, 0, none⟩ (.int .i64 0)).setCell ⟨p2, 0, none⟩ (.bool false))) ∧
          (Cel p1 (.int .i64 0) (((W'.setCell ⟨p1, 0, none⟩ (.int .i64 0)).setCell ⟨p2, 0, none⟩ (.bool false)).setCell ⟨p3, 0, none⟩ (.int .i64 0)) ∧ Cel p2 (.bool false) (((W'.setCell ⟨p1, 0, none⟩ (.int .i64 0)).setCell ⟨p2, 0, none⟩ (.bool false)).setCell ⟨p3, 0, none⟩ (.int .i64 0)) ∧ Cel p3 (.int .i64 0) (((W'.setCell ⟨p1, 0, none⟩ (.int .i64 0)).setCell ⟨p2, 0, none⟩ (.bool false)).setCell ⟨p3, 0, none⟩ (.int .i64 0)) ∧
            Below w.heap.size w (((W'.setCell ⟨p1, 0, none⟩ (.int .i64 0)).setCell ⟨p2, 0, none⟩ (.bool false)).setCell ⟨p3, 0, none⟩ (.int .i64 0))))) := fun W' b' =>
        ⟨⟨K1'.out.next b', K2'.out.next b', K3'.out.next b'⟩, three_set (.int .i64 0) (.bool false) (.int .i64 0) HPL.out.1 HPL.out.2.1 HPL.out.2.2.1 (K1'.out.next b') (K2'.out.next b') (K3'.out.next b') (HB6.out.trans (b'.mono HB6.out.size)) HPL.out.2.2.2.1 HPL.out.2.2.2.2.1 HPL.out.2.2.2.2.2⟩
      clear hbe
      go_wp2_with (go_at_call 54; refine hby.mono ?_; clear hby; rintro e W7 ⟨rfl, b7⟩; obtain ⟨⟨⟨c1, f1⟩, ⟨c2, f2⟩, ⟨c3, f3⟩⟩, ⟨⟨c2', f2'⟩, ⟨c3', f3'⟩, ⟨c3'', f3''⟩⟩, hF⟩ := HT.out W7 b7; have HF := Lib.hid hF; clear hF b7 HT)
      rw [hV.out]
      have r1 := HF.out.1.1
      have r2 := HF.out.2.1.1
      have r3 := HF.out.2.2.1.1
      refine ⟨.tuple #[.int .i64 0, .bool false, .int .i64 0], ?_, rfl, HF.out.2.2.2⟩
      simp [results, Tryz.f22, go_sem, r1, r2, r3]
    | false =>
      have hV : Hid (vv = whG B R n g m) := by show _ = _; rw [HV.out, if_pos rfl, if_neg (by rw [hbe]; simp)]
      rw [hbe] at hby
      clear hbe
      have HD := Lib.hid hd
      have HM := Lib.hid hm
      have HSg := Lib.hid hSg
      clear hd hm hSg
      go_wp2_with (fail)
      refine hby.mono ?_
      rintro e W7 ⟨rfl, b7⟩
      have HB7 := Lib.hid (HB6.out.trans (b7.mono HB6.out.size))
      have K0 := Lib.hid (K0'.out.next b7)
      have K1 := Lib.hid (K1'.out.next b7)
      have K2 := Lib.hid (K2'.out.next b7)
      have K3 := Lib.hid (K3'.out.next b7)
      have hbad := bad_any M L R W7 b n B (HR.out.below HB7.out) (HB.out.next HB7.out) HD.out hn
      have c0' := K0.out.1
      clear hby b7 K0' K1' K2' K3' HB6 c0
      go_wp2_with (fail)
      refine hbad.mono ?_
      rintro e W8 ⟨v8, rfl, ho8, b8⟩
      obtain ⟨ka, kc, rfl, hins, hknc, hkc, hkb⟩ := ho8.ins
      obtain ⟨kn, hkn⟩ : ∃ k, k = (badL B R n).length := ⟨_, rfl⟩
      rw [← hkn] at hins hknc ⊢
      have hkn16 : kn ≤ 16 := by rw [hkn]; exact Nat.le_trans (badL_len B R n) hn
      obtain ⟨W9, hW9⟩ : ∃ W9, W9 = W8.alloc (.cells #[.slice ka kn kc] 33) := ⟨_, rfl⟩
      obtain ⟨W10, hW10⟩ : ∃ W10, W10 = W9.alloc (.cells #[.int .i64 0] 3) := ⟨_, rfl⟩
      obtain ⟨p8, hp8⟩ : ∃ p, p = W8.heap.size := ⟨_, rfl⟩
      obtain ⟨p9, hp9⟩ : ∃ p, p = p8 + 1 := ⟨_, rfl⟩
      have e9 : W9.heap.size = p9 := by rw [hW9, hp9, hp8]; simp
      have b10 : Below W9.heap.size W9 W10 := by rw [hW10]; exact (Below.refl _ _).alloc (Nat.le_refl _) _
      have b9 : Below W8.heap.size W8 W10 := by
        have : Below W8.heap.size W8 W9 := by rw [hW9]; exact (Below.refl _ _).alloc (Nat.le_refl _) _
        exact this.trans (b10.mono this.size)
      have k8 : Cel p8 (.slice ka kn kc) W10 := by rw [hp8]; exact (Cel.new hW9).next b10
      have k9 : Cel p9 (.int .i64 0) W10 := by rw [← e9]; exact Cel.new hW10
      have b710 : Below W7.heap.size W7 W10 := b8.trans (b9.mono b8.size)
      have HB10 := Lib.hid (HB7.out.trans (b710.mono HB7.out.size))
      have K0' := Lib.hid (K0.out.next b710)
      have K1' := Lib.hid (K1.out.next b710)
      have K2' := Lib.hid (K2.out.next b710)
      have K3' := Lib.hid (K3.out.next b710)
      have K8 := Lib.hid k8
      have K9 := Lib.hid k9
      have HINS := Lib.hid (hins.next b9)
      have HKB : Hid (kn = 0 ∨ ∀ b off, ka = some ⟨b, off, none⟩ → b ≠ p9) := .inr fun b' off e => by have := (hkb _ e).2; simp only at this; omega
      have HP8 : Hid (p3 < p8 ∧ p9 = p8 + 1 ∧ b ≠ p9 ∧ w.heap.size ≤ p9) := by
        have h3 := K3.out.lt
        have h4 := b8.size
        have h5 := (HB.out).lt
        have h6 := HP.out
        exact ⟨by omega, hp9, by omega, by omega⟩
      have hge := geo_any (HB.out.next HB10.out)
      rw [HD.out, HM.out] at hge
      have c0 : ((W8.alloc (.cells #[.slice ka kn kc] 33)).alloc (.cells #[.int .i64 0] 3)).cell? ⟨p0, 0, none⟩ = some (.pointer (some ⟨b, 0, none⟩)) := by rw [← hW9, ← hW10]; exact K0'.out.1
      have HKN := Lib.hid hkn
      clear hkn hbad ho8 hins hkb k8 k9 b10 b9 b8 b710 K0 K1 K2 K3 HB7 c0'
      go_wp2_with (fail)
      rw [← hW9, ← hW10, ← hp8, ← hp9]
      clear hW9 hW10 hp8 hp9 e9 c0
      refine hge.mono ?_
      rintro e W11 ⟨rfl, b11⟩
      go_wp2_with (fail)
      refine (rows_any n m B.s g W11).mono ?_
      rintro e W12 ⟨xg, xs, rfl, hbx, hxg, hxs, b12⟩
      have b102 := b11.trans (b12.mono b11.size)
      have HB12 := Lib.hid (HB10.out.trans (b102.mono HB10.out.size))
      have hMlow : Hid (∀ k, L.M R.n k → k < w.heap.size) := fun k hk => HR.out.low k (HR.out.sub k hk)
      have hI0 : WhI w M L R b B xg xs n g W11.heap.size p0 p1 p2 p3 p8 p9 ka kn kc (badL B R n) 0 W12 :=
        ⟨HR.out.also HB12.out (fun k e => by subst e; have := HP8.out; have := (K9.out.next b102).lt; exact ⟨by omega, by omega⟩), HB.out.next HB12.out, by rw [HM.out]; exact hbx, K0'.out.next b102, K1'.out.next b102, K2'.out.next b102, K3'.out.next b102, K8.out.next b102, K9.out.next b102, by rw [HKN.out] at HINS ⊢; exact HINS.out.next b102, HB12.out⟩
      have HI0 := Lib.hid hI0
      have HXL : Hid (p9 < xg ∧ p9 < xs ∧ p9 < W11.heap.size) := by have := K9.out.lt; have := b11.size; exact ⟨by omega, by omega, by omega⟩
      have hsz12 := HB12.out.size
      clear hge b11 b12 b102 hbx hxg hxs hI0 HINS K0' K1' K2' K3' K8 K9
      go_wp2_with (fail)
      refine (wpIn_wide (n := 3)).1 ?_
      refine wp_over2 (N := fun k => k = p1 ∨ k = p2 ∨ k = p3 ∨ k = p9) rfl (enters_of Tryz.func97 (by kernel_rfl) rfl) (rows_rounds xg xs n W11.heap.size m B.r B.s g (by rw [← HD.out]; exact HSg.out) HM.out) rfl
        (fun a X => ∃ u, whG B R n g a = some u ∧ WhI w M L R b B xg xs n g W11.heap.size p0 p1 p2 p3 p8 p9 ka kn kc (badL B R n) u X)
        (fun c X => c = .ret ∧ whG B R n g m = none ∧ Cel p1 (.int .i64 0) X ∧ Cel p2 (.bool false) X ∧ Cel p3 (.int .i64 0) X ∧ Below w.heap.size w X)
        (fun a a' X => ∃ v, RowAt X W11.heap.size v n (rowD n (g * B.r + a)) (5 + (g * B.r + a)) ∧ a' = { tmps := #[.pointer (some ⟨b, 0, none⟩), .int .i64 g, .pointer (some ⟨p0, 0, none⟩), undef, .pointer (some ⟨p1, 0, none⟩), .pointer (some ⟨p2, 0, none⟩), .pointer (some ⟨p3, 0, none⟩), .int .i64 0, .pointer (some ⟨p8, 0, none⟩), .pointer (some ⟨p9, 0, none⟩), v, undef, undef, undef, undef, undef, .pointer (some ⟨b, 0, none⟩), .pointer (some ⟨b, 0, none⟩), .int .i64 g, .bool (segO B g), .int .i64 0, .int .i64 0, .bool false, undef, .pointer (some ⟨b, 0, none⟩), .bool false, .pointer (some ⟨b, 0, none⟩), .slice ka kn kc, .pointer (some ⟨b, 0, none⟩), gv n m B.s, .int .i64 g, .func (.func 97) #[] #[.pointer (some ⟨xg, 0, none⟩), .pointer (some ⟨xs, 0, none⟩)], v, undef, undef, undef, undef, undef, undef, undef, undef, undef, undef, undef, undef, undef, undef, undef, undef, undef, undef, undef, undef, undef, undef, undef, undef, undef, undef, undef, undef, undef, undef, undef, undef, undef, undef, undef], defers := [] })
        (fun a X h => by obtain ⟨u, _, h⟩ := h; exact h.bx) ?hI ?hIx ?hAx ?hN ?h0 ?assign (fun a X ha hs _ => by cases hs) ?body ?done ?stop
      case hI => exact fun a => Abides.ex fun u => (Abides.pure _ _).and (WhI.abides (fun k hk => by have := hMlow.out k hk; omega) hsz12)
      case hIx => exact fun c => (Abides.pure _ _).and ((Abides.pure _ _).and ((Cel.abides _ _ _).and ((Cel.abides _ _ _).and ((Cel.abides _ _ _).and (below_abides hsz12)))))
      case hAx => exact fun a a' => Abides.ex fun v => (RowAt.abides _).and (Abides.pure _ _)
      case hN =>
        rintro k (rfl | rfl | rfl | rfl)
        · exact HI0.out.k1.lt
        · exact HI0.out.k2.lt
        · exact HI0.out.k3.lt
        · exact HI0.out.k9.lt
      case h0 => exact ⟨0, rfl, HI0.out⟩
      case assign =>
        intro l2 a v X K ha hle hI hD hK
        gi_wp2
        exact hK _ _ (Below.refl _ _) ⟨v, hD, rfl⟩
      case body =>
        rintro l2 a a' X ha _ hle ⟨u0, hu0, hI⟩ ⟨v, hrow, rfl⟩
        obtain ⟨D, hD⟩ : ∃ D, D = rowD n (g * B.r + a) := ⟨_, rfl⟩
        obtain ⟨z, hz⟩ : ∃ z, z = 5 + (g * B.r + (a : Int)) := ⟨_, rfl⟩
        have hwg : whG B R n g (a + 1) = whC B R (badL B R n) D z u0 n := by rw [whG, hu0, hD, hz]; rfl
        rw [← hD, ← hz] at hrow
        obtain ⟨gr, cr, rfl, _⟩ := hrow.val
        have HWG := Lib.hid hwg
        have HROW := Lib.hid hrow
        have HIX := Lib.hid hI
        have HU0 := Lib.hid hu0
        clear hD hz hwg hrow hI hu0
        gi_wp2
        gi_loopw [12, 13, 14, 15, 35] (fun _p _q _r _s i wr => ∃ (k : Nat) (u : Int), k ≤ n ∧ i = .int .i64 k ∧ whC B R (badL B R n) D z u0 k = some u ∧ WhI w M L R b B xg xs n g W11.heap.size p0 p1 p2 p3 p8 p9 ka kn kc (badL B R n) u wr ∧ RowAt wr W11.heap.size (.slice (some ⟨gr, 0, none⟩) n cr) n D z ∧ Turn (· = p9) X wr) (fun _ _ _ _ i _ => n - (RowKit.intOf i).toNat)
        case atStart => exact ⟨0, u0, Nat.zero_le _, rfl, rfl, HIX.out, HROW.out, Turn.refl _ _⟩
        case round =>
          obtain ⟨k, u, hk, rfl, hwc, hI, hrow, htn⟩ := hrel
          have HI := Lib.hid hI
          have HRW := Lib.hid hrow
          have HTN := Lib.hid htn
          have HWC := Lib.hid hwc
          clear hwc hI hrow htn
          by_cases hlt : k < n
          · obtain ⟨x, hx⟩ : ∃ x, x = D k := ⟨_, rfl⟩
            obtain ⟨g', c', e', hg1, hg2, hg3, hg4, hg5⟩ := HRW.out.val
            cases e'
            have r0 := (hg5 k hlt).1
            have r1 := (hg5 k hlt).2
            rw [← hx, Nat.mul_comm] at r0
            rw [Nat.mul_comm] at r1
            obtain ⟨Ws, hWs⟩ : ∃ Ws, Ws = wr.alloc (.cells #[.int .i64 x, .int .i64 z] 116 (0, 0)) := ⟨_, rfl⟩
            have hbs : Below wr.heap.size wr Ws := by rw [hWs]; exact (Below.refl _ _).alloc (Nat.le_refl _) _
            have hIs := HI.out.next hbs
            have hct := contains_any ka kn kc (badL B R n) x Ws hIs.ins (by omega)
            have hld := sload_any x z hIs.rk hIs.bn
            rw [hWs] at hct hld
            have c8 : (wr.alloc (.cells #[.int .i64 x, .int .i64 z] 116 (0, 0))).cell? ⟨p8, 0, none⟩ = some (.slice ka kn kc) := by rw [← hWs]; exact hIs.k8.1
            have c0 : (wr.alloc (.cells #[.int .i64 x, .int .i64 z] 116 (0, 0))).cell? ⟨p0, 0, none⟩ = some (.pointer (some ⟨b, 0, none⟩)) := by rw [← hWs]; exact hIs.k0.1
            rw [hWs] at hIs hbs
            have HIs := Lib.hid hIs
            have HBs := Lib.hid hbs
            have HSC : Hid (∀ o, whS B R (badL B R n) z (D k) u = o → (some u).bind (whS B R (badL B R n) z (D k)) = o) := fun o h => h
            rw [← hx] at HSC
            have HX := Lib.hid hx
            have HPU : Hid (¬ L.M R.n p9 ∧ b ≠ p9 ∧ xg ≠ p9 ∧ xs ≠ p9 ∧ p0 ≠ p9 ∧ p1 ≠ p9 ∧ p2 ≠ p9 ∧ p3 ≠ p9 ∧ p8 ≠ p9 ∧ w.heap.size ≤ p9) := by
              have h1 := HP8.out
              have h2 := HP.out
              have h3 := HXL.out
              exact ⟨fun x => by have := hMlow.out _ x; omega, h1.2.2.1, by omega, by omega, by omega, by omega, by omega, by omega, by omega, h1.2.2.2⟩
            have HT : Hid (∀ W', Below (wr.alloc (.cells #[.int .i64 x, .int .i64 z] 116 (0, 0))).heap.size (wr.alloc (.cells #[.int .i64 x, .int .i64 z] 116 (0, 0))) W' → (Cel p1 (.int .i64 0) W' ∧ Cel p2 (.bool false) W' ∧ Cel p3 (.int .i64 0) W') ∧ ((Cel p2 (.bool false) (W'.setCell ⟨p1, 0, none⟩ (.int .i64 0)) ∧ Cel p3 (.int .i64 0) (W'.setCell ⟨p1, 0, none⟩ (.int .i64 0)) ∧ Cel p3 (.int .i64 0) ((W'.setCell ⟨p1, 0, none⟩ (.int .i64 0)).setCell ⟨p2, 0, none⟩ (.bool false))) ∧
                (Cel p1 (.int .i64 0) (((W'.setCell ⟨p1, 0, none⟩ (.int .i64 0)).setCell ⟨p2, 0, none⟩ (.bool false)).setCell ⟨p3, 0, none⟩ (.int .i64 0)) ∧ Cel p2 (.bool false) (((W'.setCell ⟨p1, 0, none⟩ (.int .i64 0)).setCell ⟨p2, 0, none⟩ (.bool false)).setCell ⟨p3, 0, none⟩ (.int .i64 0)) ∧ Cel p3 (.int .i64 0) (((W'.setCell ⟨p1, 0, none⟩ (.int .i64 0)).setCell ⟨p2, 0, none⟩ (.bool false)).setCell ⟨p3, 0, none⟩ (.int .i64 0)) ∧
                  Below w.heap.size w (((W'.setCell ⟨p1, 0, none⟩ (.int .i64 0)).setCell ⟨p2, 0, none⟩ (.bool false)).setCell ⟨p3, 0, none⟩ (.int .i64 0))))) := fun W' b' => by
              have hi := HIs.out.next b'
              exact ⟨⟨hi.k1, hi.k2, hi.k3⟩, three_set (.int .i64 0) (.bool false) (.int .i64 0) HPL.out.1 HPL.out.2.1 HPL.out.2.2.1 hi.k1 hi.k2 hi.k3 hi.bel HPL.out.2.2.2.1 HPL.out.2.2.2.2.1 HPL.out.2.2.2.2.2⟩
            obtain ⟨sq, hsq⟩ : ∃ sq, sq = decN (brV B R x z) 0 4 := ⟨_, rfl⟩
            rw [← hsq] at hld
            have HSQ := Lib.hid hsq
            clear hWs hbs hIs hg1 hg2 hg5 hx hsq
            by_cases hin : x ∈ badL B R n
            · have hst : whC B R (badL B R n) D z u0 (k + 1) = some u := by rw [whC, HWC.out]; show whS B R _ z (D k) u = _; rw [← HX.out, whS, if_pos hin]
              have HST := Lib.hid hst
              rw [decide_eq_true hin] at hct
              clear hin hst hld
              gi_wp2_with (refine ⟨trivial, ?_⟩; gi_at_call 64; refine (CallsIn.inRound l2 (callsIn_wide.2 hct)).mono ?_; clear hct; rintro e W' ⟨rfl, rfl⟩)
              go_roundw
              case rel => exact ⟨k + 1, u, by omega, by go_num, HST.out, HIs.out, HRW.out.next HBs.out, HTN.out.trans (Turn.of_below HBs.out)⟩
              case measure => simp [RowKit.intOf]; omega
            · have hws : ∀ o, (if ldO B R x z = false then none else if sq = 0 ∨ (u ≠ 0 ∧ sq ≠ u) then none else some sq) = o → (some u).bind (whS B R (badL B R n) z (D k)) = o := fun o h => by
                show whS B R _ z (D k) u = o
                rw [← HX.out, whS, if_neg hin, ← HSQ.out]
                exact h
              rw [decide_eq_false hin] at hct
              clear hin
              cases hlo : ldO B R x z with
              | false =>
                rw [hlo] at hld
                have hst := hws none (by rw [if_pos hlo])
                clear hws hlo
                have hN : Hid (whG B R n g m = none) := by show _ = _; exact whG_none (a := a + 1) ha (by rw [HWG.out]; exact whC_none (c := k + 1) hlt (by rw [whC, HWC.out]; exact hst))
                clear hst
                gi_wp2_with (first | (refine ⟨trivial, ?_⟩; gi_at_call 64; refine (CallsIn.inRound l2 (callsIn_wide.2 hct)).mono ?_; clear hct; rintro e W' ⟨rfl, rfl⟩) | (refine ⟨trivial, ?_⟩; gi_at_call 65; refine (CallsIn.inRound l2 (callsIn_wide.2 hld)).mono ?_; clear hld; rintro e Wl ⟨al, nl, cl, rfl, _, _, bl⟩; obtain ⟨⟨⟨c1, f1⟩, ⟨c2, f2⟩, ⟨c3, f3⟩⟩, ⟨⟨c2', f2'⟩, ⟨c3', f3'⟩, ⟨c3'', f3''⟩⟩, hF⟩ := HT.out Wl bl; have HF := Lib.hid hF; have HBL := Lib.hid bl; have c9 := (HIs.out.next bl).k9.1; clear hF bl HT))
                refine ⟨((((HTN.out.mono fun k e => .inr (.inr (.inr e))).trans (Turn.of_below HBs.out)).trans (Turn.of_below HBL.out)).trans (Turn.setCell (a := ⟨p1, 0, none⟩) _ (.inl rfl) _)).trans ((Turn.setCell (a := ⟨p2, 0, none⟩) _ (.inr (.inl rfl)) _).trans (Turn.setCell (a := ⟨p3, 0, none⟩) _ (.inr (.inr (.inl rfl))) _)), rfl, hN.out, HF.out.1, HF.out.2.1, HF.out.2.2.1, HF.out.2.2.2⟩
              | true =>
                rw [hlo] at hld
                have hws2 : ∀ o, (if sq = 0 ∨ (u ≠ 0 ∧ sq ≠ u) then none else some sq) = o → (some u).bind (whS B R (badL B R n) z (D k)) = o := fun o h => hws o (by rw [if_neg (by rw [hlo]; simp)]; exact h)
                clear hws hlo
                by_cases h1 : sq = 0
                · have q1 : (sq == 0) = true := by simpa using h1
                  have hst := hws2 none (by rw [if_pos (.inl h1)])
                  clear hws2 h1
                  have hN : Hid (whG B R n g m = none) := by show _ = _; exact whG_none (a := a + 1) ha (by rw [HWG.out]; exact whC_none (c := k + 1) hlt (by rw [whC, HWC.out]; exact hst))
                  clear hst
                  gi_wp2_with (first | (refine ⟨trivial, ?_⟩; gi_at_call 64; refine (CallsIn.inRound l2 (callsIn_wide.2 hct)).mono ?_; clear hct; rintro e W' ⟨rfl, rfl⟩) | (refine ⟨trivial, ?_⟩; gi_at_call 65; refine (CallsIn.inRound l2 (callsIn_wide.2 hld)).mono ?_; clear hld; rintro e Wl ⟨al, nl, cl, rfl, _, _, bl⟩; obtain ⟨⟨⟨c1, f1⟩, ⟨c2, f2⟩, ⟨c3, f3⟩⟩, ⟨⟨c2', f2'⟩, ⟨c3', f3'⟩, ⟨c3'', f3''⟩⟩, hF⟩ := HT.out Wl bl; have HF := Lib.hid hF; have HBL := Lib.hid bl; have c9 := (HIs.out.next bl).k9.1; clear hF bl HT))
                  refine ⟨((((HTN.out.mono fun k e => .inr (.inr (.inr e))).trans (Turn.of_below HBs.out)).trans (Turn.of_below HBL.out)).trans (Turn.setCell (a := ⟨p1, 0, none⟩) _ (.inl rfl) _)).trans ((Turn.setCell (a := ⟨p2, 0, none⟩) _ (.inr (.inl rfl)) _).trans (Turn.setCell (a := ⟨p3, 0, none⟩) _ (.inr (.inr (.inl rfl))) _)), rfl, hN.out, HF.out.1, HF.out.2.1, HF.out.2.2.1, HF.out.2.2.2⟩
                · have q1 : (sq == 0) = false := by simpa using h1
                  by_cases h2 : u = 0
                  · have q2 : (u != 0) = false := by simpa using h2
                    have q3 : (u == 0) = true := by simpa using h2
                    have hst := hws2 (some sq) (by rw [if_neg (fun x => x.elim h1 (fun y => y.1 h2))])
                    clear hws2 h1 h2
                    have HST : Hid (whC B R (badL B R n) D z u0 (k + 1) = some sq) := by show _ = _; rw [whC, HWC.out]; exact hst
                    clear hst
                    gi_wp2_with (first | (refine ⟨trivial, ?_⟩; gi_at_call 64; refine (CallsIn.inRound l2 (callsIn_wide.2 hct)).mono ?_; clear hct; rintro e W' ⟨rfl, rfl⟩) | (refine ⟨trivial, ?_⟩; gi_at_call 65; refine (CallsIn.inRound l2 (callsIn_wide.2 hld)).mono ?_; clear hld; rintro e Wl ⟨al, nl, cl, rfl, _, _, bl⟩; obtain ⟨c9, f9⟩ := (HIs.out.next bl).k9; have HBL := Lib.hid bl; clear bl))
                    go_roundw
                    case rel =>
                      refine ⟨k + 1, sq, by omega, by go_num, HST.out, (HIs.out.next HBL.out).put sq HPU.out.1 HPU.out.2.1 HPU.out.2.2.1 HPU.out.2.2.2.1 HPU.out.2.2.2.2.1 HPU.out.2.2.2.2.2.1 HPU.out.2.2.2.2.2.2.1 HPU.out.2.2.2.2.2.2.2.1 HPU.out.2.2.2.2.2.2.2.2.1 HKB.out HPU.out.2.2.2.2.2.2.2.2.2, ?_, ((HTN.out.trans (Turn.of_below HBs.out)).trans (Turn.of_below HBL.out)).trans (turn_set _ p9 0 _)⟩
                      exact ((HRW.out.next HBs.out).next HBL.out).turn (turn_set _ p9 0 _) (fun k e => by subst e; exact HXL.out.2.2)
                    case measure => simp [RowKit.intOf]; omega
                  · have q2 : (u != 0) = true := by simpa using h2
                    have q3 : (u == 0) = false := by simpa using h2
                    by_cases h3 : sq = u
                    · have q4 : (sq != u) = false := by simpa using h3
                      have q5 : (sq == u) = true := by simpa using h3
                      have hst := hws2 (some sq) (by rw [if_neg (fun x => x.elim h1 (fun y => y.2 h3))])
                      clear hws2 h1 h2 h3
                      have HST : Hid (whC B R (badL B R n) D z u0 (k + 1) = some sq) := by show _ = _; rw [whC, HWC.out]; exact hst
                      clear hst
                      gi_wp2_with (first | (refine ⟨trivial, ?_⟩; gi_at_call 64; refine (CallsIn.inRound l2 (callsIn_wide.2 hct)).mono ?_; clear hct; rintro e W' ⟨rfl, rfl⟩) | (refine ⟨trivial, ?_⟩; gi_at_call 65; refine (CallsIn.inRound l2 (callsIn_wide.2 hld)).mono ?_; clear hld; rintro e Wl ⟨al, nl, cl, rfl, _, _, bl⟩; obtain ⟨c9, f9⟩ := (HIs.out.next bl).k9; have HBL := Lib.hid bl; clear bl))
                      go_roundw
                      case rel =>
                        refine ⟨k + 1, sq, by omega, by go_num, HST.out, (HIs.out.next HBL.out).put sq HPU.out.1 HPU.out.2.1 HPU.out.2.2.1 HPU.out.2.2.2.1 HPU.out.2.2.2.2.1 HPU.out.2.2.2.2.2.1 HPU.out.2.2.2.2.2.2.1 HPU.out.2.2.2.2.2.2.2.1 HPU.out.2.2.2.2.2.2.2.2.1 HKB.out HPU.out.2.2.2.2.2.2.2.2.2, ?_, ((HTN.out.trans (Turn.of_below HBs.out)).trans (Turn.of_below HBL.out)).trans (turn_set _ p9 0 _)⟩
                        exact ((HRW.out.next HBs.out).next HBL.out).turn (turn_set _ p9 0 _) (fun k e => by subst e; exact HXL.out.2.2)
                      case measure => simp [RowKit.intOf]; omega
                    · have q4 : (sq != u) = true := by simpa using h3
                      have q5 : (sq == u) = false := by simpa using h3
                      have hst := hws2 none (by rw [if_pos (.inr ⟨h2, h3⟩)])
                      clear hws2 h1 h2 h3
                      have hN : Hid (whG B R n g m = none) := by show _ = _; exact whG_none (a := a + 1) ha (by rw [HWG.out]; exact whC_none (c := k + 1) hlt (by rw [whC, HWC.out]; exact hst))
                      clear hst
                      gi_wp2_with (first | (refine ⟨trivial, ?_⟩; gi_at_call 64; refine (CallsIn.inRound l2 (callsIn_wide.2 hct)).mono ?_; clear hct; rintro e W' ⟨rfl, rfl⟩) | (refine ⟨trivial, ?_⟩; gi_at_call 65; refine (CallsIn.inRound l2 (callsIn_wide.2 hld)).mono ?_; clear hld; rintro e Wl ⟨al, nl, cl, rfl, _, _, bl⟩; obtain ⟨⟨⟨c1, f1⟩, ⟨c2, f2⟩, ⟨c3, f3⟩⟩, ⟨⟨c2', f2'⟩, ⟨c3', f3'⟩, ⟨c3'', f3''⟩⟩, hF⟩ := HT.out Wl bl; have HF := Lib.hid hF; have HBL := Lib.hid bl; have c9 := (HIs.out.next bl).k9.1; clear hF bl HT))
                      refine ⟨((((HTN.out.mono fun k e => .inr (.inr (.inr e))).trans (Turn.of_below HBs.out)).trans (Turn.of_below HBL.out)).trans (Turn.setCell (a := ⟨p1, 0, none⟩) _ (.inl rfl) _)).trans ((Turn.setCell (a := ⟨p2, 0, none⟩) _ (.inr (.inl rfl)) _).trans (Turn.setCell (a := ⟨p3, 0, none⟩) _ (.inr (.inr (.inl rfl))) _)), rfl, hN.out, HF.out.1, HF.out.2.1, HF.out.2.2.1, HF.out.2.2.2⟩
          · obtain rfl : k = n := by omega
            gi_wp2
            exact ⟨HTN.out.mono fun k e => .inr (.inr (.inr e)), u, by rw [HWG.out]; exact HWC.out, HI.out⟩
      case done =>
        rintro D X hD ⟨u, hu, hI⟩ hK
        have hl3 := HI0.out.k3.lt
        have hp := HP.out
        have hn1 : p1 ≠ D := by omega
        have hn2 : p2 ≠ D := by omega
        have hn3 : p3 ≠ D := by omega
        obtain ⟨hF1, hF2⟩ := three_set (.int .i64 u) (.bool true) (.int .i64 0) HPL.out.1 HPL.out.2.1 HPL.out.2.2.1 hI.k1 hI.k2 hI.k3 hI.bel HPL.out.2.2.2.1 HPL.out.2.2.2.2.1 HPL.out.2.2.2.2.2
        have HK : Hid ((((X.setCell ⟨p1, 0, none⟩ (.int .i64 u)).setCell ⟨p2, 0, none⟩ (.bool true)).setCell ⟨p3, 0, none⟩ (.int .i64 0)).heap[D]? = some (.deferred (some []))) :=
          (Below.heap_setCell _ ⟨p3, 0, none⟩ (.int .i64 0) D hn3.symm).trans ((Below.heap_setCell _ ⟨p2, 0, none⟩ (.bool true) D hn2.symm).trans ((Below.heap_setCell X ⟨p1, 0, none⟩ (.int .i64 u) D hn1.symm).trans hK))
        have HU := Lib.hid hu
        have HF := Lib.hid hF2
        obtain ⟨⟨c2', f2'⟩, ⟨c3', f3'⟩, ⟨c3'', f3''⟩⟩ := hF1
        obtain ⟨c1, f1⟩ := hI.k1
        obtain ⟨c2, f2⟩ := hI.k2
        obtain ⟨c3, f3⟩ := hI.k3
        have c9 := hI.k9.1
        clear hl3 hp hn1 hn2 hn3 hF2 hu hI hK
        go_wp2_with (fail)
        refine ⟨by simp, .inl ⟨_, _, rfl, run_takeDeferred HK.out, ?_⟩⟩
        have hA := aside_put HK.out rfl (.deferred none)
        have r1 := (HF.out.1.aside hA).1
        have r2 := (HF.out.2.1.aside hA).1
        have r3 := (HF.out.2.2.1.aside hA).1
        rw [hV.out, HU.out]
        refine ⟨.tuple #[.int .i64 u, .bool true, .int .i64 0], ?_, rfl, ((below_abides (K := w.heap.size) (Nat.le_refl _)).aside D _ _ (by omega) HF.out.2.2.2 hA)⟩
        simp [results, Tryz.f22, go_sem, r1, r2, r3]
      case stop =>
        rintro D c X hD ⟨rfl, h0, h1, h2, h3, hbl⟩ hK
        gi_wp2
        refine ⟨by simp, .inl ⟨_, _, rfl, run_takeDeferred hK, ?_⟩⟩
        have hA := aside_put hK rfl (.deferred none)
        have r1 := (h1.aside hA).1
        have r2 := (h2.aside hA).1
        have r3 := (h3.aside hA).1
        rw [hV.out, h0]
        refine ⟨.tuple #[.int .i64 0, .bool false, .int .i64 0], ?_, rfl, ((below_abides (K := w.heap.size) (Nat.le_refl _)).aside D _ _ (by omega) hbl hA)⟩
        simp [results, Tryz.f22, go_sem, r1, r2, r3]
  · have hc0 : (c == 0) = false := by simpa using h0
    have hc1 : (c != 0) = true := by simpa using h0
    have hV : Hid (vv = none) := by show _ = _; rw [HV.out, if_neg h0]
    obtain ⟨hF1, hF2⟩ := three_set (.int .i64 0) (.bool false) (.int .i64 c) HPL.out.1 HPL.out.2.1 HPL.out.2.2.1 K1'.out K2'.out K3'.out HB6.out HPL.out.2.2.2.1 HPL.out.2.2.2.2.1 HPL.out.2.2.2.2.2
    obtain ⟨⟨c2', f2'⟩, ⟨c3', f3'⟩, ⟨c3'', f3''⟩⟩ := hF1
    have HF := Lib.hid hF2
    obtain ⟨c1, f1⟩ := K1'.out
    obtain ⟨c2, f2⟩ := K2'.out
    obtain ⟨c3, f3⟩ := K3'.out
    clear hF2 h0
    go_wp2_with (fail)
    rw [hV.out]
    have r1 := HF.out.1.1
    have r2 := HF.out.2.1.1
    have r3 := HF.out.2.2.1.1
    refine ⟨.tuple #[.int .i64 0, .bool false, .int .i64 c], ?_, rfl, HF.out.2.2.2⟩
    simp [results, Tryz.f22, go_sem, r1, r2, r3]
end

end Go.Proofs.YtciddoeeiamndaaGreat
