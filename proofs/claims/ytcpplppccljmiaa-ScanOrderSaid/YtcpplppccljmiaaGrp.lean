/-
  The group that infos make, by contract.
-/
import Derived.Test.YtcpplppccljmiaaHas
namespace Go.Proofs.Ytcpplppccljmiaa
open Go.RowKit
set_option linter.unusedVariables false

theorem OwnI.setLow {w : World} {B : Nat} {v : Value} {n : Nat} {ks : List Int} (h : OwnI w B v n ks) {p : Addr} (hp : p.block < B) (u : Value) : OwnI (w.setCell p u) B v n ks := ownsRow_setCell_below h hp u
/-- A group lies in block b, free to be written. -/
structure Gx (w : World) (b : Nat) (q r : Int) (v : Value) : Prop where
  lt : b < w.heap.size
  c0 : w.cell? ⟨b, 0, none⟩ = some (.int .i64 q)
  c1 : w.cell? ⟨b, 1, none⟩ = some (.int .i64 r)
  c2 : w.cell? ⟨b, 2, none⟩ = some v
  f0 : w.frozen? ⟨b, 0, none⟩ = false
  f1 : w.frozen? ⟨b, 1, none⟩ = false
  f2 : w.frozen? ⟨b, 2, none⟩ = false
theorem Gx.below {w w' : World} {b B : Nat} {q r : Int} {v : Value} (h : Gx w b q r v) (hb : Below B w w') (hB : b < B) : Gx w' b q r v :=
  ⟨Nat.lt_of_lt_of_le h.lt hb.size, (hb.cell (p := ⟨b, 0, none⟩) hB).trans h.c0, (hb.cell (p := ⟨b, 1, none⟩) hB).trans h.c1, (hb.cell (p := ⟨b, 2, none⟩) hB).trans h.c2,
    (hb.frozen (p := ⟨b, 0, none⟩) hB).trans h.f0, (hb.frozen (p := ⟨b, 1, none⟩) hB).trans h.f1, (hb.frozen (p := ⟨b, 2, none⟩) hB).trans h.f2⟩
theorem Gx.next {w w' : World} {b : Nat} {q r : Int} {v : Value} (h : Gx w b q r v) (hb : Below w.heap.size w w') : Gx w' b q r v := h.below hb h.lt
theorem Gx.set {w : World} {b : Nat} {q r : Int} {v : Value} (h : Gx w b q r v) (u : Value) : Gx (w.setCell ⟨b, 2, none⟩ u) b q r u := by
  refine ⟨by simpa using h.lt, ?_, ?_, World.cell?_setCell_same _ _ _ h.c2, by simpa using h.f0, by simpa using h.f1, by simpa using h.f2⟩
  · rw [World.cell?_setCell_other _ _ _ _ (by simp)]; exact h.c0
  · rw [World.cell?_setCell_other _ _ _ _ (by simp)]; exact h.c1
/-- Three cells of a group are stored. -/
def setG (w : World) (b : Nat) (q r : Int) (v : Value) : World := ((w.setCell ⟨b, 0, none⟩ (.int .i64 q)).setCell ⟨b, 1, none⟩ (.int .i64 r)).setCell ⟨b, 2, none⟩ v
theorem set_othG {w : World} {a b : Addr} {v : Value} (h : a ≠ b) : (w.setCell a v).cell? b = w.cell? b := World.cell?_setCell_other _ _ _ _ h
theorem set_sameG {w : World} {a : Addr} {v u : Value} (h : w.cell? a = some u) : (w.setCell a v).cell? a = some v := World.cell?_setCell_same _ _ _ h
theorem Gx.set3 {w : World} {b : Nat} {q r : Int} {v : Value} (h : Gx w b q r v) (p s : Int) (u : Value) : Gx (setG w b p s u) b p s u := by
  refine ⟨by simpa [setG] using h.lt, ?_, ?_, ?_, by simpa [setG] using h.f0, by simpa [setG] using h.f1, by simpa [setG] using h.f2⟩
  · rw [setG, set_othG (by simp), set_othG (by simp), set_sameG h.c0]
  · rw [setG, set_othG (by simp), set_sameG ((set_othG (by simp)).trans h.c1)]
  · rw [setG, set_sameG ((set_othG (by simp)).trans ((set_othG (by simp)).trans h.c2))]
theorem _root_.Go.RowKit.Below.setG {w0 w : World} {B b : Nat} {p q : Int} {r : Value} (h : Below B w0 w) (hb : B ≤ b) : Below B w0 (setG w b p q r) := ((h.setCell (p := ⟨b, 0, none⟩) hb _).setCell (p := ⟨b, 1, none⟩) hb _).setCell (p := ⟨b, 2, none⟩) hb _
theorem OwnI.lower {w : World} {B C : Nat} {v : Value} {n : Nat} {ks : List Int} (h : OwnI w B v n ks) (hC : C ≤ B) : OwnI w C v n ks := by
  refine ⟨h.1, ?_⟩
  rcases h.2 with h0 | ⟨g, cap, cur, a, b, c⟩
  · exact .inl h0
  · exact .inr ⟨g, cap, cur, a, Nat.le_trans hC b, c⟩
theorem OwnI.setG {w : World} {B b : Nat} {p q : Int} {r v : Value} {n : Nat} {ks : List Int} (h : OwnI w B v n ks) (hb : b < B) : OwnI (setG w b p q r) B v n ks := ((h.setLow (p := ⟨b, 0, none⟩) hb _).setLow (p := ⟨b, 1, none⟩) hb _).setLow (p := ⟨b, 2, none⟩) hb _
/-- A group that is answered: its segments are new. -/
def GoPost (w : World) (f r : Int) (ks : List Int) (e : Ending) (w' : World) : Prop := ∃ a c, e = .returned (.agg #[.int .i64 f, .int .i64 r, .slice a ks.length c]) ∧ OwnI w' w.heap.size (.slice a ks.length c) ks.length ks ∧ Below w.heap.size w w'

set_option maxHeartbeats 4000000 in
theorem groupOf_any (f cn : Int) (a : Option Addr) (n c : Nat) (L : List Inf) (w : World) (h : Ifs w a n L) (h0 : 0 < n) (hn : n ≤ 1000000000000) :
    Calls Try.prog 28 #[.agg #[.int .i64 f, .int .i64 cn], .slice a n c] w (GoPost w f (L.getLastD default).r (L.map Inf.g)) := by
  obtain ⟨m, hm⟩ : ∃ m, n = m + 1 := ⟨n - 1, by omega⟩
  obtain ⟨b, off, g, q, cc, i, bb, r, rfl, hbl, hx, y0, y1, y2, y3, y4, y5⟩ := h.at (k := m) (by omega)
  have hr : (L.getLastD default).r = r := by
    have hl := h.len
    rw [List.getLastD_eq_getLast?, List.getLast?_eq_getElem?, hl, show n - 1 = m by omega, hx]
    rfl
  rw [hr]
  have HL := Lib.hid h.len
  have w1 : IntKind.i64.wrap ((n : Int) - 1) = (m : Int) := by rw [show (n : Int) - 1 = (m : Int) by omega]; exact IntWalk.i64_in _ (by omega)
  obtain ⟨X, hX⟩ : ∃ X, X = (w.alloc (.cells #[.int .i64 f, .int .i64 cn] 59 (0, 0))).alloc (.cells #[.int .i64 0, .int .i64 0, .slice none 0 0] 46 (0, 0)) := ⟨_, rfl⟩
  have x0 : X.cell? ⟨w.heap.size, 0, none⟩ = some (.int .i64 f) := by rw [hX]; simp
  have hBX : Below w.heap.size w X := by rw [hX]; exact bel2 _ _ _
  have hsX : X.heap.size = w.heap.size + 1 + 1 := by rw [hX]; simp
  have y5' := (hBX.cell (p := ⟨b, off + m * 6 + 5, none⟩) hbl).trans y5
  have HS := Lib.hid hsX
  have HBX := Lib.hid hBX
  have HX := Lib.hid hX
  have HH := Lib.hid h
  clear y0 y1 y2 y3 y4 y5 hx hr hBX hsX h
  have k0 : (0 : Int) ≤ (m : Int) := by omega
  have k1 : (m : Int) < (n : Int) := by omega
  have HM := Lib.hid hm
  clear hm
  go_enter Try.func28, Try.ntmps28
  go_wp2_with (fail)
  rw [← hX]
  clear hX
  refine wp_region_held_drew (S := (fun w' => w'.cell? ⟨w.heap.size, 0, none⟩ = some (.int .i64 f) ∧ w'.cell? ⟨b, off + m * 6 + 5, none⟩ = some (.int .i64 r))) (by kernel_rfl) ?_ (fun hHeld => ?_)
  · exact ⟨x0, y5'⟩
  refine wpAnyH_take (i := 0) (v := ?_) rfl (by kernel_rfl) (by kernel_rfl) (by kernel_rfl) (fun _ _ _ h => h) (Or.inl ⟨by rfl, fun w hSw => ?_⟩) (by assumption) ?_
  rotate_left
  · (try dsimp only at hSw); go_simp; try with_reducible rfl
  simp only [Act.put, List.setIfInBounds_toArray, List.set_cons_zero, List.set_cons_succ, List.getElem_toArray, List.getElem_cons_zero]
  refine wpAnyH_take (i := 1) (v := ?_) rfl (by kernel_rfl) (by kernel_rfl) (by kernel_rfl) (fun _ _ _ h => h) (Or.inl ⟨by rfl, fun w hSw => ?_⟩) (by assumption) ?_
  rotate_left
  · (try dsimp only at hSw); go_simp; try with_reducible rfl
  simp only [Act.put, List.setIfInBounds_toArray, List.set_cons_zero, List.set_cons_succ, List.getElem_toArray, List.getElem_cons_succ, List.getElem_cons_zero]
  refine wpAnyH_take (i := 2) (v := ?_) rfl (by kernel_rfl) (by kernel_rfl) (by kernel_rfl) (fun _ _ _ h => h) (Or.inl ⟨by rfl, fun w hSw => ?_⟩) (by assumption) ?_
  rotate_left
  · (try dsimp only at hSw); go_simp; try with_reducible rfl
  simp only [Act.put, List.setIfInBounds_toArray, List.set_cons_zero, List.set_cons_succ, List.getElem_toArray, List.getElem_cons_succ, List.getElem_cons_zero]
  refine wpAnyH_take (i := 3) (v := ?_) rfl (by kernel_rfl) (by kernel_rfl) (by kernel_rfl) (fun _ _ _ h => h) (Or.inl ⟨by rfl, fun w hSw => ?_⟩) (by assumption) ?_
  rotate_left
  · (try dsimp only at hSw); go_simp; try with_reducible rfl
  simp only [Act.put, List.setIfInBounds_toArray, List.set_cons_zero, List.set_cons_succ, List.getElem_toArray, List.getElem_cons_succ, List.getElem_cons_zero]
  refine wpAnyH_take (i := 4) (v := ?_) rfl (by kernel_rfl) (by kernel_rfl) (by kernel_rfl) (fun _ _ _ h => h) (Or.inl ⟨by rfl, fun w hSw => ?_⟩) (by assumption) ?_
  rotate_left
  · (try dsimp only at hSw); go_simp; try with_reducible rfl
  simp only [Act.put, List.setIfInBounds_toArray, List.set_cons_zero, List.set_cons_succ, List.getElem_toArray, List.getElem_cons_succ, List.getElem_cons_zero]
  refine wpAnyH_take (i := 5) (v := ?_) rfl (by kernel_rfl) (by kernel_rfl) (by kernel_rfl) (fun _ _ _ h => h) (Or.inl ⟨by rfl, fun w hSw => ?_⟩) (by assumption) ?_
  rotate_left
  · (try dsimp only at hSw); go_simp; try with_reducible rfl
  simp only [Act.put, List.setIfInBounds_toArray, List.set_cons_zero, List.set_cons_succ, List.getElem_toArray, List.getElem_cons_succ, List.getElem_cons_zero]
  refine wpAnyH_take (i := 6) (v := ?_) rfl (by kernel_rfl) (by kernel_rfl) (by kernel_rfl) (fun _ _ _ h => h) (Or.inl ⟨by rfl, fun w hSw => ?_⟩) (by assumption) ?_
  rotate_left
  · (try dsimp only at hSw); go_simp; try with_reducible rfl
  simp only [Act.put, List.setIfInBounds_toArray, List.set_cons_zero, List.set_cons_succ, List.getElem_toArray, List.getElem_cons_succ, List.getElem_cons_zero]
  refine wpAnyH_take (i := 7) (v := ?_) rfl (by kernel_rfl) (by kernel_rfl) (by kernel_rfl) (fun _ _ _ h => h) (Or.inl ⟨by rfl, fun w hSw => ?_⟩) (by assumption) ?_
  rotate_left
  · (try dsimp only at hSw); go_simp; try with_reducible rfl
  simp only [Act.put, List.setIfInBounds_toArray, List.set_cons_zero, List.set_cons_succ, List.getElem_toArray, List.getElem_cons_succ, List.getElem_cons_zero]
  refine wpAnyH_take (i := 8) (v := ?_) rfl (by kernel_rfl) (by kernel_rfl) (by kernel_rfl) (fun _ _ _ h => h) (Or.inl ⟨by rfl, fun w hSw => ?_⟩) (by assumption) ?_
  rotate_left
  · (try dsimp only at hSw); go_simp; try with_reducible rfl
  simp only [Act.put, List.setIfInBounds_toArray, List.set_cons_zero, List.set_cons_succ, List.getElem_toArray, List.getElem_cons_succ, List.getElem_cons_zero]
  refine wpAnyH_take (i := 9) (v := ?_) rfl (by kernel_rfl) (by kernel_rfl) (by kernel_rfl) (fun _ _ _ h => h) (Or.inl ⟨by rfl, fun w hSw => ?_⟩) (by assumption) ?_
  rotate_left
  · (try dsimp only at hSw); go_simp; try with_reducible rfl
  simp only [Act.put, List.setIfInBounds_toArray, List.set_cons_zero, List.set_cons_succ, List.getElem_toArray, List.getElem_cons_succ, List.getElem_cons_zero]
  refine wpAnyH_take (i := 10) (v := ?_) rfl (by kernel_rfl) (by kernel_rfl) (by kernel_rfl) (fun _ _ _ h => h) (Or.inl ⟨by rfl, fun w hSw => ?_⟩) (by assumption) ?_
  rotate_left
  · (try dsimp only at hSw); go_simp; try with_reducible rfl
  simp only [Act.put, List.setIfInBounds_toArray, List.set_cons_zero, List.set_cons_succ, List.getElem_toArray, List.getElem_cons_succ, List.getElem_cons_zero]
  refine wpAnyH_ready (rs := [11]) (by kernel_rfl) (by simp) ?_
  refine AllReadyH.cons rfl (fun K hK => ?_) AllReadyH.nil
  simp only [List.getElem_toArray, List.getElem_cons_succ, List.getElem_cons_zero]
  go_simp
  obtain ⟨G, hG⟩ : ∃ G, G = X.heap.size := ⟨_, rfl⟩
  have HG := Lib.hid hG
  have hb1 : Below X.heap.size X (X.alloc (.cells #[.int .i64 0, .int .i64 0, .slice none 0 0] 46 (0, 0))).drew := below_drewN ((Below.refl _ _).alloc (Nat.le_refl _) _) 1
  refine hK.out _ _ ⟨(hb1.cell (p := ⟨w.heap.size, 0, none⟩) (by rw [HS.out]; show w.heap.size < _; omega)).trans x0, (hb1.cell (p := ⟨b, off + m * 6 + 5, none⟩) (by rw [HS.out]; show b < _; omega)).trans y5'⟩ (fun hHeld => ?_)
  clear hK K hb1
  refine wpAnyH_ready (rs := [12]) (by kernel_rfl) (by simp) ?_
  refine AllReadyH.cons rfl (fun K hK => ?_) AllReadyH.nil
  simp only [List.getElem_toArray, List.getElem_cons_succ, List.getElem_cons_zero]
  go_simp
  obtain ⟨Y, hY⟩ : ∃ Y, Y = (X.alloc (.cells #[.int .i64 f, .int .i64 r, .slice none 0 0] 46 (0, 0))).drew := ⟨_, rfl⟩
  have hb2 : Below X.heap.size X Y := by rw [hY]; exact below_drewN ((Below.refl _ _).alloc (Nat.le_refl _) _) 1
  have hgx : Gx Y G f r (.slice none 0 0) := by
    rw [hY, hG]
    exact ⟨by show _ < (X.alloc _).heap.size; simp, by show (X.alloc _).cell? _ = _; simp, by show (X.alloc _).cell? _ = _; simp, by show (X.alloc _).cell? _ = _; simp, by show (X.alloc _).frozen? _ = _; simp, by show (X.alloc _).frozen? _ = _; simp, by show (X.alloc _).frozen? _ = _; simp⟩
  have hrx : Gx X (w.heap.size + 1) 0 0 (.slice none 0 0) := by
    rw [HX.out]
    exact ⟨by simp, by simp, by simp, by simp, by simp, by simp, by simp⟩
  rw [← hY, ← hG]
  have HRX := Lib.hid hrx
  have hG1 : G = w.heap.size + 1 + 1 := by rw [hG]; exact HS.out
  have HG1 := Lib.hid hG1
  have hgw : w.heap.size + 1 < G := by omega
  have hGX : X.heap.size ≤ G := by omega
  refine hK.out _ _ ⟨(hb2.cell (p := ⟨w.heap.size, 0, none⟩) (by show w.heap.size < _; omega)).trans x0, (hb2.cell (p := ⟨b, off + m * 6 + 5, none⟩) (by show b < _; omega)).trans y5'⟩ (fun hHeld => ?_)
  have hb3 : Below G X Y := by rw [hG]; exact hb2
  clear hK K hHeld x0 y5' hY hrx hG hG1 hb2
  refine wpAnyH_done (by kernel_rfl) ?_ _
  go_wp2_with (fail)
  go_loopw [7, 21] (fun _p v wr => ∃ (k : Nat) (u : Value), k ≤ n ∧ v = .int .i64 k ∧ Gx wr G f r u ∧ OwnI wr (G + 1) u k ((L.take k).map Inf.g) ∧ Below G X wr) (fun _ v _ => n - (intOf v).toNat)
  case atStart => exact ⟨0, _, Nat.zero_le _, rfl, hgx, ownI_nil _ _, hb3⟩
  case round =>
    clear hgx hb3
    obtain ⟨k, u, hk, rfl, hgx, ho, hb⟩ := hrel
    have HB := Lib.hid hb
    have hbw : Below w.heap.size w wr := HBX.out.trans (hb.mono (by omega))
    have HBW := Lib.hid hbw
    have hbs := hb.size
    have hgl := hgx.lt
    by_cases hlt : k < n
    · obtain ⟨b', off', g', q', c', i', m', r', e', hbl', hx, y0, y1, y2, y3, y4, y5⟩ := (HH.out.next hbw).at hlt
      cases e'
      have htk : (L.take (k + 1)).map Inf.g = (L.take k).map Inf.g ++ [g'] := by
        rw [List.take_add_one, hx]
        simp
      have HT := Lib.hid htk
      have z0 := hgx.c0
      have z2 := hgx.c2
      obtain ⟨au, cu, rfl, _, _, _, _⟩ := ho.ins
      obtain ⟨w1, hw1⟩ : ∃ w1, w1 = (wr.alloc (.cells #[.int .i64 g', .int .i64 q', .int .i64 c', .int .i64 i', .int .i64 m', .int .i64 r'] 39 (0, 0))).alloc (.cells #[.int .i64 g'] 3 (0, 0)) := ⟨_, rfl⟩
      have hb1 : Below wr.heap.size wr w1 := by rw [hw1]; exact bel2 _ _ _
      have hs1 : w1.heap.size = wr.heap.size + 1 + 1 := by rw [hw1]; simp
      have hn1 : w1.cell? ⟨wr.heap.size + 1, 0, none⟩ = some (.int .i64 g') := by rw [hw1]; simp
      have ho1 := ho.next hb1
      have HGX1 := Lib.hid (hgx.next hb1)
      have HB1 := Lib.hid (HB.out.trans (hb1.mono (by omega)))
      have HW1 := Lib.hid hw1
      clear hx htk hb hbw hgx hb1 ho
      go_wp2_with (at_builtin; rw [← hw1]; go_must (refine wpList_api rfl (.tmp 26) (.tmp 29) rfl (G + 1) _ k _ rfl ho1 (wr.heap.size + 1) g' rfl hn1 (by omega) (by omega) w1 (Below.refl _ _) ?_); intro v4 w4 ho4 hB4; obtain ⟨a4, c4, rfl, _, _, _, _⟩ := ho4.ins; have hg4 := HGX1.out.below hB4 (Nat.lt_succ_self _); have z5 := hg4.c2; have z6 := hg4.f2; have HG4 := Lib.hid hg4; have HO4 := Lib.hid ho4; have HB4 := Lib.hid (HB1.out.trans (hB4.mono (by omega))); clear hg4 ho4 hB4 hw1 ho1 hn1)
      go_roundw
      case rel =>
        refine ⟨k + 1, _, by omega, by go_num, HG4.out.set _, ?_, HB4.out.setCell (Nat.le_refl _) _⟩
        rw [HT.out]
        exact HO4.out.setLow (Nat.lt_succ_self _) _
      case measure => simp [intOf]; omega
    · obtain rfl : k = n := by omega
      have z0 := hgx.c0
      have z1 := hgx.c1
      have z2 := hgx.c2
      have hrx := HRX.out.below hb (by omega)
      have x0 := hrx.c0
      have x1 := hrx.c1
      have x2 := hrx.c2
      have f0 := hrx.f0
      have f1 := hrx.f1
      have f2 := hrx.f2
      have hl : ((L.take k).map Inf.g) = L.map Inf.g := by rw [List.take_of_length_le (by rw [HL.out]; exact Nat.le_refl _)]
      rw [hl] at ho
      obtain ⟨au, cu, rfl, _, _, _, _⟩ := ho.ins
      have HO := Lib.hid ho
      have HR := Lib.hid hrx
      clear hl ho hrx hgx hb
      go_wp2_with (fail)
      have e0 := HR.out.set3 f r (.slice au k cu)
      have k0 := e0.c0
      have k1 := e0.c1
      have k2 := e0.c2
      unfold setG at k0 k1 k2
      have hlen : (L.map Inf.g).length = k := by rw [List.length_map]; exact HL.out
      refine bodyPost_ret (v := .agg #[.int .i64 f, .int .i64 r, .slice au k cu]) (by simp [results, Try.results28, go_sem, k0, k1, k2]) rfl ⟨au, cu, by rw [hlen], ?_, ?_⟩
      · rw [hlen]
        exact (HO.out.setG (b := w.heap.size + 1) (by omega)).lower (by omega)
      · exact HBW.out.setG (Nat.le_succ _)
end Go.Proofs.Ytcpplppccljmiaa
