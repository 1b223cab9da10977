/-
  The document's Right of any list, by contract.
-/
import Derived.Test.YtegcjpocdfmpfaaVag
import Derived.Test.YtegcjpocdfmpfaaVad
import Derived.Test.YtegcjpocdfmpfaaVae
import Derived.Test.YtegcjpocdfmpfaaVaa
import Derived.Test.YtegcjpocdfmpfaaLay
import Derived.Laws.BytesArg
import Derived.Lib.Bytes
import Derived.Lib.SliceRun
import Derived.Test.YtegcjpocdfmpfaaVac
set_option linter.unusedVariables false
set_option linter.unusedSimpArgs false
set_option maxRecDepth 100000
set_option maxHeartbeats 16000000
namespace Go.Proofs.Ytegcjpocdfmpfaa
open Go.RowKit

/-- Is a geometry right; is a list of it? -/
def geoO (d r s : Int) : Bool := decide (3 ≤ d ∧ d ≤ 16) && decide (1 ≤ r ∧ r ≤ 4) && decide (12 ≤ s ∧ s ≤ 64) && decide (8 ≤ QC s * PL d r)
theorem geoO_iff {d r s : Int} : geoO d r s = true ↔ Rt d r s := by
  simp only [geoO, Bool.and_eq_true, decide_eq_true_eq]
  constructor
  · rintro ⟨⟨⟨h1, h2⟩, h3⟩, h4⟩
    exact ⟨⟨h1.1, h1.2, h2.1, h2.2, h3.1, h3.2⟩, h4⟩
  · intro h
    exact ⟨⟨⟨⟨h.d1, h.d2⟩, h.r1, h.r2⟩, h.s1, h.s2⟩, h.q⟩
theorem geoO_no {d r s : Int} (h : ¬ Rt d r s) : geoO d r s = false := by
  cases hg : geoO d r s with
  | false => rfl
  | true => exact absurd (geoO_iff.1 hg) h
def mrO (d r s : Int) (L : List Nd) : Bool := geoO d r s && lrO (adN d r s) L
theorem lrO_len {N : Int} {L : List Nd} (h : ¬ (1 ≤ L.length ∧ L.length ≤ 56)) : lrO N L = false := by rw [lrO, decide_eq_false h]; rfl
theorem lrO_ino {N : Int} {f : Nat → Nw} {n : Nat} (hn : 1 ≤ n) (h : (f 0).ino ≠ 1) : lrO N (lnL f n) = false := by
  rw [lrO, lnL_get f (by omega : 0 < n), show ((f 0).nd).ino = (f 0).ino from rfl, decide_eq_false h, Bool.and_false]; rfl
theorem lrO_kind {N : Int} {f : Nat → Nw} {n : Nat} (hn : 1 ≤ n) (h : (f 0).kind ≠ 2) : lrO N (lnL f n) = false := by
  rw [lrO, lnL_get f (by omega : 0 < n), show ((f 0).nd).kind = (f 0).kind from rfl, decide_eq_false h, Bool.and_false]; rfl
theorem rlrNo_any (d r s : Int) (a : Option Addr) (n c : Nat) (f : Nat → Nw) (w : World) (h : ¬ Rt d r s) :
    Calls Try.prog 18 #[gv d r s, .slice a n c] w fun e w' => e = .returned (.bool false) ∧ Below w.heap.size w w' := by
  have hx := Bx.mk' w d r s 23
  have hB : Below w.heap.size w (w.alloc (.cells #[.int .i64 d, .int .i64 r, .int .i64 s] 23 (0, 0))) := (Below.refl _ _).alloc (Nat.le_refl _) _
  obtain ⟨w1, hw1⟩ : ∃ w1, w1 = w.alloc (.cells #[.int .i64 d, .int .i64 r, .int .i64 s] 23 (0, 0)) := ⟨_, rfl⟩
  rw [← hw1] at hx hB
  have y1 := hx.c0
  have y2 := hx.c1
  have y3 := hx.c2
  have HW := Lib.hid hw1
  have HB := Lib.hid hB
  have HR := Lib.hid h
  clear hx hB h hw1
  rw [HW.out] at y1 y2 y3
  go_enter Try.func18, Try.ntmps18
  go_wp2_with (fail)
  rw [← HW.out]
  rw [← HW.out] at y1 y2 y3
  refine (rright_no d r s _ HR.out).mono ?_
  rintro e w2 ⟨rfl, hb⟩
  have HB2 := Lib.hid (HB.out.trans (hb.mono HB.out.size))
  clear hb y1 y2 y3
  go_wp2_with (fail)
  go_ret
  exact ⟨rfl, HB2.out⟩
theorem rlrOut_any (d r s : Int) (a : Option Addr) (n c : Nat) (f : Nat → Nw) (w : World) (h : Rt d r s) (hl : NwsAt w a n f) (hn : ¬ (1 ≤ n ∧ n ≤ 56) ∨ (f 0).ino ≠ 1 ∨ (f 0).kind ≠ 2) :
    Calls Try.prog 18 #[gv d r s, .slice a n c] w fun e w' => e = .returned (.bool false) ∧ Below w.heap.size w w' := by
  have hx := Bx.mk' w d r s 23
  have hB : Below w.heap.size w (w.alloc (.cells #[.int .i64 d, .int .i64 r, .int .i64 s] 23 (0, 0))) := (Below.refl _ _).alloc (Nat.le_refl _) _
  obtain ⟨w1, hw1⟩ : ∃ w1, w1 = w.alloc (.cells #[.int .i64 d, .int .i64 r, .int .i64 s] 23 (0, 0)) := ⟨_, rfl⟩
  rw [← hw1] at hx hB
  have y1 := hx.c0
  have y2 := hx.c1
  have y3 := hx.c2
  have HW := Lib.hid hw1
  have HB := Lib.hid hB
  have HR := Lib.hid h
  have HL := Lib.hid (hl.next hB)
  have HN := Lib.hid hn
  clear hx hB h hw1 hl hn
  rw [HW.out] at y1 y2 y3
  go_enter Try.func18, Try.ntmps18
  go_wp2_with (fail)
  rw [← HW.out]
  rw [← HW.out] at y1 y2 y3
  refine (rright_yes d r s _ HR.out).mono ?_
  rintro e w2 ⟨rfl, hb⟩
  have HB2 := Lib.hid (HB.out.trans (hb.mono HB.out.size))
  have HL2 := Lib.hid (HL.out.next hb)
  clear hb y1 y2 y3
  by_cases h1 : n < 1
  · have k1 : (n : Int) < 1 := by omega
    clear h1
    go_wp2_with (fail)
    go_ret
    exact ⟨rfl, HB2.out⟩
  · have k1 : ¬ (n : Int) < 1 := by omega
    by_cases h2 : 56 < n
    · have k2 : (56 : Int) < (n : Int) := by omega
      clear h1 h2
      go_wp2_with (fail)
      go_ret
      exact ⟨rfl, HB2.out⟩
    · have k2 : ¬ (56 : Int) < (n : Int) := by omega
      obtain ⟨b, off, rfl, hlt, hc⟩ : ∃ b off, a = some ⟨b, off, none⟩ ∧ b < w2.heap.size ∧ ∀ i, i < n → NwIn w2 b (off + i * 5) (f i) := by
        rcases HL2.out with h0 | h
        · omega
        · exact h
      have h0 := hc 0 (by omega)
      have c0 := h0.c0
      have c1 := h0.c1
      rw [show off + 0 * 5 = off by omega] at c0 c1
      obtain ⟨x, hx⟩ : ∃ x, x = (f 0).ino := ⟨_, rfl⟩
      obtain ⟨y, hy⟩ : ∃ y, y = (f 0).kind := ⟨_, rfl⟩
      rw [← hx] at c0
      rw [← hy] at c1
      have HO := Lib.hid (show x ≠ 1 ∨ y ≠ 2 by
        rcases HN.out with h5 | h5 | h5
        · exact absurd (by omega) h5
        · exact .inl (by rw [hx]; exact h5)
        · exact .inr (by rw [hy]; exact h5))
      clear h0 hc hx hy
      have k3 : 0 < n := by omega
      clear h1 h2
      by_cases ex : x = 1
      · have d1 : (x != 1) = false := by simp [ex]
        have d2 : (y != 2) = true := by
          rcases HO.out with h5 | h5
          · exact absurd ex h5
          · simp [h5]
        clear ex
        go_wp2_with (fail)
        go_ret
        exact ⟨rfl, HB2.out⟩
      · have d1 : (x != 1) = true := by simp [ex]
        clear ex
        go_wp2_with (fail)
        go_ret
        exact ⟨rfl, HB2.out⟩
/-- The document's Right, whatever the list. -/
theorem rmr_any (d r s : Int) (a : Option Addr) (n c : Nat) (f : Nat → Nw) (w : World) (hl : NwsAt w a n f) :
    Calls Try.prog 18 #[gv d r s, .slice a n c] w fun e w' => e = .returned (.bool (mrO d r s (lnL f n))) ∧ Below w.heap.size w w' := by
  by_cases h : Rt d r s
  · by_cases h2 : (1 ≤ n ∧ n ≤ 56) ∧ (f 0).ino = 1 ∧ (f 0).kind = 2
    · refine (rlr_any d r s a n c f w h hl h2.1.1 h2.1.2 h2.2.1 h2.2.2).mono ?_
      rintro e w' ⟨rfl, hb⟩
      exact ⟨by rw [mrO, geoO_iff.2 h, Bool.true_and], hb⟩
    · have h3 : ¬ (1 ≤ n ∧ n ≤ 56) ∨ (f 0).ino ≠ 1 ∨ (f 0).kind ≠ 2 := by
        by_cases e1 : (1 ≤ n ∧ n ≤ 56)
        · by_cases e2 : (f 0).ino = 1
          · exact .inr (.inr fun e3 => h2 ⟨e1, e2, e3⟩)
          · exact .inr (.inl e2)
        · exact .inl e1
      refine (rlrOut_any d r s a n c f w h hl h3).mono ?_
      rintro e w' ⟨rfl, hb⟩
      have e : lrO (adN d r s) (lnL f n) = false := by
        by_cases e1 : (1 ≤ n ∧ n ≤ 56)
        · rcases h3 with h3 | h3 | h3
          · exact absurd e1 h3
          · exact lrO_ino e1.1 h3
          · exact lrO_kind e1.1 h3
        · exact lrO_len (by rw [lnL_len]; exact e1)
      exact ⟨by rw [mrO, e, Bool.and_false], hb⟩
  · refine (rlrNo_any d r s a n c f w h).mono ?_
    rintro e w' ⟨rfl, hb⟩
    exact ⟨by rw [mrO, geoO_no h]; rfl, hb⟩

theorem where_out (d r s n : Int) (w : World) (h : ¬ Rt d r s) :
    Calls Try.prog 82 #[gv d r s, .int .i64 n] w fun e w' => e = .returned (.tuple #[.int .i64 0, .int .i64 0, .bool false]) ∧ Below w.heap.size w w' := by
  have hx := (Bx.mk' w d r s 23).drew
  go_enter Try.func82, Try.ntmps82
  go_wp2_with (fail)
  refine wp_region_held_drew (S := (fun w' => w'.cell? ⟨w.heap.size, 0, none⟩ = some (.int .i64 d) ∧ w'.cell? ⟨w.heap.size, 1, none⟩ = some (.int .i64 r) ∧ w'.cell? ⟨w.heap.size, 2, none⟩ = some (.int .i64 s))) (by kernel_rfl) ?_ (fun hHeld => ?_)
  · exact ⟨hx.c0, hx.c1, hx.c2⟩
  refine wpAnyH_take (i := 0) (v := ?_) rfl (by kernel_rfl) (by kernel_rfl) (by kernel_rfl) (fun _ _ _ h => h) (Or.inl ⟨by rfl, fun w hSw => ?_⟩) (by assumption) ?_
  rotate_left
  · (try dsimp only at hSw); go_simp; try with_reducible rfl
  simp only [Act.put, List.setIfInBounds_toArray, List.set_cons_zero, List.set_cons_succ, List.getElem_toArray, List.getElem_cons_zero]
  refine wpAnyH_ready (rs := [1]) (by kernel_rfl) (by simp) ?_
  refine AllReadyH.cons rfl (fun K hK => ?_) AllReadyH.nil
  simp only [List.getElem_toArray, List.getElem_cons_succ, List.getElem_cons_zero]
  go_simp
  refine (right_no d r s _ h).mono ?_
  rintro e w2 ⟨rfl, hb⟩
  have x2 := hx.next hb
  have hB := bel_box _ (by simp) hb
  go_wp2_with (fail)
  refine hK.out _ _ ⟨x2.c0, x2.c1, x2.c2⟩ (fun hHeld => ?_)
  clear hK K
  refine wpAnyH_take (i := 2) (v := ?_) rfl (by kernel_rfl) (by kernel_rfl) (by kernel_rfl) (fun _ _ _ h => h) (Or.inl ⟨by rfl, fun w hSw => ?_⟩) (by assumption) ?_
  rotate_left
  · (try dsimp only at hSw); go_simp; try with_reducible rfl
  simp only [Act.put, List.setIfInBounds_toArray, List.set_cons_zero, List.set_cons_succ, List.getElem_toArray, List.getElem_cons_succ, List.getElem_cons_zero]
  refine wpAnyH_take (i := 3) (v := ?_) rfl (by kernel_rfl) (by kernel_rfl) (by kernel_rfl) (fun _ _ _ h => h) (Or.inl ⟨by rfl, fun w hSw => ?_⟩) (by assumption) ?_
  rotate_left
  · (try dsimp only at hSw); go_simp; try with_reducible rfl
  simp only [Act.put, List.setIfInBounds_toArray, List.set_cons_zero, List.set_cons_succ, List.getElem_toArray, List.getElem_cons_succ, List.getElem_cons_zero]
  refine wpAnyH_take (i := 4) (v := undef) rfl (by kernel_rfl) (by kernel_rfl) (by kernel_rfl) (fun _ _ _ h => h) (Or.inr ⟨by rfl, rfl⟩) (by assumption) ?_
  simp only [Act.put, List.setIfInBounds_toArray, List.set_cons_zero, List.set_cons_succ, List.getElem_toArray, List.getElem_cons_succ, List.getElem_cons_zero]
  refine wpAnyH_take (i := 5) (v := undef) rfl (by kernel_rfl) (by kernel_rfl) (by kernel_rfl) (fun _ _ _ h => h) (Or.inr ⟨by rfl, rfl⟩) (by assumption) ?_
  simp only [Act.put, List.setIfInBounds_toArray, List.set_cons_zero, List.set_cons_succ, List.getElem_toArray, List.getElem_cons_succ, List.getElem_cons_zero]
  refine wpAnyH_take (i := 6) (v := ?_) rfl (by kernel_rfl) (by kernel_rfl) (by kernel_rfl) (fun _ _ _ h => h) (Or.inl ⟨by rfl, fun w hSw => ?_⟩) (by assumption) ?_
  rotate_left
  · (try dsimp only at hSw); go_simp; try with_reducible rfl
  simp only [Act.put, List.setIfInBounds_toArray, List.set_cons_zero, List.set_cons_succ, List.getElem_toArray, List.getElem_cons_succ, List.getElem_cons_zero]
  refine wpAnyH_take (i := 7) (v := ?_) rfl (by kernel_rfl) (by kernel_rfl) (by kernel_rfl) (fun _ _ _ h => h) (Or.inl ⟨by rfl, fun w hSw => ?_⟩) (by assumption) ?_
  rotate_left
  · (try dsimp only at hSw); go_simp; try with_reducible rfl
  simp only [Act.put, List.setIfInBounds_toArray, List.set_cons_zero, List.set_cons_succ, List.getElem_toArray, List.getElem_cons_succ, List.getElem_cons_zero]
  refine wpAnyH_take (i := 8) (v := undef) rfl (by kernel_rfl) (by kernel_rfl) (by kernel_rfl) (fun _ _ _ h => h) (Or.inr ⟨by rfl, rfl⟩) (by assumption) ?_
  simp only [Act.put, List.setIfInBounds_toArray, List.set_cons_zero, List.set_cons_succ, List.getElem_toArray, List.getElem_cons_succ, List.getElem_cons_zero]
  refine wpAnyH_take (i := 9) (v := undef) rfl (by kernel_rfl) (by kernel_rfl) (by kernel_rfl) (fun _ _ _ h => h) (Or.inr ⟨by rfl, rfl⟩) (by assumption) ?_
  simp only [Act.put, List.setIfInBounds_toArray, List.set_cons_zero, List.set_cons_succ, List.getElem_toArray, List.getElem_cons_succ, List.getElem_cons_zero]
  refine wpAnyH_take (i := 10) (v := undef) rfl (by kernel_rfl) (by kernel_rfl) (by kernel_rfl) (fun _ _ _ h => h) (Or.inr ⟨by rfl, rfl⟩) (by assumption) ?_
  simp only [Act.put, List.setIfInBounds_toArray, List.set_cons_zero, List.set_cons_succ, List.getElem_toArray, List.getElem_cons_succ, List.getElem_cons_zero]
  refine wpAnyH_take (i := 11) (v := undef) rfl (by kernel_rfl) (by kernel_rfl) (by kernel_rfl) (fun _ _ _ h => h) (Or.inr ⟨by rfl, rfl⟩) (by assumption) ?_
  simp only [Act.put, List.setIfInBounds_toArray, List.set_cons_zero, List.set_cons_succ, List.getElem_toArray, List.getElem_cons_succ, List.getElem_cons_zero]
  refine wpAnyH_take (i := 12) (v := undef) rfl (by kernel_rfl) (by kernel_rfl) (by kernel_rfl) (fun _ _ _ h => h) (Or.inr ⟨by rfl, rfl⟩) (by assumption) ?_
  simp only [Act.put, List.setIfInBounds_toArray, List.set_cons_zero, List.set_cons_succ, List.getElem_toArray, List.getElem_cons_succ, List.getElem_cons_zero]
  refine wpAnyH_take (i := 13) (v := undef) rfl (by kernel_rfl) (by kernel_rfl) (by kernel_rfl) (fun _ _ _ h => h) (Or.inr ⟨by rfl, rfl⟩) (by assumption) ?_
  simp only [Act.put, List.setIfInBounds_toArray, List.set_cons_zero, List.set_cons_succ, List.getElem_toArray, List.getElem_cons_succ, List.getElem_cons_zero]
  refine wpAnyH_take (i := 14) (v := undef) rfl (by kernel_rfl) (by kernel_rfl) (by kernel_rfl) (fun _ _ _ h => h) (Or.inr ⟨by rfl, rfl⟩) (by assumption) ?_
  simp only [Act.put, List.setIfInBounds_toArray, List.set_cons_zero, List.set_cons_succ, List.getElem_toArray, List.getElem_cons_succ, List.getElem_cons_zero]
  refine wpAnyH_take (i := 15) (v := ?_) rfl (by kernel_rfl) (by kernel_rfl) (by kernel_rfl) (fun _ _ _ h => h) (Or.inl ⟨by rfl, fun w hSw => ?_⟩) (by assumption) ?_
  rotate_left
  · (try dsimp only at hSw); go_simp; try with_reducible rfl
  simp only [Act.put, List.setIfInBounds_toArray, List.set_cons_zero, List.set_cons_succ, List.getElem_toArray, List.getElem_cons_succ, List.getElem_cons_zero]
  refine wpAnyH_done (by kernel_rfl) ?_ _
  go_wp2_with (fail)
  go_ret3
  exact ⟨rfl, hB⟩
theorem where_low (d r s n : Int) (w : World) (h : Rt d r s) (hn : n < 1) :
    Calls Try.prog 82 #[gv d r s, .int .i64 n] w fun e w' => e = .returned (.tuple #[.int .i64 0, .int .i64 0, .bool false]) ∧ Below w.heap.size w w' := by
  have hx := (Bx.mk' w d r s 23).drew
  go_enter Try.func82, Try.ntmps82
  go_wp2_with (fail)
  refine wp_region_held_drew (S := (fun w' => w'.cell? ⟨w.heap.size, 0, none⟩ = some (.int .i64 d) ∧ w'.cell? ⟨w.heap.size, 1, none⟩ = some (.int .i64 r) ∧ w'.cell? ⟨w.heap.size, 2, none⟩ = some (.int .i64 s))) (by kernel_rfl) ?_ (fun hHeld => ?_)
  · exact ⟨hx.c0, hx.c1, hx.c2⟩
  refine wpAnyH_take (i := 0) (v := ?_) rfl (by kernel_rfl) (by kernel_rfl) (by kernel_rfl) (fun _ _ _ h => h) (Or.inl ⟨by rfl, fun w hSw => ?_⟩) (by assumption) ?_
  rotate_left
  · (try dsimp only at hSw); go_simp; try with_reducible rfl
  simp only [Act.put, List.setIfInBounds_toArray, List.set_cons_zero, List.set_cons_succ, List.getElem_toArray, List.getElem_cons_zero]
  refine wpAnyH_ready (rs := [1]) (by kernel_rfl) (by simp) ?_
  refine AllReadyH.cons rfl (fun K hK => ?_) AllReadyH.nil
  simp only [List.getElem_toArray, List.getElem_cons_succ, List.getElem_cons_zero]
  go_simp
  refine (right_yes d r s _ h).mono ?_
  rintro e w2 ⟨rfl, hb⟩
  have x2 := hx.next hb
  have hB := bel_box _ (by simp) hb
  go_wp2_with (fail)
  refine hK.out _ _ ⟨x2.c0, x2.c1, x2.c2⟩ (fun hHeld => ?_)
  clear hK K
  refine wpAnyH_take (i := 2) (v := ?_) rfl (by kernel_rfl) (by kernel_rfl) (by kernel_rfl) (fun _ _ _ h => h) (Or.inl ⟨by rfl, fun w hSw => ?_⟩) (by assumption) ?_
  rotate_left
  · (try dsimp only at hSw); go_simp; try with_reducible rfl
  simp only [Act.put, List.setIfInBounds_toArray, List.set_cons_zero, List.set_cons_succ, List.getElem_toArray, List.getElem_cons_succ, List.getElem_cons_zero]
  refine wpAnyH_take (i := 3) (v := ?_) rfl (by kernel_rfl) (by kernel_rfl) (by kernel_rfl) (fun _ _ _ h => h) (Or.inl ⟨by rfl, fun w hSw => ?_⟩) (by assumption) ?_
  rotate_left
  · (try dsimp only at hSw); go_simp; try with_reducible rfl
  simp only [Act.put, List.setIfInBounds_toArray, List.set_cons_zero, List.set_cons_succ, List.getElem_toArray, List.getElem_cons_succ, List.getElem_cons_zero]
  refine wpAnyH_take (i := 4) (v := ?_) rfl (by kernel_rfl) (by kernel_rfl) (by kernel_rfl) (fun _ _ _ h => h) (Or.inl ⟨by rfl, fun w hSw => ?_⟩) (by assumption) ?_
  rotate_left
  · (try dsimp only at hSw); go_simp; try with_reducible rfl
  simp only [Act.put, List.setIfInBounds_toArray, List.set_cons_zero, List.set_cons_succ, List.getElem_toArray, List.getElem_cons_succ, List.getElem_cons_zero]
  refine wpAnyH_take (i := 5) (v := ?_) rfl (by kernel_rfl) (by kernel_rfl) (by kernel_rfl) (fun _ _ _ h => h) (Or.inl ⟨by rfl, fun w hSw => ?_⟩) (by assumption) ?_
  rotate_left
  · (try dsimp only at hSw); go_simp; try with_reducible rfl
  simp only [Act.put, List.setIfInBounds_toArray, List.set_cons_zero, List.set_cons_succ, List.getElem_toArray, List.getElem_cons_succ, List.getElem_cons_zero]
  refine wpAnyH_take (i := 6) (v := ?_) rfl (by kernel_rfl) (by kernel_rfl) (by kernel_rfl) (fun _ _ _ h => h) (Or.inl ⟨by rfl, fun w hSw => ?_⟩) (by assumption) ?_
  rotate_left
  · (try dsimp only at hSw); go_simp; try with_reducible rfl
  simp only [Act.put, List.setIfInBounds_toArray, List.set_cons_zero, List.set_cons_succ, List.getElem_toArray, List.getElem_cons_succ, List.getElem_cons_zero]
  refine wpAnyH_take (i := 7) (v := ?_) rfl (by kernel_rfl) (by kernel_rfl) (by kernel_rfl) (fun _ _ _ h => h) (Or.inl ⟨by rfl, fun w hSw => ?_⟩) (by assumption) ?_
  rotate_left
  · (try dsimp only at hSw); go_simp; try with_reducible rfl
  simp only [Act.put, List.setIfInBounds_toArray, List.set_cons_zero, List.set_cons_succ, List.getElem_toArray, List.getElem_cons_succ, List.getElem_cons_zero]
  refine wpAnyH_take (i := 8) (v := undef) rfl (by kernel_rfl) (by kernel_rfl) (by kernel_rfl) (fun _ _ _ h => h) (Or.inr ⟨by rfl, rfl⟩) (by assumption) ?_
  simp only [Act.put, List.setIfInBounds_toArray, List.set_cons_zero, List.set_cons_succ, List.getElem_toArray, List.getElem_cons_succ, List.getElem_cons_zero]
  refine wpAnyH_take (i := 9) (v := undef) rfl (by kernel_rfl) (by kernel_rfl) (by kernel_rfl) (fun _ _ _ h => h) (Or.inr ⟨by rfl, rfl⟩) (by assumption) ?_
  simp only [Act.put, List.setIfInBounds_toArray, List.set_cons_zero, List.set_cons_succ, List.getElem_toArray, List.getElem_cons_succ, List.getElem_cons_zero]
  refine wpAnyH_take (i := 10) (v := undef) rfl (by kernel_rfl) (by kernel_rfl) (by kernel_rfl) (fun _ _ _ h => h) (Or.inr ⟨by rfl, rfl⟩) (by assumption) ?_
  simp only [Act.put, List.setIfInBounds_toArray, List.set_cons_zero, List.set_cons_succ, List.getElem_toArray, List.getElem_cons_succ, List.getElem_cons_zero]
  refine wpAnyH_take (i := 11) (v := undef) rfl (by kernel_rfl) (by kernel_rfl) (by kernel_rfl) (fun _ _ _ h => h) (Or.inr ⟨by rfl, rfl⟩) (by assumption) ?_
  simp only [Act.put, List.setIfInBounds_toArray, List.set_cons_zero, List.set_cons_succ, List.getElem_toArray, List.getElem_cons_succ, List.getElem_cons_zero]
  refine wpAnyH_take (i := 12) (v := undef) rfl (by kernel_rfl) (by kernel_rfl) (by kernel_rfl) (fun _ _ _ h => h) (Or.inr ⟨by rfl, rfl⟩) (by assumption) ?_
  simp only [Act.put, List.setIfInBounds_toArray, List.set_cons_zero, List.set_cons_succ, List.getElem_toArray, List.getElem_cons_succ, List.getElem_cons_zero]
  refine wpAnyH_take (i := 13) (v := undef) rfl (by kernel_rfl) (by kernel_rfl) (by kernel_rfl) (fun _ _ _ h => h) (Or.inr ⟨by rfl, rfl⟩) (by assumption) ?_
  simp only [Act.put, List.setIfInBounds_toArray, List.set_cons_zero, List.set_cons_succ, List.getElem_toArray, List.getElem_cons_succ, List.getElem_cons_zero]
  refine wpAnyH_take (i := 14) (v := undef) rfl (by kernel_rfl) (by kernel_rfl) (by kernel_rfl) (fun _ _ _ h => h) (Or.inr ⟨by rfl, rfl⟩) (by assumption) ?_
  simp only [Act.put, List.setIfInBounds_toArray, List.set_cons_zero, List.set_cons_succ, List.getElem_toArray, List.getElem_cons_succ, List.getElem_cons_zero]
  refine wpAnyH_take (i := 15) (v := ?_) rfl (by kernel_rfl) (by kernel_rfl) (by kernel_rfl) (fun _ _ _ h => h) (Or.inl ⟨by rfl, fun w hSw => ?_⟩) (by assumption) ?_
  rotate_left
  · (try dsimp only at hSw); go_simp; try with_reducible rfl
  simp only [Act.put, List.setIfInBounds_toArray, List.set_cons_zero, List.set_cons_succ, List.getElem_toArray, List.getElem_cons_succ, List.getElem_cons_zero]
  refine wpAnyH_done (by kernel_rfl) ?_ _
  go_wp2_with (fail)
  go_ret3
  exact ⟨rfl, hB⟩

theorem sp_bd {d r s : Int} (h : Rt d r s) : 0 ≤ s * PL d r ∧ s * PL d r ≤ 3776 :=
  mul_bd (x := 64) (y := 59) (by have := h.s1; omega) h.s2 (by have := PL_bd h.d1 h.d2 h.r1 h.r2; omega) (PL_bd h.d1 h.d2 h.r1 h.r2).2.1
theorem where_high (d r s n : Int) (w : World) (h : Rt d r s) (hn : s * PL d r < n) :
    Calls Try.prog 82 #[gv d r s, .int .i64 n] w fun e w' => e = .returned (.tuple #[.int .i64 0, .int .i64 0, .bool false]) ∧ Below w.heap.size w w' := by
  have hx := (Bx.mk' w d r s 23).drew
  obtain ⟨p1, p2, p3, p4⟩ := PL_bd h.d1 h.d2 h.r1 h.r2
  obtain ⟨m1, m2⟩ := sp_bd h
  have w1 : IntKind.i64.wrap (s * PL d r) = s * PL d r := IntWalk.i64_in _ (by omega)
  have n1 : 1 ≤ n := by omega
  have g1 : decide (n < 1) = false := decide_eq_false (by omega)
  have n2 : ¬ n ≤ s * PL d r := by omega
  go_enter Try.func82, Try.ntmps82
  go_wp2_with (fail)
  go_region_held3 (fun w' => w'.cell? ⟨w.heap.size, 0, none⟩ = some (.int .i64 d) ∧ w'.cell? ⟨w.heap.size, 1, none⟩ = some (.int .i64 r) ∧ w'.cell? ⟨w.heap.size, 2, none⟩ = some (.int .i64 s))
    (first | go_keep | exact ⟨hx.c0, hx.c1, hx.c2⟩ | exact ⟨(hx.next hb2).c0, (hx.next hb2).c1, (hx.next hb2).c2⟩ | exact ⟨((hx.next hb2).next hb3).c0, ((hx.next hb2).next hb3).c1, ((hx.next hb2).next hb3).c2⟩)
    (first | (go_at_call 56
              refine (right_yes d r s _ h).mono ?_
              rintro e w2 ⟨rfl, hb2⟩)
           | (go_at_call 69
              refine (placesS_any d r s _ h.d1 h.d2 h.r1 h.r2).mono ?_
              rintro e w3 ⟨rfl, hb3⟩))
  have hB := (bel_box _ (by simp) hb2).trans (hb3.mono (Nat.le_of_lt (hx.next hb2).lt))
  go_wp2_with (fail)
  go_ret3
  exact ⟨rfl, hB⟩
theorem where_yes (d r s n : Int) (w : World) (h : Rt d r s) (n1 : 1 ≤ n) (n2 : n ≤ s * PL d r) :
    Calls Try.prog 82 #[gv d r s, .int .i64 n] w fun e w' => e = .returned (.tuple #[.int .i64 ((n - 1) / PL d r), .int .i64 ((n - 1) % PL d r + 1), .bool true]) ∧ Below w.heap.size w w' := by
  have hx := (Bx.mk' w d r s 23).drew
  obtain ⟨p1, p2, p3, p4⟩ := PL_bd h.d1 h.d2 h.r1 h.r2
  obtain ⟨m1, m2⟩ := sp_bd h
  have w1 : IntKind.i64.wrap (s * PL d r) = s * PL d r := IntWalk.i64_in _ (by omega)
  have g1 : decide (n < 1) = false := decide_eq_false (by omega)
  have n3 : ¬ s * PL d r < n := by omega
  have z1 : PL d r ≠ 0 := by omega
  have n0 : 0 ≤ n - 1 := by omega
  have a1 := Int.ediv_nonneg n0 (b := PL d r) (by omega)
  have a2 := Int.ediv_le_self (PL d r) n0
  have a3 := Int.emod_nonneg (n - 1) z1
  have a4 := Int.emod_lt_of_pos (n - 1) (show 0 < PL d r by omega)
  have W3 := Lib.hid (Int.tdiv_eq_ediv_of_nonneg n0 (b := PL d r))
  have W4 := Lib.hid (Int.tmod_eq_emod_of_nonneg n0 (b := PL d r))
  have W5 : Hid (IntKind.i64.wrap ((n - 1) / PL d r) = (n - 1) / PL d r) := Lib.hid (IntWalk.i64_in _ (by omega))
  have W6 : Hid (IntKind.i64.wrap ((n - 1) % PL d r + 1) = (n - 1) % PL d r + 1) := Lib.hid (IntWalk.i64_in _ (by omega))
  go_enter Try.func82, Try.ntmps82
  go_wp2_with (fail)
  go_region_held3 (fun w' => w'.cell? ⟨w.heap.size, 0, none⟩ = some (.int .i64 d) ∧ w'.cell? ⟨w.heap.size, 1, none⟩ = some (.int .i64 r) ∧ w'.cell? ⟨w.heap.size, 2, none⟩ = some (.int .i64 s))
    (first | go_keep | exact ⟨hx.c0, hx.c1, hx.c2⟩ | exact ⟨(hx.next hb2).c0, (hx.next hb2).c1, (hx.next hb2).c2⟩ | exact ⟨((hx.next hb2).next hb3).c0, ((hx.next hb2).next hb3).c1, ((hx.next hb2).next hb3).c2⟩)
    (first | (go_at_call 56
              refine (right_yes d r s _ h).mono ?_
              rintro e w2 ⟨rfl, hb2⟩)
           | (go_at_call 69
              refine (placesS_any d r s _ h.d1 h.d2 h.r1 h.r2).mono ?_
              rintro e w3 ⟨rfl, hb3⟩))
  have hB := (bel_box _ (by simp) hb2).trans (hb3.mono (Nat.le_of_lt (hx.next hb2).lt))
  go_wp2_with (fail)
  have x3 := ((hx.next hb2).next hb3).drew
  have w3 := W3.out
  have w4 := W4.out
  have w5 := W5.out
  have w6 := W6.out
  go_region_held3 (fun w' => w'.cell? ⟨w.heap.size, 0, none⟩ = some (.int .i64 d) ∧ w'.cell? ⟨w.heap.size, 1, none⟩ = some (.int .i64 r) ∧ w'.cell? ⟨w.heap.size, 2, none⟩ = some (.int .i64 s))
    (first | go_keep | exact ⟨x3.c0, x3.c1, x3.c2⟩ | exact ⟨(x3.next hb4).c0, (x3.next hb4).c1, (x3.next hb4).c2⟩ | exact ⟨((x3.next hb4).next hb5).c0, ((x3.next hb4).next hb5).c1, ((x3.next hb4).next hb5).c2⟩)
    (first | (go_at_call 69
              have _ := hb4
              refine (placesS_any d r s _ h.d1 h.d2 h.r1 h.r2).mono ?_
              rintro e w5 ⟨rfl, hb5⟩)
           | (go_at_call 69
              refine (placesS_any d r s _ h.d1 h.d2 h.r1 h.r2).mono ?_
              rintro e w4 ⟨rfl, hb4⟩))
  have hC := hB.drew.trans (((hb4.mono (Nat.le_of_lt x3.lt))).trans (hb5.mono (Nat.le_of_lt (x3.next hb4).lt)))
  go_wp2_with (fail)
  go_ret3
  exact ⟨rfl, hC⟩


/-- A record's pointers; its own ones alone. -/
def ptsR (f : Nat → Int) : Nat → Int := fun i => f (3 + i)
def p16 (f : Nat → Int) : Nat → Int := fun i => if i < 16 then f (3 + i) else 0
theorem p16_upd (f : Nat → Int) : ∀ i, i < 18 → upd (upd (p16 f) 16 (f 19)) 17 (f 20) i = ptsR f i := fun i hi => by
  unfold upd p16 ptsR
  by_cases h1 : i = 17
  · subst h1; rfl
  · by_cases h2 : i = 16
    · subst h2; rfl
    · rw [if_neg h1, if_neg h2, if_pos (by omega)]
theorem run_copyP (w : World) (ty : TypeId) (g s c d : Nat) (f : Nat → Int) (hg : Pcb w g noR) (hs : Rcb w s f) :
    (Builtin.copy_ #[25, 25] ty #[.slice (some ⟨g, 0, none⟩) 18 d, .slice (some ⟨s, 3, none⟩) 16 c]).run Try.prog w = .ok (goInt 16) (w.setRow g (pcs (p16 f))) := by
  have := run_copy_row (P := Try.prog) w 25 25 ty 3 g 0 18 d ⟨s, 3, none⟩ 16 c (pcs noR) 186 ((List.range 16).map fun i => Value.int .i64 (f (3 + i))) Try.underlying25 (by kernel_rfl) hg.row rfl ?_ (by simp [pcs]) ?_
  · rw [this]
    rfl
  · intro j v hj
    have hj16 : j < 16 := by
      rcases Nat.lt_or_ge j 16 with h | h
      · exact h
      · rw [List.getElem?_eq_none (by simp; omega)] at hj; cases hj
    have hv : v = .int .i64 (f (3 + j)) := by
      rw [List.getElem?_map, List.getElem?_range hj16] at hj
      simpa using hj.symm
    rw [hv, show (⟨s, 3, none⟩ : Addr).add j = ⟨s, 3 + j, none⟩ by unfold Addr.add; split <;> simp_all]
    exact hs.cell (by omega)
  · intro v hv
    obtain ⟨i, _, rfl⟩ := List.mem_map.1 hv
    rfl
theorem step_copyP {ops : Array Oper} {o : Oper} {a : Act} {w : World} {K : Act → World → Prop} {Q : Exit → Act → World → Prop} {E : Prop} (hgd : o.guard = none) (d s : Operand)
    (ho : o.op = .call { callee := .builtin .copy, args := #[d, s], argTypes := #[25, 25] }) (g p c e : Nat) (hd : a.eval d = .slice (some ⟨g, 0, none⟩) 18 e) (hs : a.eval s = .slice (some ⟨p, 3, none⟩) 16 c)
    (f : Nat → Int) (hg : Pcb w g noR) (hp : Rcb w p f) (h : K (a.put o.dst (goInt 16)) (w.setRow g (pcs (p16 f)))) :
    if Region.wanted o (yielded ops a.tmps) = true then Oper.wp Try.prog o a w K Q else E := by
  have hw : Region.wanted o (yielded ops a.tmps) = true := by simp [Region.wanted, hgd]
  rw [if_pos hw]
  have hrun := run_copyP w o.type g p c e f hg hp
  unfold Oper.wp
  simp [execOp, ho, resolve, invoke, builtin, hd, hs, hrun, Result.andThen]
  exact h
theorem pointers_any (f : Nat → Int) (w : World) : Calls Try.prog 127 #[rcv f] w fun e w' => e = .returned (pcv (ptsR f)) ∧ Below w.heap.size w w' := by
  go_enter Try.func127, Try.ntmps127
  go_wp2_with (fail)
  obtain ⟨wa, hwa⟩ : ∃ wa, wa = (((w.alloc (.cells (rcs f) 104)).alloc (.cells #[.int .i64 0, .int .i64 0, .int .i64 0, .int .i64 0, .int .i64 0, .int .i64 0, .int .i64 0, .int .i64 0, .int .i64 0, .int .i64 0, .int .i64 0, .int .i64 0, .int .i64 0, .int .i64 0, .int .i64 0, .int .i64 0, .int .i64 0, .int .i64 0] 186)).alloc (.cells #[.int .i64 0, .int .i64 0, .int .i64 0, .int .i64 0, .int .i64 0, .int .i64 0, .int .i64 0, .int .i64 0, .int .i64 0, .int .i64 0, .int .i64 0, .int .i64 0, .int .i64 0, .int .i64 0, .int .i64 0, .int .i64 0, .int .i64 0, .int .i64 0] 186)) := ⟨_, rfl⟩
  have hR : Rcb wa w.heap.size f := by rw [hwa]; exact ((Rcb.mk' w f).alloc _).alloc _
  have hP1 : Pcb wa (w.heap.size + 1) noR := by
    rw [hwa]
    have := (Pcb.mk' (w.alloc (.cells (rcs f) 104)) noR).alloc (.cells (pcs noR) 186)
    rw [show (w.alloc (.cells (rcs f) 104)).heap.size = w.heap.size + 1 by simp] at this
    exact this
  have hP2 : Pcb wa (w.heap.size + 1 + 1) noR := by
    rw [hwa]
    have := Pcb.mk' ((w.alloc (.cells (rcs f) 104)).alloc (.cells (pcs noR) 186)) noR
    rw [show ((w.alloc (.cells (rcs f) 104)).alloc (.cells (pcs noR) 186)).heap.size = w.heap.size + 1 + 1 by simp] at this
    exact this
  have hB : Below w.heap.size w wa := by rw [hwa]; exact (((Below.refl _ _).alloc (Nat.le_refl _) _).alloc (by simp) _).alloc (by simp; omega) _
  rw [← hwa]
  have HR := Lib.hid hR
  have HP1 := Lib.hid hP1
  have HP2 := Lib.hid hP2
  have HB := Lib.hid hB
  clear hwa hR hP1 hP2 hB
  go_region_law (refine step_copyP rfl (.tmp 4) (.tmp 6) rfl (w.heap.size + 1 + 1) w.heap.size 16 18 (by simp [Act.eval, Act.put]) (by simp [Act.eval, Act.put]) f HP2.out.drew HR.out.drew ?_)
  obtain ⟨wb, hwb⟩ : ∃ wb, wb = wa.drew.setRow (w.heap.size + 1 + 1) (pcs (p16 f)) := ⟨_, rfl⟩
  have hR2 : Rcb wb w.heap.size f := by rw [hwb]; exact HR.out.drew.setRow (by omega) _
  have hP3 : Pcb wb (w.heap.size + 1) noR := by rw [hwb]; exact HP1.out.drew.setRow (by omega) _
  have hP4 : Pcb wb (w.heap.size + 1 + 1) (p16 f) := by rw [hwb]; exact HP2.out.drew.putRow _
  have hB2 : Below w.heap.size w wb := by rw [hwb]; exact setRow_below (below_drewN HB.out 1) (by omega) _
  rw [← hwb]
  clear HR HP1 HP2 HB hwb
  have y4 := hR2.cell (i := 19) (by omega)
  have y5 := hR2.cell (i := 20) (by omega)
  have lt2 := hP4.lt
  have z16 := hP4.cell (i := 16) (by omega)
  have z17 := hP4.cell (i := 17) (by omega)
  have f16 := hP4.free 16
  have f17 := hP4.free 17
  have HR2 := Lib.hid hR2
  have HP3 := Lib.hid hP3
  have HP4 := Lib.hid hP4
  have HB2 := Lib.hid hB2
  clear hR2 hP3 hP4 hB2
  go_upto_region 4 with fail
  obtain ⟨wc, hwc⟩ : ∃ wc, wc = (wb.setCell ⟨w.heap.size + 1 + 1, 16, none⟩ (.int .i64 (f 19))).setCell ⟨w.heap.size + 1 + 1, 17, none⟩ (.int .i64 (f 20)) := ⟨_, rfl⟩
  have hP5 : Pcb wc (w.heap.size + 1 + 1) (ptsR f) := by
    rw [hwc]
    have := (HP4.out.set 16 (f 19)).set 17 (f 20)
    exact ⟨by rw [this.row, pcs_congr (p16_upd f)]⟩
  have hP6 : Pcb wc (w.heap.size + 1) noR := by rw [hwc]; exact (HP3.out.setCell (by omega) _ _).setCell (by omega) _ _
  have hB3 : Below w.heap.size w wc := by rw [hwc]; exact (HB2.out.setCell (by show w.heap.size ≤ w.heap.size + 1 + 1; omega) _).setCell (by show w.heap.size ≤ w.heap.size + 1 + 1; omega) _
  rw [← hwc]
  clear hwc y4 y5 lt2 z16 z17 f16 f17 HR2 HP3 HP4 HB2
  have HB3 := Lib.hid hB3
  have HP5 := Lib.hid hP5
  have HP6 := Lib.hid hP6
  clear hP5 hP6 hB3
  go_wp2_with (first
    | (refine wpList_ldP (by rfl) (.tmp 3) rfl (w.heap.size + 1 + 1) rfl (ptsR f) HP5.out ?_)
    | (refine wpList_stP (by rfl) (.tmp 2) (.tmp 14) rfl (w.heap.size + 1) rfl (ptsR f) rfl noR HP6.out ?_; intro wd hP7 hO7 hB7))
  refine bodyPost_ret (v := pcv (ptsR f)) ?_ rfl ?_
  · exact res_c1 rfl _ _ ⟨w.heap.size + 1, 0, none⟩ _ rfl (Pcb.load hP7)
  · exact ⟨rfl, hB7 _ _ (by omega) HB3.out⟩

theorem run_idx (g : Nat → Int) {k : Nat} (h : k < 18) (w : World) : (Instr.index 186 (pcv g) (.int .i64 (k : Int))).run Try.prog w = .ok (.int .i64 (g k)) w := by
  rcases (by omega : k = 0 ∨ k = 1 ∨ k = 2 ∨ k = 3 ∨ k = 4 ∨ k = 5 ∨ k = 6 ∨ k = 7 ∨ k = 8 ∨ k = 9 ∨ k = 10 ∨ k = 11 ∨ k = 12 ∨ k = 13 ∨ k = 14 ∨ k = 15 ∨ k = 16 ∨ k = 17) with rfl | rfl | rfl | rfl | rfl | rfl | rfl | rfl | rfl | rfl | rfl | rfl | rfl | rfl | rfl | rfl | rfl | rfl <;> kernel_rfl
theorem pwithin_any (f : Nat → Int) (w : World) : Calls Try.prog 165 #[rcv f] w fun e w' => e = .returned (.bool (pwO f)) ∧ Below w.heap.size w w' := by
  obtain ⟨P, hP⟩ : ∃ P, P = pwO f := ⟨_, rfl⟩
  rw [← hP]
  have HP := Lib.hid hP
  clear hP
  obtain ⟨wa, hwa⟩ : ∃ wa, wa = w.alloc (.cells (rcs f) 104) := ⟨_, rfl⟩
  have hR : Rcb wa w.heap.size f := by rw [hwa]; exact Rcb.mk' w f
  have hB : Below w.heap.size w wa := by rw [hwa]; exact (Below.refl _ _).alloc (Nat.le_refl _) _
  have y2 := hR.cell (i := 2) (by omega)
  obtain ⟨s, hs⟩ : ∃ s, s = f 2 := ⟨_, rfl⟩
  rw [← hs] at y2
  have hbk := blocks_any s wa
  obtain ⟨nb, hnb⟩ : ∃ nb, nb = blkN s := ⟨_, rfl⟩
  rw [← hnb] at hbk
  have hpt := pointers_any f wa
  obtain ⟨g, hg⟩ : ∃ g, g = ptsR f := ⟨_, rfl⟩
  rw [← hg] at hpt
  have HG := Lib.hid hg
  have HS := Lib.hid hs
  have HN := Lib.hid hnb
  have HR := Lib.hid hR
  have HB := Lib.hid hB
  clear hg hs hnb hR hB
  go_enter Try.func165, Try.ntmps165
  go_upto_region 1 with fail
  rw [← hwa]
  clear hwa
  go_wp2_with (fail)
  refine hbk.mono ?_
  rintro e w2 ⟨rfl, rfl⟩
  go_wp2_with (refine wpList_ldR (by rfl) (.tmp 1) rfl w.heap.size rfl f HR.out ?_)
  refine hpt.mono ?_
  rintro e wb ⟨rfl, hb⟩
  have HB2 := Lib.hid (HB.out.trans (hb.mono HB.out.size))
  clear hb hpt hbk y2
  go_wp2_with (fail)
  go_loop [4, 5, 11] (fun _p _q v => ∃ k : Nat, k ≤ 18 ∧ v = .int .i64 k ∧ ∀ i, i < k → atO f i = true) (fun _ _ v => 18 - (RowKit.intOf v).toNat)
  case atStart => exact ⟨0, by omega, rfl, fun i hi => by omega⟩
  case round =>
    obtain ⟨k, hk, rfl, hI⟩ := hrel
    have HI := Lib.hid hI
    clear hI
    by_cases hlt : k < 18
    · obtain ⟨p, hp⟩ : ∃ p, p = g k := ⟨_, rfl⟩
      have hix := run_idx g hlt
      rw [← hp] at hix
      have hn := noPtr_any p wb
      have hf := firstTold_any k hlt wb
      obtain ⟨t, ht⟩ : ∃ t, t = ftI k := ⟨_, rfl⟩
      rw [← ht] at hf
      have hat : atO f k = (ptO p && (decide (p = 0) || decide (t < nb))) := by
        rw [hp, HG.out, ht, HN.out, HS.out]; rfl
      have HA := Lib.hid hat
      clear hat ht hp
      cases hpo : ptO p with
      | false =>
        rw [hpo] at hn
        go_wp2_with (fail)
        refine hn.mono ?_
        rintro e w2 ⟨rfl, rfl⟩
        go_wp2_with (fail)
        go_ret
        refine ⟨?_, HB2.out⟩
        have e : pwO f = false := by
          cases hh : pwO f with
          | false => rfl
          | true => have := pwO_iff.1 hh k hlt; rw [HA.out, hpo] at this; cases this
        rw [HP.out, e]
        rfl
      | true =>
        rw [hpo] at hn
        by_cases h0 : p = 0
        · have d0 : (p != 0) = false := by simp [h0]
          have hok : atO f k = true := by rw [HA.out, hpo, decide_eq_true h0]; rfl
          have HO := Lib.hid hok
          clear h0 hok
          go_wp2_with (fail)
          refine hn.mono ?_
          rintro e w2 ⟨rfl, rfl⟩
          go_wp2_with (fail)
          go_round
          case rel => exact ⟨k + 1, by omega, by go_num, fun i hi => by
            by_cases hik : i = k
            · rw [hik, HO.out]
            · exact HI.out i (by omega)⟩
          case measure => simp [RowKit.intOf]; omega
        · have d0 : (p != 0) = true := by simp [h0]
          by_cases h1 : nb ≤ t
          · have hno : atO f k = false := by rw [HA.out, hpo, decide_eq_false h0, decide_eq_false (by omega)]; rfl
            have HO := Lib.hid hno
            clear h0 hno
            go_wp2_with (fail)
            refine hn.mono ?_
            rintro e w2 ⟨rfl, rfl⟩
            go_wp2_with (fail)
            refine hf.mono ?_
            rintro e w2 ⟨rfl, rfl⟩
            go_wp2_with (fail)
            go_ret
            refine ⟨?_, HB2.out⟩
            have e : pwO f = false := by
              cases hh : pwO f with
              | false => rfl
              | true => have := pwO_iff.1 hh k hlt; rw [HO.out] at this; cases this
            rw [HP.out, e]
            rfl
          · have hok : atO f k = true := by rw [HA.out, hpo, decide_eq_false h0, decide_eq_true (by omega)]; rfl
            have HO := Lib.hid hok
            clear h0 hok
            go_wp2_with (fail)
            refine hn.mono ?_
            rintro e w2 ⟨rfl, rfl⟩
            go_wp2_with (fail)
            refine hf.mono ?_
            rintro e w2 ⟨rfl, rfl⟩
            go_wp2_with (fail)
            go_round
            case rel => exact ⟨k + 1, by omega, by go_num, fun i hi => by
              by_cases hik : i = k
              · rw [hik, HO.out]
              · exact HI.out i (by omega)⟩
            case measure => simp [RowKit.intOf]; omega
    · obtain rfl : k = 18 := by omega
      have e : P = true := by rw [HP.out]; exact pwO_iff.2 HI.out
      go_wp2_with (fail)
      go_ret
      exact ⟨rfl, HB2.out⟩

theorem isRight_any (f : Nat → Int) (w : World) : Calls Try.prog 126 #[rcv f] w fun e w' => e = .returned (.bool (rgO f)) ∧ Below w.heap.size w w' := by
  obtain ⟨P, hP⟩ : ∃ P, P = rgO f := ⟨_, rfl⟩
  rw [← hP]
  obtain ⟨wa, hwa⟩ : ∃ wa, wa = w.alloc (.cells (rcs f) 104) := ⟨_, rfl⟩
  have hR : Rcb wa w.heap.size f := by rw [hwa]; exact Rcb.mk' w f
  have hB : Below w.heap.size w wa := by rw [hwa]; exact (Below.refl _ _).alloc (Nat.le_refl _) _
  have y0 := hR.cell (i := 0) (by omega)
  have y1 := hR.cell (i := 1) (by omega)
  have y2 := hR.cell (i := 2) (by omega)
  obtain ⟨k, hk⟩ : ∃ s, s = f 0 := ⟨_, rfl⟩
  obtain ⟨l, hl⟩ : ∃ s, s = f 1 := ⟨_, rfl⟩
  obtain ⟨s, hs⟩ : ∃ s, s = f 2 := ⟨_, rfl⟩
  rw [← hk] at y0
  rw [← hl] at y1
  rw [← hs] at y2
  have hsz := isSize_any s wa
  obtain ⟨sz, hsz2⟩ : ∃ sz, sz = szO s := ⟨_, rfl⟩
  rw [← hsz2] at hsz
  have hwi := pwithin_any f wa
  obtain ⟨pw, hpw⟩ : ∃ pw, pw = pwO f := ⟨_, rfl⟩
  rw [← hpw] at hwi
  have hrg : P = ((((decide (k = 1) || decide (k = 2)) && decide (1 ≤ l)) && decide (l ≤ 65535)) && sz && pw) := by rw [hP, hk, hl, hsz2, hs, hpw]; rfl
  have HP := Lib.hid hrg
  have HR := Lib.hid hR
  have HB := Lib.hid hB
  have HW := Lib.hid hwa
  clear hP hk hl hs hsz2 hpw hrg hR hB hwa
  by_cases d1 : k = 1
  · have e1 : (k == 1) = true := by simp [d1]
    have HK := Lib.hid (show (decide (k = 1) || decide (k = 2)) = true by simp [d1])
    clear d1
    by_cases h1 : l < 1
    · go_enter Try.func126, Try.ntmps126
      go_upto_region 1 with fail
      rw [← HW.out]
      go_wp2_with (fail)
      go_ret
      exact ⟨ret_bool (by rw [HP.out]; simp [decide_eq_false (show ¬ 1 ≤ l by omega)]), HB.out⟩
    · by_cases h2 : 65535 < l
      · go_enter Try.func126, Try.ntmps126
        go_upto_region 1 with fail
        rw [← HW.out]
        go_wp2_with (fail)
        go_ret
        exact ⟨ret_bool (by rw [HP.out]; simp [decide_eq_false (show ¬ l ≤ 65535 by omega)]), HB.out⟩
      · cases sz with
        | false =>
          go_enter Try.func126, Try.ntmps126
          go_upto_region 1 with fail
          rw [← HW.out]
          go_wp2_with (fail)
          refine hsz.mono ?_
          rintro e w2 ⟨rfl, rfl⟩
          go_wp2_with (fail)
          go_ret
          exact ⟨ret_bool (by rw [HP.out]; simp), HB.out⟩
        | true =>
          go_enter Try.func126, Try.ntmps126
          go_upto_region 1 with fail
          rw [← HW.out]
          go_wp2_with (fail)
          refine hsz.mono ?_
          rintro e w2 ⟨rfl, rfl⟩
          go_wp2_with (refine wpList_ldR (by rfl) (.tmp 1) rfl w.heap.size rfl f HR.out ?_)
          refine hwi.mono ?_
          rintro e wb ⟨rfl, hb⟩
          have HB2 := Lib.hid (HB.out.trans (hb.mono HB.out.size))
          clear hb hwi
          go_wp2_with (fail)
          go_ret
          exact ⟨ret_bool (by rw [HP.out]; simp [HK.out, decide_eq_true (show 1 ≤ l by omega), decide_eq_true (show l ≤ 65535 by omega)]), HB2.out⟩
  · by_cases d2 : k = 2
    · have e1 : (k == 1) = false := by simp [d1]
      have e2 : (k == 2) = true := by simp [d2]
      have HK := Lib.hid (show (decide (k = 1) || decide (k = 2)) = true by simp [d2])
      clear d1 d2
      by_cases h1 : l < 1
      · go_enter Try.func126, Try.ntmps126
        go_upto_region 1 with fail
        rw [← HW.out]
        go_wp2_with (fail)
        go_ret
        exact ⟨ret_bool (by rw [HP.out]; simp [decide_eq_false (show ¬ 1 ≤ l by omega)]), HB.out⟩
      · by_cases h2 : 65535 < l
        · go_enter Try.func126, Try.ntmps126
          go_upto_region 1 with fail
          rw [← HW.out]
          go_wp2_with (fail)
          go_ret
          exact ⟨ret_bool (by rw [HP.out]; simp [decide_eq_false (show ¬ l ≤ 65535 by omega)]), HB.out⟩
        · cases sz with
          | false =>
            go_enter Try.func126, Try.ntmps126
            go_upto_region 1 with fail
            rw [← HW.out]
            go_wp2_with (fail)
            refine hsz.mono ?_
            rintro e w2 ⟨rfl, rfl⟩
            go_wp2_with (fail)
            go_ret
            exact ⟨ret_bool (by rw [HP.out]; simp), HB.out⟩
          | true =>
            go_enter Try.func126, Try.ntmps126
            go_upto_region 1 with fail
            rw [← HW.out]
            go_wp2_with (fail)
            refine hsz.mono ?_
            rintro e w2 ⟨rfl, rfl⟩
            go_wp2_with (refine wpList_ldR (by rfl) (.tmp 1) rfl w.heap.size rfl f HR.out ?_)
            refine hwi.mono ?_
            rintro e wb ⟨rfl, hb⟩
            have HB2 := Lib.hid (HB.out.trans (hb.mono HB.out.size))
            clear hb hwi
            go_wp2_with (fail)
            go_ret
            exact ⟨ret_bool (by rw [HP.out]; simp [HK.out, decide_eq_true (show 1 ≤ l by omega), decide_eq_true (show l ≤ 65535 by omega)]), HB2.out⟩
    · have e1 : (k == 1) = false := by simp [d1]
      have e2 : (k == 2) = false := by simp [d2]
      have HK := Lib.hid (show (decide (k = 1) || decide (k = 2)) = false by simp [d1, d2])
      clear d1 d2
      go_enter Try.func126, Try.ntmps126
      go_upto_region 1 with fail
      rw [← HW.out]
      go_wp2_with (fail)
      go_ret
      exact ⟨ret_bool (by rw [HP.out, HK.out]; rfl), HB.out⟩

theorem byte_inj {a b : Int} (ha : 0 ≤ a ∧ a ≤ 255) (hb : 0 ≤ b ∧ b ≤ 255) (h : UInt8.ofNat a.toNat = UInt8.ofNat b.toNat) : a = b := by
  have := congrArg UInt8.toNat h
  simp at this
  omega
theorem bytes_inj : ∀ {x y : List Int}, AllB x → AllB y → (x.map fun n => UInt8.ofNat n.toNat) = (y.map fun n => UInt8.ofNat n.toNat) → x = y
  | [], [], _, _, _ => rfl
  | [], _ :: _, _, _, h => by simp at h
  | _ :: _, [], _, _, h => by simp at h
  | a :: x, b :: y, hx, hy, h => by
    simp only [List.map_cons, List.cons.injEq] at h
    rw [byte_inj (hx a List.mem_cons_self) (hy b List.mem_cons_self) h.1, bytes_inj (fun z hz => hx z (List.mem_cons_of_mem _ hz)) (fun z hz => hy z (List.mem_cons_of_mem _ hz)) h.2]
theorem str_same {x y : List Int} (hx : AllB x) (hy : AllB y) : ((strOfNums x).toList == (strOfNums y).toList) = sameB x y := by
  rw [Lib.strOfNums_toList, Lib.strOfNums_toList]
  by_cases h : x = y
  · rw [h, sameB_true rfl, beq_self_eq_true]
  · rw [sameB_false h, beq_eq_false_iff_ne]
    exact fun e => h (bytes_inj hx hy e)
theorem bys_conv {w : World} {a : Option Addr} {n : Nat} {x : List Int} (h : Bys w a n x) (c : Nat) : (convert 50 9 (.slice a n c)).run Try.prog w = .ok (.string (strOfNums x)) w := by
  rcases h.place with h0 | ⟨b, off, rfl, _, hc⟩
  · subst h0
    obtain rfl : x = [] := List.eq_nil_of_length_eq_zero h.len
    cases a with
    | none => exact run_convert_bytes_nil (P := Try.prog) w 50 5 Try.underlying50 Try.underlying5 0 c 9 Try.underlying9
    | some p =>
      rw [run_convert_bytes_string w 50 9 5 (some p) 0 c Try.underlying50 Try.underlying5 Try.underlying9, run_bytesToString w p 0 c [] (run_loadCells_list (P := Try.prog) w p [] (fun j v h => by cases h))]
      rfl
  · exact run_convert_bytes_arg (P := Try.prog) w 50 5 Try.underlying50 Try.underlying5 b off n c x h.len hc 9 Try.underlying9

theorem equal_any (a b : Option Addr) (n c m d : Nat) (x y : List Int) (w : World) (hx : Bys w a n x) (hy : Bys w b m y) :
    Calls Try.prog 136 #[.slice a n c, .slice b m d] w fun e w' => e = .returned (.bool (sameB x y)) ∧ w = w' := by
  have h1 := bys_conv hx c
  have h2 := bys_conv hy d
  rw [← str_same hx.small hy.small]
  clear hx hy
  go_enter Try.func136, Try.ntmps136
  go_wp2
  go_ret
  exact ⟨rfl, rfl⟩

/-- Room for n bytes. -/
def GrowPost (w : World) (e : Ending) (w' : World) : Prop := ∃ v, e = .returned v ∧ Own w' w.heap.size v 0 [] ∧ Below w.heap.size w w'
theorem grow_any (n : Nat) (w : World) (hn : n ≤ 1000000000000) : Calls Try.prog 166 #[.slice none 0 0, .int .i64 n] w (GrowPost w) := by
  by_cases h0 : n = 0
  · subst h0
    refine (Any8.slices_Grow_room growA none 0 0 0 w (Nat.le_refl _) (by omega) (by omega) (by omega)).mono fun e w' ⟨he, hw⟩ => ?_
    subst he hw
    exact ⟨_, rfl, ⟨World.ownsRow_nil _ _ _ _, fun z hz => by cases hz⟩, Below.refl _ _⟩
  · obtain ⟨i0, hi, hz0, hz1, hz2⟩ := info_parts info8
    refine (Any8.slices_Grow_grow growA i0 (.int .u8 0) hi hz0 (by rw [hz1]; omega) none 0 0 n [] w (Nat.le_refl _) (by omega) (by rw [hz2]; omega) (by omega) (by simp) (fun _ => rfl) (fun a h => by cases h)).mono fun e w' ⟨he, hw⟩ => ?_
    subst he hw
    refine ⟨_, rfl, ⟨World.ownsRow_made w.drew _ _ (Nat.le_refl _) ?_ ?_, fun z hz => by cases hz⟩, ?_⟩
    · exact grownCap_le_maxLen w (0 + n) 0 5 (by unfold maxLen; omega)
    · have h1 : n ≤ grownCap w (0 + n) 0 5 := by have := grownCap_ge w (0 + n) 0 5; omega
      simp only [Array.size_append, List.size_toArray, size_zeroCells, List.length_nil]
      show 0 + (0 + n - 0) * 1 + (grownCap w (0 + n) 0 5 - (0 + n)) * 1 = grownCap w (0 + n) 0 5 * 1
      omega
    · exact (below_drewN (Below.refl _ _) 1).alloc (Nat.le_refl _) _


/-- The counting loop's relation. -/
def ConRel (f : Nat → Pc) (n : Nat) (u v : Value) : Prop := ∃ k s : Nat, k ≤ n ∧ s = (catL f k).length ∧ v = .int .i64 k ∧ u = .int .i64 s
/-- The gathering loop's relation. -/
def ConRel2 (w0 : World) (f : Nat → Pc) (n : Nat) (u v : Value) (w : World) : Prop :=
  ∃ k s : Nat, k ≤ n ∧ s = (catL f k).length ∧ v = .int .i64 k ∧ Own w w0.heap.size u s (catL f k) ∧ Below w0.heap.size w0 w

theorem concat_any (a : Option Addr) (n c : Nat) (f : Nat → Pc) (w : World) (h : Rws w a n f) (hn : n ≤ 1000000000000) (ht : (catL f n).length ≤ 1000000000000) :
    Calls Try.prog 128 #[.slice a n c] w (ConPost w (catL f n)) := by
  have HT := Lib.hid ht
  clear ht
  go_enter Try.func128, Try.ntmps128
  go_wp2
  go_loop [3, 5, 11] (fun u _p v => ConRel f n u v) (fun _ _ v => n - (RowKit.intOf v).toNat)
  case atStart => exact ⟨0, 0, by omega, rfl, rfl, rfl⟩
  case round =>
    obtain ⟨k, s, hk, hs, rfl, rfl⟩ := hrel
    have hsl : s ≤ 1000000000000 := by have := catL_le f hk; have := HT.out; omega
    have HS := Lib.hid hs
    clear hs
    by_cases hlt : k < n
    · obtain ⟨b, off, x, m, d, zs, rfl, hb, hc, hp, hz, hm⟩ := h.at hlt
      have hl1 : (catL f (k + 1)).length = s + m := by rw [catL_len, hz, hp.len, ← HS.out]
      have hl2 := catL_le f (k := k + 1) (n := n) hlt
      have ht' := HT.out
      have hms : s + m ≤ 1000000000000 := by omega
      have HL := Lib.hid hl1
      clear h hp hz hm hl1 hl2 ht'
      go_wp2
      go_round
      case rel => exact ⟨k + 1, s + m, by omega, HL.out.symm, by go_num, by go_num⟩
      case measure => simp [RowKit.intOf]; omega
    · obtain rfl : k = n := by omega
      go_wp2_with (fail)
      refine (grow_any s w (by omega)).mono ?_
      rintro e w1 ⟨v0, rfl, ho1, hb1⟩
      go_wp2_with (fail)
      go_loopw [6, 8, 27] (fun u _p v wr => ConRel2 w f k u v wr) (fun _ _ v _ => k - (RowKit.intOf v).toNat)
      case atStart => exact ⟨0, 0, by omega, rfl, rfl, ho1, hb1⟩
      case round =>
        obtain ⟨j, s2, hj, hs2, rfl, ho, hbl⟩ := hrel
        have HS2 := Lib.hid hs2
        clear hs2 ho1
        by_cases hlt2 : j < k
        · obtain ⟨b, off, x, m, d, zs, rfl, hb, hc, hp, hz, hm⟩ := (h.next hbl).at hlt2
          have hl1 : (catL f (j + 1)).length = s2 + m := by rw [catL_len, hz, hp.len, ← HS2.out]
          have hl2 := catL_le f (k := j + 1) (n := k) hlt2
          have ht' := HT.out
          have hms : s2 + m ≤ 1000000000000 := by omega
          have HC := Lib.hid (show catL f (j + 1) = catL f j ++ zs by rw [← hz]; rfl)
          have hx := hp.bys
          have hn0 := hp.nil
          have hsz := hbl.size
          have HL := Lib.hid hl1
          clear h hp hz hm hl1 hl2 ht' hb1
          go_wp2_with (at_builtin; go_must (refine wpList_ap rfl (.tmp 31) (.tmp 32) rfl w.heap.size _ s2 _ rfl ho x m d zs rfl hx hn0 (by omega) hsz w hbl ?_); intro v1 w2 hown2 hb2)
          go_roundw
          case rel => exact ⟨j + 1, s2 + m, by omega, HL.out.symm, by go_num, by rw [HC.out]; exact hown2, hb2⟩
          case measure => simp [RowKit.intOf]; omega
        · obtain rfl : j = k := by omega
          clear h hb1
          go_wp2_with (fail)
          go_ret
          exact ⟨_, rfl, by rw [← HS2.out]; exact ho, hbl⟩


theorem ptrBytes_any (a : Option Addr) (n c : Nat) (ks : List Int) (w : World) (h : Ins w a n ks) (hp : ∀ i, i < n → 0 ≤ num ks i ∧ num ks i ≤ 65535) (hn : n ≤ 1000000) :
    Calls Try.prog 129 #[.slice a n c] w fun e w' => ∃ v, e = .returned v ∧ Own w' w.heap.size v (2 * n) (ptsL (num ks) n) ∧ Below w.heap.size w w' := by
  have HP := Lib.hid hp
  have HI := Lib.hid h
  clear hp h
  go_enter Try.func129, Try.ntmps129
  go_wp2_with (fail)
  go_loopw [3, 5, 8] (fun u _p v wr => ∃ k : Nat, k ≤ n ∧ v = .int .i64 k ∧ Own wr w.heap.size u (2 * k) (ptsL (num ks) k) ∧ Below w.heap.size w wr) (fun _ _ v _ => n - (RowKit.intOf v).toNat)
  case atStart => exact ⟨0, by omega, rfl, ⟨World.ownsRow_nil _ _ _ _, fun z hz => by cases hz⟩, Below.refl _ _⟩
  case round =>
    obtain ⟨k, hk, rfl, hO, hB⟩ := hrel
    have HO := Lib.hid hO
    have HB := Lib.hid hB
    clear hO hB
    by_cases hlt : k < n
    · obtain ⟨b, off, rfl, hbl, hc⟩ := (HI.out.next HB.out).at (by omega : 0 < n)
      have hc1 := hc k hlt
      obtain ⟨z, hz⟩ : ∃ z, z = num ks k := ⟨_, rfl⟩
      rw [← hz] at hc1
      have hpt := HP.out k hlt
      rw [← hz] at hpt
      have hput := put_yes 2 z wr (by omega) (by omega) (hasW2_of hpt)
      have HZ := Lib.hid hz
      clear hc hz hpt
      go_wp2_with (fail)
      refine hput.mono ?_
      rintro e w2 ⟨rfl, hb2, hl2⟩
      have ho2 := HO.out.below (Nat.le_refl _) hl2
      have hy2 := hb2.bysn (digs_small _ _) (digs_len 2 z)
      have hs2 : w.heap.size ≤ w2.heap.size := Nat.le_trans HB.out.size hl2.size
      have hm2 := HB.out.trans (hl2.mono HB.out.size)
      clear hl2 hb2 hput
      go_wp2_with (at_builtin; go_must (refine wpList_ap rfl (.tmp 12) (.tmp 14) rfl w.heap.size _ (2 * k) _ rfl ho2 (some ⟨wr.heap.size, 0, none⟩) 2 2 _ rfl hy2 (fun h => by cases h) (by omega) hs2 w hm2 ?_); intro v1 w1 o1 b1; have HO1 := Lib.hid o1; have HB1 := Lib.hid b1; clear o1 b1 ho2 hy2 hs2 hm2)
      go_roundw
      case rel => exact ⟨k + 1, by omega, by go_num, by rw [ptsL, ← HZ.out]; exact HO1.out, HB1.out⟩
      case measure => simp [RowKit.intOf]; omega
    · obtain rfl : k = n := by omega
      go_wp2_with (fail)
      go_ret
      exact ⟨_, rfl, HO.out, HB.out⟩
end Go.Proofs.Ytegcjpocdfmpfaa
