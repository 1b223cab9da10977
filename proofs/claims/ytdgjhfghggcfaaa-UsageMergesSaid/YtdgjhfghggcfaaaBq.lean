/-
  Blocks of one-cell values that a call made itself: reading, storing, making.
-/
import Derived.Test.YtdgjhfghggcfaaaRu2
namespace Go.Proofs.Ytdgjhfghggcfaaa
open Go.RowKit
set_option linter.unusedVariables false

/-- Block g holds just these values. -/
structure Blq (w : World) (g : Nat) (ty : TypeId) (vs : List Value) : Prop where
  row : w.heap[g]? = some (.cells vs.toArray ty (0, 0))
theorem Blq.lt {w : World} {g : Nat} {ty : TypeId} {vs : List Value} (h : Blq w g ty vs) : g < w.heap.size := lt_of_block h.row
theorem Blq.cell {w : World} {g : Nat} {ty : TypeId} {vs : List Value} (h : Blq w g ty vs) {i : Nat} {v : Value} (hi : vs[i]? = some v) : w.cell? ⟨g, i, none⟩ = some v := by
  rw [cell_of_row w g i _ _ (0, 0) h.row]
  simpa using hi
theorem Blq.free {w : World} {g : Nat} {ty : TypeId} {vs : List Value} (h : Blq w g ty vs) (i : Nat) : w.frozen? ⟨g, i, none⟩ = false := frozen_of_row w g i _ _ h.row
theorem Blq.set {w : World} {g : Nat} {ty : TypeId} {vs : List Value} (h : Blq w g ty vs) (i : Nat) (v : Value) : Blq (w.setCell ⟨g, i, none⟩ v) g ty (vs.set i v) := by
  refine ⟨?_⟩
  rw [heap_setCell_same w g i _ _ _ h.row]
  congr 2
  apply Array.ext'
  simp
theorem Blq.below {w w' : World} {g : Nat} {ty : TypeId} {vs : List Value} (h : Blq w g ty vs) {B : Nat} (hB : g < B) (hb : Below B w w') : Blq w' g ty vs := ⟨(hb.block g hB).trans h.row⟩
theorem Blq.drewN {w : World} {g : Nat} {ty : TypeId} {vs : List Value} (h : Blq w g ty vs) (q : Nat) : Blq (w.drewN q) g ty vs := ⟨h.row⟩
theorem Blq.ins {w : World} {g : Nat} {ks : List Int} (h : Blq w g 3 (ks.map (Value.int .i64))) : Ins w (some ⟨g, 0, none⟩) ks.length ks :=
  ⟨rfl, .inr ⟨g, 0, rfl, h.lt, fun i hi => by
    rw [Nat.zero_add]
    refine h.cell ?_
    simp [num, List.getD, hi]⟩⟩
theorem below_setq {w w' : World} {B g : Nat} (h : Below B w w') (hg : B ≤ g) (i : Nat) (v : Value) : Below B w (w'.setCell ⟨g, i, none⟩ v) := h.setCell (by show B ≤ g; exact hg) v

theorem infob : (Try.prog.info? 4).map (fun i => (i.zero, i.size, i.bytes)) = some (some (.bool false), 1, 1) := by kernel_rfl
set_option maxRecDepth 100000 in
/-- 'make([]int, n)': a new block of n noughts. -/
theorem wpList_mki {w : World} {ops : Array Oper} {rest : List Oper} {o : Oper} {a : Act} {Q : Exit → Act → World → Prop}
    (hg : o.guard = none) (l c : Operand) (hop : o.op = Op.makeSlice 24 l c) (n : Nat) (hl : a.eval l = .int .i64 (n : Int)) (hc : a.eval c = .int .i64 (n : Int)) (b2 : n ≤ 1000000)
    (hK : ∀ w', Blq w' w.heap.size 3 (List.replicate n (.int .i64 0)) → Below w.heap.size w w' → wpList Try.prog ops Q rest (a.put o.dst (.slice (some ⟨w.heap.size, 0, none⟩) n n)) w') :
    wpList Try.prog ops Q (o :: rest) a w := by
  obtain ⟨i0, hi, hz0, hz1, hz2⟩ := info_parts info3
  refine wpList_make_full w hg l c 24 hop w.heap.size 3 i0 (.int .i64 0) 1 Try.underlying24 hi hz0 hz1 .i64 .i64 (n : Int) (n : Int) n hl hc rfl rfl (by rw [hz2]; omega) (by unfold maxLen; omega) (Nat.le_refl _) fun w' hown hgrow => hK w' ⟨?_⟩ ((Below.refl _ _).grown hgrow (Nat.le_refl _) (fun k h => by cases h))
  rcases hown.2 with ⟨h', _⟩ | ⟨g, cap, cur, h', _, hh, _, _, hsz, htake⟩
  · simp at h'
  · simp only [Value.slice.injEq, Option.some.injEq, Addr.mk.injEq, and_true, true_and] at h'
    obtain ⟨rfl, rfl⟩ := h'
    rw [hh]
    congr 2
    apply Array.ext'
    rw [List.take_of_length_le (by rw [Array.length_toList, hsz]; exact Nat.le_refl _)] at htake
    rw [htake, show (Value.int IntKind.i64 0).cells = #[Value.int .i64 0] from rfl, Nat.mul_one, toList_madeCells_one]
set_option maxRecDepth 100000 in
/-- 'make([]bool, n)'. -/
theorem wpList_mkb {w : World} {ops : Array Oper} {rest : List Oper} {o : Oper} {a : Act} {Q : Exit → Act → World → Prop}
    (hg : o.guard = none) (l c : Operand) (hop : o.op = Op.makeSlice 43 l c) (n : Nat) (L C : Int) (hl : a.eval l = .int .i64 L) (hc : a.eval c = .int .i64 C) (hL : L = (n : Int)) (hC : C = (n : Int)) (b2 : n ≤ 1000000)
    (hK : ∀ w', Blq w' w.heap.size 4 (List.replicate n (.bool false)) → Below w.heap.size w w' → wpList Try.prog ops Q rest (a.put o.dst (.slice (some ⟨w.heap.size, 0, none⟩) n n)) w') :
    wpList Try.prog ops Q (o :: rest) a w := by
  obtain ⟨i0, hi, hz0, hz1, hz2⟩ := info_parts infob
  refine wpList_make_full w hg l c 43 hop w.heap.size 4 i0 (.bool false) 1 Try.underlying43 hi hz0 hz1 .i64 .i64 L C n hl hc hL hC (by rw [hz2]; omega) (by unfold maxLen; omega) (Nat.le_refl _) fun w' hown hgrow => hK w' ⟨?_⟩ ((Below.refl _ _).grown hgrow (Nat.le_refl _) (fun k h => by cases h))
  rcases hown.2 with ⟨h', _⟩ | ⟨g, cap, cur, h', _, hh, _, _, hsz, htake⟩
  · simp at h'
  · simp only [Value.slice.injEq, Option.some.injEq, Addr.mk.injEq, and_true, true_and] at h'
    obtain ⟨rfl, rfl⟩ := h'
    rw [hh]
    congr 2
    apply Array.ext'
    rw [List.take_of_length_le (by rw [Array.length_toList, hsz]; exact Nat.le_refl _)] at htake
    rw [htake, show (Value.bool false).cells = #[Value.bool false] from rfl, Nat.mul_one, toList_madeCells_one]
end Go.Proofs.Ytdgjhfghggcfaaa
