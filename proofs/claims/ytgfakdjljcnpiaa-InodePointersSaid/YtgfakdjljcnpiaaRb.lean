/-
  Records in memory: a block of 21 numbers; rows of 18.
-/
import Derived.Test.YtgfakdjljcnpiaaIp
import Derived.Deep.RegionHeld3
namespace Go.Proofs.Ytgfakdjljcnpiaa
open Go.RowKit
set_option linter.unusedVariables false
set_option linter.unusedSimpArgs false

/-- A record's numbers, as cells. -/
def rcs (f : Nat → Int) : Array Value := #[.int .i64 (f 0), .int .i64 (f 1), .int .i64 (f 2), .int .i64 (f 3), .int .i64 (f 4), .int .i64 (f 5), .int .i64 (f 6), .int .i64 (f 7), .int .i64 (f 8), .int .i64 (f 9), .int .i64 (f 10), .int .i64 (f 11), .int .i64 (f 12), .int .i64 (f 13), .int .i64 (f 14), .int .i64 (f 15), .int .i64 (f 16), .int .i64 (f 17), .int .i64 (f 18), .int .i64 (f 19), .int .i64 (f 20)]
abbrev rcv (f : Nat → Int) : Value := .agg (rcs f)
/-- Eighteen numbers, as cells. -/
def pcs (f : Nat → Int) : Array Value := #[.int .i64 (f 0), .int .i64 (f 1), .int .i64 (f 2), .int .i64 (f 3), .int .i64 (f 4), .int .i64 (f 5), .int .i64 (f 6), .int .i64 (f 7), .int .i64 (f 8), .int .i64 (f 9), .int .i64 (f 10), .int .i64 (f 11), .int .i64 (f 12), .int .i64 (f 13), .int .i64 (f 14), .int .i64 (f 15), .int .i64 (f 16), .int .i64 (f 17)]
abbrev pcv (f : Nat → Int) : Value := .agg (pcs f)
def upd (f : Nat → Int) (k : Nat) (z : Int) : Nat → Int := fun i => if i = k then z else f i
theorem rcs_get (f : Nat → Int) {i : Nat} (h : i < 21) : (rcs f)[i]? = some (.int .i64 (f i)) := by
  rcases (by omega : i = 0 ∨ i = 1 ∨ i = 2 ∨ i = 3 ∨ i = 4 ∨ i = 5 ∨ i = 6 ∨ i = 7 ∨ i = 8 ∨ i = 9 ∨ i = 10 ∨ i = 11 ∨ i = 12 ∨ i = 13 ∨ i = 14 ∨ i = 15 ∨ i = 16 ∨ i = 17 ∨ i = 18 ∨ i = 19 ∨ i = 20) with rfl | rfl | rfl | rfl | rfl | rfl | rfl | rfl | rfl | rfl | rfl | rfl | rfl | rfl | rfl | rfl | rfl | rfl | rfl | rfl | rfl <;> rfl
theorem pcs_get (f : Nat → Int) {i : Nat} (h : i < 18) : (pcs f)[i]? = some (.int .i64 (f i)) := by
  rcases (by omega : i = 0 ∨ i = 1 ∨ i = 2 ∨ i = 3 ∨ i = 4 ∨ i = 5 ∨ i = 6 ∨ i = 7 ∨ i = 8 ∨ i = 9 ∨ i = 10 ∨ i = 11 ∨ i = 12 ∨ i = 13 ∨ i = 14 ∨ i = 15 ∨ i = 16 ∨ i = 17) with rfl | rfl | rfl | rfl | rfl | rfl | rfl | rfl | rfl | rfl | rfl | rfl | rfl | rfl | rfl | rfl | rfl | rfl <;> rfl
theorem rcs_list (f : Nat → Int) : (rcs f).toList = (List.range 21).map fun i => Value.int .i64 (f i) := rfl
theorem pcs_list (f : Nat → Int) : (pcs f).toList = (List.range 18).map fun i => Value.int .i64 (f i) := rfl
theorem map_set (f : Nat → Int) (n k : Nat) (z : Int) : ((List.range n).map fun i => Value.int .i64 (f i)).set k (.int .i64 z) = (List.range n).map fun i => Value.int .i64 (upd f k z i) := by
  apply List.ext_getElem (by simp)
  intro i h1 h2
  have hi : i < n := by simpa using h2
  rw [List.getElem_set]
  by_cases e : k = i
  · subst e; simp [upd]
  · simp [upd, e, Ne.symm e]
theorem rcs_set (f : Nat → Int) (k : Nat) (z : Int) : (rcs f).setIfInBounds k (.int .i64 z) = rcs (upd f k z) := by
  apply Array.ext'
  rw [Array.toList_setIfInBounds, rcs_list, rcs_list, map_set]
theorem pcs_set (f : Nat → Int) (k : Nat) (z : Int) : (pcs f).setIfInBounds k (.int .i64 z) = pcs (upd f k z) := by
  apply Array.ext'
  rw [Array.toList_setIfInBounds, pcs_list, pcs_list, map_set]
theorem rcs_congr {f g : Nat → Int} (h : ∀ i, i < 21 → f i = g i) : rcs f = rcs g := by
  apply Array.ext'
  rw [rcs_list, rcs_list]
  exact List.map_congr_left fun i hi => by rw [h i (List.mem_range.1 hi)]
theorem pcs_congr {f g : Nat → Int} (h : ∀ i, i < 18 → f i = g i) : pcs f = pcs g := by
  apply Array.ext'
  rw [pcs_list, pcs_list]
  exact List.map_congr_left fun i hi => by rw [h i (List.mem_range.1 hi)]
/-- The record that tells nothing. -/
def noR : Nat → Int := fun _ => 0

/-- A record lies in block b. -/
structure Rcb (w : World) (b : Nat) (f : Nat → Int) : Prop where
  row : w.heap[b]? = some (.cells (rcs f) 24 (0, 0))
/-- Eighteen numbers lie in block b. -/
structure Pcb (w : World) (b : Nat) (f : Nat → Int) : Prop where
  row : w.heap[b]? = some (.cells (pcs f) 49 (0, 0))
section
variable {w w' : World} {b : Nat} {f : Nat → Int}
theorem Rcb.lt (h : Rcb w b f) : b < w.heap.size := lt_of_block h.row
theorem Rcb.cell (h : Rcb w b f) {i : Nat} (hi : i < 21) : w.cell? ⟨b, i, none⟩ = some (.int .i64 (f i)) := by
  rw [cell_of_row w b i _ _ (0, 0) h.row, rcs_get f hi]
theorem Rcb.free (h : Rcb w b f) (i : Nat) : w.frozen? ⟨b, i, none⟩ = false := frozen_of_row w b i _ _ h.row
theorem Rcb.below (h : Rcb w b f) {B : Nat} (hB : b < B) (hb : Below B w w') : Rcb w' b f := ⟨(hb.block b hB).trans h.row⟩
theorem Rcb.next (h : Rcb w b f) (hb : Below w.heap.size w w') : Rcb w' b f := h.below h.lt hb
theorem Rcb.alloc (h : Rcb w b f) (o : Obj) : Rcb (w.alloc o) b f := h.next ((Below.refl _ _).alloc (Nat.le_refl _) o)
theorem Rcb.drew (h : Rcb w b f) : Rcb w.drew b f := ⟨h.row⟩
theorem Rcb.mk' (w : World) (f : Nat → Int) : Rcb (w.alloc (.cells (rcs f) 24 (0, 0))) w.heap.size f := ⟨heap_alloc_new w _⟩
theorem Rcb.set (h : Rcb w b f) (k : Nat) (z : Int) : Rcb (w.setCell ⟨b, k, none⟩ (.int .i64 z)) b (upd f k z) := by
  refine ⟨?_⟩
  rw [heap_setCell_same w b k _ _ _ h.row, rcs_set]
theorem Rcb.load (h : Rcb w b f) : (loadVar 24 ⟨b, 0, none⟩).run Try.prog w = .ok (rcv f) w :=
  run_loadVar_row w b _ _ _ _ _ h.row Try.underlying24 rfl (by kernel_rfl)
theorem Pcb.lt (h : Pcb w b f) : b < w.heap.size := lt_of_block h.row
theorem Pcb.cell (h : Pcb w b f) {i : Nat} (hi : i < 18) : w.cell? ⟨b, i, none⟩ = some (.int .i64 (f i)) := by
  rw [cell_of_row w b i _ _ (0, 0) h.row, pcs_get f hi]
theorem Pcb.free (h : Pcb w b f) (i : Nat) : w.frozen? ⟨b, i, none⟩ = false := frozen_of_row w b i _ _ h.row
theorem Pcb.below (h : Pcb w b f) {B : Nat} (hB : b < B) (hb : Below B w w') : Pcb w' b f := ⟨(hb.block b hB).trans h.row⟩
theorem Pcb.next (h : Pcb w b f) (hb : Below w.heap.size w w') : Pcb w' b f := h.below h.lt hb
theorem Pcb.alloc (h : Pcb w b f) (o : Obj) : Pcb (w.alloc o) b f := h.next ((Below.refl _ _).alloc (Nat.le_refl _) o)
theorem Pcb.drew (h : Pcb w b f) : Pcb w.drew b f := ⟨h.row⟩
theorem Pcb.mk' (w : World) (f : Nat → Int) : Pcb (w.alloc (.cells (pcs f) 49 (0, 0))) w.heap.size f := ⟨heap_alloc_new w _⟩
theorem Pcb.set (h : Pcb w b f) (k : Nat) (z : Int) : Pcb (w.setCell ⟨b, k, none⟩ (.int .i64 z)) b (upd f k z) := by
  refine ⟨?_⟩
  rw [heap_setCell_same w b k _ _ _ h.row, pcs_set]
theorem Pcb.load (h : Pcb w b f) : (loadVar 49 ⟨b, 0, none⟩).run Try.prog w = .ok (pcv f) w :=
  run_loadVar_row w b _ _ _ _ _ h.row Try.underlying49 rfl (by kernel_rfl)
end
/-- Are two records one? -/
def eqR (f g : Nat → Int) : Bool := (List.range 21).all fun i => f i == g i
theorem eqR_iff {f g : Nat → Int} : eqR f g = true ↔ ∀ i, i < 21 → f i = g i := by
  simp [eqR, List.all_eq_true]
end Go.Proofs.Ytgfakdjljcnpiaa
