/-
  Boxes: new blocks of one cell.
-/
import Derived.Test.YtciddoeeiamndaaGreatBase
namespace Go.Proofs.YtciddoeeiamndaaGreat
open Go.RowKit

theorem box_new (w : World) (v : Value) (t : TypeId) {p : Nat} (hp : w.heap.size = p) : (w.alloc (.cells #[v] t)).cell? ⟨p, 0, none⟩ = some v ∧ (w.alloc (.cells #[v] t)).frozen? ⟨p, 0, none⟩ = false := by
  subst hp
  exact ⟨by simp, by simp⟩
theorem cell_alloc_l {w : World} (o : Obj) {a : Addr} {v : Value} (h : w.cell? a = some v) : (w.alloc o).cell? a = some v :=
  (((Below.refl w.heap.size w).alloc (Nat.le_refl _) o).cell (p := a) (World.block_lt_of_cell? w _ h)).trans h
theorem frozen_alloc_l {w : World} (o : Obj) {a : Addr} {v : Value} (h : w.cell? a = some v) (hf : w.frozen? a = false) : (w.alloc o).frozen? a = false :=
  (((Below.refl w.heap.size w).alloc (Nat.le_refl _) o).frozen (p := a) (World.block_lt_of_cell? w _ h)).trans hf

end Go.Proofs.YtciddoeeiamndaaGreat
