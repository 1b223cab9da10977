/-
  The document's Right of a list, by contract.
-/
import Derived.Test.YtegcjpocdfmpfaaUae
import Derived.Test.YtegcjpocdfmpfaaUad
set_option linter.unusedVariables false
set_option linter.unusedSimpArgs false
set_option maxRecDepth 100000
set_option maxHeartbeats 16000000
namespace Go.Proofs.Ytegcjpocdfmpfaa
open Go.RowKit

/-- The first n nodes, as they are told. -/
def lnL (f : Nat → Nw) (n : Nat) : List Nd := (List.range n).map fun i => (f i).nd
theorem lnL_len (f : Nat → Nw) (n : Nat) : (lnL f n).length = n := by simp [lnL]
theorem lnL_get (f : Nat → Nw) {n i : Nat} (h : i < n) : (lnL f n).getD i default = (f i).nd := by simp [lnL, List.getD, List.getElem?_range h]
/-- A node's own box. -/
structure Nwb (w : World) (g : Nat) (x : Nw) : Prop where
  lt : g < w.heap.size
  c0 : w.cell? ⟨g, 0, none⟩ = some (.int .i64 x.ino)
  c1 : w.cell? ⟨g, 1, none⟩ = some (.int .i64 x.kind)
  c2 : w.cell? ⟨g, 2, none⟩ = some (.int .i64 x.links)
  c3 : w.cell? ⟨g, 3, none⟩ = some (.int .i64 x.size)
  c4 : w.cell? ⟨g, 4, none⟩ = some (.slice x.a x.n x.c)
theorem Nwb.next {w w' : World} {g : Nat} {x : Nw} (h : Nwb w g x) (hb : Below w.heap.size w w') : Nwb w' g x :=
  have e := fun j => hb.cell (p := ⟨g, j, none⟩) h.lt
  ⟨Nat.lt_of_lt_of_le h.lt hb.size, (e _).trans h.c0, (e _).trans h.c1, (e _).trans h.c2, (e _).trans h.c3, (e _).trans h.c4⟩
theorem Nwb.mk' (w : World) (x : Nw) (t : TypeId) : Nwb (w.alloc (.cells #[.int .i64 x.ino, .int .i64 x.kind, .int .i64 x.links, .int .i64 x.size, .slice x.a x.n x.c] t)) w.heap.size x := by
  refine ⟨by simp, ?_, ?_, ?_, ?_, ?_⟩ <;> simp
end Go.Proofs.Ytegcjpocdfmpfaa
