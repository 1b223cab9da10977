/-
  The reference's Flush, by contract.
-/
import Derived.Test.YtoiidhpohghiaaaRefWr
import Derived.StillTailTactics
namespace Go.Proofs.Ytoiidhpohghiaaa
open Go.RowKit Go.Maps

section
variable (M : Nat → Prop) (L : RLay) (F : Rf) (w : World)
/-- The reference's rack of which what was cached from place a to place k lasts. -/
def Rf.flushed (F : Rf) (a k : Nat) : Rf := { F with L := fun j => if a ≤ j ∧ j < k then F.rd j else F.L j, C := fun j => if a ≤ j ∧ j < k then none else F.C j }
theorem flushed_start (a : Nat) : F.flushed a a = F := by
  have : ∀ j, ¬ (a ≤ j ∧ j < a) := fun j => by omega
  unfold Rf.flushed
  simp [this]
theorem flushed_L {a k : Nat} (h : a ≤ k) : (F.flushed a (k + 1)).L = atI (F.flushed a k).L k (F.rd k) := by
  funext j
  show (if a ≤ j ∧ j < k + 1 then F.rd j else F.L j) = if j = k then F.rd k else if a ≤ j ∧ j < k then F.rd j else F.L j
  by_cases e : j = k
  · subst e; rw [if_pos (by omega), if_pos rfl]
  · rw [if_neg e]
    by_cases e2 : a ≤ j ∧ j < k
    · rw [if_pos (by omega), if_pos e2]
    · rw [if_neg (by omega), if_neg e2]
theorem flushed_C {a k : Nat} (h : a ≤ k) : (F.flushed a (k + 1)).C = atI (F.flushed a k).C k none := by
  funext j
  show (if a ≤ j ∧ j < k + 1 then none else F.C j) = if j = k then none else if a ≤ j ∧ j < k then none else F.C j
  by_cases e : j = k
  · subst e; rw [if_pos (by omega), if_pos rfl]
  · rw [if_neg e]
    by_cases e2 : a ≤ j ∧ j < k
    · rw [if_pos (by omega), if_pos e2]
    · rw [if_neg (by omega), if_neg e2]

end

end Go.Proofs.Ytoiidhpohghiaaa
