/-
  The reference's Load, by contract.
-/
import Derived.Test.YtoiidhpohghiaaaRefRe
namespace Go.Proofs.Ytoiidhpohghiaaa
open Go.RowKit Go.Maps

theorem bys_turn' {M : Nat → Prop} {w w' : World} {a : Option Addr} {n : Nat} {zs : List Int} (h : Bys w a n zs) (ht : Turn M w w') (hm : n = 0 ∨ ∀ b off, a = some ⟨b, off, .none⟩ → ¬ M b) : Bys w' a n zs := by
  rcases hm with rfl | hm
  · exact ⟨h.len, h.small, .inl rfl⟩
  · exact bys_turn h ht hm

/-- The reference's rack of which k sectors from place B on are loaded. -/
def Rf.loaded (F : Rf) (B : Nat) (x : List Int) (k : Nat) : Rf := { F with L := fun j => if B ≤ j ∧ j < B + k then sec x (j - B) else F.L j, C := fun j => if B ≤ j ∧ j < B + k then none else F.C j }
section
variable (F : Rf)
theorem loaded_start (B : Nat) (x : List Int) : F.loaded B x 0 = F := by
  have : ∀ j, ¬ (B ≤ j ∧ j < B + 0) := fun j => by omega
  unfold Rf.loaded
  simp only [this, if_false]
theorem loaded_L (B : Nat) (x : List Int) (k : Nat) : (F.loaded B x (k + 1)).L = atI (F.loaded B x k).L (B + k) (sec x k) := by
  funext j
  show (if B ≤ j ∧ j < B + (k + 1) then sec x (j - B) else F.L j) = if j = B + k then sec x k else if B ≤ j ∧ j < B + k then sec x (j - B) else F.L j
  by_cases e : j = B + k
  · subst e; rw [if_pos (by omega), if_pos rfl, show B + k - B = k by omega]
  · rw [if_neg e]
    by_cases e2 : B ≤ j ∧ j < B + k
    · rw [if_pos (by omega), if_pos e2]
    · rw [if_neg (by omega), if_neg e2]
theorem loaded_C (B : Nat) (x : List Int) (k : Nat) : (F.loaded B x (k + 1)).C = atI (F.loaded B x k).C (B + k) none := by
  funext j
  show (if B ≤ j ∧ j < B + (k + 1) then none else F.C j) = if j = B + k then none else if B ≤ j ∧ j < B + k then none else F.C j
  by_cases e : j = B + k
  · subst e; rw [if_pos (by omega), if_pos rfl]
  · rw [if_neg e]
    by_cases e2 : B ≤ j ∧ j < B + k
    · rw [if_pos (by omega), if_pos e2]
    · rw [if_neg (by omega), if_neg e2]
end

end Go.Proofs.Ytoiidhpohghiaaa
