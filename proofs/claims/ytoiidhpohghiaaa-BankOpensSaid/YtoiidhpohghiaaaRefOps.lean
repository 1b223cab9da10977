/-
  The reference's calls that have no loop, by contract.
-/
import Derived.Test.YtoiidhpohghiaaaRefCall
import Derived.Deep.RegionHeld3
namespace Go.Proofs.Ytoiidhpohghiaaa
open Go.RowKit Go.Maps

/-- A sector's place among all. -/
theorem place {n S i s : Nat} (hi : i < n) (hs : s < S) (hn : n ≤ 17) (hS : S ≤ 4096) : ∃ k N : Nat, Hid (N = n * S) ∧ Hid (k = i * S + s) ∧ k < N ∧ (i : Int) * (S : Int) + (s : Int) = (k : Int) ∧ 0 ≤ (i : Int) * (S : Int) ∧ (i : Int) * (S : Int) ≤ 100000 := by
  have h1 : (i + 1) * S ≤ n * S := Nat.mul_le_mul_right S hi
  have h2 : i * S ≤ 17 * 4096 := Nat.mul_le_mul (by omega) hS
  rw [Nat.succ_mul] at h1
  have h3 : (i : Int) * (S : Int) = ((i * S : Nat) : Int) := by simp
  exact ⟨i * S + s, n * S, rfl, rfl, by omega, by rw [h3]; omega, by rw [h3]; omega, by rw [h3]; omega⟩

def Rf.rd (F : Rf) (k : Nat) : List Int := (F.C k).getD (F.L k)

section
variable (M : Nat → Prop) (L : RLay) (F : Rf) (w : World)
def Rf.failed (F : Rf) (i : Int) : Bool := decide (0 ≤ i ∧ i < F.n) && F.bad i.toNat
end

end Go.Proofs.Ytoiidhpohghiaaa
