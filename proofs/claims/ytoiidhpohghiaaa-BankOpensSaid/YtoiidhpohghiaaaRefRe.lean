/-
  The reference's Restore, by contract.
-/
import Derived.Test.YtoiidhpohghiaaaRefFl
namespace Go.Proofs.Ytoiidhpohghiaaa
open Go.RowKit Go.Maps

theorem i64_and1 (n : Int) : bits .and .i64 n 1 = n % 2 := by
  have h3 : (BitVec.ofInt 64 1).toNat = 2 ^ 1 - 1 := by decide
  have key : (BitVec.ofInt 64 n &&& BitVec.ofInt 64 1).toNat = (n % ((2 ^ 64 : Nat) : Int)).toNat % 2 ^ 1 := by
    rw [BitVec.toNat_and, BitVec.toNat_ofInt, h3, Nat.and_two_pow_sub_one_eq_mod]
  show IntKind.i64.wrap ((BitVec.ofInt 64 n &&& BitVec.ofInt 64 1).toNat : Nat) = n % 2
  rw [key, IntKind.wrap_i64]
  omega
theorem bit_tmod (z : Int) : (bits .and .i64 z 1 = 1 ∧ (z.tmod 2 != 0) = true) ∨ (bits .and .i64 z 1 = 0 ∧ (z.tmod 2 != 0) = false) := by
  rw [i64_and1]
  have e : z.tmod 2 = 0 ↔ z % 2 = 0 := by
    constructor
    · intro h
      have := Int.dvd_of_tmod_eq_zero h
      omega
    · intro h
      exact Int.tmod_eq_zero_of_dvd (by omega)
  rcases (by omega : z % 2 = 1 ∨ z % 2 = 0) with h | h
  · left
    refine ⟨h, ?_⟩
    have : z.tmod 2 ≠ 0 := fun x => by have := e.1 x; omega
    simpa using this
  · right
    refine ⟨h, ?_⟩
    simpa using e.2 h

/-- Does the reference keep the content cached at this place? -/
def Rf.stays (F : Rf) (ks : List Int) (j : Nat) : Bool := (F.C j).isSome && (keptB ks (rank F.C j) && !F.bad (j / F.S))
/-- The reference's rack of which the first k places are restored. -/
def Rf.restTo (F : Rf) (ks : List Int) (k : Nat) : Rf := { F with L := fun j => if j < k ∧ F.stays ks j = true then F.rd j else F.L j, C := fun j => if j < k then none else F.C j, pw := -1, dead := false }

section
variable (F : Rf)
theorem restTo_L (ks : List Int) (k : Nat) : (F.restTo ks (k + 1)).L = atI (F.restTo ks k).L k (if F.stays ks k then F.rd k else F.L k) := by
  funext j
  show (if j < k + 1 ∧ F.stays ks j = true then F.rd j else F.L j) = if j = k then _ else if j < k ∧ F.stays ks j = true then F.rd j else F.L j
  by_cases e : j = k
  · subst e
    rw [if_pos rfl]
    by_cases h : F.stays ks j = true
    · rw [if_pos ⟨by omega, h⟩, if_pos h]
    · rw [if_neg (fun x => h x.2), if_neg h]
  · rw [if_neg e]
    by_cases h : j < k ∧ F.stays ks j = true
    · rw [if_pos ⟨by omega, h.2⟩, if_pos h]
    · rw [if_neg (fun x => h ⟨by omega, x.2⟩), if_neg h]
theorem restTo_C (ks : List Int) (k : Nat) : (F.restTo ks (k + 1)).C = atI (F.restTo ks k).C k none := by
  funext j
  show (if j < k + 1 then none else F.C j) = if j = k then none else if j < k then none else F.C j
  by_cases e : j = k
  · subst e; rw [if_pos (by omega), if_pos rfl]
  · rw [if_neg e]
    by_cases h : j < k
    · rw [if_pos (by omega), if_pos h]
    · rw [if_neg (by omega), if_neg h]
end

end Go.Proofs.Ytoiidhpohghiaaa
