/-
  The rack's Restore, by contract.
-/
import Derived.Test.YtciddoeeiamndaaOps
namespace Go.Proofs.Ytciddoeeiamndaa
open Go.RowKit Go.Maps

/-- How many sectors the disks ahead of this one have cached. -/
def Rk.num (R : Rk) : Nat → Nat
  | 0 => 0
  | i + 1 => R.num i + rank (R.d i).cache R.S
theorem Rk.num_le (R : Rk) (i : Nat) : R.num i ≤ i * R.S := by
  induction i with
  | zero => simp [Rk.num]
  | succ k ih =>
    have := rank_le (R.d k).cache R.S
    show R.num k + _ ≤ _
    rw [Nat.succ_mul]
    omega
def Rk.restTo (R : Rk) (ks : List Int) (k : Nat) : Rk := { R with off := false, cnt := -1, d := fun j => if j < k then (R.d j).restore R.S ks (R.num j) else R.d j }
/-- A rack behind Restore. -/
def Rk.restore (R : Rk) (ks : List Int) : Rk := { R with off := false, cnt := -1, d := fun j => (R.d j).restore R.S ks (R.num j) }
theorem Rk.restTo_succ (R : Rk) (ks : List Int) (k : Nat) : (R.restTo ks k).setD k (((R.restTo ks k).d k).restore R.S ks (R.num k)) = R.restTo ks (k + 1) := by
  unfold Rk.restTo Rk.setD
  simp only [Rk.mk.injEq, true_and]
  funext j
  by_cases h : j = k
  · subst h
    simp
  · rw [if_neg h]
    by_cases h2 : j < k
    · rw [if_pos h2, if_pos (by omega)]
    · rw [if_neg h2, if_neg (by omega)]
theorem Rk.restTo_n (R : Rk) (ks : List Int) (k : Nat) : (R.restTo ks k).n = R.n := rfl

end Go.Proofs.Ytciddoeeiamndaa
