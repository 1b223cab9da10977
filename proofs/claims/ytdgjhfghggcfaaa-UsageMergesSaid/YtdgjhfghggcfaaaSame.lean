/-
  The reference's comparison of two slices of bytes: its contract.
-/
import Derived.Test.YtdgjhfghggcfaaaBase
namespace Go.Proofs.Ytdgjhfghggcfaaa
open Go.RowKit

def Front (x y : List Int) (k : Nat) : Prop := ∀ j, j < k → byt x j = byt y j
theorem Front.zero (x y : List Int) : Front x y 0 := fun _ h => by omega
theorem Front.succ {x y : List Int} {k : Nat} (h : Front x y k) (e : byt x k = byt y k) : Front x y (k + 1) := fun j hj => by
  by_cases hk : j = k
  · rw [hk]; exact e
  · exact h j (by omega)
theorem Front.all {x y : List Int} {n : Nat} (hx : x.length = n) (hy : y.length = n) (h : Front x y n) : sameB x y = true :=
  sameB_true (byt_ext (by omega) fun i hi => h i (by omega))

end Go.Proofs.Ytdgjhfghggcfaaa
