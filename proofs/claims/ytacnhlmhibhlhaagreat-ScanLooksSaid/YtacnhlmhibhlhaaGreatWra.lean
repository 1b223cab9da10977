/-
  The stripe's encode, by contract.
-/
import Derived.Test.YtacnhlmhibhlhaaGreatHb
import Derived.Test.YtacnhlmhibhlhaaGreatRw
import Derived.Test.YtacnhlmhibhlhaaGreatGe
import Derived.Test.YtacnhlmhibhlhaaGreatBka
import Derived.Test.YtacnhlmhibhlhaaGreatRwa
import Derived.Test.YtacnhlmhibhlhaaGreatRda
import Derived.Test.YtacnhlmhibhlhaaGreatRdB
import Derived.Test.YtacnhlmhibhlhaaGreatWhb
set_option linter.unusedSimpArgs false
set_option linter.unusedVariables false
namespace Go.Proofs.YtacnhlmhibhlhaaGreat
open Go.RowKit Go.Maps
set_option linter.unusedVariables false

/-- A block, as a slice of blocks has it. -/
structure BlP where
  o : Int
  i : Int
  p : Pc
instance : Inhabited BlP := ⟨⟨0, 0, default⟩⟩
end Go.Proofs.YtacnhlmhibhlhaaGreat

/-
  The stripe's Write, by contract.
-/
namespace Go.Proofs.YtacnhlmhibhlhaaGreat
open Go.RowKit Go.Maps
set_option linter.unusedVariables false
attribute [local go_sem] Oper.semAt_some

section
variable {w w' : World}
end
section
variable {w : World} {M : Nat → Prop} {L : Lay} {R Ra Rb' : Rk} {b : Nat} {B : Bn} {xg xs n : Nat} {g : Int} {C p0 p1 p9 gS P k : Nat} {F : Nat → Pc} {sa : Option Addr} {X X' : World}
end

end Go.Proofs.YtacnhlmhibhlhaaGreat

/-
  The stripe's Write, by contract: walked.
-/
namespace Go.Proofs.YtacnhlmhibhlhaaGreat
open Go.RowKit Go.Maps
set_option linter.unusedVariables false
attribute [local go_sem] Oper.semAt_some

section
variable {M : Nat → Prop} {L : Lay} {R : Rk} {w : World} {b : Nat} {B : Bn}
end

end Go.Proofs.YtacnhlmhibhlhaaGreat

/-
  Plain words for the laws of stripe: a row of three sectors, each told by the others.
-/
namespace Go.Proofs.YtacnhlmhibhlhaaGreat
open Go.RowKit

/-- The sum of two sectors. -/
theorem sum_two {f : Nat → Pc} {a b : List Int} (h0 : (f 0).zs = a) (h1 : (f 1).zs = b) (la : a.length = 64) (lb : b.length = 64) (sa : AllB a) :
    (sumP f 2).length = 60 ∧ ∀ t, t < 60 → byt (sumP f 2) t = xr (byt a (4 + t)) (byt b (4 + t)) := by
  have e : sumP f 2 = xorL (xorL [] (a.drop 4)) (b.drop 4) := by rw [sumP, sumP, sumP, h0, h1]
  have l1 : (xorL [] (a.drop 4)).length = 60 := by rw [xorL_len, List.length_drop, la]; rfl
  refine ⟨by rw [e, xorL_len, l1, List.length_drop, lb]; rfl, fun t ht => ?_⟩
  rw [e, byt_xorL (by rw [l1]; omega), byt_xorL (by rw [List.length_drop, la]; omega), byt_drop, byt_drop]
  have : byt ([] : List Int) t = 0 := rfl
  rw [this, xr_comm 0, xr_zero (byt_bd sa _).1]
end Go.Proofs.YtacnhlmhibhlhaaGreat

/-
  A rack some of whose disks have failed or will at the next call: what the others read.
-/
namespace Go.Proofs.YtacnhlmhibhlhaaGreat
open Go.RowKit Go.Maps
set_option linter.unusedVariables false

/-- The disks 'bad' have failed, those of D will at the next call; the others read C. -/
structure Vd (R : Rk) (n S : Nat) (bad D : Nat → Bool) (C : Nat → Nat → List Int) : Prop where
  hn : R.n = n
  hS : R.S = S
  off : R.off = false
  cnt : R.cnt = -1
  dk : ∀ i, i < n → (R.d i).bad = bad i ∧ (bad i = false → (R.d i).cnt = if D i then 0 else -1)
  rd : ∀ i k, i < n → k < S → bad i = false → (R.d i).read k = C i k
  len : ∀ i k, i < n → k < S → (C i k).length = 64
section
variable {R : Rk} {n S : Nat} {bad D : Nat → Bool} {C : Nat → Nat → List Int}
end

end Go.Proofs.YtacnhlmhibhlhaaGreat

/-
  What the stripe's calls answer on a small rack, some of whose slots can't be read.
-/
namespace Go.Proofs.YtacnhlmhibhlhaaGreat
open Go.RowKit Go.Maps
set_option linter.unusedVariables false

/-- The slots of 'un' can't be read, those of 'bd' are told as bad; the readable ones read X. -/
structure Vw (B : Bn) (R : Rk) (un bd : Nat → Bool) (X : Nat → Nat → List Int) : Prop where
  d : B.d = 3
  r : B.r = 3
  s : B.s = 12
  off : R.off = false
  no : ∀ i k : Nat, i < 3 → k < 41 → un i = true → brE B R i k ≠ 0
  yes : ∀ i k : Nat, i < 3 → k < 41 → un i = false → brE B R i k = 0 ∧ brV B R i k = X i k
  bp : ∀ i : Nat, i < 3 → badP B R (i : Int) = bd i
section
variable {B : Bn} {R : Rk} {un bd : Nat → Bool} {X : Nat → Nat → List Int} {g a : Nat} {q : Int}
end

end Go.Proofs.YtacnhlmhibhlhaaGreat

/-
  What a writing leaves on a small rack; a slot is filled again.
-/
namespace Go.Proofs.YtacnhlmhibhlhaaGreat
open Go.RowKit Go.Maps
set_option linter.unusedVariables false

/-- A bank of the small geometry. -/
structure Sml (B : Bn) : Prop where
  d : B.d = 3
  r : B.r = 3
  s : B.s = 12
section
variable {B : Bn} {R : Rk} {bad D : Nat → Bool} {C : Nat → Nat → List Int}
end

end Go.Proofs.YtacnhlmhibhlhaaGreat
