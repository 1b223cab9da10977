/-
  Slices of bytes, and rows of them, that came in: what they hold.
-/
import Derived.Test.YtpmgagifpdamkaaVaa
import Derived.Deep.Slices
import Derived.ChangeArms
import Derived.SizedLaws
set_option linter.unusedVariables false
set_option linter.unusedSimpArgs false
set_option maxRecDepth 100000
set_option maxHeartbeats 16000000
namespace Go.Proofs.Ytpmgagifpdamkaa
open Go.RowKit Go.ChangeShapes Go.WideShapes Go.Deep

theorem choose_lt {α : Type} [Inhabited α] {n : Nat} {P : Nat → α → Prop} (h : ∀ i, i < n → ∃ y, P i y) : ∃ f : Nat → α, ∀ i, i < n → P i (f i) :=
  ⟨fun i => if hi : i < n then Classical.choose (h i hi) else default, fun i hi => by
    show P i (if hi : i < n then Classical.choose (h i hi) else default)
    rw [dif_pos hi]
    exact Classical.choose_spec (h i hi)⟩
section
variable {H : Type} {enc : TypeId × Value → H} {w : World}
/-- All that is read of a datum takes no more than the reach. -/
def Small (t : TypeId) (d : DataW H) : Prop := ∀ n ∈ d.weights Try.prog t, n ≤ reachBytes
end

end Go.Proofs.Ytpmgagifpdamkaa
