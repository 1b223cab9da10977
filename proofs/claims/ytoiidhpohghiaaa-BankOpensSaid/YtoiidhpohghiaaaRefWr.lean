/-
  The reference's Write, by contract.
-/
import Derived.Test.YtoiidhpohghiaaaRefOps
namespace Go.Proofs.Ytoiidhpohghiaaa
open Go.RowKit Go.Maps

theorem Rf.call_n (F : Rf) : F.call.n = F.n := by unfold Rf.call; split <;> rfl
theorem Rf.call_S (F : Rf) : F.call.S = F.S := by unfold Rf.call; split <;> rfl

section
variable (M : Nat → Prop) (L : RLay) (F : Rf) (w : World)
end

end Go.Proofs.Ytoiidhpohghiaaa
