/-
  The document's reader: node, by contract.
-/
import Derived.Test.YtegcjpocdfmpfaaUaj
set_option linter.unusedVariables false
set_option linter.unusedSimpArgs false
set_option maxRecDepth 100000
set_option maxHeartbeats 16000000
namespace Go.Proofs.Ytegcjpocdfmpfaa
open Go.RowKit

/-- A node that a call answers. -/
structure NwOk (w : World) (x : Nw) : Prop where
  ins : Ins w x.a x.n x.ks
  nil : x.a = none → x.n = 0 ∧ x.c = 0
  max : x.n ≤ 9223372036854775807
end Go.Proofs.Ytegcjpocdfmpfaa
