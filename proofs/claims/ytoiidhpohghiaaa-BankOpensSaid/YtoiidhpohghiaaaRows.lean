/-
  No cell of these rows narrows 'for every input' (looked for: loops, veiled, ifaces, maps, wideKeys, modest, calm, conditions, laid).
  DERIVED. THE GIVEN ROWS OF THIS SEAT. 4 by the template 'for every input the law returns true; each argument reads behind the call as it read before'; 0 by the template 'total and deterministic' (their statements: YtoiidhpohghiaaaTotals.lean).
  GIVEN WITH THE SEED: the statements are not yours to turn. If you find one false, say at which input.
  Laid BY PROGRAM, IN A SANDBOX (cutbox-rows.mjs): the forced cells as the released guide's own fill.sh prints them over the translation 9ea9b949d9a4932f… (all of the seat's roots in one cut). By AI agents, Wed Nov 11 2026. No macro, syntax, notation, axiom, sorry.
-/
import Derived.Test.YtoiidhpohghiaaaChecked
import GoSem.Claim
import GoSem.ClaimJoined
import GoSem.ClaimMapViews
import Derived.JoinedTies
import Derived.KernelRfl
namespace Go.Proofs.Ytoiidhpohghiaaa
/- THE CELL 'sum', in the pinned program and in every row, IS THE sha256 OF THE DUMP (.gsa) THAT YtoiidhpohghiaaaProg.lean LOADS. Nothing in Lean hashes anything: it is a label: what it is worth is what the hold of that sum in a sandbox is worth. -/
noncomputable def Try.pinned : Pinned := { name := "ytoiidhpohghiaaa", sum := "9ea9b949d9a4932fbdbe070381190cdd90242e3e6199ff12f119181508dfe50a", checked := Try.checked }
namespace Rows
def none {H : Type} : Left H := { results := [], args := [] }

/-- 'morainelaw06.BankOpens': WHATEVER THE INPUT: true; the input reads as it did. -/
def bankOpensSpec : ChangeSpec := { name := "bankOpens", fn := fun _ => fun
  | [d1, d2, d3, d4] => { results := [.lit (.bool true)], args := [d1, d2, d3, d4] }
  | _ => none }
def bankOpensRow : OpenClaim := { program := "ytoiidhpohghiaaa", sum := "9ea9b949d9a4932fbdbe070381190cdd90242e3e6199ff12f119181508dfe50a", func := "moraine/morainelaw06.BankOpens", spec := "bankOpens", apart := false }
def BankOpensSaid : Prop := bankOpensRow.holds Try.pinned (OpenSpec.ofChange bankOpensSpec)

/-- ITS FALSE NEIGHBOUR: 'it returns false'. Refute it at one input. -/
def bankOpensWrong : ChangeSpec := { name := "bankOpens", fn := fun _ => fun
  | [d1, d2, d3, d4] => { results := [.lit (.bool false)], args := [d1, d2, d3, d4] }
  | _ => none }
def BankOpensWrongFalsely : Prop := bankOpensRow.holds Try.pinned (OpenSpec.ofChange bankOpensWrong)

/-- 'morainelaw06.BankSpare': WHATEVER THE INPUT: true; the input reads as it did. -/
def bankSpareSpec : ChangeSpec := { name := "bankSpare", fn := fun _ => fun
  | [d1, d2, d3, d4] => { results := [.lit (.bool true)], args := [d1, d2, d3, d4] }
  | _ => none }
def bankSpareRow : OpenClaim := { program := "ytoiidhpohghiaaa", sum := "9ea9b949d9a4932fbdbe070381190cdd90242e3e6199ff12f119181508dfe50a", func := "moraine/morainelaw06.BankSpare", spec := "bankSpare", unfollowed := true, recurses := true, apart := false }
def BankSpareSaid : Prop := bankSpareRow.holds Try.pinned (OpenSpec.ofChange bankSpareSpec)

/-- ITS FALSE NEIGHBOUR: 'it returns false'. Refute it at one input. -/
def bankSpareWrong : ChangeSpec := { name := "bankSpare", fn := fun _ => fun
  | [d1, d2, d3, d4] => { results := [.lit (.bool false)], args := [d1, d2, d3, d4] }
  | _ => none }
def BankSpareWrongFalsely : Prop := bankSpareRow.holds Try.pinned (OpenSpec.ofChange bankSpareWrong)

/-- 'morainelaw06.BankBad': WHATEVER THE INPUT: true; the input reads as it did. -/
def bankBadSpec : ChangeSpec := { name := "bankBad", fn := fun _ => fun
  | [d1, d2] => { results := [.lit (.bool true)], args := [d1, d2] }
  | _ => none }
def bankBadRow : OpenClaim := { program := "ytoiidhpohghiaaa", sum := "9ea9b949d9a4932fbdbe070381190cdd90242e3e6199ff12f119181508dfe50a", func := "moraine/morainelaw06.BankBad", spec := "bankBad", unfollowed := true, recurses := true, apart := false }
def BankBadSaid : Prop := bankBadRow.holds Try.pinned (OpenSpec.ofChange bankBadSpec)

/-- ITS FALSE NEIGHBOUR: 'it returns false'. Refute it at one input. -/
def bankBadWrong : ChangeSpec := { name := "bankBad", fn := fun _ => fun
  | [d1, d2] => { results := [.lit (.bool false)], args := [d1, d2] }
  | _ => none }
def BankBadWrongFalsely : Prop := bankBadRow.holds Try.pinned (OpenSpec.ofChange bankBadWrong)

/-- 'morainelaw06.BankLasts': WHATEVER THE INPUT: true; the input reads as it did. -/
def bankLastsSpec : ChangeSpec := { name := "bankLasts", fn := fun _ => fun
  | [d1, d2, d3] => { results := [.lit (.bool true)], args := [d1, d2, d3] }
  | _ => none }
def bankLastsRow : OpenClaim := { program := "ytoiidhpohghiaaa", sum := "9ea9b949d9a4932fbdbe070381190cdd90242e3e6199ff12f119181508dfe50a", func := "moraine/morainelaw06.BankLasts", spec := "bankLasts", unfollowed := true, recurses := true, apart := false }
def BankLastsSaid : Prop := bankLastsRow.holds Try.pinned (OpenSpec.ofChange bankLastsSpec)

/-- ITS FALSE NEIGHBOUR: 'it returns false'. Refute it at one input. -/
def bankLastsWrong : ChangeSpec := { name := "bankLasts", fn := fun _ => fun
  | [d1, d2, d3] => { results := [.lit (.bool false)], args := [d1, d2, d3] }
  | _ => none }
def BankLastsWrongFalsely : Prop := bankLastsRow.holds Try.pinned (OpenSpec.ofChange bankLastsWrong)

/- THE SECOND FORM. 'bulk': how many values and letters a reading holds, each counted each time it is reached (what is shared counts as often as it is met; a slice's spare places count too). A statement '..UptoSaid' is the law's where the arguments, and the package variables that the reading takes, are together of bulk at most 1048576: NARROWER than '..Said'. Prove '..Said' where nothing that the law and all that it calls make is longer than what came in: it says more and counts as full. Else prove '..UptoSaid'. A law counts once. -/
mutual
def uptoBulk {H : Type} : DataW H → Nat
  | .lit (.string bytes) => bytes.length + 1
  | .lit _ => 1
  | .nil => 1
  | .ptr d => uptoBulk d + 1
  | .slice elems spare => uptoBulkAll elems + uptoBulkAll spare + 1
  | .agg parts => uptoBulkAll parts + 1
  | .iface _ d => uptoBulk d + 1
  | .map entries => uptoBulkEntries entries + 1
  | .held _ => 1
def uptoBulkAll {H : Type} : List (DataW H) → Nat
  | [] => 0
  | d :: r => uptoBulk d + uptoBulkAll r
def uptoBulkEntries {H : Type} : List (Lit × DataW H) → Nat
  | [] => 0
  | x :: r => uptoBulkEntry x + uptoBulkEntries r
def uptoBulkEntry {H : Type} : Lit × DataW H → Nat
  | (.string bytes, d) => bytes.length + uptoBulk d + 1
  | (_, d) => uptoBulk d + 1
 end
def uptoSmall : (H : Type) → List (DataW H) → Bool := fun _ ds => decide (uptoBulkAll ds ≤ 1048576)
def OpenSpec.upto (s : _root_.Go.ChangeSpec) : _root_.Go.OpenSpec := { _root_.Go.OpenSpec.ofChange s with cond := some uptoSmall }

/-- 'morainelaw06.BankOpens', WHERE WHAT IT READS IS OF BULK AT MOST 1048576: true; the input reads as it did. -/
def bankOpensUptoRow : OpenClaim := { program := "ytoiidhpohghiaaa", sum := "9ea9b949d9a4932fbdbe070381190cdd90242e3e6199ff12f119181508dfe50a", func := "moraine/morainelaw06.BankOpens", spec := "bankOpens", apart := false, narrowed := true }
def BankOpensUptoSaid : Prop := bankOpensUptoRow.holds Try.pinned (OpenSpec.upto bankOpensSpec)

/-- 'morainelaw06.BankSpare', WHERE WHAT IT READS IS OF BULK AT MOST 1048576: true; the input reads as it did. -/
def bankSpareUptoRow : OpenClaim := { program := "ytoiidhpohghiaaa", sum := "9ea9b949d9a4932fbdbe070381190cdd90242e3e6199ff12f119181508dfe50a", func := "moraine/morainelaw06.BankSpare", spec := "bankSpare", unfollowed := true, recurses := true, apart := false, narrowed := true }
def BankSpareUptoSaid : Prop := bankSpareUptoRow.holds Try.pinned (OpenSpec.upto bankSpareSpec)

/-- 'morainelaw06.BankBad', WHERE WHAT IT READS IS OF BULK AT MOST 1048576: true; the input reads as it did. -/
def bankBadUptoRow : OpenClaim := { program := "ytoiidhpohghiaaa", sum := "9ea9b949d9a4932fbdbe070381190cdd90242e3e6199ff12f119181508dfe50a", func := "moraine/morainelaw06.BankBad", spec := "bankBad", unfollowed := true, recurses := true, apart := false, narrowed := true }
def BankBadUptoSaid : Prop := bankBadUptoRow.holds Try.pinned (OpenSpec.upto bankBadSpec)

/-- 'morainelaw06.BankLasts', WHERE WHAT IT READS IS OF BULK AT MOST 1048576: true; the input reads as it did. -/
def bankLastsUptoRow : OpenClaim := { program := "ytoiidhpohghiaaa", sum := "9ea9b949d9a4932fbdbe070381190cdd90242e3e6199ff12f119181508dfe50a", func := "moraine/morainelaw06.BankLasts", spec := "bankLasts", unfollowed := true, recurses := true, apart := false, narrowed := true }
def BankLastsUptoSaid : Prop := bankLastsUptoRow.holds Try.pinned (OpenSpec.upto bankLastsSpec)

end Rows
end Go.Proofs.Ytoiidhpohghiaaa
