/-
  No cell of these rows narrows 'for every input' (looked for: loops, veiled, ifaces, maps, wideKeys, modest, calm, conditions, laid).
  DERIVED. THE GIVEN ROWS OF THIS SEAT. 6 by the template 'for every input the law returns true; each argument reads behind the call as it read before'; 0 by the template 'total and deterministic' (their statements: YtcloedhocbkigaaTotals.lean).
  GIVEN WITH THE SEED: the statements are not yours to turn. If you find one false, say at which input.
  Laid BY PROGRAM, IN A SANDBOX (cutbox-rows.mjs): the forced cells as the released guide's own fill.sh prints them over the translation 4a90fb4fa5a9773f… (all of the seat's roots in one cut). By AI agents, Wed Nov 11 2026. No macro, syntax, notation, axiom, sorry.
-/
import Derived.Test.YtcloedhocbkigaaChecked
import GoSem.Claim
import GoSem.ClaimJoined
import GoSem.ClaimMapViews
import Derived.JoinedTies
import Derived.KernelRfl
namespace Go.Proofs.Ytcloedhocbkigaa
/- THE CELL 'sum', in the pinned program and in every row, IS THE sha256 OF THE DUMP (.gsa) THAT YtcloedhocbkigaaProg.lean LOADS. Nothing in Lean hashes anything: it is a label: what it is worth is what the hold of that sum in a sandbox is worth. -/
noncomputable def Try.pinned : Pinned := { name := "ytcloedhocbkigaa", sum := "4a90fb4fa5a9773f3d1a2b118079b8a84d1f69cdd0c9632e6e08ae5dc9252734", checked := Try.checked }
namespace Rows
def none {H : Type} : Left H := { results := [], args := [] }

/-- 'morainelaw01.BitsNumbers': WHATEVER THE INPUT: true; the input reads as it did. -/
def bitsNumbersSpec : ChangeSpec := { name := "bitsNumbers", fn := fun _ => fun
  | [d1, d2, d3, d4] => { results := [.lit (.bool true)], args := [d1, d2, d3, d4] }
  | _ => none }
def bitsNumbersRow : OpenClaim := { program := "ytcloedhocbkigaa", sum := "4a90fb4fa5a9773f3d1a2b118079b8a84d1f69cdd0c9632e6e08ae5dc9252734", func := "moraine/morainelaw01.BitsNumbers", spec := "bitsNumbers", apart := false }
def BitsNumbersSaid : Prop := bitsNumbersRow.holds Try.pinned (OpenSpec.ofChange bitsNumbersSpec)

/-- ITS FALSE NEIGHBOUR: 'it returns false'. Refute it at one input. -/
def bitsNumbersWrong : ChangeSpec := { name := "bitsNumbers", fn := fun _ => fun
  | [d1, d2, d3, d4] => { results := [.lit (.bool false)], args := [d1, d2, d3, d4] }
  | _ => none }
def BitsNumbersWrongFalsely : Prop := bitsNumbersRow.holds Try.pinned (OpenSpec.ofChange bitsNumbersWrong)

/-- 'morainelaw01.BitsBytes': WHATEVER THE INPUT: true; the input reads as it did. -/
def bitsBytesSpec : ChangeSpec := { name := "bitsBytes", fn := fun _ => fun
  | [d1, d2, d3] => { results := [.lit (.bool true)], args := [d1, d2, d3] }
  | _ => none }
def bitsBytesRow : OpenClaim := { program := "ytcloedhocbkigaa", sum := "4a90fb4fa5a9773f3d1a2b118079b8a84d1f69cdd0c9632e6e08ae5dc9252734", func := "moraine/morainelaw01.BitsBytes", spec := "bitsBytes", apart := false }
def BitsBytesSaid : Prop := bitsBytesRow.holds Try.pinned (OpenSpec.ofChange bitsBytesSpec)

/-- ITS FALSE NEIGHBOUR: 'it returns false'. Refute it at one input. -/
def bitsBytesWrong : ChangeSpec := { name := "bitsBytes", fn := fun _ => fun
  | [d1, d2, d3] => { results := [.lit (.bool false)], args := [d1, d2, d3] }
  | _ => none }
def BitsBytesWrongFalsely : Prop := bitsBytesRow.holds Try.pinned (OpenSpec.ofChange bitsBytesWrong)

/-- 'morainelaw01.BitsBack': WHATEVER THE INPUT: true; the input reads as it did. -/
def bitsBackSpec : ChangeSpec := { name := "bitsBack", fn := fun _ => fun
  | [d1, d2, d3, d4] => { results := [.lit (.bool true)], args := [d1, d2, d3, d4] }
  | _ => none }
def bitsBackRow : OpenClaim := { program := "ytcloedhocbkigaa", sum := "4a90fb4fa5a9773f3d1a2b118079b8a84d1f69cdd0c9632e6e08ae5dc9252734", func := "moraine/morainelaw01.BitsBack", spec := "bitsBack", apart := false }
def BitsBackSaid : Prop := bitsBackRow.holds Try.pinned (OpenSpec.ofChange bitsBackSpec)

/-- ITS FALSE NEIGHBOUR: 'it returns false'. Refute it at one input. -/
def bitsBackWrong : ChangeSpec := { name := "bitsBack", fn := fun _ => fun
  | [d1, d2, d3, d4] => { results := [.lit (.bool false)], args := [d1, d2, d3, d4] }
  | _ => none }
def BitsBackWrongFalsely : Prop := bitsBackRow.holds Try.pinned (OpenSpec.ofChange bitsBackWrong)

/-- 'morainelaw01.BitsXor': WHATEVER THE INPUT: true; the input reads as it did. -/
def bitsXorSpec : ChangeSpec := { name := "bitsXor", fn := fun _ => fun
  | [d1, d2, d3] => { results := [.lit (.bool true)], args := [d1, d2, d3] }
  | _ => none }
def bitsXorRow : OpenClaim := { program := "ytcloedhocbkigaa", sum := "4a90fb4fa5a9773f3d1a2b118079b8a84d1f69cdd0c9632e6e08ae5dc9252734", func := "moraine/morainelaw01.BitsXor", spec := "bitsXor", apart := false }
def BitsXorSaid : Prop := bitsXorRow.holds Try.pinned (OpenSpec.ofChange bitsXorSpec)

/-- ITS FALSE NEIGHBOUR: 'it returns false'. Refute it at one input. -/
def bitsXorWrong : ChangeSpec := { name := "bitsXor", fn := fun _ => fun
  | [d1, d2, d3] => { results := [.lit (.bool false)], args := [d1, d2, d3] }
  | _ => none }
def BitsXorWrongFalsely : Prop := bitsXorRow.holds Try.pinned (OpenSpec.ofChange bitsXorWrong)

/-- 'morainelaw01.BitsPad': WHATEVER THE INPUT: true; the input reads as it did. -/
def bitsPadSpec : ChangeSpec := { name := "bitsPad", fn := fun _ => fun
  | [d1, d2] => { results := [.lit (.bool true)], args := [d1, d2] }
  | _ => none }
def bitsPadRow : OpenClaim := { program := "ytcloedhocbkigaa", sum := "4a90fb4fa5a9773f3d1a2b118079b8a84d1f69cdd0c9632e6e08ae5dc9252734", func := "moraine/morainelaw01.BitsPad", spec := "bitsPad", apart := false }
def BitsPadSaid : Prop := bitsPadRow.holds Try.pinned (OpenSpec.ofChange bitsPadSpec)

/-- ITS FALSE NEIGHBOUR: 'it returns false'. Refute it at one input. -/
def bitsPadWrong : ChangeSpec := { name := "bitsPad", fn := fun _ => fun
  | [d1, d2] => { results := [.lit (.bool false)], args := [d1, d2] }
  | _ => none }
def BitsPadWrongFalsely : Prop := bitsPadRow.holds Try.pinned (OpenSpec.ofChange bitsPadWrong)

/-- 'morainelaw01.BitsWider': WHATEVER THE INPUT: true; the input reads as it did. -/
def bitsWiderSpec : ChangeSpec := { name := "bitsWider", fn := fun _ => fun
  | [d1, d2] => { results := [.lit (.bool true)], args := [d1, d2] }
  | _ => none }
def bitsWiderRow : OpenClaim := { program := "ytcloedhocbkigaa", sum := "4a90fb4fa5a9773f3d1a2b118079b8a84d1f69cdd0c9632e6e08ae5dc9252734", func := "moraine/morainelaw01.BitsWider", spec := "bitsWider", apart := false }
def BitsWiderSaid : Prop := bitsWiderRow.holds Try.pinned (OpenSpec.ofChange bitsWiderSpec)

/-- ITS FALSE NEIGHBOUR: 'it returns false'. Refute it at one input. -/
def bitsWiderWrong : ChangeSpec := { name := "bitsWider", fn := fun _ => fun
  | [d1, d2] => { results := [.lit (.bool false)], args := [d1, d2] }
  | _ => none }
def BitsWiderWrongFalsely : Prop := bitsWiderRow.holds Try.pinned (OpenSpec.ofChange bitsWiderWrong)

/- THE SECOND FORM. 'bulk': how many values and letters a reading holds, each counted each time it is reached (what is shared counts as often as it is met; a slice's spare places count too). A statement '..UptoSaid' is the law's where the arguments, and the package variables that the reading takes, are together of bulk at most 1048576: NARROWER than '..Said'. Prove '..Said' where nothing that the law and all that it calls make is longer than what came in: it says more and counts as full. Else prove '..UptoSaid'. A law counts once. -/
mutual
def uptoBulk {H : Type} : DataW H → Nat
  | .lit (.string bytes) => bytes.length + 1
  | .lit _ => 1
  | .nil => 1
  | .ptr d => uptoBulk d + 1
  | .slice elems spare => uptoBulkAll elems + uptoBulkAll spare + 1
  | .agg parts => uptoBulkAll parts + 1
  | .iface _ d => uptoBulk d + 1
  | .map entries => uptoBulkEntries entries + 1
  | .held _ => 1
def uptoBulkAll {H : Type} : List (DataW H) → Nat
  | [] => 0
  | d :: r => uptoBulk d + uptoBulkAll r
def uptoBulkEntries {H : Type} : List (Lit × DataW H) → Nat
  | [] => 0
  | x :: r => uptoBulkEntry x + uptoBulkEntries r
def uptoBulkEntry {H : Type} : Lit × DataW H → Nat
  | (.string bytes, d) => bytes.length + uptoBulk d + 1
  | (_, d) => uptoBulk d + 1
 end
def uptoSmall : (H : Type) → List (DataW H) → Bool := fun _ ds => decide (uptoBulkAll ds ≤ 1048576)
def OpenSpec.upto (s : _root_.Go.ChangeSpec) : _root_.Go.OpenSpec := { _root_.Go.OpenSpec.ofChange s with cond := some uptoSmall }

/-- 'morainelaw01.BitsNumbers', WHERE WHAT IT READS IS OF BULK AT MOST 1048576: true; the input reads as it did. -/
def bitsNumbersUptoRow : OpenClaim := { program := "ytcloedhocbkigaa", sum := "4a90fb4fa5a9773f3d1a2b118079b8a84d1f69cdd0c9632e6e08ae5dc9252734", func := "moraine/morainelaw01.BitsNumbers", spec := "bitsNumbers", apart := false, narrowed := true }
def BitsNumbersUptoSaid : Prop := bitsNumbersUptoRow.holds Try.pinned (OpenSpec.upto bitsNumbersSpec)

/-- 'morainelaw01.BitsBytes', WHERE WHAT IT READS IS OF BULK AT MOST 1048576: true; the input reads as it did. -/
def bitsBytesUptoRow : OpenClaim := { program := "ytcloedhocbkigaa", sum := "4a90fb4fa5a9773f3d1a2b118079b8a84d1f69cdd0c9632e6e08ae5dc9252734", func := "moraine/morainelaw01.BitsBytes", spec := "bitsBytes", apart := false, narrowed := true }
def BitsBytesUptoSaid : Prop := bitsBytesUptoRow.holds Try.pinned (OpenSpec.upto bitsBytesSpec)

/-- 'morainelaw01.BitsBack', WHERE WHAT IT READS IS OF BULK AT MOST 1048576: true; the input reads as it did. -/
def bitsBackUptoRow : OpenClaim := { program := "ytcloedhocbkigaa", sum := "4a90fb4fa5a9773f3d1a2b118079b8a84d1f69cdd0c9632e6e08ae5dc9252734", func := "moraine/morainelaw01.BitsBack", spec := "bitsBack", apart := false, narrowed := true }
def BitsBackUptoSaid : Prop := bitsBackUptoRow.holds Try.pinned (OpenSpec.upto bitsBackSpec)

/-- 'morainelaw01.BitsXor', WHERE WHAT IT READS IS OF BULK AT MOST 1048576: true; the input reads as it did. -/
def bitsXorUptoRow : OpenClaim := { program := "ytcloedhocbkigaa", sum := "4a90fb4fa5a9773f3d1a2b118079b8a84d1f69cdd0c9632e6e08ae5dc9252734", func := "moraine/morainelaw01.BitsXor", spec := "bitsXor", apart := false, narrowed := true }
def BitsXorUptoSaid : Prop := bitsXorUptoRow.holds Try.pinned (OpenSpec.upto bitsXorSpec)

/-- 'morainelaw01.BitsPad', WHERE WHAT IT READS IS OF BULK AT MOST 1048576: true; the input reads as it did. -/
def bitsPadUptoRow : OpenClaim := { program := "ytcloedhocbkigaa", sum := "4a90fb4fa5a9773f3d1a2b118079b8a84d1f69cdd0c9632e6e08ae5dc9252734", func := "moraine/morainelaw01.BitsPad", spec := "bitsPad", apart := false, narrowed := true }
def BitsPadUptoSaid : Prop := bitsPadUptoRow.holds Try.pinned (OpenSpec.upto bitsPadSpec)

/-- 'morainelaw01.BitsWider', WHERE WHAT IT READS IS OF BULK AT MOST 1048576: true; the input reads as it did. -/
def bitsWiderUptoRow : OpenClaim := { program := "ytcloedhocbkigaa", sum := "4a90fb4fa5a9773f3d1a2b118079b8a84d1f69cdd0c9632e6e08ae5dc9252734", func := "moraine/morainelaw01.BitsWider", spec := "bitsWider", apart := false, narrowed := true }
def BitsWiderUptoSaid : Prop := bitsWiderUptoRow.holds Try.pinned (OpenSpec.upto bitsWiderSpec)

end Rows
end Go.Proofs.Ytcloedhocbkigaa
