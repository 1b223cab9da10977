/-
  No cell of these rows narrows 'for every input' (looked for: loops, veiled, ifaces, maps, wideKeys, modest, calm, conditions, laid).
  DERIVED. THE GIVEN ROWS OF THIS SEAT. 8 by the template 'for every input the law returns true; each argument reads behind the call as it read before'; 0 by the template 'total and deterministic' (their statements: YtegcjpocdfmpfaaTotals.lean).
  GIVEN WITH THE SEED: the statements are not yours to turn. If you find one false, say at which input.
  Laid BY PROGRAM, IN A SANDBOX (cutbox-rows.mjs): the forced cells as the released guide's own fill.sh prints them over the translation f956a440a8402824… (all of the seat's roots in one cut). By AI agents, Wed Nov 11 2026. No macro, syntax, notation, axiom, sorry.
-/
import Derived.Test.YtegcjpocdfmpfaaChecked
import GoSem.Claim
import GoSem.ClaimJoined
import GoSem.ClaimMapViews
import Derived.JoinedTies
import Derived.KernelRfl
namespace Go.Proofs.Ytegcjpocdfmpfaa
/- THE CELL 'sum', in the pinned program and in every row, IS THE sha256 OF THE DUMP (.gsa) THAT YtegcjpocdfmpfaaProg.lean LOADS. Nothing in Lean hashes anything: it is a label: what it is worth is what the hold of that sum in a sandbox is worth. -/
noncomputable def Try.pinned : Pinned := { name := "ytegcjpocdfmpfaa", sum := "f956a440a8402824fbae1104ed754d253fa51a05d8006a16e49df42ba98ac504", checked := Try.checked }
namespace Rows
def none {H : Type} : Left H := { results := [], args := [] }

/-- 'morainelaw16.MetaBuilds': WHATEVER THE INPUT: true; the input reads as it did. -/
def metaBuildsSpec : ChangeSpec := { name := "metaBuilds", fn := fun _ => fun
  | [d1, d2, d3] => { results := [.lit (.bool true)], args := [d1, d2, d3] }
  | _ => none }
def metaBuildsRow : OpenClaim := { program := "ytegcjpocdfmpfaa", sum := "f956a440a8402824fbae1104ed754d253fa51a05d8006a16e49df42ba98ac504", func := "moraine/morainelaw16.MetaBuilds", spec := "metaBuilds", unfollowed := true, recurses := true, apart := false }
def MetaBuildsSaid : Prop := metaBuildsRow.holds Try.pinned (OpenSpec.ofChange metaBuildsSpec)

/-- ITS FALSE NEIGHBOUR: 'it returns false'. Refute it at one input. -/
def metaBuildsWrong : ChangeSpec := { name := "metaBuilds", fn := fun _ => fun
  | [d1, d2, d3] => { results := [.lit (.bool false)], args := [d1, d2, d3] }
  | _ => none }
def MetaBuildsWrongFalsely : Prop := metaBuildsRow.holds Try.pinned (OpenSpec.ofChange metaBuildsWrong)

/-- 'morainelaw16.MetaLoads': WHATEVER THE INPUT: true; the input reads as it did. -/
def metaLoadsSpec : ChangeSpec := { name := "metaLoads", fn := fun _ => fun
  | [d1, d2, d3, d4] => { results := [.lit (.bool true)], args := [d1, d2, d3, d4] }
  | _ => none }
def metaLoadsRow : OpenClaim := { program := "ytegcjpocdfmpfaa", sum := "f956a440a8402824fbae1104ed754d253fa51a05d8006a16e49df42ba98ac504", func := "moraine/morainelaw16.MetaLoads", spec := "metaLoads", unfollowed := true, recurses := true, apart := false }
def MetaLoadsSaid : Prop := metaLoadsRow.holds Try.pinned (OpenSpec.ofChange metaLoadsSpec)

/-- ITS FALSE NEIGHBOUR: 'it returns false'. Refute it at one input. -/
def metaLoadsWrong : ChangeSpec := { name := "metaLoads", fn := fun _ => fun
  | [d1, d2, d3, d4] => { results := [.lit (.bool false)], args := [d1, d2, d3, d4] }
  | _ => none }
def MetaLoadsWrongFalsely : Prop := metaLoadsRow.holds Try.pinned (OpenSpec.ofChange metaLoadsWrong)

/-- 'morainelaw16.MetaBack': WHATEVER THE INPUT: true; the input reads as it did. -/
def metaBackSpec : ChangeSpec := { name := "metaBack", fn := fun _ => fun
  | [d1, d2, d3] => { results := [.lit (.bool true)], args := [d1, d2, d3] }
  | _ => none }
def metaBackRow : OpenClaim := { program := "ytegcjpocdfmpfaa", sum := "f956a440a8402824fbae1104ed754d253fa51a05d8006a16e49df42ba98ac504", func := "moraine/morainelaw16.MetaBack", spec := "metaBack", unfollowed := true, recurses := true, apart := false }
def MetaBackSaid : Prop := metaBackRow.holds Try.pinned (OpenSpec.ofChange metaBackSpec)

/-- ITS FALSE NEIGHBOUR: 'it returns false'. Refute it at one input. -/
def metaBackWrong : ChangeSpec := { name := "metaBack", fn := fun _ => fun
  | [d1, d2, d3] => { results := [.lit (.bool false)], args := [d1, d2, d3] }
  | _ => none }
def MetaBackWrongFalsely : Prop := metaBackRow.holds Try.pinned (OpenSpec.ofChange metaBackWrong)

/-- 'morainelaw16.MetaTurned': WHATEVER THE INPUT: true; the input reads as it did. -/
def metaTurnedSpec : ChangeSpec := { name := "metaTurned", fn := fun _ => fun
  | [d1, d2, d3, d4] => { results := [.lit (.bool true)], args := [d1, d2, d3, d4] }
  | _ => none }
def metaTurnedRow : OpenClaim := { program := "ytegcjpocdfmpfaa", sum := "f956a440a8402824fbae1104ed754d253fa51a05d8006a16e49df42ba98ac504", func := "moraine/morainelaw16.MetaTurned", spec := "metaTurned", unfollowed := true, recurses := true, apart := false }
def MetaTurnedSaid : Prop := metaTurnedRow.holds Try.pinned (OpenSpec.ofChange metaTurnedSpec)

/-- ITS FALSE NEIGHBOUR: 'it returns false'. Refute it at one input. -/
def metaTurnedWrong : ChangeSpec := { name := "metaTurned", fn := fun _ => fun
  | [d1, d2, d3, d4] => { results := [.lit (.bool false)], args := [d1, d2, d3, d4] }
  | _ => none }
def MetaTurnedWrongFalsely : Prop := metaTurnedRow.holds Try.pinned (OpenSpec.ofChange metaTurnedWrong)

/-- 'morainelaw17.FileBytes': WHATEVER THE INPUT: true; the input reads as it did. -/
def fileBytesSpec : ChangeSpec := { name := "fileBytes", fn := fun _ => fun
  | [d] => { results := [.lit (.bool true)], args := [d] }
  | _ => none }
def fileBytesRow : OpenClaim := { program := "ytegcjpocdfmpfaa", sum := "f956a440a8402824fbae1104ed754d253fa51a05d8006a16e49df42ba98ac504", func := "moraine/morainelaw17.FileBytes", spec := "fileBytes", unfollowed := true, recurses := true, apart := false }
def FileBytesSaid : Prop := fileBytesRow.holds Try.pinned (OpenSpec.ofChange fileBytesSpec)

/-- ITS FALSE NEIGHBOUR: 'it returns false'. Refute it at one input. -/
def fileBytesWrong : ChangeSpec := { name := "fileBytes", fn := fun _ => fun
  | [d] => { results := [.lit (.bool false)], args := [d] }
  | _ => none }
def FileBytesWrongFalsely : Prop := fileBytesRow.holds Try.pinned (OpenSpec.ofChange fileBytesWrong)

/-- 'morainelaw17.FileErrors': WHATEVER THE INPUT: true; the input reads as it did. -/
def fileErrorsSpec : ChangeSpec := { name := "fileErrors", fn := fun _ => fun
  | [d1, d2, d3, d4] => { results := [.lit (.bool true)], args := [d1, d2, d3, d4] }
  | _ => none }
def fileErrorsRow : OpenClaim := { program := "ytegcjpocdfmpfaa", sum := "f956a440a8402824fbae1104ed754d253fa51a05d8006a16e49df42ba98ac504", func := "moraine/morainelaw17.FileErrors", spec := "fileErrors", unfollowed := true, recurses := true, apart := false }
def FileErrorsSaid : Prop := fileErrorsRow.holds Try.pinned (OpenSpec.ofChange fileErrorsSpec)

/-- ITS FALSE NEIGHBOUR: 'it returns false'. Refute it at one input. -/
def fileErrorsWrong : ChangeSpec := { name := "fileErrors", fn := fun _ => fun
  | [d1, d2, d3, d4] => { results := [.lit (.bool false)], args := [d1, d2, d3, d4] }
  | _ => none }
def FileErrorsWrongFalsely : Prop := fileErrorsRow.holds Try.pinned (OpenSpec.ofChange fileErrorsWrong)

/-- 'morainelaw17.FileParts': WHATEVER THE INPUT: true; the input reads as it did. -/
def filePartsSpec : ChangeSpec := { name := "fileParts", fn := fun _ => fun
  | [d1, d2, d3, d4] => { results := [.lit (.bool true)], args := [d1, d2, d3, d4] }
  | _ => none }
def filePartsRow : OpenClaim := { program := "ytegcjpocdfmpfaa", sum := "f956a440a8402824fbae1104ed754d253fa51a05d8006a16e49df42ba98ac504", func := "moraine/morainelaw17.FileParts", spec := "fileParts", unfollowed := true, recurses := true, apart := false }
def FilePartsSaid : Prop := filePartsRow.holds Try.pinned (OpenSpec.ofChange filePartsSpec)

/-- ITS FALSE NEIGHBOUR: 'it returns false'. Refute it at one input. -/
def filePartsWrong : ChangeSpec := { name := "fileParts", fn := fun _ => fun
  | [d1, d2, d3, d4] => { results := [.lit (.bool false)], args := [d1, d2, d3, d4] }
  | _ => none }
def FilePartsWrongFalsely : Prop := filePartsRow.holds Try.pinned (OpenSpec.ofChange filePartsWrong)

/-- 'morainelaw17.FileClones': WHATEVER THE INPUT: true; the input reads as it did. -/
def fileClonesSpec : ChangeSpec := { name := "fileClones", fn := fun _ => fun
  | [d1, d2, d3] => { results := [.lit (.bool true)], args := [d1, d2, d3] }
  | _ => none }
def fileClonesRow : OpenClaim := { program := "ytegcjpocdfmpfaa", sum := "f956a440a8402824fbae1104ed754d253fa51a05d8006a16e49df42ba98ac504", func := "moraine/morainelaw17.FileClones", spec := "fileClones", inPlace := ["maps.clone"], unfollowed := true, recurses := true, apart := false }
def FileClonesSaid : Prop := fileClonesRow.holds Try.pinned (OpenSpec.ofChange fileClonesSpec)

/-- ITS FALSE NEIGHBOUR: 'it returns false'. Refute it at one input. -/
def fileClonesWrong : ChangeSpec := { name := "fileClones", fn := fun _ => fun
  | [d1, d2, d3] => { results := [.lit (.bool false)], args := [d1, d2, d3] }
  | _ => none }
def FileClonesWrongFalsely : Prop := fileClonesRow.holds Try.pinned (OpenSpec.ofChange fileClonesWrong)

/- THE SECOND FORM. 'bulk': how many values and letters a reading holds, each counted each time it is reached (what is shared counts as often as it is met; a slice's spare places count too). A statement '..UptoSaid' is the law's where the arguments, and the package variables that the reading takes, are together of bulk at most 1048576: NARROWER than '..Said'. Prove '..Said' where nothing that the law and all that it calls make is longer than what came in: it says more and counts as full. Else prove '..UptoSaid'. A law counts once. -/
mutual
def uptoBulk {H : Type} : DataW H → Nat
  | .lit (.string bytes) => bytes.length + 1
  | .lit _ => 1
  | .nil => 1
  | .ptr d => uptoBulk d + 1
  | .slice elems spare => uptoBulkAll elems + uptoBulkAll spare + 1
  | .agg parts => uptoBulkAll parts + 1
  | .iface _ d => uptoBulk d + 1
  | .map entries => uptoBulkEntries entries + 1
  | .held _ => 1
def uptoBulkAll {H : Type} : List (DataW H) → Nat
  | [] => 0
  | d :: r => uptoBulk d + uptoBulkAll r
def uptoBulkEntries {H : Type} : List (Lit × DataW H) → Nat
  | [] => 0
  | x :: r => uptoBulkEntry x + uptoBulkEntries r
def uptoBulkEntry {H : Type} : Lit × DataW H → Nat
  | (.string bytes, d) => bytes.length + uptoBulk d + 1
  | (_, d) => uptoBulk d + 1
 end
def uptoSmall : (H : Type) → List (DataW H) → Bool := fun _ ds => decide (uptoBulkAll ds ≤ 1048576)
def OpenSpec.upto (s : _root_.Go.ChangeSpec) : _root_.Go.OpenSpec := { _root_.Go.OpenSpec.ofChange s with cond := some uptoSmall }

/-- 'morainelaw16.MetaBuilds', WHERE WHAT IT READS IS OF BULK AT MOST 1048576: true; the input reads as it did. -/
def metaBuildsUptoRow : OpenClaim := { program := "ytegcjpocdfmpfaa", sum := "f956a440a8402824fbae1104ed754d253fa51a05d8006a16e49df42ba98ac504", func := "moraine/morainelaw16.MetaBuilds", spec := "metaBuilds", unfollowed := true, recurses := true, apart := false, narrowed := true }
def MetaBuildsUptoSaid : Prop := metaBuildsUptoRow.holds Try.pinned (OpenSpec.upto metaBuildsSpec)

/-- 'morainelaw16.MetaLoads', WHERE WHAT IT READS IS OF BULK AT MOST 1048576: true; the input reads as it did. -/
def metaLoadsUptoRow : OpenClaim := { program := "ytegcjpocdfmpfaa", sum := "f956a440a8402824fbae1104ed754d253fa51a05d8006a16e49df42ba98ac504", func := "moraine/morainelaw16.MetaLoads", spec := "metaLoads", unfollowed := true, recurses := true, apart := false, narrowed := true }
def MetaLoadsUptoSaid : Prop := metaLoadsUptoRow.holds Try.pinned (OpenSpec.upto metaLoadsSpec)

/-- 'morainelaw16.MetaBack', WHERE WHAT IT READS IS OF BULK AT MOST 1048576: true; the input reads as it did. -/
def metaBackUptoRow : OpenClaim := { program := "ytegcjpocdfmpfaa", sum := "f956a440a8402824fbae1104ed754d253fa51a05d8006a16e49df42ba98ac504", func := "moraine/morainelaw16.MetaBack", spec := "metaBack", unfollowed := true, recurses := true, apart := false, narrowed := true }
def MetaBackUptoSaid : Prop := metaBackUptoRow.holds Try.pinned (OpenSpec.upto metaBackSpec)

/-- 'morainelaw16.MetaTurned', WHERE WHAT IT READS IS OF BULK AT MOST 1048576: true; the input reads as it did. -/
def metaTurnedUptoRow : OpenClaim := { program := "ytegcjpocdfmpfaa", sum := "f956a440a8402824fbae1104ed754d253fa51a05d8006a16e49df42ba98ac504", func := "moraine/morainelaw16.MetaTurned", spec := "metaTurned", unfollowed := true, recurses := true, apart := false, narrowed := true }
def MetaTurnedUptoSaid : Prop := metaTurnedUptoRow.holds Try.pinned (OpenSpec.upto metaTurnedSpec)

/-- 'morainelaw17.FileBytes', WHERE WHAT IT READS IS OF BULK AT MOST 1048576: true; the input reads as it did. -/
def fileBytesUptoRow : OpenClaim := { program := "ytegcjpocdfmpfaa", sum := "f956a440a8402824fbae1104ed754d253fa51a05d8006a16e49df42ba98ac504", func := "moraine/morainelaw17.FileBytes", spec := "fileBytes", unfollowed := true, recurses := true, apart := false, narrowed := true }
def FileBytesUptoSaid : Prop := fileBytesUptoRow.holds Try.pinned (OpenSpec.upto fileBytesSpec)

/-- 'morainelaw17.FileErrors', WHERE WHAT IT READS IS OF BULK AT MOST 1048576: true; the input reads as it did. -/
def fileErrorsUptoRow : OpenClaim := { program := "ytegcjpocdfmpfaa", sum := "f956a440a8402824fbae1104ed754d253fa51a05d8006a16e49df42ba98ac504", func := "moraine/morainelaw17.FileErrors", spec := "fileErrors", unfollowed := true, recurses := true, apart := false, narrowed := true }
def FileErrorsUptoSaid : Prop := fileErrorsUptoRow.holds Try.pinned (OpenSpec.upto fileErrorsSpec)

/-- 'morainelaw17.FileParts', WHERE WHAT IT READS IS OF BULK AT MOST 1048576: true; the input reads as it did. -/
def filePartsUptoRow : OpenClaim := { program := "ytegcjpocdfmpfaa", sum := "f956a440a8402824fbae1104ed754d253fa51a05d8006a16e49df42ba98ac504", func := "moraine/morainelaw17.FileParts", spec := "fileParts", unfollowed := true, recurses := true, apart := false, narrowed := true }
def FilePartsUptoSaid : Prop := filePartsUptoRow.holds Try.pinned (OpenSpec.upto filePartsSpec)

/-- 'morainelaw17.FileClones', WHERE WHAT IT READS IS OF BULK AT MOST 1048576: true; the input reads as it did. -/
def fileClonesUptoRow : OpenClaim := { program := "ytegcjpocdfmpfaa", sum := "f956a440a8402824fbae1104ed754d253fa51a05d8006a16e49df42ba98ac504", func := "moraine/morainelaw17.FileClones", spec := "fileClones", inPlace := ["maps.clone"], unfollowed := true, recurses := true, apart := false, narrowed := true }
def FileClonesUptoSaid : Prop := fileClonesUptoRow.holds Try.pinned (OpenSpec.upto fileClonesSpec)

end Rows
end Go.Proofs.Ytegcjpocdfmpfaa
