/-
  No cell of these rows narrows 'for every input' (looked for: loops, veiled, ifaces, maps, wideKeys, modest, calm, conditions, laid).
  DERIVED. THE GIVEN ROWS OF THIS SEAT. 7 by the template 'for every input the law returns true; each argument reads behind the call as it read before'; 0 by the template 'total and deterministic' (their statements: YtpmgagifpdamkaaTotals.lean).
  GIVEN WITH THE SEED: the statements are not yours to turn. If you find one false, say at which input.
  Laid BY PROGRAM, IN A SANDBOX (cutbox-rows.mjs): the forced cells as the released guide's own fill.sh prints them over the translation 6acdad279b4ce769… (all of the seat's roots in one cut). By AI agents, Wed Nov 11 2026. No macro, syntax, notation, axiom, sorry.
-/
import Derived.Test.YtpmgagifpdamkaaChecked
import GoSem.Claim
import GoSem.ClaimJoined
import GoSem.ClaimMapViews
import Derived.JoinedTies
import Derived.KernelRfl
namespace Go.Proofs.Ytpmgagifpdamkaa
/- THE CELL 'sum', in the pinned program and in every row, IS THE sha256 OF THE DUMP (.gsa) THAT YtpmgagifpdamkaaProg.lean LOADS. Nothing in Lean hashes anything: it is a label: what it is worth is what the hold of that sum in a sandbox is worth. -/
noncomputable def Try.pinned : Pinned := { name := "ytpmgagifpdamkaa", sum := "6acdad279b4ce7691f4198dfcf6a520b27c69aecd5f0fda64eecec09500b2b67", checked := Try.checked }
namespace Rows
def none {H : Type} : Left H := { results := [], args := [] }

/-- 'morainelaw16.MetaBuilds': WHATEVER THE INPUT: true; the input reads as it did. -/
def metaBuildsSpec : ChangeSpec := { name := "metaBuilds", fn := fun _ => fun
  | [d1, d2, d3] => { results := [.lit (.bool true)], args := [d1, d2, d3] }
  | _ => none }
def metaBuildsRow : OpenClaim := { program := "ytpmgagifpdamkaa", sum := "6acdad279b4ce7691f4198dfcf6a520b27c69aecd5f0fda64eecec09500b2b67", func := "moraine/morainelaw16.MetaBuilds", spec := "metaBuilds", unfollowed := true, recurses := true, apart := false }
def MetaBuildsSaid : Prop := metaBuildsRow.holds Try.pinned (OpenSpec.ofChange metaBuildsSpec)

/-- ITS FALSE NEIGHBOUR: 'it returns false'. Refute it at one input. -/
def metaBuildsWrong : ChangeSpec := { name := "metaBuilds", fn := fun _ => fun
  | [d1, d2, d3] => { results := [.lit (.bool false)], args := [d1, d2, d3] }
  | _ => none }
def MetaBuildsWrongFalsely : Prop := metaBuildsRow.holds Try.pinned (OpenSpec.ofChange metaBuildsWrong)

/-- 'morainelaw16.MetaLoads': WHATEVER THE INPUT: true; the input reads as it did. -/
def metaLoadsSpec : ChangeSpec := { name := "metaLoads", fn := fun _ => fun
  | [d1, d2, d3, d4] => { results := [.lit (.bool true)], args := [d1, d2, d3, d4] }
  | _ => none }
def metaLoadsRow : OpenClaim := { program := "ytpmgagifpdamkaa", sum := "6acdad279b4ce7691f4198dfcf6a520b27c69aecd5f0fda64eecec09500b2b67", func := "moraine/morainelaw16.MetaLoads", spec := "metaLoads", unfollowed := true, recurses := true, apart := false }
def MetaLoadsSaid : Prop := metaLoadsRow.holds Try.pinned (OpenSpec.ofChange metaLoadsSpec)

/-- ITS FALSE NEIGHBOUR: 'it returns false'. Refute it at one input. -/
def metaLoadsWrong : ChangeSpec := { name := "metaLoads", fn := fun _ => fun
  | [d1, d2, d3, d4] => { results := [.lit (.bool false)], args := [d1, d2, d3, d4] }
  | _ => none }
def MetaLoadsWrongFalsely : Prop := metaLoadsRow.holds Try.pinned (OpenSpec.ofChange metaLoadsWrong)

/-- 'morainelaw16.MetaBack': WHATEVER THE INPUT: true; the input reads as it did. -/
def metaBackSpec : ChangeSpec := { name := "metaBack", fn := fun _ => fun
  | [d1, d2, d3] => { results := [.lit (.bool true)], args := [d1, d2, d3] }
  | _ => none }
def metaBackRow : OpenClaim := { program := "ytpmgagifpdamkaa", sum := "6acdad279b4ce7691f4198dfcf6a520b27c69aecd5f0fda64eecec09500b2b67", func := "moraine/morainelaw16.MetaBack", spec := "metaBack", unfollowed := true, recurses := true, apart := false }
def MetaBackSaid : Prop := metaBackRow.holds Try.pinned (OpenSpec.ofChange metaBackSpec)

/-- ITS FALSE NEIGHBOUR: 'it returns false'. Refute it at one input. -/
def metaBackWrong : ChangeSpec := { name := "metaBack", fn := fun _ => fun
  | [d1, d2, d3] => { results := [.lit (.bool false)], args := [d1, d2, d3] }
  | _ => none }
def MetaBackWrongFalsely : Prop := metaBackRow.holds Try.pinned (OpenSpec.ofChange metaBackWrong)

/-- 'morainelaw16.MetaLost': WHATEVER THE INPUT: true; the input reads as it did. -/
def metaLostSpec : ChangeSpec := { name := "metaLost", fn := fun _ => fun
  | [d1, d2, d3] => { results := [.lit (.bool true)], args := [d1, d2, d3] }
  | _ => none }
def metaLostRow : OpenClaim := { program := "ytpmgagifpdamkaa", sum := "6acdad279b4ce7691f4198dfcf6a520b27c69aecd5f0fda64eecec09500b2b67", func := "moraine/morainelaw16.MetaLost", spec := "metaLost", unfollowed := true, recurses := true, apart := false }
def MetaLostSaid : Prop := metaLostRow.holds Try.pinned (OpenSpec.ofChange metaLostSpec)

/-- ITS FALSE NEIGHBOUR: 'it returns false'. Refute it at one input. -/
def metaLostWrong : ChangeSpec := { name := "metaLost", fn := fun _ => fun
  | [d1, d2, d3] => { results := [.lit (.bool false)], args := [d1, d2, d3] }
  | _ => none }
def MetaLostWrongFalsely : Prop := metaLostRow.holds Try.pinned (OpenSpec.ofChange metaLostWrong)

/-- 'morainelaw16.MetaNeeds': WHATEVER THE INPUT: true; the input reads as it did. -/
def metaNeedsSpec : ChangeSpec := { name := "metaNeeds", fn := fun _ => fun
  | [d1, d2] => { results := [.lit (.bool true)], args := [d1, d2] }
  | _ => none }
def metaNeedsRow : OpenClaim := { program := "ytpmgagifpdamkaa", sum := "6acdad279b4ce7691f4198dfcf6a520b27c69aecd5f0fda64eecec09500b2b67", func := "moraine/morainelaw16.MetaNeeds", spec := "metaNeeds", unfollowed := true, recurses := true, apart := false }
def MetaNeedsSaid : Prop := metaNeedsRow.holds Try.pinned (OpenSpec.ofChange metaNeedsSpec)

/-- ITS FALSE NEIGHBOUR: 'it returns false'. Refute it at one input. -/
def metaNeedsWrong : ChangeSpec := { name := "metaNeeds", fn := fun _ => fun
  | [d1, d2] => { results := [.lit (.bool false)], args := [d1, d2] }
  | _ => none }
def MetaNeedsWrongFalsely : Prop := metaNeedsRow.holds Try.pinned (OpenSpec.ofChange metaNeedsWrong)

/-- 'morainelaw16.MetaPlaces': WHATEVER THE INPUT: true; the input reads as it did. -/
def metaPlacesSpec : ChangeSpec := { name := "metaPlaces", fn := fun _ => fun
  | [d1, d2, d3, d4] => { results := [.lit (.bool true)], args := [d1, d2, d3, d4] }
  | _ => none }
def metaPlacesRow : OpenClaim := { program := "ytpmgagifpdamkaa", sum := "6acdad279b4ce7691f4198dfcf6a520b27c69aecd5f0fda64eecec09500b2b67", func := "moraine/morainelaw16.MetaPlaces", spec := "metaPlaces", unfollowed := true, recurses := true, apart := false }
def MetaPlacesSaid : Prop := metaPlacesRow.holds Try.pinned (OpenSpec.ofChange metaPlacesSpec)

/-- ITS FALSE NEIGHBOUR: 'it returns false'. Refute it at one input. -/
def metaPlacesWrong : ChangeSpec := { name := "metaPlaces", fn := fun _ => fun
  | [d1, d2, d3, d4] => { results := [.lit (.bool false)], args := [d1, d2, d3, d4] }
  | _ => none }
def MetaPlacesWrongFalsely : Prop := metaPlacesRow.holds Try.pinned (OpenSpec.ofChange metaPlacesWrong)

/-- 'morainelaw16.MetaTurned': WHATEVER THE INPUT: true; the input reads as it did. -/
def metaTurnedSpec : ChangeSpec := { name := "metaTurned", fn := fun _ => fun
  | [d1, d2, d3, d4] => { results := [.lit (.bool true)], args := [d1, d2, d3, d4] }
  | _ => none }
def metaTurnedRow : OpenClaim := { program := "ytpmgagifpdamkaa", sum := "6acdad279b4ce7691f4198dfcf6a520b27c69aecd5f0fda64eecec09500b2b67", func := "moraine/morainelaw16.MetaTurned", spec := "metaTurned", unfollowed := true, recurses := true, apart := false }
def MetaTurnedSaid : Prop := metaTurnedRow.holds Try.pinned (OpenSpec.ofChange metaTurnedSpec)

/-- ITS FALSE NEIGHBOUR: 'it returns false'. Refute it at one input. -/
def metaTurnedWrong : ChangeSpec := { name := "metaTurned", fn := fun _ => fun
  | [d1, d2, d3, d4] => { results := [.lit (.bool false)], args := [d1, d2, d3, d4] }
  | _ => none }
def MetaTurnedWrongFalsely : Prop := metaTurnedRow.holds Try.pinned (OpenSpec.ofChange metaTurnedWrong)

/- THE SECOND FORM. 'bulk': how many values and letters a reading holds, each counted each time it is reached (what is shared counts as often as it is met; a slice's spare places count too). A statement '..UptoSaid' is the law's where the arguments, and the package variables that the reading takes, are together of bulk at most 1048576: NARROWER than '..Said'. Prove '..Said' where nothing that the law and all that it calls make is longer than what came in: it says more and counts as full. Else prove '..UptoSaid'. A law counts once. -/
mutual
def uptoBulk {H : Type} : DataW H → Nat
  | .lit (.string bytes) => bytes.length + 1
  | .lit _ => 1
  | .nil => 1
  | .ptr d => uptoBulk d + 1
  | .slice elems spare => uptoBulkAll elems + uptoBulkAll spare + 1
  | .agg parts => uptoBulkAll parts + 1
  | .iface _ d => uptoBulk d + 1
  | .map entries => uptoBulkEntries entries + 1
  | .held _ => 1
def uptoBulkAll {H : Type} : List (DataW H) → Nat
  | [] => 0
  | d :: r => uptoBulk d + uptoBulkAll r
def uptoBulkEntries {H : Type} : List (Lit × DataW H) → Nat
  | [] => 0
  | x :: r => uptoBulkEntry x + uptoBulkEntries r
def uptoBulkEntry {H : Type} : Lit × DataW H → Nat
  | (.string bytes, d) => bytes.length + uptoBulk d + 1
  | (_, d) => uptoBulk d + 1
 end
def uptoSmall : (H : Type) → List (DataW H) → Bool := fun _ ds => decide (uptoBulkAll ds ≤ 1048576)
def OpenSpec.upto (s : _root_.Go.ChangeSpec) : _root_.Go.OpenSpec := { _root_.Go.OpenSpec.ofChange s with cond := some uptoSmall }

/-- 'morainelaw16.MetaBuilds', WHERE WHAT IT READS IS OF BULK AT MOST 1048576: true; the input reads as it did. -/
def metaBuildsUptoRow : OpenClaim := { program := "ytpmgagifpdamkaa", sum := "6acdad279b4ce7691f4198dfcf6a520b27c69aecd5f0fda64eecec09500b2b67", func := "moraine/morainelaw16.MetaBuilds", spec := "metaBuilds", unfollowed := true, recurses := true, apart := false, narrowed := true }
def MetaBuildsUptoSaid : Prop := metaBuildsUptoRow.holds Try.pinned (OpenSpec.upto metaBuildsSpec)

/-- 'morainelaw16.MetaLoads', WHERE WHAT IT READS IS OF BULK AT MOST 1048576: true; the input reads as it did. -/
def metaLoadsUptoRow : OpenClaim := { program := "ytpmgagifpdamkaa", sum := "6acdad279b4ce7691f4198dfcf6a520b27c69aecd5f0fda64eecec09500b2b67", func := "moraine/morainelaw16.MetaLoads", spec := "metaLoads", unfollowed := true, recurses := true, apart := false, narrowed := true }
def MetaLoadsUptoSaid : Prop := metaLoadsUptoRow.holds Try.pinned (OpenSpec.upto metaLoadsSpec)

/-- 'morainelaw16.MetaBack', WHERE WHAT IT READS IS OF BULK AT MOST 1048576: true; the input reads as it did. -/
def metaBackUptoRow : OpenClaim := { program := "ytpmgagifpdamkaa", sum := "6acdad279b4ce7691f4198dfcf6a520b27c69aecd5f0fda64eecec09500b2b67", func := "moraine/morainelaw16.MetaBack", spec := "metaBack", unfollowed := true, recurses := true, apart := false, narrowed := true }
def MetaBackUptoSaid : Prop := metaBackUptoRow.holds Try.pinned (OpenSpec.upto metaBackSpec)

/-- 'morainelaw16.MetaLost', WHERE WHAT IT READS IS OF BULK AT MOST 1048576: true; the input reads as it did. -/
def metaLostUptoRow : OpenClaim := { program := "ytpmgagifpdamkaa", sum := "6acdad279b4ce7691f4198dfcf6a520b27c69aecd5f0fda64eecec09500b2b67", func := "moraine/morainelaw16.MetaLost", spec := "metaLost", unfollowed := true, recurses := true, apart := false, narrowed := true }
def MetaLostUptoSaid : Prop := metaLostUptoRow.holds Try.pinned (OpenSpec.upto metaLostSpec)

/-- 'morainelaw16.MetaNeeds', WHERE WHAT IT READS IS OF BULK AT MOST 1048576: true; the input reads as it did. -/
def metaNeedsUptoRow : OpenClaim := { program := "ytpmgagifpdamkaa", sum := "6acdad279b4ce7691f4198dfcf6a520b27c69aecd5f0fda64eecec09500b2b67", func := "moraine/morainelaw16.MetaNeeds", spec := "metaNeeds", unfollowed := true, recurses := true, apart := false, narrowed := true }
def MetaNeedsUptoSaid : Prop := metaNeedsUptoRow.holds Try.pinned (OpenSpec.upto metaNeedsSpec)

/-- 'morainelaw16.MetaPlaces', WHERE WHAT IT READS IS OF BULK AT MOST 1048576: true; the input reads as it did. -/
def metaPlacesUptoRow : OpenClaim := { program := "ytpmgagifpdamkaa", sum := "6acdad279b4ce7691f4198dfcf6a520b27c69aecd5f0fda64eecec09500b2b67", func := "moraine/morainelaw16.MetaPlaces", spec := "metaPlaces", unfollowed := true, recurses := true, apart := false, narrowed := true }
def MetaPlacesUptoSaid : Prop := metaPlacesUptoRow.holds Try.pinned (OpenSpec.upto metaPlacesSpec)

/-- 'morainelaw16.MetaTurned', WHERE WHAT IT READS IS OF BULK AT MOST 1048576: true; the input reads as it did. -/
def metaTurnedUptoRow : OpenClaim := { program := "ytpmgagifpdamkaa", sum := "6acdad279b4ce7691f4198dfcf6a520b27c69aecd5f0fda64eecec09500b2b67", func := "moraine/morainelaw16.MetaTurned", spec := "metaTurned", unfollowed := true, recurses := true, apart := false, narrowed := true }
def MetaTurnedUptoSaid : Prop := metaTurnedUptoRow.holds Try.pinned (OpenSpec.upto metaTurnedSpec)

end Rows
end Go.Proofs.Ytpmgagifpdamkaa
