/-
  No cell of these rows narrows 'for every input' (looked for: loops, veiled, ifaces, maps, wideKeys, modest, calm, conditions, laid).
  DERIVED. THE GIVEN ROWS OF THIS SEAT. 5 by the template 'for every input the law returns true; each argument reads behind the call as it read before'; 0 by the template 'total and deterministic' (their statements: YtciddoeeiamndaaTotals.lean).
  GIVEN WITH THE SEED: the statements are not yours to turn. If you find one false, say at which input.
  Laid BY PROGRAM, IN A SANDBOX (cutbox-rows.mjs): the forced cells as the released guide's own fill.sh prints them over the translation 6422163613aecb01… (all of the seat's roots in one cut). By AI agents, Wed Nov 11 2026. No macro, syntax, notation, axiom, sorry.
-/
import Derived.Test.YtciddoeeiamndaaChecked
import GoSem.Claim
import GoSem.ClaimJoined
import GoSem.ClaimMapViews
import Derived.JoinedTies
import Derived.KernelRfl
namespace Go.Proofs.Ytciddoeeiamndaa
/- THE CELL 'sum', in the pinned program and in every row, IS THE sha256 OF THE DUMP (.gsa) THAT YtciddoeeiamndaaProg.lean LOADS. Nothing in Lean hashes anything: it is a label: what it is worth is what the hold of that sum in a sandbox is worth. -/
noncomputable def Try.pinned : Pinned := { name := "ytciddoeeiamndaa", sum := "6422163613aecb01a359f6cec72d7e06dcead46943d8e7a52f9de4f0617d8fce", checked := Try.checked }
namespace Rows
def none {H : Type} : Left H := { results := [], args := [] }

/-- 'morainelaw07.StripeReads': WHATEVER THE INPUT: true; the input reads as it did. -/
def stripeReadsSpec : ChangeSpec := { name := "stripeReads", fn := fun _ => fun
  | [d1, d2, d3, d4] => { results := [.lit (.bool true)], args := [d1, d2, d3, d4] }
  | _ => none }
def stripeReadsRow : OpenClaim := { program := "ytciddoeeiamndaa", sum := "6422163613aecb01a359f6cec72d7e06dcead46943d8e7a52f9de4f0617d8fce", func := "moraine/morainelaw07.StripeReads", spec := "stripeReads", unfollowed := true, recurses := true, apart := false }
def StripeReadsSaid : Prop := stripeReadsRow.holds Try.pinned (OpenSpec.ofChange stripeReadsSpec)

/-- ITS FALSE NEIGHBOUR: 'it returns false'. Refute it at one input. -/
def stripeReadsWrong : ChangeSpec := { name := "stripeReads", fn := fun _ => fun
  | [d1, d2, d3, d4] => { results := [.lit (.bool false)], args := [d1, d2, d3, d4] }
  | _ => none }
def StripeReadsWrongFalsely : Prop := stripeReadsRow.holds Try.pinned (OpenSpec.ofChange stripeReadsWrong)

/-- 'morainelaw07.StripeRefills': WHATEVER THE INPUT: true; the input reads as it did. -/
def stripeRefillsSpec : ChangeSpec := { name := "stripeRefills", fn := fun _ => fun
  | [d1, d2, d3] => { results := [.lit (.bool true)], args := [d1, d2, d3] }
  | _ => none }
def stripeRefillsRow : OpenClaim := { program := "ytciddoeeiamndaa", sum := "6422163613aecb01a359f6cec72d7e06dcead46943d8e7a52f9de4f0617d8fce", func := "moraine/morainelaw07.StripeRefills", spec := "stripeRefills", unfollowed := true, recurses := true, apart := false }
def StripeRefillsSaid : Prop := stripeRefillsRow.holds Try.pinned (OpenSpec.ofChange stripeRefillsSpec)

/-- ITS FALSE NEIGHBOUR: 'it returns false'. Refute it at one input. -/
def stripeRefillsWrong : ChangeSpec := { name := "stripeRefills", fn := fun _ => fun
  | [d1, d2, d3] => { results := [.lit (.bool false)], args := [d1, d2, d3] }
  | _ => none }
def StripeRefillsWrongFalsely : Prop := stripeRefillsRow.holds Try.pinned (OpenSpec.ofChange stripeRefillsWrong)

/-- 'morainelaw07.StripeTwo': WHATEVER THE INPUT: true; the input reads as it did. -/
def stripeTwoSpec : ChangeSpec := { name := "stripeTwo", fn := fun _ => fun
  | [d1, d2, d3] => { results := [.lit (.bool true)], args := [d1, d2, d3] }
  | _ => none }
def stripeTwoRow : OpenClaim := { program := "ytciddoeeiamndaa", sum := "6422163613aecb01a359f6cec72d7e06dcead46943d8e7a52f9de4f0617d8fce", func := "moraine/morainelaw07.StripeTwo", spec := "stripeTwo", unfollowed := true, recurses := true, apart := false }
def StripeTwoSaid : Prop := stripeTwoRow.holds Try.pinned (OpenSpec.ofChange stripeTwoSpec)

/-- ITS FALSE NEIGHBOUR: 'it returns false'. Refute it at one input. -/
def stripeTwoWrong : ChangeSpec := { name := "stripeTwo", fn := fun _ => fun
  | [d1, d2, d3] => { results := [.lit (.bool false)], args := [d1, d2, d3] }
  | _ => none }
def StripeTwoWrongFalsely : Prop := stripeTwoRow.holds Try.pinned (OpenSpec.ofChange stripeTwoWrong)

/-- 'morainelaw07.StripeTwice': WHATEVER THE INPUT: true; the input reads as it did. -/
def stripeTwiceSpec : ChangeSpec := { name := "stripeTwice", fn := fun _ => fun
  | [d1, d2, d3, d4] => { results := [.lit (.bool true)], args := [d1, d2, d3, d4] }
  | _ => none }
def stripeTwiceRow : OpenClaim := { program := "ytciddoeeiamndaa", sum := "6422163613aecb01a359f6cec72d7e06dcead46943d8e7a52f9de4f0617d8fce", func := "moraine/morainelaw07.StripeTwice", spec := "stripeTwice", unfollowed := true, recurses := true, apart := false }
def StripeTwiceSaid : Prop := stripeTwiceRow.holds Try.pinned (OpenSpec.ofChange stripeTwiceSpec)

/-- ITS FALSE NEIGHBOUR: 'it returns false'. Refute it at one input. -/
def stripeTwiceWrong : ChangeSpec := { name := "stripeTwice", fn := fun _ => fun
  | [d1, d2, d3, d4] => { results := [.lit (.bool false)], args := [d1, d2, d3, d4] }
  | _ => none }
def StripeTwiceWrongFalsely : Prop := stripeTwiceRow.holds Try.pinned (OpenSpec.ofChange stripeTwiceWrong)

/-- 'morainelaw07.StripeSpoilt': WHATEVER THE INPUT: true; the input reads as it did. -/
def stripeSpoiltSpec : ChangeSpec := { name := "stripeSpoilt", fn := fun _ => fun
  | [d1, d2, d3, d4] => { results := [.lit (.bool true)], args := [d1, d2, d3, d4] }
  | _ => none }
def stripeSpoiltRow : OpenClaim := { program := "ytciddoeeiamndaa", sum := "6422163613aecb01a359f6cec72d7e06dcead46943d8e7a52f9de4f0617d8fce", func := "moraine/morainelaw07.StripeSpoilt", spec := "stripeSpoilt", unfollowed := true, recurses := true, apart := false }
def StripeSpoiltSaid : Prop := stripeSpoiltRow.holds Try.pinned (OpenSpec.ofChange stripeSpoiltSpec)

/-- ITS FALSE NEIGHBOUR: 'it returns false'. Refute it at one input. -/
def stripeSpoiltWrong : ChangeSpec := { name := "stripeSpoilt", fn := fun _ => fun
  | [d1, d2, d3, d4] => { results := [.lit (.bool false)], args := [d1, d2, d3, d4] }
  | _ => none }
def StripeSpoiltWrongFalsely : Prop := stripeSpoiltRow.holds Try.pinned (OpenSpec.ofChange stripeSpoiltWrong)

/- THE SECOND FORM. 'bulk': how many values and letters a reading holds, each counted each time it is reached (what is shared counts as often as it is met; a slice's spare places count too). A statement '..UptoSaid' is the law's where the arguments, and the package variables that the reading takes, are together of bulk at most 1048576: NARROWER than '..Said'. Prove '..Said' where nothing that the law and all that it calls make is longer than what came in: it says more and counts as full. Else prove '..UptoSaid'. A law counts once. -/
mutual
def uptoBulk {H : Type} : DataW H → Nat
  | .lit (.string bytes) => bytes.length + 1
  | .lit _ => 1
  | .nil => 1
  | .ptr d => uptoBulk d + 1
  | .slice elems spare => uptoBulkAll elems + uptoBulkAll spare + 1
  | .agg parts => uptoBulkAll parts + 1
  | .iface _ d => uptoBulk d + 1
  | .map entries => uptoBulkEntries entries + 1
  | .held _ => 1
def uptoBulkAll {H : Type} : List (DataW H) → Nat
  | [] => 0
  | d :: r => uptoBulk d + uptoBulkAll r
def uptoBulkEntries {H : Type} : List (Lit × DataW H) → Nat
  | [] => 0
  | x :: r => uptoBulkEntry x + uptoBulkEntries r
def uptoBulkEntry {H : Type} : Lit × DataW H → Nat
  | (.string bytes, d) => bytes.length + uptoBulk d + 1
  | (_, d) => uptoBulk d + 1
 end
def uptoSmall : (H : Type) → List (DataW H) → Bool := fun _ ds => decide (uptoBulkAll ds ≤ 1048576)
def OpenSpec.upto (s : _root_.Go.ChangeSpec) : _root_.Go.OpenSpec := { _root_.Go.OpenSpec.ofChange s with cond := some uptoSmall }

/-- 'morainelaw07.StripeReads', WHERE WHAT IT READS IS OF BULK AT MOST 1048576: true; the input reads as it did. -/
def stripeReadsUptoRow : OpenClaim := { program := "ytciddoeeiamndaa", sum := "6422163613aecb01a359f6cec72d7e06dcead46943d8e7a52f9de4f0617d8fce", func := "moraine/morainelaw07.StripeReads", spec := "stripeReads", unfollowed := true, recurses := true, apart := false, narrowed := true }
def StripeReadsUptoSaid : Prop := stripeReadsUptoRow.holds Try.pinned (OpenSpec.upto stripeReadsSpec)

/-- 'morainelaw07.StripeRefills', WHERE WHAT IT READS IS OF BULK AT MOST 1048576: true; the input reads as it did. -/
def stripeRefillsUptoRow : OpenClaim := { program := "ytciddoeeiamndaa", sum := "6422163613aecb01a359f6cec72d7e06dcead46943d8e7a52f9de4f0617d8fce", func := "moraine/morainelaw07.StripeRefills", spec := "stripeRefills", unfollowed := true, recurses := true, apart := false, narrowed := true }
def StripeRefillsUptoSaid : Prop := stripeRefillsUptoRow.holds Try.pinned (OpenSpec.upto stripeRefillsSpec)

/-- 'morainelaw07.StripeTwo', WHERE WHAT IT READS IS OF BULK AT MOST 1048576: true; the input reads as it did. -/
def stripeTwoUptoRow : OpenClaim := { program := "ytciddoeeiamndaa", sum := "6422163613aecb01a359f6cec72d7e06dcead46943d8e7a52f9de4f0617d8fce", func := "moraine/morainelaw07.StripeTwo", spec := "stripeTwo", unfollowed := true, recurses := true, apart := false, narrowed := true }
def StripeTwoUptoSaid : Prop := stripeTwoUptoRow.holds Try.pinned (OpenSpec.upto stripeTwoSpec)

/-- 'morainelaw07.StripeTwice', WHERE WHAT IT READS IS OF BULK AT MOST 1048576: true; the input reads as it did. -/
def stripeTwiceUptoRow : OpenClaim := { program := "ytciddoeeiamndaa", sum := "6422163613aecb01a359f6cec72d7e06dcead46943d8e7a52f9de4f0617d8fce", func := "moraine/morainelaw07.StripeTwice", spec := "stripeTwice", unfollowed := true, recurses := true, apart := false, narrowed := true }
def StripeTwiceUptoSaid : Prop := stripeTwiceUptoRow.holds Try.pinned (OpenSpec.upto stripeTwiceSpec)

/-- 'morainelaw07.StripeSpoilt', WHERE WHAT IT READS IS OF BULK AT MOST 1048576: true; the input reads as it did. -/
def stripeSpoiltUptoRow : OpenClaim := { program := "ytciddoeeiamndaa", sum := "6422163613aecb01a359f6cec72d7e06dcead46943d8e7a52f9de4f0617d8fce", func := "moraine/morainelaw07.StripeSpoilt", spec := "stripeSpoilt", unfollowed := true, recurses := true, apart := false, narrowed := true }
def StripeSpoiltUptoSaid : Prop := stripeSpoiltUptoRow.holds Try.pinned (OpenSpec.upto stripeSpoiltSpec)

end Rows
end Go.Proofs.Ytciddoeeiamndaa
