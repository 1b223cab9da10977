/-
  Geometries and slices of numbers that came in: what they are.
-/
import Derived.Test.YtijhmpdeohbjhaaArg4
import Derived.Test.YtijhmpdeohbjhaaQaa
import Derived.Lib.SmallJoins
set_option linter.unusedVariables false
set_option linter.unusedSimpArgs false
namespace Go.Proofs.Ytijhmpdeohbjhaa
open Go.RowKit Go.ChangeShapes Go.WideShapes Go.Joins Go.Deep
set_option linter.unusedVariables false

section
variable {H : Type} {enc : TypeId × Value → H} {w : World} {r : Reach} {b0 : Nat}
theorem cells23 : Try.prog.cellsOf 30 = 3 := by kernel_rfl
abbrev Wf (n : Int) : Prop := (Lit.int .i64 n).wf = true
theorem wf_int {base : Nat} {held : Bool} {fuel : Nat} {v : Value} {y : DataW H × List MemPlace} (h : DataW.trod enc Try.prog w base (fun _ => true) held fuel 3 [v] = some y) : ∃ n, v = .int .i64 n ∧ Wf n := by
  obtain ⟨n, z, _, hw⟩ := DataW.trod_int Try.underlying3 h
  simp at z
  exact ⟨n, z, hw⟩
set_option maxRecDepth 100000 in
theorem open_gv {base : Nat} {held : Bool} {v : Value} {d : DataW H} {p : List MemPlace} (hv : Value.okWide Try.prog w r b0 30 v) (h : DataW.Trod enc Try.prog w base (fun _ => true) held 30 v d p) : ∃ e s t, v = gv e s t ∧ Wf e ∧ Wf s ∧ Wf t := by
  obtain ⟨c0, c1, c2, y0, y1, y2, n, rfl, _, _, h0, h1, h2⟩ := open_agg3 Try.underlying30 (by kernel_rfl) cells23 hv h
  obtain ⟨e, rfl, we⟩ := wf_int h0
  obtain ⟨s, rfl, ws⟩ := wf_int h1
  obtain ⟨t, rfl, wt⟩ := wf_int h2
  exact ⟨e, s, t, rfl, we, ws, wt⟩
end
end Go.Proofs.Ytijhmpdeohbjhaa
