/-
  Marks, supers and members that came in by value: what they are.
-/
import Derived.Test.YtgdkcdgomopnfaaArg4
import Derived.Test.YtgdkcdgomopnfaaPuts
import Derived.Lib.SmallJoins
namespace Go.Proofs.Ytgdkcdgomopnfaa
open Go.RowKit Go.ChangeShapes Go.WideShapes Go.Joins Go.Deep

section
variable {H : Type} {enc : TypeId × Value → H} {w : World} {r : Reach} {b0 base : Nat} {held : Bool}
theorem cells25 : Try.prog.cellsOf 25 = 3 := by kernel_rfl
theorem cells23 : Try.prog.cellsOf 23 = 3 := by kernel_rfl
theorem cells27 : Try.prog.cellsOf 27 = 1 := by kernel_rfl
theorem cells29 : Try.prog.cellsOf 29 = 3 := by kernel_rfl
theorem cells3 : Try.prog.cellsOf 3 = 1 := by kernel_rfl
abbrev Wf (n : Int) : Prop := (Lit.int .i64 n).wf = true
theorem wf_int {fuel : Nat} {v : Value} {y : DataW H × List MemPlace} (h : DataW.trod enc Try.prog w base (fun _ => true) held fuel 3 [v] = some y) : ∃ n, v = .int .i64 n ∧ Wf n := by
  obtain ⟨n, z, _, hw⟩ := DataW.trod_int Try.underlying3 h
  simp at z
  exact ⟨n, z, hw⟩
theorem open_member {v : Value} {d : DataW H} {p : List MemPlace} (hv : Value.okWide Try.prog w r b0 29 v) (h : DataW.Trod enc Try.prog w base (fun _ => true) held 29 v d p) : ∃ e s t, v = bv e s t ∧ Wf e ∧ Wf s ∧ Wf t := by
  obtain ⟨c0, c1, c2, y0, y1, y2, n, rfl, _, _, h0, h1, h2⟩ := open_agg3 Try.underlying29 (by kernel_rfl) cells29 hv h
  obtain ⟨e, rfl, we⟩ := wf_int h0
  obtain ⟨s, rfl, ws⟩ := wf_int h1
  obtain ⟨t, rfl, wt⟩ := wf_int h2
  exact ⟨e, s, t, rfl, we, ws, wt⟩
theorem open_mark {v : Value} {d : DataW H} {p : List MemPlace} (hv : Value.okWide Try.prog w r b0 27 v) (h : DataW.Trod enc Try.prog w base (fun _ => true) held 27 v d p) : ∃ s, v = mv s ∧ Wf s := by
  obtain ⟨cs, rfl, hsz⟩ := okWide_struct Try.underlying27 hv
  rw [cells27] at hsz
  obtain ⟨c0, rfl⟩ : ∃ c, cs = #[c] := by
    obtain ⟨l⟩ := cs
    match l, hsz with
    | [c], _ => exact ⟨c, rfl⟩
  obtain ⟨fuel, hf⟩ := h
  obtain ⟨y0, n, _, _, h0⟩ := trod_struct1 Try.underlying27 hf
  have h0' : DataW.trod enc Try.prog w base (fun _ => true) held n 3 [c0] = some y0 := by simpa [Value.cells, cells3] using h0
  obtain ⟨s, rfl, ws⟩ := wf_int h0'
  exact ⟨s, rfl, ws⟩
theorem open_super {v : Value} {d : DataW H} {p : List MemPlace} (hv : Value.okWide Try.prog w r b0 25 v) (h : DataW.Trod enc Try.prog w base (fun _ => true) held 25 v d p) : ∃ d r s, v = sv d r s ∧ Wf d ∧ Wf r ∧ Wf s := by
  obtain ⟨cs, rfl, hsz⟩ := okWide_struct Try.underlying25 hv
  rw [cells25] at hsz
  obtain ⟨c0, c1, c2, rfl⟩ := array3 hsz
  obtain ⟨fuel, hf⟩ := h
  obtain ⟨y0, n, _, _, h0⟩ := trod_struct1 Try.underlying25 hf
  have h0' : DataW.trod enc Try.prog w base (fun _ => true) held n 23 [c0, c1, c2] = some y0 := by simpa [Value.cells, cells23] using h0
  obtain ⟨x0, x1, x2, m, _, _, g0, g1, g2⟩ := trod_struct3 Try.underlying23 h0'
  have g0' : DataW.trod enc Try.prog w base (fun _ => true) held m 3 [c0] = some x0 := by simpa [cells3] using g0
  have g1' : DataW.trod enc Try.prog w base (fun _ => true) held m 3 [c1] = some x1 := by simpa [cells3] using g1
  have g2' : DataW.trod enc Try.prog w base (fun _ => true) held m 3 [c2] = some x2 := by simpa [cells3] using g2
  obtain ⟨d, rfl, wd⟩ := wf_int g0'
  obtain ⟨r, rfl, wr⟩ := wf_int g1'
  obtain ⟨s, rfl, ws⟩ := wf_int g2'
  exact ⟨d, r, s, rfl, wd, wr, ws⟩
end

end Go.Proofs.Ytgdkcdgomopnfaa
