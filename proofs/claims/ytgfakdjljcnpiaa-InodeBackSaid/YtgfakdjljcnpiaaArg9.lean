/-
  Records and slices of numbers that came in: what they are.
-/
import Derived.Test.YtgfakdjljcnpiaaArg4
import Derived.Test.YtgfakdjljcnpiaaRb
import Derived.Test.YtgfakdjljcnpiaaInts
import Derived.Lib.SmallJoins
namespace Go.Proofs.Ytgfakdjljcnpiaa
open Go.RowKit Go.ChangeShapes Go.WideShapes Go.Joins Go.Deep
set_option linter.unusedVariables false
set_option linter.unusedSimpArgs false

section
variable {H : Type} {enc : TypeId × Value → H} {w : World} {r : Reach} {b0 : Nat}
theorem cellsR : Try.prog.cellsOf 24 = 21 := by kernel_rfl
theorem cellsD : Try.prog.cellsOf 22 = 16 := by kernel_rfl
theorem cellsI : Try.prog.cellsOf 3 = 1 := by kernel_rfl
theorem one_int {base : Nat} {held : Bool} {fuel o : Nat} {cs : List Value} {y : DataW H × List MemPlace} (h : DataW.trod enc Try.prog w base (fun _ => true) held fuel 3 ((cs.drop o).take 1) = some y) : ∃ n : Int, cs[o]? = some (.int .i64 n) := by
  obtain ⟨n, z, _, hw⟩ := DataW.trod_int Try.underlying3 h
  refine ⟨n, ?_⟩
  have h0 : ((cs.drop o).take 1)[0]? = some (.int .i64 n) := by rw [z]; rfl
  rw [List.getElem?_take] at h0
  simpa using h0
set_option maxRecDepth 100000 in
theorem open_rec {base : Nat} {held : Bool} {v : Value} {d : DataW H} {p : List MemPlace} (hv : Value.okWide Try.prog w r b0 24 v) (h : DataW.Trod enc Try.prog w base (fun _ => true) held 24 v d p) : ∃ f : Nat → Int, v = rcv f := by
  obtain ⟨cs, rfl, hsz⟩ := okWide_struct Try.underlying24 hv
  rw [cellsR] at hsz
  obtain ⟨fuel, hf⟩ := h
  obtain ⟨xs, n, _, _, _, hlen, hfs⟩ := DataW.trod_struct Try.underlying24 hf
  have hlen6 : xs.length = 6 := hlen
  have hcs : (Value.agg cs).cells.toList = cs.toList := rfl
  rw [hcs] at hfs
  have get : ∀ i, i < 6 → ∃ y, xs[i]? = some y := fun i hi => ⟨xs[i]'(by omega), by simp [show i < xs.length by omega]⟩
  have fld : ∀ {i : Nat} {fl : Field}, i < 6 → (Try.prog.fieldsOf 24)[i]? = some fl → fl.type = 3 → ∃ n : Int, cs.toList[fl.offset]? = some (.int .i64 n) := by
    intro i fl hi hfl ht
    obtain ⟨y, hy⟩ := get i hi
    have := hfs i fl hfl
    rw [hy, ht, cellsI] at this
    exact one_int this
  obtain ⟨z0, h0⟩ := fld (i := 0) (by omega) rfl rfl
  obtain ⟨z1, h1⟩ := fld (i := 1) (by omega) rfl rfl
  obtain ⟨z2, h2⟩ := fld (i := 2) (by omega) rfl rfl
  obtain ⟨z4, h4⟩ := fld (i := 4) (by omega) rfl rfl
  obtain ⟨z5, h5⟩ := fld (i := 5) (by omega) rfl rfl
  obtain ⟨y3, hy3⟩ := get 3 (by omega)
  have h3' : DataW.trod enc Try.prog w base (fun _ => true) held n 22 ((cs.toList.drop 3).take (Try.prog.cellsOf 22)) = xs[3]? := hfs 3 _ rfl
  rw [hy3, cellsD] at h3'
  obtain ⟨ys, m, _, _, _, hl16, hel⟩ := DataW.trod_array Try.underlying22 h3'
  have hd : ∀ i, i < 16 → ∃ n : Int, cs.toList[3 + i]? = some (.int .i64 n) := by
    intro i hi
    have e := hel i hi
    rw [cellsI, Nat.mul_one, show ys[i]? = some (ys[i]'(by omega)) by simp [show i < ys.length by omega]] at e
    obtain ⟨n, hn⟩ := one_int e
    refine ⟨n, ?_⟩
    rw [List.getElem?_take, if_pos hi, List.getElem?_drop] at hn
    exact hn
  have all : ∀ i, i < 21 → ∃ n : Int, cs.toList[i]? = some (.int .i64 n) := by
    intro i hi
    by_cases e0 : i = 0
    · rw [e0]; exact ⟨z0, h0⟩
    by_cases e1 : i = 1
    · rw [e1]; exact ⟨z1, h1⟩
    by_cases e2 : i = 2
    · rw [e2]; exact ⟨z2, h2⟩
    by_cases e4 : i = 19
    · rw [e4]; exact ⟨z4, h4⟩
    by_cases e5 : i = 20
    · rw [e5]; exact ⟨z5, h5⟩
    obtain ⟨n, hn⟩ := hd (i - 3) (by omega)
    exact ⟨n, by rwa [show 3 + (i - 3) = i by omega] at hn⟩
  refine ⟨fun i => if hi : i < 21 then Classical.choose (all i hi) else 0, ?_⟩
  congr 1
  apply Array.ext'
  rw [rcs_list]
  apply List.ext_getElem?
  intro i
  by_cases hi : i < 21
  · rw [Classical.choose_spec (all i hi), List.getElem?_map, List.getElem?_range hi]
    simp [hi]
  · rw [List.getElem?_eq_none (by simp; omega), List.getElem?_eq_none (by simp; omega)]
end
theorem ins_row {w : World} {a : Option Addr} {len cap : Nat} {zs : List Int}
    (h : (a = none ∧ len = 0 ∧ cap = 0 ∧ zs = []) ∨ ∃ x, a = some x ∧ len ≤ cap ∧ cap ≤ maxLen ∧ zs.length = cap ∧ (∀ i, i < zs.length → w.cell? (x.add i) = some (.int .i64 (zs.getD i 0))) ∧ ∀ n ∈ zs, (Lit.int .i64 n).wf = true) :
    Ins w a len (zs.take len) := by
  rcases h with ⟨rfl, rfl, rfl, rfl⟩ | ⟨x, rfl, hl, hm, hz, hcell, hwz⟩
  · exact ⟨rfl, .inl rfl⟩
  · refine ⟨by simp; omega, ?_⟩
    by_cases h0 : len = 0
    · exact .inl h0
    · refine .inr ?_
      obtain ⟨b, off, spot⟩ := x
      have hc := hcell 0 (by omega)
      have hspot : spot = none := by simpa [Addr.add] using World.cell?_spot hc
      subst hspot
      refine ⟨b, off, rfl, World.block_lt_of_cell? w ((⟨b, off, none⟩ : Addr).add 0) hc, fun i hi => ?_⟩
      have := hcell i (by omega)
      rw [show (⟨b, off, none⟩ : Addr).add i = ⟨b, off + i, none⟩ by unfold Addr.add; split <;> simp_all] at this
      rw [this]
      simp [num, List.getD, hi]
theorem one_insz {H : Type} {enc : TypeId × Value → H} {w : World} {n : Nat} {l : List Value} {x : DataW H × List MemPlace} (h : DataW.trod enc Try.prog w 0 (fun _ => true) true n 34 l = some x) :
    ∃ (a : Option Addr) (len c : Nat) (zs : List Int), l = [.slice a len c] ∧ Ins w a len zs ∧ len ≤ maxLen ∧ (∀ z ∈ zs, (Lit.int .i64 z).wf = true) ∧ (a = none → len = 0 ∧ c = 0) ∧ len ≤ c := by
  rcases open_ints Try.underlying34 Try.underlying3 (by kernel_rfl) h with ⟨hcs, _⟩ | ⟨a, len, cap, zs, hcs, _, hl, hm, hz, hx, hcell, hwz⟩
  · exact ⟨none, 0, 0, [], hcs, ⟨rfl, .inl rfl⟩, Nat.zero_le _, (fun z hz => by cases hz), (fun _ => ⟨rfl, rfl⟩), Nat.le_refl _⟩
  · exact ⟨some a, len, cap, zs.take len, hcs, ins_row (w := w) (a := some a) (len := len) (cap := cap) (zs := zs) (.inr ⟨a, rfl, hl, hm, by simpa using hz, hcell, hwz⟩), Nat.le_trans hl hm, (fun z hz => hwz z (List.mem_of_mem_take hz)), (fun h => by cases h), hl⟩
end Go.Proofs.Ytgfakdjljcnpiaa
