/-
  Geometries, slices of numbers, lists of nodes that came in: what they are.
-/
import Derived.Test.YtegcjpocdfmpfaaVArg4
import Derived.Test.YtegcjpocdfmpfaaVab
import Derived.Test.YtegcjpocdfmpfaaVae
import Derived.Lib.SmallJoins
import Derived.Deep.Slices
import Derived.ChangeArms
import Derived.SizedLaws
set_option linter.unusedVariables false
set_option linter.unusedSimpArgs false
set_option maxRecDepth 100000
set_option maxHeartbeats 16000000
namespace Go.Proofs.Ytegcjpocdfmpfaa
open Go.RowKit Go.ChangeShapes Go.WideShapes Go.Joins Go.Deep

section
variable {H : Type} {enc : TypeId × Value → H} {w : World} {r : Reach} {b0 : Nat}
theorem cells23 : Try.prog.cellsOf 23 = 3 := by kernel_rfl
abbrev Wf (n : Int) : Prop := (Lit.int .i64 n).wf = true
theorem wf_int {base : Nat} {held : Bool} {fuel : Nat} {v : Value} {y : DataW H × List MemPlace} (h : DataW.trod enc Try.prog w base (fun _ => true) held fuel 3 [v] = some y) : ∃ n, v = .int .i64 n ∧ Wf n := by
  obtain ⟨n, z, _, hw⟩ := DataW.trod_int Try.underlying3 h
  simp at z
  exact ⟨n, z, hw⟩
theorem open_gv {base : Nat} {held : Bool} {v : Value} {d : DataW H} {p : List MemPlace} (hv : Value.okWide Try.prog w r b0 23 v) (h : DataW.Trod enc Try.prog w base (fun _ => true) held 23 v d p) : ∃ e s t, v = gv e s t ∧ Wf e ∧ Wf s ∧ Wf t := by
  obtain ⟨c0, c1, c2, y0, y1, y2, n, rfl, _, _, h0, h1, h2⟩ := open_agg3 Try.underlying23 (by kernel_rfl) cells23 hv h
  obtain ⟨e, rfl, we⟩ := wf_int h0
  obtain ⟨s, rfl, ws⟩ := wf_int h1
  obtain ⟨t, rfl, wt⟩ := wf_int h2
  exact ⟨e, s, t, rfl, we, ws, wt⟩
end
theorem ins_row {w : World} {a : Option Addr} {len cap : Nat} {zs : List Int}
    (h : (a = none ∧ len = 0 ∧ cap = 0 ∧ zs = []) ∨ ∃ x, a = some x ∧ len ≤ cap ∧ cap ≤ maxLen ∧ zs.length = cap ∧ (∀ i, i < zs.length → w.cell? (x.add i) = some (.int .i64 (zs.getD i 0))) ∧ ∀ n ∈ zs, (Lit.int .i64 n).wf = true) :
    Ins w a len (zs.take len) := by
  rcases h with ⟨rfl, rfl, rfl, rfl⟩ | ⟨x, rfl, hl, hm, hz, hcell, hwz⟩
  · exact ⟨rfl, .inl rfl⟩
  · refine ⟨by simp; omega, ?_⟩
    by_cases h0 : len = 0
    · exact .inl h0
    · refine .inr ?_
      obtain ⟨b, off, spot⟩ := x
      have hc := hcell 0 (by omega)
      have hspot : spot = none := by simpa [Addr.add] using World.cell?_spot hc
      subst hspot
      refine ⟨b, off, rfl, World.block_lt_of_cell? w ((⟨b, off, none⟩ : Addr).add 0) hc, fun i hi => ?_⟩
      have := hcell i (by omega)
      rw [show (⟨b, off, none⟩ : Addr).add i = ⟨b, off + i, none⟩ by unfold Addr.add; split <;> simp_all] at this
      rw [this]
      simp [num, List.getD, hi]
theorem one_insz {H : Type} {enc : TypeId × Value → H} {w : World} {n : Nat} {l : List Value} {x : DataW H × List MemPlace} (h : DataW.trod enc Try.prog w 0 (fun _ => true) true n 25 l = some x) :
    ∃ (a : Option Addr) (len c : Nat) (zs : List Int), l = [.slice a len c] ∧ Ins w a len zs ∧ len ≤ maxLen ∧ (∀ z ∈ zs, (Lit.int .i64 z).wf = true) ∧ (a = none → len = 0 ∧ c = 0) ∧ len ≤ c := by
  rcases open_ints Try.underlying25 Try.underlying3 (by kernel_rfl) h with ⟨hcs, _⟩ | ⟨a, len, cap, zs, hcs, _, hl, hm, hz, hx, hcell, hwz⟩
  · exact ⟨none, 0, 0, [], hcs, ⟨rfl, .inl rfl⟩, Nat.zero_le _, (fun z hz => by cases hz), (fun _ => ⟨rfl, rfl⟩), Nat.le_refl _⟩
  · exact ⟨some a, len, cap, zs.take len, hcs, ins_row (w := w) (a := some a) (len := len) (cap := cap) (zs := zs) (.inr ⟨a, rfl, hl, hm, by simpa using hz, hcell, hwz⟩), Nat.le_trans hl hm, (fun z hz => hwz z (List.mem_of_mem_take hz)), (fun h => by cases h), hl⟩
theorem take_one {l : List Value} {j : Nat} {v : Value} (h : (l.drop j).take 1 = [v]) : l[j]? = some v := by
  have : ((l.drop j).take 1)[0]? = some v := by rw [h]; rfl
  simpa using this
section
variable {H : Type} {enc : TypeId × Value → H} {w : World}
theorem one_intc {n : Nat} {l : List Value} {x : DataW H × List MemPlace} (h : DataW.trod enc Try.prog w 0 (fun _ => true) true n 3 l = some x) : ∃ m, l = [.int .i64 m] ∧ (Lit.int .i64 m).wf = true := by
  obtain ⟨m, e, _, hw⟩ := DataW.trod_int Try.underlying3 h
  exact ⟨m, e, hw⟩
theorem small_part {j : Nat} {t u : TypeId} {fs : Array Field} {f : Field} {parts : List (DataW H)} {d : DataW H} (ht : Try.prog.underlying t = some (.struct fs)) (h : Small t (.agg parts)) (hf : fs[j]? = some f) (hu : f.type = u) (hd : parts[j]? = some d) : Small u d := fun n hn => h n (by
  unfold DataW.weights
  rw [ht]
  refine DataW.weights_mem_each (j := j) (t := u) ?_ hd n hn
  rw [List.getElem?_map, Array.getElem?_toList, hf, ← hu]
  rfl)
theorem add_at (b off m : Nat) : (⟨b, off, none⟩ : Addr).add m = ⟨b, off + m, none⟩ := by unfold Addr.add; split <;> simp_all
/-- One node of a list. -/
theorem nw_of {b off : Nat} {m : Nat} {cs : List Value} {n : Nat} {x : DataW H × List MemPlace} (hc : w.cells? 0 ((⟨b, off, none⟩ : Addr).add m) 5 = some cs) (h : DataW.trod enc Try.prog w 0 (fun _ => true) true n 83 cs = some x) :
    ∃ y : Nw, b < w.heap.size ∧ NwIn w b (off + m) y := by
  obtain ⟨_, hlen, hcell⟩ := World.cells?_some hc
  obtain ⟨xs, n', _, hxe, _, hxl, hf⟩ := DataW.trod_struct Try.underlying83 h
  have hx : ∀ j, j < 5 → ∃ y, xs[j]? = some y := fun j hj => ⟨_, List.getElem?_eq_getElem (by rw [hxl]; exact hj)⟩
  have c3 : Try.prog.cellsOf 3 = 1 := by kernel_rfl
  have c8 : Try.prog.cellsOf 25 = 1 := by kernel_rfl
  have f0 : DataW.trod enc Try.prog w 0 (fun _ => true) true n' 3 ((cs.drop 0).take (Try.prog.cellsOf 3)) = xs[0]? := hf 0 _ rfl
  have f1 : DataW.trod enc Try.prog w 0 (fun _ => true) true n' 3 ((cs.drop 1).take (Try.prog.cellsOf 3)) = xs[1]? := hf 1 _ rfl
  have f2 : DataW.trod enc Try.prog w 0 (fun _ => true) true n' 3 ((cs.drop 2).take (Try.prog.cellsOf 3)) = xs[2]? := hf 2 _ rfl
  have f3 : DataW.trod enc Try.prog w 0 (fun _ => true) true n' 3 ((cs.drop 3).take (Try.prog.cellsOf 3)) = xs[3]? := hf 3 _ rfl
  have f4 : DataW.trod enc Try.prog w 0 (fun _ => true) true n' 25 ((cs.drop 4).take (Try.prog.cellsOf 25)) = xs[4]? := hf 4 _ rfl
  obtain ⟨y0, e0⟩ := hx 0 (by omega)
  obtain ⟨y1, e1⟩ := hx 1 (by omega)
  obtain ⟨y2, e2⟩ := hx 2 (by omega)
  obtain ⟨y3, e3⟩ := hx 3 (by omega)
  obtain ⟨y4, e4⟩ := hx 4 (by omega)
  rw [e0] at f0
  rw [e1] at f1
  rw [e2] at f2
  rw [e3] at f3
  rw [e4] at f4
  rw [c3] at f0 f1 f2 f3
  rw [c8] at f4
  obtain ⟨v0, g0, _⟩ := one_intc f0
  obtain ⟨v1, g1, _⟩ := one_intc f1
  obtain ⟨v2, g2, _⟩ := one_intc f2
  obtain ⟨v3, g3, _⟩ := one_intc f3
  obtain ⟨a4, n4, k4, zs, g4, hz, hm, _, hn, _⟩ := one_insz f4
  have q0 := (hcell 0 (by omega)).trans (take_one g0)
  have q1 := (hcell 1 (by omega)).trans (take_one g1)
  have q2 := (hcell 2 (by omega)).trans (take_one g2)
  have q3 := (hcell 3 (by omega)).trans (take_one g3)
  have q4 := (hcell 4 (by omega)).trans (take_one g4)
  rw [add_at, add_at] at q0 q1 q2 q3 q4
  exact ⟨⟨v0, v1, v2, v3, a4, n4, k4, zs⟩, World.block_lt_of_cell? w _ q0, ⟨q0, q1, q2, q3, q4, hz, hn, by unfold maxLen at hm; omega⟩⟩
/-- A list of nodes, opened. -/
theorem nws_of {fuel : Nat} {cs : List Value} {x : DataW H × List MemPlace} (h : DataW.trod enc Try.prog w 0 (fun _ => true) true fuel 24 cs = some x) :
    ∃ (a : Option Addr) (len cap : Nat) (f : Nat → Nw), cs = [.slice a len cap] ∧ len ≤ cap ∧ cap ≤ maxLen ∧ NwsAt w a len f := by
  rcases open_slice Try.underlying24 h with ⟨hcs, _⟩ | ⟨a, len, cap, m, n, D, Pm, hcs, _, hl, hm, hmm, hxe, hi⟩
  · exact ⟨none, 0, 0, fun _ => default, hcs, Nat.le_refl _, by unfold maxLen; omega, .inl rfl⟩
  · have c5 : Try.prog.cellsOf 83 = 5 := by kernel_rfl
    have hmc : m = cap := by simpa using hmm
    rw [c5] at hi
    by_cases h0 : len = 0
    · exact ⟨some a, len, cap, fun _ => default, hcs, hl, hm, .inl h0⟩
    obtain ⟨b, off, spot⟩ := a
    have hspot : spot = none := by
      obtain ⟨cs', h1, _⟩ := hi 0 (by omega)
      obtain ⟨_, hlen, hcell⟩ := World.cells?_some h1
      have := (hcell 0 (by omega)).trans (List.getElem?_eq_getElem (by omega))
      exact World.cell?_spot this
    subst hspot
    have each : ∀ i, i < len → ∃ y : Nw, b < w.heap.size ∧ NwIn w b (off + i * 5) y := fun i hil => by
      obtain ⟨cs', h1, h2⟩ := hi i (by omega)
      exact nw_of h1 h2
    obtain ⟨f, hf⟩ := choose_lt each
    exact ⟨some ⟨b, off, none⟩, len, cap, f, hcs, hl, hm, .inr ⟨b, off, rfl, (hf 0 (by omega)).1, fun i hil => (hf i hil).2⟩⟩
end
end Go.Proofs.Ytegcjpocdfmpfaa
