/-
  A row of calls that came in, opened.
-/
import Derived.Test.YtegcjpocdfmpfaaZFArg4
import Derived.Test.YtegcjpocdfmpfaaZai
import Derived.Deep.Slices
import Derived.ChangeArms
import Derived.SizedLaws
set_option linter.unusedVariables false
set_option linter.unusedSimpArgs false
set_option maxRecDepth 100000
set_option maxHeartbeats 16000000
namespace Go.Proofs.Ytegcjpocdfmpfaa
open Go.RowKit Go.ChangeShapes Go.WideShapes Go.Deep

theorem take_one {l : List Value} {j : Nat} {v : Value} (h : (l.drop j).take 1 = [v]) : l[j]? = some v := by
  have : ((l.drop j).take 1)[0]? = some v := by rw [h]; rfl
  simpa using this
section
variable {H : Type} {enc : TypeId × Value → H} {w : World}
theorem one_intc {n : Nat} {l : List Value} {x : DataW H × List MemPlace} (h : DataW.trod enc Try.prog w 0 (fun _ => true) true n 3 l = some x) : ∃ m, l = [.int .i64 m] ∧ (Lit.int .i64 m).wf = true := by
  obtain ⟨m, e, _, hw⟩ := DataW.trod_int Try.underlying3 h
  exact ⟨m, e, hw⟩
theorem small_part {j : Nat} {t u : TypeId} {fs : Array Field} {f : Field} {parts : List (DataW H)} {d : DataW H} (ht : Try.prog.underlying t = some (.struct fs)) (h : Small t (.agg parts)) (hf : fs[j]? = some f) (hu : f.type = u) (hd : parts[j]? = some d) : Small u d := fun n hn => h n (by
  unfold DataW.weights
  rw [ht]
  refine DataW.weights_mem_each (j := j) (t := u) ?_ hd n hn
  rw [List.getElem?_map, Array.getElem?_toList, hf, ← hu]
  rfl)
theorem add_at (b off m : Nat) : (⟨b, off, none⟩ : Addr).add m = ⟨b, off + m, none⟩ := by unfold Addr.add; split <;> simp_all
/-- One call of a row. -/
theorem cb_of {b off : Nat} {m : Nat} {cs : List Value} {n : Nat} {x : DataW H × List MemPlace} (hc : w.cells? 0 ((⟨b, off, none⟩ : Addr).add m) 4 = some cs) (h : DataW.trod enc Try.prog w 0 (fun _ => true) true n 62 cs = some x) (hs : Small 62 x.1) :
    ∃ y : Cb, b < w.heap.size ∧ CbIn w b (off + m) y := by
  obtain ⟨_, hlen, hcell⟩ := World.cells?_some hc
  obtain ⟨xs, n', _, hxe, _, hxl, hf⟩ := DataW.trod_struct Try.underlying62 h
  have hs' : Small 62 (.agg (xs.map (·.1))) := by rw [hxe] at hs; exact hs
  have hx : ∀ j, j < 4 → ∃ y, xs[j]? = some y := fun j hj => ⟨_, List.getElem?_eq_getElem (by rw [hxl]; exact hj)⟩
  have c3 : Try.prog.cellsOf 3 = 1 := by kernel_rfl
  have c8 : Try.prog.cellsOf 50 = 1 := by kernel_rfl
  have f0 : DataW.trod enc Try.prog w 0 (fun _ => true) true n' 3 ((cs.drop 0).take (Try.prog.cellsOf 3)) = xs[0]? := hf 0 _ rfl
  have f1 : DataW.trod enc Try.prog w 0 (fun _ => true) true n' 3 ((cs.drop 1).take (Try.prog.cellsOf 3)) = xs[1]? := hf 1 _ rfl
  have f2 : DataW.trod enc Try.prog w 0 (fun _ => true) true n' 3 ((cs.drop 2).take (Try.prog.cellsOf 3)) = xs[2]? := hf 2 _ rfl
  have f3 : DataW.trod enc Try.prog w 0 (fun _ => true) true n' 50 ((cs.drop 3).take (Try.prog.cellsOf 50)) = xs[3]? := hf 3 _ rfl
  obtain ⟨y0, e0⟩ := hx 0 (by omega)
  obtain ⟨y1, e1⟩ := hx 1 (by omega)
  obtain ⟨y2, e2⟩ := hx 2 (by omega)
  obtain ⟨y3, e3⟩ := hx 3 (by omega)
  rw [e0] at f0
  rw [e1] at f1
  rw [e2] at f2
  rw [e3] at f3
  rw [c3] at f0 f1 f2
  rw [c8] at f3
  obtain ⟨v0, g0, _⟩ := one_intc f0
  obtain ⟨v1, g1, w1⟩ := one_intc f1
  obtain ⟨v2, g2, _⟩ := one_intc f2
  obtain ⟨a3, n3, k3, zs, g3, hz, bz⟩ := one_pin f3
  have bz' := bz (small_part (j := 3) Try.underlying62 hs' rfl rfl (by rw [List.getElem?_map, e3]; rfl))
  have q0 := (hcell 0 (by omega)).trans (take_one g0)
  have q1 := (hcell 1 (by omega)).trans (take_one g1)
  have q2 := (hcell 2 (by omega)).trans (take_one g2)
  have q3 := (hcell 3 (by omega)).trans (take_one g3)
  rw [add_at, add_at] at q0 q1 q2 q3
  exact ⟨⟨v0, v1, v2, a3, n3, k3, zs⟩, World.block_lt_of_cell? w _ q0, ⟨q0, q1, q2, q3, w1, hz, bz'⟩⟩
/-- A row of calls, opened. -/
theorem cbs_of {fuel : Nat} {cs : List Value} {x : DataW H × List MemPlace} (h : DataW.trod enc Try.prog w 0 (fun _ => true) true fuel 56 cs = some x) (hs : Small 56 x.1) :
    ∃ (a : Option Addr) (len cap : Nat) (f : Nat → Cb), cs = [.slice a len cap] ∧ len ≤ cap ∧ cap ≤ maxLen ∧ CbsAt w a len f := by
  rcases open_slice Try.underlying56 h with ⟨hcs, _⟩ | ⟨a, len, cap, m, n, D, Pm, hcs, _, hl, hm, hmm, hxe, hi⟩
  · exact ⟨none, 0, 0, fun _ => default, hcs, Nat.le_refl _, by unfold maxLen; omega, .inl rfl⟩
  · have c5 : Try.prog.cellsOf 62 = 4 := by kernel_rfl
    have hmc : m = cap := by simpa using hmm
    rw [c5] at hi
    by_cases h0 : len = 0
    · exact ⟨some a, len, cap, fun _ => default, hcs, hl, hm, .inl h0⟩
    obtain ⟨b, off, spot⟩ := a
    have hspot : spot = none := by
      obtain ⟨cs', h1, _⟩ := hi 0 (by omega)
      obtain ⟨_, hlen, hcell⟩ := World.cells?_some h1
      have := (hcell 0 (by omega)).trans (List.getElem?_eq_getElem (by omega))
      exact World.cell?_spot this
    subst hspot
    rw [hxe] at hs
    have hs' := hs
    have each : ∀ i, i < len → ∃ y : Cb, b < w.heap.size ∧ CbIn w b (off + i * 4) y := fun i hil => by
      obtain ⟨cs', h1, h2⟩ := hi i (by omega)
      exact cb_of h1 h2 (small_elem Try.underlying56 hs' (List.mem_map.2 ⟨i, List.mem_range.2 hil, rfl⟩))
    obtain ⟨f, hf⟩ := choose_lt each
    exact ⟨some ⟨b, off, none⟩, len, cap, f, hcs, hl, hm, .inr ⟨b, off, rfl, (hf 0 (by omega)).1, fun i hil => (hf i hil).2⟩⟩
end

end Go.Proofs.Ytegcjpocdfmpfaa
