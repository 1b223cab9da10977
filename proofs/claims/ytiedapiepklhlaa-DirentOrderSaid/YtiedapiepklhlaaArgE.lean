/-
  Slices of entries, and entries by value, that came in: what they hold.
-/
import Derived.Test.YtiedapiepklhlaaArg4
import Derived.Test.YtiedapiepklhlaaEs
import Derived.Deep.Slices
import Derived.ChangeArms
import Derived.SizedLaws
import Derived.Lib.SmallJoins
namespace Go.Proofs.Ytiedapiepklhlaa
open Go.RowKit Go.ChangeShapes Go.WideShapes Go.Joins Go.Deep
set_option linter.unusedVariables false

theorem take_one {l : List Value} {j : Nat} {v : Value} (h : (l.drop j).take 1 = [v]) : l[j]? = some v := by
  have : ((l.drop j).take 1)[0]? = some v := by rw [h]; rfl
  simpa using this
section
variable {H : Type} {enc : TypeId × Value → H} {w : World} {r : Reach} {b0 : Nat}
theorem one_int {n : Nat} {l : List Value} {x : DataW H × List MemPlace} (h : DataW.trod enc Try.prog w 0 (fun _ => true) true n 3 l = some x) : ∃ m, l = [.int .i64 m] ∧ (Lit.int .i64 m).wf = true := by
  obtain ⟨m, e, _, hw⟩ := DataW.trod_int Try.underlying3 h
  exact ⟨m, e, hw⟩
theorem one_str {n : Nat} {l : List Value} {x : DataW H × List MemPlace} (h : DataW.trod enc Try.prog w 0 (fun _ => true) true n 9 l = some x) : ∃ s : ByteArray, l = [.string s] ∧ s.size ≤ maxLen ∧ (Small 9 x.1 → s.size ≤ reachBytes) := by
  obtain ⟨s, e, hx, hm⟩ := DataW.trod_string Try.underlying9 h
  refine ⟨s, e, hm, fun hs => ?_⟩
  rw [hx] at hs
  have := hs s.data.toList.length (by unfold DataW.weights; simp)
  rwa [← Lib.size_eq] at this
theorem small_part {j : Nat} {t u : TypeId} {fs : Array Field} {f : Field} {parts : List (DataW H)} {d : DataW H} (ht : Try.prog.underlying t = some (.struct fs)) (h : Small t (.agg parts)) (hf : fs[j]? = some f) (hu : f.type = u) (hd : parts[j]? = some d) : Small u d := fun n hn => h n (by
  unfold DataW.weights
  rw [ht]
  refine DataW.weights_mem_each (j := j) (t := u) ?_ hd n hn
  rw [List.getElem?_map, Array.getElem?_toList, hf, ← hu]
  rfl)
set_option maxRecDepth 100000 in
/-- One entry of a row. -/
theorem en_of {b off : Nat} {m : Nat} {cs : List Value} {n : Nat} {x : DataW H × List MemPlace} (hc : w.cells? 0 ((⟨b, off, none⟩ : Addr).add m) 2 = some cs) (h : DataW.trod enc Try.prog w 0 (fun _ => true) true n 36 cs = some x) (hs : Small 36 x.1) :
    ∃ y : En, b < w.heap.size ∧ w.cell? ⟨b, off + m, none⟩ = some (.string y.s) ∧ w.cell? ⟨b, off + m + 1, none⟩ = some (.int .i64 y.i) ∧ y.s.size ≤ reachBytes := by
  obtain ⟨_, hlen, hcell⟩ := World.cells?_some hc
  obtain ⟨xs, n', _, hxe, _, hxl, hf⟩ := DataW.trod_struct Try.underlying36 h
  have hs' : Small 36 (.agg (xs.map (·.1))) := by rw [hxe] at hs; exact hs
  have hx : ∀ j, j < 2 → ∃ y, xs[j]? = some y := fun j hj => ⟨_, List.getElem?_eq_getElem (by rw [hxl]; exact hj)⟩
  have c3 : Try.prog.cellsOf 3 = 1 := by kernel_rfl
  have c9 : Try.prog.cellsOf 9 = 1 := by kernel_rfl
  have f0 : DataW.trod enc Try.prog w 0 (fun _ => true) true n' 9 ((cs.drop 0).take (Try.prog.cellsOf 9)) = xs[0]? := hf 0 _ rfl
  have f1 : DataW.trod enc Try.prog w 0 (fun _ => true) true n' 3 ((cs.drop 1).take (Try.prog.cellsOf 3)) = xs[1]? := hf 1 _ rfl
  obtain ⟨y0, e0⟩ := hx 0 (by omega)
  obtain ⟨y1, e1⟩ := hx 1 (by omega)
  rw [e0, c9] at f0
  rw [e1, c3] at f1
  obtain ⟨s, g0, _, bz⟩ := one_str f0
  obtain ⟨i, g1, _⟩ := one_int f1
  have bz' := bz (small_part (j := 0) Try.underlying36 hs' rfl rfl (by rw [List.getElem?_map, e0]; rfl))
  have q0 := (hcell 0 (by omega)).trans (take_one g0)
  have q1 := (hcell 1 (by omega)).trans (take_one g1)
  rw [add_e, add_e] at q0 q1
  exact ⟨⟨s, i⟩, World.block_lt_of_cell? w _ q0, q0, q1, bz'⟩
/-- A row of entries, opened. -/
theorem ents_of {fuel : Nat} {cs : List Value} {x : DataW H × List MemPlace} (h : DataW.trod enc Try.prog w 0 (fun _ => true) true fuel 22 cs = some x) (hs : Small 22 x.1) :
    ∃ (a : Option Addr) (n c : Nat) (L : List En), cs = [.slice a n c] ∧ Ens w a n L ∧ n ≤ c ∧ c ≤ 9223372036854775807 ∧ (a = none → n = 0 ∧ c = 0) ∧ ∀ y ∈ L, y.s.size ≤ 4611686018427387904 := by
  rcases open_slice Try.underlying22 h with ⟨hcs, _⟩ | ⟨a, len, cap, m, n, D, Pm, hcs, _, hl, hm, hmm, hxe, hi⟩
  · exact ⟨none, 0, 0, [], hcs, ens_nil _ _, Nat.le_refl _, Nat.zero_le _, (fun _ => ⟨rfl, rfl⟩), fun y hy => by cases hy⟩
  · have c5 : Try.prog.cellsOf 36 = 2 := by kernel_rfl
    have hmc : m = cap := by simpa using hmm
    have hm' : cap ≤ 9223372036854775807 := by unfold maxLen at hm; omega
    rw [c5] at hi
    by_cases h0 : len = 0
    · subst h0
      exact ⟨some a, 0, cap, [], hcs, ens_nil _ _, hl, hm', (fun h => by cases h), fun y hy => by cases hy⟩
    obtain ⟨b, off, spot⟩ := a
    have hspot : spot = none := by
      obtain ⟨cs', h1, _⟩ := hi 0 (by omega)
      obtain ⟨_, hlen, hcell⟩ := World.cells?_some h1
      have := (hcell 0 (by omega)).trans (List.getElem?_eq_getElem (by omega))
      exact World.cell?_spot this
    subst hspot
    rw [hxe] at hs
    have hs' := hs
    have each : ∀ i, i < len → ∃ y : En, b < w.heap.size ∧ w.cell? ⟨b, off + i * 2, none⟩ = some (.string y.s) ∧ w.cell? ⟨b, off + i * 2 + 1, none⟩ = some (.int .i64 y.i) ∧ y.s.size ≤ reachBytes := fun i hil => by
      obtain ⟨cs', h1, h2⟩ := hi i (by omega)
      exact en_of h1 h2 (small_elem Try.underlying22 hs' (List.mem_map.2 ⟨i, List.mem_range.2 hil, rfl⟩))
    obtain ⟨f, hf⟩ := choose_lt each
    have hget : ∀ i, i < len → eat ((List.range len).map f) i = f i := fun i hil => by simp [eat, List.getD, hil]
    refine ⟨some ⟨b, off, none⟩, len, cap, (List.range len).map f, hcs, ⟨by simp, .inr ⟨b, off, rfl, (hf 0 (by omega)).1, fun i hil => ?_⟩⟩, hl, hm', (fun h => by cases h), fun y hy => ?_⟩
    · rw [hget i hil]
      exact ⟨(hf i hil).2.1, (hf i hil).2.2.1⟩
    · obtain ⟨i, hi', rfl⟩ := List.mem_map.1 hy
      exact Nat.le_trans (hf i (List.mem_range.1 hi')).2.2.2 (by decide)
theorem cells36 : Try.prog.cellsOf 36 = 2 := by kernel_rfl
set_option maxRecDepth 100000 in
theorem open_env {v : Value} {d : DataW H} {p : List MemPlace} (hv : Value.okWide Try.prog w r b0 36 v) (h : DataW.Trod enc Try.prog w 0 (fun _ => true) true 36 v d p) : ∃ (s : ByteArray) (i : Int), v = .agg #[.string s, .int .i64 i] ∧ s.size ≤ maxLen := by
  obtain ⟨c0, c1, y0, y1, n, rfl, _, _, h0, h1⟩ := open_agg2 Try.underlying36 (by kernel_rfl) cells36 hv h
  obtain ⟨s, g0, hm, _⟩ := one_str h0
  obtain ⟨i, g1, _⟩ := one_int h1
  simp at g0 g1
  subst g0 g1
  exact ⟨s, i, rfl, hm⟩
end
end Go.Proofs.Ytiedapiepklhlaa
