/-
  Slices of bytes, and rows of them, that came in: what they hold.
-/
import Derived.Test.YtegcjpocdfmpfaaZaa
import Derived.Deep.Slices
import Derived.ChangeArms
import Derived.SizedLaws
set_option linter.unusedVariables false
set_option linter.unusedSimpArgs false
set_option maxRecDepth 100000
set_option maxHeartbeats 16000000
namespace Go.Proofs.Ytegcjpocdfmpfaa
open Go.RowKit Go.ChangeShapes Go.WideShapes Go.Deep

theorem wf_le {n : Int} (h : (Lit.int .i64 n).wf = true) : n ≤ 9223372036854775807 := by
  simp [Lit.wf, IntKind.min, IntKind.max, IntKind.signed, IntKind.bits] at h
  omega
theorem choose_lt {α : Type} [Inhabited α] {n : Nat} {P : Nat → α → Prop} (h : ∀ i, i < n → ∃ y, P i y) : ∃ f : Nat → α, ∀ i, i < n → P i (f i) :=
  ⟨fun i => if hi : i < n then Classical.choose (h i hi) else default, fun i hi => by
    show P i (if hi : i < n then Classical.choose (h i hi) else default)
    rw [dif_pos hi]
    exact Classical.choose_spec (h i hi)⟩
section
variable {H : Type} {enc : TypeId × Value → H} {w : World}
/-- All that is read of a datum takes no more than the reach. -/
def Small (t : TypeId) (d : DataW H) : Prop := ∀ n ∈ d.weights Try.prog t, n ≤ reachBytes
theorem all_mem {e : TypeId} {n : Nat} : ∀ {l : List (DataW H)} {d : DataW H}, d ∈ l → n ∈ d.weights Try.prog e → n ∈ DataW.weightsAll Try.prog e l
  | x :: r, d, h, hn => by
    unfold DataW.weightsAll
    rcases List.mem_cons.1 h with rfl | h
    · exact List.mem_append.2 (.inl hn)
    · exact List.mem_append.2 (.inr (all_mem h hn))
theorem small_elem {t e : TypeId} {el sp : List (DataW H)} {d : DataW H} (ht : Try.prog.underlying t = some (.slice e)) (h : Small t (.slice el sp)) (hd : d ∈ el) : Small e d := fun n hn => h n (by
  unfold DataW.weights
  rw [ht]
  exact List.mem_cons_of_mem _ (List.mem_append.2 (.inl (all_mem hd hn))))
theorem small_len {t e : TypeId} {el sp : List (DataW H)} (ht : Try.prog.underlying t = some (.slice e)) (hb : 1 ≤ Try.prog.bytesOf e) (h : Small t (.slice el sp)) : el.length ≤ reachBytes := by
  have := h ((el.length + sp.length) * Try.prog.bytesOf e) (by
    unfold DataW.weights
    rw [ht]
    exact List.mem_cons_self)
  exact Nat.le_trans (Nat.le_trans (Nat.le_add_right _ sp.length) (Nat.le_mul_of_pos_right _ hb)) this
theorem one_pin {n : Nat} {l : List Value} {x : DataW H × List MemPlace} (h : DataW.trod enc Try.prog w 0 (fun _ => true) true n 50 l = some x) :
    ∃ (a : Option Addr) (len c : Nat) (zs : List Int), l = [.slice a len c] ∧ Pin w a len c zs ∧ (Small 50 x.1 → len ≤ reachBytes) := by
  rcases open_ints Try.underlying50 Try.underlying5 (by kernel_rfl) h with ⟨hcs, _⟩ | ⟨a, len, cap, zs, hcs, _, hl, hm, hz, hx, hcell, hwz⟩
  · exact ⟨none, 0, 0, [], hcs, Pin.zero _, fun _ => Nat.zero_le _⟩
  · obtain ⟨h1, h2⟩ := bys_of_row (w := w) (a := some a) (len := len) (cap := cap) (zs := zs) (.inr ⟨a, rfl, hl, hm, by simpa using hz, hcell, hwz⟩)
    refine ⟨some a, len, cap, zs.take len, hcs, ⟨h1, h2, hl, by unfold maxLen at hm; omega⟩, fun hs => ?_⟩
    rw [hx] at hs
    have := small_len Try.underlying50 (of_decide_eq_true (by kernel_rfl)) hs
    have hz' : zs.length = cap := by simpa using hz
    simp [lits] at this
    omega
/-- A row of slices of bytes, opened. -/
theorem rows_of {fuel : Nat} {cs : List Value} {x : DataW H × List MemPlace} (h : DataW.trod enc Try.prog w 0 (fun _ => true) true fuel 39 cs = some x) (hs : Small 39 x.1) :
    ∃ (a : Option Addr) (len cap : Nat) (f : Nat → Pc), cs = [.slice a len cap] ∧ len ≤ cap ∧ cap ≤ 9223372036854775807 ∧ Rws w a len f ∧ ∀ i, i < len → (f i).n ≤ reachBytes := by
  rcases open_slice Try.underlying39 h with ⟨hcs, _⟩ | ⟨a, len, cap, m, n, D, Pm, hcs, _, hl, hm, hmm, hxe, hi⟩
  · exact ⟨none, 0, 0, fun _ => default, hcs, Nat.le_refl _, by omega, ⟨.inl rfl, fun i hi => by omega⟩, fun i hi => by omega⟩
  · have c1 : Try.prog.cellsOf 50 = 1 := by kernel_rfl
    have hmc : m = cap := by simpa using hmm
    rw [c1] at hi
    have hm' : cap ≤ 9223372036854775807 := by unfold maxLen at hm; omega
    by_cases h0 : len = 0
    · exact ⟨some a, len, cap, fun _ => default, hcs, hl, hm', ⟨.inl h0, fun i hi => by omega⟩, fun i hi => by omega⟩
    obtain ⟨b, off, spot⟩ := a
    have hspot : spot = none := by
      obtain ⟨cs', h1, _⟩ := hi 0 (by omega)
      obtain ⟨_, hlen, hcell⟩ := World.cells?_some h1
      have := (hcell 0 (by omega)).trans (List.getElem?_eq_getElem (by omega))
      exact World.cell?_spot this
    subst hspot
    rw [hxe] at hs
    have hs' := hs
    have each : ∀ i, i < len → ∃ y : Pc, b < w.heap.size ∧ w.cell? ⟨b, off + i, none⟩ = some (.slice y.a y.n y.c) ∧ Pin w y.a y.n y.c y.zs ∧ y.n ≤ reachBytes := fun i hil => by
      obtain ⟨cs', h1, h2⟩ := hi i (by omega)
      obtain ⟨a', len', c', zs', e, hp, hr⟩ := one_pin h2
      subst e
      obtain ⟨_, hlen, hcell⟩ := World.cells?_some h1
      have hc := hcell 0 (by omega)
      have hadd : ((⟨b, off, none⟩ : Addr).add (i * 1)).add 0 = ⟨b, off + i, none⟩ := by unfold Addr.add; split <;> simp_all
      rw [hadd] at hc
      exact ⟨⟨a', len', c', zs'⟩, World.block_lt_of_cell? w _ hc, hc, hp, hr (small_elem Try.underlying39 hs' (List.mem_map.2 ⟨i, List.mem_range.2 hil, rfl⟩))⟩
    obtain ⟨f, hf⟩ := choose_lt each
    exact ⟨some ⟨b, off, none⟩, len, cap, f, hcs, hl, hm', ⟨.inr ⟨b, off, rfl, (hf 0 (by omega)).1, fun i hil => (hf i hil).2.1⟩, fun i hil => (hf i hil).2.2.1⟩, fun i hil => (hf i hil).2.2.2⟩
end

end Go.Proofs.Ytegcjpocdfmpfaa
