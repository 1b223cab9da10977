/-
  A slice of bytes that came in, as the walks' words have it.
-/
import Derived.Test.YtciddoeeiamndaaGreatCopy
import Derived.Test.YtciddoeeiamndaaGreatPc
import Derived.Deep.Slices
import Derived.ChangeArms
import Derived.SizedLaws
import Derived.Test.YtciddoeeiamndaaGreatSe
import Derived.Deep.Strs
import Derived.Test.YtciddoeeiamndaaGreatDva
namespace Go.Proofs.YtciddoeeiamndaaGreat
open Go.RowKit

theorem bys_of_row {w : World} {a : Option Addr} {len cap : Nat} {zs : List Int}
    (h : (a = none ∧ len = 0 ∧ cap = 0 ∧ zs = []) ∨ ∃ x, a = some x ∧ len ≤ cap ∧ cap ≤ maxLen ∧ zs.length = cap ∧ (∀ i, i < zs.length → w.cell? (x.add i) = some (.int .u8 (zs.getD i 0))) ∧ ∀ n ∈ zs, (Lit.int .u8 n).wf = true) :
    Bys w a len (zs.take len) ∧ (a = none → len = 0 ∧ cap = 0) := by
  rcases h with ⟨rfl, rfl, rfl, rfl⟩ | ⟨x, rfl, hl, hm, hz, hcell, hwz⟩
  · exact ⟨⟨rfl, (fun z hz => by cases hz), .inl rfl⟩, fun _ => ⟨rfl, rfl⟩⟩
  · have hs : AllB zs := fun z hz => by
      have := hwz z hz
      simp [Lit.wf, IntKind.min, IntKind.max, IntKind.signed, IntKind.bits] at this
      omega
    refine ⟨⟨by simp; omega, hs.take len, ?_⟩, fun h => by cases h⟩
    by_cases h0 : len = 0
    · exact .inl h0
    · refine .inr ?_
      obtain ⟨b, off, spot⟩ := x
      have hc := hcell 0 (by omega)
      have hspot : spot = none := by simpa [Addr.add] using World.cell?_spot hc
      subst hspot
      refine ⟨b, off, rfl, World.block_lt_of_cell? w ((⟨b, off, none⟩ : Addr).add 0) hc, fun i hi => ?_⟩
      have := hcell i (by omega)
      rw [show (⟨b, off, none⟩ : Addr).add i = ⟨b, off + i, none⟩ by unfold Addr.add; split <;> simp_all] at this
      rw [this, byt_take hi]
      rfl

end Go.Proofs.YtciddoeeiamndaaGreat

/-
  Slices of bytes, and rows of them, that came in: what they hold.
-/
namespace Go.Proofs.YtciddoeeiamndaaGreat
open Go.RowKit Go.ChangeShapes Go.WideShapes Go.Deep

theorem wf_le {n : Int} (h : (Lit.int .i64 n).wf = true) : n ≤ 9223372036854775807 := by
  simp [Lit.wf, IntKind.min, IntKind.max, IntKind.signed, IntKind.bits] at h
  omega
theorem choose_lt {α : Type} [Inhabited α] {n : Nat} {P : Nat → α → Prop} (h : ∀ i, i < n → ∃ y, P i y) : ∃ f : Nat → α, ∀ i, i < n → P i (f i) :=
  ⟨fun i => if hi : i < n then Classical.choose (h i hi) else default, fun i hi => by
    show P i (if hi : i < n then Classical.choose (h i hi) else default)
    rw [dif_pos hi]
    exact Classical.choose_spec (h i hi)⟩
section
variable {H : Type} {enc : TypeId × Value → H} {w : World}
/-- All that is read of a datum takes no more than the reach. -/
def Small (t : TypeId) (d : DataW H) : Prop := ∀ n ∈ d.weights Tryz.prog t, n ≤ reachBytes
theorem all_mem {e : TypeId} {n : Nat} : ∀ {l : List (DataW H)} {d : DataW H}, d ∈ l → n ∈ d.weights Tryz.prog e → n ∈ DataW.weightsAll Tryz.prog e l
  | x :: r, d, h, hn => by
    unfold DataW.weightsAll
    rcases List.mem_cons.1 h with rfl | h
    · exact List.mem_append.2 (.inl hn)
    · exact List.mem_append.2 (.inr (all_mem h hn))
theorem small_elem {t e : TypeId} {el sp : List (DataW H)} {d : DataW H} (ht : Tryz.prog.underlying t = some (.slice e)) (h : Small t (.slice el sp)) (hd : d ∈ el) : Small e d := fun n hn => h n (by
  unfold DataW.weights
  rw [ht]
  exact List.mem_cons_of_mem _ (List.mem_append.2 (.inl (all_mem hd hn))))
theorem small_len {t e : TypeId} {el sp : List (DataW H)} (ht : Tryz.prog.underlying t = some (.slice e)) (hb : 1 ≤ Tryz.prog.bytesOf e) (h : Small t (.slice el sp)) : el.length ≤ reachBytes := by
  have := h ((el.length + sp.length) * Tryz.prog.bytesOf e) (by
    unfold DataW.weights
    rw [ht]
    exact List.mem_cons_self)
  exact Nat.le_trans (Nat.le_trans (Nat.le_add_right _ sp.length) (Nat.le_mul_of_pos_right _ hb)) this
theorem one_pin {n : Nat} {l : List Value} {x : DataW H × List MemPlace} (h : DataW.trod enc Tryz.prog w 0 (fun _ => true) true n 49 l = some x) :
    ∃ (a : Option Addr) (len c : Nat) (zs : List Int), l = [.slice a len c] ∧ Pin w a len c zs ∧ (Small 49 x.1 → len ≤ reachBytes) := by
  rcases open_ints Tryz.underlying49 Tryz.underlying5 (by kernel_rfl) h with ⟨hcs, _⟩ | ⟨a, len, cap, zs, hcs, _, hl, hm, hz, hx, hcell, hwz⟩
  · exact ⟨none, 0, 0, [], hcs, Pin.zero _, fun _ => Nat.zero_le _⟩
  · obtain ⟨h1, h2⟩ := bys_of_row (w := w) (a := some a) (len := len) (cap := cap) (zs := zs) (.inr ⟨a, rfl, hl, hm, by simpa using hz, hcell, hwz⟩)
    refine ⟨some a, len, cap, zs.take len, hcs, ⟨h1, h2, hl, by unfold maxLen at hm; omega⟩, fun hs => ?_⟩
    rw [hx] at hs
    have := small_len Tryz.underlying49 (of_decide_eq_true (by kernel_rfl)) hs
    have hz' : zs.length = cap := by simpa using hz
    simp [lits] at this
    omega
/-- A row of slices of bytes, opened. -/
theorem rows_of {fuel : Nat} {cs : List Value} {x : DataW H × List MemPlace} (h : DataW.trod enc Tryz.prog w 0 (fun _ => true) true fuel 31 cs = some x) (hs : Small 31 x.1) :
    ∃ (a : Option Addr) (len cap : Nat) (f : Nat → Pc), cs = [.slice a len cap] ∧ len ≤ cap ∧ cap ≤ 9223372036854775807 ∧ Rws w a len f ∧ ∀ i, i < len → (f i).n ≤ reachBytes := by
  rcases open_slice Tryz.underlying31 h with ⟨hcs, _⟩ | ⟨a, len, cap, m, n, D, Pm, hcs, _, hl, hm, hmm, hxe, hi⟩
  · exact ⟨none, 0, 0, fun _ => default, hcs, Nat.le_refl _, by omega, ⟨.inl rfl, fun i hi => by omega⟩, fun i hi => by omega⟩
  · have c1 : Tryz.prog.cellsOf 49 = 1 := by kernel_rfl
    have hmc : m = cap := by simpa using hmm
    rw [c1] at hi
    have hm' : cap ≤ 9223372036854775807 := by unfold maxLen at hm; omega
    by_cases h0 : len = 0
    · exact ⟨some a, len, cap, fun _ => default, hcs, hl, hm', ⟨.inl h0, fun i hi => by omega⟩, fun i hi => by omega⟩
    obtain ⟨b, off, spot⟩ := a
    have hspot : spot = none := by
      obtain ⟨cs', h1, _⟩ := hi 0 (by omega)
      obtain ⟨_, hlen, hcell⟩ := World.cells?_some h1
      have := (hcell 0 (by omega)).trans (List.getElem?_eq_getElem (by omega))
      exact World.cell?_spot this
    subst hspot
    rw [hxe] at hs
    have hs' := hs
    have each : ∀ i, i < len → ∃ y : Pc, b < w.heap.size ∧ w.cell? ⟨b, off + i, none⟩ = some (.slice y.a y.n y.c) ∧ Pin w y.a y.n y.c y.zs ∧ y.n ≤ reachBytes := fun i hil => by
      obtain ⟨cs', h1, h2⟩ := hi i (by omega)
      obtain ⟨a', len', c', zs', e, hp, hr⟩ := one_pin h2
      subst e
      obtain ⟨_, hlen, hcell⟩ := World.cells?_some h1
      have hc := hcell 0 (by omega)
      have hadd : ((⟨b, off, none⟩ : Addr).add (i * 1)).add 0 = ⟨b, off + i, none⟩ := by unfold Addr.add; split <;> simp_all
      rw [hadd] at hc
      exact ⟨⟨a', len', c', zs'⟩, World.block_lt_of_cell? w _ hc, hc, hp, hr (small_elem Tryz.underlying31 hs' (List.mem_map.2 ⟨i, List.mem_range.2 hil, rfl⟩))⟩
    obtain ⟨f, hf⟩ := choose_lt each
    exact ⟨some ⟨b, off, none⟩, len, cap, f, hcs, hl, hm', ⟨.inr ⟨b, off, rfl, (hf 0 (by omega)).1, fun i hil => (hf i hil).2.1⟩, fun i hil => (hf i hil).2.2.1⟩, fun i hil => (hf i hil).2.2.2⟩
end

end Go.Proofs.YtciddoeeiamndaaGreat

/-
  A slice of blocks that came in: what its cells hold.
-/
namespace Go.Proofs.YtciddoeeiamndaaGreat
open Go.RowKit Go.Maps Go.ChangeShapes Go.WideShapes Go.Deep
set_option linter.unusedVariables false

theorem take_one {l : List Value} {j : Nat} {v : Value} (h : (l.drop j).take 1 = [v]) : l[j]? = some v := by
  have : ((l.drop j).take 1)[0]? = some v := by rw [h]; rfl
  simpa using this
section
variable {H : Type} {enc : TypeId × Value → H} {w : World}
theorem one_int {n : Nat} {l : List Value} {x : DataW H × List MemPlace} (h : DataW.trod enc Tryz.prog w 0 (fun _ => true) true n 3 l = some x) : ∃ m, l = [.int .i64 m] ∧ (Lit.int .i64 m).wf = true := by
  obtain ⟨m, e, _, hw⟩ := DataW.trod_int Tryz.underlying3 h
  exact ⟨m, e, hw⟩
theorem add_at (b off m : Nat) : (⟨b, off, none⟩ : Addr).add m = ⟨b, off + m, none⟩ := by unfold Addr.add; split <;> simp_all
set_option maxRecDepth 100000 in
/-- One block of a row. -/
theorem bl_of {b off : Nat} {m : Nat} {cs : List Value} {n : Nat} {x : DataW H × List MemPlace} (hc : w.cells? 0 ((⟨b, off, none⟩ : Addr).add m) 3 = some cs) (h : DataW.trod enc Tryz.prog w 0 (fun _ => true) true n 65 cs = some x) :
    ∃ y : BlP, b < w.heap.size ∧ (w.cell? ⟨b, off + m, none⟩ = some (.int .i64 y.o) ∧ w.cell? ⟨b, off + m + 1, none⟩ = some (.int .i64 y.i) ∧ w.cell? ⟨b, off + m + 2, none⟩ = some (.slice y.p.a y.p.n y.p.c)) ∧ Pin w y.p.a y.p.n y.p.c y.p.zs := by
  obtain ⟨_, hlen, hcell⟩ := World.cells?_some hc
  obtain ⟨xs, n', _, hxe, _, hxl, hf⟩ := DataW.trod_struct Tryz.underlying65 h
  have hx : ∀ j, j < 3 → ∃ y, xs[j]? = some y := fun j hj => ⟨_, List.getElem?_eq_getElem (by rw [hxl]; exact hj)⟩
  have c3 : Tryz.prog.cellsOf 3 = 1 := by kernel_rfl
  have c8 : Tryz.prog.cellsOf 49 = 1 := by kernel_rfl
  have f0 : DataW.trod enc Tryz.prog w 0 (fun _ => true) true n' 3 ((cs.drop 0).take (Tryz.prog.cellsOf 3)) = xs[0]? := hf 0 _ rfl
  have f1 : DataW.trod enc Tryz.prog w 0 (fun _ => true) true n' 3 ((cs.drop 1).take (Tryz.prog.cellsOf 3)) = xs[1]? := hf 1 _ rfl
  have f2 : DataW.trod enc Tryz.prog w 0 (fun _ => true) true n' 49 ((cs.drop 2).take (Tryz.prog.cellsOf 49)) = xs[2]? := hf 2 _ rfl
  obtain ⟨y0, e0⟩ := hx 0 (by omega)
  obtain ⟨y1, e1⟩ := hx 1 (by omega)
  obtain ⟨y2, e2⟩ := hx 2 (by omega)
  rw [e0] at f0
  rw [e1] at f1
  rw [e2] at f2
  rw [c3] at f0 f1
  rw [c8] at f2
  obtain ⟨v0, g0, _⟩ := one_int f0
  obtain ⟨v1, g1, _⟩ := one_int f1
  obtain ⟨a2, n2, k2, zs, g2, hz, _⟩ := one_pin f2
  have q0 := (hcell 0 (by omega)).trans (take_one g0)
  have q1 := (hcell 1 (by omega)).trans (take_one g1)
  have q2 := (hcell 2 (by omega)).trans (take_one g2)
  rw [add_at, add_at] at q0 q1 q2
  exact ⟨⟨v0, v1, ⟨a2, n2, k2, zs⟩⟩, World.block_lt_of_cell? w _ q0, ⟨q0, q1, q2⟩, hz⟩
/-- A row of blocks, opened. -/
theorem bls_of {fuel : Nat} {cs : List Value} {x : DataW H × List MemPlace} (h : DataW.trod enc Tryz.prog w 0 (fun _ => true) true fuel 48 cs = some x) :
    ∃ (a : Option Addr) (len cap : Nat) (f : Nat → BlP), cs = [.slice a len cap] ∧ len ≤ cap ∧ cap ≤ maxLen ∧ Bls w a len f := by
  rcases open_slice Tryz.underlying48 h with ⟨hcs, _⟩ | ⟨a, len, cap, m, n, D, Pm, hcs, _, hl, hm, hmm, hxe, hi⟩
  · exact ⟨none, 0, 0, fun _ => default, hcs, Nat.le_refl _, by unfold maxLen; omega, .inl rfl, fun j hj => by omega⟩
  · have c5 : Tryz.prog.cellsOf 65 = 3 := by kernel_rfl
    have hmc : m = cap := by simpa using hmm
    rw [c5] at hi
    by_cases h0 : len = 0
    · exact ⟨some a, len, cap, fun _ => default, hcs, hl, hm, .inl h0, fun j hj => by omega⟩
    obtain ⟨b, off, spot⟩ := a
    have hspot : spot = none := by
      obtain ⟨cs', h1, _⟩ := hi 0 (by omega)
      obtain ⟨_, hlen, hcell⟩ := World.cells?_some h1
      have := (hcell 0 (by omega)).trans (List.getElem?_eq_getElem (by omega))
      exact World.cell?_spot this
    subst hspot
    have each : ∀ i, i < len → ∃ y : BlP, b < w.heap.size ∧ (w.cell? ⟨b, off + i * 3, none⟩ = some (.int .i64 y.o) ∧ w.cell? ⟨b, off + i * 3 + 1, none⟩ = some (.int .i64 y.i) ∧ w.cell? ⟨b, off + i * 3 + 2, none⟩ = some (.slice y.p.a y.p.n y.p.c)) ∧ Pin w y.p.a y.p.n y.p.c y.p.zs := fun i hil => by
      obtain ⟨cs', h1, h2⟩ := hi i (by omega)
      exact bl_of h1 h2
    obtain ⟨f, hf⟩ := choose_lt each
    exact ⟨some ⟨b, off, none⟩, len, cap, f, hcs, hl, hm, .inr ⟨b, off, rfl, (hf 0 (by omega)).1, fun i hil => (hf i hil).2.1⟩, fun i hil => (hf i hil).2.2⟩
end

end Go.Proofs.YtciddoeeiamndaaGreat

/-
  Slices of blocks and of numbers that came in.
-/
namespace Go.Proofs.YtciddoeeiamndaaGreat
open Go.RowKit Go.ChangeShapes Go.WideShapes Go.Deep
set_option linter.unusedVariables false

theorem ins_row {w : World} {a : Option Addr} {len cap : Nat} {zs : List Int}
    (h : (a = none ∧ len = 0 ∧ cap = 0 ∧ zs = []) ∨ ∃ x, a = some x ∧ len ≤ cap ∧ cap ≤ maxLen ∧ zs.length = cap ∧ (∀ i, i < zs.length → w.cell? (x.add i) = some (.int .i64 (zs.getD i 0))) ∧ ∀ n ∈ zs, (Lit.int .i64 n).wf = true) :
    Ins w a len (zs.take len) := by
  rcases h with ⟨rfl, rfl, rfl, rfl⟩ | ⟨x, rfl, hl, hm, hz, hcell, hwz⟩
  · exact ⟨rfl, .inl rfl⟩
  · refine ⟨by simp; omega, ?_⟩
    by_cases h0 : len = 0
    · exact .inl h0
    · refine .inr ?_
      obtain ⟨b, off, spot⟩ := x
      have hc := hcell 0 (by omega)
      have hspot : spot = none := by simpa [Addr.add] using World.cell?_spot hc
      subst hspot
      refine ⟨b, off, rfl, World.block_lt_of_cell? w ((⟨b, off, none⟩ : Addr).add 0) hc, fun i hi => ?_⟩
      have := hcell i (by omega)
      rw [show (⟨b, off, none⟩ : Addr).add i = ⟨b, off + i, none⟩ by unfold Addr.add; split <;> simp_all] at this
      rw [this]
      congr 2
      simp [List.getD, hi]
theorem one_insz {H : Type} {enc : TypeId × Value → H} {w : World} {n : Nat} {l : List Value} {x : DataW H × List MemPlace} (h : DataW.trod enc Tryz.prog w 0 (fun _ => true) true n 33 l = some x) :
    ∃ (a : Option Addr) (len c : Nat) (zs : List Int), l = [.slice a len c] ∧ Ins w a len zs ∧ len ≤ maxLen := by
  rcases open_ints Tryz.underlying33 Tryz.underlying3 (by kernel_rfl) h with ⟨hcs, _⟩ | ⟨a, len, cap, zs, hcs, _, hl, hm, hz, hx, hcell, hwz⟩
  · exact ⟨none, 0, 0, [], hcs, ⟨rfl, .inl rfl⟩, Nat.zero_le _⟩
  · exact ⟨some a, len, cap, zs.take len, hcs, ins_row (w := w) (a := some a) (len := len) (cap := cap) (zs := zs) (.inr ⟨a, rfl, hl, hm, by simpa using hz, hcell, hwz⟩), Nat.le_trans hl hm⟩

end Go.Proofs.YtciddoeeiamndaaGreat
