/-
  A row of calls that came in: what its cells hold.
-/
import Derived.Test.YtcgemckookefmaaTold6
import Derived.Test.YtcgemckookefmaaArgsI
import Derived.Deep.Slices
import Derived.ChangeArms
import Derived.SizedLaws
namespace Go.Proofs.Ytcgemckookefmaa
open Go.RowKit Go.Maps Go.ChangeShapes Go.WideShapes Go.Deep

/-- A call's two lists, as they came in. -/
structure ClIn (w : World) (c : Cl) (p : Pl) : Prop where
  big : c.n ≤ 9223372036854775807
  hz : Bys w p.a3 c.zs.length c.zs
  n3 : p.a3 = none → c.zs.length = 0 ∧ p.c3 = 0
  hk : Ins w p.a4 c.ks.length c.ks
  n4 : p.a4 = none → c.ks.length = 0 ∧ p.c4 = 0
  bz : c.zs.length ≤ reachBytes
  bk : c.ks.length ≤ reachBytes
/-- A call stands from place o of block b on. -/
structure CallIn (w : World) (b o : Nat) (c : Cl) (p : Pl) : Prop where
  k0 : w.cell? ⟨b, o, none⟩ = some (.int .i64 c.what)
  k1 : w.cell? ⟨b, o + 1, none⟩ = some (.int .i64 c.i)
  k2 : w.cell? ⟨b, o + 2, none⟩ = some (.int .i64 c.n)
  k3 : w.cell? ⟨b, o + 3, none⟩ = some (.slice p.a3 c.zs.length p.c3)
  k4 : w.cell? ⟨b, o + 4, none⟩ = some (.slice p.a4 c.ks.length p.c4)
  lists : ClIn w c p
def CallsAt (w : World) (a : Option Addr) (len : Nat) (f : Nat → Cl × Pl) : Prop :=
  len = 0 ∨ ∃ b off, a = some ⟨b, off, none⟩ ∧ b < w.heap.size ∧ ∀ i, i < len → CallIn w b (off + i * 5) (f i).1 (f i).2

theorem ClIn.at {w w' : World} {N : Nat → Prop} {c : Cl} {p : Pl} (h : ClIn w c p) (hb : Below w.heap.size w w') (hN : ∀ k, N k → w.heap.size ≤ k) (l3 : c.zs.length ≤ 1000000000000) (l4 : c.ks.length ≤ 1000000000000) : ClAt w' N c p := by
  refine ⟨h.big, h.hz.next hb, h.n3, ?_, l3, ?_, h.n4, ?_, l4⟩
  · rcases h.hz.place with h0 | ⟨b, off, e, hlt, _⟩
    · exact .inl h0
    · refine .inr fun b' off' e' hn => ?_
      rw [e] at e'
      cases e'
      have := hN _ hn
      omega
  · obtain ⟨hl, hp⟩ := h.hk
    refine ⟨hl, ?_⟩
    rcases hp with h0 | ⟨b, off, e, hlt, hc⟩
    · exact .inl h0
    · exact .inr ⟨b, off, e, Nat.lt_of_lt_of_le hlt hb.size, fun i hi => (hb.cell (p := ⟨b, off + i, none⟩) hlt).trans (hc i hi)⟩
  · rcases h.hk.2 with h0 | ⟨b, off, e, hlt, _⟩
    · exact .inl h0
    · refine .inr fun b' off' e' hn => ?_
      rw [e] at e'
      cases e'
      have := hN _ hn
      omega
theorem CallIn.next {w w' : World} {b o : Nat} {c : Cl} {p : Pl} (h : CallIn w b o c p) (hlt : b < w.heap.size) (hb : Below w.heap.size w w') :
    w'.cell? ⟨b, o, none⟩ = some (.int .i64 c.what) ∧ w'.cell? ⟨b, o + 1, none⟩ = some (.int .i64 c.i) ∧ w'.cell? ⟨b, o + 2, none⟩ = some (.int .i64 c.n) ∧ w'.cell? ⟨b, o + 3, none⟩ = some (.slice p.a3 c.zs.length p.c3) ∧ w'.cell? ⟨b, o + 4, none⟩ = some (.slice p.a4 c.ks.length p.c4) :=
  ⟨(hb.cell (p := ⟨b, o, none⟩) hlt).trans h.k0, (hb.cell (p := ⟨b, o + 1, none⟩) hlt).trans h.k1, (hb.cell (p := ⟨b, o + 2, none⟩) hlt).trans h.k2, (hb.cell (p := ⟨b, o + 3, none⟩) hlt).trans h.k3, (hb.cell (p := ⟨b, o + 4, none⟩) hlt).trans h.k4⟩

theorem take_one {l : List Value} {j : Nat} {v : Value} (h : (l.drop j).take 1 = [v]) : l[j]? = some v := by
  have : ((l.drop j).take 1)[0]? = some v := by rw [h]; rfl
  simpa using this
section
variable {H : Type} {enc : TypeId × Value → H} {w : World}
theorem one_int {n : Nat} {l : List Value} {x : DataW H × List MemPlace} (h : DataW.trod enc Try.prog w 0 (fun _ => true) true n 3 l = some x) : ∃ m, l = [.int .i64 m] ∧ (Lit.int .i64 m).wf = true := by
  obtain ⟨m, e, _, hw⟩ := DataW.trod_int Try.underlying3 h
  exact ⟨m, e, hw⟩
/-- All that is read of a datum takes no more than the reach. -/
def Small (t : TypeId) (d : DataW H) : Prop := ∀ n ∈ d.weights Try.prog t, n ≤ reachBytes
theorem all_mem {e : TypeId} {n : Nat} : ∀ {l : List (DataW H)} {d : DataW H}, d ∈ l → n ∈ d.weights Try.prog e → n ∈ DataW.weightsAll Try.prog e l
  | x :: r, d, h, hn => by
    unfold DataW.weightsAll
    rcases List.mem_cons.1 h with rfl | h
    · exact List.mem_append.2 (.inl hn)
    · exact List.mem_append.2 (.inr (all_mem h hn))
theorem small_elem {t e : TypeId} {el sp : List (DataW H)} {d : DataW H} (ht : Try.prog.underlying t = some (.slice e)) (h : Small t (.slice el sp)) (hd : d ∈ el) : Small e d := fun n hn => h n (by
  unfold DataW.weights
  rw [ht]
  exact List.mem_cons_of_mem _ (List.mem_append.2 (.inl (all_mem hd hn))))
theorem small_len {t e : TypeId} {el sp : List (DataW H)} (ht : Try.prog.underlying t = some (.slice e)) (hb : 1 ≤ Try.prog.bytesOf e) (h : Small t (.slice el sp)) : el.length ≤ reachBytes := by
  have := h ((el.length + sp.length) * Try.prog.bytesOf e) (by
    unfold DataW.weights
    rw [ht]
    exact List.mem_cons_self)
  exact Nat.le_trans (Nat.le_trans (Nat.le_add_right _ sp.length) (Nat.le_mul_of_pos_right _ hb)) this
theorem small_part {j : Nat} {t u : TypeId} {fs : Array Field} {f : Field} {parts : List (DataW H)} {d : DataW H} (ht : Try.prog.underlying t = some (.struct fs)) (h : Small t (.agg parts)) (hf : fs[j]? = some f) (hu : f.type = u) (hd : parts[j]? = some d) : Small u d := fun n hn => h n (by
  unfold DataW.weights
  rw [ht]
  refine DataW.weights_mem_each (j := j) (t := u) ?_ hd n hn
  rw [List.getElem?_map, Array.getElem?_toList, hf, ← hu]
  rfl)
theorem one_bytes {n : Nat} {l : List Value} {x : DataW H × List MemPlace} (h : DataW.trod enc Try.prog w 0 (fun _ => true) true n 38 l = some x) (hs : Small 38 x.1) :
    ∃ (a : Option Addr) (zs : List Int) (c : Nat), l = [.slice a zs.length c] ∧ Bys w a zs.length zs ∧ (a = none → zs.length = 0 ∧ c = 0) ∧ zs.length ≤ reachBytes := by
  rcases open_ints Try.underlying38 Try.underlying5 (by kernel_rfl) h with ⟨hcs, _⟩ | ⟨a, len, cap, zs, hcs, _, hl, hm, hz, hx, hcell, hwz⟩
  · exact ⟨none, [], 0, hcs, Bys.none _, fun _ => ⟨rfl, rfl⟩, Nat.zero_le _⟩
  · obtain ⟨h1, h2⟩ := bys_of_row (w := w) (a := some a) (len := len) (cap := cap) (zs := zs) (.inr ⟨a, rfl, hl, hm, by simpa using hz, hcell, hwz⟩)
    have hlen : (zs.take len).length = len := h1.len
    exact ⟨some a, zs.take len, cap, by rw [hlen]; exact hcs, by rw [hlen]; exact h1, (fun h => by cases h), by
      rw [hx] at hs
      have := small_len Try.underlying38 (of_decide_eq_true (by kernel_rfl)) hs
      simpa [lits] using this⟩
theorem one_ints {n : Nat} {l : List Value} {x : DataW H × List MemPlace} (h : DataW.trod enc Try.prog w 0 (fun _ => true) true n 31 l = some x) (hs : Small 31 x.1) :
    ∃ (a : Option Addr) (zs : List Int) (c : Nat), l = [.slice a zs.length c] ∧ Ins w a zs.length zs ∧ (a = none → zs.length = 0 ∧ c = 0) ∧ zs.length ≤ reachBytes := by
  rcases open_ints Try.underlying31 Try.underlying3 (by kernel_rfl) h with ⟨hcs, _⟩ | ⟨a, len, cap, zs, hcs, _, hl, hm, hz, hx, hcell, hwz⟩
  · exact ⟨none, [], 0, hcs, ⟨rfl, .inl rfl⟩, fun _ => ⟨rfl, rfl⟩, Nat.zero_le _⟩
  · have h1 := ins_of_row (w := w) (a := some a) (len := len) (cap := cap) (zs := zs) (.inr ⟨a, rfl, hl, hm, by simpa using hz, hcell, hwz⟩)
    have hlen : (zs.take len).length = len := h1.1
    exact ⟨some a, zs.take len, cap, by rw [hlen]; exact hcs, by rw [hlen]; exact h1, (fun h => by cases h), by
      rw [hx] at hs
      have := small_len Try.underlying31 (of_decide_eq_true (by kernel_rfl)) hs
      simpa [lits] using this⟩

theorem add_at (b off m : Nat) : (⟨b, off, none⟩ : Addr).add m = ⟨b, off + m, none⟩ := by unfold Addr.add; split <;> simp_all
/-- One call of a row. -/
theorem call_of {b off : Nat} {m : Nat} {cs : List Value} {n : Nat} {x : DataW H × List MemPlace} (hc : w.cells? 0 ((⟨b, off, none⟩ : Addr).add m) 5 = some cs) (h : DataW.trod enc Try.prog w 0 (fun _ => true) true n 40 cs = some x) (hs : Small 40 x.1) :
    ∃ y : Cl × Pl, b < w.heap.size ∧ CallIn w b (off + m) y.1 y.2 := by
  obtain ⟨_, hlen, hcell⟩ := World.cells?_some hc
  obtain ⟨xs, n', _, hxe, _, hxl, hf⟩ := DataW.trod_struct Try.underlying40 h
  have hs' : Small 40 (.agg (xs.map (·.1))) := by rw [hxe] at hs; exact hs
  have hx : ∀ j, j < 5 → ∃ y, xs[j]? = some y := fun j hj => ⟨_, List.getElem?_eq_getElem (by rw [hxl]; exact hj)⟩
  have c3 : Try.prog.cellsOf 3 = 1 := by kernel_rfl
  have c8 : Try.prog.cellsOf 38 = 1 := by kernel_rfl
  have c1 : Try.prog.cellsOf 31 = 1 := by kernel_rfl
  have f0 : DataW.trod enc Try.prog w 0 (fun _ => true) true n' 3 ((cs.drop 0).take (Try.prog.cellsOf 3)) = xs[0]? := hf 0 _ rfl
  have f1 : DataW.trod enc Try.prog w 0 (fun _ => true) true n' 3 ((cs.drop 1).take (Try.prog.cellsOf 3)) = xs[1]? := hf 1 _ rfl
  have f2 : DataW.trod enc Try.prog w 0 (fun _ => true) true n' 3 ((cs.drop 2).take (Try.prog.cellsOf 3)) = xs[2]? := hf 2 _ rfl
  have f3 : DataW.trod enc Try.prog w 0 (fun _ => true) true n' 38 ((cs.drop 3).take (Try.prog.cellsOf 38)) = xs[3]? := hf 3 _ rfl
  have f4 : DataW.trod enc Try.prog w 0 (fun _ => true) true n' 31 ((cs.drop 4).take (Try.prog.cellsOf 31)) = xs[4]? := hf 4 _ rfl
  obtain ⟨y0, e0⟩ := hx 0 (by omega)
  obtain ⟨y1, e1⟩ := hx 1 (by omega)
  obtain ⟨y2, e2⟩ := hx 2 (by omega)
  obtain ⟨y3, e3⟩ := hx 3 (by omega)
  obtain ⟨y4, e4⟩ := hx 4 (by omega)
  rw [e0] at f0
  rw [e1] at f1
  rw [e2] at f2
  rw [e3] at f3
  rw [e4] at f4
  rw [c3] at f0 f1 f2
  rw [c8] at f3
  rw [c1] at f4
  obtain ⟨v0, g0, _⟩ := one_int f0
  obtain ⟨v1, g1, _⟩ := one_int f1
  obtain ⟨v2, g2, w2⟩ := one_int f2
  obtain ⟨a3, zs, k3, g3, hz, n3, bz⟩ := one_bytes f3 (small_part (j := 3) Try.underlying40 hs' rfl rfl (by rw [List.getElem?_map, e3]; rfl))
  obtain ⟨a4, ks, k4, g4, hk, n4, bk⟩ := one_ints f4 (small_part (j := 4) Try.underlying40 hs' rfl rfl (by rw [List.getElem?_map, e4]; rfl))
  have q0 := (hcell 0 (by omega)).trans (take_one g0)
  have q1 := (hcell 1 (by omega)).trans (take_one g1)
  have q2 := (hcell 2 (by omega)).trans (take_one g2)
  have q3 := (hcell 3 (by omega)).trans (take_one g3)
  have q4 := (hcell 4 (by omega)).trans (take_one g4)
  rw [add_at, add_at] at q0 q1 q2 q3 q4
  exact ⟨(⟨v0, v1, v2, zs, ks⟩, ⟨a3, k3, a4, k4⟩), World.block_lt_of_cell? w _ q0, ⟨q0, q1, q2, q3, q4, ⟨wf_le w2, hz, n3, hk, n4, bz, bk⟩⟩⟩

instance : Inhabited (Cl × Pl) := ⟨(⟨0, 0, 0, [], []⟩, ⟨none, 0, none, 0⟩)⟩
/-- A row of calls, opened. -/
theorem calls_of {fuel : Nat} {cs : List Value} {x : DataW H × List MemPlace} (h : DataW.trod enc Try.prog w 0 (fun _ => true) true fuel 22 cs = some x) (hs : Small 22 x.1) :
    ∃ (a : Option Addr) (len cap : Nat) (f : Nat → Cl × Pl), cs = [.slice a len cap] ∧ len ≤ cap ∧ cap ≤ maxLen ∧ CallsAt w a len f := by
  rcases open_slice Try.underlying22 h with ⟨hcs, _⟩ | ⟨a, len, cap, m, n, D, Pm, hcs, _, hl, hm, hmm, hxe, hi⟩
  · exact ⟨none, 0, 0, fun _ => default, hcs, Nat.le_refl _, by unfold maxLen; omega, .inl rfl⟩
  · have c5 : Try.prog.cellsOf 40 = 5 := by kernel_rfl
    have hmc : m = cap := by simpa using hmm
    rw [c5] at hi
    by_cases h0 : len = 0
    · exact ⟨some a, len, cap, fun _ => default, hcs, hl, hm, .inl h0⟩
    obtain ⟨b, off, spot⟩ := a
    have hspot : spot = none := by
      obtain ⟨cs', h1, _⟩ := hi 0 (by omega)
      obtain ⟨_, hlen, hcell⟩ := World.cells?_some h1
      have := (hcell 0 (by omega)).trans (List.getElem?_eq_getElem (by omega))
      exact World.cell?_spot this
    subst hspot
    rw [hxe] at hs
    have hs' := hs
    have each : ∀ i, i < len → ∃ y : Cl × Pl, b < w.heap.size ∧ CallIn w b (off + i * 5) y.1 y.2 := fun i hil => by
      obtain ⟨cs', h1, h2⟩ := hi i (by omega)
      exact call_of h1 h2 (small_elem Try.underlying22 hs' (List.mem_map.2 ⟨i, List.mem_range.2 hil, rfl⟩))
    obtain ⟨f, hf⟩ := choose_lt each
    exact ⟨some ⟨b, off, none⟩, len, cap, f, hcs, hl, hm, .inr ⟨b, off, rfl, (hf 0 (by omega)).1, fun i hil => (hf i hil).2⟩⟩
end

end Go.Proofs.Ytcgemckookefmaa
