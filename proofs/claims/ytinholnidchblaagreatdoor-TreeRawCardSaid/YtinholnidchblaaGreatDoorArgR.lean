import Derived.Test.YtinholnidchblaaGreatDoorArgO
set_option linter.unusedVariables false
set_option linter.unusedSimpArgs false
set_option maxRecDepth 100000
set_option maxHeartbeats 16000000
namespace Go.Proofs.YtinholnidchblaaGreatDoor
open Go.RowKit Go.ChangeShapes Go.WideShapes Go.Joins Go.Deep
structure NdW (w : World) (a : Option Addr) (n c : Nat) (f : Nat → Nc) : Prop where
 nds : Nds w a n f
 len : n ≤ 200000000000000
 each : ∀ i, i < n → (f i).dn ≤ 200000000000000 ∧ (f i).en ≤ 200000000000000 ∧ ∀ y ∈ (f i).e, y.s.size ≤ 200000000000000
section
variable {H : Type} {enc : TypeId × Value → H} {w : World} {r : Reach} {b0 : Nat}
theorem small_part {j : Nat} {t u : TypeId} {fs : Array Field} {f : Field} {parts : List (DataW H)} {d : DataW H} (ht : Tryz.prog.underlying t = some (.struct fs)) (h : Small t (.agg parts)) (hf : fs[j]? = some f) (hu : f.type = u) (hd : parts[j]? = some d) : Small u d := fun n hn => h n (by
 unfold DataW.weights
 rw [ht]
 refine DataW.weights_mem_each (j := j) (t := u) ?_ hd n hn
 rw [List.getElem?_map, Array.getElem?_toList, hf, ← hu]
 rfl)
theorem one_strS {n : Nat} {l : List Value} {x : DataW H × List MemPlace} (h : DataW.trod enc Tryz.prog w 0 (fun _ => true) true n 9 l = some x) (hs : Small 9 x.1) : ∃ s : ByteArray, l = [.string s] ∧ s.size ≤ reachBytes := by
 obtain ⟨s, e, hx, hm⟩ := DataW.trod_string Tryz.underlying9 h
 refine ⟨s, e, ?_⟩
 rw [hx] at hs
 have := hs s.data.toList.length (by unfold DataW.weights; simp)
 rwa [← Lib.size_eq] at this
theorem reach_le {n : Nat} (h : n ≤ reachBytes) : n ≤ 200000000000000 := Nat.le_trans h (by decide)
theorem en_of {b off : Nat} {m : Nat} {cs : List Value} {n : Nat} {x : DataW H × List MemPlace} (hc : w.cells? 0 ((⟨b, off, none⟩ : Addr).add m) 2 = some cs) (h : DataW.trod enc Tryz.prog w 0 (fun _ => true) true n 77 cs = some x) (hs : Small 77 x.1) :
  ∃ y : En, b < w.heap.size ∧ w.cell? ⟨b, off + m, none⟩ = some (.string y.s) ∧ w.cell? ⟨b, off + m + 1, none⟩ = some (.int .i64 y.i) ∧ y.s.size ≤ 200000000000000 := by
 obtain ⟨_, hlen, hcell⟩ := World.cells?_some hc
 obtain ⟨xs, n', _, hxe, _, hxl, hf⟩ := DataW.trod_struct Tryz.underlying77 h
 have hs' : Small 77 (.agg (xs.map (·.1))) := by rw [hxe] at hs; exact hs
 have hx : ∀ j, j < 2 → ∃ y, xs[j]? = some y := fun j hj => ⟨_, List.getElem?_eq_getElem (by rw [hxl]; exact hj)⟩
 have c3 : Tryz.prog.cellsOf 3 = 1 := by kernel_rfl
 have c9 : Tryz.prog.cellsOf 9 = 1 := by kernel_rfl
 have f0 : DataW.trod enc Tryz.prog w 0 (fun _ => true) true n' 9 ((cs.drop 0).take (Tryz.prog.cellsOf 9)) = xs[0]? := hf 0 _ rfl
 have f1 : DataW.trod enc Tryz.prog w 0 (fun _ => true) true n' 3 ((cs.drop 1).take (Tryz.prog.cellsOf 3)) = xs[1]? := hf 1 _ rfl
 obtain ⟨y0, e0⟩ := hx 0 (by omega)
 obtain ⟨y1, e1⟩ := hx 1 (by omega)
 rw [e0, c9] at f0
 rw [e1, c3] at f1
 obtain ⟨s, g0, bz⟩ := one_strS f0 (small_part (j := 0) Tryz.underlying77 hs' rfl rfl (by rw [List.getElem?_map, e0]; rfl))
 obtain ⟨i, g1, _⟩ := one_int f1
 have q0 := (hcell 0 (by omega)).trans (take_one g0)
 have q1 := (hcell 1 (by omega)).trans (take_one g1)
 rw [add_e, add_e] at q0 q1
 exact ⟨⟨s, i⟩, World.block_lt_of_cell? w _ q0, q0, q1, reach_le bz⟩
theorem ents_of {fuel : Nat} {cs : List Value} {x : DataW H × List MemPlace} (h : DataW.trod enc Tryz.prog w 0 (fun _ => true) true fuel 52 cs = some x) (hs : Small 52 x.1) :
  ∃ (a : Option Addr) (n c : Nat) (L : List En), cs = [.slice a n c] ∧ Enz w a n c L ∧ n ≤ 200000000000000 ∧ ∀ y ∈ L, y.s.size ≤ 200000000000000 := by
 rcases open_slice Tryz.underlying52 h with ⟨hcs, _⟩ | ⟨a, len, cap, m, n, D, Pm, hcs, _, hl, hm, hmm, hxe, hi⟩
 ·exact ⟨none, 0, 0, [], hcs, Enz.zero _, Nat.zero_le _, fun y hy => by cases hy⟩
 ·have c5 : Tryz.prog.cellsOf 77 = 2 := by kernel_rfl
  have hmc : m = cap := by simpa using hmm
  have hm' : cap ≤ 9223372036854775807 := by unfold maxLen at hm; omega
  rw [c5] at hi
  rw [hxe] at hs
  have hsl := small_len Tryz.underlying52 (of_decide_eq_true (by kernel_rfl)) hs
  rw [List.length_map, List.length_range] at hsl
  by_cases h0 : len = 0
  ·subst h0
   exact ⟨some a, 0, cap, [], hcs, ⟨ens_nil _ _, (fun h => by cases h), hl, hm'⟩, Nat.zero_le _, fun y hy => by cases hy⟩
  obtain ⟨b, off, spot⟩ := a
  have hspot : spot = none := by
   obtain ⟨cs', h1, _⟩ := hi 0 (by omega); obtain ⟨_, hlen, hcell⟩ := World.cells?_some h1; have := (hcell 0 (by omega)).trans (List.getElem?_eq_getElem (by omega))
   exact World.cell?_spot this
  subst hspot
  have each : ∀ i, i < len → ∃ y : En, b < w.heap.size ∧ w.cell? ⟨b, off + i * 2, none⟩ = some (.string y.s) ∧ w.cell? ⟨b, off + i * 2 + 1, none⟩ = some (.int .i64 y.i) ∧ y.s.size ≤ 200000000000000 := fun i hil => by
   obtain ⟨cs', h1, h2⟩ := hi i (by omega)
   exact en_of h1 h2 (small_elem Tryz.underlying52 hs (List.mem_map.2 ⟨i, List.mem_range.2 hil, rfl⟩))
  obtain ⟨f, hf⟩ := choose_lt each
  have hget : ∀ i, i < len → eat ((List.range len).map f) i = f i := fun i hil => by simp [eat, List.getD, hil]
  refine ⟨some ⟨b, off, none⟩, len, cap, (List.range len).map f, hcs, ⟨⟨by simp, .inr ⟨b, off, rfl, (hf 0 (by omega)).1, fun i hil => ?_⟩⟩, (fun h => by cases h), hl, hm'⟩, reach_le hsl, fun y hy => ?_⟩
  ·rw [hget i hil]
   exact ⟨(hf i hil).2.1, (hf i hil).2.2.1⟩
  ·obtain ⟨i, hi', rfl⟩ := List.mem_map.1 hy
   exact (hf i (List.mem_range.1 hi')).2.2.2
instance : Inhabited Nc := ⟨⟨0, 0, none, 0, 0, [], none, 0, 0, []⟩⟩
theorem nd_of {b off : Nat} {m : Nat} {cs : List Value} {n : Nat} {x : DataW H × List MemPlace} (hc : w.cells? 0 ((⟨b, off, none⟩ : Addr).add m) 4 = some cs) (h : DataW.trod enc Tryz.prog w 0 (fun _ => true) true n 54 cs = some x) (hs : Small 54 x.1) :
  ∃ y : Nc, b < w.heap.size ∧ (w.cell? ⟨b, off + m, none⟩ = some (.int .i64 y.k) ∧ w.cell? ⟨b, off + m + 1, none⟩ = some (.int .i64 y.l) ∧ w.cell? ⟨b, off + m + 2, none⟩ = some (.slice y.da y.dn y.dc) ∧ w.cell? ⟨b, off + m + 3, none⟩ = some (.slice y.ea y.en y.ec)) ∧
   Pin w y.da y.dn y.dc y.d ∧ Enz w y.ea y.en y.ec y.e ∧ y.dn ≤ 200000000000000 ∧ y.en ≤ 200000000000000 ∧ ∀ z ∈ y.e, z.s.size ≤ 200000000000000 := by
 obtain ⟨_, hlen, hcell⟩ := World.cells?_some hc
 obtain ⟨xs, n', _, hxe, _, hxl, hf⟩ := DataW.trod_struct Tryz.underlying54 h
 have hs' : Small 54 (.agg (xs.map (·.1))) := by rw [hxe] at hs; exact hs
 have hx : ∀ j, j < 4 → ∃ y, xs[j]? = some y := fun j hj => ⟨_, List.getElem?_eq_getElem (by rw [hxl]; exact hj)⟩
 have c3 : Tryz.prog.cellsOf 3 = 1 := by kernel_rfl
 have c8 : Tryz.prog.cellsOf 29 = 1 := by kernel_rfl
 have c9 : Tryz.prog.cellsOf 52 = 1 := by kernel_rfl
 have f0 : DataW.trod enc Tryz.prog w 0 (fun _ => true) true n' 3 ((cs.drop 0).take (Tryz.prog.cellsOf 3)) = xs[0]? := hf 0 _ rfl
 have f1 : DataW.trod enc Tryz.prog w 0 (fun _ => true) true n' 3 ((cs.drop 1).take (Tryz.prog.cellsOf 3)) = xs[1]? := hf 1 _ rfl
 have f2 : DataW.trod enc Tryz.prog w 0 (fun _ => true) true n' 29 ((cs.drop 2).take (Tryz.prog.cellsOf 29)) = xs[2]? := hf 2 _ rfl
 have f3 : DataW.trod enc Tryz.prog w 0 (fun _ => true) true n' 52 ((cs.drop 3).take (Tryz.prog.cellsOf 52)) = xs[3]? := hf 3 _ rfl
 obtain ⟨y0, e0⟩ := hx 0 (by omega)
 obtain ⟨y1, e1⟩ := hx 1 (by omega)
 obtain ⟨y2, e2⟩ := hx 2 (by omega)
 obtain ⟨y3, e3⟩ := hx 3 (by omega)
 rw [e0, c3] at f0
 rw [e1, c3] at f1
 rw [e2, c8] at f2
 rw [e3, c9] at f3
 obtain ⟨k, g0, _⟩ := one_int f0
 obtain ⟨l, g1, _⟩ := one_int f1
 obtain ⟨da, dn, dc, d, g2, hp, hd⟩ := one_pin f2
 have hd' := hd (small_part (j := 2) Tryz.underlying54 hs' rfl rfl (by rw [List.getElem?_map, e2]; rfl))
 obtain ⟨ea, en, ec, E, g3, hE, he, hz⟩ := ents_of f3 (small_part (j := 3) Tryz.underlying54 hs' rfl rfl (by rw [List.getElem?_map, e3]; rfl))
 have q0 := (hcell 0 (by omega)).trans (take_one g0)
 have q1 := (hcell 1 (by omega)).trans (take_one g1)
 have q2 := (hcell 2 (by omega)).trans (take_one g2)
 have q3 := (hcell 3 (by omega)).trans (take_one g3)
 rw [add_e, add_e] at q0 q1 q2 q3
 exact ⟨⟨k, l, da, dn, dc, d, ea, en, ec, E⟩, World.block_lt_of_cell? w _ q0, ⟨q0, q1, q2, q3⟩, hp, hE, reach_le hd', he, hz⟩
theorem nodes_of {fuel : Nat} {cs : List Value} {x : DataW H × List MemPlace} (h : DataW.trod enc Tryz.prog w 0 (fun _ => true) true fuel 24 cs = some x) (hs : Small 24 x.1) :
  ∃ (a : Option Addr) (n c : Nat) (f : Nat → Nc), cs = [.slice a n c] ∧ NdW w a n c f := by
 rcases open_slice Tryz.underlying24 h with ⟨hcs, _⟩ | ⟨a, len, cap, m, n, D, Pm, hcs, _, hl, hm, hmm, hxe, hi⟩
 ·exact ⟨none, 0, 0, fun _ => default, hcs, ⟨⟨.inl rfl, fun i hi => absurd hi (Nat.not_lt_zero i), fun i hi => absurd hi (Nat.not_lt_zero i)⟩, Nat.zero_le _, fun i hi => absurd hi (Nat.not_lt_zero i)⟩⟩
 ·have c5 : Tryz.prog.cellsOf 54 = 4 := by kernel_rfl
  have hmc : m = cap := by simpa using hmm
  rw [c5] at hi
  rw [hxe] at hs
  have hsl := small_len Tryz.underlying24 (of_decide_eq_true (by kernel_rfl)) hs
  rw [List.length_map, List.length_range] at hsl
  by_cases h0 : len = 0
  ·subst h0
   exact ⟨some a, 0, cap, fun _ => default, hcs, ⟨⟨.inl rfl, fun i hi => absurd hi (Nat.not_lt_zero i), fun i hi => absurd hi (Nat.not_lt_zero i)⟩, Nat.zero_le _, fun i hi => absurd hi (Nat.not_lt_zero i)⟩⟩
  obtain ⟨b, off, spot⟩ := a
  have hspot : spot = none := by
   obtain ⟨cs', h1, _⟩ := hi 0 (by omega); obtain ⟨_, hlen, hcell⟩ := World.cells?_some h1; have := (hcell 0 (by omega)).trans (List.getElem?_eq_getElem (by omega))
   exact World.cell?_spot this
  subst hspot
  have each : ∀ i, i < len → ∃ y : Nc, b < w.heap.size ∧ (w.cell? ⟨b, off + i * 4, none⟩ = some (.int .i64 y.k) ∧ w.cell? ⟨b, off + i * 4 + 1, none⟩ = some (.int .i64 y.l) ∧ w.cell? ⟨b, off + i * 4 + 2, none⟩ = some (.slice y.da y.dn y.dc) ∧ w.cell? ⟨b, off + i * 4 + 3, none⟩ = some (.slice y.ea y.en y.ec)) ∧
    Pin w y.da y.dn y.dc y.d ∧ Enz w y.ea y.en y.ec y.e ∧ y.dn ≤ 200000000000000 ∧ y.en ≤ 200000000000000 ∧ ∀ z ∈ y.e, z.s.size ≤ 200000000000000 := fun i hil => by
   obtain ⟨cs', h1, h2⟩ := hi i (by omega)
   exact nd_of h1 h2 (small_elem Tryz.underlying24 hs (List.mem_map.2 ⟨i, List.mem_range.2 hil, rfl⟩))
  obtain ⟨f, hf⟩ := choose_lt each
  exact ⟨some ⟨b, off, none⟩, len, cap, f, hcs, ⟨⟨.inr ⟨b, off, rfl, (hf 0 (by omega)).1, fun i hil => (hf i hil).2.1⟩, fun i hil => (hf i hil).2.2.1, fun i hil => (hf i hil).2.2.2.1⟩, reach_le hsl, fun i hil => (hf i hil).2.2.2.2⟩⟩
theorem open_tree {v : Value} {d : DataW H} {p : List MemPlace} (hv : Value.okWide Tryz.prog w r b0 26 v) (h : DataW.Trod enc Tryz.prog w 0 (fun _ => true) true 26 v d p) (hs : Small 26 d) :
  ∃ (a : Option Addr) (n c : Nat) (f : Nat → Nc), v = .agg #[.slice a n c] ∧ NdW w a n c f := by
 obtain ⟨cs, rfl, hsz⟩ := okWide_struct Tryz.underlying26 hv
 obtain ⟨fuel, hf⟩ := h
 have e : (Value.agg cs).cells.toList = cs.toList := rfl
 rw [e] at hf
 obtain ⟨xs, n', _, hxe, hlen, hxl, hg⟩ := DataW.trod_struct Tryz.underlying26 hf
 have hs' : Small 26 (.agg (xs.map (·.1))) := by
  have : d = .agg (xs.map (·.1)) := congrArg Prod.fst hxe
  rw [this] at hs; exact hs
 have c1 : Tryz.prog.cellsOf 26 = 1 := by kernel_rfl
 have c2 : Tryz.prog.cellsOf 24 = 1 := by kernel_rfl
 rw [c1] at hlen
 have f0 : DataW.trod enc Tryz.prog w 0 (fun _ => true) true n' 24 ((cs.toList.drop 0).take (Tryz.prog.cellsOf 24)) = xs[0]? := hg 0 _ rfl
 obtain ⟨y0, e0⟩ : ∃ y, xs[0]? = some y := ⟨_, List.getElem?_eq_getElem (by rw [hxl]; exact Nat.zero_lt_one)⟩
 rw [e0, c2] at f0
 obtain ⟨a, n, c, f, g0, hN⟩ := nodes_of f0 (small_part (j := 0) Tryz.underlying26 hs' rfl rfl (by rw [List.getElem?_map, e0]; rfl))
 refine ⟨a, n, c, f, ?_, hN⟩
 have hc := take_one g0
 congr 1
 apply Array.ext'
 match hl : cs.toList, hlen with
 | [u], _ =>
  rw [hl] at hc
  simp at hc
  rw [hc]
end
end Go.Proofs.YtinholnidchblaaGreatDoor
