import Derived.Test.YtinholnidchblaaGreatDoorArg4
import Derived.Test.YtinholnidchblaaGreatDoorQaq
import Derived.Deep.Slices
import Derived.ChangeArms
import Derived.SizedLaws
import Derived.LaidLaws
import Derived.Lib.SmallJoins
set_option linter.unusedVariables false
set_option linter.unusedSimpArgs false
set_option maxRecDepth 100000
set_option maxHeartbeats 16000000
namespace Go.Proofs.YtinholnidchblaaGreatDoor
open Go.RowKit Go.ChangeShapes Go.WideShapes Go.Joins Go.Deep
theorem take_one {l : List Value} {j : Nat} {v : Value} (h : (l.drop j).take 1 = [v]) : l[j]? = some v := by
 have : ((l.drop j).take 1)[0]? = some v := by rw [h]; rfl
 simpa using this
theorem wf_two {n : Int} (h : (Lit.int .i64 n).wf = true) : -9223372036854775808 ≤ n ∧ n ≤ 9223372036854775807 := by
 simp [Lit.wf, IntKind.min, IntKind.max, IntKind.signed, IntKind.bits] at h
 omega
theorem max_le {n : Nat} (h : n ≤ maxLen) : n ≤ 9223372036854775807 := by unfold maxLen at h; omega
section
variable {H : Type} {enc : TypeId × Value → H} {w : World} {r : Reach} {b0 : Nat}
theorem one_int {n : Nat} {l : List Value} {x : DataW H × List MemPlace} (h : DataW.trod enc Tryz.prog w 0 (fun _ => true) true n 3 l = some x) : ∃ m, l = [.int .i64 m] ∧ (Lit.int .i64 m).wf = true := by
 obtain ⟨m, e, _, hw⟩ := DataW.trod_int Tryz.underlying3 h
 exact ⟨m, e, hw⟩
theorem one_str {n : Nat} {l : List Value} {x : DataW H × List MemPlace} (h : DataW.trod enc Tryz.prog w 0 (fun _ => true) true n 9 l = some x) : ∃ s : ByteArray, l = [.string s] ∧ s.size ≤ maxLen := by
 obtain ⟨s, e, hx, hm⟩ := DataW.trod_string Tryz.underlying9 h
 exact ⟨s, e, hm⟩
theorem oc_cells {cs : List Value} {n : Nat} {x : DataW H × List MemPlace} (h : DataW.trod enc Tryz.prog w 0 (fun _ => true) true n 31 cs = some x) :
  ∃ y : Oc, OcW w y ∧ cs.length = 6 ∧ cs[0]? = some (.int .i64 y.o) ∧ cs[1]? = some (.string y.p) ∧ cs[2]? = some (.string y.q) ∧ cs[3]? = some (.int .i64 y.i) ∧ cs[4]? = some (.int .i64 y.m) ∧ cs[5]? = some (.slice y.da y.dn y.dc) := by
 obtain ⟨xs, n', _, hxe, hlen, hxl, hf⟩ := DataW.trod_struct Tryz.underlying31 h
 have hx : ∀ j, j < 6 → ∃ y, xs[j]? = some y := fun j hj => ⟨_, List.getElem?_eq_getElem (by rw [hxl]; exact hj)⟩
 have c3 : Tryz.prog.cellsOf 3 = 1 := by kernel_rfl
 have c9 : Tryz.prog.cellsOf 9 = 1 := by kernel_rfl
 have c8 : Tryz.prog.cellsOf 29 = 1 := by kernel_rfl
 have c31 : Tryz.prog.cellsOf 31 = 6 := by kernel_rfl
 rw [c31] at hlen
 have f0 : DataW.trod enc Tryz.prog w 0 (fun _ => true) true n' 3 ((cs.drop 0).take (Tryz.prog.cellsOf 3)) = xs[0]? := hf 0 _ rfl
 have f1 : DataW.trod enc Tryz.prog w 0 (fun _ => true) true n' 9 ((cs.drop 1).take (Tryz.prog.cellsOf 9)) = xs[1]? := hf 1 _ rfl
 have f2 : DataW.trod enc Tryz.prog w 0 (fun _ => true) true n' 9 ((cs.drop 2).take (Tryz.prog.cellsOf 9)) = xs[2]? := hf 2 _ rfl
 have f3 : DataW.trod enc Tryz.prog w 0 (fun _ => true) true n' 3 ((cs.drop 3).take (Tryz.prog.cellsOf 3)) = xs[3]? := hf 3 _ rfl
 have f4 : DataW.trod enc Tryz.prog w 0 (fun _ => true) true n' 3 ((cs.drop 4).take (Tryz.prog.cellsOf 3)) = xs[4]? := hf 4 _ rfl
 have f5 : DataW.trod enc Tryz.prog w 0 (fun _ => true) true n' 29 ((cs.drop 5).take (Tryz.prog.cellsOf 29)) = xs[5]? := hf 5 _ rfl
 obtain ⟨y0, e0⟩ := hx 0 (by omega)
 obtain ⟨y1, e1⟩ := hx 1 (by omega)
 obtain ⟨y2, e2⟩ := hx 2 (by omega)
 obtain ⟨y3, e3⟩ := hx 3 (by omega)
 obtain ⟨y4, e4⟩ := hx 4 (by omega)
 obtain ⟨y5, e5⟩ := hx 5 (by omega)
 rw [e0, c3] at f0
 rw [e1, c9] at f1
 rw [e2, c9] at f2
 rw [e3, c3] at f3
 rw [e4, c3] at f4
 rw [e5, c8] at f5
 obtain ⟨o, g0, w0⟩ := one_int f0
 obtain ⟨p, g1, m1⟩ := one_str f1
 obtain ⟨q, g2, m2⟩ := one_str f2
 obtain ⟨i, g3, w3⟩ := one_int f3
 obtain ⟨m, g4, w4⟩ := one_int f4
 obtain ⟨a, len, c, zs, g5, hp, _⟩ := one_pin f5
 exact ⟨⟨o, p, q, i, m, a, len, c, zs⟩, ⟨hp, max_le m1, max_le m2, wf_two w0, wf_two w3, wf_two w4⟩, hlen, take_one g0, take_one g1, take_one g2, take_one g3, take_one g4, take_one g5⟩
theorem ops_of {fuel : Nat} {cs : List Value} {x : DataW H × List MemPlace} (h : DataW.trod enc Tryz.prog w 0 (fun _ => true) true fuel 22 cs = some x) :
  ∃ (a : Option Addr) (n c : Nat) (f : Nat → Oc), cs = [.slice a n c] ∧ Ops w a n f ∧ n ≤ c ∧ c ≤ 9223372036854775807 := by
 rcases open_slice Tryz.underlying22 h with ⟨hcs, _⟩ | ⟨a, len, cap, m, n, D, Pm, hcs, _, hl, hm, hmm, hxe, hi⟩
 ·exact ⟨none, 0, 0, fun _ => default, hcs, ⟨.inl rfl, fun i hi => absurd hi (Nat.not_lt_zero i)⟩, Nat.le_refl _, Nat.zero_le _⟩
 ·have c31 : Tryz.prog.cellsOf 31 = 6 := by kernel_rfl
  have hmc : m = cap := by simpa using hmm
  have hm' : cap ≤ 9223372036854775807 := by unfold maxLen at hm; omega
  rw [c31] at hi
  by_cases h0 : len = 0
  ·subst h0
   exact ⟨some a, 0, cap, fun _ => default, hcs, ⟨.inl rfl, fun i hi => absurd hi (Nat.not_lt_zero i)⟩, hl, hm'⟩
  obtain ⟨b, off, spot⟩ := a
  have hspot : spot = none := by
   obtain ⟨cs', h1, _⟩ := hi 0 (by omega); obtain ⟨_, hlen, hcell⟩ := World.cells?_some h1; have := (hcell 0 (by omega)).trans (List.getElem?_eq_getElem (by omega))
   exact World.cell?_spot this
  subst hspot
  have each : ∀ i, i < len → ∃ y : Oc, OcW w y ∧ b < w.heap.size ∧ w.cell? ⟨b, off + i * 6, none⟩ = some (.int .i64 y.o) ∧ w.cell? ⟨b, off + i * 6 + 1, none⟩ = some (.string y.p) ∧ w.cell? ⟨b, off + i * 6 + 2, none⟩ = some (.string y.q) ∧
    w.cell? ⟨b, off + i * 6 + 3, none⟩ = some (.int .i64 y.i) ∧ w.cell? ⟨b, off + i * 6 + 4, none⟩ = some (.int .i64 y.m) ∧ w.cell? ⟨b, off + i * 6 + 5, none⟩ = some (.slice y.da y.dn y.dc) := fun i hil => by
   obtain ⟨cs', h1, h2⟩ := hi i (by omega); obtain ⟨_, hlen, hcell⟩ := World.cells?_some h1; obtain ⟨y, hy, hl6, q0, q1, q2, q3, q4, q5⟩ := oc_cells h2; have x0 := (hcell 0 (by omega)).trans q0; have x1 := (hcell 1 (by omega)).trans q1; have x2 := (hcell 2 (by omega)).trans q2; have x3 := (hcell 3 (by omega)).trans q3; have x4 := (hcell 4 (by omega)).trans q4; have x5 := (hcell 5 (by omega)).trans q5; rw [addr_at, addr_at] at x0 x1 x2 x3 x4 x5
   exact ⟨y, hy, World.block_lt_of_cell? w _ x0, x0, x1, x2, x3, x4, x5⟩
  obtain ⟨f, hf⟩ := choose_lt each
  exact ⟨some ⟨b, off, none⟩, len, cap, f, hcs, ⟨.inr ⟨b, off, rfl, (hf 0 (by omega)).2.1, fun i hil => (hf i hil).2.2⟩, fun i hil => (hf i hil).1⟩, hl, hm'⟩
theorem array6 {l : List Value} {v0 v1 v2 v3 v4 v5 : Value} (hl : l.length = 6) (h0 : l[0]? = some v0) (h1 : l[1]? = some v1) (h2 : l[2]? = some v2) (h3 : l[3]? = some v3) (h4 : l[4]? = some v4) (h5 : l[5]? = some v5) : l = [v0, v1, v2, v3, v4, v5] := by
 match l, hl with
 | [a, b, c, d, e, f], _ =>
  simp at h0 h1 h2 h3 h4 h5
  subst h0 h1 h2 h3 h4 h5
  rfl
theorem open_oc {v : Value} {d : DataW H} {p : List MemPlace} (hv : Value.okWide Tryz.prog w r b0 31 v) (h : DataW.Trod enc Tryz.prog w 0 (fun _ => true) true 31 v d p) :
  ∃ y : Oc, v = .agg #[.int .i64 y.o, .string y.p, .string y.q, .int .i64 y.i, .int .i64 y.m, .slice y.da y.dn y.dc] ∧ OcW w y := by
 obtain ⟨cs, rfl, hsz⟩ := okWide_struct Tryz.underlying31 hv
 obtain ⟨fuel, hf⟩ := h
 obtain ⟨y, hy, hl6, q0, q1, q2, q3, q4, q5⟩ := oc_cells hf
 have e : (Value.agg cs).cells.toList = cs.toList := rfl
 rw [e] at hl6 q0 q1 q2 q3 q4 q5
 have := array6 hl6 q0 q1 q2 q3 q4 q5
 refine ⟨y, ?_, hy⟩
 rw [← this]
end
def firstCells : Array Value := (Go.Pinned.utf8FirstZ.map fun n : Nat => Value.int .u8 ((n : Nat) : Int)).toArray
def rangeCells : Array Value := #[.int .u8 128, .int .u8 191, .int .u8 160, .int .u8 191, .int .u8 128, .int .u8 159, .int .u8 144, .int .u8 191, .int .u8 128, .int .u8 143, .int .u8 0, .int .u8 0, .int .u8 0, .int .u8 0, .int .u8 0, .int .u8 0, .int .u8 0, .int .u8 0, .int .u8 0, .int .u8 0, .int .u8 0, .int .u8 0, .int .u8 0, .int .u8 0, .int .u8 0, .int .u8 0, .int .u8 0, .int .u8 0, .int .u8 0, .int .u8 0, .int .u8 0, .int .u8 0]
def layCells (cs : Array Value) : Obj → Obj
 | .cells _ t frozen => .cells cs t frozen
 | o => o
noncomputable def laidWorld (os : Os) : World :=
 { World.holding Tryz.prog os ⟨#[], #[], []⟩ with heap := ((World.holding Tryz.prog os ⟨#[], #[], []⟩).heap.modify 1 (layCells firstCells)).modify 2 (layCells rangeCells) }
end Go.Proofs.YtinholnidchblaaGreatDoor
