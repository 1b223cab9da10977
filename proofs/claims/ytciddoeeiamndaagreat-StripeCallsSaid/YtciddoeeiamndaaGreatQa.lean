/-
  A row of calls that came in: what its cells hold.
-/
import Derived.Test.YtciddoeeiamndaaGreatArg8
import Derived.Test.YtciddoeeiamndaaGreatQt
import Derived.WalkKit
import Derived.ProofKit
import Derived.OpenShut
import Derived.ShutString
import Derived.ChangeOld
import Derived.Lib.SmallJoins
import Derived.Deep.Slices
import Derived.ChangeArms
import Derived.SizedLaws
namespace Go.Proofs.YtciddoeeiamndaaGreat
open Go.RowKit Go.Maps Go.ChangeShapes Go.WideShapes Go.ChangeAt Go.Joins Go.Deep
set_option linter.unusedVariables false

section
variable {H : Type} {enc : TypeId × Value → H} {w : World} {base : Nat} {held : Bool} {r : Reach} {b0 : Nat}
theorem cells29 : Tryz.prog.cellsOf 23 = 3 := by kernel_rfl
abbrev Wf (n : Int) : Prop := (Lit.int .i64 n).wf = true
theorem wf_int {fuel : Nat} {v : Value} {y : DataW H × List MemPlace} (h : DataW.trod enc Tryz.prog w base (fun _ => true) held fuel 3 [v] = some y) : ∃ n, v = .int .i64 n ∧ Wf n := by
  obtain ⟨n, z, _, hw⟩ := DataW.trod_int Tryz.underlying3 h
  simp at z
  exact ⟨n, z, hw⟩
set_option maxRecDepth 100000 in
theorem open_mb {v : Value} {d : DataW H} {p : List MemPlace} (hv : Value.okWide Tryz.prog w r b0 23 v) (h : DataW.Trod enc Tryz.prog w base (fun _ => true) held 23 v d p) : ∃ e s t, v = mb e s t ∧ Wf e ∧ Wf s ∧ Wf t := by
  obtain ⟨c0, c1, c2, y0, y1, y2, n, rfl, _, _, h0, h1, h2⟩ := open_agg3 Tryz.underlying23 (by kernel_rfl) cells29 hv h
  obtain ⟨e, rfl, we⟩ := wf_int h0
  obtain ⟨s, rfl, ws⟩ := wf_int h1
  obtain ⟨t, rfl, wt⟩ := wf_int h2
  exact ⟨e, s, t, rfl, we, ws, wt⟩
end
/-- A call of a row. -/
structure Cs where
  q : Int
  g : Int
  k : Int
  s : Int
  ab : Option Addr
  nb : Nat
  cb : Nat
  fb : Nat → BlP
  ad : Option Addr
  nd : Nat
  cd : Nat
  zd : List Int
  e : Int
  sl : Int
  st : Int
instance : Inhabited Cs := ⟨⟨0, 0, 0, 0, none, 0, 0, fun _ => default, none, 0, 0, [], 0, 0, 0⟩⟩
/-- It stands from place o of block b on. -/
structure CsIn (w : World) (b o : Nat) (c : Cs) : Prop where
  k0 : w.cell? ⟨b, o, none⟩ = some (.int .i64 c.q)
  k1 : w.cell? ⟨b, o + 1, none⟩ = some (.int .i64 c.g)
  k2 : w.cell? ⟨b, o + 2, none⟩ = some (.int .i64 c.k)
  k3 : w.cell? ⟨b, o + 3, none⟩ = some (.int .i64 c.s)
  k4 : w.cell? ⟨b, o + 4, none⟩ = some (.slice c.ab c.nb c.cb)
  k5 : w.cell? ⟨b, o + 5, none⟩ = some (.slice c.ad c.nd c.cd)
  k6 : w.cell? ⟨b, o + 6, none⟩ = some (.int .i64 c.e)
  k7 : w.cell? ⟨b, o + 7, none⟩ = some (.int .i64 c.sl)
  k8 : w.cell? ⟨b, o + 8, none⟩ = some (.int .i64 c.st)
  big : c.s ≤ 9223372036854775807
  bl : Bls w c.ab c.nb c.fb
  bb : BlBig c.nb c.fb
  bn : c.nb ≤ reachBytes
  bp : ∀ j, j < c.nb → (c.fb j).p.n ≤ reachBytes
  pin : Pin w c.ad c.nd c.cd c.zd
  few : c.nd ≤ reachBytes
def CssAt (w : World) (a : Option Addr) (len : Nat) (f : Nat → Cs) : Prop :=
  len = 0 ∨ ∃ b off, a = some ⟨b, off, none⟩ ∧ b < w.heap.size ∧ ∀ i, i < len → CsIn w b (off + i * 9) (f i)
theorem CsIn.next {w w' : World} {b o : Nat} {c : Cs} (h : CsIn w b o c) (hlt : b < w.heap.size) (hb : Below w.heap.size w w') : CsIn w' b o c :=
  have g := fun j => hb.cell (p := ⟨b, j, none⟩) hlt
  ⟨(g _).trans h.k0, (g _).trans h.k1, (g _).trans h.k2, (g _).trans h.k3, (g _).trans h.k4, (g _).trans h.k5, (g _).trans h.k6, (g _).trans h.k7, (g _).trans h.k8, h.big, h.bl.next hb, h.bb, h.bn, h.bp, h.pin.next hb, h.few⟩
section
variable {H : Type} {enc : TypeId × Value → H} {w : World}
theorem small_part {j : Nat} {t u : TypeId} {fs : Array Field} {f : Field} {parts : List (DataW H)} {d : DataW H} (ht : Tryz.prog.underlying t = some (.struct fs)) (h : Small t (.agg parts)) (hf : fs[j]? = some f) (hu : f.type = u) (hd : parts[j]? = some d) : Small u d := fun n hn => h n (by
  unfold DataW.weights
  rw [ht]
  refine DataW.weights_mem_each (j := j) (t := u) ?_ hd n hn
  rw [List.getElem?_map, Array.getElem?_toList, hf, ← hu]
  rfl)
set_option maxRecDepth 100000 in
theorem one_mem {n : Nat} {l : List Value} {x : DataW H × List MemPlace} (hl : l.length = 3) (h : DataW.trod enc Tryz.prog w 0 (fun _ => true) true n 23 l = some x) : ∃ e s t, l = [.int .i64 e, .int .i64 s, .int .i64 t] := by
  obtain ⟨xs, n', _, hxe, _, hxl, hf⟩ := DataW.trod_struct Tryz.underlying23 h
  have hx : ∀ j, j < 3 → ∃ y, xs[j]? = some y := fun j hj => ⟨_, List.getElem?_eq_getElem (by rw [hxl]; exact hj)⟩
  have c3 : Tryz.prog.cellsOf 3 = 1 := by kernel_rfl
  have f0 : DataW.trod enc Tryz.prog w 0 (fun _ => true) true n' 3 ((l.drop 0).take (Tryz.prog.cellsOf 3)) = xs[0]? := hf 0 _ rfl
  have f1 : DataW.trod enc Tryz.prog w 0 (fun _ => true) true n' 3 ((l.drop 1).take (Tryz.prog.cellsOf 3)) = xs[1]? := hf 1 _ rfl
  have f2 : DataW.trod enc Tryz.prog w 0 (fun _ => true) true n' 3 ((l.drop 2).take (Tryz.prog.cellsOf 3)) = xs[2]? := hf 2 _ rfl
  obtain ⟨y0, e0⟩ := hx 0 (by omega)
  obtain ⟨y1, e1⟩ := hx 1 (by omega)
  obtain ⟨y2, e2⟩ := hx 2 (by omega)
  rw [e0, c3] at f0
  rw [e1, c3] at f1
  rw [e2, c3] at f2
  obtain ⟨v0, g0, _⟩ := one_int f0
  obtain ⟨v1, g1, _⟩ := one_int f1
  obtain ⟨v2, g2, _⟩ := one_int f2
  match l, hl with
  | [a, b, c], _ =>
    simp at g0 g1 g2
    exact ⟨v0, v1, v2, by rw [g0, g1, g2]⟩
theorem take_at {l l' : List Value} {j k : Nat} {v : Value} (h : (l.drop j).take k = l') {i : Nat} (hv : l'[i]? = some v) : l[j + i]? = some v := by
  rw [← h, List.getElem?_take] at hv
  split at hv
  · rwa [List.getElem?_drop] at hv
  · cases hv
set_option maxRecDepth 100000 in
/-- One block of a row, and its bounds. -/
theorem bl_of2 {b off : Nat} {m : Nat} {cs : List Value} {n : Nat} {x : DataW H × List MemPlace} (hc : w.cells? 0 ((⟨b, off, none⟩ : Addr).add m) 3 = some cs) (h : DataW.trod enc Tryz.prog w 0 (fun _ => true) true n 65 cs = some x) (hs : Small 65 x.1) :
    ∃ y : BlP, b < w.heap.size ∧ (w.cell? ⟨b, off + m, none⟩ = some (.int .i64 y.o) ∧ w.cell? ⟨b, off + m + 1, none⟩ = some (.int .i64 y.i) ∧ w.cell? ⟨b, off + m + 2, none⟩ = some (.slice y.p.a y.p.n y.p.c)) ∧ Pin w y.p.a y.p.n y.p.c y.p.zs ∧ (y.o ≤ 9223372036854775807 ∧ y.i ≤ 9223372036854775807) ∧ y.p.n ≤ reachBytes := by
  obtain ⟨_, hlen, hcell⟩ := World.cells?_some hc
  obtain ⟨xs, n', _, hxe, _, hxl, hf⟩ := DataW.trod_struct Tryz.underlying65 h
  have hs' : Small 65 (.agg (xs.map (·.1))) := by rw [hxe] at hs; exact hs
  have hx : ∀ j, j < 3 → ∃ y, xs[j]? = some y := fun j hj => ⟨_, List.getElem?_eq_getElem (by rw [hxl]; exact hj)⟩
  have c3 : Tryz.prog.cellsOf 3 = 1 := by kernel_rfl
  have c8 : Tryz.prog.cellsOf 49 = 1 := by kernel_rfl
  have f0 : DataW.trod enc Tryz.prog w 0 (fun _ => true) true n' 3 ((cs.drop 0).take (Tryz.prog.cellsOf 3)) = xs[0]? := hf 0 _ rfl
  have f1 : DataW.trod enc Tryz.prog w 0 (fun _ => true) true n' 3 ((cs.drop 1).take (Tryz.prog.cellsOf 3)) = xs[1]? := hf 1 _ rfl
  have f2 : DataW.trod enc Tryz.prog w 0 (fun _ => true) true n' 49 ((cs.drop 2).take (Tryz.prog.cellsOf 49)) = xs[2]? := hf 2 _ rfl
  obtain ⟨y0, e0⟩ := hx 0 (by omega)
  obtain ⟨y1, e1⟩ := hx 1 (by omega)
  obtain ⟨y2, e2⟩ := hx 2 (by omega)
  rw [e0] at f0
  rw [e1] at f1
  rw [e2] at f2
  rw [c3] at f0 f1
  rw [c8] at f2
  obtain ⟨v0, g0, u0⟩ := one_int f0
  obtain ⟨v1, g1, u1⟩ := one_int f1
  obtain ⟨a2, n2, k2, zs, g2, hz, bz⟩ := one_pin f2
  have bz' := bz (small_part (j := 2) Tryz.underlying65 hs' rfl rfl (by rw [List.getElem?_map, e2]; rfl))
  have q0 := (hcell 0 (by omega)).trans (take_one g0)
  have q1 := (hcell 1 (by omega)).trans (take_one g1)
  have q2 := (hcell 2 (by omega)).trans (take_one g2)
  rw [add_at, add_at] at q0 q1 q2
  exact ⟨⟨v0, v1, ⟨a2, n2, k2, zs⟩⟩, World.block_lt_of_cell? w _ q0, ⟨q0, q1, q2⟩, hz, ⟨wf_le u0, wf_le u1⟩, bz'⟩
/-- A row of blocks, opened, and its bounds. -/
theorem bls_of2 {fuel : Nat} {cs : List Value} {x : DataW H × List MemPlace} (h : DataW.trod enc Tryz.prog w 0 (fun _ => true) true fuel 48 cs = some x) (hs : Small 48 x.1) :
    ∃ (a : Option Addr) (len cap : Nat) (f : Nat → BlP), cs = [.slice a len cap] ∧ Bls w a len f ∧ BlBig len f ∧ len ≤ reachBytes ∧ ∀ j, j < len → (f j).p.n ≤ reachBytes := by
  rcases open_slice Tryz.underlying48 h with ⟨hcs, _⟩ | ⟨a, len, cap, m, n, D, Pm, hcs, _, hl, hm, hmm, hxe, hi⟩
  · exact ⟨none, 0, 0, fun _ => default, hcs, ⟨.inl rfl, fun j hj => by omega⟩, fun j hj => by omega, Nat.zero_le _, fun j hj => by omega⟩
  · have c5 : Tryz.prog.cellsOf 65 = 3 := by kernel_rfl
    have hmc : m = cap := by simpa using hmm
    rw [c5] at hi
    by_cases h0 : len = 0
    · exact ⟨some a, len, cap, fun _ => default, hcs, ⟨.inl h0, fun j hj => by omega⟩, fun j hj => by omega, by omega, fun j hj => by omega⟩
    obtain ⟨b, off, spot⟩ := a
    have hspot : spot = none := by
      obtain ⟨cs', h1, _⟩ := hi 0 (by omega)
      obtain ⟨_, hlen, hcell⟩ := World.cells?_some h1
      have := (hcell 0 (by omega)).trans (List.getElem?_eq_getElem (by omega))
      exact World.cell?_spot this
    subst hspot
    rw [hxe] at hs
    have hs' := hs
    have hsl := small_len Tryz.underlying48 (of_decide_eq_true (by kernel_rfl)) hs
    have each : ∀ i, i < len → ∃ y : BlP, b < w.heap.size ∧ (w.cell? ⟨b, off + i * 3, none⟩ = some (.int .i64 y.o) ∧ w.cell? ⟨b, off + i * 3 + 1, none⟩ = some (.int .i64 y.i) ∧ w.cell? ⟨b, off + i * 3 + 2, none⟩ = some (.slice y.p.a y.p.n y.p.c)) ∧ Pin w y.p.a y.p.n y.p.c y.p.zs ∧ (y.o ≤ 9223372036854775807 ∧ y.i ≤ 9223372036854775807) ∧ y.p.n ≤ reachBytes := fun i hil => by
      obtain ⟨cs', h1, h2⟩ := hi i (by omega)
      exact bl_of2 h1 h2 (small_elem Tryz.underlying48 hs' (List.mem_map.2 ⟨i, List.mem_range.2 hil, rfl⟩))
    obtain ⟨f, hf⟩ := choose_lt each
    refine ⟨some ⟨b, off, none⟩, len, cap, f, hcs, ⟨.inr ⟨b, off, rfl, (hf 0 (by omega)).1, fun i hil => (hf i hil).2.1⟩, fun i hil => (hf i hil).2.2.1⟩, fun i hil => (hf i hil).2.2.2.1, ?_, fun i hil => (hf i hil).2.2.2.2⟩
    simp at hsl
    omega
set_option maxRecDepth 100000 in
/-- One call of a row. -/
theorem cs_of {b off : Nat} {m : Nat} {cs : List Value} {n : Nat} {x : DataW H × List MemPlace} (hc : w.cells? 0 ((⟨b, off, none⟩ : Addr).add m) 9 = some cs) (h : DataW.trod enc Tryz.prog w 0 (fun _ => true) true n 51 cs = some x) (hs : Small 51 x.1) :
    ∃ y : Cs, b < w.heap.size ∧ CsIn w b (off + m) y := by
  obtain ⟨_, hlen, hcell⟩ := World.cells?_some hc
  obtain ⟨xs, n', _, hxe, _, hxl, hf⟩ := DataW.trod_struct Tryz.underlying51 h
  have hs' : Small 51 (.agg (xs.map (·.1))) := by rw [hxe] at hs; exact hs
  have hx : ∀ j, j < 7 → ∃ y, xs[j]? = some y := fun j hj => ⟨_, List.getElem?_eq_getElem (by rw [hxl]; exact hj)⟩
  have c3 : Tryz.prog.cellsOf 3 = 1 := by kernel_rfl
  have c4 : Tryz.prog.cellsOf 48 = 1 := by kernel_rfl
  have c8 : Tryz.prog.cellsOf 49 = 1 := by kernel_rfl
  have f0 : DataW.trod enc Tryz.prog w 0 (fun _ => true) true n' 3 ((cs.drop 0).take (Tryz.prog.cellsOf 3)) = xs[0]? := hf 0 _ rfl
  have f1 : DataW.trod enc Tryz.prog w 0 (fun _ => true) true n' 3 ((cs.drop 1).take (Tryz.prog.cellsOf 3)) = xs[1]? := hf 1 _ rfl
  have f2 : DataW.trod enc Tryz.prog w 0 (fun _ => true) true n' 3 ((cs.drop 2).take (Tryz.prog.cellsOf 3)) = xs[2]? := hf 2 _ rfl
  have f3 : DataW.trod enc Tryz.prog w 0 (fun _ => true) true n' 3 ((cs.drop 3).take (Tryz.prog.cellsOf 3)) = xs[3]? := hf 3 _ rfl
  have f4 : DataW.trod enc Tryz.prog w 0 (fun _ => true) true n' 48 ((cs.drop 4).take (Tryz.prog.cellsOf 48)) = xs[4]? := hf 4 _ rfl
  have f5 : DataW.trod enc Tryz.prog w 0 (fun _ => true) true n' 49 ((cs.drop 5).take (Tryz.prog.cellsOf 49)) = xs[5]? := hf 5 _ rfl
  have f6 : DataW.trod enc Tryz.prog w 0 (fun _ => true) true n' 23 ((cs.drop 6).take (Tryz.prog.cellsOf 23)) = xs[6]? := hf 6 _ rfl
  obtain ⟨y0, e0⟩ := hx 0 (by omega)
  obtain ⟨y1, e1⟩ := hx 1 (by omega)
  obtain ⟨y2, e2⟩ := hx 2 (by omega)
  obtain ⟨y3, e3⟩ := hx 3 (by omega)
  obtain ⟨y4, e4⟩ := hx 4 (by omega)
  obtain ⟨y5, e5⟩ := hx 5 (by omega)
  obtain ⟨y6, e6⟩ := hx 6 (by omega)
  rw [e0] at f0
  rw [e1] at f1
  rw [e2] at f2
  rw [e3] at f3
  rw [e4] at f4
  rw [e5] at f5
  rw [e6] at f6
  rw [c3] at f0 f1 f2 f3
  rw [c4] at f4
  rw [c8] at f5
  rw [cells29] at f6
  obtain ⟨v0, g0, _⟩ := one_int f0
  obtain ⟨v1, g1, _⟩ := one_int f1
  obtain ⟨v2, g2, _⟩ := one_int f2
  obtain ⟨v3, g3, w3⟩ := one_int f3
  obtain ⟨a4, n4, k4, fb, g4, hbl, hbb, hbn, hbp⟩ := bls_of2 f4 (small_part (j := 4) Tryz.underlying51 hs' rfl rfl (by rw [List.getElem?_map, e4]; rfl))
  obtain ⟨a5, n5, k5, zs, g5, hz, bz⟩ := one_pin f5
  obtain ⟨v6, v7, v8, g6⟩ := one_mem (by simp; omega) f6
  have bz' := bz (small_part (j := 5) Tryz.underlying51 hs' rfl rfl (by rw [List.getElem?_map, e5]; rfl))
  have q0 := (hcell 0 (by omega)).trans (take_one g0)
  have q1 := (hcell 1 (by omega)).trans (take_one g1)
  have q2 := (hcell 2 (by omega)).trans (take_one g2)
  have q3 := (hcell 3 (by omega)).trans (take_one g3)
  have q4 := (hcell 4 (by omega)).trans (take_one g4)
  have q5 := (hcell 5 (by omega)).trans (take_one g5)
  have q6 := (hcell 6 (by omega)).trans (take_at (i := 0) g6 rfl)
  have q7 := (hcell 7 (by omega)).trans (take_at (i := 1) g6 rfl)
  have q8 := (hcell 8 (by omega)).trans (take_at (i := 2) g6 rfl)
  rw [add_at, add_at] at q0 q1 q2 q3 q4 q5 q6 q7 q8
  exact ⟨⟨v0, v1, v2, v3, a4, n4, k4, fb, a5, n5, k5, zs, v6, v7, v8⟩, World.block_lt_of_cell? w _ q0, ⟨q0, q1, q2, q3, q4, q5, q6, q7, q8, wf_le w3, hbl, hbb, hbn, hbp, hz, bz'⟩⟩
/-- A row of calls, opened. -/
theorem css_of {fuel : Nat} {cs : List Value} {x : DataW H × List MemPlace} (h : DataW.trod enc Tryz.prog w 0 (fun _ => true) true fuel 24 cs = some x) (hs : Small 24 x.1) :
    ∃ (a : Option Addr) (len cap : Nat) (f : Nat → Cs), cs = [.slice a len cap] ∧ len ≤ cap ∧ cap ≤ maxLen ∧ CssAt w a len f := by
  rcases open_slice Tryz.underlying24 h with ⟨hcs, _⟩ | ⟨a, len, cap, m, n, D, Pm, hcs, _, hl, hm, hmm, hxe, hi⟩
  · exact ⟨none, 0, 0, fun _ => default, hcs, Nat.le_refl _, by unfold maxLen; omega, .inl rfl⟩
  · have c5 : Tryz.prog.cellsOf 51 = 9 := by kernel_rfl
    have hmc : m = cap := by simpa using hmm
    rw [c5] at hi
    by_cases h0 : len = 0
    · exact ⟨some a, len, cap, fun _ => default, hcs, hl, hm, .inl h0⟩
    obtain ⟨b, off, spot⟩ := a
    have hspot : spot = none := by
      obtain ⟨cs', h1, _⟩ := hi 0 (by omega)
      obtain ⟨_, hlen, hcell⟩ := World.cells?_some h1
      have := (hcell 0 (by omega)).trans (List.getElem?_eq_getElem (by omega))
      exact World.cell?_spot this
    subst hspot
    rw [hxe] at hs
    have hs' := hs
    have each : ∀ i, i < len → ∃ y : Cs, b < w.heap.size ∧ CsIn w b (off + i * 9) y := fun i hil => by
      obtain ⟨cs', h1, h2⟩ := hi i (by omega)
      exact cs_of h1 h2 (small_elem Tryz.underlying24 hs' (List.mem_map.2 ⟨i, List.mem_range.2 hil, rfl⟩))
    obtain ⟨f, hf⟩ := choose_lt each
    exact ⟨some ⟨b, off, none⟩, len, cap, f, hcs, hl, hm, .inr ⟨b, off, rfl, (hf 0 (by omega)).1, fun i hil => (hf i hil).2⟩⟩
end

end Go.Proofs.YtciddoeeiamndaaGreat
