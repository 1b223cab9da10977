/-
  Nodes in memory; the document's 'address', by contract.
-/
import Derived.Test.YtegcjpocdfmpfaaUad
import Derived.Deep.DeepCutAuto
import Derived.Deep.RegionHeld3
import Derived.Test.YtegcjpocdfmpfaaUab
import Derived.Laws.CopyRow
import Derived.Laws.Tables
set_option linter.unusedVariables false
set_option linter.unusedSimpArgs false
set_option maxRecDepth 100000
set_option maxHeartbeats 16000000
namespace Go.Proofs.Ytegcjpocdfmpfaa
open Go.RowKit

/-- A node as it lies in memory. -/
structure Nw where
  ino : Int
  kind : Int
  links : Int
  size : Int
  a : Option Addr
  n : Nat
  c : Nat
  ks : List Int
instance : Inhabited Nw := ⟨⟨0, 0, 0, 0, none, 0, 0, []⟩⟩
def Nw.nd (x : Nw) : Nd := ⟨x.ino, x.kind, x.links, x.size, x.ks⟩
abbrev nwV (x : Nw) : Value := .agg #[.int .i64 x.ino, .int .i64 x.kind, .int .i64 x.links, .int .i64 x.size, .slice x.a x.n x.c]
structure NwIn (w : World) (b o : Nat) (x : Nw) : Prop where
  c0 : w.cell? ⟨b, o, none⟩ = some (.int .i64 x.ino)
  c1 : w.cell? ⟨b, o + 1, none⟩ = some (.int .i64 x.kind)
  c2 : w.cell? ⟨b, o + 2, none⟩ = some (.int .i64 x.links)
  c3 : w.cell? ⟨b, o + 3, none⟩ = some (.int .i64 x.size)
  c4 : w.cell? ⟨b, o + 4, none⟩ = some (.slice x.a x.n x.c)
  ins : Ins w x.a x.n x.ks
  nil : x.a = none → x.n = 0 ∧ x.c = 0
  max : x.n ≤ 9223372036854775807
def NwsAt (w : World) (a : Option Addr) (len : Nat) (f : Nat → Nw) : Prop :=
  len = 0 ∨ ∃ b off, a = some ⟨b, off, none⟩ ∧ b < w.heap.size ∧ ∀ i, i < len → NwIn w b (off + i * 5) (f i)
section
variable {w w' : World} {a : Option Addr} {len b o : Nat} {f : Nat → Nw} {x : Nw}
theorem NwIn.next (h : NwIn w b o x) (hlt : b < w.heap.size) (hb : Below w.heap.size w w') : NwIn w' b o x :=
  have g := fun j => hb.cell (p := ⟨b, j, none⟩) hlt
  ⟨(g _).trans h.c0, (g _).trans h.c1, (g _).trans h.c2, (g _).trans h.c3, (g _).trans h.c4, h.ins.next hb, h.nil, h.max⟩
theorem NwsAt.next (h : NwsAt w a len f) (hb : Below w.heap.size w w') : NwsAt w' a len f := by
  rcases h with h0 | ⟨b, off, e, hlt, hc⟩
  · exact .inl h0
  · exact .inr ⟨b, off, e, Nat.lt_of_lt_of_le hlt hb.size, fun i hi => (hc i hi).next hlt hb⟩
end
/-- How many addresses there are. -/
abbrev adN (d r s : Int) : Int := s * PL d r
theorem adN_bd {d r s : Int} (h : Rt d r s) : 12 ≤ adN d r s ∧ adN d r s ≤ 3776 := by
  obtain ⟨p1, p2, _, _⟩ := PL_bd h.d1 h.d2 h.r1 h.r2
  have s1 := h.s1
  have s2 := h.s2
  unfold adN
  constructor
  · calc (12 : Int) = 12 * 1 := by omega
      _ ≤ s * PL d r := Int.mul_le_mul s1 p1 (by omega) (by omega)
  · calc s * PL d r ≤ 64 * 59 := Int.mul_le_mul s2 p2 (by omega) (by omega)
      _ = 3776 := by omega

/-- A record's numbers, as cells. -/
def rcs (f : Nat → Int) : Array Value := #[.int .i64 (f 0), .int .i64 (f 1), .int .i64 (f 2), .int .i64 (f 3), .int .i64 (f 4), .int .i64 (f 5), .int .i64 (f 6), .int .i64 (f 7), .int .i64 (f 8), .int .i64 (f 9), .int .i64 (f 10), .int .i64 (f 11), .int .i64 (f 12), .int .i64 (f 13), .int .i64 (f 14), .int .i64 (f 15), .int .i64 (f 16), .int .i64 (f 17), .int .i64 (f 18), .int .i64 (f 19), .int .i64 (f 20)]
abbrev rcv (f : Nat → Int) : Value := .agg (rcs f)
/-- Eighteen numbers, as cells. -/
def pcs (f : Nat → Int) : Array Value := #[.int .i64 (f 0), .int .i64 (f 1), .int .i64 (f 2), .int .i64 (f 3), .int .i64 (f 4), .int .i64 (f 5), .int .i64 (f 6), .int .i64 (f 7), .int .i64 (f 8), .int .i64 (f 9), .int .i64 (f 10), .int .i64 (f 11), .int .i64 (f 12), .int .i64 (f 13), .int .i64 (f 14), .int .i64 (f 15), .int .i64 (f 16), .int .i64 (f 17)]
abbrev pcv (f : Nat → Int) : Value := .agg (pcs f)
def upd (f : Nat → Int) (k : Nat) (z : Int) : Nat → Int := fun i => if i = k then z else f i
theorem rcs_get (f : Nat → Int) {i : Nat} (h : i < 21) : (rcs f)[i]? = some (.int .i64 (f i)) := by
  rcases (by omega : i = 0 ∨ i = 1 ∨ i = 2 ∨ i = 3 ∨ i = 4 ∨ i = 5 ∨ i = 6 ∨ i = 7 ∨ i = 8 ∨ i = 9 ∨ i = 10 ∨ i = 11 ∨ i = 12 ∨ i = 13 ∨ i = 14 ∨ i = 15 ∨ i = 16 ∨ i = 17 ∨ i = 18 ∨ i = 19 ∨ i = 20) with rfl | rfl | rfl | rfl | rfl | rfl | rfl | rfl | rfl | rfl | rfl | rfl | rfl | rfl | rfl | rfl | rfl | rfl | rfl | rfl | rfl <;> rfl
theorem pcs_get (f : Nat → Int) {i : Nat} (h : i < 18) : (pcs f)[i]? = some (.int .i64 (f i)) := by
  rcases (by omega : i = 0 ∨ i = 1 ∨ i = 2 ∨ i = 3 ∨ i = 4 ∨ i = 5 ∨ i = 6 ∨ i = 7 ∨ i = 8 ∨ i = 9 ∨ i = 10 ∨ i = 11 ∨ i = 12 ∨ i = 13 ∨ i = 14 ∨ i = 15 ∨ i = 16 ∨ i = 17) with rfl | rfl | rfl | rfl | rfl | rfl | rfl | rfl | rfl | rfl | rfl | rfl | rfl | rfl | rfl | rfl | rfl | rfl <;> rfl
theorem rcs_list (f : Nat → Int) : (rcs f).toList = (List.range 21).map fun i => Value.int .i64 (f i) := rfl
theorem pcs_list (f : Nat → Int) : (pcs f).toList = (List.range 18).map fun i => Value.int .i64 (f i) := rfl
theorem map_set (f : Nat → Int) (n k : Nat) (z : Int) : ((List.range n).map fun i => Value.int .i64 (f i)).set k (.int .i64 z) = (List.range n).map fun i => Value.int .i64 (upd f k z i) := by
  apply List.ext_getElem (by simp)
  intro i h1 h2
  have hi : i < n := by simpa using h2
  rw [List.getElem_set]
  by_cases e : k = i
  · subst e; simp [upd]
  · simp [upd, e, Ne.symm e]
theorem rcs_set (f : Nat → Int) (k : Nat) (z : Int) : (rcs f).setIfInBounds k (.int .i64 z) = rcs (upd f k z) := by
  apply Array.ext'
  rw [Array.toList_setIfInBounds, rcs_list, rcs_list, map_set]
theorem pcs_set (f : Nat → Int) (k : Nat) (z : Int) : (pcs f).setIfInBounds k (.int .i64 z) = pcs (upd f k z) := by
  apply Array.ext'
  rw [Array.toList_setIfInBounds, pcs_list, pcs_list, map_set]
theorem rcs_congr {f g : Nat → Int} (h : ∀ i, i < 21 → f i = g i) : rcs f = rcs g := by
  apply Array.ext'
  rw [rcs_list, rcs_list]
  exact List.map_congr_left fun i hi => by rw [h i (List.mem_range.1 hi)]
theorem pcs_congr {f g : Nat → Int} (h : ∀ i, i < 18 → f i = g i) : pcs f = pcs g := by
  apply Array.ext'
  rw [pcs_list, pcs_list]
  exact List.map_congr_left fun i hi => by rw [h i (List.mem_range.1 hi)]
/-- The record that tells nothing. -/
def noR : Nat → Int := fun _ => 0

/-- A record lies in block b. -/
structure Rcb (w : World) (b : Nat) (f : Nat → Int) : Prop where
  row : w.heap[b]? = some (.cells (rcs f) 104 (0, 0))
/-- Eighteen numbers lie in block b. -/
structure Pcb (w : World) (b : Nat) (f : Nat → Int) : Prop where
  row : w.heap[b]? = some (.cells (pcs f) 186 (0, 0))
section
variable {w w' : World} {b : Nat} {f : Nat → Int}
theorem Rcb.lt (h : Rcb w b f) : b < w.heap.size := lt_of_block h.row
theorem Rcb.cell (h : Rcb w b f) {i : Nat} (hi : i < 21) : w.cell? ⟨b, i, none⟩ = some (.int .i64 (f i)) := by
  rw [cell_of_row w b i _ _ (0, 0) h.row, rcs_get f hi]
theorem Rcb.free (h : Rcb w b f) (i : Nat) : w.frozen? ⟨b, i, none⟩ = false := frozen_of_row w b i _ _ h.row
theorem Rcb.below (h : Rcb w b f) {B : Nat} (hB : b < B) (hb : Below B w w') : Rcb w' b f := ⟨(hb.block b hB).trans h.row⟩
theorem Rcb.next (h : Rcb w b f) (hb : Below w.heap.size w w') : Rcb w' b f := h.below h.lt hb
theorem Rcb.alloc (h : Rcb w b f) (o : Obj) : Rcb (w.alloc o) b f := h.next ((Below.refl _ _).alloc (Nat.le_refl _) o)
theorem Rcb.drew (h : Rcb w b f) : Rcb w.drew b f := ⟨h.row⟩
theorem Rcb.mk' (w : World) (f : Nat → Int) : Rcb (w.alloc (.cells (rcs f) 104 (0, 0))) w.heap.size f := ⟨heap_alloc_new w _⟩
theorem Rcb.set (h : Rcb w b f) (k : Nat) (z : Int) : Rcb (w.setCell ⟨b, k, none⟩ (.int .i64 z)) b (upd f k z) := by
  refine ⟨?_⟩
  rw [heap_setCell_same w b k _ _ _ h.row, rcs_set]
theorem Rcb.load (h : Rcb w b f) : (loadVar 104 ⟨b, 0, none⟩).run Try.prog w = .ok (rcv f) w :=
  run_loadVar_row w b _ _ _ _ _ h.row Try.underlying104 rfl (by kernel_rfl)
theorem Pcb.lt (h : Pcb w b f) : b < w.heap.size := lt_of_block h.row
theorem Pcb.cell (h : Pcb w b f) {i : Nat} (hi : i < 18) : w.cell? ⟨b, i, none⟩ = some (.int .i64 (f i)) := by
  rw [cell_of_row w b i _ _ (0, 0) h.row, pcs_get f hi]
theorem Pcb.free (h : Pcb w b f) (i : Nat) : w.frozen? ⟨b, i, none⟩ = false := frozen_of_row w b i _ _ h.row
theorem Pcb.below (h : Pcb w b f) {B : Nat} (hB : b < B) (hb : Below B w w') : Pcb w' b f := ⟨(hb.block b hB).trans h.row⟩
theorem Pcb.next (h : Pcb w b f) (hb : Below w.heap.size w w') : Pcb w' b f := h.below h.lt hb
theorem Pcb.alloc (h : Pcb w b f) (o : Obj) : Pcb (w.alloc o) b f := h.next ((Below.refl _ _).alloc (Nat.le_refl _) o)
theorem Pcb.drew (h : Pcb w b f) : Pcb w.drew b f := ⟨h.row⟩
theorem Pcb.mk' (w : World) (f : Nat → Int) : Pcb (w.alloc (.cells (pcs f) 186 (0, 0))) w.heap.size f := ⟨heap_alloc_new w _⟩
theorem Pcb.set (h : Pcb w b f) (k : Nat) (z : Int) : Pcb (w.setCell ⟨b, k, none⟩ (.int .i64 z)) b (upd f k z) := by
  refine ⟨?_⟩
  rw [heap_setCell_same w b k _ _ _ h.row, pcs_set]
theorem Pcb.load (h : Pcb w b f) : (loadVar 186 ⟨b, 0, none⟩).run Try.prog w = .ok (pcv f) w :=
  run_loadVar_row w b _ _ _ _ _ h.row Try.underlying186 rfl (by kernel_rfl)
end

theorem setRow_below {w0 w : World} {B g : Nat} (h : Below B w0 w) (hB : B ≤ g) (cs : Array Value) : Below B w0 (w.setRow g cs) :=
  h.trans ⟨rfl, rfl, rfl, by simp [World.setRow], fun k hk => setRow_other w g k _ (by omega)⟩
theorem Rcb.setRow {w : World} {b g : Nat} {f : Nat → Int} (h : Rcb w b f) (hne : b ≠ g) (cs : Array Value) : Rcb (w.setRow g cs) b f := ⟨(setRow_other w g b _ hne).trans h.row⟩
theorem Pcb.setRow {w : World} {b g : Nat} {f : Nat → Int} (h : Pcb w b f) (hne : b ≠ g) (cs : Array Value) : Pcb (w.setRow g cs) b f := ⟨(setRow_other w g b _ hne).trans h.row⟩
theorem Pcb.putRow {w : World} {b : Nat} {f : Nat → Int} (h : Pcb w b f) (g : Nat → Int) : Pcb (w.setRow b (pcs g)) b g := ⟨setRow_heap w b _ _ _ _ h.row⟩
theorem Rcb.putRow {w : World} {b : Nat} {f : Nat → Int} (h : Rcb w b f) (g : Nat → Int) : Rcb (w.setRow b (rcs g)) b g := ⟨setRow_heap w b _ _ _ _ h.row⟩
theorem Pcb.setCell {w : World} {b g : Nat} {f : Nat → Int} (h : Pcb w b f) (hne : b ≠ g) (i : Nat) (v : Value) : Pcb (w.setCell ⟨g, i, none⟩ v) b f := ⟨by rw [heap_setCell_other w ⟨g, i, none⟩ b v hne]; exact h.row⟩
theorem Rcb.setCell {w : World} {b g : Nat} {f : Nat → Int} (h : Rcb w b f) (hne : b ≠ g) (i : Nat) (v : Value) : Rcb (w.setCell ⟨g, i, none⟩ v) b f := ⟨by rw [heap_setCell_other w ⟨g, i, none⟩ b v hne]; exact h.row⟩
theorem Pcb.store {w : World} {b : Nat} {f : Nat → Int} (h : Pcb w b f) (g : Nat → Int) : (storeVar 186 ⟨b, 0, none⟩ (pcv g)).run Try.prog w = .ok () (w.setRow b (pcs g)) :=
  run_storeVar_row w b _ _ _ _ h.row (by kernel_rfl) rfl (by simp [pcs, Value.oneCell'])
theorem Rcb.store {w : World} {b : Nat} {f : Nat → Int} (h : Rcb w b f) (g : Nat → Int) : (storeVar 104 ⟨b, 0, none⟩ (rcv g)).run Try.prog w = .ok () (w.setRow b (rcs g)) :=
  run_storeVar_row w b _ _ _ _ h.row (by kernel_rfl) rfl (by simp [rcs, Value.oneCell'])
theorem Pcb.loadAt {w : World} {b : Nat} {f : Nat → Int} (h : Pcb w b f) : (Instr.loadAt 186 (.pointer (some ⟨b, 0, none⟩))).run Try.prog w = .ok (pcv f) w := by
  simp only [Instr.loadAt, Instr.sureAddr, Sem.run_bind, Sem.run_pure, Result.andThen]
  exact h.load
theorem Rcb.loadAt {w : World} {b : Nat} {f : Nat → Int} (h : Rcb w b f) : (Instr.loadAt 104 (.pointer (some ⟨b, 0, none⟩))).run Try.prog w = .ok (rcv f) w := by
  simp only [Instr.loadAt, Instr.sureAddr, Sem.run_bind, Sem.run_pure, Result.andThen]
  exact h.load
theorem Pcb.storeAt {w : World} {b : Nat} {f : Nat → Int} (h : Pcb w b f) (g : Nat → Int) : (Instr.storeAt 186 (.pointer (some ⟨b, 0, none⟩)) (pcv g)).run Try.prog w = .ok () (w.setRow b (pcs g)) := by
  simp only [Instr.storeAt, Instr.sureAddr, Sem.run_bind, Sem.run_pure, Result.andThen]
  exact h.store g
theorem Rcb.storeAt {w : World} {b : Nat} {f : Nat → Int} (h : Rcb w b f) (g : Nat → Int) : (Instr.storeAt 104 (.pointer (some ⟨b, 0, none⟩)) (rcv g)).run Try.prog w = .ok () (w.setRow b (rcs g)) := by
  simp only [Instr.storeAt, Instr.sureAddr, Sem.run_bind, Sem.run_pure, Result.andThen]
  exact h.store g
theorem res_c1 {P : Program} {fn : Func} {t : Tmp} {T : TypeId} (h : fn.results = #[.cell t T]) (tmps : Array Value) (w : World) (p : Addr) (v : Value) (hp : tmps.getD t undef = .pointer (some p)) (hv : (loadVar T p).run P w = .ok v w) : (results fn tmps).run P w = .ok v w := by
  have ha : asAddr (tmps.getD t undef) = (pure p : Sem Addr) := by rw [hp]; rfl
  unfold results
  rw [h]
  simp only [List.mapM_toArray, List.mapM_cons, List.mapM_nil, ha, Sem.run_bind, Sem.run_pure, Result.andThen_ok, hv, map_eq_pure_bind]
  rfl
theorem res_ct {P : Program} {fn : Func} {t u : Tmp} {T : TypeId} (h : fn.results = #[.cell t T, .tmp u]) (tmps : Array Value) (w : World) (p : Addr) (v x : Value) (hp : tmps.getD t undef = .pointer (some p)) (hu : tmps.getD u undef = x) (hv : (loadVar T p).run P w = .ok v w) : (results fn tmps).run P w = .ok (.tuple #[v, x]) w := by
  have ha : asAddr (tmps.getD t undef) = (pure p : Sem Addr) := by rw [hp]; rfl
  unfold results
  rw [h]
  simp only [List.mapM_toArray, List.mapM_cons, List.mapM_nil, ha, hu, Sem.run_bind, Sem.run_pure, Result.andThen_ok, hv, map_eq_pure_bind]
  rfl

section
variable {ops : Array Oper} {rest : List Oper} {o : Oper} {a : Act} {w : World} {Q : Exit → Act → World → Prop}
/-- A whole record is loaded; a whole row of eighteen; and stored. -/
theorem wpList_ldR (hw : Region.wanted o (yielded ops a.tmps) = true) (x : Operand) (ho : o.op = .load 104 x) (b : Nat) (hx : a.eval x = .pointer (some ⟨b, 0, none⟩)) (f : Nat → Int) (hb : Rcb w b f)
    (h : wpList Try.prog ops Q rest (a.put o.dst (rcv f)) w) : wpList Try.prog ops Q (o :: rest) a w :=
  wpList_step fun K hK => by
    rw [if_pos hw]
    unfold Oper.wp execOp
    simp only [ho, hx, Sem.run_bind, hb.loadAt, Result.andThen_ok, Sem.run_pure]
    exact hK _ _ h
theorem wpList_ldP (hw : Region.wanted o (yielded ops a.tmps) = true) (x : Operand) (ho : o.op = .load 186 x) (b : Nat) (hx : a.eval x = .pointer (some ⟨b, 0, none⟩)) (f : Nat → Int) (hb : Pcb w b f)
    (h : wpList Try.prog ops Q rest (a.put o.dst (pcv f)) w) : wpList Try.prog ops Q (o :: rest) a w :=
  wpList_step fun K hK => by
    rw [if_pos hw]
    unfold Oper.wp execOp
    simp only [ho, hx, Sem.run_bind, hb.loadAt, Result.andThen_ok, Sem.run_pure]
    exact hK _ _ h
theorem wpList_stR (hw : Region.wanted o (yielded ops a.tmps) = true) (x y : Operand) (ho : o.op = .store 104 x y) (b : Nat) (hx : a.eval x = .pointer (some ⟨b, 0, none⟩)) (g : Nat → Int) (hy : a.eval y = rcv g) (f : Nat → Int) (hb : Rcb w b f)
    (h : ∀ w', Rcb w' b g → (∀ k, k ≠ b → w'.heap[k]? = w.heap[k]?) → (∀ B w0, B ≤ b → Below B w0 w → Below B w0 w') → wpList Try.prog ops Q rest (a.put o.dst undef) w') : wpList Try.prog ops Q (o :: rest) a w :=
  wpList_step fun K hK => by
    rw [if_pos hw]
    unfold Oper.wp execOp
    simp only [ho, hx, hy, Sem.run_bind, hb.storeAt, Result.andThen_ok, Sem.run_pure]
    exact hK _ _ (h _ (hb.putRow g) (fun k hk => setRow_other w b k _ hk) (fun B w0 hB h0 => setRow_below h0 hB _))
theorem wpList_stP (hw : Region.wanted o (yielded ops a.tmps) = true) (x y : Operand) (ho : o.op = .store 186 x y) (b : Nat) (hx : a.eval x = .pointer (some ⟨b, 0, none⟩)) (g : Nat → Int) (hy : a.eval y = pcv g) (f : Nat → Int) (hb : Pcb w b f)
    (h : ∀ w', Pcb w' b g → (∀ k, k ≠ b → w'.heap[k]? = w.heap[k]?) → (∀ B w0, B ≤ b → Below B w0 w → Below B w0 w') → wpList Try.prog ops Q rest (a.put o.dst undef) w') : wpList Try.prog ops Q (o :: rest) a w :=
  wpList_step fun K hK => by
    rw [if_pos hw]
    unfold Oper.wp execOp
    simp only [ho, hx, hy, Sem.run_bind, hb.storeAt, Result.andThen_ok, Sem.run_pure]
    exact hK _ _ (h _ (hb.putRow g) (fun k hk => setRow_other w b k _ hk) (fun B w0 hB h0 => setRow_below h0 hB _))
end
end Go.Proofs.Ytegcjpocdfmpfaa
