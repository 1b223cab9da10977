/-
  Records and rows of eighteen in memory: loaded and stored whole.
-/
import Derived.Test.YtgfakdjljcnpiaaRb
import Derived.Laws.CopyRow
import Derived.Laws.Tables
import Derived.Deep.DeepCutAuto
namespace Go.Proofs.Ytgfakdjljcnpiaa
open Go.RowKit
set_option linter.unusedVariables false
set_option linter.unusedSimpArgs false

theorem setRow_below {w0 w : World} {B g : Nat} (h : Below B w0 w) (hB : B ≤ g) (cs : Array Value) : Below B w0 (w.setRow g cs) :=
  h.trans ⟨rfl, rfl, rfl, by simp [World.setRow], fun k hk => setRow_other w g k _ (by omega)⟩
theorem Rcb.setRow {w : World} {b g : Nat} {f : Nat → Int} (h : Rcb w b f) (hne : b ≠ g) (cs : Array Value) : Rcb (w.setRow g cs) b f := ⟨(setRow_other w g b _ hne).trans h.row⟩
theorem Pcb.setRow {w : World} {b g : Nat} {f : Nat → Int} (h : Pcb w b f) (hne : b ≠ g) (cs : Array Value) : Pcb (w.setRow g cs) b f := ⟨(setRow_other w g b _ hne).trans h.row⟩
theorem Pcb.putRow {w : World} {b : Nat} {f : Nat → Int} (h : Pcb w b f) (g : Nat → Int) : Pcb (w.setRow b (pcs g)) b g := ⟨setRow_heap w b _ _ _ _ h.row⟩
theorem Rcb.putRow {w : World} {b : Nat} {f : Nat → Int} (h : Rcb w b f) (g : Nat → Int) : Rcb (w.setRow b (rcs g)) b g := ⟨setRow_heap w b _ _ _ _ h.row⟩
theorem Pcb.setCell {w : World} {b g : Nat} {f : Nat → Int} (h : Pcb w b f) (hne : b ≠ g) (i : Nat) (v : Value) : Pcb (w.setCell ⟨g, i, none⟩ v) b f := ⟨by rw [heap_setCell_other w ⟨g, i, none⟩ b v hne]; exact h.row⟩
theorem Rcb.setCell {w : World} {b g : Nat} {f : Nat → Int} (h : Rcb w b f) (hne : b ≠ g) (i : Nat) (v : Value) : Rcb (w.setCell ⟨g, i, none⟩ v) b f := ⟨by rw [heap_setCell_other w ⟨g, i, none⟩ b v hne]; exact h.row⟩
theorem Pcb.store {w : World} {b : Nat} {f : Nat → Int} (h : Pcb w b f) (g : Nat → Int) : (storeVar 49 ⟨b, 0, none⟩ (pcv g)).run Try.prog w = .ok () (w.setRow b (pcs g)) :=
  run_storeVar_row w b _ _ _ _ h.row (by kernel_rfl) rfl (by simp [pcs, Value.oneCell'])
theorem Rcb.store {w : World} {b : Nat} {f : Nat → Int} (h : Rcb w b f) (g : Nat → Int) : (storeVar 24 ⟨b, 0, none⟩ (rcv g)).run Try.prog w = .ok () (w.setRow b (rcs g)) :=
  run_storeVar_row w b _ _ _ _ h.row (by kernel_rfl) rfl (by simp [rcs, Value.oneCell'])
theorem Pcb.loadAt {w : World} {b : Nat} {f : Nat → Int} (h : Pcb w b f) : (Instr.loadAt 49 (.pointer (some ⟨b, 0, none⟩))).run Try.prog w = .ok (pcv f) w := by
  simp only [Instr.loadAt, Instr.sureAddr, Sem.run_bind, Sem.run_pure, Result.andThen]
  exact h.load
theorem Rcb.loadAt {w : World} {b : Nat} {f : Nat → Int} (h : Rcb w b f) : (Instr.loadAt 24 (.pointer (some ⟨b, 0, none⟩))).run Try.prog w = .ok (rcv f) w := by
  simp only [Instr.loadAt, Instr.sureAddr, Sem.run_bind, Sem.run_pure, Result.andThen]
  exact h.load
theorem Pcb.storeAt {w : World} {b : Nat} {f : Nat → Int} (h : Pcb w b f) (g : Nat → Int) : (Instr.storeAt 49 (.pointer (some ⟨b, 0, none⟩)) (pcv g)).run Try.prog w = .ok () (w.setRow b (pcs g)) := by
  simp only [Instr.storeAt, Instr.sureAddr, Sem.run_bind, Sem.run_pure, Result.andThen]
  exact h.store g
theorem Rcb.storeAt {w : World} {b : Nat} {f : Nat → Int} (h : Rcb w b f) (g : Nat → Int) : (Instr.storeAt 24 (.pointer (some ⟨b, 0, none⟩)) (rcv g)).run Try.prog w = .ok () (w.setRow b (rcs g)) := by
  simp only [Instr.storeAt, Instr.sureAddr, Sem.run_bind, Sem.run_pure, Result.andThen]
  exact h.store g
theorem res_c1 {P : Program} {fn : Func} {t : Tmp} {T : TypeId} (h : fn.results = #[.cell t T]) (tmps : Array Value) (w : World) (p : Addr) (v : Value) (hp : tmps.getD t undef = .pointer (some p)) (hv : (loadVar T p).run P w = .ok v w) : (results fn tmps).run P w = .ok v w := by
  have ha : asAddr (tmps.getD t undef) = (pure p : Sem Addr) := by rw [hp]; rfl
  unfold results
  rw [h]
  simp only [List.mapM_toArray, List.mapM_cons, List.mapM_nil, ha, Sem.run_bind, Sem.run_pure, Result.andThen_ok, hv, map_eq_pure_bind]
  rfl
theorem res_ct {P : Program} {fn : Func} {t u : Tmp} {T : TypeId} (h : fn.results = #[.cell t T, .tmp u]) (tmps : Array Value) (w : World) (p : Addr) (v x : Value) (hp : tmps.getD t undef = .pointer (some p)) (hu : tmps.getD u undef = x) (hv : (loadVar T p).run P w = .ok v w) : (results fn tmps).run P w = .ok (.tuple #[v, x]) w := by
  have ha : asAddr (tmps.getD t undef) = (pure p : Sem Addr) := by rw [hp]; rfl
  unfold results
  rw [h]
  simp only [List.mapM_toArray, List.mapM_cons, List.mapM_nil, ha, hu, Sem.run_bind, Sem.run_pure, Result.andThen_ok, hv, map_eq_pure_bind]
  rfl

section
variable {ops : Array Oper} {rest : List Oper} {o : Oper} {a : Act} {w : World} {Q : Exit → Act → World → Prop}
/-- A whole record is loaded; a whole row of eighteen; and stored. -/
theorem wpList_ldR (hw : Region.wanted o (yielded ops a.tmps) = true) (x : Operand) (ho : o.op = .load 24 x) (b : Nat) (hx : a.eval x = .pointer (some ⟨b, 0, none⟩)) (f : Nat → Int) (hb : Rcb w b f)
    (h : wpList Try.prog ops Q rest (a.put o.dst (rcv f)) w) : wpList Try.prog ops Q (o :: rest) a w :=
  wpList_step fun K hK => by
    rw [if_pos hw]
    unfold Oper.wp execOp
    simp only [ho, hx, Sem.run_bind, hb.loadAt, Result.andThen_ok, Sem.run_pure]
    exact hK _ _ h
theorem wpList_ldP (hw : Region.wanted o (yielded ops a.tmps) = true) (x : Operand) (ho : o.op = .load 49 x) (b : Nat) (hx : a.eval x = .pointer (some ⟨b, 0, none⟩)) (f : Nat → Int) (hb : Pcb w b f)
    (h : wpList Try.prog ops Q rest (a.put o.dst (pcv f)) w) : wpList Try.prog ops Q (o :: rest) a w :=
  wpList_step fun K hK => by
    rw [if_pos hw]
    unfold Oper.wp execOp
    simp only [ho, hx, Sem.run_bind, hb.loadAt, Result.andThen_ok, Sem.run_pure]
    exact hK _ _ h
theorem wpList_stR (hw : Region.wanted o (yielded ops a.tmps) = true) (x y : Operand) (ho : o.op = .store 24 x y) (b : Nat) (hx : a.eval x = .pointer (some ⟨b, 0, none⟩)) (g : Nat → Int) (hy : a.eval y = rcv g) (f : Nat → Int) (hb : Rcb w b f)
    (h : ∀ w', Rcb w' b g → (∀ k, k ≠ b → w'.heap[k]? = w.heap[k]?) → (∀ B w0, B ≤ b → Below B w0 w → Below B w0 w') → wpList Try.prog ops Q rest (a.put o.dst undef) w') : wpList Try.prog ops Q (o :: rest) a w :=
  wpList_step fun K hK => by
    rw [if_pos hw]
    unfold Oper.wp execOp
    simp only [ho, hx, hy, Sem.run_bind, hb.storeAt, Result.andThen_ok, Sem.run_pure]
    exact hK _ _ (h _ (hb.putRow g) (fun k hk => setRow_other w b k _ hk) (fun B w0 hB h0 => setRow_below h0 hB _))
theorem wpList_stP (hw : Region.wanted o (yielded ops a.tmps) = true) (x y : Operand) (ho : o.op = .store 49 x y) (b : Nat) (hx : a.eval x = .pointer (some ⟨b, 0, none⟩)) (g : Nat → Int) (hy : a.eval y = pcv g) (f : Nat → Int) (hb : Pcb w b f)
    (h : ∀ w', Pcb w' b g → (∀ k, k ≠ b → w'.heap[k]? = w.heap[k]?) → (∀ B w0, B ≤ b → Below B w0 w → Below B w0 w') → wpList Try.prog ops Q rest (a.put o.dst undef) w') : wpList Try.prog ops Q (o :: rest) a w :=
  wpList_step fun K hK => by
    rw [if_pos hw]
    unfold Oper.wp execOp
    simp only [ho, hx, hy, Sem.run_bind, hb.storeAt, Result.andThen_ok, Sem.run_pure]
    exact hK _ _ (h _ (hb.putRow g) (fun k hk => setRow_other w b k _ hk) (fun B w0 hB h0 => setRow_below h0 hB _))
end
end Go.Proofs.Ytgfakdjljcnpiaa
