/-
  Rows of numbers: arrays as values, in blocks of their own.
-/
import Derived.Test.YtegcjpocdfmpfaaUah
import Derived.Test.YtegcjpocdfmpfaaUai
import Derived.Test.YtegcjpocdfmpfaaUae
import Derived.Laws.CopyRow
import Derived.Deep.MidRow
import Derived.Deep.WholeRow
import Derived.Deep.DeepCutAuto
import Derived.Test.YtegcjpocdfmpfaaUad
import Derived.Test.YtegcjpocdfmpfaaUaf
set_option linter.unusedVariables false
set_option linter.unusedSimpArgs false
set_option maxRecDepth 100000
set_option maxHeartbeats 16000000
namespace Go.Proofs.Ytegcjpocdfmpfaa
open Go.RowKit

/-- n numbers as cells. -/
def arr (n : Nat) (g : Nat → Int) : Array Value := ((List.range n).map fun i => Value.int .i64 (g i)).toArray
abbrev arv (n : Nat) (g : Nat → Int) : Value := .agg (arr n g)
def noA : Nat → Int := fun _ => 0
theorem arr_size (n : Nat) (g : Nat → Int) : (arr n g).size = n := by simp [arr]
theorem arr_at {n : Nat} (g : Nat → Int) {i : Nat} (h : i < n) : (arr n g)[i]? = some (.int .i64 (g i)) := by simp [arr, h]
theorem arr_congr {n : Nat} {f g : Nat → Int} (h : ∀ i, i < n → f i = g i) : arr n f = arr n g := by
  unfold arr
  congr 1
  exact List.map_congr_left fun i hi => by rw [h i (List.mem_range.1 hi)]
theorem arr_set (n : Nat) (f : Nat → Int) (k : Nat) (z : Int) : (arr n f).setIfInBounds k (.int .i64 z) = arr n (upd f k z) := by
  unfold arr
  rw [List.setIfInBounds_toArray, map_set]
theorem arr_one (n : Nat) (g : Nat → Int) : (arr n g).all (·.oneCell') = true := by simp [arr, Value.oneCell']
theorem box_any (T : TypeId) (cs : Array Value) (w : World) : (Instr.box T (.agg cs)).run Try.prog w = .ok (.pointer (some ⟨w.heap.size, 0, none⟩)) (w.alloc (.cells cs T (0, 0))) := by
  simp [Instr.box, go_sem, Value.cells, Result.andThen]
/-- A type of n numbers. -/
structure ArT (T : TypeId) (n : Nat) : Prop where
  inf : ∃ b, (Try.prog.info? T).map (fun i => (i.zero, i.size, i.bytes)) = some (some (arv n noA), n, b)
  und : ∃ k e, Try.prog.underlying T = some (.array k e)
theorem ar28 : ArT 91 28 := ⟨⟨224, by kernel_rfl⟩, ⟨_, _, Try.underlying91⟩⟩
theorem ar2 : ArT 94 2 := ⟨⟨16, by kernel_rfl⟩, ⟨_, _, Try.underlying94⟩⟩
theorem ar56 : ArT 92 56 := ⟨⟨448, by kernel_rfl⟩, ⟨_, _, Try.underlying92⟩⟩
theorem arA : ArT 149 828 := ⟨⟨6624, by kernel_rfl⟩, ⟨_, _, Try.underlying149⟩⟩
section
variable {T : TypeId} {n : Nat}
theorem ArT.size (hT : ArT T n) : (Try.prog.info? T).map (·.size) = some n := by
  obtain ⟨b, h⟩ := hT.inf
  cases hq : Try.prog.info? T with
  | none => rw [hq] at h; cases h
  | some i => rw [hq] at h; simp at h; simp [h.2.1]
theorem ArT.zero (hT : ArT T n) (w : World) : (zeroValue T).run Try.prog w = .ok (arv n noA) w := by
  obtain ⟨b, h⟩ := hT.inf
  obtain ⟨i0, hi, hz0, _, _⟩ := info_parts h
  unfold zeroValue
  simp only [Sem.run_bind, typeInfo, run_program, hi, Sem.run_pure, Result.andThen_ok, hz0]
theorem ArT.alloc (hT : ArT T n) (w : World) : (Instr.alloc T true (.tuple #[])).run Try.prog w = .ok (.pointer (some ⟨w.heap.size, 0, none⟩)) (w.alloc (.cells (arr n noA) T (0, 0))) := by
  have hz := hT.zero w
  obtain ⟨cs, hcs⟩ : ∃ c, c = arr n noA := ⟨_, rfl⟩
  unfold arv at hz
  rw [← hcs] at hz ⊢
  unfold Instr.alloc
  simp only [Sem.run_bind, hz, Result.andThen_ok]
  rfl
theorem ArT.box (hT : ArT T n) (w : World) (g : Nat → Int) : (Instr.box T (arv n g)).run Try.prog w = .ok (.pointer (some ⟨w.heap.size, 0, none⟩)) (w.alloc (.cells (arr n g) T (0, 0))) := by
  obtain ⟨cs, hcs⟩ : ∃ c, c = arr n g := ⟨_, rfl⟩
  unfold arv
  rw [← hcs]
  exact box_any T cs w
theorem ArT.load (hT : ArT T n) {w : World} {b : Nat} {t : TypeId} {g : Nat → Int} (hb : w.heap[b]? = some (.cells (arr n g) t (0, 0))) : (loadVar T ⟨b, 0, none⟩).run Try.prog w = .ok (arv n g) w := by
  obtain ⟨k, e, hu⟩ := hT.und
  exact run_loadVar_row w b t T _ (0, 0) _ hb hu rfl (by rw [hT.size, arr_size])
theorem ArT.loadAt (hT : ArT T n) {w : World} {b : Nat} {t : TypeId} {g : Nat → Int} (hb : w.heap[b]? = some (.cells (arr n g) t (0, 0))) : (Instr.loadAt T (.pointer (some ⟨b, 0, none⟩))).run Try.prog w = .ok (arv n g) w := by
  simp only [Instr.loadAt, Instr.sureAddr, Sem.run_bind, Sem.run_pure, Result.andThen]
  exact hT.load hb
theorem ArT.storeAt (hT : ArT T n) {w : World} {b : Nat} {t : TypeId} {f : Nat → Int} (hb : w.heap[b]? = some (.cells (arr n f) t (0, 0))) (g : Nat → Int) : (Instr.storeAt T (.pointer (some ⟨b, 0, none⟩)) (arv n g)).run Try.prog w = .ok () (w.setRow b (arr n g)) := by
  simp only [Instr.storeAt, Instr.sureAddr, Sem.run_bind, Sem.run_pure, Result.andThen]
  exact run_storeVar_row w b t T _ _ hb (by rw [hT.size, arr_size]) (by rw [arr_size, arr_size]) (arr_one _ _)
/-- Numbers that lie anywhere are loaded whole. -/
theorem ArT.loadMid (hT : ArT T n) {w : World} {b o : Nat} {g : Nat → Int} (hc : ∀ i, i < n → w.cell? ⟨b, o + i, none⟩ = some (.int .i64 (g i))) : (Instr.loadAt T (.pointer (some ⟨b, o, none⟩))).run Try.prog w = .ok (arv n g) w := by
  obtain ⟨k, e, hu⟩ := hT.und
  refine run_loadAt_mid w b o T ((List.range n).map fun i => Value.int .i64 (g i)) _ (fun j v hv => ?_) hu rfl (by rw [hT.size, List.length_map, List.length_range])
  have hj : j < n := by
    rcases Nat.lt_or_ge j n with h | h
    · exact h
    · rw [List.getElem?_eq_none (by simpa using h)] at hv; cases hv
  rw [hc j hj]
  simpa [hj] using hv
end
section
variable {ops : Array Oper} {rest : List Oper} {o : Oper} {a : Act} {w : World} {Q : Exit → Act → World → Prop} {T : TypeId} {n : Nat}
theorem wpList_alA (hT : ArT T n) (hw : Region.wanted o (yielded ops a.tmps) = true) (ho : o.op = .alloc T) (h : wpList Try.prog ops Q rest (a.put o.dst (.pointer (some ⟨w.heap.size, 0, none⟩))) (w.alloc (.cells (arr n noA) T (0, 0)))) : wpList Try.prog ops Q (o :: rest) a w :=
  wpList_step fun K hK => by
    rw [if_pos hw]
    unfold Oper.wp execOp
    simp only [ho, Sem.run_bind, hT.alloc, Result.andThen_ok, Sem.run_pure]
    exact hK _ _ h
theorem wpList_bxA (hT : ArT T n) (hw : Region.wanted o (yielded ops a.tmps) = true) (x : Operand) (ho : o.op = .box T x) (g : Nat → Int) (hx : a.eval x = arv n g) (h : wpList Try.prog ops Q rest (a.put o.dst (.pointer (some ⟨w.heap.size, 0, none⟩))) (w.alloc (.cells (arr n g) T (0, 0)))) : wpList Try.prog ops Q (o :: rest) a w :=
  wpList_step fun K hK => by
    rw [if_pos hw]
    unfold Oper.wp execOp
    simp only [ho, hx, Sem.run_bind, hT.box, Result.andThen_ok, Sem.run_pure]
    exact hK _ _ h
theorem wpList_ldA (hT : ArT T n) (hw : Region.wanted o (yielded ops a.tmps) = true) (x : Operand) (ho : o.op = .load T x) (b : Nat) (hx : a.eval x = .pointer (some ⟨b, 0, none⟩)) (g : Nat → Int) {t : TypeId} (hb : w.heap[b]? = some (.cells (arr n g) t (0, 0)))
    (h : wpList Try.prog ops Q rest (a.put o.dst (arv n g)) w) : wpList Try.prog ops Q (o :: rest) a w :=
  wpList_step fun K hK => by
    rw [if_pos hw]
    unfold Oper.wp execOp
    simp only [ho, hx, Sem.run_bind, hT.loadAt hb, Result.andThen_ok, Sem.run_pure]
    exact hK _ _ h
theorem wpList_ldM (hT : ArT T n) (hw : Region.wanted o (yielded ops a.tmps) = true) (x : Operand) (ho : o.op = .load T x) (b off : Nat) (hx : a.eval x = .pointer (some ⟨b, off, none⟩)) (g : Nat → Int) (hc : ∀ i, i < n → w.cell? ⟨b, off + i, none⟩ = some (.int .i64 (g i)))
    (h : wpList Try.prog ops Q rest (a.put o.dst (arv n g)) w) : wpList Try.prog ops Q (o :: rest) a w :=
  wpList_step fun K hK => by
    rw [if_pos hw]
    unfold Oper.wp execOp
    simp only [ho, hx, Sem.run_bind, hT.loadMid hc, Result.andThen_ok, Sem.run_pure]
    exact hK _ _ h
theorem wpList_stA (hT : ArT T n) (hw : Region.wanted o (yielded ops a.tmps) = true) (x y : Operand) (ho : o.op = .store T x y) (b : Nat) (hx : a.eval x = .pointer (some ⟨b, 0, none⟩)) (g f : Nat → Int) (hy : a.eval y = arv n g) {t : TypeId} (hb : w.heap[b]? = some (.cells (arr n f) t (0, 0)))
    (h : ∀ w', w'.heap[b]? = some (.cells (arr n g) t (0, 0)) → (∀ k, k ≠ b → w'.heap[k]? = w.heap[k]?) → (∀ B w0, B ≤ b → Below B w0 w → Below B w0 w') → wpList Try.prog ops Q rest (a.put o.dst undef) w') : wpList Try.prog ops Q (o :: rest) a w :=
  wpList_step fun K hK => by
    rw [if_pos hw]
    unfold Oper.wp execOp
    simp only [ho, hx, hy, Sem.run_bind, hT.storeAt hb, Result.andThen_ok, Sem.run_pure]
    exact hK _ _ (h _ (setRow_heap w b _ _ _ _ hb) (fun k hk => setRow_other w b k _ hk) (fun B w0 hB h0 => setRow_below h0 hB _))
end
/-- 'T{}' of numbers. -/
theorem info_int : ∃ i, Try.prog.info? 3 = some i ∧ i.size = 1 := by
  obtain ⟨i0, hi, _, h1, _⟩ := info_parts info3
  exact ⟨i0, hi, h1⟩
theorem run_build28 (w : World) : (Instr.build 91 #[]).run Try.prog w = .ok (arv 28 noA) w := by
  obtain ⟨i1, h1, _⟩ := info_int
  have hs : (sizeOf 3).run Try.prog w = .ok i1.size w := by
    unfold sizeOf
    simp only [Sem.run_bind, typeInfo, run_program, h1, Sem.run_pure, Result.andThen_ok, Sem.run_pure]
  have hz := ar28.zero w
  obtain ⟨cc, hcc⟩ : ∃ c, c = arr 28 noA := ⟨_, rfl⟩
  unfold arv at hz ⊢
  rw [← hcc] at hz ⊢
  unfold Instr.build
  simp only [Sem.run_bind, hz, Result.andThen_ok, run_underlying Try.underlying91, hs, Instr.fill, Sem.run_pure]
  rfl
theorem wpList_bu28 {ops : Array Oper} {rest : List Oper} {o : Oper} {a : Act} {w : World} {Q : Exit → Act → World → Prop} (hw : Region.wanted o (yielded ops a.tmps) = true) (ho : o.op = .build 91 #[]) (h : wpList Try.prog ops Q rest (a.put o.dst (arv 28 noA)) w) : wpList Try.prog ops Q (o :: rest) a w :=
  wpList_step fun K hK => by
    rw [if_pos hw]
    unfold Oper.wp execOp
    simp only [ho, List.map_toArray, List.map_nil, Sem.run_bind, run_build28, Result.andThen_ok, Sem.run_pure]
    exact hK _ _ h
/-- A number of an array. -/
theorem run_idxA (T : TypeId) (n : Nat) (hu : Try.prog.underlying T = some (.array n 3)) (g : Nat → Int) (i : Nat) (h : i < n) (w : World) : (Instr.index T (arv n g) (.int .i64 (i : Int))).run Try.prog w = .ok (.int .i64 (g i)) w := by
  obtain ⟨i1, h1, hsz⟩ := info_int
  have hs : (sizeOf 3).run Try.prog w = .ok 1 w := by
    unfold sizeOf
    simp only [Sem.run_bind, typeInfo, run_program, h1, Sem.run_pure, Result.andThen_ok, hsz]
  have hp := run_part_plain w plainInt (arr_at g h)
  unfold Instr.index
  simp only [asIntOf, Sem.run_bind, Sem.run_pure, Result.andThen_ok, run_underlying hu, hs]
  rw [if_pos (by omega)]
  simp only [Sem.run_bind, hs, Result.andThen_ok, Int.toNat_natCast, Nat.mul_one, hp]
/-- Are all of them 0? -/
def allZ (n : Nat) (g : Nat → Int) : Bool := (List.range n).all fun i => g i == 0
theorem allZ_iff {n : Nat} {g : Nat → Int} : allZ n g = true ↔ ∀ i, i < n → g i = 0 := by
  simp [allZ]
theorem run_eq28 (f g : Nat → Int) (w : World) : (binOp .eql 91 (arv 28 f) (arv 28 g)).run Try.prog w = .ok (.bool ((List.range 28).all fun i => f i == g i)) w := by
  obtain ⟨ii, hii⟩ := intInfo
  have hc3 : Try.prog.cellsOf 3 = 1 := by kernel_rfl
  have ha : (Op.equalIn 10000 91 (arv 28 f) (arv 28 g)).run Try.prog w = .ok ((List.range 28).all fun i => f i == g i) w := by
    rw [run_equalIn_array w 9999 (arr 28 f) (arr 28 g) Try.underlying91 hii, hc3]
    exact run_items 9998 _ _ f g w _ fun i hi => ⟨by rw [Nat.mul_one]; exact arr_at f (List.mem_range.1 hi), by rw [Nat.mul_one]; exact arr_at g (List.mem_range.1 hi)⟩
  rw [run_eql_struct, ha]
  rfl
theorem run_eqZ (f : Nat → Int) (w : World) : (binOp .eql 91 (arv 28 f) (arv 28 noA)).run Try.prog w = .ok (.bool (allZ 28 f)) w := run_eq28 f noA w
theorem lenA : Try.prog.arrayLen 149 = 828 := by kernel_rfl
theorem elemA : Try.prog.elem 149 = 3 := by kernel_rfl
theorem undA : Try.prog.underlying 149 = some (.array (Try.prog.arrayLen 149) (Try.prog.elem 149)) := by
  rw [lenA, elemA]; exact Try.underlying149
theorem size_int (w : World) : (sizeOf 3).run Try.prog w = .ok 1 w := by
  obtain ⟨i1, h1, hsz⟩ := info_int
  unfold sizeOf
  simp only [Sem.run_bind, typeInfo, run_program, h1, Sem.run_pure, Result.andThen_ok, hsz]
theorem add_zero' (g k : Nat) : (⟨g, 0, none⟩ : Addr).add k = ⟨g, k, none⟩ := by unfold Addr.add; split <;> simp_all
theorem run_slA_lh (g k m : Nat) (h : k + m ≤ 828) (hk : k < 828) (w : World) : (Instr.sliceAt 149 (.pointer (some ⟨g, 0, none⟩)) (some (.int .i64 (k : Int))) (some (.int .i64 ((k : Int) + (m : Int)))) none).run Try.prog w = .ok (.slice (some ⟨g, k, none⟩) m (828 - k)) w := by
  rw [run_sliceAt_array_lh w _ _ undA .i64 .i64 (k : Int) ((k : Int) + (m : Int)) (by omega) (by omega) (by rw [lenA]; omega), elemA, size_int, Result.andThen_ok, lenA]
  unfold slicedAt
  rw [Int.toNat_natCast, show ((k : Int) + (m : Int)).toNat = k + m by omega, if_neg (by omega), Nat.mul_one, add_zero', Nat.add_sub_cancel_left]
theorem run_slA_h (g m : Nat) (h : m ≤ 828) (w : World) : (Instr.sliceAt 149 (.pointer (some ⟨g, 0, none⟩)) none (some (.int .i64 (m : Int))) none).run Try.prog w = .ok (.slice (some ⟨g, 0, none⟩) m 828) w := by
  rw [run_sliceAt_array_h w _ _ undA .i64 (m : Int) (by omega) (by rw [lenA]; omega), elemA, size_int, Result.andThen_ok, lenA]
  unfold slicedAt
  rw [Int.toNat_natCast, if_neg (by omega), Nat.zero_mul, add_zero', Nat.sub_zero, Nat.sub_zero]
theorem run_slA_l (g k : Nat) (h : k ≤ 828) (w : World) : (Instr.sliceAt 149 (.pointer (some ⟨g, 0, none⟩)) (some (.int .i64 (k : Int))) none none).run Try.prog w = .ok (.slice (some ⟨g, if k = 828 then 0 else k, none⟩) (828 - k) (828 - k)) w := by
  rw [run_sliceAt_array_l w _ _ undA .i64 (k : Int) (by omega) (by rw [lenA]; omega), elemA, size_int, Result.andThen_ok, lenA]
  unfold slicedAt
  rw [Int.toNat_natCast]
  by_cases e : k = 828
  · rw [if_pos e.symm, if_pos e]
  · rw [if_neg (fun x => e x.symm), if_neg e, Nat.mul_one, add_zero']
theorem run_slA (g : Nat) (w : World) : (Instr.sliceAt 149 (.pointer (some ⟨g, 0, none⟩)) none none none).run Try.prog w = .ok (.slice (some ⟨g, 0, none⟩) 828 828) w := by
  rw [run_sliceAt_array_all w _ _ undA, elemA, size_int, Result.andThen_ok, lenA]
  unfold slicedAt
  rw [if_neg (by omega), Nat.zero_mul, add_zero', Nat.sub_zero]
theorem run_aptr (a : Option Addr) (c : Nat) (w : World) : (Instr.arrayAt 91 (.slice a 28 c)).run Try.prog w = .ok (.pointer a) w := by
  unfold Instr.arrayAt
  simp only [Sem.run_bind, run_underlying Try.underlying91, Result.andThen_ok, if_neg (show ¬ 28 < 28 by omega), Sem.run_pure]
/-- Slices of a row. -/
theorem ins_arr {w : World} {b n : Nat} {g : Nat → Int} {T : TypeId} (hb : w.heap[b]? = some (.cells (arr n g) T (0, 0))) {o m : Nat} (h : o + m ≤ n) : Ins w (some ⟨b, o, none⟩) m ((List.range m).map fun i => g (o + i)) := by
  refine ⟨by simp, .inr ⟨b, o, rfl, lt_of_block hb, fun i hi => ?_⟩⟩
  rw [cell_of_row w b (o + i) _ _ (0, 0) hb, arr_at g (by omega)]
  simp [num, List.getD, hi]
/-- Numbers over others. -/
def cpA (A : Nat → Int) (o m : Nat) (S : Nat → Int) : Nat → Int := fun i => if o ≤ i ∧ i < o + m then S (i - o) else A i
theorem cpA_list {n : Nat} (A : Nat → Int) {o m : Nat} (S : Nat → Int) (h : o + m ≤ n) :
    ((arr n A).toList.take o ++ ((List.range m).map fun i => Value.int .i64 (S i)) ++ (arr n A).toList.drop (o + m)).toArray = arr n (cpA A o m S) := by
  unfold arr
  congr 1
  have hl : ((List.range m).map fun i => Value.int .i64 (S i)).length = m := by simp
  apply List.ext_getElem
  · simp; omega
  · intro i h1 h2
    have hi : i < n := by simpa using h2
    simp only [List.getElem_map, List.getElem_range]
    by_cases h3 : i < o
    · rw [List.getElem_append_left (by simp; omega), List.getElem_append_left (by simp; omega)]
      simp [cpA]
      intro h4
      omega
    · by_cases h4 : i < o + m
      · rw [List.getElem_append_left (by simp; omega), List.getElem_append_right (by simp; omega)]
        simp [cpA]
        rw [if_pos ⟨by omega, h4⟩]
        congr 1
        omega
      · rw [List.getElem_append_right (by simp; omega)]
        simp [cpA]
        rw [if_neg (by omega)]
        congr 1
        omega
theorem run_copyA (w : World) (ty : TypeId) (g o dl dc : Nat) (a : Option Addr) (sl sc n : Nat) (A : Nat → Int) (T : TypeId) (ks : List Int) (hg : w.heap[g]? = some (.cells (arr n A) T (0, 0))) (hs : Ins w a sl ks) (m : Nat) (hm : m = Nat.min sl dl) (hfit : o + m ≤ n) :
    (Builtin.copy_ #[25, 25] ty #[.slice (some ⟨g, o, none⟩) dl dc, .slice a sl sc]).run Try.prog w = .ok (goInt m) (w.setRow g (arr n (cpA A o m (num ks)))) := by
  have h1 : (Try.prog.info? 3).map (·.size) = some 1 := by
    obtain ⟨i1, hi, hsz⟩ := info_int
    rw [hi]; simp [hsz]
  by_cases h0 : m = 0
  · subst h0
    rw [run_copy_none (P := Try.prog) w 25 25 ty 3 _ a dl dc sl sc Try.underlying25 h1 hm.symm]
    rw [show arr n (cpA A o 0 (num ks)) = arr n A from arr_congr fun i hi => by unfold cpA; rw [if_neg (by omega)], setRow_self w g _ _ _ hg]
    rfl
  · have hsl : 0 < sl := by
      rcases Nat.eq_zero_or_pos sl with h | h
      · rw [h] at hm; simp at hm; omega
      · exact h
    have hms : m ≤ sl := by rw [hm]; exact Nat.min_le_left _ _
    obtain ⟨b, off, rfl, _, hc⟩ := hs.at hsl
    have := run_copy_row (P := Try.prog) w 25 25 ty 3 g o dl dc ⟨b, off, none⟩ sl sc (arr n A) T ((List.range m).map fun i => Value.int .i64 (num ks i)) Try.underlying25 h1 hg (by simp [hm]) (fun j v hj => by
      have hjm : j < m := by
        rcases Nat.lt_or_ge j m with h | h
        · exact h
        · rw [List.getElem?_eq_none (by simpa using h)] at hj; cases hj
      have hv : v = .int .i64 (num ks j) := by
        rw [List.getElem?_map, List.getElem?_range hjm] at hj
        simpa using hj.symm
      rw [hv, show (⟨b, off, none⟩ : Addr).add j = ⟨b, off + j, none⟩ by unfold Addr.add; split <;> simp_all]
      exact hc j (by omega)) (by rw [arr_size]; simpa using hfit) (fun v hv => by
      obtain ⟨i, _, rfl⟩ := List.mem_map.1 hv
      rfl)
    rw [this]
    simp only [List.length_map, List.length_range]
    rw [cpA_list A _ hfit]
/-- 'copy' in a region that draws its order. -/
theorem step_copyA {ops : Array Oper} {o : Oper} {a : Act} {w : World} {K : Act → World → Prop} {Q : Exit → Act → World → Prop} {E : Prop} (hgd : o.guard = none) (d s : Operand)
    (ho : o.op = .call { callee := .builtin .copy, args := #[d, s], argTypes := #[25, 25] }) (g off dl dc : Nat) (ad : Option Addr) (sl sc n : Nat) (A : Nat → Int) (T : TypeId) (ks : List Int) (m : Nat)
    (hd : a.eval d = .slice (some ⟨g, off, none⟩) dl dc) (hs : a.eval s = .slice ad sl sc) (hg : w.heap[g]? = some (.cells (arr n A) T (0, 0))) (hi : Ins w ad sl ks) (hm : m = Nat.min sl dl) (hfit : off + m ≤ n)
    (h : ∀ w', w'.heap[g]? = some (.cells (arr n (cpA A off m (num ks))) T (0, 0)) → Turn (· = g) w w' → K (a.put o.dst (goInt m)) w') :
    if Region.wanted o (yielded ops a.tmps) = true then Oper.wp Try.prog o a w K Q else E := by
  have hw : Region.wanted o (yielded ops a.tmps) = true := by simp [Region.wanted, hgd]
  rw [if_pos hw]
  have hrun := run_copyA w o.type g off dl dc ad sl sc n A T ks hg hi m hm hfit
  unfold Oper.wp
  simp [execOp, ho, resolve, invoke, builtin, hd, hs, hrun, Result.andThen]
  exact h _ (setRow_heap w g _ _ _ _ hg) ⟨rfl, rfl, rfl, by simp [World.setRow], fun k _ hk => setRow_other w g k _ hk⟩
theorem rcs_arr (f : Nat → Int) : rcs f = arr 21 f := rfl

section
variable {w w' w0 : World} {S : Sv} {g m : Nat} {v0 v v' u u' : Value} {st st' : St} {b6 b8 b : Nat} {f : Nat → Int} {L ks ys : List Int}
end
theorem Ins.front {w : World} {a : Option Addr} {n : Nat} {ks : List Int} (h : Ins w a n ks) {k : Nat} (hk : k ≤ n) : Ins w a k (ks.take k) := by
  refine ⟨by rw [List.length_take, h.len]; omega, ?_⟩
  rcases h.place with h0 | ⟨b, off, e, hlt, hc⟩
  · exact .inl (by omega)
  · refine .inr ⟨b, off, e, hlt, fun i hi => ?_⟩
    rw [hc i (by omega), num_take' hi]
/-- A node's five cells. -/
def nwC (x : Nw) : Array Value := #[.int .i64 x.ino, .int .i64 x.kind, .int .i64 x.links, .int .i64 x.size, .slice x.a x.n x.c]
theorem sizeI : (Try.prog.info? 83).map (·.size) = some 5 := by kernel_rfl
theorem load_nw {w : World} {b : Nat} {x : Nw} {t : TypeId} (h : w.heap[b]? = some (.cells (nwC x) t (0, 0))) : (loadVar 83 ⟨b, 0, none⟩).run Try.prog w = .ok (nwV x) w :=
  run_loadVar_row w b _ _ (nwC x) (0, 0) _ h Try.underlying83 rfl (by rw [sizeI]; rfl)
/-- At a step of a drawn region. -/
theorem wp_stN {o : Oper} {a : Act} {w : World} {K : Act → World → Prop} {Q : Exit → Act → World → Prop} (p y : Operand) (ho : o.op = .store 83 p y) (b : Nat) (hp : a.eval p = .pointer (some ⟨b, 0, none⟩)) (x z : Nw) (hy : a.eval y = nwV x) {t : TypeId}
    (hb : w.heap[b]? = some (.cells (nwC z) t (0, 0))) (h : ∀ w', w'.heap[b]? = some (.cells (nwC x) t (0, 0)) → Turn (· = b) w w' → K (a.put o.dst undef) w') : o.wp Try.prog a w K Q := by
  have hr : (Instr.storeAt 83 (.pointer (some ⟨b, 0, none⟩)) (nwV x)).run Try.prog w = .ok () (w.setRow b (nwC x)) := by
    simp only [Instr.storeAt, Instr.sureAddr, Sem.run_bind, Sem.run_pure, Result.andThen]
    exact run_storeVar_row w b _ _ (nwC z) (nwC x) hb (by rw [sizeI]; rfl) rfl (by simp [nwC, Value.oneCell'])
  unfold Oper.wp execOp
  simp only [ho, hp, hy, Sem.run_bind, hr, Result.andThen_ok, Sem.run_pure]
  exact h _ (setRow_heap w b _ _ _ _ hb) ⟨rfl, rfl, rfl, by simp [World.setRow], fun k _ hk => setRow_other w b k _ hk⟩
abbrev noN : Nw := ⟨0, 0, 0, 0, none, 0, 0, []⟩
end Go.Proofs.Ytegcjpocdfmpfaa
