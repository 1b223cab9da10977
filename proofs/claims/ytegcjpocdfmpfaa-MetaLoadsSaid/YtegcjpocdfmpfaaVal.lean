/-
  Rows of numbers: arrays as values, in blocks of their own.
-/
import Derived.Test.YtegcjpocdfmpfaaVai
import Derived.Test.YtegcjpocdfmpfaaVaj
import Derived.Test.YtegcjpocdfmpfaaVae
import Derived.Test.YtegcjpocdfmpfaaVak
import Derived.Laws.CopyRow
import Derived.Deep.MidRow
import Derived.Deep.WholeRow
import Derived.Deep.DeepCutAuto
set_option linter.unusedVariables false
set_option linter.unusedSimpArgs false
set_option maxRecDepth 100000
set_option maxHeartbeats 16000000
namespace Go.Proofs.Ytegcjpocdfmpfaa
open Go.RowKit

/-- n numbers as cells. -/
def arr (n : Nat) (g : Nat → Int) : Array Value := ((List.range n).map fun i => Value.int .i64 (g i)).toArray
abbrev arv (n : Nat) (g : Nat → Int) : Value := .agg (arr n g)
def noA : Nat → Int := fun _ => 0
theorem arr_size (n : Nat) (g : Nat → Int) : (arr n g).size = n := by simp [arr]
theorem arr_at {n : Nat} (g : Nat → Int) {i : Nat} (h : i < n) : (arr n g)[i]? = some (.int .i64 (g i)) := by simp [arr, h]
theorem arr_congr {n : Nat} {f g : Nat → Int} (h : ∀ i, i < n → f i = g i) : arr n f = arr n g := by
  unfold arr
  congr 1
  exact List.map_congr_left fun i hi => by rw [h i (List.mem_range.1 hi)]
theorem arr_set (n : Nat) (f : Nat → Int) (k : Nat) (z : Int) : (arr n f).setIfInBounds k (.int .i64 z) = arr n (upd f k z) := by
  unfold arr
  rw [List.setIfInBounds_toArray, map_set]
theorem arr_one (n : Nat) (g : Nat → Int) : (arr n g).all (·.oneCell') = true := by simp [arr, Value.oneCell']
theorem box_any (T : TypeId) (cs : Array Value) (w : World) : (Instr.box T (.agg cs)).run Try.prog w = .ok (.pointer (some ⟨w.heap.size, 0, none⟩)) (w.alloc (.cells cs T (0, 0))) := by
  simp [Instr.box, go_sem, Value.cells, Result.andThen]
/-- A type of n numbers. -/
structure ArT (T : TypeId) (n : Nat) : Prop where
  inf : ∃ b, (Try.prog.info? T).map (fun i => (i.zero, i.size, i.bytes)) = some (some (arv n noA), n, b)
  und : ∃ k e, Try.prog.underlying T = some (.array k e)
theorem ar28 : ArT 91 28 := ⟨⟨224, by kernel_rfl⟩, ⟨_, _, Try.underlying91⟩⟩
theorem ar2 : ArT 94 2 := ⟨⟨16, by kernel_rfl⟩, ⟨_, _, Try.underlying94⟩⟩
theorem ar56 : ArT 92 56 := ⟨⟨448, by kernel_rfl⟩, ⟨_, _, Try.underlying92⟩⟩
theorem arA : ArT 149 828 := ⟨⟨6624, by kernel_rfl⟩, ⟨_, _, Try.underlying149⟩⟩
section
variable {T : TypeId} {n : Nat}
theorem ArT.size (hT : ArT T n) : (Try.prog.info? T).map (·.size) = some n := by
  obtain ⟨b, h⟩ := hT.inf
  cases hq : Try.prog.info? T with
  | none => rw [hq] at h; cases h
  | some i => rw [hq] at h; simp at h; simp [h.2.1]
theorem ArT.zero (hT : ArT T n) (w : World) : (zeroValue T).run Try.prog w = .ok (arv n noA) w := by
  obtain ⟨b, h⟩ := hT.inf
  obtain ⟨i0, hi, hz0, _, _⟩ := info_parts h
  unfold zeroValue
  simp only [Sem.run_bind, typeInfo, run_program, hi, Sem.run_pure, Result.andThen_ok, hz0]
theorem ArT.alloc (hT : ArT T n) (w : World) : (Instr.alloc T true (.tuple #[])).run Try.prog w = .ok (.pointer (some ⟨w.heap.size, 0, none⟩)) (w.alloc (.cells (arr n noA) T (0, 0))) := by
  have hz := hT.zero w
  obtain ⟨cs, hcs⟩ : ∃ c, c = arr n noA := ⟨_, rfl⟩
  unfold arv at hz
  rw [← hcs] at hz ⊢
  unfold Instr.alloc
  simp only [Sem.run_bind, hz, Result.andThen_ok]
  rfl
theorem ArT.box (hT : ArT T n) (w : World) (g : Nat → Int) : (Instr.box T (arv n g)).run Try.prog w = .ok (.pointer (some ⟨w.heap.size, 0, none⟩)) (w.alloc (.cells (arr n g) T (0, 0))) := by
  obtain ⟨cs, hcs⟩ : ∃ c, c = arr n g := ⟨_, rfl⟩
  unfold arv
  rw [← hcs]
  exact box_any T cs w
theorem ArT.load (hT : ArT T n) {w : World} {b : Nat} {t : TypeId} {g : Nat → Int} (hb : w.heap[b]? = some (.cells (arr n g) t (0, 0))) : (loadVar T ⟨b, 0, none⟩).run Try.prog w = .ok (arv n g) w := by
  obtain ⟨k, e, hu⟩ := hT.und
  exact run_loadVar_row w b t T _ (0, 0) _ hb hu rfl (by rw [hT.size, arr_size])
theorem ArT.loadAt (hT : ArT T n) {w : World} {b : Nat} {t : TypeId} {g : Nat → Int} (hb : w.heap[b]? = some (.cells (arr n g) t (0, 0))) : (Instr.loadAt T (.pointer (some ⟨b, 0, none⟩))).run Try.prog w = .ok (arv n g) w := by
  simp only [Instr.loadAt, Instr.sureAddr, Sem.run_bind, Sem.run_pure, Result.andThen]
  exact hT.load hb
theorem ArT.storeAt (hT : ArT T n) {w : World} {b : Nat} {t : TypeId} {f : Nat → Int} (hb : w.heap[b]? = some (.cells (arr n f) t (0, 0))) (g : Nat → Int) : (Instr.storeAt T (.pointer (some ⟨b, 0, none⟩)) (arv n g)).run Try.prog w = .ok () (w.setRow b (arr n g)) := by
  simp only [Instr.storeAt, Instr.sureAddr, Sem.run_bind, Sem.run_pure, Result.andThen]
  exact run_storeVar_row w b t T _ _ hb (by rw [hT.size, arr_size]) (by rw [arr_size, arr_size]) (arr_one _ _)
/-- Numbers that lie anywhere are loaded whole. -/
theorem ArT.loadMid (hT : ArT T n) {w : World} {b o : Nat} {g : Nat → Int} (hc : ∀ i, i < n → w.cell? ⟨b, o + i, none⟩ = some (.int .i64 (g i))) : (Instr.loadAt T (.pointer (some ⟨b, o, none⟩))).run Try.prog w = .ok (arv n g) w := by
  obtain ⟨k, e, hu⟩ := hT.und
  refine run_loadAt_mid w b o T ((List.range n).map fun i => Value.int .i64 (g i)) _ (fun j v hv => ?_) hu rfl (by rw [hT.size, List.length_map, List.length_range])
  have hj : j < n := by
    rcases Nat.lt_or_ge j n with h | h
    · exact h
    · rw [List.getElem?_eq_none (by simpa using h)] at hv; cases hv
  rw [hc j hj]
  simpa [hj] using hv
end
section
variable {ops : Array Oper} {rest : List Oper} {o : Oper} {a : Act} {w : World} {Q : Exit → Act → World → Prop} {T : TypeId} {n : Nat}
theorem wpList_alA (hT : ArT T n) (hw : Region.wanted o (yielded ops a.tmps) = true) (ho : o.op = .alloc T) (h : wpList Try.prog ops Q rest (a.put o.dst (.pointer (some ⟨w.heap.size, 0, none⟩))) (w.alloc (.cells (arr n noA) T (0, 0)))) : wpList Try.prog ops Q (o :: rest) a w :=
  wpList_step fun K hK => by
    rw [if_pos hw]
    unfold Oper.wp execOp
    simp only [ho, Sem.run_bind, hT.alloc, Result.andThen_ok, Sem.run_pure]
    exact hK _ _ h
theorem wpList_bxA (hT : ArT T n) (hw : Region.wanted o (yielded ops a.tmps) = true) (x : Operand) (ho : o.op = .box T x) (g : Nat → Int) (hx : a.eval x = arv n g) (h : wpList Try.prog ops Q rest (a.put o.dst (.pointer (some ⟨w.heap.size, 0, none⟩))) (w.alloc (.cells (arr n g) T (0, 0)))) : wpList Try.prog ops Q (o :: rest) a w :=
  wpList_step fun K hK => by
    rw [if_pos hw]
    unfold Oper.wp execOp
    simp only [ho, hx, Sem.run_bind, hT.box, Result.andThen_ok, Sem.run_pure]
    exact hK _ _ h
theorem wpList_ldA (hT : ArT T n) (hw : Region.wanted o (yielded ops a.tmps) = true) (x : Operand) (ho : o.op = .load T x) (b : Nat) (hx : a.eval x = .pointer (some ⟨b, 0, none⟩)) (g : Nat → Int) {t : TypeId} (hb : w.heap[b]? = some (.cells (arr n g) t (0, 0)))
    (h : wpList Try.prog ops Q rest (a.put o.dst (arv n g)) w) : wpList Try.prog ops Q (o :: rest) a w :=
  wpList_step fun K hK => by
    rw [if_pos hw]
    unfold Oper.wp execOp
    simp only [ho, hx, Sem.run_bind, hT.loadAt hb, Result.andThen_ok, Sem.run_pure]
    exact hK _ _ h
theorem wpList_ldM (hT : ArT T n) (hw : Region.wanted o (yielded ops a.tmps) = true) (x : Operand) (ho : o.op = .load T x) (b off : Nat) (hx : a.eval x = .pointer (some ⟨b, off, none⟩)) (g : Nat → Int) (hc : ∀ i, i < n → w.cell? ⟨b, off + i, none⟩ = some (.int .i64 (g i)))
    (h : wpList Try.prog ops Q rest (a.put o.dst (arv n g)) w) : wpList Try.prog ops Q (o :: rest) a w :=
  wpList_step fun K hK => by
    rw [if_pos hw]
    unfold Oper.wp execOp
    simp only [ho, hx, Sem.run_bind, hT.loadMid hc, Result.andThen_ok, Sem.run_pure]
    exact hK _ _ h
theorem wpList_stA (hT : ArT T n) (hw : Region.wanted o (yielded ops a.tmps) = true) (x y : Operand) (ho : o.op = .store T x y) (b : Nat) (hx : a.eval x = .pointer (some ⟨b, 0, none⟩)) (g f : Nat → Int) (hy : a.eval y = arv n g) {t : TypeId} (hb : w.heap[b]? = some (.cells (arr n f) t (0, 0)))
    (h : ∀ w', w'.heap[b]? = some (.cells (arr n g) t (0, 0)) → (∀ k, k ≠ b → w'.heap[k]? = w.heap[k]?) → (∀ B w0, B ≤ b → Below B w0 w → Below B w0 w') → wpList Try.prog ops Q rest (a.put o.dst undef) w') : wpList Try.prog ops Q (o :: rest) a w :=
  wpList_step fun K hK => by
    rw [if_pos hw]
    unfold Oper.wp execOp
    simp only [ho, hx, hy, Sem.run_bind, hT.storeAt hb, Result.andThen_ok, Sem.run_pure]
    exact hK _ _ (h _ (setRow_heap w b _ _ _ _ hb) (fun k hk => setRow_other w b k _ hk) (fun B w0 hB h0 => setRow_below h0 hB _))
end
/-- 'T{}' of numbers. -/
theorem info_int : ∃ i, Try.prog.info? 3 = some i ∧ i.size = 1 := by
  obtain ⟨i0, hi, _, h1, _⟩ := info_parts info3
  exact ⟨i0, hi, h1⟩
theorem run_build28 (w : World) : (Instr.build 91 #[]).run Try.prog w = .ok (arv 28 noA) w := by
  obtain ⟨i1, h1, _⟩ := info_int
  have hs : (sizeOf 3).run Try.prog w = .ok i1.size w := by
    unfold sizeOf
    simp only [Sem.run_bind, typeInfo, run_program, h1, Sem.run_pure, Result.andThen_ok, Sem.run_pure]
  have hz := ar28.zero w
  obtain ⟨cc, hcc⟩ : ∃ c, c = arr 28 noA := ⟨_, rfl⟩
  unfold arv at hz ⊢
  rw [← hcc] at hz ⊢
  unfold Instr.build
  simp only [Sem.run_bind, hz, Result.andThen_ok, run_underlying Try.underlying91, hs, Instr.fill, Sem.run_pure]
  rfl
theorem wpList_bu28 {ops : Array Oper} {rest : List Oper} {o : Oper} {a : Act} {w : World} {Q : Exit → Act → World → Prop} (hw : Region.wanted o (yielded ops a.tmps) = true) (ho : o.op = .build 91 #[]) (h : wpList Try.prog ops Q rest (a.put o.dst (arv 28 noA)) w) : wpList Try.prog ops Q (o :: rest) a w :=
  wpList_step fun K hK => by
    rw [if_pos hw]
    unfold Oper.wp execOp
    simp only [ho, List.map_toArray, List.map_nil, Sem.run_bind, run_build28, Result.andThen_ok, Sem.run_pure]
    exact hK _ _ h
/-- A number of an array. -/
theorem run_idxA (T : TypeId) (n : Nat) (hu : Try.prog.underlying T = some (.array n 3)) (g : Nat → Int) (i : Nat) (h : i < n) (w : World) : (Instr.index T (arv n g) (.int .i64 (i : Int))).run Try.prog w = .ok (.int .i64 (g i)) w := by
  obtain ⟨i1, h1, hsz⟩ := info_int
  have hs : (sizeOf 3).run Try.prog w = .ok 1 w := by
    unfold sizeOf
    simp only [Sem.run_bind, typeInfo, run_program, h1, Sem.run_pure, Result.andThen_ok, hsz]
  have hp := run_part_plain w plainInt (arr_at g h)
  unfold Instr.index
  simp only [asIntOf, Sem.run_bind, Sem.run_pure, Result.andThen_ok, run_underlying hu, hs]
  rw [if_pos (by omega)]
  simp only [Sem.run_bind, hs, Result.andThen_ok, Int.toNat_natCast, Nat.mul_one, hp]
/-- Are all of them 0? -/
def allZ (n : Nat) (g : Nat → Int) : Bool := (List.range n).all fun i => g i == 0
theorem allZ_iff {n : Nat} {g : Nat → Int} : allZ n g = true ↔ ∀ i, i < n → g i = 0 := by
  simp [allZ]
theorem run_eq28 (f g : Nat → Int) (w : World) : (binOp .eql 91 (arv 28 f) (arv 28 g)).run Try.prog w = .ok (.bool ((List.range 28).all fun i => f i == g i)) w := by
  obtain ⟨ii, hii⟩ := intInfo
  have hc3 : Try.prog.cellsOf 3 = 1 := by kernel_rfl
  have ha : (Op.equalIn 10000 91 (arv 28 f) (arv 28 g)).run Try.prog w = .ok ((List.range 28).all fun i => f i == g i) w := by
    rw [run_equalIn_array w 9999 (arr 28 f) (arr 28 g) Try.underlying91 hii, hc3]
    exact run_items 9998 _ _ f g w _ fun i hi => ⟨by rw [Nat.mul_one]; exact arr_at f (List.mem_range.1 hi), by rw [Nat.mul_one]; exact arr_at g (List.mem_range.1 hi)⟩
  rw [run_eql_struct, ha]
  rfl
theorem run_eqZ (f : Nat → Int) (w : World) : (binOp .eql 91 (arv 28 f) (arv 28 noA)).run Try.prog w = .ok (.bool (allZ 28 f)) w := run_eq28 f noA w
theorem lenA : Try.prog.arrayLen 149 = 828 := by kernel_rfl
theorem elemA : Try.prog.elem 149 = 3 := by kernel_rfl
theorem undA : Try.prog.underlying 149 = some (.array (Try.prog.arrayLen 149) (Try.prog.elem 149)) := by
  rw [lenA, elemA]; exact Try.underlying149
theorem size_int (w : World) : (sizeOf 3).run Try.prog w = .ok 1 w := by
  obtain ⟨i1, h1, hsz⟩ := info_int
  unfold sizeOf
  simp only [Sem.run_bind, typeInfo, run_program, h1, Sem.run_pure, Result.andThen_ok, hsz]
theorem add_zero' (g k : Nat) : (⟨g, 0, none⟩ : Addr).add k = ⟨g, k, none⟩ := by unfold Addr.add; split <;> simp_all
theorem run_slA_lh (g k m : Nat) (h : k + m ≤ 828) (hk : k < 828) (w : World) : (Instr.sliceAt 149 (.pointer (some ⟨g, 0, none⟩)) (some (.int .i64 (k : Int))) (some (.int .i64 ((k : Int) + (m : Int)))) none).run Try.prog w = .ok (.slice (some ⟨g, k, none⟩) m (828 - k)) w := by
  rw [run_sliceAt_array_lh w _ _ undA .i64 .i64 (k : Int) ((k : Int) + (m : Int)) (by omega) (by omega) (by rw [lenA]; omega), elemA, size_int, Result.andThen_ok, lenA]
  unfold slicedAt
  rw [Int.toNat_natCast, show ((k : Int) + (m : Int)).toNat = k + m by omega, if_neg (by omega), Nat.mul_one, add_zero', Nat.add_sub_cancel_left]
theorem run_slA_h (g m : Nat) (h : m ≤ 828) (w : World) : (Instr.sliceAt 149 (.pointer (some ⟨g, 0, none⟩)) none (some (.int .i64 (m : Int))) none).run Try.prog w = .ok (.slice (some ⟨g, 0, none⟩) m 828) w := by
  rw [run_sliceAt_array_h w _ _ undA .i64 (m : Int) (by omega) (by rw [lenA]; omega), elemA, size_int, Result.andThen_ok, lenA]
  unfold slicedAt
  rw [Int.toNat_natCast, if_neg (by omega), Nat.zero_mul, add_zero', Nat.sub_zero, Nat.sub_zero]
theorem run_slA_l (g k : Nat) (h : k ≤ 828) (w : World) : (Instr.sliceAt 149 (.pointer (some ⟨g, 0, none⟩)) (some (.int .i64 (k : Int))) none none).run Try.prog w = .ok (.slice (some ⟨g, if k = 828 then 0 else k, none⟩) (828 - k) (828 - k)) w := by
  rw [run_sliceAt_array_l w _ _ undA .i64 (k : Int) (by omega) (by rw [lenA]; omega), elemA, size_int, Result.andThen_ok, lenA]
  unfold slicedAt
  rw [Int.toNat_natCast]
  by_cases e : k = 828
  · rw [if_pos e.symm, if_pos e]
  · rw [if_neg (fun x => e x.symm), if_neg e, Nat.mul_one, add_zero']
theorem run_slA (g : Nat) (w : World) : (Instr.sliceAt 149 (.pointer (some ⟨g, 0, none⟩)) none none none).run Try.prog w = .ok (.slice (some ⟨g, 0, none⟩) 828 828) w := by
  rw [run_sliceAt_array_all w _ _ undA, elemA, size_int, Result.andThen_ok, lenA]
  unfold slicedAt
  rw [if_neg (by omega), Nat.zero_mul, add_zero', Nat.sub_zero]
theorem run_aptr (a : Option Addr) (c : Nat) (w : World) : (Instr.arrayAt 91 (.slice a 28 c)).run Try.prog w = .ok (.pointer a) w := by
  unfold Instr.arrayAt
  simp only [Sem.run_bind, run_underlying Try.underlying91, Result.andThen_ok, if_neg (show ¬ 28 < 28 by omega), Sem.run_pure]
/-- Slices of a row. -/
theorem ins_arr {w : World} {b n : Nat} {g : Nat → Int} {T : TypeId} (hb : w.heap[b]? = some (.cells (arr n g) T (0, 0))) {o m : Nat} (h : o + m ≤ n) : Ins w (some ⟨b, o, none⟩) m ((List.range m).map fun i => g (o + i)) := by
  refine ⟨by simp, .inr ⟨b, o, rfl, lt_of_block hb, fun i hi => ?_⟩⟩
  rw [cell_of_row w b (o + i) _ _ (0, 0) hb, arr_at g (by omega)]
  simp [num, List.getD, hi]
/-- Numbers over others. -/
def cpA (A : Nat → Int) (o m : Nat) (S : Nat → Int) : Nat → Int := fun i => if o ≤ i ∧ i < o + m then S (i - o) else A i
theorem cpA_list {n : Nat} (A : Nat → Int) {o m : Nat} (S : Nat → Int) (h : o + m ≤ n) :
    ((arr n A).toList.take o ++ ((List.range m).map fun i => Value.int .i64 (S i)) ++ (arr n A).toList.drop (o + m)).toArray = arr n (cpA A o m S) := by
  unfold arr
  congr 1
  have hl : ((List.range m).map fun i => Value.int .i64 (S i)).length = m := by simp
  apply List.ext_getElem
  · simp; omega
  · intro i h1 h2
    have hi : i < n := by simpa using h2
    simp only [List.getElem_map, List.getElem_range]
    by_cases h3 : i < o
    · rw [List.getElem_append_left (by simp; omega), List.getElem_append_left (by simp; omega)]
      simp [cpA]
      intro h4
      omega
    · by_cases h4 : i < o + m
      · rw [List.getElem_append_left (by simp; omega), List.getElem_append_right (by simp; omega)]
        simp [cpA]
        rw [if_pos ⟨by omega, h4⟩]
        congr 1
        omega
      · rw [List.getElem_append_right (by simp; omega)]
        simp [cpA]
        rw [if_neg (by omega)]
        congr 1
        omega
theorem run_copyA (w : World) (ty : TypeId) (g o dl dc : Nat) (a : Option Addr) (sl sc n : Nat) (A : Nat → Int) (T : TypeId) (ks : List Int) (hg : w.heap[g]? = some (.cells (arr n A) T (0, 0))) (hs : Ins w a sl ks) (m : Nat) (hm : m = Nat.min sl dl) (hfit : o + m ≤ n) :
    (Builtin.copy_ #[25, 25] ty #[.slice (some ⟨g, o, none⟩) dl dc, .slice a sl sc]).run Try.prog w = .ok (goInt m) (w.setRow g (arr n (cpA A o m (num ks)))) := by
  have h1 : (Try.prog.info? 3).map (·.size) = some 1 := by
    obtain ⟨i1, hi, hsz⟩ := info_int
    rw [hi]; simp [hsz]
  by_cases h0 : m = 0
  · subst h0
    rw [run_copy_none (P := Try.prog) w 25 25 ty 3 _ a dl dc sl sc Try.underlying25 h1 hm.symm]
    rw [show arr n (cpA A o 0 (num ks)) = arr n A from arr_congr fun i hi => by unfold cpA; rw [if_neg (by omega)], setRow_self w g _ _ _ hg]
    rfl
  · have hsl : 0 < sl := by
      rcases Nat.eq_zero_or_pos sl with h | h
      · rw [h] at hm; simp at hm; omega
      · exact h
    have hms : m ≤ sl := by rw [hm]; exact Nat.min_le_left _ _
    obtain ⟨b, off, rfl, _, hc⟩ := hs.at hsl
    have := run_copy_row (P := Try.prog) w 25 25 ty 3 g o dl dc ⟨b, off, none⟩ sl sc (arr n A) T ((List.range m).map fun i => Value.int .i64 (num ks i)) Try.underlying25 h1 hg (by simp [hm]) (fun j v hj => by
      have hjm : j < m := by
        rcases Nat.lt_or_ge j m with h | h
        · exact h
        · rw [List.getElem?_eq_none (by simpa using h)] at hj; cases hj
      have hv : v = .int .i64 (num ks j) := by
        rw [List.getElem?_map, List.getElem?_range hjm] at hj
        simpa using hj.symm
      rw [hv, show (⟨b, off, none⟩ : Addr).add j = ⟨b, off + j, none⟩ by unfold Addr.add; split <;> simp_all]
      exact hc j (by omega)) (by rw [arr_size]; simpa using hfit) (fun v hv => by
      obtain ⟨i, _, rfl⟩ := List.mem_map.1 hv
      rfl)
    rw [this]
    simp only [List.length_map, List.length_range]
    rw [cpA_list A _ hfit]
/-- 'copy' in a region that draws its order. -/
theorem step_copyA {ops : Array Oper} {o : Oper} {a : Act} {w : World} {K : Act → World → Prop} {Q : Exit → Act → World → Prop} {E : Prop} (hgd : o.guard = none) (d s : Operand)
    (ho : o.op = .call { callee := .builtin .copy, args := #[d, s], argTypes := #[25, 25] }) (g off dl dc : Nat) (ad : Option Addr) (sl sc n : Nat) (A : Nat → Int) (T : TypeId) (ks : List Int) (m : Nat)
    (hd : a.eval d = .slice (some ⟨g, off, none⟩) dl dc) (hs : a.eval s = .slice ad sl sc) (hg : w.heap[g]? = some (.cells (arr n A) T (0, 0))) (hi : Ins w ad sl ks) (hm : m = Nat.min sl dl) (hfit : off + m ≤ n)
    (h : ∀ w', w'.heap[g]? = some (.cells (arr n (cpA A off m (num ks))) T (0, 0)) → Turn (· = g) w w' → K (a.put o.dst (goInt m)) w') :
    if Region.wanted o (yielded ops a.tmps) = true then Oper.wp Try.prog o a w K Q else E := by
  have hw : Region.wanted o (yielded ops a.tmps) = true := by simp [Region.wanted, hgd]
  rw [if_pos hw]
  have hrun := run_copyA w o.type g off dl dc ad sl sc n A T ks hg hi m hm hfit
  unfold Oper.wp
  simp [execOp, ho, resolve, invoke, builtin, hd, hs, hrun, Result.andThen]
  exact h _ (setRow_heap w g _ _ _ _ hg) ⟨rfl, rfl, rfl, by simp [World.setRow], fun k _ hk => setRow_other w g k _ hk⟩
theorem rcs_arr (f : Nat → Int) : rcs f = arr 21 f := rfl

/-- A reader that has read l, or met something wrong; at most m blocks were read. -/
def RdS (w : World) (S : Sv) (g : Nat) (v : Value) (m : Nat) (st : St) : Prop :=
  ∃ l bad, RdAt w S g v l bad ∧ l.length ≤ m ∧ match st with
    | .ok l' => bad = 0 ∧ l = l'
    | .error e => bad = e ∧ e ≠ 0
/-- What a call of the reader's leaves. -/
def Left (w : World) (S : Sv) (g : Nat) (v : Value) (m : Nat) (st : St) (w' : World) (v' : Value) : Prop :=
  Turn (Tv g v) w w' ∧ RdS w' S g v' m st ∧ (∀ j, v'.ownBlock = some j → v.ownBlock = some j ∨ w.heap.size ≤ j)
def BkP (w : World) (S : Sv) (g : Nat) (v : Value) (m : Nat) (st : St) (z : List Int) (e : Ending) (w' : World) : Prop :=
  ∃ a n c v', e = .returned (.slice a n c) ∧ Pin w' a n c z ∧ n ≤ 1000000000000 ∧ Left w S g v m st w' v'
theorem RdAt.few {w : World} {S : Sv} {g : Nat} {v : Value} {l : List Int} {bad : Int} (h : RdAt w S g v l bad) : ∃ a n c, v = .slice a n c := by
  rcases h.own.2 with ⟨rfl, _⟩ | ⟨g', cap, cur, rfl, _⟩
  · exact ⟨_, _, _, rfl⟩
  · exact ⟨_, _, _, rfl⟩
theorem rblock_any (S : Sv) (g : Nat) (v : Value) (m : Nat) (st : St) (q : Int) (w : World) (h : RdS w S g v m st) (hm : m ≤ 1000000) :
    Calls Try.prog 64 #[.pointer (some ⟨g, 0, none⟩), .int .i64 q] w (BkP w S g v (m + 1) (stp S.N S.blk st q) (dat S.N S.blk st q)) := by
  obtain ⟨l, bad, hR, hl, hst⟩ := h
  cases st with
  | error e =>
    obtain ⟨rfl, hne⟩ := hst
    have c5 := hR.c5
    have d1 : (bad != 0) = true := by simp [hne]
    have HR := Lib.hid hR
    have HN := Lib.hid hne
    have HL := Lib.hid hl
    clear hR hne hl
    go_enter Try.func64, Try.ntmps64
    go_wp2_with (fail)
    go_ret
    exact ⟨none, 0, 0, v, rfl, Pin.zero _, by omega, Turn.refl _ _, ⟨l, bad, HR.out, by have := HL.out; omega, rfl, HN.out⟩, fun j hj => .inl hj⟩
  | ok l' =>
    obtain ⟨rfl, rfl⟩ := hst
    have c0 := hR.c0
    have c1 := hR.c1
    have c2 := hR.c2
    have c3 := hR.c3
    have c5 := hR.c5
    have hlt := hR.lt
    have hfr := hR.fr 5
    have hA := raddr_any S.d S.r S.s q w hR.rt
    obtain ⟨t, ht⟩ : ∃ t, t = isA (adN S.d S.r S.s) q := ⟨_, rfl⟩
    rw [← ht] at hA
    have HA := Lib.hid hA
    have HR := Lib.hid hR
    have HL := Lib.hid hl
    have HT := Lib.hid ht
    clear hR hl hA ht
    cases t with
    | false =>
      have HE := Lib.hid (show stp S.N S.blk (.ok l) q = .error 15 by unfold stp; simp only [← HT.out]; rfl)
      have HD := Lib.hid (show dat S.N S.blk (.ok l) q = [] by unfold dat; rw [HE.out])
      go_enter Try.func64, Try.ntmps64
      go_wp2_with (fail)
      refine HA.out.mono ?_
      rintro e w2 ⟨rfl, hb⟩
      have HR2 := Lib.hid (HR.out.next hb)
      have HB2 := Lib.hid hb
      have c5 := HR2.out.c5
      have hlt := HR2.out.lt
      have hfr := HR2.out.fr 5
      clear hb
      go_wp2_with (fail)
      go_ret
      rw [HE.out, HD.out]
      exact ⟨none, 0, 0, v, rfl, Pin.zero _, by omega, (Turn.of_below HB2.out).trans (Turn.setCell (M := Tv g v) (a := ⟨g, 5, none⟩) w2 (.inl rfl) _), ⟨l, 15, HR2.out.setBad 15, by have := HL.out; omega, rfl, by decide⟩, fun j hj => .inl hj⟩
    | true =>
      go_enter Try.func64, Try.ntmps64
      go_wp2_with (fail)
      refine HA.out.mono ?_
      rintro e w2 ⟨rfl, hb⟩
      have HR2 := Lib.hid (HR.out.next hb)
      have HB2 := Lib.hid hb
      have c3 := HR2.out.c3
      have hlt := HR2.out.lt
      clear hb hfr c0 c1 c2 c5
      go_wp2_with (fail)
      refine (rblk_any q HR2.out.stoN).mono ?_
      rintro e w3 ⟨hno, hyes, hb3⟩
      have HR3 := Lib.hid (HR2.out.next hb3)
      have HB3 := Lib.hid (HB2.out.trans (hb3.mono HB2.out.size))
      have hlt := HR3.out.lt
      have hfr5 := HR3.out.fr 5
      have hfr4 := HR3.out.fr 4
      have c4 := HR3.out.c4
      have c5 := HR3.out.c5
      clear hb3
      cases hbk : blkF S.ks S.f q with
      | none =>
        obtain rfl := hno hbk
        have HE := Lib.hid (show stp S.N S.blk (.ok l) q = .error 14 by unfold stp; simp only [← HT.out, hbk]; rfl)
        have HD := Lib.hid (show dat S.N S.blk (.ok l) q = [] by unfold dat; rw [HE.out])
        clear hno hyes hbk
        go_wp2_with (fail)
        go_ret
        rw [HE.out, HD.out]
        exact ⟨none, 0, 0, v, rfl, Pin.zero _, by omega, (Turn.of_below HB3.out).trans (Turn.setCell (M := Tv g v) (a := ⟨g, 5, none⟩) w3 (.inl rfl) _), ⟨l, 14, HR3.out.setBad 14, by have := HL.out; omega, rfl, by decide⟩, fun j hj => .inl hj⟩
      | some z =>
        obtain ⟨a, n, c, rfl, hp, hnew⟩ := hyes z hbk
        by_cases hz : z.length = 56
        · have hn : n = 56 := by rw [← hp.len]; exact hz
          subst hn
          have HE := Lib.hid (show stp S.N S.blk (.ok l) q = .ok (l ++ [q]) by unfold stp; simp only [← HT.out, hbk, hz]; rfl)
          have HD := Lib.hid (show dat S.N S.blk (.ok l) q = z by unfold dat; rw [HE.out]; show (blkF S.ks S.f q).getD [] = z; rw [hbk]; rfl)
          have HP := Lib.hid hp
          have HNW := Lib.hid (show ∀ y, a = some y → ¬ Tv g v y.block from fun y e h' => by
            have h1 := hnew y e
            rcases h' with h2 | h2
            · have := HR2.out.lt; omega
            · have := (World.ownsRow.lt HR2.out.own _ h2).2; omega)
          clear hno hyes hbk hnew hp
          obtain ⟨va, vn, vc, rfl⟩ := HR3.out.few
          have hbx : Below w3.heap.size w3 (w3.alloc (.cells #[.int .i64 q] 3)) := (Below.refl _ _).alloc (Nat.le_refl _) _
          have HR4 := Lib.hid (HR3.out.next hbx)
          have HP4 := Lib.hid (HP.out.next hbx)
          have HB4 := Lib.hid hbx
          clear hbx
          go_wp2_with (at_builtin; go_must (refine wpList_apq rfl (.tmp 48) (.tmp 50) rfl S.w0.heap.size _ l.length l rfl HR4.out.own (some ⟨w3.heap.size, 0, none⟩) 1 1 [q] rfl (ins_one' q rfl) (fun h => by cases h) (by have := HL.out; omega) HR4.out.bel.size ?_); intro v5 w5 hO5 hG5 hv5; obtain ⟨⟨c4n, f4n, ltn⟩, hR6, hT6⟩ := HR4.out.grow hO5 hG5 hv5; obtain ⟨a5, c5n, rfl⟩ := hO5.form; have HR6 := Lib.hid hR6; have HT6 := Lib.hid hT6; have HV := Lib.hid hv5; clear hR6 hT6 hO5 hG5 hv5 hfr4 c4)
          go_ret
          rw [HE.out, HD.out]
          have hT : Turn (Tv g (.slice va vn vc)) w (w5.setCell ⟨g, 4, none⟩ (.slice a5 (l.length + 1) c5n)) := (Turn.of_below (HB3.out.trans (HB4.out.mono HB3.out.size))).trans HT6.out
          refine ⟨a, 56, c, .slice a5 (l.length + 1) c5n, rfl, ?_, by omega, hT, ⟨l ++ [q], 0, HR6.out, by have := HL.out; simp; omega, rfl, rfl⟩, fun j hj => ?_⟩
          · exact HP4.out.turn HT6.out HNW.out
          · rcases HV.out with e | e
            · exact .inl (e.symm.trans hj)
            · refine .inr ?_
              rw [e] at hj
              have h1 := HB3.out.size
              simp only [Option.some.injEq, World.alloc] at hj
              simp at hj
              omega
        · have d2 : ((n : Int) != 56) = true := by
            have := hp.len
            simp
            omega
          have HE := Lib.hid (show stp S.N S.blk (.ok l) q = .error 15 by unfold stp; simp only [← HT.out, hbk, hz]; rfl)
          have HD := Lib.hid (show dat S.N S.blk (.ok l) q = [] by unfold dat; rw [HE.out])
          clear hno hyes hbk hnew hp hz
          go_wp2_with (fail)
          go_ret
          rw [HE.out, HD.out]
          exact ⟨none, 0, 0, v, rfl, Pin.zero _, by omega, (Turn.of_below HB3.out).trans (Turn.setCell (M := Tv g v) (a := ⟨g, 5, none⟩) w3 (.inl rfl) _), ⟨l, 15, HR3.out.setBad 15, by have := HL.out; omega, rfl, by decide⟩, fun j hj => .inl hj⟩

theorem zer_eq : zer = List.replicate 28 0 := rfl
theorem zer_len : zer.length = 28 := rfl
theorem pS_len (N : Int) (blk : Int → Option (List Int)) (st : St) (q : Int) : (pS N blk st q).length = 28 := by
  unfold pS
  split
  · exact gpL_len _ _
  · rfl
theorem dat_len {N : Int} {blk : Int → Option (List Int)} {st : St} {q : Int} {l : List Int} (h : stp N blk st q = .ok l) : (dat N blk st q).length = 56 := by
  unfold dat
  rw [h]
  unfold stp at h
  cases st with
  | error e => cases h
  | ok l0 =>
    simp only at h
    split at h
    · cases hb : blk q with
      | none => rw [hb] at h; cases h
      | some b =>
        rw [hb] at h
        simp only at h
        split at h
        · assumption
        · cases h
    · cases h
section
variable {w w' : World} {S : Sv} {g m : Nat} {v v' : Value} {st : St}
theorem RdS.lt (h : RdS w S g v m st) : g < w.heap.size ∧ ∀ j, v.ownBlock = some j → j < w.heap.size := by
  obtain ⟨l, bad, hR, _⟩ := h
  exact ⟨hR.lt, fun j e => (World.ownsRow.lt hR.own j e).2⟩
theorem RdS.old (h : RdS w S g v m st) {j : Nat} (hj : w.heap.size ≤ j) : ¬ Tv g v j := by
  intro h'
  rcases h' with e | e
  · have := h.lt.1; omega
  · have := h.lt.2 j e; omega
theorem RdS.turn {M : Nat → Prop} (h : RdS w S g v m st) (ht : Turn M w w') (hm : ∀ j, M j → ¬ Tv g v j ∧ S.w0.heap.size ≤ j) : RdS w' S g v m st := by
  obtain ⟨l, bad, hR, r⟩ := h
  exact ⟨l, bad, hR.turn ht hm, r⟩
theorem RdS.next (h : RdS w S g v m st) (hb : Below w.heap.size w w') : RdS w' S g v m st := by
  obtain ⟨l, bad, hR, r⟩ := h
  exact ⟨l, bad, hR.next hb, r⟩
theorem RdS.more (h : RdS w S g v m st) {m' : Nat} (hm : m ≤ m') : RdS w S g v m' st := by
  obtain ⟨l, bad, hR, r1, r2⟩ := h
  exact ⟨l, bad, hR, Nat.le_trans r1 hm, r2⟩
theorem RdS.size (h : RdS w S g v m st) : S.w0.heap.size ≤ w.heap.size := by
  obtain ⟨l, bad, hR, _⟩ := h
  exact hR.bel.size
theorem Left.next (h : Left w S g v m st w' v') {w2 : World} (hb : Below w'.heap.size w' w2) : Left w S g v m st w2 v' := ⟨h.1.trans (Turn.of_below hb), h.2.1.next hb, h.2.2⟩
/-- Two calls, one behind the other. -/
theorem Left.trans {m2 : Nat} {st2 : St} {w2 : World} {v2 : Value} (h : Left w S g v m st w' v') (k : Left w' S g v' m2 st2 w2 v2) : Left w S g v m2 st2 w2 v2 := by
  refine ⟨h.1.trans2 k.1 fun j hj => ?_, k.2.1, fun j hj => ?_⟩
  · rcases hj with e | e
    · exact .inl (.inl e)
    · rcases h.2.2 j e with e | e
      · exact .inl (.inr e)
      · exact .inr e
  · rcases k.2.2 j hj with e | e
    · exact h.2.2 j e
    · exact .inr (Nat.le_trans h.1.size e)
end
/-- 28 numbers that a call answers. -/
def PtP (w : World) (S : Sv) (g : Nat) (v : Value) (m : Nat) (st : St) (ks : List Int) (e : Ending) (w' : World) : Prop :=
  ∃ b c v', e = .returned (.slice (some ⟨b, 0, none⟩) 28 c) ∧ OwnI w' w.heap.size (.slice (some ⟨b, 0, none⟩) 28 c) 28 ks ∧ w.heap.size ≤ b ∧ b < w'.heap.size ∧ ¬ Tv g v' b ∧ Left w S g v m st w' v'
theorem OwnI.at28 {w : World} {B : Nat} {v : Value} {ks : List Int} (h : OwnI w B v 28 ks) : ∃ b c, v = .slice (some ⟨b, 0, none⟩) 28 c ∧ Ins w (some ⟨b, 0, none⟩) 28 ks ∧ B ≤ b ∧ b < w.heap.size := by
  rcases h.2 with ⟨rfl, h0⟩ | ⟨g', cap, cur, rfl, h1, h2, _⟩
  · omega
  · obtain ⟨a', c', e, hi, _, _, hx⟩ := h.ins
    cases e
    exact ⟨g', cap, rfl, hi, h1, lt_of_block h2⟩
theorem rpointed_any (S : Sv) (g : Nat) (v : Value) (m : Nat) (st : St) (q : Int) (w : World) (h : RdS w S g v m st) (hm : m ≤ 1000000) :
    Calls Try.prog 67 #[.pointer (some ⟨g, 0, none⟩), .int .i64 q] w (PtP w S g v (m + 1) (stp S.N S.blk st q) (pS S.N S.blk st q)) := by
  have HC := Lib.hid (rblock_any S g v m st q w h hm)
  clear h
  go_enter Try.func67, Try.ntmps67
  go_wp2_with (fail)
  refine HC.out.mono ?_
  rintro e w2 ⟨a, n, c, v2, rfl, hp, hn, hL⟩
  have HL := Lib.hid hL
  have HG := Lib.hid (rgetP_any a n c (dat S.N S.blk st q) w2 hp.bys (by
    have := hp.len
    cases hs : stp S.N S.blk st q with
    | ok l => rw [dat_len hs] at this; omega
    | error e => unfold dat at this; rw [hs] at this; simp at this; omega))
  clear hL hp hn
  go_wp2_with (fail)
  refine HG.out.mono ?_
  rintro e w3 ⟨u, rfl, hO, hb⟩
  have HO := Lib.hid hO
  have HL3 := Lib.hid (HL.out.next hb)
  have HB := Lib.hid hb
  clear hO hb
  cases hs : stp S.N S.blk st q with
  | ok l =>
    have h56 := dat_len hs
    have d1 : decide ((dat S.N S.blk st q).length = 56) = true := decide_eq_true h56
    rw [d1]
    have HE := Lib.hid (show gpF (dat S.N S.blk st q) = pS S.N S.blk st q by unfold gpF pS; rw [if_pos h56, hs])
    have HS := Lib.hid hs
    clear hs h56 d1
    go_wp2_with (fail)
    go_ret
    have hO := HO.out
    rw [HE.out, pS_len] at hO
    obtain ⟨b, cc, rfl, hi, h1, h2⟩ := hO.at28
    refine ⟨b, cc, v2, rfl, (show OwnI _ _ _ _ _ from ⟨hO.1, by
      rcases hO.2 with h5 | ⟨g5, cap5, cur5, h5, h6, r5⟩
      · exact .inl h5
      · exact .inr ⟨g5, cap5, cur5, h5, Nat.le_trans HL.out.1.size h6, r5⟩⟩), Nat.le_trans HL.out.1.size h1, h2, HL.out.2.1.old h1, ?_⟩
    exact HL3.out
  | error e =>
    have h0 : dat S.N S.blk st q = [] := by unfold dat; rw [hs]
    have d1 : decide ((dat S.N S.blk st q).length = 56) = false := by rw [h0]; rfl
    rw [d1]
    have HE := Lib.hid (show zer = pS S.N S.blk st q by unfold pS; rw [hs])
    have HS := Lib.hid hs
    clear hs h0 d1
    go_wp2_with (at_make; go_must (refine wpList_mki rfl _ _ rfl _ _ _ _ 28 rfl rfl rfl rfl (by omega) w3.heap.size (Nat.le_refl _) ?_); intro w4 o4 b4; have HO4 := Lib.hid o4; have HB4 := Lib.hid b4; clear o4 b4)
    go_ret
    have hO := HO4.out
    rw [← zer_eq, HE.out] at hO
    obtain ⟨b, cc, e0, hi, h1, h2⟩ := hO.at28
    cases e0
    refine ⟨w3.heap.size, 28, v2, rfl, (show OwnI _ _ _ _ _ from ⟨hO.1, by
      rcases hO.2 with h5 | ⟨g5, cap5, cur5, h5, h6, r5⟩
      · exact .inl h5
      · exact .inr ⟨g5, cap5, cur5, h5, Nat.le_trans HL3.out.1.size h6, r5⟩⟩), HL3.out.1.size, h2, HL3.out.2.1.old h1, ?_⟩
    exact HL3.out.next HB4.out
end Go.Proofs.Ytegcjpocdfmpfaa
