/-
  A file's 56 bytes as an array, in a block of its own: made, loaded, stored, copied into, cut, cleared.
-/
import Derived.Test.YtegcjpocdfmpfaaZad
import Derived.Laws.CopyRow
import Derived.Deep.MidRow
import Derived.Deep.WholeRow
import Derived.Deep.DeepCutAuto
import Derived.Deep.RegionHeld3
import Derived.Test.YtegcjpocdfmpfaaZaa
import Derived.Deep.AppendLies
import Derived.Test.YtegcjpocdfmpfaaZab
import Derived.Test.YtegcjpocdfmpfaaZac
set_option linter.unusedVariables false
set_option linter.unusedSimpArgs false
set_option maxRecDepth 100000
set_option maxHeartbeats 16000000
namespace Go.Proofs.Ytegcjpocdfmpfaa
open Go.RowKit

theorem payInf : (Try.prog.info? 132).map (fun i => (i.zero, i.size, i.bytes)) = some (some (payV no56), 56, 56) := by kernel_rfl
theorem payUnd : Try.prog.underlying 132 = some (.array 56 5) := Try.underlying132
theorem paySize : (Try.prog.info? 132).map (·.size) = some 56 := by kernel_rfl
theorem payLen : Try.prog.arrayLen 132 = 56 := by kernel_rfl
theorem payElem : Try.prog.elem 132 = 5 := by kernel_rfl
theorem payUnd2 : Try.prog.underlying 132 = some (.array (Try.prog.arrayLen 132) (Try.prog.elem 132)) := by
  rw [payLen, payElem]; exact payUnd
theorem byteInf : (Try.prog.info? 5).map (·.size) = some 1 := by kernel_rfl
theorem size_byte (w : World) : (sizeOf 5).run Try.prog w = .ok 1 w := by
  cases h : Try.prog.info? 5 with
  | none => have := byteInf; rw [h] at this; cases this
  | some i =>
    have hz : i.size = 1 := by have := byteInf; rw [h] at this; simpa using this
    unfold sizeOf
    simp only [Sem.run_bind, typeInfo, run_program, h, Sem.run_pure, Result.andThen_ok, hz]
theorem payZero (w : World) : (zeroValue 132).run Try.prog w = .ok (payV no56) w := by
  obtain ⟨i0, hi, hz0, _, _⟩ := info_parts payInf
  unfold zeroValue
  simp only [Sem.run_bind, typeInfo, run_program, hi, Sem.run_pure, Result.andThen_ok, hz0]
/-- Block b is 56 bytes. -/
structure PyB (w : World) (b : Nat) (zs : List Int) : Prop where
  row : ∃ t, w.heap[b]? = some (.cells (payC zs) t (0, 0))
  len : zs.length = 56
  small : AllB zs
theorem no56_small : AllB no56 := fun z hz => by rw [(List.mem_replicate.1 (show z ∈ List.replicate 56 (0 : Int) from hz)).2]; omega
theorem PyB.lt {w : World} {b : Nat} {zs : List Int} (h : PyB w b zs) : b < w.heap.size := by obtain ⟨t, h⟩ := h.row; exact lt_of_block h
theorem PyB.turn {M : Nat → Prop} {w w' : World} {b : Nat} {zs : List Int} (h : PyB w b zs) (ht : Turn M w w') (hb : ¬ M b) : PyB w' b zs := by
  obtain ⟨t, hr⟩ := h.row
  exact ⟨⟨t, (ht.block b (lt_of_block hr) hb).trans hr⟩, h.len, h.small⟩
theorem PyB.next {w w' : World} {b : Nat} {zs : List Int} (h : PyB w b zs) (hb : Below w.heap.size w w') : PyB w' b zs := h.turn (M := fun _ => False) (Turn.of_below hb) (fun h => h)
theorem PyB.cell {w : World} {b : Nat} {zs : List Int} (h : PyB w b zs) {i : Nat} (hi : i < 56) : w.cell? ⟨b, i, none⟩ = some (.int .u8 (byt zs i)) := by
  obtain ⟨t, hr⟩ := h.row
  rw [cell_of_row w b i _ _ (0, 0) hr]
  have := h.len
  simp [payC, byt, List.getD, show i < zs.length by omega]
theorem PyB.pin {w : World} {b : Nat} {zs : List Int} (h : PyB w b zs) {o m : Nat} (hom : o + m ≤ 56) {c : Nat} (hc : m ≤ c) (hc2 : c ≤ 56) : Pin w (some ⟨b, o, none⟩) m c ((zs.drop o).take m) := by
  have hl := h.len
  refine ⟨⟨by simp; omega, fun z hz => h.small z (List.mem_of_mem_drop (List.mem_of_mem_take hz)), .inr ⟨b, o, rfl, h.lt, fun i hi => ?_⟩⟩, (fun e => by cases e), hc, by omega⟩
  rw [h.cell (by omega), byt_take hi, byt_drop]
theorem PyB.all {w : World} {b : Nat} {zs : List Int} (h : PyB w b zs) : Pin w (some ⟨b, 0, none⟩) 56 56 zs := by
  have := h.pin (o := 0) (m := 56) (by omega) (c := 56) (by omega) (by omega)
  rw [List.drop_zero, List.take_of_length_le (by rw [h.len]; omega)] at this
  exact this
theorem PyB.new (w : World) {zs : List Int} (h : zs.length = 56) (hs : AllB zs) {t : TypeId} : PyB (w.alloc (.cells (payC zs) t (0, 0))) w.heap.size zs := ⟨⟨t, heap_alloc_new w _⟩, h, hs⟩
theorem payAlloc (w : World) : (Instr.alloc 132 true (.tuple #[])).run Try.prog w = .ok (.pointer (some ⟨w.heap.size, 0, none⟩)) (w.alloc (.cells (payC no56) 132 (0, 0))) := by
  have hz := payZero w
  obtain ⟨cs, hcs⟩ : ∃ c, c = payC no56 := ⟨_, rfl⟩
  unfold payV at hz
  rw [← hcs] at hz ⊢
  unfold Instr.alloc
  simp only [Sem.run_bind, hz, Result.andThen_ok]
  rfl
theorem PyB.loadAt {w : World} {b : Nat} {zs : List Int} (h : PyB w b zs) : (Instr.loadAt 132 (.pointer (some ⟨b, 0, none⟩))).run Try.prog w = .ok (payV zs) w := by
  obtain ⟨t, hr⟩ := h.row
  simp only [Instr.loadAt, Instr.sureAddr, Sem.run_bind, Sem.run_pure, Result.andThen]
  exact run_loadVar_row w b t _ _ (0, 0) _ hr payUnd rfl (by rw [paySize, payC_size h.len])
theorem PyB.storeAt {w : World} {b : Nat} {zs ys : List Int} (h : PyB w b zs) (hy : ys.length = 56) : (Instr.storeAt 132 (.pointer (some ⟨b, 0, none⟩)) (payV ys)).run Try.prog w = .ok () (w.setRow b (payC ys)) := by
  obtain ⟨t, hr⟩ := h.row
  simp only [Instr.storeAt, Instr.sureAddr, Sem.run_bind, Sem.run_pure, Result.andThen]
  exact run_storeVar_row w b t _ _ _ hr (by rw [paySize, payC_size hy]) (by rw [payC_size h.len, payC_size hy]) (payC_all _)
theorem PyB.setRow {w : World} {b : Nat} {zs ys : List Int} (h : PyB w b zs) (hy : ys.length = 56) (hs : AllB ys) : PyB (w.setRow b (payC ys)) b ys ∧ Turn (· = b) w (w.setRow b (payC ys)) := by
  obtain ⟨t, hr⟩ := h.row
  exact ⟨⟨⟨t, setRow_heap w b _ _ _ _ hr⟩, hy, hs⟩, ⟨rfl, rfl, rfl, by simp [World.setRow], fun k _ hk => setRow_other w b k _ hk⟩⟩
/-- 56 bytes that lie anywhere are loaded whole. -/
theorem payLoadMid {w : World} {b off : Nat} {zs : List Int} (hl : zs.length = 56) (hc : ∀ i, i < 56 → w.cell? ⟨b, off + i, none⟩ = some (.int .u8 (byt zs i))) : (Instr.loadAt 132 (.pointer (some ⟨b, off, none⟩))).run Try.prog w = .ok (payV zs) w := by
  refine run_loadAt_mid w b off _ (zs.map (Value.int .u8)) _ (fun j v hv => ?_) payUnd rfl (by rw [paySize, List.length_map, hl])
  have hj : j < zs.length := by
    rcases Nat.lt_or_ge j zs.length with h1 | h1
    · exact h1
    · rw [List.getElem?_eq_none (by simpa using h1)] at hv; cases hv
  rw [hc j (by omega)]
  rw [List.getElem?_map, List.getElem?_eq_getElem hj] at hv
  simp at hv
  simp [byt, List.getD, hj, hv]
section
variable {ops : Array Oper} {rest : List Oper} {o : Oper} {a : Act} {w : World} {Q : Exit → Act → World → Prop}
theorem wpList_alY (hw : Region.wanted o (yielded ops a.tmps) = true) (ho : o.op = .alloc 132) (h : ∀ w', w' = w.alloc (.cells (payC no56) 132 (0, 0)) → PyB w' w.heap.size no56 → Below w.heap.size w w' → wpList Try.prog ops Q rest (a.put o.dst (.pointer (some ⟨w.heap.size, 0, none⟩))) w') : wpList Try.prog ops Q (o :: rest) a w :=
  wpList_step fun K hK => by
    rw [if_pos hw]
    unfold Oper.wp execOp
    simp only [ho, Sem.run_bind, payAlloc, Result.andThen_ok, Sem.run_pure]
    exact hK _ _ (h _ rfl (PyB.new w no56_len no56_small) ((Below.refl _ _).alloc (Nat.le_refl _) _))
theorem wpList_ldY (hw : Region.wanted o (yielded ops a.tmps) = true) (x : Operand) (ho : o.op = .load 132 x) (b : Nat) (hx : a.eval x = .pointer (some ⟨b, 0, none⟩)) (zs : List Int) (hb : PyB w b zs)
    (h : wpList Try.prog ops Q rest (a.put o.dst (payV zs)) w) : wpList Try.prog ops Q (o :: rest) a w :=
  wpList_step fun K hK => by
    rw [if_pos hw]
    unfold Oper.wp execOp
    simp only [ho, hx, Sem.run_bind, hb.loadAt, Result.andThen_ok, Sem.run_pure]
    exact hK _ _ h
theorem wpList_ldYm (hw : Region.wanted o (yielded ops a.tmps) = true) (x : Operand) (ho : o.op = .load 132 x) (b off : Nat) (hx : a.eval x = .pointer (some ⟨b, off, none⟩)) (zs : List Int) (hl : zs.length = 56) (hc : ∀ i, i < 56 → w.cell? ⟨b, off + i, none⟩ = some (.int .u8 (byt zs i)))
    (h : wpList Try.prog ops Q rest (a.put o.dst (payV zs)) w) : wpList Try.prog ops Q (o :: rest) a w :=
  wpList_step fun K hK => by
    rw [if_pos hw]
    unfold Oper.wp execOp
    simp only [ho, hx, Sem.run_bind, payLoadMid hl hc, Result.andThen_ok, Sem.run_pure]
    exact hK _ _ h
theorem wpList_stY (hw : Region.wanted o (yielded ops a.tmps) = true) (x y : Operand) (ho : o.op = .store 132 x y) (b : Nat) (hx : a.eval x = .pointer (some ⟨b, 0, none⟩)) (zs ys : List Int) (hy : a.eval y = payV ys) (hb : PyB w b zs) (hl : ys.length = 56) (hs : AllB ys)
    (h : ∀ w', PyB w' b ys → Turn (· = b) w w' → wpList Try.prog ops Q rest (a.put o.dst undef) w') : wpList Try.prog ops Q (o :: rest) a w :=
  wpList_step fun K hK => by
    rw [if_pos hw]
    unfold Oper.wp execOp
    simp only [ho, hx, hy, Sem.run_bind, hb.storeAt hl, Result.andThen_ok, Sem.run_pure]
    exact hK _ _ (h _ (hb.setRow hl hs).1 (hb.setRow hl hs).2)
theorem run_buildY (w : World) : (Instr.build 132 #[]).run Try.prog w = .ok (payV no56) w := by
  have hz := payZero w
  obtain ⟨cc, hcc⟩ : ∃ c, c = payC no56 := ⟨_, rfl⟩
  unfold payV at hz ⊢
  rw [← hcc] at hz ⊢
  unfold Instr.build
  simp only [Sem.run_bind, hz, Result.andThen_ok, run_underlying payUnd, size_byte, Instr.fill, Sem.run_pure]
  rfl
theorem wpList_buY (hw : Region.wanted o (yielded ops a.tmps) = true) (ho : o.op = .build 132 #[]) (h : wpList Try.prog ops Q rest (a.put o.dst (payV no56)) w) : wpList Try.prog ops Q (o :: rest) a w :=
  wpList_step fun K hK => by
    rw [if_pos hw]
    unfold Oper.wp execOp
    simp only [ho, List.map_toArray, List.map_nil, Sem.run_bind, run_buildY, Result.andThen_ok, Sem.run_pure]
    exact hK _ _ h
end
theorem add_zero' (g k : Nat) : (⟨g, 0, none⟩ : Addr).add k = ⟨g, k, none⟩ := by unfold Addr.add; split <;> simp_all
/-- b[k:m], b[k:], b[:]. -/
theorem run_slY_lh (g k m : Nat) (h : k + m ≤ 56) (hk : k < 56) (w : World) : (Instr.sliceAt 132 (.pointer (some ⟨g, 0, none⟩)) (some (.int .i64 (k : Int))) (some (.int .i64 ((k + m : Nat) : Int))) none).run Try.prog w = .ok (.slice (some ⟨g, k, none⟩) m (56 - k)) w := by
  rw [run_sliceAt_array_lh w _ _ payUnd2 .i64 .i64 (k : Int) ((k + m : Nat) : Int) (by omega) (by omega) (by rw [payLen]; omega), payElem, size_byte, Result.andThen_ok, payLen]
  unfold slicedAt
  rw [Int.toNat_natCast, Int.toNat_natCast, if_neg (by omega), Nat.mul_one, add_zero', Nat.add_sub_cancel_left]
theorem run_slY_l (g k : Nat) (h : k < 56) (w : World) : (Instr.sliceAt 132 (.pointer (some ⟨g, 0, none⟩)) (some (.int .i64 (k : Int))) none none).run Try.prog w = .ok (.slice (some ⟨g, k, none⟩) (56 - k) (56 - k)) w := by
  rw [run_sliceAt_array_l w _ _ payUnd2 .i64 (k : Int) (by omega) (by rw [payLen]; omega), payElem, size_byte, Result.andThen_ok, payLen]
  unfold slicedAt
  rw [Int.toNat_natCast, if_neg (by omega), Nat.mul_one, add_zero']
theorem run_slY (g : Nat) (w : World) : (Instr.sliceAt 132 (.pointer (some ⟨g, 0, none⟩)) none none none).run Try.prog w = .ok (.slice (some ⟨g, 0, none⟩) 56 56) w := by
  rw [run_sliceAt_array_all w _ _ payUnd2, payElem, size_byte, Result.andThen_ok, payLen]
  unfold slicedAt
  rw [if_neg (by omega), Nat.zero_mul, add_zero', Nat.sub_zero]
/-- Bytes over others. -/
def cpY (zs : List Int) (o m : Nat) (x : List Int) : List Int := zs.take o ++ x.take m ++ zs.drop (o + m)
theorem cpY_len {zs x : List Int} {o m : Nat} (hz : zs.length = 56) (ho : o + m ≤ 56) (hx : m ≤ x.length) : (cpY zs o m x).length = 56 := by
  unfold cpY
  simp
  omega
theorem cpY_small {zs x : List Int} {o m : Nat} (hz : AllB zs) (hx : AllB x) : AllB (cpY zs o m x) := by
  intro z h
  unfold cpY at h
  rcases List.mem_append.1 h with h | h
  · rcases List.mem_append.1 h with h | h
    · exact hz z (List.mem_of_mem_take h)
    · exact hx z (List.mem_of_mem_take h)
  · exact hz z (List.mem_of_mem_drop h)
theorem byt_cpY {zs x : List Int} {o m : Nat} (hz : zs.length = 56) (ho : o + m ≤ 56) (hx : m ≤ x.length) (i : Nat) : byt (cpY zs o m x) i = if o ≤ i ∧ i < o + m then byt x (i - o) else byt zs i := by
  unfold cpY byt
  by_cases h1 : i < o
  · rw [if_neg (by omega)]
    simp only [List.getD]
    rw [List.append_assoc, List.getElem?_append_left (by simp; omega), List.getElem?_take, if_pos h1]
  · by_cases h2 : i < o + m
    · rw [if_pos ⟨by omega, h2⟩]
      simp only [List.getD]
      rw [List.append_assoc, List.getElem?_append_right (by simp; omega), List.getElem?_append_left (by simp; omega), List.getElem?_take, List.length_take, show min o zs.length = o by omega, if_pos (by omega)]
    · rw [if_neg (by omega)]
      simp only [List.getD]
      rw [List.getElem?_append_right (by simp; omega), List.getElem?_drop, List.length_append, List.length_take, List.length_take, show min o zs.length = o by omega, show min m x.length = m by omega]
      congr 2
      omega
theorem run_copyY (w : World) (ty : TypeId) (g o dl dc : Nat) (a : Option Addr) (sl sc : Nat) (zs x : List Int) (hg : PyB w g zs) (hs : Bys w a sl x) (m : Nat) (hm : m = Nat.min sl dl) (hfit : o + m ≤ 56) :
    (Builtin.copy_ #[50, 50] ty #[.slice (some ⟨g, o, none⟩) dl dc, .slice a sl sc]).run Try.prog w = .ok (goInt m) (w.setRow g (payC (cpY zs o m x))) := by
  obtain ⟨t, hr⟩ := hg.row
  have hzl := hg.len
  by_cases h0 : m = 0
  · subst h0
    rw [run_copy_none (P := Try.prog) w 50 50 ty 5 _ a dl dc sl sc Try.underlying50 byteInf hm.symm]
    rw [show cpY zs o 0 x = zs by unfold cpY; simp, setRow_self w g _ _ _ hr]
    rfl
  · have hsl : 0 < sl := by
      rcases Nat.eq_zero_or_pos sl with h | h
      · rw [h] at hm; simp at hm; omega
      · exact h
    have hms : m ≤ sl := by rw [hm]; exact Nat.min_le_left _ _
    have hxl := hs.len
    rcases hs.place with h | ⟨b, off, rfl, _, hc⟩
    · omega
    have := run_copy_row (P := Try.prog) w 50 50 ty 5 g o dl dc ⟨b, off, none⟩ sl sc (payC zs) t ((x.take m).map (Value.int .u8)) Try.underlying50 byteInf hr (by rw [List.length_map, List.length_take, hxl, ← hm]; exact Nat.min_eq_left hms) (fun j v hj => by
      have hjm : j < m := by
        rcases Nat.lt_or_ge j m with h | h
        · exact h
        · rw [List.getElem?_eq_none (by simp; omega)] at hj; cases hj
      have hv : v = .int .u8 (byt x j) := by
        have hjx : j < x.length := by omega
        simp [List.getElem?_take, hjm, List.getElem?_eq_getElem hjx] at hj
        simp [byt, List.getD, hjx, hj]
      rw [hv, show (⟨b, off, none⟩ : Addr).add j = ⟨b, off + j, none⟩ by unfold Addr.add; split <;> simp_all]
      exact hc j (by omega)) (by rw [payC_size hzl]; simp; omega) (fun v hv => by
      obtain ⟨i, _, rfl⟩ := List.mem_map.1 hv
      rfl)
    rw [this]
    have e : ((x.take m).map (Value.int .u8)).length = m := by simp; omega
    have e2 : ((payC zs).toList.take o ++ (x.take m).map (Value.int .u8) ++ (payC zs).toList.drop (o + m)).toArray = payC (cpY zs o m x) := by
      unfold payC cpY
      simp only [List.map_append, List.map_take, List.map_drop]
    rw [e, e2]
theorem wpList_cpY {ops : Array Oper} {rest : List Oper} {o : Oper} {ac : Act} {w : World} {Q : Exit → Act → World → Prop} (hgd : o.guard = none) (d s : Operand)
    (ho : o.op = .call { callee := .builtin .copy, args := #[d, s], argTypes := #[50, 50] }) (g off dl dc : Nat) (ad : Option Addr) (sl sc : Nat) (zs x : List Int) (m : Nat)
    (hd : ac.eval d = .slice (some ⟨g, off, none⟩) dl dc) (hs : ac.eval s = .slice ad sl sc) (hg : PyB w g zs) (hx : Bys w ad sl x) (hm : m = Nat.min sl dl) (hfit : off + m ≤ 56)
    (h : ∀ w', PyB w' g (cpY zs off m x) → Turn (· = g) w w' → wpList Try.prog ops Q rest (ac.put o.dst (goInt m)) w') : wpList Try.prog ops Q (o :: rest) ac w := by
  have hms : m ≤ x.length := by rw [hx.len, hm]; exact Nat.min_le_left _ _
  refine wpList_plain hgd fun K hK => ?_
  have hrun := run_copyY w o.type g off dl dc ad sl sc zs x hg hx m hm hfit
  unfold Oper.wp
  simp [execOp, ho, resolve, invoke, builtin, hd, hs, hrun, Result.andThen]
  have h2 := hg.setRow (ys := cpY zs off m x) (cpY_len hg.len hfit hms) (cpY_small hg.small hx.small)
  exact hK _ _ (h _ h2.1 h2.2)

def vals (f : Nat → Pc) (n : Nat) : List Value := (List.range n).map fun i => .slice (f i).a (f i).n (f i).c
/-- One more piece behind n. -/
def snoc (f : Nat → Pc) (n : Nat) (p : Pc) : Nat → Pc := fun i => if i = n then p else f i
theorem snoc_new {f : Nat → Pc} {n : Nat} {p : Pc} : snoc f n p n = p := if_pos rfl
/-- A row of the call's own blocks from B on; its pieces lie in other blocks. -/
structure OwnR (w : World) (B : Nat) (v : Value) (n : Nat) (f : Nat → Pc) : Prop where
  row : w.ownsRow B 50 1 v n (vals f n)
  each : ∀ i, i < n → Pin w (f i).a (f i).n (f i).c (f i).zs
  apart : ∀ i, i < n → (f i).n = 0 ∨ ∀ x, (f i).a = some x → some x.block ≠ v.ownBlock
theorem OwnR.below {w w' : World} {B : Nat} {v : Value} {n : Nat} {f : Nat → Pc} (h : OwnR w B v n f) {C : Nat} (hC : w.heap.size ≤ C) (hb : Below C w w') : OwnR w' B v n f :=
  ⟨h.row.kept (row := none) ⟨hb.os, hb.tape, hb.output, hb.size, fun k hk _ => hb.block k (by omega)⟩ (by cases v.ownBlock <;> simp), fun i hi => (h.each i hi).below hC hb, h.apart⟩
theorem OwnR.next {w w' : World} {B : Nat} {v : Value} {n : Nat} {f : Nat → Pc} (h : OwnR w B v n f) (hb : Below w.heap.size w w') : OwnR w' B v n f := h.below (Nat.le_refl _) hb
/-- The row of n pieces in block g, which may be written. -/
structure Rb (w : World) (g n : Nat) (f : Nat → Pc) : Prop where
  lt : g < w.heap.size
  cell : ∀ i, i < n → w.cell? ⟨g, i, none⟩ = some (.slice (f i).a (f i).n (f i).c)
  free : ∀ i, w.frozen? ⟨g, i, none⟩ = false
  each : ∀ i, i < n → Pin w (f i).a (f i).n (f i).c (f i).zs
  apart : ∀ i, i < n → (f i).n = 0 ∨ ∀ x, (f i).a = some x → x.block ≠ g
theorem Rb.next {w w' : World} {g n : Nat} {f : Nat → Pc} (h : Rb w g n f) (hb : Below w.heap.size w w') : Rb w' g n f := by
  have hl := h.lt
  exact ⟨Nat.lt_of_lt_of_le hl hb.size, fun i hi => (hb.cell (p := ⟨g, i, none⟩) hl).trans (h.cell i hi), fun i => (hb.frozen (p := ⟨g, i, none⟩) hl).trans (h.free i), fun i hi => (h.each i hi).next hb, h.apart⟩
theorem Bys.setCell {w : World} {a : Option Addr} {n : Nat} {zs : List Int} (h : Bys w a n zs) {p : Addr} (u : Value) (hne : n = 0 ∨ ∀ x, a = some x → x.block ≠ p.block) : Bys (w.setCell p u) a n zs := by
  refine ⟨h.len, h.small, ?_⟩
  rcases h.place with h0 | ⟨b, off, e, hlt, hc⟩
  · exact .inl h0
  rcases hne with h0 | hne
  · exact .inl h0
  have hb : b ≠ p.block := hne _ e
  exact .inr ⟨b, off, e, by simpa using hlt, fun i hi => (World.cell?_setCell_other _ _ _ _ (fun e => hb (by rw [e]))).trans (hc i hi)⟩
theorem Pin.setCell {w : World} {a : Option Addr} {n c : Nat} {zs : List Int} (h : Pin w a n c zs) {p : Addr} (u : Value) (hne : n = 0 ∨ ∀ x, a = some x → x.block ≠ p.block) : Pin (w.setCell p u) a n c zs := ⟨h.bys.setCell u hne, h.nil, h.cap, h.max⟩
theorem Rb.set {w : World} {g n k : Nat} {f : Nat → Pc} (h : Rb w g n f) (hk : k < n) {pa : Option Addr} {pn pc : Nat} {pz : List Int} (hp : Pin w pa pn pc pz) (hap : pn = 0 ∨ ∀ x, pa = some x → x.block ≠ g) :
    Rb (w.setCell ⟨g, k, none⟩ (.slice pa pn pc)) g n (snoc f k ⟨pa, pn, pc, pz⟩) := by
  refine ⟨by simpa using h.lt, fun i hi => ?_, fun i => by simpa using h.free i, fun i hi => ?_, fun i hi => ?_⟩
  · by_cases e : i = k
    · subst e
      rw [snoc_new]
      exact World.cell?_setCell_same _ _ _ (h.cell i hi)
    · rw [show snoc f k ⟨pa, pn, pc, pz⟩ i = f i from if_neg e]
      exact (World.cell?_setCell_other _ _ _ _ (by simp only [ne_eq, Addr.mk.injEq, not_and]; omega)).trans (h.cell i hi)
  · by_cases e : i = k
    · subst e
      rw [snoc_new]
      exact hp.setCell _ hap
    · rw [show snoc f k ⟨pa, pn, pc, pz⟩ i = f i from if_neg e]
      exact (h.each i hi).setCell _ (h.apart i hi)
  · by_cases e : i = k
    · subst e
      rw [snoc_new]
      exact hap
    · rw [show snoc f k ⟨pa, pn, pc, pz⟩ i = f i from if_neg e]
      exact h.apart i hi


/-- Blocks by their addresses: the first that has the address. -/
def blkF (ks : List Int) (f : Nat → Pc) (q : Int) : Option (List Int) := ((List.range ks.length).find? fun i => num ks i == q).map fun i => (f i).zs
theorem blkF_at {ks : List Int} {f : Nat → Pc} {q : Int} {i : Nat} (hi : i < ks.length) (h : num ks i = q) (hn : ∀ j, j < i → num ks j ≠ q) : blkF ks f q = some (f i).zs := by
  have : (List.range ks.length).find? (fun i => num ks i == q) = some i := by
    rw [List.find?_range_eq_some]
    exact ⟨by simpa using h, by simpa using hi, fun j hj => by simpa using hn j hj⟩
  rw [blkF, this]
  rfl
theorem blkF_no {ks : List Int} {f : Nat → Pc} {q : Int} (hn : ∀ j, j < ks.length → num ks j ≠ q) : blkF ks f q = none := by
  have : (List.range ks.length).find? (fun i => num ks i == q) = none := by
    rw [List.find?_eq_none]
    intro j hj
    simpa using hn j (List.mem_range.1 hj)
  rw [blkF, this]
  rfl
/-- A store in memory. -/
structure Sto (w : World) (p : Nat) (A : Option Addr) (nA cA : Nat) (Dt : Option Addr) (nD cD : Nat) (ks : List Int) (f : Nat → Pc) : Prop where
  lt : p < w.heap.size
  c0 : w.cell? ⟨p, 0, none⟩ = some (.slice A nA cA)
  c1 : w.cell? ⟨p, 1, none⟩ = some (.slice Dt nD cD)
  ad : Ins w A nA ks
  da : Rws w Dt nD f
  le : nA ≤ nD
  mx : nA ≤ 1000000
  few : ∀ i, i < nA → (f i).n ≤ 1000000000000
section
variable {w w' : World} {p : Nat} {A : Option Addr} {nA cA : Nat} {Dt : Option Addr} {nD cD : Nat} {ks : List Int} {f : Nat → Pc}
theorem Sto.next (h : Sto w p A nA cA Dt nD cD ks f) (hb : Below w.heap.size w w') : Sto w' p A nA cA Dt nD cD ks f :=
  ⟨Nat.lt_of_lt_of_le h.lt hb.size, (hb.cell (p := ⟨p, 0, none⟩) h.lt).trans h.c0, (hb.cell (p := ⟨p, 1, none⟩) h.lt).trans h.c1, h.ad.next hb, h.da.next hb, h.le, h.mx, h.few⟩
/-- What Block answers. -/
def BlkPost (w : World) (x : Option (List Int)) (e : Ending) (w' : World) : Prop :=
  (x = none → e = .returned (.tuple #[.slice none 0 0, .int .i64 14])) ∧
  (∀ z, x = some z → ∃ a n c, e = .returned (.tuple #[.slice a n c, .int .i64 0]) ∧ Pin w' a n c z ∧ ∀ y, a = some y → w.heap.size ≤ y.block) ∧ Below w.heap.size w w'
theorem rblk_any (q : Int) (h : Sto w p A nA cA Dt nD cD ks f) :
    Calls Try.prog 107 #[.pointer (some ⟨p, 0, none⟩), .int .i64 q] w (BlkPost w (blkF ks f q)) := by
  have HS := Lib.hid h
  clear h
  go_enter Try.func107, Try.ntmps107
  go_wp2_with (fail)
  go_loopw [6] (fun v wr => ∃ i : Nat, i ≤ nA ∧ v = .int .i64 i ∧ (∀ j, j < i → num ks j ≠ q) ∧ Below w.heap.size w wr) (fun v _ => nA - (RowKit.intOf v).toNat)
  case atStart => exact ⟨0, by omega, rfl, (fun j hj => by omega), Below.refl _ _⟩
  case round =>
    obtain ⟨i, hi, rfl, hne, hb⟩ := hrel
    have HN := Lib.hid hne
    have HB := Lib.hid hb
    have HR := Lib.hid (HS.out.next hb)
    have c0 := HR.out.c0
    have c1 := HR.out.c1
    have hmx := HR.out.mx
    clear hne hb
    by_cases hlt : i < nA
    · obtain ⟨b, off, rfl, hbl, hcs⟩ := HR.out.ad.at (by omega : 0 < nA)
      have hc1 := hcs i hlt
      obtain ⟨z, hz⟩ : ∃ z, z = num ks i := ⟨_, rfl⟩
      rw [← hz] at hc1
      have HZ := Lib.hid hz
      clear hcs hz hbl
      by_cases ez : z = q
      · have dz : (z == q) = true := by simp [ez]
        have HX := Lib.hid (blkF_at (f := f) (i := i) (by rw [HR.out.ad.len]; exact hlt) (by rw [← HZ.out, ez]) HN.out)
        have hld := HR.out.le
        obtain ⟨b2, o2, e2, hl2, hr2⟩ : ∃ b off, Dt = some ⟨b, off, none⟩ ∧ b < wr.heap.size ∧ ∀ i, i < nD → wr.cell? ⟨b, off + i, none⟩ = some (.slice (f i).a (f i).n (f i).c) := by
          rcases HR.out.da.place with h0 | h
          · omega
          · exact h
        have hcd := hr2 i (by omega)
        have hpl := HR.out.lt
        rw [e2] at c1
        have HPI := Lib.hid (HR.out.da.each i (by omega))
        have HFW := Lib.hid (HR.out.few i hlt)
        have i2 : (i : Int) < (nD : Int) := by omega
        have hbs := (Below.refl wr.heap.size wr).alloc (Nat.le_refl _) (.cells #[] 5)
        have HBS := Lib.hid hbs
        clear ez e2 hr2 hbs
        go_wp2_with (at_builtin; go_must (refine wpList_ap rfl (.tmp 27) (.tmp 34) rfl wr.heap.size _ 0 [] rfl (own_none wr wr.heap.size (Nat.le_refl _)) (f i).a (f i).n (f i).c (f i).zs rfl (HPI.out.bys.alloc _) HPI.out.nil (by have := HFW.out; omega) (by simp) wr HBS.out ?_); intro v w1 o b; obtain ⟨a9, c9, rfl, hp9, hn9⟩ := o.pin; have HP9 := Lib.hid hp9; have HN9 := Lib.hid hn9; have HB9 := Lib.hid b; clear hp9 hn9 b o)
        go_ret2
        refine ⟨(fun e => by rw [HX.out] at e; cases e), fun z e => ?_, HB.out.trans (HB9.out.mono HB.out.size)⟩
        rw [HX.out] at e
        cases e
        exact ⟨_, _, _, rfl, by simpa using HP9.out, fun y e => Nat.le_trans HB.out.size (HN9.out y e).1⟩
      · have dz : (z == q) = false := by simp [ez]
        have HEZ := Lib.hid ez
        clear ez
        go_wp2_with (fail)
        go_roundw
        case rel => exact ⟨i + 1, by omega, by go_num, (fun j hj => by
          by_cases e : j = i
          · subst e; rw [← HZ.out]; exact HEZ.out
          · exact HN.out j (by omega)), HB.out⟩
        case measure => simp [RowKit.intOf]; omega
    · obtain rfl : i = nA := by omega
      have HX := Lib.hid (blkF_no (ks := ks) (f := f) (q := q) fun j hj => HN.out j (by rw [HR.out.ad.len] at hj; exact hj))
      go_wp2_with (fail)
      go_ret2
      exact ⟨fun _ => rfl, (fun z e => by rw [HX.out] at e; cases e), HB.out⟩
end

theorem res_ct {P : Program} {fn : Func} {t u : Tmp} {T : TypeId} (h : fn.results = #[.cell t T, .tmp u]) (tmps : Array Value) (w : World) (p : Addr) (v x : Value) (hp : tmps.getD t undef = .pointer (some p)) (hu : tmps.getD u undef = x) (hv : (loadVar T p).run P w = .ok v w) : (results fn tmps).run P w = .ok (.tuple #[v, x]) w := by
  have ha : asAddr (tmps.getD t undef) = (pure p : Sem Addr) := by rw [hp]; rfl
  unfold results
  rw [h]
  simp only [List.mapM_toArray, List.mapM_cons, List.mapM_nil, ha, hu, Sem.run_bind, Sem.run_pure, Result.andThen_ok, hv, map_eq_pure_bind]
  rfl
theorem PyB.load {w : World} {b : Nat} {zs : List Int} (h : PyB w b zs) : (loadVar 132 ⟨b, 0, none⟩).run Try.prog w = .ok (payV zs) w := by
  obtain ⟨t, hr⟩ := h.row
  exact run_loadVar_row w b t _ _ (0, 0) _ hr payUnd rfl (by rw [paySize, payC_size h.len])
theorem run_nilI (p : Addr) (w : World) : (binOp .eql 107 (.iface 41 (.pointer (some p))) .nilIface).run Try.prog w = .ok (.bool false) w := by kernel_rfl
/-- A file in memory. -/
structure FlAt (w : World) (b : Nat) (s : Nat) (p : Nat) (fr : Value) (T D : Nat → Prop) (A : Nat → Int) (X : Nat → List Int) : Prop where
  row : w.heap[b]? = some (.cells #[.int .i64 (s : Int), .pointer (some ⟨p, 0, none⟩), fr] 125 (0, 0))
  mp : Pmp w p T D A X
  nb : ¬ D b
  sz : s ≤ 46368
  fit : ∀ k, X k = [] ∨ ((X k).length = 56 ∧ AllB (X k))
/-- Where the blocks lie that are at an address; or none is. -/
def Src (w : World) (fr : Value) (A : Nat → Int) : Prop :=
  (∀ k, A k = 0) ∨ ∃ pS A' nA cA Dt nD cD ks f, fr = .iface 41 (.pointer (some ⟨pS, 0, none⟩)) ∧ Sto w pS A' nA cA Dt nD cD ks f
theorem Src.next {w w' : World} {fr : Value} {A : Nat → Int} (h : Src w fr A) (hb : Below w.heap.size w w') : Src w' fr A := by
  rcases h with h | ⟨pS, A', nA, cA, Dt, nD, cD, ks, f, e, hS⟩
  · exact .inl h
  · exact .inr ⟨pS, A', nA, cA, Dt, nD, cD, ks, f, e, hS.next hb⟩
section
variable {w w' : World} {b s p : Nat} {fr : Value} {T D : Nat → Prop} {A : Nat → Int} {X : Nat → List Int}
theorem FlAt.next (h : FlAt w b s p fr T D A X) (hb : Below w.heap.size w w') : FlAt w' b s p fr T D A X :=
  ⟨(hb.block b (lt_of_block h.row)).trans h.row, pmp_ok.next h.mp hb, h.nb, h.sz, h.fit⟩
theorem FlAt.cells (h : FlAt w b s p fr T D A X) : w.cell? ⟨b, 0, none⟩ = some (.int .i64 (s : Int)) ∧ w.cell? ⟨b, 1, none⟩ = some (.pointer (some ⟨p, 0, none⟩)) ∧ w.cell? ⟨b, 2, none⟩ = some fr ∧ b < w.heap.size ∧ w.frozen? ⟨b, 0, none⟩ = false :=
  have c := fun i => cell_of_row w b i _ _ (0, 0) h.row
  ⟨c 0, c 1, c 2, lt_of_block h.row, frozen_of_row w b 0 _ _ h.row⟩
end
/-- A block's bytes. -/
def blkC (X : Nat → List Int) (k : Nat) : List Int := if X k = [] then no56 else X k
theorem blkC_byt (X : Nat → List Int) (k i : Nat) : byt (blkC X k) i = byt (X k) i := by
  unfold blkC
  split
  · rename_i h
    rw [h]
    exact (byt_zero 56 i).trans (by simp [byt])
  · rfl
def ByP (w : World) (A : Nat → Int) (X : Nat → List Int) (j : Nat) (e : Ending) (w' : World) : Prop :=
  ∃ er z, e = .returned (.tuple #[payV z, .int .i64 er]) ∧ z.length = 56 ∧ AllB z ∧ (er = 0 ∨ er = 14) ∧ ((∀ k, A k = 0) → er = 0 ∧ z = blkC X j) ∧ Below w.heap.size w w'
theorem below_of_turn {w w1 w2 : World} {b : Nat} (h : Below w.heap.size w w1) (hB : w.heap.size ≤ b) (ht : Turn (· = b) w1 w2) : Below w.heap.size w w2 :=
  h.trans (ht.below h.size fun k e => by rw [e]; exact hB)
theorem byO_no {X : Nat → List Int} {j : Nat} (hj : j < 828) (h : byO X (j : Int) = false) : X j = [] := by
  have e := (by_yes X hj).1
  rw [h] at e
  cases hx : X j with
  | nil => rfl
  | cons y l => rw [hx] at e; cases e
theorem fby_any {w : World} {b s p : Nat} {fr : Value} {T D : Nat → Prop} {A : Nat → Int} {X : Nat → List Int} (h : FlAt w b s p fr T D A X) (hs : Src w fr A) (j : Nat) (hj : j < 828) :
    Calls Try.prog 76 #[.pointer (some ⟨b, 0, none⟩), .int .i64 (j : Int)] w (ByP w A X j) := by
  have HF := Lib.hid h
  have HS := Lib.hid hs
  have hsl := run_slY
  have hni := run_nilI
  have HJ := Lib.hid hj
  clear h hs hj
  go_enter Try.func76, Try.ntmps76
  go_upto_region 1 with (refine wpList_alY (by rfl) rfl ?_; intro wa hwa hya hba; clear hwa)
  have HYA := Lib.hid hya
  have HBA := Lib.hid hba
  clear hya hba
  go_upto_region 2 with (refine wpList_alY (by rfl) rfl ?_; intro wb hwb hyb hbb; clear hwb)
  have HY4 := Lib.hid (HYA.out.next hbb)
  have HY6 := Lib.hid hyb
  have HB := Lib.hid (HBA.out.trans (hbb.mono HBA.out.size))
  obtain ⟨b6, hb6⟩ : ∃ b, b = wa.heap.size := ⟨_, rfl⟩
  have HN := Lib.hid (show w.heap.size < b6 by rw [hb6]; exact HYA.out.lt)
  rw [← hb6] at HY6
  rw [← hb6]
  have HF2 := Lib.hid (HF.out.next HB.out)
  clear hyb hbb hb6 HYA HBA
  obtain ⟨b4, hb4⟩ : ∃ b, b = w.heap.size := ⟨_, rfl⟩
  rw [← hb4] at HY4 HN ⊢
  have HB4 := Lib.hid hb4
  clear hb4
  obtain ⟨c0, c1, c2, l0, f0⟩ := HF2.out.cells
  go_wp2_with (fail)
  refine (pmp_ok.bytes HF2.out.mp (j : Int)).mono ?_
  rintro e w2 ⟨a, n, c, rfl, hpin, hb⟩
  have HF3 := Lib.hid (HF2.out.next hb)
  have HY43 := Lib.hid (HY4.out.next hb)
  have HY63 := Lib.hid (HY6.out.next hb)
  have HB3 := Lib.hid (HB.out.trans (hb.mono HB.out.size))
  clear hb c0 c1 c2 l0 f0 HF2 HY4 HY6
  cases ho : byO X (j : Int) with
  | true =>
    obtain ⟨j', hjj, hj', e2, hne⟩ := byX_yes ho
    obtain rfl : j' = j := by omega
    rw [e2] at hpin
    obtain ⟨hl, hsm⟩ : (X j').length = 56 ∧ AllB (X j') := by
      rcases HF.out.fit j' with h1 | h1
      · exact absurd h1 hne
      · exact h1
    obtain rfl : n = 56 := by have := hpin.len; omega
    have HP := Lib.hid hpin
    have HX := Lib.hid (show cpY no56 0 56 (X j') = X j' by unfold cpY; rw [List.take_zero, List.nil_append, List.take_of_length_le (by omega), List.drop_of_length_le (by rw [no56_len]; omega), List.append_nil])
    have HBC := Lib.hid (show blkC X j' = X j' by unfold blkC; rw [if_neg hne])
    have HL := Lib.hid (And.intro hl hsm)
    clear hpin hl hsm e2 ho hjj hne
    go_upto_region 5 with (refine wpList_cpY rfl (.tmp 22) (.tmp 23) rfl b6 0 56 56 a 56 c no56 (X j') 56 rfl rfl HY63.out HP.out.bys rfl (by omega) ?_; intro w3 hy3 ht3)
    rw [HX.out] at hy3
    have HY64 := Lib.hid hy3
    have HY44 := Lib.hid (HY43.out.turn ht3 (by have := HN.out; omega))
    have HB4' := Lib.hid (below_of_turn HB3.out (by have := HN.out; have := HB4.out; omega) ht3)
    clear hy3 ht3
    go_wp2_with (first
      | (refine wpList_ldY (by rfl) (.tmp 6) rfl b6 rfl (X j') HY64.out ?_)
      | (refine wpList_stY (by rfl) (.tmp 4) (.tmp 25) rfl b4 rfl no56 (X j') rfl HY44.out HL.out.1 HL.out.2 ?_; intro w5 hy5 ht5)
      | fail)
    refine bodyPost_ret (v := .tuple #[payV (X j'), .int .i64 0]) ?_ rfl ?_
    · exact res_ct rfl _ _ ⟨b4, 0, none⟩ _ _ rfl rfl hy5.load
    · exact ⟨0, X j', rfl, HL.out.1, HL.out.2, .inl rfl, fun _ => ⟨rfl, HBC.out.symm⟩, below_of_turn HB4'.out (by rw [HB4.out]; exact Nat.le_refl _) ht5⟩
  | false =>
    have HX0 := Lib.hid (byO_no HJ.out ho)
    obtain ⟨c0, c1, c2, l0, f0⟩ := HF3.out.cells
    clear hpin ho
    go_wp2_with (fail)
    refine (pmp_ok.ad HF3.out.mp (j : Int)).mono ?_
    rintro e w3 ⟨rfl, hb⟩
    have HF4 := Lib.hid (HF3.out.next hb)
    have HY44 := Lib.hid (HY43.out.next hb)
    have HY64 := Lib.hid (HY63.out.next hb)
    have HB4' := Lib.hid (HB3.out.trans (hb.mono HB3.out.size))
    have haj := adO_yes A HJ.out
    rw [haj]
    obtain ⟨q, hq⟩ : ∃ q, q = A j := ⟨_, rfl⟩
    rw [← hq]
    have HQ := Lib.hid hq
    clear hb haj hq c0 c1 c2 l0 f0 HF3 HY43 HY63
    by_cases hq0 : q = 0
    · subst hq0
      go_wp2_with (first
        | (refine wpList_ldY (by rfl) (.tmp 6) rfl b6 rfl no56 HY64.out ?_)
        | (refine wpList_stY (by rfl) (.tmp 4) (.tmp 34) rfl b4 rfl no56 no56 rfl HY44.out no56_len no56_small ?_; intro w5 hy5 ht5)
        | fail)
      refine bodyPost_ret (v := .tuple #[payV no56, .int .i64 0]) ?_ rfl ?_
      · exact res_ct rfl _ _ ⟨b4, 0, none⟩ _ _ rfl rfl hy5.load
      · exact ⟨0, no56, rfl, no56_len, no56_small, .inl rfl, fun _ => ⟨rfl, by unfold blkC; rw [if_pos HX0.out]⟩, below_of_turn HB4'.out (by rw [HB4.out]; exact Nat.le_refl _) ht5⟩
    · rcases HS.out with hA | ⟨pS, A', nA, cA, Dt, nD, cD, ks, f, hfr, hsto⟩
      · exact absurd (HQ.out.trans (hA j)) hq0
      have hd0 : (q == 0) = false := by simpa using hq0
      have HST := Lib.hid (hsto.next HB4'.out)
      subst hfr
      obtain ⟨c0, c1, c2, l0, f0⟩ := HF4.out.cells
      clear hsto hq0
      have HNA := Lib.hid (show ¬ ∀ k, A k = 0 from fun h => by have := HQ.out; rw [h j] at this; rw [this] at hd0; simp at hd0)
      go_wp2_with (fail)
      refine (rblk_any q HST.out).mono ?_
      rintro e w5 ⟨hno, hyes, hb⟩
      have HY45 := Lib.hid (HY44.out.next hb)
      have HY65 := Lib.hid (HY64.out.next hb)
      have HB5 := Lib.hid (HB4'.out.trans (hb.mono HB4'.out.size))
      clear c0 c1 c2 l0 f0 hd0
      cases hbk : blkF ks f q with
      | none =>
        obtain rfl := hno hbk
        clear hyes hno hbk hb
        go_wp2_with (first
          | (refine wpList_ldY (by rfl) (.tmp 6) rfl b6 rfl no56 HY65.out ?_)
          | (refine wpList_stY (by rfl) (.tmp 4) (.tmp 55) rfl b4 rfl no56 no56 rfl HY45.out no56_len no56_small ?_; intro w6 hy6 ht6)
          | fail)
        refine bodyPost_ret (v := .tuple #[payV no56, .int .i64 14]) ?_ rfl ?_
        · exact res_ct rfl _ _ ⟨b4, 0, none⟩ _ _ rfl rfl hy6.load
        · exact ⟨14, no56, rfl, no56_len, no56_small, .inr rfl, fun h => absurd h HNA.out, below_of_turn HB5.out (by rw [HB4.out]; exact Nat.le_refl _) ht6⟩
      | some z =>
        obtain ⟨a, n, c, rfl, hp, _⟩ := hyes z hbk
        have HP := Lib.hid hp
        obtain ⟨m, hm⟩ : ∃ m, m = Nat.min n 56 := ⟨_, rfl⟩
        have hm56 : 0 + m ≤ 56 := by rw [hm, Nat.zero_add]; exact Nat.min_le_right _ _
        have HZ := Lib.hid (show (cpY no56 0 m z).length = 56 ∧ AllB (cpY no56 0 m z) from ⟨cpY_len no56_len hm56 (by rw [hp.len, hm]; exact Nat.min_le_left _ _), cpY_small no56_small hp.bys.small⟩)
        have HM := Lib.hid (And.intro hm hm56)
        clear hyes hno hbk hb hp hm hm56
        go_upto_region 14 with (refine wpList_cpY rfl (.tmp 52) (.tmp 53) rfl b6 0 56 56 a n c no56 z m rfl rfl HY65.out HP.out.bys HM.out.1 HM.out.2 ?_; intro w6 hy6 ht6)
        have HY66 := Lib.hid hy6
        have HY46 := Lib.hid (HY45.out.turn ht6 (by have := HN.out; omega))
        have HB6 := Lib.hid (below_of_turn HB5.out (by have := HN.out; have := HB4.out; omega) ht6)
        obtain ⟨zz, hzz⟩ : ∃ zz, zz = cpY no56 0 m z := ⟨_, rfl⟩
        rw [← hzz] at HZ HY66
        clear hy6 ht6 hzz
        go_wp2_with (first
          | (refine wpList_ldY (by rfl) (.tmp 6) rfl b6 rfl zz HY66.out ?_)
          | (refine wpList_stY (by rfl) (.tmp 4) (.tmp 55) rfl b4 rfl no56 zz rfl HY46.out HZ.out.1 HZ.out.2 ?_; intro w7 hy7 ht7)
          | fail)
        refine bodyPost_ret (v := .tuple #[payV zz, .int .i64 0]) ?_ rfl ?_
        · exact res_ct rfl _ _ ⟨b4, 0, none⟩ _ _ rfl rfl hy7.load
        · exact ⟨0, zz, rfl, HZ.out.1, HZ.out.2, .inl rfl, fun h => absurd h HNA.out, below_of_turn HB6.out (by rw [HB4.out]; exact Nat.le_refl _) ht7⟩
end Go.Proofs.Ytegcjpocdfmpfaa
