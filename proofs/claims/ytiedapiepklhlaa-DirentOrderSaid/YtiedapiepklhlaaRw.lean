/-
  Rows of entries written in place: copies within them, a row made longer by noughts; what the library's overlaps answers.
-/
import Derived.Test.YtiedapiepklhlaaSe
import Derived.Lib.AppendZeros
import Derived.Lib.AppendZerosOnto
import Derived.Lib.Overlaps
import Derived.Laws.Externs
import Derived.Deep.RegionLaw
namespace Go.Proofs.Ytiedapiepklhlaa
open Go.RowKit
set_option linter.unusedVariables false
set_option linter.unusedSimpArgs false

/-- Block g holds these cells. -/
def RowE (w : World) (g : Nat) (cur : List Value) : Prop := w.heap[g]? = some (.cells cur.toArray 36 (0, 0))
theorem RowE.lt {w : World} {g : Nat} {cur : List Value} (h : RowE w g cur) : g < w.heap.size := lt_of_block h
theorem RowE.cell {w : World} {g : Nat} {cur : List Value} (h : RowE w g cur) {j : Nat} {u : Value} (hj : cur[j]? = some u) : w.cell? ⟨g, j, none⟩ = some u := by
  rw [cell_of_row w g j _ _ (0, 0) h]
  simpa using hj
theorem RowE.below {w w' : World} {g B : Nat} {cur : List Value} (h : RowE w g cur) (hb : Below B w w') (hB : g < B) : RowE w' g cur := (hb.block g hB).trans h
theorem RowE.next {w w' : World} {g : Nat} {cur : List Value} (h : RowE w g cur) (hb : Below w.heap.size w w') : RowE w' g cur := h.below hb h.lt
theorem RowE.drew {w : World} {g : Nat} {cur : List Value} (h : RowE w g cur) : RowE w.drew g cur := h
theorem RowE.own {w : World} {B g n c : Nat} {cur : List Value} {L : List En} (h : RowE w g cur) (hB : B ≤ g) (hn : n ≤ c) (hc : c ≤ maxLen) (hs : cur.length = c * 2) (hl : L.length = n) (ht : cur.take (n * 2) = L.flatMap ecl) : OwnE w B (.slice (some ⟨g, 0, none⟩) n c) n L :=
  ⟨by rw [eflat_len, hl], .inr ⟨g, c, cur.toArray, rfl, hB, h, hn, hc, by simpa using hs, by simpa using ht⟩⟩
theorem OwnE.row {w : World} {B n : Nat} {v : Value} {L : List En} (h : OwnE w B v n L) (hn : 0 < n) : ∃ g c cur, v = .slice (some ⟨g, 0, none⟩) n c ∧ RowE w g cur ∧ B ≤ g ∧ n ≤ c ∧ c ≤ maxLen ∧ cur.length = c * 2 ∧ cur.take (n * 2) = L.flatMap ecl := by
  rcases h.2 with ⟨rfl, rfl⟩ | ⟨g, cap, cur, rfl, hb, hg, hnc, hm, hsz, htake⟩
  · omega
  · exact ⟨g, cap, cur.toList, rfl, by unfold RowE; simpa using hg, hb, hnc, hm, by simpa using hsz, htake⟩
/-- What a copy turns: block g alone. -/
structure Laid (w w' : World) (g : Nat) (cur : List Value) : Prop where
  row : RowE w' g cur
  oth : ∀ k, k ≠ g → w'.heap[k]? = w.heap[k]?
  bel : ∀ B w0, B ≤ g → Below B w0 w → Below B w0 w'
theorem run_copyE (w : World) (ty : TypeId) (g o dLen dCap : Nat) (a : Addr) (sLen sCap : Nat) (cur cs : List Value) (k : Nat) (hg : RowE w g cur) (hk : k = Nat.min sLen dLen) (hn : cs.length = k * 2)
    (hsrc : ∀ j v, cs[j]? = some v → w.cell? (a.add j) = some v) (hfit : o + cs.length ≤ cur.length) (h1 : ∀ v ∈ cs, v.oneCell' = true) :
    (Builtin.copy_ #[22, 22] ty #[.slice (some ⟨g, o, none⟩) dLen dCap, .slice (some a) sLen sCap]).run Try.prog w = .ok (goInt k) (w.setRow g (splice cur o cs).toArray) := by
  obtain ⟨i0, hi, hz0, hz1, hz2⟩ := info_parts infoE
  have hl := run_loadCells_list (P := Try.prog) w a cs hsrc
  have hst := run_storeCells_at Try.prog g o _ cs 0 cur.toArray w hg (by simpa using hfit) h1
  rw [hn] at hl
  subst hk
  simp [Builtin.copy_, run_underlying Try.underlying22, Builtin.lenOf, Builtin.firstCells, sizeOf, typeInfo, hi, hz1, hl, hst, splice]
theorem laid_copy {w : World} {g o : Nat} {cur cs : List Value} (hg : RowE w g cur) : Laid w (w.setRow g (splice cur o cs).toArray) g (splice cur o cs) :=
  ⟨setRow_heap w g _ _ _ _ hg, fun k hk => setRow_other w g k _ hk, fun B w0 hB hb => hb.trans ⟨rfl, rfl, rfl, by simp [World.setRow], fun k hk => setRow_other w g k _ (by omega)⟩⟩
theorem wpList_copyE {w : World} {ops : Array Oper} {rest : List Oper} {o : Oper} {a : Act} {Q : Exit → Act → World → Prop} (hgd : o.guard = none) (d s : Operand)
    (ho : o.op = .call { callee := .builtin .copy, args := #[d, s], argTypes := #[22, 22] }) (g p dLen dCap : Nat) (ad : Addr) (sLen sCap : Nat) (hd : a.eval d = .slice (some ⟨g, p, none⟩) dLen dCap) (hs : a.eval s = .slice (some ad) sLen sCap)
    (cur cs : List Value) (k : Nat) (hg : RowE w g cur) (hk : k = Nat.min sLen dLen) (hn : cs.length = k * 2) (hsrc : ∀ j v, cs[j]? = some v → w.cell? (ad.add j) = some v) (hfit : p + cs.length ≤ cur.length) (h1 : ∀ v ∈ cs, v.oneCell' = true)
    (h : ∀ w', Laid w w' g (splice cur p cs) → wpList Try.prog ops Q rest (a.put o.dst (goInt k)) w') : wpList Try.prog ops Q (o :: rest) a w := by
  refine wpList_plain hgd fun K hK => ?_
  have hrun := run_copyE w o.type g p dLen dCap ad sLen sCap cur cs k hg hk hn hsrc hfit h1
  unfold Oper.wp
  simp [execOp, ho, resolve, invoke, builtin, hd, hs, hrun, Result.andThen]
  exact hK _ _ (h _ (laid_copy hg))
theorem step_copyE {ops : Array Oper} {o : Oper} {a : Act} {w : World} {K : Act → World → Prop} {Q : Exit → Act → World → Prop} {E : Prop} (hgd : o.guard = none) (d s : Operand)
    (ho : o.op = .call { callee := .builtin .copy, args := #[d, s], argTypes := #[22, 22] }) (g p dLen dCap : Nat) (ad : Addr) (sLen sCap : Nat) (hd : a.eval d = .slice (some ⟨g, p, none⟩) dLen dCap) (hs : a.eval s = .slice (some ad) sLen sCap)
    (cur cs : List Value) (k : Nat) (hg : RowE w g cur) (hk : k = Nat.min sLen dLen) (hn : cs.length = k * 2) (hsrc : ∀ j v, cs[j]? = some v → w.cell? (ad.add j) = some v) (hfit : p + cs.length ≤ cur.length) (h1 : ∀ v ∈ cs, v.oneCell' = true)
    (h : ∀ w', Laid w w' g (splice cur p cs) → K (a.put o.dst (goInt k)) w') :
    if Region.wanted o (yielded ops a.tmps) = true then Oper.wp Try.prog o a w K Q else E := by
  have hw : Region.wanted o (yielded ops a.tmps) = true := by simp [Region.wanted, hgd]
  rw [if_pos hw]
  have hrun := run_copyE w o.type g p dLen dCap ad sLen sCap cur cs k hg hk hn hsrc hfit h1
  unfold Oper.wp
  simp [execOp, ho, resolve, invoke, builtin, hd, hs, hrun, Result.andThen]
  exact h _ (laid_copy hg)
/-- 'append(s[:i], make(..)...)' where there is no room: a new row. -/
theorem wpList_apz {w : World} {ops : Array Oper} {rest : List Oper} {o : Oper} {a : Act} {Q : Exit → Act → World → Prop} (hgd : o.guard = none) (s x : Operand)
    (ho : o.op = .call { callee := .builtin .append, args := #[s, x], argTypes := #[22, 3] }) (g i c k : Nat) (hs : a.eval s = .slice (some ⟨g, 0, none⟩) i c) (hx : a.eval x = .int .i64 k)
    (olds : List Value) (hl : olds.length = i * 2) (hold : ∀ j v, olds[j]? = some v → w.cell? ⟨g, j, none⟩ = some v) (h0 : 0 < k) (m : Nat) (hm : i + k = m) (hroom : c < m) (hbig : m ≤ 1000000000)
    (h : ∀ (C : Nat) (cur : List Value) (w' : World), m ≤ C → C ≤ maxLen → RowE w' w.heap.size cur → cur.length = C * 2 → cur.take (i * 2) = olds → (∀ j, j < w.heap.size → w'.heap[j]? = w.heap[j]?) → (∀ B w0, B ≤ w.heap.size → Below B w0 w → Below B w0 w') →
      wpList Try.prog ops Q rest (a.put o.dst (.slice (some ⟨w.heap.size, 0, none⟩) m C)) w') : wpList Try.prog ops Q (o :: rest) a w := by
  subst hm
  obtain ⟨i0, hi, hz0, hz1, hz2⟩ := info_parts infoE
  have hf : (Builtin.firstCells i0.size i (.slice (some ⟨g, 0, none⟩) i c)).run Try.prog w.drew = .ok olds.toArray w.drew := by
    rw [hz1]
    exact run_firstCells_some w.drew 2 i ⟨g, 0, none⟩ i c olds hl (fun j v hj => by rw [add_e, Nat.zero_add]; exact hold j v hj)
  have hr := Lib.run_append_grow_zeros w 22 3 o.type 36 i0 _ .i64 .i64 Try.underlying22 Try.underlying3 hi hz0 (some ⟨g, 0, none⟩) i c olds hf k h0 (by rw [hz1]; decide) hroom (by omega) (by rw [hz2]; omega) (by rw [hz2]; exact growslice_fits hroom (by omega))
  refine Lib.wpList_append_run w hgd s x _ _ ho _ _ hs hx _ _ hr ?_
  obtain ⟨C, hC⟩ : ∃ C, C = grownCap w (i + k) c 36 := ⟨_, rfl⟩
  have hC1 : i + k ≤ C := by rw [hC]; exact grownCap_ge w _ _ _
  have hC2 : C ≤ maxLen := by rw [hC]; exact grownCap_le_maxLen w _ _ _ (by unfold maxLen; omega)
  rw [← hC]
  have hz : ∀ m, (Builtin.zeroCells (Value.agg #[.string ByteArray.empty, .int .i64 0]).cells m).size = m * 2 := fun m => size_zeroCells _ m
  obtain ⟨ROW, hROW⟩ : ∃ ROW : Array Value, ROW = olds.toArray ++ Builtin.zeroCells (Value.agg #[.string ByteArray.empty, .int .i64 0]).cells k ++ Builtin.zeroCells (Value.agg #[.string ByteArray.empty, .int .i64 0]).cells (C - (i + k)) := ⟨_, rfl⟩
  rw [← hROW]
  refine h C ROW.toList _ hC1 hC2 (by unfold RowE; rw [Array.toArray_toList]; exact heap_alloc_new w.drew _) ?_ ?_ (fun j hj => ?_) (fun B w0 hB hb => ?_)
  · rw [hROW, Array.length_toList, Array.size_append, Array.size_append, hz, hz]
    simp [hl]
    omega
  · rw [hROW, ← hl]
    simp
  · exact (((Below.refl w.heap.size w.drew).alloc (Nat.le_refl _) _).block j hj)
  · exact (hb.trans ⟨rfl, rfl, rfl, Nat.le_refl _, fun _ _ => rfl⟩ : Below B w0 w.drew).alloc hB _
/-- The library's overlaps: of two slices in two blocks, no. -/
theorem overlaps_no {w : World} {g vb p : Nat} {cur cv : List Value} (hg : RowE w g cur) (hv : RowE w vb cv) (hne : vb ≠ g) (h0 : cur.length ≠ 0) (l c lb cb : Nat) :
    (callFunc 43 #[.slice (some ⟨vb, 0, none⟩) l c, .slice (some ⟨g, p, none⟩) lb cb]).run Try.prog w = .ok (.value (.bool false)) w := by
  obtain ⟨i0, hi, hz0, hz1, hz2⟩ := info_parts infoE
  have hsz : ∀ w : World, (Go.sizeOf 36).run Try.prog w = .ok 2 w := fun w => by simp [sizeOf, typeInfo, hi, hz1]
  rw [run_callFunc_extern Try.func43 (by kernel_rfl) (by kernel_rfl) (by kernel_rfl) (e := Extern.SlicesOverlaps.overlaps #[22, 22] #[4]) (by kernel_rfl),
    Lib.run_overlaps_apart w 22 4 36 Try.underlying22 2 hsz ⟨vb, 0, none⟩ ⟨g, p, none⟩ l c lb cb hne 36 36 cv.toArray.size cur.toArray.size
      (by unfold World.shape?; rw [show w.heap[vb]? = _ from hv]) (by unfold World.shape?; rw [show w.heap[g]? = _ from hg]) (by simpa using h0) (frozen_of_row w vb _ _ _ hv) (frozen_of_row w vb _ _ _ hv)]
  rfl
end Go.Proofs.Ytiedapiepklhlaa
