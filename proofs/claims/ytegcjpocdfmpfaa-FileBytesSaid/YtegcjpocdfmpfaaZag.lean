/-
  A slice of one payload that is written out.
-/
import Derived.Test.YtegcjpocdfmpfaaZaf
set_option linter.unusedVariables false
set_option linter.unusedSimpArgs false
set_option maxRecDepth 100000
set_option maxHeartbeats 16000000
namespace Go.Proofs.Ytegcjpocdfmpfaa
open Go.RowKit

theorem fold_list : ∀ (l : List Value) (k : Nat) (cs : Array Value), k + l.length = cs.size → (l.zipIdx k).foldl (fun (cs : Array Value) (x : Value × Nat) => cs.setIfInBounds (0 + x.2) x.1) cs = (cs.toList.take k ++ l).toArray
  | [], k, cs, h => by
    have : cs.toList.length = cs.size := by simp
    simp at h
    rw [List.zipIdx_nil, List.foldl_nil, List.append_nil, List.take_of_length_le (by omega)]
  | v :: l, k, cs, h => by
    simp only [List.length_cons] at h
    rw [List.zipIdx_cons, List.foldl_cons]
    dsimp only
    rw [fold_list l (k + 1) _ (by simp; omega), Nat.zero_add]
    congr 1
    have hk : k < cs.toList.length := by simp; omega
    have e : (cs.setIfInBounds k v).toList.take (k + 1) = cs.toList.take k ++ [v] := by
      rw [Array.toList_setIfInBounds]
      apply List.ext_getElem
      · simp at hk ⊢
        omega
      · intro i h1 h2
        simp only [List.getElem_take, List.getElem_set]
        by_cases e : k = i
        · subst e
          rw [if_pos rfl, List.getElem_append_right (by rw [List.length_take]; exact Nat.min_le_left _ _)]
          simp
        · rw [if_neg e, List.getElem_append_left (by simp at h1 hk ⊢; omega)]
          simp
    rw [e, List.append_assoc]
    rfl
theorem fill_one (l cs : Array Value) (h : l.size = cs.size) : (Instr.fill (fun i => some (i * 56, 56)) cs [(0, .agg l)]) = if l.size ≠ 56 then none else some l := by
  unfold Instr.fill
  have hc : (Value.agg l).cells = l := rfl
  simp only [Nat.zero_mul, hc]
  by_cases h56 : l.size = 56
  · have hb : ((decide (l.size ≠ 56)) || (decide (0 + l.size > cs.size))) = false := by
      rw [decide_eq_false (by omega), decide_eq_false (by omega)]; rfl
    rw [if_neg (by rw [hb]; simp), if_neg (by omega)]
    unfold Instr.fill
    congr 1
    rw [← Array.foldl_toList, Array.toList_zipIdx]
    have := fold_list l.toList 0 cs (by simp; omega)
    rw [this]
    simp
  · have hb : ((decide (l.size ≠ 56)) || (decide (0 + l.size > cs.size))) = true := by
      rw [decide_eq_true h56]; rfl
    rw [if_pos (by rw [hb]), if_pos h56]
theorem payParts (w : World) : (sizeOf 132).run Try.prog w = .ok 56 w := by
  obtain ⟨i0, hi, _, hz1, _⟩ := info_parts payInf
  unfold sizeOf
  simp only [Sem.run_bind, typeInfo, run_program, hi, Sem.run_pure, Result.andThen_ok, hz1]
theorem run_bsY {zz : List Int} (h : zz.length = 56) (w : World) : (Instr.buildSlice 126 1 #[(0, payV zz)]).run Try.prog w = .ok (.slice (some ⟨w.heap.size, 0, none⟩) 1 1) (w.alloc (.cells (payC zz) 132 (0, 0))) := by
  have hz := payZero w
  obtain ⟨l, hl⟩ : ∃ l, l = payC zz := ⟨_, rfl⟩
  have hl56 : l.size = 56 := by rw [hl]; exact payC_size h
  have hf : ∀ cs : Array Value, cs.size = 56 → Instr.fill (fun i => some (i * 56, 56)) cs [(0, .agg l)] = some l := fun cs hc => by
    rw [fill_one l cs (by omega), if_neg (by omega)]
  obtain ⟨z0, hz0⟩ : ∃ z, z = payC no56 := ⟨_, rfl⟩
  unfold payV at hz ⊢
  rw [← hl]
  rw [← hz0] at hz
  unfold Instr.buildSlice
  simp only [Sem.run_bind, run_underlying Try.underlying126, Result.andThen_ok, payParts]
  rw [if_neg (by decide), if_neg (by decide)]
  simp only [Sem.run_bind, hz, Result.andThen_ok, Sem.run_pure]
  rw [hf _ (by simp)]
  rfl
theorem wpList_bsY {ops : Array Oper} {rest : List Oper} {o : Oper} {a : Act} {w : World} {Q : Exit → Act → World → Prop} (hw : Region.wanted o (yielded ops a.tmps) = true) (x : Operand) (ho : o.op = .buildSlice 126 1 #[(0, x)]) (zz : List Int) (hx : a.eval x = payV zz) (hl : zz.length = 56)
    (h : wpList Try.prog ops Q rest (a.put o.dst (.slice (some ⟨w.heap.size, 0, none⟩) 1 1)) (w.alloc (.cells (payC zz) 132 (0, 0)))) : wpList Try.prog ops Q (o :: rest) a w :=
  wpList_step fun K hK => by
    rw [if_pos hw]
    unfold Oper.wp execOp
    simp only [ho, List.map_toArray, List.map_cons, List.map_nil, hx, Sem.run_bind, run_bsY hl, Result.andThen_ok, Sem.run_pure]
    exact hK _ _ h
end Go.Proofs.Ytegcjpocdfmpfaa
