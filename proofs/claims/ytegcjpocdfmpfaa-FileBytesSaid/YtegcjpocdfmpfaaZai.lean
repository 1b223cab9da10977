/-
  Trunc, by contract.
-/
import Derived.Test.YtegcjpocdfmpfaaZaf
import Derived.Lib.SliceRun
import Derived.Test.YtegcjpocdfmpfaaZah
import Derived.Test.YtegcjpocdfmpfaaZaa
import Derived.Test.YtegcjpocdfmpfaaZab
set_option linter.unusedVariables false
set_option linter.unusedSimpArgs false
set_option maxRecDepth 100000
set_option maxHeartbeats 16000000
namespace Go.Proofs.Ytegcjpocdfmpfaa
open Go.RowKit

theorem zero_byte (w : World) : (zeroValue 5).run Try.prog w = .ok (.int .u8 0) w := by kernel_rfl
/-- Bytes cleared from a place on. -/
def clY (zs : List Int) (o : Nat) : List Int := zs.take o ++ List.replicate (56 - o) 0
theorem clY_len {zs : List Int} (h : zs.length = 56) {o : Nat} (ho : o ≤ 56) : (clY zs o).length = 56 := by unfold clY; simp; omega
theorem clY_byt {zs : List Int} (h : zs.length = 56) {o : Nat} (ho : o ≤ 56) (i : Nat) : byt (clY zs o) i = if i < o then byt zs i else 0 := by
  unfold clY
  by_cases hi : i < o
  · rw [if_pos hi, byt_app_left (by simp; omega), byt_take hi]
  · rw [if_neg hi]
    obtain ⟨m, hm⟩ : ∃ m, i = (zs.take o).length + m := ⟨i - o, by simp; omega⟩
    rw [hm, byt_app_right, byt_zero]
theorem PyB.put0 {w : World} {g : Nat} {zs : List Int} (h : PyB w g zs) {i : Nat} (hi : i < 56) : PyB (w.setCell ⟨g, i, none⟩ (.int .u8 0)) g (zs.set i 0) ∧ Turn (· = g) w (w.setCell ⟨g, i, none⟩ (.int .u8 0)) := by
  obtain ⟨t, hr⟩ := h.row
  refine ⟨⟨⟨t, ?_⟩, by simp [h.len], fun z hz => ?_⟩, turn_set w g i _⟩
  · rw [heap_setCell_same w g i _ _ _ hr]
    congr 2
    unfold payC
    rw [List.setIfInBounds_toArray, List.map_set]
  · rcases List.mem_or_eq_of_mem_set hz with h1 | rfl
    · exact h.small z h1
    · omega
theorem clear_cells {g : Nat} : ∀ (m o : Nat) (w : World) (zs : List Int), PyB w g zs → o + m ≤ 56 → ∃ zs', PyB (w.setCells g o (List.replicate m (.int .u8 0))) g zs' ∧ (∀ i, byt zs' i = if o ≤ i ∧ i < o + m then 0 else byt zs i) ∧ Turn (· = g) w (w.setCells g o (List.replicate m (.int .u8 0)))
  | 0, o, w, zs, h, ho => ⟨zs, h, fun i => by rw [if_neg (by omega)], Turn.refl _ _⟩
  | m + 1, o, w, zs, h, ho => by
    obtain ⟨h1, t1⟩ := h.put0 (i := o) (by omega)
    obtain ⟨zs', h2, h3, t2⟩ := clear_cells m (o + 1) _ _ h1 (by omega)
    refine ⟨zs', h2, fun i => ?_, t1.trans t2⟩
    rw [h3, byt_set (by rw [h.len]; omega)]
    by_cases e : i = o
    · rw [if_neg (by omega), if_pos e, if_pos (by omega)]
    · by_cases e2 : o + 1 ≤ i ∧ i < o + 1 + m
      · rw [if_pos e2, if_pos (by omega)]
      · rw [if_neg e2, if_neg e, if_neg (by omega)]
theorem run_clearY {w : World} {g : Nat} {zs : List Int} (h : PyB w g zs) (o : Nat) (ho : o < 56) (ty : TypeId) : ∃ w', (Builtin.clear_ #[50] ty #[.slice (some ⟨g, o, none⟩) (56 - o) (56 - o)]).run Try.prog w = .ok (.tuple #[]) w' ∧ PyB w' g (clY zs o) ∧ Turn (· = g) w w' := by
  obtain ⟨t, hr⟩ := h.row
  have hl := h.len
  have hrun := Lib.run_clear_slice (P := Try.prog) w 50 5 ty (.int .u8 0) Try.underlying50 zero_byte rfl rfl g o (56 - o) (56 - o) (by omega) (fun j hj => by rw [h.cell (by omega)]; rfl) (fun j hj => frozen_of_row w g (o + j) _ _ hr)
  obtain ⟨zs', h1, h2, h3⟩ := clear_cells (56 - o) o w zs h (by omega)
  have e : zs' = clY zs o := byt_ext (by rw [h1.len, clY_len hl (by omega)]) fun i hi => by
    rw [h1.len] at hi
    rw [h2, clY_byt hl (by omega)]
    by_cases hio : i < o
    · rw [if_neg (by omega), if_pos hio]
    · rw [if_pos (by omega), if_neg hio]
  rw [e] at h1
  exact ⟨_, hrun, h1, h3⟩

theorem wpList_clY {ops : Array Oper} {rest : List Oper} {o : Oper} {ac : Act} {w : World} {Q : Exit → Act → World → Prop} (hgd : o.guard = none) (d : Operand)
    (ho : o.op = .call { callee := .builtin .clear, args := #[d], argTypes := #[50] }) (g off : Nat) (zs : List Int)
    (hd : ac.eval d = .slice (some ⟨g, off, none⟩) (56 - off) (56 - off)) (hg : PyB w g zs) (ho56 : off < 56)
    (h : ∀ w', PyB w' g (clY zs off) → Turn (· = g) w w' → wpList Try.prog ops Q rest (ac.put o.dst (.tuple #[])) w') : wpList Try.prog ops Q (o :: rest) ac w := by
  obtain ⟨w', hrun, h1, h2⟩ := run_clearY hg off ho56 o.type
  refine wpList_plain hgd fun K hK => ?_
  unfold Oper.wp
  simp [execOp, ho, resolve, invoke, builtin, hd, hrun, Result.andThen]
  exact hK _ _ (h _ h1 h2)
theorem fit_cut {X : Nat → List Int} (hf : ∀ k, X k = [] ∨ ((X k).length = 56 ∧ AllB (X k))) (n m k : Nat) : cutF [] X n m k = [] ∨ ((cutF [] X n m k).length = 56 ∧ AllB (cutF [] X n m k)) := by
  unfold cutF
  split
  · exact .inl rfl
  · exact hf k
/-- A file's new blocks behind a Trunc. -/
def trX (X : Nat → List Int) (s n : Nat) : Nat → List Int := cutF [] (if n < s ∧ 0 < n % 56 then upd X (n / 56) (bnO (clY (blkC X (n / 56)) (n % 56))) else X) ((n + 55) / 56) 828
/-- What Trunc leaves. -/
def TrP (w : World) (b s p : Nat) (fr : Value) (T D : Nat → Prop) (A : Nat → Int) (X : Nat → List Int) (n : Nat) (e : Ending) (w' : World) : Prop :=
  ∃ er, e = .returned (.int .i64 er) ∧ (er = 0 ∨ er = 14) ∧ ((∀ k, A k = 0) → er = 0) ∧ (er = 14 → Below w.heap.size w w') ∧
    (er = 0 → ∃ T' D' A' X', FlAt w' b n p fr T' D' A' X' ∧ (∀ j, T' j → T j ∨ w.heap.size ≤ j) ∧ (∀ j, D' j → D j ∨ w.heap.size ≤ j) ∧ Turn (fun j => T j ∨ j = b ∨ w.heap.size ≤ j) w w' ∧ ((∀ k, A k = 0) → (∀ k, A' k = 0) ∧ X' = trX X s n))
theorem ftrunc_main {w : World} {b s p : Nat} {fr : Value} {T D : Nat → Prop} {A : Nat → Int} {X : Nat → List Int} (h : FlAt w b s p fr T D A X) (hs : Src w fr A) (n : Nat) (hn : n ≤ 46368) :
    Calls Try.prog 33 #[.pointer (some ⟨b, 0, none⟩), .int .i64 (n : Int)] w (TrP w b s p fr T D A X n) := by
  have HF := Lib.hid h
  have HS := Lib.hid hs
  have HNN := Lib.hid hn
  have hc := fisSize_any (n : Int) w
  rw [decide_eq_true (by omega : (0 : Int) ≤ (n : Int)), decide_eq_true (by omega : (n : Int) ≤ 46368)] at hc
  have HC := Lib.hid hc
  obtain ⟨kk, hkk⟩ : ∃ kk, kk = n / 56 := ⟨_, rfl⟩
  obtain ⟨rr, hrr⟩ : ∃ rr, rr = n % 56 := ⟨_, rfl⟩
  have z1 : (n : Int).tdiv 56 = (kk : Int) := by rw [Int.tdiv_eq_ediv_of_nonneg (by omega)]; omega
  have z2 : (n : Int).tmod 56 = (rr : Int) := by rw [Int.tmod_eq_emod_of_nonneg (by omega)]; omega
  have z3 : IntKind.i64.wrap (kk : Int) = (kk : Int) := IntWalk.i64_in _ (by omega)
  have HKK := Lib.hid hkk
  have HRR := Lib.hid hrr
  have HTQ := Lib.hid (show Turn (fun j => T j ∨ j = b ∨ w.heap.size ≤ j) w w from Turn.refl _ _)
  have HBQ := Lib.hid (Nat.le_refl w.heap.size)
  clear h hs hn hc hkk hrr
  obtain ⟨c0, c1, c2, l0, f0⟩ := HF.out.cells
  clear c1 c2 l0 f0
  by_cases hlt : s ≤ n
  · have k1 : ¬ (n : Int) < (s : Int) := by omega
    go_enter Try.func33, Try.ntmps33
    go_wp2_with (fail)
    refine HC.out.mono ?_
    rintro e w2 ⟨rfl, rfl⟩
    go_upto_region 9 with fail
    clear c0 z1 z2 z3 k1
    obtain ⟨c0, c1, c2, l0, f0⟩ := HF.out.cells
    clear c0 c2 l0 f0
    go_upto_region 10 with fail
    refine wp_region_held_drew (S := (fun w' => w'.cell? ⟨b, 1, none⟩ = some (.pointer (some ⟨p, 0, none⟩)))) (by kernel_rfl) c1 (fun hHeld => ?_)
    refine wpAnyH_take (i := 0) (v := ?_) rfl (by kernel_rfl) (by kernel_rfl) (by kernel_rfl) (fun _ _ _ h => h) (Or.inl ⟨by rfl, fun w hSw => ?_⟩) (by assumption) ?_
    rotate_left
    · (try dsimp only at hSw); go_simp; try with_reducible rfl
    simp only [Act.put, List.setIfInBounds_toArray, List.set_cons_zero, List.set_cons_succ, List.getElem_toArray, List.getElem_cons_zero]
    refine wpAnyH_take (i := 1) (v := ?_) rfl (by kernel_rfl) (by kernel_rfl) (by kernel_rfl) (fun _ _ _ h => h) (Or.inl ⟨by rfl, fun w hSw => ?_⟩) (by assumption) ?_
    rotate_left
    · (try dsimp only at hSw); go_simp; try with_reducible rfl
    simp only [Act.put, List.setIfInBounds_toArray, List.set_cons_zero, List.set_cons_succ, List.getElem_toArray, List.getElem_cons_succ, List.getElem_cons_zero]
    refine wpAnyH_take (i := 2) (v := ?_) rfl (by kernel_rfl) (by kernel_rfl) (by kernel_rfl) (fun _ _ _ h => h) (Or.inl ⟨by rfl, fun w hSw => ?_⟩) (by assumption) ?_
    rotate_left
    · (try dsimp only at hSw); go_simp; try with_reducible rfl
    simp only [Act.put, List.setIfInBounds_toArray, List.set_cons_zero, List.set_cons_succ, List.getElem_toArray, List.getElem_cons_succ, List.getElem_cons_zero]
    refine wpAnyH_take (i := 3) (v := ?_) rfl (by kernel_rfl) (by kernel_rfl) (by kernel_rfl) (fun _ _ _ h => h) (Or.inl ⟨by rfl, fun w hSw => ?_⟩) (by assumption) ?_
    rotate_left
    · (try dsimp only at hSw); go_simp; try with_reducible rfl
    simp only [Act.put, List.setIfInBounds_toArray, List.set_cons_zero, List.set_cons_succ, List.getElem_toArray, List.getElem_cons_succ, List.getElem_cons_zero]
    refine wpAnyH_take (i := 4) (v := ?_) rfl (by kernel_rfl) (by kernel_rfl) (by kernel_rfl) (fun _ _ _ h => h) (Or.inl ⟨by rfl, fun w hSw => ?_⟩) (by assumption) ?_
    rotate_left
    · (try dsimp only at hSw); go_simp; try with_reducible rfl
    simp only [Act.put, List.setIfInBounds_toArray, List.set_cons_zero, List.set_cons_succ, List.getElem_toArray, List.getElem_cons_succ, List.getElem_cons_zero]
    refine wpAnyH_ready (rs := [5]) (by kernel_rfl) (by simp) ?_
    refine AllReadyH.cons rfl (fun K hK => ?_) AllReadyH.nil
    simp only [List.getElem_toArray, List.getElem_cons_succ, List.getElem_cons_zero]
    go_simp
    refine (iblocks_any n HNN.out _).mono ?_
    rintro e w5 ⟨rfl, rfl⟩
    obtain ⟨B, hB⟩ : ∃ B, B = (n + 55) / 56 := ⟨_, rfl⟩
    rw [← hB]
    have HBB := Lib.hid hB
    clear hB
    go_wp2_with (fail)
    refine hK.out _ _ c1 (fun hHeld => ?_)
    clear hK K
    refine wpAnyH_ready (rs := [6]) (by kernel_rfl) (by simp) ?_
    refine AllReadyH.cons rfl (fun K hK => ?_) AllReadyH.nil
    simp only [List.getElem_toArray, List.getElem_cons_succ, List.getElem_cons_zero]
    go_simp
    have hdr : Below w.heap.size w w.drew := below_drewN (Below.refl _ _) 1
    refine (pmp_ok.cut (pmp_ok.next HF.out.mp hdr) (B : Int) (WalkArith.wf_i64 (by have := HBB.out; have := HNN.out; omega))).mono ?_
    rintro e w6 ⟨rfl, ht6, T2, D2, hP, hT2, hD2⟩
    have hnb : ¬ T b := fun h => HF.out.nb (pmp_ok.td HF.out.mp _ h)
    have hdr2 : w.drew.heap[b]? = some (.cells #[.int .i64 (s : Int), .pointer (some ⟨p, 0, none⟩), fr] 125 (0, 0)) := HF.out.row
    have hr6 := (ht6.block b (lt_of_block hdr2) hnb).trans hdr2
    have c1' := cell_of_row w6 b 1 _ _ (0, 0) hr6
    have c0 := cell_of_row w6 b 0 _ _ (0, 0) hr6
    have f0 := frozen_of_row w6 b 0 _ _ hr6
    have l0 := lt_of_block hr6
    simp only [List.getElem?_toArray, List.getElem?_cons_zero, List.getElem?_cons_succ] at c0 c1'
    have HR6 := Lib.hid hr6
    have HP6 := Lib.hid hP
    have hbw : b < w.heap.size := lt_of_block HF.out.row
    have hszd : w.drew.heap.size = w.heap.size := rfl
    have HT2 := Lib.hid (show ∀ j, T2 j → T j ∨ w.heap.size ≤ j from hT2)
    have HD2 := Lib.hid (show ∀ j, D2 j → D j ∨ w.heap.size ≤ j from hD2)
    have HTT := Lib.hid (show Turn T w w6 from (Turn.of_below hdr).trans ht6)
    have HNB2 := Lib.hid (show ¬ D2 b from fun h => by
      rcases hD2 b h with h1 | h1
      · exact HF.out.nb h1
      · have h2 : w.heap.size ≤ b := h1; omega)
    clear ht6 hP hT2 hD2 hdr hdr2 hr6 hnb hszd hbw
    go_wp2_with (fail)
    refine hK.out _ _ c1' (fun hHeld => ?_)
    clear hK K
    refine wpAnyH_done (by kernel_rfl) ?_ _
    clear hHeld c1 c1'
    go_wp2_with (fail)
    go_ret
    have ht : Turn (fun j => j = b) w6 (w6.setCell ⟨b, 0, none⟩ (.int .i64 (n : Int))) := Turn.setCell (M := fun j => j = b) w6 (a := ⟨b, 0, none⟩) rfl _
    refine ⟨0, rfl, .inl rfl, fun _ => rfl, fun h => absurd h (by decide), fun _ => ⟨T2, D2, _, _, ⟨?_, pmp_ok.turn HP6.out ht (fun j hj e => HNB2.out (e ▸ hj)), HNB2.out, HNN.out, fit_cut HF.out.fit _ _⟩, fun j hj => ?_, fun j hj => ?_, ?_, fun h => ⟨fun k => ?_, ?_⟩⟩⟩
    · rw [heap_setCell_same w6 b 0 _ _ _ HR6.out]; rfl
    · rcases HT2.out j hj with h1 | h1
      · exact .inl h1
      · have := HBQ.out; exact .inr (by omega)
    · rcases HD2.out j hj with h1 | h1
      · exact .inl h1
      · have := HBQ.out; exact .inr (by omega)
    · refine (HTQ.out.trans (HTT.out.mono fun j hj => .inl hj)).trans (ht.mono fun j hj => .inr (.inl hj))
    · unfold cutF; split
      · rfl
      · exact h k
    · unfold trX
      rw [if_neg (by omega), HBB.out]
      congr 1
  by_cases hrm : rr = 0
  · have k1 : (n : Int) < (s : Int) := by omega
    have k2 : ¬ (0 : Int) < (rr : Int) := by omega
    have HLT := Lib.hid hlt
    have HRM := Lib.hid hrm
    go_enter Try.func33, Try.ntmps33
    go_wp2_with (fail)
    refine HC.out.mono ?_
    rintro e w2 ⟨rfl, rfl⟩
    go_upto_region 9 with fail
    clear c0 z1 z2 z3 k1 k2 hrm
    obtain ⟨c0, c1, c2, l0, f0⟩ := HF.out.cells
    clear c0 c2 l0 f0
    go_upto_region 10 with fail
    refine wp_region_held_drew (S := (fun w' => w'.cell? ⟨b, 1, none⟩ = some (.pointer (some ⟨p, 0, none⟩)))) (by kernel_rfl) c1 (fun hHeld => ?_)
    refine wpAnyH_take (i := 0) (v := ?_) rfl (by kernel_rfl) (by kernel_rfl) (by kernel_rfl) (fun _ _ _ h => h) (Or.inl ⟨by rfl, fun w hSw => ?_⟩) (by assumption) ?_
    rotate_left
    · (try dsimp only at hSw); go_simp; try with_reducible rfl
    simp only [Act.put, List.setIfInBounds_toArray, List.set_cons_zero, List.set_cons_succ, List.getElem_toArray, List.getElem_cons_zero]
    refine wpAnyH_take (i := 1) (v := ?_) rfl (by kernel_rfl) (by kernel_rfl) (by kernel_rfl) (fun _ _ _ h => h) (Or.inl ⟨by rfl, fun w hSw => ?_⟩) (by assumption) ?_
    rotate_left
    · (try dsimp only at hSw); go_simp; try with_reducible rfl
    simp only [Act.put, List.setIfInBounds_toArray, List.set_cons_zero, List.set_cons_succ, List.getElem_toArray, List.getElem_cons_succ, List.getElem_cons_zero]
    refine wpAnyH_take (i := 2) (v := ?_) rfl (by kernel_rfl) (by kernel_rfl) (by kernel_rfl) (fun _ _ _ h => h) (Or.inl ⟨by rfl, fun w hSw => ?_⟩) (by assumption) ?_
    rotate_left
    · (try dsimp only at hSw); go_simp; try with_reducible rfl
    simp only [Act.put, List.setIfInBounds_toArray, List.set_cons_zero, List.set_cons_succ, List.getElem_toArray, List.getElem_cons_succ, List.getElem_cons_zero]
    refine wpAnyH_take (i := 3) (v := ?_) rfl (by kernel_rfl) (by kernel_rfl) (by kernel_rfl) (fun _ _ _ h => h) (Or.inl ⟨by rfl, fun w hSw => ?_⟩) (by assumption) ?_
    rotate_left
    · (try dsimp only at hSw); go_simp; try with_reducible rfl
    simp only [Act.put, List.setIfInBounds_toArray, List.set_cons_zero, List.set_cons_succ, List.getElem_toArray, List.getElem_cons_succ, List.getElem_cons_zero]
    refine wpAnyH_take (i := 4) (v := ?_) rfl (by kernel_rfl) (by kernel_rfl) (by kernel_rfl) (fun _ _ _ h => h) (Or.inl ⟨by rfl, fun w hSw => ?_⟩) (by assumption) ?_
    rotate_left
    · (try dsimp only at hSw); go_simp; try with_reducible rfl
    simp only [Act.put, List.setIfInBounds_toArray, List.set_cons_zero, List.set_cons_succ, List.getElem_toArray, List.getElem_cons_succ, List.getElem_cons_zero]
    refine wpAnyH_ready (rs := [5]) (by kernel_rfl) (by simp) ?_
    refine AllReadyH.cons rfl (fun K hK => ?_) AllReadyH.nil
    simp only [List.getElem_toArray, List.getElem_cons_succ, List.getElem_cons_zero]
    go_simp
    refine (iblocks_any n HNN.out _).mono ?_
    rintro e w5 ⟨rfl, rfl⟩
    obtain ⟨B, hB⟩ : ∃ B, B = (n + 55) / 56 := ⟨_, rfl⟩
    rw [← hB]
    have HBB := Lib.hid hB
    clear hB
    go_wp2_with (fail)
    refine hK.out _ _ c1 (fun hHeld => ?_)
    clear hK K
    refine wpAnyH_ready (rs := [6]) (by kernel_rfl) (by simp) ?_
    refine AllReadyH.cons rfl (fun K hK => ?_) AllReadyH.nil
    simp only [List.getElem_toArray, List.getElem_cons_succ, List.getElem_cons_zero]
    go_simp
    have hdr : Below w.heap.size w w.drew := below_drewN (Below.refl _ _) 1
    refine (pmp_ok.cut (pmp_ok.next HF.out.mp hdr) (B : Int) (WalkArith.wf_i64 (by have := HBB.out; have := HNN.out; omega))).mono ?_
    rintro e w6 ⟨rfl, ht6, T2, D2, hP, hT2, hD2⟩
    have hnb : ¬ T b := fun h => HF.out.nb (pmp_ok.td HF.out.mp _ h)
    have hdr2 : w.drew.heap[b]? = some (.cells #[.int .i64 (s : Int), .pointer (some ⟨p, 0, none⟩), fr] 125 (0, 0)) := HF.out.row
    have hr6 := (ht6.block b (lt_of_block hdr2) hnb).trans hdr2
    have c1' := cell_of_row w6 b 1 _ _ (0, 0) hr6
    have c0 := cell_of_row w6 b 0 _ _ (0, 0) hr6
    have f0 := frozen_of_row w6 b 0 _ _ hr6
    have l0 := lt_of_block hr6
    simp only [List.getElem?_toArray, List.getElem?_cons_zero, List.getElem?_cons_succ] at c0 c1'
    have HR6 := Lib.hid hr6
    have HP6 := Lib.hid hP
    have hbw : b < w.heap.size := lt_of_block HF.out.row
    have hszd : w.drew.heap.size = w.heap.size := rfl
    have HT2 := Lib.hid (show ∀ j, T2 j → T j ∨ w.heap.size ≤ j from hT2)
    have HD2 := Lib.hid (show ∀ j, D2 j → D j ∨ w.heap.size ≤ j from hD2)
    have HTT := Lib.hid (show Turn T w w6 from (Turn.of_below hdr).trans ht6)
    have HNB2 := Lib.hid (show ¬ D2 b from fun h => by
      rcases hD2 b h with h1 | h1
      · exact HF.out.nb h1
      · have h2 : w.heap.size ≤ b := h1; omega)
    clear ht6 hP hT2 hD2 hdr hdr2 hr6 hnb hszd hbw
    go_wp2_with (fail)
    refine hK.out _ _ c1' (fun hHeld => ?_)
    clear hK K
    refine wpAnyH_done (by kernel_rfl) ?_ _
    clear hHeld c1 c1'
    go_wp2_with (fail)
    go_ret
    have ht : Turn (fun j => j = b) w6 (w6.setCell ⟨b, 0, none⟩ (.int .i64 (n : Int))) := Turn.setCell (M := fun j => j = b) w6 (a := ⟨b, 0, none⟩) rfl _
    refine ⟨0, rfl, .inl rfl, fun _ => rfl, fun h => absurd h (by decide), fun _ => ⟨T2, D2, _, _, ⟨?_, pmp_ok.turn HP6.out ht (fun j hj e => HNB2.out (e ▸ hj)), HNB2.out, HNN.out, fit_cut HF.out.fit _ _⟩, fun j hj => ?_, fun j hj => ?_, ?_, fun h => ⟨fun k => ?_, ?_⟩⟩⟩
    · rw [heap_setCell_same w6 b 0 _ _ _ HR6.out]; rfl
    · rcases HT2.out j hj with h1 | h1
      · exact .inl h1
      · have := HBQ.out; exact .inr (by omega)
    · rcases HD2.out j hj with h1 | h1
      · exact .inl h1
      · have := HBQ.out; exact .inr (by omega)
    · refine (HTQ.out.trans (HTT.out.mono fun j hj => .inl hj)).trans (ht.mono fun j hj => .inr (.inl hj))
    · unfold cutF; split
      · rfl
      · exact h k
    · unfold trX
      rw [if_neg (by have := HRM.out; have := HRR.out; omega), HBB.out]
      congr 1
  · have k1 : (n : Int) < (s : Int) := by omega
    have k2 : (0 : Int) < (rr : Int) := by omega
    have HLT := Lib.hid (show n < s by omega)
    have HRM := Lib.hid (show 0 < n % 56 by have := HRR.out; omega)
    have HK8 := Lib.hid (show kk < 828 by have := HF.out.sz; have := HKK.out; omega)
    have hr56 : rr < 56 := by have := HRR.out; omega
    have HR56 := Lib.hid hr56
    clear hrm hlt hr56
    go_enter Try.func33, Try.ntmps33
    go_wp2_with (fail)
    refine HC.out.mono ?_
    rintro e w2 ⟨rfl, rfl⟩
    go_wp2_with (fail)
    refine (fby_any HF.out HS.out kk HK8.out).mono ?_
    rintro e w4 ⟨er, z, rfl, hl, hsm, her, hns, hb⟩
    have HB4 := Lib.hid hb
    have HZ := Lib.hid (And.intro hl (And.intro hsm hns))
    clear hb hl hsm hns c0 z1 z2 z3 k1 k2
    go_upto_region 6 with (first
      | (refine wpList_alY (by rfl) rfl ?_; intro w5 hw5 hy5 hb5; clear hw5)
      | (refine wpList_stY (by rfl) (.tmp 7) (.tmp 30) rfl w4.heap.size rfl no56 z rfl hy5 HZ.out.1 HZ.out.2.1 ?_; intro w6 hy6 ht6)
      | fail)
    have hb6 : Below w4.heap.size w4 w6 := below_of_turn hb5 (Nat.le_refl _) ht6
    have HY6 := Lib.hid hy6
    have HB6 := Lib.hid (HB4.out.trans (hb6.mono HB4.out.size))
    obtain ⟨bz, hbz⟩ : ∃ b, b = w4.heap.size := ⟨_, rfl⟩
    have HBZ := Lib.hid (show w.heap.size ≤ bz by rw [hbz]; exact HB4.out.size)
    rw [← hbz] at HY6 ⊢
    clear hy5 hb5 hy6 ht6 hb6 hbz
    rcases her with rfl | rfl
    case inr =>
      go_wp2_with (fail)
      go_ret
      exact ⟨14, rfl, .inr rfl, fun h => absurd (HZ.out.2.2 h).1 (by decide), fun _ => HB6.out, fun h => absurd h (by decide)⟩
    have hsl := run_slY_l bz rr HR56.out
    go_upto_region 9 with (first
      | (refine wpList_clY rfl (.tmp 36) rfl bz rr z rfl HY6.out HR56.out ?_; intro w7 hy7 ht7)
      | fail)
    have HY7 := Lib.hid hy7
    have HB7 := Lib.hid (below_of_turn HB6.out HBZ.out ht7)
    have HF7 := Lib.hid (HF.out.next HB7.out)
    clear hsl hy7 ht7
    have hsl := run_slY bz
    have c1 := HF7.out.cells.2.1
    refine wp_region_held_drew (S := (fun w' => w'.cell? ⟨b, 1, none⟩ = some (.pointer (some ⟨p, 0, none⟩)))) (by kernel_rfl) c1 (fun hHeld => ?_)
    refine wpAnyH_take (i := 0) (v := ?_) rfl (by kernel_rfl) (by kernel_rfl) (by kernel_rfl) (fun _ _ _ h => h) (Or.inl ⟨by rfl, fun w hSw => ?_⟩) (by assumption) ?_
    rotate_left
    · (try dsimp only at hSw); go_simp; try with_reducible rfl
    simp only [Act.put, List.setIfInBounds_toArray, List.set_cons_zero, List.set_cons_succ, List.getElem_toArray, List.getElem_cons_zero]
    refine wpAnyH_take (i := 1) (v := ?_) rfl (by kernel_rfl) (by kernel_rfl) (by kernel_rfl) (fun _ _ _ h => h) (Or.inl ⟨by rfl, fun w hSw => ?_⟩) (by assumption) ?_
    rotate_left
    · (try dsimp only at hSw); go_simp; try with_reducible rfl
    simp only [Act.put, List.setIfInBounds_toArray, List.set_cons_zero, List.set_cons_succ, List.getElem_toArray, List.getElem_cons_succ, List.getElem_cons_zero]
    refine wpAnyH_take (i := 2) (v := ?_) rfl (by kernel_rfl) (by kernel_rfl) (by kernel_rfl) (fun _ _ _ h => h) (Or.inl ⟨by rfl, fun w hSw => ?_⟩) (by assumption) ?_
    rotate_left
    · (try dsimp only at hSw); go_simp; try with_reducible rfl
    simp only [Act.put, List.setIfInBounds_toArray, List.set_cons_zero, List.set_cons_succ, List.getElem_toArray, List.getElem_cons_succ, List.getElem_cons_zero]
    refine wpAnyH_take (i := 3) (v := ?_) rfl (by kernel_rfl) (by kernel_rfl) (by kernel_rfl) (fun _ _ _ h => h) (Or.inl ⟨by rfl, fun w hSw => ?_⟩) (by assumption) ?_
    rotate_left
    · (try dsimp only at hSw); go_simp; try with_reducible rfl
    simp only [Act.put, List.setIfInBounds_toArray, List.set_cons_zero, List.set_cons_succ, List.getElem_toArray, List.getElem_cons_succ, List.getElem_cons_zero]
    refine wpAnyH_take (i := 4) (v := ?_) rfl (by kernel_rfl) (by kernel_rfl) (by kernel_rfl) (fun _ _ _ h => h) (Or.inl ⟨by rfl, fun w hSw => ?_⟩) (by assumption) ?_
    rotate_left
    · (try dsimp only at hSw); go_simp; try with_reducible rfl
    simp only [Act.put, List.setIfInBounds_toArray, List.set_cons_zero, List.set_cons_succ, List.getElem_toArray, List.getElem_cons_succ, List.getElem_cons_zero]
    refine wpAnyH_take (i := 5) (v := ?_) rfl (by kernel_rfl) (by kernel_rfl) (by kernel_rfl) (fun _ _ _ h => h) (Or.inl ⟨by rfl, fun w hSw => ?_⟩) (by assumption) ?_
    rotate_left
    · (try dsimp only at hSw); go_simp; try with_reducible rfl
    simp only [Act.put, List.setIfInBounds_toArray, List.set_cons_zero, List.set_cons_succ, List.getElem_toArray, List.getElem_cons_succ, List.getElem_cons_zero]
    refine wpAnyH_ready (rs := [6]) (by kernel_rfl) (by simp) ?_
    refine AllReadyH.cons rfl (fun K hK => ?_) AllReadyH.nil
    simp only [List.getElem_toArray, List.getElem_cons_succ, List.getElem_cons_zero]
    go_simp
    obtain ⟨zc, hzc⟩ : ∃ zc, zc = clY z rr := ⟨_, rfl⟩
    have HZC := Lib.hid hzc
    rw [← hzc] at HY7
    clear hzc
    have hpo : puO (kk : Int) zc = true := by
      unfold puO
      rw [inK_iff.2 (by have := HK8.out; omega), decide_eq_true HY7.out.len]
      rfl
    have HPO := Lib.hid hpo
    have hdr : Below w7.heap.size w7 w7.drew := below_drewN (Below.refl _ _) 1
    refine (pmp_ok.put (pmp_ok.next HF7.out.mp hdr) (kk : Int) (some ⟨bz, 0, none⟩) 56 56 zc (HY7.out.next hdr).all (fun _ y e ht => ?_)).mono ?_
    · cases e
      have h2 := pmp_ok.td HF.out.mp _ ht
      have h3 := pmp_ok.lt HF.out.mp _ h2
      have := HBZ.out
      exact Nat.lt_irrefl _ (Nat.lt_of_lt_of_le h3 this)
    rintro e w8 ⟨rfl, ht8, T1, D1, hP8, hT8, hD8⟩
    rw [HPO.out, if_pos rfl, if_pos rfl, Int.toNat_natCast] at hP8
    have hnb : ¬ T b := fun h => HF.out.nb (pmp_ok.td HF.out.mp _ h)
    have hdr2 : w7.drew.heap[b]? = some (.cells #[.int .i64 (s : Int), .pointer (some ⟨p, 0, none⟩), fr] 125 (0, 0)) := HF7.out.row
    have hr8 := (ht8.block b (lt_of_block hdr2) hnb).trans hdr2
    have hsz : w.heap.size ≤ w7.heap.size := HB7.out.size
    have hbl : b < w.heap.size := lt_of_block HF.out.row
    have HTS := Lib.hid (show (∀ j, T1 j → T j ∨ w.heap.size ≤ j) ∧ (∀ j, D1 j → D j ∨ w.heap.size ≤ j) from ⟨fun j h => by
      rcases hT8 j h with h1 | h1
      · exact .inl h1
      · have h2 : w7.heap.size ≤ j := h1; exact .inr (by omega), fun j h => by
      rcases hD8 j h with h1 | h1
      · exact .inl h1
      · have h2 : w7.heap.size ≤ j := h1; exact .inr (by omega)⟩)
    have HF8 := Lib.hid (show FlAt w8 b s p fr T1 D1 (upd A kk 0) (upd X kk (bnO zc)) from ⟨hr8, hP8, fun h => (by
      rcases hD8 b h with h1 | h1
      · exact HF.out.nb h1
      · have h2 : w7.heap.size ≤ b := h1; omega), HF.out.sz, fun k => (by
      unfold upd bnO
      split
      · split
        · exact .inl rfl
        · exact .inr ⟨HY7.out.len, HY7.out.small⟩
      · exact HF.out.fit k)⟩)
    clear HTQ HBQ
    have HTQ := Lib.hid (show Turn (fun j => T j ∨ j = b ∨ w.heap.size ≤ j) w w8 from ((Turn.of_below HB7.out).trans (Turn.of_below hdr)).trans (ht8.mono fun j h => .inl h))
    have HBQ := Lib.hid (show w.heap.size ≤ w8.heap.size from HTQ.out.size)
    have c1' := HF8.out.cells.2.1
    clear ht8 hP8 hT8 hD8 hnb hdr2 hr8 hsz hbl hpo hdr hsl
    rw [HPO.out, if_pos rfl]
    rw [HZC.out] at HF8
    go_wp2_with (fail)
    refine hK.out _ _ c1' (fun hHeld => ?_)
    clear hK K
    refine wpAnyH_done (by kernel_rfl) ?_ _
    clear hHeld c1 c1'
    obtain ⟨c0, c1, c2, l0, f0⟩ := HF8.out.cells
    clear c0 c2 l0 f0
    go_upto_region 10 with fail
    refine wp_region_held_drew (S := (fun w' => w'.cell? ⟨b, 1, none⟩ = some (.pointer (some ⟨p, 0, none⟩)))) (by kernel_rfl) c1 (fun hHeld => ?_)
    refine wpAnyH_take (i := 0) (v := ?_) rfl (by kernel_rfl) (by kernel_rfl) (by kernel_rfl) (fun _ _ _ h => h) (Or.inl ⟨by rfl, fun w hSw => ?_⟩) (by assumption) ?_
    rotate_left
    · (try dsimp only at hSw); go_simp; try with_reducible rfl
    simp only [Act.put, List.setIfInBounds_toArray, List.set_cons_zero, List.set_cons_succ, List.getElem_toArray, List.getElem_cons_zero]
    refine wpAnyH_take (i := 1) (v := ?_) rfl (by kernel_rfl) (by kernel_rfl) (by kernel_rfl) (fun _ _ _ h => h) (Or.inl ⟨by rfl, fun w hSw => ?_⟩) (by assumption) ?_
    rotate_left
    · (try dsimp only at hSw); go_simp; try with_reducible rfl
    simp only [Act.put, List.setIfInBounds_toArray, List.set_cons_zero, List.set_cons_succ, List.getElem_toArray, List.getElem_cons_succ, List.getElem_cons_zero]
    refine wpAnyH_take (i := 2) (v := ?_) rfl (by kernel_rfl) (by kernel_rfl) (by kernel_rfl) (fun _ _ _ h => h) (Or.inl ⟨by rfl, fun w hSw => ?_⟩) (by assumption) ?_
    rotate_left
    · (try dsimp only at hSw); go_simp; try with_reducible rfl
    simp only [Act.put, List.setIfInBounds_toArray, List.set_cons_zero, List.set_cons_succ, List.getElem_toArray, List.getElem_cons_succ, List.getElem_cons_zero]
    refine wpAnyH_take (i := 3) (v := ?_) rfl (by kernel_rfl) (by kernel_rfl) (by kernel_rfl) (fun _ _ _ h => h) (Or.inl ⟨by rfl, fun w hSw => ?_⟩) (by assumption) ?_
    rotate_left
    · (try dsimp only at hSw); go_simp; try with_reducible rfl
    simp only [Act.put, List.setIfInBounds_toArray, List.set_cons_zero, List.set_cons_succ, List.getElem_toArray, List.getElem_cons_succ, List.getElem_cons_zero]
    refine wpAnyH_take (i := 4) (v := ?_) rfl (by kernel_rfl) (by kernel_rfl) (by kernel_rfl) (fun _ _ _ h => h) (Or.inl ⟨by rfl, fun w hSw => ?_⟩) (by assumption) ?_
    rotate_left
    · (try dsimp only at hSw); go_simp; try with_reducible rfl
    simp only [Act.put, List.setIfInBounds_toArray, List.set_cons_zero, List.set_cons_succ, List.getElem_toArray, List.getElem_cons_succ, List.getElem_cons_zero]
    refine wpAnyH_ready (rs := [5]) (by kernel_rfl) (by simp) ?_
    refine AllReadyH.cons rfl (fun K hK => ?_) AllReadyH.nil
    simp only [List.getElem_toArray, List.getElem_cons_succ, List.getElem_cons_zero]
    go_simp
    refine (iblocks_any n HNN.out _).mono ?_
    rintro e w5 ⟨rfl, rfl⟩
    obtain ⟨B, hB⟩ : ∃ B, B = (n + 55) / 56 := ⟨_, rfl⟩
    rw [← hB]
    have HBB := Lib.hid hB
    clear hB
    go_wp2_with (fail)
    refine hK.out _ _ c1 (fun hHeld => ?_)
    clear hK K
    refine wpAnyH_ready (rs := [6]) (by kernel_rfl) (by simp) ?_
    refine AllReadyH.cons rfl (fun K hK => ?_) AllReadyH.nil
    simp only [List.getElem_toArray, List.getElem_cons_succ, List.getElem_cons_zero]
    go_simp
    have hdr : Below w8.heap.size w8 w8.drew := below_drewN (Below.refl _ _) 1
    refine (pmp_ok.cut (pmp_ok.next HF8.out.mp hdr) (B : Int) (WalkArith.wf_i64 (by have := HBB.out; have := HNN.out; omega))).mono ?_
    rintro e w6 ⟨rfl, ht6, T2, D2, hP, hT2, hD2⟩
    have hnb : ¬ T1 b := fun h => HF8.out.nb (pmp_ok.td HF8.out.mp _ h)
    have hdr2 : w8.drew.heap[b]? = some (.cells #[.int .i64 (s : Int), .pointer (some ⟨p, 0, none⟩), fr] 125 (0, 0)) := HF8.out.row
    have hr6 := (ht6.block b (lt_of_block hdr2) hnb).trans hdr2
    have c1' := cell_of_row w6 b 1 _ _ (0, 0) hr6
    have c0 := cell_of_row w6 b 0 _ _ (0, 0) hr6
    have f0 := frozen_of_row w6 b 0 _ _ hr6
    have l0 := lt_of_block hr6
    simp only [List.getElem?_toArray, List.getElem?_cons_zero, List.getElem?_cons_succ] at c0 c1'
    have HR6 := Lib.hid hr6
    have HP6 := Lib.hid hP
    have hbw : b < w8.heap.size := lt_of_block HF8.out.row
    have hszd : w8.drew.heap.size = w8.heap.size := rfl
    have HT2 := Lib.hid (show ∀ j, T2 j → T1 j ∨ w8.heap.size ≤ j from hT2)
    have HD2 := Lib.hid (show ∀ j, D2 j → D1 j ∨ w8.heap.size ≤ j from hD2)
    have HTT := Lib.hid (show Turn T1 w8 w6 from (Turn.of_below hdr).trans ht6)
    have HNB2 := Lib.hid (show ¬ D2 b from fun h => by
      rcases hD2 b h with h1 | h1
      · exact HF8.out.nb h1
      · have h2 : w8.heap.size ≤ b := h1; omega)
    clear ht6 hP hT2 hD2 hdr hdr2 hr6 hnb hszd hbw
    go_wp2_with (fail)
    refine hK.out _ _ c1' (fun hHeld => ?_)
    clear hK K
    refine wpAnyH_done (by kernel_rfl) ?_ _
    clear hHeld c1 c1'
    go_wp2_with (fail)
    go_ret
    have ht : Turn (fun j => j = b) w6 (w6.setCell ⟨b, 0, none⟩ (.int .i64 (n : Int))) := Turn.setCell (M := fun j => j = b) w6 (a := ⟨b, 0, none⟩) rfl _
    refine ⟨0, rfl, .inl rfl, fun _ => rfl, fun h => absurd h (by decide), fun _ => ⟨T2, D2, _, _, ⟨?_, pmp_ok.turn HP6.out ht (fun j hj e => HNB2.out (e ▸ hj)), HNB2.out, HNN.out, fit_cut HF8.out.fit _ _⟩, fun j hj => ?_, fun j hj => ?_, ?_, fun h => ⟨fun k => ?_, ?_⟩⟩⟩
    · rw [heap_setCell_same w6 b 0 _ _ _ HR6.out]; rfl
    · rcases HT2.out j hj with h1 | h1
      · exact HTS.out.1 j h1
      · have := HBQ.out; exact .inr (by omega)
    · rcases HD2.out j hj with h1 | h1
      · exact HTS.out.2 j h1
      · have := HBQ.out; exact .inr (by omega)
    · refine (HTQ.out.trans (HTT.out.mono fun j hj => ?_)).trans (ht.mono fun j hj => .inr (.inl hj))
      rcases HTS.out.1 j hj with h1 | h1
      · exact .inl h1
      · exact .inr (.inr h1)
    · unfold cutF upd; split
      · rfl
      · split
        · rfl
        · exact h k
    · unfold trX
      rw [if_pos ⟨HLT.out, HRM.out⟩, HBB.out, ← HKK.out, ← HRR.out, ← (HZ.out.2.2 h).2]
      congr 1

/-- A block of a content; all of them. -/
def cB (c : Nat → Int) (k : Nat) : List Int := (List.range 56).map fun j => c (56 * k + j)
def cX (c : Nat → Int) : Nat → List Int := fun k => bnO (cB c k)
theorem cB_len (c : Nat → Int) (k : Nat) : (cB c k).length = 56 := by simp [cB]
theorem cB_byt (c : Nat → Int) (k : Nat) {j : Nat} (hj : j < 56) : byt (cB c k) j = c (56 * k + j) := by simp [cB, byt, List.getD, List.getElem?_range hj]
theorem noughtB_byt {zs : List Int} (h : noughtB zs = true) (j : Nat) : byt zs j = 0 := by
  by_cases hj : j < zs.length
  · by_cases e : byt zs j = 0
    · exact e
    · rw [noughtB_false hj e] at h; cases h
  · simp [byt, List.getD, List.getElem?_eq_none (Nat.le_of_not_lt hj)]
theorem bnO_byt (x : List Int) (j : Nat) : byt (bnO x) j = byt x j := by
  unfold bnO
  split
  · rename_i h
    rw [noughtB_byt h]
    simp [byt]
  · rfl
theorem cX_byt (c : Nat → Int) (k : Nat) {j : Nat} (hj : j < 56) : byt (cX c k) j = c (56 * k + j) := by unfold cX; rw [bnO_byt, cB_byt c k hj]
theorem cB_congr {c d : Nat → Int} {k : Nat} (h : ∀ j, j < 56 → c (56 * k + j) = d (56 * k + j)) : cB c k = cB d k := by
  unfold cB
  exact List.map_congr_left fun j hj => h j (List.mem_range.1 hj)
theorem cB_zero {c : Nat → Int} {k : Nat} (h : ∀ j, j < 56 → c (56 * k + j) = 0) : cX c k = [] := by
  unfold cX bnO
  rw [if_pos (noughtB_true fun j hj => by rw [cB_len] at hj; rw [cB_byt c k hj, h j hj])]
theorem blkC_cX (c : Nat → Int) (k : Nat) : blkC (cX c) k = cB c k := by
  have hl : (blkC (cX c) k).length = 56 := by
    unfold blkC
    by_cases h : cX c k = []
    · rw [if_pos h]; rfl
    · rw [if_neg h]
      unfold cX bnO at h ⊢
      by_cases h2 : noughtB (cB c k) = true
      · rw [if_pos h2] at h; exact absurd rfl h
      · rw [if_neg h2]; exact cB_len c k
  refine byt_ext (by rw [hl, cB_len]) fun j hj => ?_
  rw [hl] at hj
  rw [blkC_byt, cX_byt c k hj, cB_byt c k hj]
/-- What a Write and a Trunc make of a content. -/
def wrC (c : Nat → Int) (at' : Nat) (zs : List Int) : Nat → Int := fun i => if at' ≤ i ∧ i < at' + zs.length then byt zs (i - at') else c i
def trC (c : Nat → Int) (n : Nat) : Nat → Int := fun i => if i < n then c i else 0
theorem wrX_c (c : Nat → Int) (at' : Nat) (zs : List Int) (hn : 0 < zs.length) : wrX (cX c) at' zs = cX (wrC c at' zs) := by
  funext k
  unfold wrX
  by_cases h : at' / 56 ≤ k ∧ k * 56 < at' + zs.length
  · rw [if_pos h]
    have e : nbL (cX c) at' zs k = cB (wrC c at' zs) k := byt_ext (by rw [nbL_len, cB_len]) fun j hj => by
      rw [nbL_len] at hj
      rw [nbL_byt _ _ _ _ hj, cB_byt _ _ hj, cX_byt c k hj]
      rfl
    rw [e]
    rfl
  · rw [if_neg h]
    unfold cX
    rw [cB_congr (d := wrC c at' zs) fun j hj => by
      unfold wrC
      rw [if_neg (by omega)]]
theorem trX_c (c : Nat → Int) (s n : Nat) (hs : s ≤ 46368) (hn : n ≤ 46368) (hc : ∀ i, s ≤ i → c i = 0) : trX (cX c) s n = cX (trC c n) := by
  funext k
  unfold trX cutF
  by_cases h1 : (n + 55) / 56 ≤ k ∧ k < 828
  · rw [if_pos h1, cB_zero fun j hj => by unfold trC; rw [if_neg (by omega)]]
  · rw [if_neg h1]
    by_cases h2 : 828 ≤ k
    · have e1 : cX c k = [] := cB_zero fun j hj => hc _ (by omega)
      have e2 : cX (trC c n) k = [] := cB_zero fun j hj => by unfold trC; split; exact hc _ (by omega); rfl
      rw [e2]
      by_cases h3 : n < s ∧ 0 < n % 56
      · rw [if_pos h3, upd_off _ _ (by omega), e1]
      · rw [if_neg h3, e1]
    · by_cases h3 : n < s ∧ 0 < n % 56
      · rw [if_pos h3]
        by_cases h4 : k = n / 56
        · subst h4
          rw [upd_at, blkC_cX]
          unfold cX
          congr 1
          refine byt_ext (by rw [clY_len (cB_len c _) (by omega), cB_len]) fun j hj => ?_
          rw [clY_len (cB_len c _) (by omega)] at hj
          rw [clY_byt (cB_len c _) (by omega), cB_byt c _ hj, cB_byt _ _ hj]
          unfold trC
          by_cases h5 : j < n % 56
          · rw [if_pos h5, if_pos (by omega)]
          · rw [if_neg h5, if_neg (by omega)]
        · rw [upd_off _ _ h4]
          unfold cX
          rw [cB_congr (d := trC c n) fun j hj => by unfold trC; rw [if_pos (by omega)]]
      · rw [if_neg h3]
        unfold cX
        rw [cB_congr (d := trC c n) fun j hj => by
          unfold trC
          by_cases h6 : 56 * k + j < n
          · rw [if_pos h6]
          · rw [if_neg h6, hc _ (by omega)]]
abbrev srcV (pS : Nat) : Value := .iface 41 (.pointer (some ⟨pS, 0, none⟩))
/-- A file of a content, in memory. -/
structure FN (w : World) (b s : Nat) (T D : Nat → Prop) (c : Nat → Int) : Prop where
  at' : ∃ p fr, FlAt w b s p (srcV fr) T D (fun _ => 0) (cX c)
  by' : ∀ i, 0 ≤ c i ∧ c i ≤ 255
  no : ∀ i, s ≤ i → c i = 0
section
variable {w w' : World} {b s : Nat} {T D : Nat → Prop} {c : Nat → Int}
theorem FN.next (h : FN w b s T D c) (hb : Below w.heap.size w w') : FN w' b s T D c := by
  obtain ⟨p, fr, h1⟩ := h.at'
  exact ⟨⟨p, fr, h1.next hb⟩, h.by', h.no⟩
theorem FN.sz (h : FN w b s T D c) : s ≤ 46368 := by obtain ⟨p, fr, h1⟩ := h.at'; exact h1.sz
theorem FN.td (h : FN w b s T D c) : ∀ j, T j → D j := by obtain ⟨p, fr, h1⟩ := h.at'; exact pmp_ok.td h1.mp
theorem FN.lt (h : FN w b s T D c) : b < w.heap.size ∧ ¬ D b ∧ ∀ j, D j → j < w.heap.size := by obtain ⟨p, fr, h1⟩ := h.at'; exact ⟨lt_of_block h1.row, h1.nb, pmp_ok.lt h1.mp⟩
theorem FN.turn {N : Nat → Prop} (h : FN w b s T D c) (ht : Turn N w w') (hb : ¬ N b) (hD : ∀ j, D j → ¬ N j) : FN w' b s T D c := by
  obtain ⟨p, fr, h1⟩ := h.at'
  exact ⟨⟨p, fr, (ht.block b (lt_of_block h1.row) hb).trans h1.row, pmp_ok.turn h1.mp ht hD, h1.nb, h1.sz, h1.fit⟩, h.by', h.no⟩
end
/-- What a call leaves of a file. -/
def FnL (w : World) (b : Nat) (T D : Nat → Prop) (s : Nat) (c : Nat → Int) (w' : World) : Prop :=
  ∃ T' D', FN w' b s T' D' c ∧ (∀ j, T' j → T j ∨ w.heap.size ≤ j) ∧ (∀ j, D' j → D j ∨ w.heap.size ≤ j) ∧ Turn (fun j => T j ∨ j = b ∨ w.heap.size ≤ j) w w'
/-- Is a Write refused; what the file then is. -/
def wrBad (at' : Int) (n : Nat) : Bool := decide (at' < 0) || decide (46368 - (n : Int) < at')
def wrS (s : Nat) (at' : Int) (n : Nat) : Nat := if wrBad at' n = true ∨ n = 0 then s else Nat.max s (at'.toNat + n)
def wrZ (c : Nat → Int) (at' : Int) (zs : List Int) : Nat → Int := if wrBad at' zs.length = true then c else wrC c at'.toNat zs
def trBad (n : Int) : Bool := decide (n < 0) || decide (46368 < n)
theorem FN.write {w : World} {b s : Nat} {T D : Nat → Prop} {c : Nat → Int} (h : FN w b s T D c) (at' : Int) (a : Option Addr) (n cc : Nat) (zs : List Int) (hz : Pin w a n cc zs) (hnl : n ≤ 140737488355328) :
    Calls Try.prog 32 #[.pointer (some ⟨b, 0, none⟩), .int .i64 at', .slice a n cc] w fun e w' => e = .returned (.int .i64 (if wrBad at' n = true then 28 else 0)) ∧ FnL w b T D (wrS s at' n) (wrZ c at' zs) w' := by
  have hlen := hz.len
  by_cases h1 : at' < 0
  · have e : wrBad at' n = true := by unfold wrBad; rw [decide_eq_true h1]; rfl
    have HE := Lib.hid (show FnL w b T D (wrS s at' n) (wrZ c at' zs) w from ⟨T, D, by rw [wrS, if_pos (.inl e), wrZ, hlen, if_pos e]; exact h, fun j hj => .inl hj, fun j hj => .inl hj, Turn.refl _ _⟩)
    rw [e]
    clear h hz hlen e
    go_enter Try.func32, Try.ntmps32
    go_wp2_with (fail)
    go_ret
    exact ⟨rfl, HE.out⟩
  by_cases h2 : 46368 - (n : Int) < at'
  · have e : wrBad at' n = true := by unfold wrBad; rw [decide_eq_true h2, Bool.or_true]
    have HE := Lib.hid (show FnL w b T D (wrS s at' n) (wrZ c at' zs) w from ⟨T, D, by rw [wrS, if_pos (.inl e), wrZ, hlen, if_pos e]; exact h, fun j hj => .inl hj, fun j hj => .inl hj, Turn.refl _ _⟩)
    have y4 : IntKind.i64.wrap ((46368 : Int) - (n : Int)) = (46368 : Int) - (n : Int) := IntWalk.i64_in _ (by omega)
    rw [e]
    clear h hz hlen e
    go_enter Try.func32, Try.ntmps32
    go_wp2_with (fail)
    go_ret
    exact ⟨rfl, HE.out⟩
  have e : wrBad at' n = false := by unfold wrBad; rw [decide_eq_false h1, decide_eq_false h2]; rfl
  obtain ⟨m, rfl⟩ := Int.eq_ofNat_of_zero_le (by omega : 0 ≤ at')
  by_cases h3 : n = 0
  · subst h3
    have hz0 : zs = [] := List.eq_nil_of_length_eq_zero hlen
    have hcc : wrC c m zs = c := by funext i; unfold wrC; rw [hz0]; rw [if_neg (by simp; try omega)]
    have HE := Lib.hid (show FnL w b T D (wrS s (m : Int) 0) (wrZ c (m : Int) zs) w from ⟨T, D, by rw [wrS, if_pos (.inr rfl), wrZ, hlen, e, if_neg (by simp), Int.toNat_natCast, hcc]; exact h, fun j hj => .inl hj, fun j hj => .inl hj, Turn.refl _ _⟩)
    have y2 : ¬ (46368 : Int) < (m : Int) := by omega
    rw [e]
    clear h hz hlen e hcc h2 hz0
    go_enter Try.func32, Try.ntmps32
    go_wp2_with (fail)
    go_ret
    exact ⟨rfl, HE.out⟩
  · obtain ⟨p, fr, hf⟩ := h.at'
    rw [e]
    refine (fwrite_main hf (.inl fun _ => rfl) m a n cc zs hz (by omega) (by omega)).mono ?_
    rintro e' w' ⟨er, rfl, _, hns, _, hok⟩
    obtain rfl := hns fun _ => rfl
    obtain ⟨T', D', A', X', hf', hT, hD, ht, hc⟩ := hok rfl
    obtain ⟨hA, rfl⟩ := hc fun _ => rfl
    have hA' : A' = fun _ => 0 := funext hA
    subst hA'
    refine ⟨by simp, T', D', ⟨⟨p, fr, ?_⟩, fun i => ?_, fun i hi => ?_⟩, hT, hD, ht⟩
    · rw [wrS, if_neg (by rw [e]; simp; exact h3), wrZ, hlen, e, if_neg (by simp), Int.toNat_natCast, ← wrX_c c m zs (by omega)]
      rw [hlen] at hf'
      exact hf'
    · rw [wrZ, hlen, e, if_neg (by simp), Int.toNat_natCast]
      unfold wrC
      split
      · exact byt_bd hz.bys.small _
      · exact h.by' i
    · rw [wrS, if_neg (by rw [e]; simp; exact h3), Int.toNat_natCast] at hi
      rw [wrZ, hlen, e, if_neg (by simp), Int.toNat_natCast]
      have h5 := Nat.le_max_left s (m + n)
      have h6 := Nat.le_max_right s (m + n)
      have hi' : max s (m + n) ≤ i := hi
      unfold wrC
      rw [if_neg (by omega)]
      exact h.no i (by omega)
theorem FN.trunc {w : World} {b s : Nat} {T D : Nat → Prop} {c : Nat → Int} (h : FN w b s T D c) (n : Int) :
    Calls Try.prog 33 #[.pointer (some ⟨b, 0, none⟩), .int .i64 n] w fun e w' => e = .returned (.int .i64 (if trBad n = true then 28 else 0)) ∧ FnL w b T D (if trBad n = true then s else n.toNat) (if trBad n = true then c else trC c n.toNat) w' := by
  by_cases h1 : 0 ≤ n ∧ n ≤ 46368
  · have e : trBad n = false := by unfold trBad; rw [decide_eq_false (by omega), decide_eq_false (by omega)]; rfl
    obtain ⟨m, rfl⟩ := Int.eq_ofNat_of_zero_le h1.1
    obtain ⟨p, fr, hf⟩ := h.at'
    rw [e, if_neg (by simp), if_neg (by simp), if_neg (by simp), Int.toNat_natCast]
    refine (ftrunc_main hf (.inl fun _ => rfl) m (by omega)).mono ?_
    rintro e' w' ⟨er, rfl, _, hns, _, hok⟩
    obtain rfl := hns fun _ => rfl
    obtain ⟨T', D', A', X', hf', hT, hD, ht, hc⟩ := hok rfl
    obtain ⟨hA, rfl⟩ := hc fun _ => rfl
    have hA' : A' = fun _ => 0 := funext hA
    subst hA'
    rw [trX_c c s m h.sz (by omega) h.no] at hf'
    refine ⟨rfl, T', D', ⟨⟨p, fr, hf'⟩, fun i => ?_, fun i hi => ?_⟩, hT, hD, ht⟩
    · unfold trC
      split
      · exact h.by' i
      · omega
    · unfold trC
      rw [if_neg (by omega)]
  · have e : trBad n = true := by
      unfold trBad
      by_cases h2 : n < 0
      · rw [decide_eq_true h2]; rfl
      · rw [decide_eq_true (p := 46368 < n) (by omega), Bool.or_true]
    have hc := fisSize_any n w
    have hd : (decide (0 ≤ n) && decide (n ≤ 46368)) = false := by
      by_cases h2 : 0 ≤ n
      · rw [decide_eq_false (p := n ≤ 46368) (by omega), Bool.and_false]
      · rw [decide_eq_false h2]; rfl
    rw [hd] at hc
    rw [e, if_pos rfl, if_pos rfl, if_pos rfl]
    have HE := Lib.hid (show FnL w b T D s c w from ⟨T, D, h, fun j hj => .inl hj, fun j hj => .inl hj, Turn.refl _ _⟩)
    have HC := Lib.hid hc
    clear h hc hd e h1
    go_enter Try.func33, Try.ntmps33
    go_wp2_with (fail)
    refine HC.out.mono ?_
    rintro e w2 ⟨rfl, rfl⟩
    go_wp2_with (fail)
    go_ret
    exact ⟨rfl, HE.out⟩
/-- A content's bytes from a place on. -/
def rdC (c : Nat → Int) (at' n : Nat) : List Int := (List.range n).map fun i => c (at' + i)
theorem rdC_len (c : Nat → Int) (at' n : Nat) : (rdC c at' n).length = n := by simp [rdC]
theorem rdC_byt (c : Nat → Int) (at' : Nat) {n i : Nat} (h : i < n) : byt (rdC c at' n) i = c (at' + i) := by simp [rdC, byt, List.getD, List.getElem?_range h]
theorem FN.read {w : World} {b s : Nat} {T D : Nat → Prop} {c : Nat → Int} (h : FN w b s T D c) (at' n : Nat) (ha : at' ≤ 1000000000000) (hn : n ≤ 1000000000000) :
    Calls Try.prog 34 #[.pointer (some ⟨b, 0, none⟩), .int .i64 (at' : Int), .int .i64 (n : Int)] w (RdP w (rdC c at' (Nat.min n (s - at')))) := by
  obtain ⟨p, fr, hf⟩ := h.at'
  have e : rdC c at' (Nat.min n (s - at')) = rdB (cX c) at' (Nat.min n (s - at')) := by
    unfold rdC rdB
    refine List.map_congr_left fun i hi => ?_
    rw [cX_byt c _ (Nat.mod_lt _ (by omega))]
    congr 1
    exact (Nat.div_add_mod _ 56).symm
  rw [e]
  exact fread_any hf at' n ha hn

/-- A call as it lies in memory. -/
structure Cb where
  q : Int
  k : Int
  n : Int
  a : Option Addr
  l : Nat
  c : Nat
  zs : List Int
instance : Inhabited Cb := ⟨⟨0, 0, 0, none, 0, 0, []⟩⟩
/-- A call stands from place o of block b on. -/
structure CbIn (w : World) (b o : Nat) (x : Cb) : Prop where
  k0 : w.cell? ⟨b, o, none⟩ = some (.int .i64 x.q)
  k1 : w.cell? ⟨b, o + 1, none⟩ = some (.int .i64 x.k)
  k2 : w.cell? ⟨b, o + 2, none⟩ = some (.int .i64 x.n)
  k3 : w.cell? ⟨b, o + 3, none⟩ = some (.slice x.a x.l x.c)
  wf : (Lit.int .i64 x.k).wf = true
  pin : Pin w x.a x.l x.c x.zs
  few : x.l ≤ reachBytes
def CbsAt (w : World) (a : Option Addr) (len : Nat) (f : Nat → Cb) : Prop :=
  len = 0 ∨ ∃ b off, a = some ⟨b, off, none⟩ ∧ b < w.heap.size ∧ ∀ i, i < len → CbIn w b (off + i * 4) (f i)
theorem CbIn.next {w w' : World} {b o : Nat} {x : Cb} (h : CbIn w b o x) (hlt : b < w.heap.size) (hb : Below w.heap.size w w') : CbIn w' b o x :=
  have g := fun j => hb.cell (p := ⟨b, j, none⟩) hlt
  ⟨(g _).trans h.k0, (g _).trans h.k1, (g _).trans h.k2, (g _).trans h.k3, h.wf, h.pin.next hb, h.few⟩
theorem CbsAt.next {w w' : World} {a : Option Addr} {len : Nat} {f : Nat → Cb} (h : CbsAt w a len f) (hb : Below w.heap.size w w') : CbsAt w' a len f := by
  rcases h with h0 | ⟨b, off, e, hlt, hc⟩
  · exact .inl h0
  · exact .inr ⟨b, off, e, Nat.lt_of_lt_of_le hlt hb.size, fun i hi => (hc i hi).next hlt hb⟩


/-- What a row weighs, as far as its limit. -/
def WeighPost (L : Nat) (f : Nat → Pc) (n : Nat) (w : World) (e : Ending) (w' : World) : Prop :=
  ∃ t : Nat, t ≤ 9223372036854775807 ∧ e = .returned (.int .i64 t) ∧ w = w' ∧ (t ≤ L → n ≤ L ∧ ∀ i, i < n → (f i).n ≤ L)
def WeighRel (f : Nat → Pc) (n : Nat) (u v : Value) : Prop := ∃ t k : Nat, k ≤ n ∧ t ≤ 140737488400000 ∧ u = .int .i64 t ∧ v = .int .i64 k ∧ ∀ i, i < k → (f i).n ≤ t
theorem weigh_any (L : Nat) (hL : L ≤ 20000) (a : Option Addr) (n c : Nat) (f : Nat → Pc) (w : World) (h : Rws w a n f) (hn : n ≤ 9223372036854775807) (hb : ∀ i, i < n → (f i).n ≤ reachBytes) :
    Calls Try.prog 24 #[.slice a n c, .int .i64 L] w (WeighPost L f n w) := by
  have HB := Lib.hid hb
  clear hb
  by_cases h1 : n ≤ L
  · have e1 : ¬ (L : Int) < (n : Int) := by omega
    go_enter Try.func24, Try.ntmps24
    go_wp2_with (fail)
    go_loop [5, 6] (fun u v => WeighRel f n u v) (fun _ v => n - (RowKit.intOf v).toNat)
    case atStart => exact ⟨n, 0, by omega, by omega, rfl, rfl, fun i hi => by omega⟩
    case round =>
      obtain ⟨t, k, hk, ht, rfl, rfl, hall⟩ := hrel
      have HA := Lib.hid hall
      clear hall
      by_cases hlt : k < n
      · by_cases ht2 : t ≤ L
        · obtain ⟨b, off, x, m, d, zs, rfl, hbl, hc, hp, hfz, hfn⟩ := h.at hlt
          have hm := HB.out k hlt
          rw [hfn] at hm
          unfold reachBytes at hm
          have HF := Lib.hid hfn
          have e2 : ((t : Int) ≤ L) := by omega
          clear h hp hfz hfn
          go_wp2_with (fail)
          go_round
          case rel => exact ⟨t + m, k + 1, by omega, by omega, by go_num, by go_num, fun i hi => by
            rcases Nat.lt_or_ge i k with h1 | h1
            · have := HA.out i h1; omega
            · obtain rfl : i = k := by omega
              rw [HF.out]; omega⟩
          case measure => simp [RowKit.intOf]; omega
        · have e2 : ¬ ((t : Int) ≤ L) := by omega
          clear h
          go_wp2_with (fail)
          go_ret
          exact ⟨t, by omega, rfl, rfl, fun h => absurd h ht2⟩
      · obtain rfl : k = n := by omega
        clear h
        go_wp2_with (fail)
        all_goals (go_ret; exact ⟨t, by omega, rfl, rfl, fun h => ⟨h1, fun i hi => Nat.le_trans (HA.out i hi) h⟩⟩)
  · have e1 : (L : Int) < (n : Int) := by omega
    clear h
    go_enter Try.func24, Try.ntmps24
    go_wp2_with (fail)
    go_ret
    exact ⟨L + 1, by omega, rfl, rfl, fun h => by omega⟩


theorem cells_ins {w : World} {g n : Nat} {ks : List Int} (h : w.heap[g]? = some (.cells (ks.map (Value.int .i64)).toArray 3 (0, 0))) (hn : ks.length = n) : Ins w (some ⟨g, 0, none⟩) n ks := by
  subst hn
  refine ⟨rfl, .inr ⟨g, 0, rfl, lt_of_block h, fun i hi => ?_⟩⟩
  rw [Nat.zero_add, cell_of_row w g i _ _ (0, 0) h]
  simp [num, List.getD, hi]
theorem ins_lit {w : World} {g n : Nat} {ks : List Int} {cs : Array Value} (hg : g = w.heap.size) (hn : ks.length = n) (h : cs = (ks.map (Value.int .i64)).toArray) : Ins (w.alloc (.cells cs 3 (0, 0))) (some ⟨g, 0, none⟩) n ks := by
  subst hg h
  exact cells_ins (heap_alloc_new w _) hn
def SmI (w0 : World) (n : Nat) (v : Value) (w : World) : Prop := ∃ k : Nat, k ≤ n ∧ v = .int .i64 k ∧ ∃ q, w = w0.drewN q
theorem sameInts_yes (a b : Option Addr) (n c d : Nat) (ks : List Int) (w : World) (h1 : Ins w a n ks) (h2 : Ins w b n ks) (hn : n ≤ 1000000000000) :
    Calls Try.prog 23 #[.slice a n c, .slice b n d] w fun e w' => e = .returned (.bool true) ∧ Below w.heap.size w w' := by
  go_enter Try.func23, Try.ntmps23
  go_wp2_with (fail)
  go_loopw [5] (fun v wr => SmI w n v wr) (fun v _ => n - (RowKit.intOf v).toNat)
  case atStart => exact ⟨0, by omega, rfl, 0, rfl⟩
  case round =>
    obtain ⟨k, hk, rfl, q, hq⟩ := hrel
    have hB : Below w.heap.size w wr := by rw [hq]; exact below_drewN (Below.refl _ _) q
    have HQ := Lib.hid hq
    clear hq
    by_cases hlt : k < n
    · rcases h1.2 with h0 | ⟨g1, o1, rfl, l1, c1⟩
      · omega
      rcases h2.2 with h0 | ⟨g2, o2, rfl, l2, c2⟩
      · omega
      have k0 : (0 : Int) ≤ (k : Int) := by omega
      have k1 : (k : Int) < (n : Int) := by omega
      have x1 := (hB.cell (p := ⟨g1, o1 + k, none⟩) l1).trans (c1 k hlt)
      have x2 := (hB.cell (p := ⟨g2, o2 + k, none⟩) l2).trans (c2 k hlt)
      clear h1 h2 c1 c2
      go_wp2_with (fail)
      go_quiet (fail)
      go_wp2_with (fail)
      go_roundw
      case rel => exact ⟨k + 1, by omega, by go_num, q + nq, by rw [HQ.out, World.drewN_drewN]⟩
      case measure => simp [RowKit.intOf]; omega
    · obtain rfl : k = n := by omega
      clear h1 h2
      go_wp2_with (fail)
      go_ret
      exact ⟨rfl, hB⟩
end Go.Proofs.Ytegcjpocdfmpfaa
