/-
  What the statements of files share: alive, great; New of nothing, Clone.
-/
import Derived.Test.YtegcjpocdfmpfaaZai
import Derived.Deep.AppendLies
set_option linter.unusedVariables false
set_option linter.unusedSimpArgs false
set_option maxRecDepth 100000
set_option maxHeartbeats 16000000
namespace Go.Proofs.Ytegcjpocdfmpfaa
open Go.RowKit

theorem num_nil : num [] = fun _ => 0 := by funext i; simp [num]
theorem cX_zero : cX (fun _ => 0) = fun _ => [] := by funext k; exact cB_zero fun j hj => rfl
/-- A new file of nothing. -/
theorem FN.new (gS : Nat) (w : World) : Calls Try.prog 31 #[.int .i64 0, .slice none 0 0, .iface 41 (.pointer (some ⟨gS, 0, none⟩))] w fun e w' => ∃ b T D, e = .returned (.tuple #[.pointer (some ⟨b, 0, none⟩), .int .i64 0]) ∧ FN w' b 0 T D (fun _ => 0) ∧ w.heap.size ≤ b ∧ (∀ j, D j → w.heap.size ≤ j) ∧ Below w.heap.size w w' := by
  refine (fnew_any 0 none 0 0 [] gS w ⟨rfl, .inl rfl⟩ (fun _ => ⟨rfl, rfl⟩) (by omega)).mono ?_
  rintro e w' ⟨hb, ⟨rfl, hno⟩ | ⟨_, _, _, b, p, T, D, rfl, hf, h1, h2⟩⟩
  · exact (hno ⟨by omega, by omega, Nat.zero_le _, rfl⟩).elim
  · refine ⟨b, T, D, rfl, ⟨⟨p, gS, ?_⟩, fun i => ⟨Int.le_refl 0, by omega⟩, fun i _ => rfl⟩, h1, h2, hb⟩
    rw [cX_zero]
    rw [num_nil] at hf
    exact hf
/-- A file's clone: a file of its own. -/
theorem fclone_any {w : World} {b s p : Nat} {fr : Value} {T D : Nat → Prop} {A : Nat → Int} {X : Nat → List Int} {pS : Nat} (hfr : fr = .iface 41 (.pointer (some ⟨pS, 0, none⟩))) (h : FlAt w b s p fr T D A X) :
    Calls Try.prog 43 #[.pointer (some ⟨b, 0, none⟩)] w fun e w' => ∃ b2 p2 T2 D2, e = .returned (.pointer (some ⟨b2, 0, none⟩)) ∧ FlAt w' b2 s p2 fr T2 D2 A X ∧ w.heap.size ≤ b2 ∧ (∀ j, T2 j → w.heap.size ≤ j) ∧ (∀ j, D2 j → (D j ∧ ¬ T j) ∨ w.heap.size ≤ j) ∧ Below w.heap.size w w' := by
  subst hfr
  have HF := Lib.hid h
  obtain ⟨c0, c1, c2, l0, f0⟩ := h.cells
  have hdr := h.next (below_drewN (Below.refl w.heap.size w) 1)
  have HD := Lib.hid hdr
  clear h hdr f0
  go_enter Try.func43, Try.ntmps43
  go_upto_region 1 with fail
  refine wp_region_held_drew (S := (fun w' => w'.cell? ⟨b, 0, none⟩ = some (.int .i64 (s : Int)) ∧ w'.cell? ⟨b, 1, none⟩ = some (.pointer (some ⟨p, 0, none⟩)) ∧ w'.cell? ⟨b, 2, none⟩ = some (.iface 41 (.pointer (some ⟨pS, 0, none⟩))))) (by kernel_rfl) ⟨c0, c1, c2⟩ (fun hHeld => ?_)
  refine wpAnyH_take (i := 0) (v := ?_) rfl (by kernel_rfl) (by kernel_rfl) (by kernel_rfl) (fun _ _ _ h => h) (Or.inl ⟨by rfl, fun w hSw => ?_⟩) (by assumption) ?_
  rotate_left
  · (try dsimp only at hSw); go_simp; try with_reducible rfl
  simp only [Act.put, List.setIfInBounds_toArray, List.set_cons_zero, List.set_cons_succ, List.getElem_toArray, List.getElem_cons_zero]
  refine wpAnyH_take (i := 1) (v := ?_) rfl (by kernel_rfl) (by kernel_rfl) (by kernel_rfl) (fun _ _ _ h => h) (Or.inl ⟨by rfl, fun w hSw => ?_⟩) (by assumption) ?_
  rotate_left
  · (try dsimp only at hSw); go_simp; try with_reducible rfl
  simp only [Act.put, List.setIfInBounds_toArray, List.set_cons_zero, List.set_cons_succ, List.getElem_toArray, List.getElem_cons_succ, List.getElem_cons_zero]
  refine wpAnyH_take (i := 2) (v := ?_) rfl (by kernel_rfl) (by kernel_rfl) (by kernel_rfl) (fun _ _ _ h => h) (Or.inl ⟨by rfl, fun w hSw => ?_⟩) (by assumption) ?_
  rotate_left
  · (try dsimp only at hSw); go_simp; try with_reducible rfl
  simp only [Act.put, List.setIfInBounds_toArray, List.set_cons_zero, List.set_cons_succ, List.getElem_toArray, List.getElem_cons_succ, List.getElem_cons_zero]
  refine wpAnyH_take (i := 3) (v := ?_) rfl (by kernel_rfl) (by kernel_rfl) (by kernel_rfl) (fun _ _ _ h => h) (Or.inl ⟨by rfl, fun w hSw => ?_⟩) (by assumption) ?_
  rotate_left
  · (try dsimp only at hSw); go_simp; try with_reducible rfl
  simp only [Act.put, List.setIfInBounds_toArray, List.set_cons_zero, List.set_cons_succ, List.getElem_toArray, List.getElem_cons_succ, List.getElem_cons_zero]
  refine wpAnyH_take (i := 4) (v := ?_) rfl (by kernel_rfl) (by kernel_rfl) (by kernel_rfl) (fun _ _ _ h => h) (Or.inl ⟨by rfl, fun w hSw => ?_⟩) (by assumption) ?_
  rotate_left
  · (try dsimp only at hSw); go_simp; try with_reducible rfl
  simp only [Act.put, List.setIfInBounds_toArray, List.set_cons_zero, List.set_cons_succ, List.getElem_toArray, List.getElem_cons_succ, List.getElem_cons_zero]
  refine wpAnyH_take (i := 5) (v := ?_) rfl (by kernel_rfl) (by kernel_rfl) (by kernel_rfl) (fun _ _ _ h => h) (Or.inl ⟨by rfl, fun w hSw => ?_⟩) (by assumption) ?_
  rotate_left
  · (try dsimp only at hSw); go_simp; try with_reducible rfl
  simp only [Act.put, List.setIfInBounds_toArray, List.set_cons_zero, List.set_cons_succ, List.getElem_toArray, List.getElem_cons_succ, List.getElem_cons_zero]
  refine wpAnyH_take (i := 6) (v := ?_) rfl (by kernel_rfl) (by kernel_rfl) (by kernel_rfl) (fun _ _ _ h => h) (Or.inl ⟨by rfl, fun w hSw => ?_⟩) (by assumption) ?_
  rotate_left
  · (try dsimp only at hSw); go_simp; try with_reducible rfl
  simp only [Act.put, List.setIfInBounds_toArray, List.set_cons_zero, List.set_cons_succ, List.getElem_toArray, List.getElem_cons_succ, List.getElem_cons_zero]
  refine wpAnyH_take (i := 7) (v := ?_) rfl (by kernel_rfl) (by kernel_rfl) (by kernel_rfl) (fun _ _ _ h => h) (Or.inl ⟨by rfl, fun w hSw => ?_⟩) (by assumption) ?_
  rotate_left
  · (try dsimp only at hSw); go_simp; try with_reducible rfl
  simp only [Act.put, List.setIfInBounds_toArray, List.set_cons_zero, List.set_cons_succ, List.getElem_toArray, List.getElem_cons_succ, List.getElem_cons_zero]
  refine wpAnyH_take (i := 9) (v := ?_) rfl (by kernel_rfl) (by kernel_rfl) (by kernel_rfl) (fun _ _ _ h => h) (Or.inl ⟨by rfl, fun w hSw => ?_⟩) (by assumption) ?_
  rotate_left
  · (try dsimp only at hSw); go_simp; try with_reducible rfl
  simp only [Act.put, List.setIfInBounds_toArray, List.set_cons_zero, List.set_cons_succ, List.getElem_toArray, List.getElem_cons_succ, List.getElem_cons_zero]
  refine wpAnyH_take (i := 10) (v := ?_) rfl (by kernel_rfl) (by kernel_rfl) (by kernel_rfl) (fun _ _ _ h => h) (Or.inl ⟨by rfl, fun w hSw => ?_⟩) (by assumption) ?_
  rotate_left
  · (try dsimp only at hSw); go_simp; try with_reducible rfl
  simp only [Act.put, List.setIfInBounds_toArray, List.set_cons_zero, List.set_cons_succ, List.getElem_toArray, List.getElem_cons_succ, List.getElem_cons_zero]
  refine wpAnyH_take (i := 11) (v := ?_) rfl (by kernel_rfl) (by kernel_rfl) (by kernel_rfl) (fun _ _ _ h => h) (Or.inl ⟨by rfl, fun w hSw => ?_⟩) (by assumption) ?_
  rotate_left
  · (try dsimp only at hSw); go_simp; try with_reducible rfl
  simp only [Act.put, List.setIfInBounds_toArray, List.set_cons_zero, List.set_cons_succ, List.getElem_toArray, List.getElem_cons_succ, List.getElem_cons_zero]
  refine wpAnyH_take (i := 12) (v := ?_) rfl (by kernel_rfl) (by kernel_rfl) (by kernel_rfl) (fun _ _ _ h => h) (Or.inl ⟨by rfl, fun w hSw => ?_⟩) (by assumption) ?_
  rotate_left
  · (try dsimp only at hSw); go_simp; try with_reducible rfl
  simp only [Act.put, List.setIfInBounds_toArray, List.set_cons_zero, List.set_cons_succ, List.getElem_toArray, List.getElem_cons_succ, List.getElem_cons_zero]
  refine wpAnyH_ready (rs := [8]) (by kernel_rfl) (by simp) ?_
  refine AllReadyH.cons rfl (fun K hK => ?_) AllReadyH.nil
  simp only [List.getElem_toArray, List.getElem_cons_succ, List.getElem_cons_zero]
  go_simp
  refine (pmp_ok.clone HD.out.mp).mono ?_
  rintro e w2 ⟨q, T2, D2, rfl, hP, hT, hD2, hb⟩
  have HF2 := Lib.hid (HD.out.next hb)
  have HP := Lib.hid hP
  have HT := Lib.hid hT
  have HD2 := Lib.hid hD2
  have HB := Lib.hid (show Below w.heap.size w w2 from (below_drewN (Below.refl w.heap.size w) 1).trans hb)
  obtain ⟨d0, d1, d2, m0, g0⟩ := HF2.out.cells
  clear hP hT hD2 hb g0
  go_wp2_with (fail)
  refine hK.out _ _ ⟨d0, d1, d2⟩ (fun hHeld => ?_)
  clear hK K
  refine wpAnyH_take (i := 13) (v := ?_) rfl (by kernel_rfl) (by kernel_rfl) (by kernel_rfl) (fun _ _ _ h => h) (Or.inl ⟨by rfl, fun w hSw => ?_⟩) (by assumption) ?_
  rotate_left
  · (try dsimp only at hSw); go_simp; try with_reducible rfl
  simp only [Act.put, List.setIfInBounds_toArray, List.set_cons_zero, List.set_cons_succ, List.getElem_toArray, List.getElem_cons_succ, List.getElem_cons_zero]
  refine wpAnyH_ready (rs := [14]) (by kernel_rfl) (by simp) ?_
  refine AllReadyH.cons rfl (fun K hK => ?_) AllReadyH.nil
  simp only [List.getElem_toArray, List.getElem_cons_succ, List.getElem_cons_zero]
  go_simp
  obtain ⟨w3, hw3⟩ : ∃ w3, w3 = w2.alloc (.cells #[.int .i64 (s : Int), .pointer (some ⟨q, 0, none⟩), .iface 41 (.pointer (some ⟨pS, 0, none⟩))] 125 (0, 0)) := ⟨_, rfl⟩
  have hb3 : Below w2.heap.size w2 w3 := by rw [hw3]; exact (Below.refl _ _).alloc (Nat.le_refl _) _
  have hr3 : w3.heap[w2.heap.size]? = some (.cells #[.int .i64 (s : Int), .pointer (some ⟨q, 0, none⟩), .iface 41 (.pointer (some ⟨pS, 0, none⟩))] 125 (0, 0)) := by rw [hw3]; exact heap_alloc_new w2 _
  rw [← hw3]
  obtain ⟨e0, e1, e2, _, _⟩ := (HF2.out.next hb3).cells
  refine hK _ _ ⟨e0, e1, e2⟩ (fun hHeld => ?_)
  clear hK K
  refine wpAnyH_take (i := 15) (v := ?_) rfl (by kernel_rfl) (by kernel_rfl) (by kernel_rfl) (fun _ _ _ h => h) (Or.inl ⟨by rfl, fun w hSw => ?_⟩) (by assumption) ?_
  rotate_left
  · (try dsimp only at hSw); go_simp; try with_reducible rfl
  simp only [Act.put, List.setIfInBounds_toArray, List.set_cons_zero, List.set_cons_succ, List.getElem_toArray, List.getElem_cons_succ, List.getElem_cons_zero]
  refine wpAnyH_done (by kernel_rfl) ?_ _
  go_wp2_with (fail)
  go_ret
  refine ⟨w2.heap.size, q, T2, D2, rfl, ⟨hr3, pmp_ok.next HP.out hb3, fun h => ?_, HF.out.sz, HF.out.fit⟩, HB.out.size, HT.out, HD2.out, HB.out.trans (hb3.mono HB.out.size)⟩
  have := pmp_ok.lt HP.out _ h
  omega
theorem FN.size {w : World} {b s : Nat} {T D : Nat → Prop} {c : Nat → Int} (h : FN w b s T D c) : Calls Try.prog 36 #[.pointer (some ⟨b, 0, none⟩)] w fun e w' => e = .returned (.int .i64 (s : Int)) ∧ w = w' := by
  obtain ⟨p, fr, hf⟩ := h.at'
  exact fsize_any hf
/-- Is a row of blocks or calls greater than is looked at? -/
theorem fgreat_any (ra : Option Addr) (rn rc : Nat) (fr : Nat → Pc) (a : Option Addr) (n c : Nat) (f : Nat → Cb) (w : World) (hr : Rws w ra rn fr) (hrn : rn ≤ 9223372036854775807) (hrb : ∀ i, i < rn → (fr i).n ≤ reachBytes) (hc : CbsAt w a n f) :
    Calls Try.prog 30 #[.slice ra rn rc, .slice a n c] w fun e w' => ∃ gb, e = .returned (.bool gb) ∧ (gb = false → rn ≤ 5000 ∧ (∀ i, i < rn → (fr i).n ≤ 5000) ∧ n ≤ 60 ∧ ∀ i, i < n → (f i).l ≤ 20000) ∧ Below w.heap.size w w' := by
  have hwg := weigh_any 5000 (by omega) ra rn rc fr w hr hrn hrb
  have e5 : ((5000 : Nat) : Int) = 5000 := rfl
  rw [e5] at hwg
  have HWG := Lib.hid hwg
  have HC := Lib.hid hc
  clear hwg e5 hr hrn hrb hc
  go_enter Try.func30, Try.ntmps30
  go_wp2_with (fail)
  refine HWG.out.mono ?_
  rintro e w2 ⟨t, ht, rfl, rfl, hf⟩
  by_cases h1 : 5000 < t
  · have k1 : (5000 : Int) < (t : Int) := by omega
    clear hf
    go_wp2_with (fail)
    go_ret
    exact ⟨true, rfl, (fun h => by cases h), Below.refl _ _⟩
  have k1 : ¬ (5000 : Int) < (t : Int) := by omega
  have HF := Lib.hid (hf (by omega))
  clear hf
  by_cases h2 : 60 < n
  · have k2 : (60 : Int) < (n : Int) := by omega
    go_wp2_with (fail)
    go_ret
    exact ⟨true, rfl, (fun h => by cases h), Below.refl _ _⟩
  have k2 : ¬ (60 : Int) < (n : Int) := by omega
  clear h1 h2
  go_wp2_with (fail)
  clear k1
  go_loopw [5, 6] (fun v5 v6 wr => ∃ i t : Nat, i ≤ n ∧ v6 = .int .i64 i ∧ v5 = .int .i64 t ∧ t ≤ 20000 ∧ (∀ j, j < i → (f j).l ≤ 20000) ∧ Below w.heap.size w wr) (fun _ v6 _ => n - (RowKit.intOf v6).toNat)
  case atStart => exact ⟨0, 0, by omega, rfl, rfl, by omega, (fun j hj => by omega), Below.refl _ _⟩
  case round =>
    obtain ⟨i, t2, hi, rfl, rfl, ht2, hall, hb⟩ := hrel
    have HA := Lib.hid hall
    have HB := Lib.hid hb
    clear hall hb
    by_cases hlt : i < n
    · rcases HC.out.next HB.out with h0 | ⟨b1, o1, rfl, l1, r1⟩
      · omega
      have hx := r1 i hlt
      obtain ⟨x, hxe⟩ : ∃ x, x = f i := ⟨_, rfl⟩
      rw [← hxe] at hx
      have HXE := Lib.hid hxe
      have hfew := hx.few
      unfold reachBytes at hfew
      have c3 := hx.k3
      have k0 : (0 : Int) ≤ (i : Int) := by omega
      have k1 : (i : Int) < (n : Int) := by omega
      have z1 : IntKind.i64.wrap ((t2 : Int) + (x.l : Int)) = ((t2 + x.l : Nat) : Int) := by rw [IntWalk.i64_in _ (by omega)]; omega
      clear hx hxe r1
      by_cases h3 : 20000 < t2 + x.l
      · have k3 : (20000 : Int) < ((t2 + x.l : Nat) : Int) := by omega
        go_wp2_with (fail)
        go_ret
        exact ⟨true, rfl, (fun h => by cases h), HB.out⟩
      · have k3 : ¬ (20000 : Int) < ((t2 + x.l : Nat) : Int) := by omega
        go_wp2_with (fail)
        go_roundw
        case rel => exact ⟨i + 1, t2 + x.l, by omega, by go_num, rfl, by omega, (fun j hj => by
          by_cases e : j = i
          · rw [e, ← HXE.out]; omega
          · exact HA.out j (by omega)), HB.out⟩
        case measure => simp [RowKit.intOf]; omega
    · obtain rfl : i = n := by omega
      go_wp2_with (fail)
      go_ret
      exact ⟨false, rfl, (fun _ => ⟨HF.out.1, HF.out.2, by omega, HA.out⟩), HB.out⟩
/-- The numbers that are one alone. -/
theorem sel_one {p : Nat → Bool} {m n : Nat} (hm : m < n) (h : ∀ k, k < n → p k = decide (k = m)) : selL p n = [(m : Int)] := by
  rw [selL_congr h]
  clear h
  induction n with
  | zero => omega
  | succ n ih =>
    rw [selL]
    by_cases e : m = n
    · subst e
      have h0 : ∀ j, j ≤ m → selL (fun k => decide (k = m)) j = [] := by
        intro j
        induction j with
        | zero => intro _; rfl
        | succ j ihj =>
          intro hj
          rw [selL, ihj (by omega), if_neg (by simp; omega)]
          rfl
      rw [h0 m (Nat.le_refl _), if_pos (by simp)]
      rfl
    · rw [ih (by omega), if_neg (by simp; omega), List.append_nil]
theorem falive_any (w : World) : Calls Try.prog 29 #[] w fun e w' => e = .returned (.bool true) ∧ Below w.heap.size w w' := by
  obtain ⟨w1, hw1⟩ : ∃ w1, w1 = w.alloc (.cells #[.slice none 0 0, .slice none 0 0] 43) := ⟨_, rfl⟩
  have hb1 : Below w.heap.size w w1 := by rw [hw1]; exact (Below.refl _ _).alloc (Nat.le_refl _) _
  have HB1 := Lib.hid hb1
  have HW1 := Lib.hid hw1
  clear hb1 hw1
  go_enter Try.func29, Try.ntmps29
  go_wp2_with (fail)
  rw [← HW1.out]
  refine (FN.new w.heap.size w1).mono ?_
  rintro e w2 ⟨b, T, D, rfl, hf, hbl, hD, hb⟩
  have HF := Lib.hid hf
  have HB2 := Lib.hid (HB1.out.trans (hb.mono HB1.out.size))
  have HBL := Lib.hid (show w.heap.size ≤ b ∧ ∀ j, D j → w.heap.size ≤ j from ⟨Nat.le_trans HB1.out.size hbl, fun j hj => Nat.le_trans HB1.out.size (hD j hj)⟩)
  clear hf hbl hD hb
  obtain ⟨w3, hw3⟩ : ∃ w3, w3 = w2.alloc (.cells #[.int .u8 7] 5) := ⟨_, rfl⟩
  have hb3 : Below w2.heap.size w2 w3 := by rw [hw3]; exact (Below.refl _ _).alloc (Nat.le_refl _) _
  have hp3 : Pin w3 (some ⟨w2.heap.size, 0, none⟩) 1 1 [7] := by
    have hk : Blk w3 w2.heap.size [7] := ⟨by rw [hw3]; exact heap_alloc_new w2 _⟩
    exact hk.pin (fun z hz => by rw [List.mem_singleton.1 hz]; omega) rfl (Nat.le_refl _) (by omega)
  have HF3 := Lib.hid (HF.out.next hb3)
  have HB3 := Lib.hid (HB2.out.trans (hb3.mono HB2.out.size))
  have HP3 := Lib.hid hp3
  have HW3 := Lib.hid hw3
  clear hb3 hp3 hw3
  go_wp2_with (fail)
  rw [← HW3.out]
  have hwr := HF3.out.write 100 (some ⟨w2.heap.size, 0, none⟩) 1 1 [7] HP3.out (by omega)
  rw [show wrBad 100 1 = false by decide, if_neg (by simp), show wrS 0 100 1 = 101 by decide] at hwr
  refine hwr.mono ?_
  rintro e w4 ⟨rfl, T4, D4, hf4, hT4, hD4, ht4⟩
  have HB4 := Lib.hid (show Below w.heap.size w w4 from HB3.out.trans (ht4.below HB3.out.size fun j hj => by
    rcases hj with h1 | rfl | h1
    · exact HBL.out.2 j (HF3.out.td j h1)
    · exact HBL.out.1
    · exact Nat.le_trans HB3.out.size h1))
  obtain ⟨c, hc⟩ : ∃ c, c = wrZ (fun _ => 0) 100 [7] := ⟨_, rfl⟩
  rw [← hc] at hf4
  have hcv : ∀ i, c i = if i = 100 then 7 else 0 := by
    intro i
    rw [hc]
    unfold wrZ
    rw [show wrBad 100 [(7 : Int)].length = false by decide, if_neg (by simp)]
    unfold wrC
    by_cases e : i = 100
    · subst e; rfl
    · rw [if_neg e]
      have : ¬ ((100 : Int).toNat ≤ i ∧ i < (100 : Int).toNat + [(7 : Int)].length) := by
        rintro ⟨h1, h2⟩
        have e1 : (100 : Int).toNat = 100 := rfl
        have e2 : [(7 : Int)].length = 1 := rfl
        omega
      rw [if_neg this]
  have HF4 := Lib.hid hf4
  have HCV := Lib.hid hcv
  clear hwr hf4 hT4 hD4 ht4 hc hcv
  obtain ⟨p, fr, hfl⟩ := HF4.out.at'
  have HFL := Lib.hid hfl
  clear hfl
  go_wp2_with (fail)
  refine (fsize_any HFL.out).mono ?_
  rintro e w5 ⟨rfl, rfl⟩
  go_wp2_with (fail)
  refine (fmap_any HFL.out).mono ?_
  rintro e w5 ⟨rfl, rfl⟩
  go_wp2_with (fail)
  refine (fmap_any HFL.out).mono ?_
  rintro e w5 ⟨rfl, rfl⟩
  go_wp2_with (fail)
  have hsel : selL (theP (fun _ => 0) (cX c)) 828 = [1] := by
    refine sel_one (m := 1) (by omega) fun k hk => ?_
    unfold theP
    by_cases e : k = 1
    · subst e
      have : cX c 1 ≠ [] := fun h => by
        have h1 := cX_byt c 1 (j := 44) (by omega)
        rw [h, HCV.out] at h1
        simp [byt] at h1
      cases hx : cX c 1 with
      | nil => exact absurd hx this
      | cons y l => rfl
    · rw [cB_zero fun j hj => by rw [HCV.out, if_neg (by omega)]]
      simp [e]
  have hth := pmp_ok.there HFL.out.mp
  rw [hsel] at hth
  refine hth.mono ?_
  rintro e w5 ⟨a5, c5, rfl, hi5, _, hb5⟩
  have HI5 := Lib.hid hi5
  have HB5 := Lib.hid (HB4.out.trans (hb5.mono HB4.out.size))
  have HF5 := Lib.hid (HF4.out.next hb5)
  clear hth hsel hi5 hb5
  obtain ⟨w6, hw6⟩ : ∃ w6, w6 = w5.alloc (.cells #[.int .i64 1] 3) := ⟨_, rfl⟩
  have hb6 : Below w5.heap.size w5 w6 := by rw [hw6]; exact (Below.refl _ _).alloc (Nat.le_refl _) _
  have hi6 : Ins w6 (some ⟨w5.heap.size, 0, none⟩) 1 [1] := by rw [hw6]; exact ins_lit rfl rfl rfl
  have HI6 := Lib.hid hi6
  have HI56 := Lib.hid (HI5.out.next hb6)
  have HB6 := Lib.hid (HB5.out.trans (hb6.mono HB5.out.size))
  have HF6 := Lib.hid (HF5.out.next hb6)
  have HW6 := Lib.hid hw6
  clear hb6 hi6 hw6
  go_wp2_with (fail)
  rw [← HW6.out]
  refine (sameInts_yes a5 _ 1 c5 1 [1] w6 HI56.out HI6.out (by omega)).mono ?_
  rintro e w7 ⟨rfl, hb7⟩
  have HB7 := Lib.hid (HB6.out.trans (hb7.mono HB6.out.size))
  have HF7 := Lib.hid (HF6.out.next hb7)
  clear hb7
  go_wp2_with (fail)
  have hrd := HF7.out.read 99 5 (by omega) (by omega)
  have e99 : ((99 : Nat) : Int) = 99 := rfl
  have e5 : ((5 : Nat) : Int) = 5 := rfl
  rw [e99, e5, show rdC c 99 (Nat.min 5 (101 - 99)) = [0, 7] by
    have : Nat.min 5 (101 - 99) = 2 := rfl
    rw [this]
    unfold rdC
    have h2 : List.range 2 = [0, 1] := rfl
    rw [h2, List.map_cons, List.map_cons, List.map_nil, HCV.out, HCV.out]
    rfl] at hrd
  refine hrd.mono ?_
  rintro e w8 ⟨a8, n8, c8, rfl, hp8, _, hb8⟩
  obtain rfl : n8 = 2 := by have := hp8.len; simpa using this.symm
  have HP8 := Lib.hid hp8
  have HB8 := Lib.hid (HB7.out.trans (hb8.mono HB7.out.size))
  clear hrd e99 e5 hp8 hb8
  obtain ⟨w9, hw9⟩ : ∃ w9, w9 = w8.alloc (.cells #[.int .u8 0, .int .u8 7] 5) := ⟨_, rfl⟩
  have hb9 : Below w8.heap.size w8 w9 := by rw [hw9]; exact (Below.refl _ _).alloc (Nat.le_refl _) _
  have hp9 : Pin w9 (some ⟨w8.heap.size, 0, none⟩) 2 2 [0, 7] := by
    have hk : Blk w9 w8.heap.size [0, 7] := ⟨by rw [hw9]; exact heap_alloc_new w8 _⟩
    exact hk.pin (fun z hz => by simp at hz; omega) rfl (Nat.le_refl _) (by omega)
  have HP9 := Lib.hid hp9
  have HP89 := Lib.hid (HP8.out.next hb9)
  have HB9 := Lib.hid (HB8.out.trans (hb9.mono HB8.out.size))
  have HW9 := Lib.hid hw9
  clear hb9 hp9 hw9
  have hsm := same_any a8 (some ⟨w8.heap.size, 0, none⟩) 2 c8 2 2 [0, 7] [0, 7] w9 HP89.out.bys HP9.out.bys (by omega)
  rw [sameB_true rfl] at hsm
  have HSM := Lib.hid hsm
  clear hsm
  go_wp2_with (fail)
  rw [← HW9.out]
  refine HSM.out.mono ?_
  rintro e w10 ⟨rfl, q, rfl⟩
  go_wp2_with (fail)
  go_ret
  exact ⟨rfl, HB9.out.trans (below_drewN (Below.refl w9.heap.size w9) q |>.mono HB9.out.size)⟩

theorem Turn.of_grownR {M : Nat → Prop} {w w' : World} {row : Option Nat} (h : w.grownBy w' row) (hb : ∀ b, row = some b → M b) : Turn M w w' :=
  ⟨h.os, h.tape, h.output, h.size, fun k hk hn => h.block k hk (fun e => hn (hb k e.symm))⟩
/-- 'append(s, l...)' of numbers, s of the call's own. -/
abbrev pcV (p : Pc) : Value := .slice p.a p.n p.c
structure StG (w : World) (B g : Nat) (vA vD : Value) (ks : List Int) (ps : List Pc) : Prop where
  row : w.heap[g]? = some (.cells #[vA, vD] 43 (0, 0))
  lo : B ≤ g
  oa : OwnI w B vA ks.length ks
  od : w.ownsRow B 50 1 vD ps.length (ps.map pcV)
  na : vA.ownBlock ≠ some g
  nd : vD.ownBlock ≠ some g
  ne : ∀ j, vA.ownBlock = some j → vD.ownBlock ≠ some j
section
variable {w w' : World} {B g : Nat} {vA vD : Value} {ks : List Int} {ps : List Pc}
theorem StG.next (h : StG w B g vA vD ks ps) (hb : Below w.heap.size w w') : StG w' B g vA vD ks ps :=
  ⟨(hb.block g (lt_of_block h.row)).trans h.row, h.lo, h.oa.next hb, h.od.kept (row := none) ⟨hb.os, hb.tape, hb.output, hb.size, fun k hk _ => hb.block k hk⟩ (by cases vD.ownBlock <;> simp), h.na, h.nd, h.ne⟩
theorem StG.cells (h : StG w B g vA vD ks ps) : g < w.heap.size ∧ w.cell? ⟨g, 0, none⟩ = some vA ∧ w.cell? ⟨g, 1, none⟩ = some vD ∧ w.frozen? ⟨g, 0, none⟩ = false ∧ w.frozen? ⟨g, 1, none⟩ = false :=
  ⟨lt_of_block h.row, cell_of_row w g 0 _ _ (0, 0) h.row, cell_of_row w g 1 _ _ (0, 0) h.row, frozen_of_row w g 0 _ _ h.row, frozen_of_row w g 1 _ _ h.row⟩
end

theorem Own.turn {M : Nat → Prop} {w w' : World} {B : Nat} {v : Value} {n : Nat} {zs : List Int} (h : Own w B v n zs) (ht : Turn M w w') (hv : ∀ j, v.ownBlock = some j → ¬ M j) : Own w' B v n zs := by
  refine ⟨⟨h.row.1, ?_⟩, h.small⟩
  rcases h.row.2 with h1 | ⟨g, cap, cur, rfl, hb, hg, r⟩
  · exact .inl h1
  · exact .inr ⟨g, cap, cur, rfl, hb, (ht.block g (lt_of_block hg) (hv g rfl)).trans hg, r⟩
/-- 'append(s, z)' of one byte. -/
theorem wpList_ap1 {w : World} {ops : Array Oper} {rest : List Oper} {o : Oper} {a : Act} {Q : Exit → Act → World → Prop} (hgd : o.guard = none) (s x : Operand)
    (ho : o.op = .call { callee := .builtin .append, args := #[s, x], argTypes := #[50, 50] })
    (B : Nat) (v : Value) (n : Nat) (zs : List Int) (hs : a.eval s = v) (hown : Own w B v n zs) (g : Nat) (hx : a.eval x = .slice (some ⟨g, 0, none⟩) 1 1) (hg : w.cell? ⟨g, 0, none⟩ = some (.int .u8 0))
    (hn : n + 1 ≤ 1000000) (hB : B ≤ w.heap.size)
    (h : ∀ v' w', Own w' B v' (n + 1) (zs ++ [0]) → w.grownBy w' v.ownBlock → (∀ j, v'.ownBlock = some j → v.ownBlock = some j ∨ j = w.heap.size) → wpList Try.prog ops Q rest (a.put o.dst v') w') : wpList Try.prog ops Q (o :: rest) a w := by
  obtain ⟨i0, hi, hz0, hz1, hz2⟩ := info_parts info8
  obtain ⟨v', w', hr, h2, h3, _, h5⟩ := run_append_own_at (P := Try.prog) w B 50 o.type 5 i0 (.int .u8 0) 1 1 Try.underlying50 hi hz0 hz1 hz2 rfl (by decide) v n _ hown.row ⟨g, 0, none⟩ 1 1 [.int .u8 0] rfl (fun j u hj => by
    cases j with
    | zero => simp at hj; subst hj; exact hg
    | succ j => simp at hj) (fun u hu => by rw [List.mem_singleton.1 hu]; rfl) (by unfold maxLen; omega) (by omega) hB
  refine wpList_plain hgd fun K' hK => ?_
  unfold Oper.wp execOp
  simp only [ho, resolve, invoke, builtin, Sem.run_bind, Sem.run_pure, Result.andThen_ok, List.map_toArray, List.map_cons, List.map_nil, hs, hx, hr]
  refine hK _ _ (h v' w' ⟨by rw [List.map_append]; exact h2, AllB.app hown.small (fun z hz => by rw [List.mem_singleton.1 hz]; omega)⟩ h3 fun j e => ?_)
  rcases h5 with e5 | e5
  · exact .inl (by rw [← e5]; exact e)
  · rw [e5] at e
    exact .inr (Option.some.inj e).symm
/-- A front of them. -/
theorem Own.front {w : World} {B : Nat} {a : Option Addr} {n c : Nat} {zs : List Int} (h : Own w B (.slice a n c) n zs) {k : Nat} (hk : k ≤ n) : Own w B (.slice a k c) k (zs.take k) ∧ n ≤ c := by
  have hl := h.len
  rcases h.row.2 with ⟨e, h0⟩ | ⟨g, cap, cur, e, hb, hg, hnc, hm, hsz, htake⟩
  · cases e
    obtain rfl : k = 0 := by omega
    exact ⟨⟨⟨by simp, .inl ⟨rfl, rfl⟩⟩, fun z hz => by simp at hz⟩, Nat.le_refl _⟩
  · cases e
    refine ⟨⟨⟨by simp; omega, .inr ⟨g, c, cur, rfl, hb, hg, by omega, hm, hsz, ?_⟩⟩, fun z hz => h.small z (List.mem_of_mem_take hz)⟩, hnc⟩
    rw [Nat.mul_one] at htake ⊢
    rw [List.map_take, ← htake, List.take_take]
    congr 1
    omega
/-- A file and bytes beside it. -/
structure AlF (w0 w : World) (B b s : Nat) (T D : Nat → Prop) (c : Nat → Int) (v : Value) (m : Nat) (L : List Int) : Prop where
  f : FN w b s T D c
  o : Own w B v m L
  ap : ∀ j, v.ownBlock = some j → j ≠ b ∧ ¬ D j
  tl : ∀ j, T j → w0.heap.size ≤ j
  dl : ∀ j, D j → w0.heap.size ≤ j
  bl : w0.heap.size ≤ b
  be : Below w0.heap.size w0 w
  bb : w0.heap.size ≤ B ∧ B ≤ w.heap.size
section
variable {w0 w w' : World} {B b s m : Nat} {T D : Nat → Prop} {c : Nat → Int} {v v' : Value} {L : List Int}
theorem AlF.next (h : AlF w0 w B b s T D c v m L) (hb : Below w.heap.size w w') : AlF w0 w' B b s T D c v m L :=
  ⟨h.f.next hb, h.o.below (Nat.le_refl _) hb, h.ap, h.tl, h.dl, h.bl, h.be.trans (hb.mono h.be.size), h.bb.1, Nat.le_trans h.bb.2 hb.size⟩
theorem AlF.vlt (h : AlF w0 w B b s T D c v m L) : ∀ j, v.ownBlock = some j → B ≤ j ∧ j < w.heap.size := fun j e => World.ownsRow.lt h.o.row j e
theorem AlF.grow (h : AlF w0 w B b s T D c v m L) {n : Nat} {L' : List Int} (ho : Own w' B v' n L') (hg : w.grownBy w' v.ownBlock) (hv : ∀ j, v'.ownBlock = some j → v.ownBlock = some j ∨ j = w.heap.size) : AlF w0 w' B b s T D c v' n L' := by
  have ht : Turn (fun j => v.ownBlock = some j) w w' := Turn.of_grownR hg (fun b e => e)
  refine ⟨h.f.turn ht (fun e => (h.ap _ e).1 rfl) (fun j hj e => (h.ap _ e).2 hj), ho, fun j e => ?_, h.tl, h.dl, h.bl, h.be.grown hg h.be.size fun k e => Nat.le_trans h.bb.1 (h.vlt k e).1, h.bb.1, Nat.le_trans h.bb.2 ht.size⟩
  rcases hv j e with h1 | h1
  · exact h.ap j h1
  · obtain ⟨l1, _, l3⟩ := h.f.lt
    exact ⟨by omega, fun hD => by have := l3 j hD; omega⟩
theorem AlF.call (h : AlF w0 w B b s T D c v m L) {s' : Nat} {c' : Nat → Int} (hl : FnL w b T D s' c' w') : ∃ T' D', AlF w0 w' B b s' T' D' c' v m L := by
  obtain ⟨T', D', hf, hT, hD, ht⟩ := hl
  obtain ⟨l1, l2, l3⟩ := h.f.lt
  have hsz := h.be.size
  refine ⟨T', D', hf, h.o.turn ht fun j e => ?_, fun j e => ?_, fun j hj => ?_, fun j hj => ?_, h.bl, h.be.trans (ht.below hsz fun j hj => ?_), h.bb.1, Nat.le_trans h.bb.2 ht.size⟩
  · have h1 := h.ap j e
    have h2 := h.vlt j e
    rintro (h3 | h3 | h3)
    · exact h1.2 (h.f.td j h3)
    · exact h1.1 h3
    · omega
  · have h1 := h.ap j e
    have h2 := h.vlt j e
    refine ⟨h1.1, fun h3 => ?_⟩
    rcases hD j h3 with h4 | h4
    · exact h1.2 h4
    · omega
  · rcases hT j hj with h4 | h4
    · exact h.tl j h4
    · omega
  · rcases hD j hj with h4 | h4
    · exact h.dl j h4
    · omega
  · rcases hj with h4 | rfl | h4
    · exact h.tl j h4
    · exact h.bl
    · omega
/-- A box that neither the file nor the bytes lie in. -/
structure AlX (w0 w : World) (B b s : Nat) (T D : Nat → Prop) (c : Nat → Int) (v : Value) (m : Nat) (L : List Int) (bx : Nat) (cs : Array Value) : Prop where
  al : AlF w0 w B b s T D c v m L
  row : w.heap[bx]? = some (.cells cs 62 (0, 0))
  xb : bx ≠ b ∧ ¬ D bx ∧ v.ownBlock ≠ some bx
variable {bx : Nat} {cs : Array Value}
theorem AlX.next (h : AlX w0 w B b s T D c v m L bx cs) (hb : Below w.heap.size w w') : AlX w0 w' B b s T D c v m L bx cs :=
  ⟨h.al.next hb, (hb.block bx (lt_of_block h.row)).trans h.row, h.xb⟩
theorem AlX.mk' (h : AlF w0 w B b s T D c v m L) (hr : w'.heap[w.heap.size]? = some (.cells cs 62 (0, 0))) (hb : Below w.heap.size w w') : AlX w0 w' B b s T D c v m L w.heap.size cs := by
  obtain ⟨l1, _, l3⟩ := h.f.lt
  refine ⟨h.next hb, hr, by omega, fun hD => ?_, fun e => ?_⟩
  · have := l3 _ hD; omega
  · have := (h.vlt _ e).2; omega
theorem AlX.grow (h : AlX w0 w B b s T D c v m L bx cs) {n : Nat} {L' : List Int} (ho : Own w' B v' n L') (hg : w.grownBy w' v.ownBlock) (hv : ∀ j, v'.ownBlock = some j → v.ownBlock = some j ∨ j = w.heap.size) : AlX w0 w' B b s T D c v' n L' bx cs := by
  have hl := lt_of_block h.row
  refine ⟨h.al.grow ho hg hv, (hg.block bx hl fun e => h.xb.2.2 e.symm).trans h.row, h.xb.1, h.xb.2.1, fun e => ?_⟩
  rcases hv _ e with h1 | h1
  · exact h.xb.2.2 h1
  · omega
theorem AlX.call (h : AlX w0 w B b s T D c v m L bx cs) {s' : Nat} {c' : Nat → Int} (hl : FnL w b T D s' c' w') : ∃ T' D', AlX w0 w' B b s' T' D' c' v m L bx cs := by
  have hbl := lt_of_block h.row
  obtain ⟨T', D', hf, hT, hD, ht⟩ := hl
  obtain ⟨l1, l2, l3⟩ := h.al.f.lt
  have hsz := h.al.be.size
  refine ⟨T', D', ⟨hf, h.al.o.turn ht fun j e => ?_, fun j e => ?_, fun j hj => ?_, fun j hj => ?_, h.al.bl, h.al.be.trans (ht.below hsz fun j hj => ?_), h.al.bb.1, Nat.le_trans h.al.bb.2 ht.size⟩, (ht.block bx hbl ?_).trans h.row, h.xb.1, fun h3 => ?_, h.xb.2.2⟩
  · have h1 := h.al.ap j e
    have h2 := h.al.vlt j e
    rintro (h3 | h3 | h3)
    · exact h1.2 (h.al.f.td j h3)
    · exact h1.1 h3
    · omega
  · have h1 := h.al.ap j e
    have h2 := h.al.vlt j e
    refine ⟨h1.1, fun h3 => ?_⟩
    rcases hD j h3 with h4 | h4
    · exact h1.2 h4
    · omega
  · rcases hT j hj with h4 | h4
    · exact h.al.tl j h4
    · omega
  · rcases hD j hj with h4 | h4
    · exact h.al.dl j h4
    · omega
  · rcases hj with h4 | rfl | h4
    · exact h.al.tl j h4
    · exact h.al.bl
    · omega
  · rintro (h3 | h3 | h3)
    · exact h.xb.2.1 (h.al.f.td _ h3)
    · exact h.xb.1 h3
    · omega
  · rcases hD _ h3 with h4 | h4
    · exact h.xb.2.1 h4
    · omega
/-- A byte of them is stored. -/
theorem AlX.put {g cap : Nat} (h : AlX w0 w B b s T D c (.slice (some ⟨g, 0, none⟩) m cap) m L bx cs) (i : Nat) {z : Int} (hz : 0 ≤ z ∧ z ≤ 255) : AlX w0 (w.setCell ⟨g, i, none⟩ (.int .u8 z)) B b s T D c (.slice (some ⟨g, 0, none⟩) m cap) m (L.set i z) bx cs := by
  have ht : Turn (· = g) w (w.setCell ⟨g, i, none⟩ (.int .u8 z)) := turn_set w g i _
  have hap := h.al.ap g rfl
  have hv := h.al.vlt g rfl
  refine ⟨⟨h.al.f.turn ht (fun e => hap.1 e.symm) (fun j hj e => hap.2 (e ▸ hj)), ⟨?_, fun y hy => ?_⟩, h.al.ap, h.al.tl, h.al.dl, h.al.bl, h.al.be.trans (ht.below h.al.be.size fun j e => by rw [e]; exact Nat.le_trans h.al.bb.1 hv.1), h.al.bb.1, Nat.le_trans h.al.bb.2 ht.size⟩, (ht.block bx (lt_of_block h.row) fun e => h.xb.2.2 (by rw [e]; rfl)).trans h.row, h.xb⟩
  · have := (World.ownsRow.stored h.al.o.row i (.int .u8 z)).1
    rw [List.map_set]
    exact this
  · rcases List.mem_or_eq_of_mem_set hy with h1 | rfl
    · exact h.al.o.small y h1
    · exact hz
end
theorem rdC_succ (c : Nat → Int) (at' n : Nat) : rdC c at' (n + 1) = rdC c at' n ++ [c (at' + n)] := by simp [rdC, List.range_succ]
theorem rdC_take (c : Nat → Int) (at' : Nat) {k n : Nat} (h : k ≤ n) : (rdC c at' n).take k = rdC c at' k := by
  unfold rdC
  rw [← List.map_take, List.take_range, Nat.min_eq_left h]
theorem rdC_congr {c d : Nat → Int} {at' n : Nat} (h : ∀ i, i < n → c (at' + i) = d (at' + i)) : rdC c at' n = rdC d at' n := List.map_congr_left fun i hi => h i (List.mem_range.1 hi)
end Go.Proofs.Ytegcjpocdfmpfaa
