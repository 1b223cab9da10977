/-
  What the statements of files share: alive, great; New of nothing, Clone.
-/
import Derived.Test.YtegcjpocdfmpfaaYai
import Derived.Deep.AppendLies
set_option linter.unusedVariables false
set_option linter.unusedSimpArgs false
set_option maxRecDepth 100000
set_option maxHeartbeats 16000000
namespace Go.Proofs.Ytegcjpocdfmpfaa
open Go.RowKit

theorem num_nil : num [] = fun _ => 0 := by funext i; simp [num]
theorem cX_zero : cX (fun _ => 0) = fun _ => [] := by funext k; exact cB_zero fun j hj => rfl
/-- A new file of nothing. -/
theorem FN.new (gS : Nat) (w : World) : Calls Try.prog 31 #[.int .i64 0, .slice none 0 0, .iface 41 (.pointer (some ⟨gS, 0, none⟩))] w fun e w' => ∃ b T D, e = .returned (.tuple #[.pointer (some ⟨b, 0, none⟩), .int .i64 0]) ∧ FN w' b 0 T D (fun _ => 0) ∧ w.heap.size ≤ b ∧ (∀ j, D j → w.heap.size ≤ j) ∧ Below w.heap.size w w' := by
  refine (fnew_any 0 none 0 0 [] gS w ⟨rfl, .inl rfl⟩ (fun _ => ⟨rfl, rfl⟩) (by omega)).mono ?_
  rintro e w' ⟨hb, ⟨rfl, hno⟩ | ⟨_, _, _, b, p, T, D, rfl, hf, h1, h2⟩⟩
  · exact (hno ⟨by omega, by omega, Nat.zero_le _, rfl⟩).elim
  · refine ⟨b, T, D, rfl, ⟨⟨p, gS, ?_⟩, fun i => ⟨Int.le_refl 0, by omega⟩, fun i _ => rfl⟩, h1, h2, hb⟩
    rw [cX_zero]
    rw [num_nil] at hf
    exact hf
/-- A file's clone: a file of its own. -/
theorem fclone_any {w : World} {b s p : Nat} {fr : Value} {T D : Nat → Prop} {A : Nat → Int} {X : Nat → List Int} {pS : Nat} (hfr : fr = .iface 41 (.pointer (some ⟨pS, 0, none⟩))) (h : FlAt w b s p fr T D A X) :
    Calls Try.prog 43 #[.pointer (some ⟨b, 0, none⟩)] w fun e w' => ∃ b2 p2 T2 D2, e = .returned (.pointer (some ⟨b2, 0, none⟩)) ∧ FlAt w' b2 s p2 fr T2 D2 A X ∧ w.heap.size ≤ b2 ∧ (∀ j, T2 j → w.heap.size ≤ j) ∧ (∀ j, D2 j → (D j ∧ ¬ T j) ∨ w.heap.size ≤ j) ∧ Below w.heap.size w w' := by
  subst hfr
  have HF := Lib.hid h
  obtain ⟨c0, c1, c2, l0, f0⟩ := h.cells
  have hdr := h.next (below_drewN (Below.refl w.heap.size w) 1)
  have HD := Lib.hid hdr
  clear h hdr f0
  go_enter Try.func43, Try.ntmps43
  go_upto_region 1 with fail
  refine wp_region_held_drew (S := (fun w' => w'.cell? ⟨b, 0, none⟩ = some (.int .i64 (s : Int)) ∧ w'.cell? ⟨b, 1, none⟩ = some (.pointer (some ⟨p, 0, none⟩)) ∧ w'.cell? ⟨b, 2, none⟩ = some (.iface 41 (.pointer (some ⟨pS, 0, none⟩))))) (by kernel_rfl) ⟨c0, c1, c2⟩ (fun hHeld => ?_)
  refine wpAnyH_take (i := 0) (v := ?_) rfl (by kernel_rfl) (by kernel_rfl) (by kernel_rfl) (fun _ _ _ h => h) (Or.inl ⟨by rfl, fun w hSw => ?_⟩) (by assumption) ?_
  rotate_left
  · (try dsimp only at hSw); go_simp; try with_reducible rfl
  simp only [Act.put, List.setIfInBounds_toArray, List.set_cons_zero, List.set_cons_succ, List.getElem_toArray, List.getElem_cons_zero]
  refine wpAnyH_take (i := 1) (v := ?_) rfl (by kernel_rfl) (by kernel_rfl) (by kernel_rfl) (fun _ _ _ h => h) (Or.inl ⟨by rfl, fun w hSw => ?_⟩) (by assumption) ?_
  rotate_left
  · (try dsimp only at hSw); go_simp; try with_reducible rfl
  simp only [Act.put, List.setIfInBounds_toArray, List.set_cons_zero, List.set_cons_succ, List.getElem_toArray, List.getElem_cons_succ, List.getElem_cons_zero]
  refine wpAnyH_take (i := 2) (v := ?_) rfl (by kernel_rfl) (by kernel_rfl) (by kernel_rfl) (fun _ _ _ h => h) (Or.inl ⟨by rfl, fun w hSw => ?_⟩) (by assumption) ?_
  rotate_left
  · (try dsimp only at hSw); go_simp; try with_reducible rfl
  simp only [Act.put, List.setIfInBounds_toArray, List.set_cons_zero, List.set_cons_succ, List.getElem_toArray, List.getElem_cons_succ, List.getElem_cons_zero]
  refine wpAnyH_take (i := 3) (v := ?_) rfl (by kernel_rfl) (by kernel_rfl) (by kernel_rfl) (fun _ _ _ h => h) (Or.inl ⟨by rfl, fun w hSw => ?_⟩) (by assumption) ?_
  rotate_left
  · (try dsimp only at hSw); go_simp; try with_reducible rfl
  simp only [Act.put, List.setIfInBounds_toArray, List.set_cons_zero, List.set_cons_succ, List.getElem_toArray, List.getElem_cons_succ, List.getElem_cons_zero]
  refine wpAnyH_take (i := 4) (v := ?_) rfl (by kernel_rfl) (by kernel_rfl) (by kernel_rfl) (fun _ _ _ h => h) (Or.inl ⟨by rfl, fun w hSw => ?_⟩) (by assumption) ?_
  rotate_left
  · (try dsimp only at hSw); go_simp; try with_reducible rfl
  simp only [Act.put, List.setIfInBounds_toArray, List.set_cons_zero, List.set_cons_succ, List.getElem_toArray, List.getElem_cons_succ, List.getElem_cons_zero]
  refine wpAnyH_take (i := 5) (v := ?_) rfl (by kernel_rfl) (by kernel_rfl) (by kernel_rfl) (fun _ _ _ h => h) (Or.inl ⟨by rfl, fun w hSw => ?_⟩) (by assumption) ?_
  rotate_left
  · (try dsimp only at hSw); go_simp; try with_reducible rfl
  simp only [Act.put, List.setIfInBounds_toArray, List.set_cons_zero, List.set_cons_succ, List.getElem_toArray, List.getElem_cons_succ, List.getElem_cons_zero]
  refine wpAnyH_take (i := 6) (v := ?_) rfl (by kernel_rfl) (by kernel_rfl) (by kernel_rfl) (fun _ _ _ h => h) (Or.inl ⟨by rfl, fun w hSw => ?_⟩) (by assumption) ?_
  rotate_left
  · (try dsimp only at hSw); go_simp; try with_reducible rfl
  simp only [Act.put, List.setIfInBounds_toArray, List.set_cons_zero, List.set_cons_succ, List.getElem_toArray, List.getElem_cons_succ, List.getElem_cons_zero]
  refine wpAnyH_take (i := 7) (v := ?_) rfl (by kernel_rfl) (by kernel_rfl) (by kernel_rfl) (fun _ _ _ h => h) (Or.inl ⟨by rfl, fun w hSw => ?_⟩) (by assumption) ?_
  rotate_left
  · (try dsimp only at hSw); go_simp; try with_reducible rfl
  simp only [Act.put, List.setIfInBounds_toArray, List.set_cons_zero, List.set_cons_succ, List.getElem_toArray, List.getElem_cons_succ, List.getElem_cons_zero]
  refine wpAnyH_take (i := 9) (v := ?_) rfl (by kernel_rfl) (by kernel_rfl) (by kernel_rfl) (fun _ _ _ h => h) (Or.inl ⟨by rfl, fun w hSw => ?_⟩) (by assumption) ?_
  rotate_left
  · (try dsimp only at hSw); go_simp; try with_reducible rfl
  simp only [Act.put, List.setIfInBounds_toArray, List.set_cons_zero, List.set_cons_succ, List.getElem_toArray, List.getElem_cons_succ, List.getElem_cons_zero]
  refine wpAnyH_take (i := 10) (v := ?_) rfl (by kernel_rfl) (by kernel_rfl) (by kernel_rfl) (fun _ _ _ h => h) (Or.inl ⟨by rfl, fun w hSw => ?_⟩) (by assumption) ?_
  rotate_left
  · (try dsimp only at hSw); go_simp; try with_reducible rfl
  simp only [Act.put, List.setIfInBounds_toArray, List.set_cons_zero, List.set_cons_succ, List.getElem_toArray, List.getElem_cons_succ, List.getElem_cons_zero]
  refine wpAnyH_take (i := 11) (v := ?_) rfl (by kernel_rfl) (by kernel_rfl) (by kernel_rfl) (fun _ _ _ h => h) (Or.inl ⟨by rfl, fun w hSw => ?_⟩) (by assumption) ?_
  rotate_left
  · (try dsimp only at hSw); go_simp; try with_reducible rfl
  simp only [Act.put, List.setIfInBounds_toArray, List.set_cons_zero, List.set_cons_succ, List.getElem_toArray, List.getElem_cons_succ, List.getElem_cons_zero]
  refine wpAnyH_take (i := 12) (v := ?_) rfl (by kernel_rfl) (by kernel_rfl) (by kernel_rfl) (fun _ _ _ h => h) (Or.inl ⟨by rfl, fun w hSw => ?_⟩) (by assumption) ?_
  rotate_left
  · (try dsimp only at hSw); go_simp; try with_reducible rfl
  simp only [Act.put, List.setIfInBounds_toArray, List.set_cons_zero, List.set_cons_succ, List.getElem_toArray, List.getElem_cons_succ, List.getElem_cons_zero]
  refine wpAnyH_ready (rs := [8]) (by kernel_rfl) (by simp) ?_
  refine AllReadyH.cons rfl (fun K hK => ?_) AllReadyH.nil
  simp only [List.getElem_toArray, List.getElem_cons_succ, List.getElem_cons_zero]
  go_simp
  refine (pmp_ok.clone HD.out.mp).mono ?_
  rintro e w2 ⟨q, T2, D2, rfl, hP, hT, hD2, hb⟩
  have HF2 := Lib.hid (HD.out.next hb)
  have HP := Lib.hid hP
  have HT := Lib.hid hT
  have HD2 := Lib.hid hD2
  have HB := Lib.hid (show Below w.heap.size w w2 from (below_drewN (Below.refl w.heap.size w) 1).trans hb)
  obtain ⟨d0, d1, d2, m0, g0⟩ := HF2.out.cells
  clear hP hT hD2 hb g0
  go_wp2_with (fail)
  refine hK.out _ _ ⟨d0, d1, d2⟩ (fun hHeld => ?_)
  clear hK K
  refine wpAnyH_take (i := 13) (v := ?_) rfl (by kernel_rfl) (by kernel_rfl) (by kernel_rfl) (fun _ _ _ h => h) (Or.inl ⟨by rfl, fun w hSw => ?_⟩) (by assumption) ?_
  rotate_left
  · (try dsimp only at hSw); go_simp; try with_reducible rfl
  simp only [Act.put, List.setIfInBounds_toArray, List.set_cons_zero, List.set_cons_succ, List.getElem_toArray, List.getElem_cons_succ, List.getElem_cons_zero]
  refine wpAnyH_ready (rs := [14]) (by kernel_rfl) (by simp) ?_
  refine AllReadyH.cons rfl (fun K hK => ?_) AllReadyH.nil
  simp only [List.getElem_toArray, List.getElem_cons_succ, List.getElem_cons_zero]
  go_simp
  obtain ⟨w3, hw3⟩ : ∃ w3, w3 = w2.alloc (.cells #[.int .i64 (s : Int), .pointer (some ⟨q, 0, none⟩), .iface 41 (.pointer (some ⟨pS, 0, none⟩))] 125 (0, 0)) := ⟨_, rfl⟩
  have hb3 : Below w2.heap.size w2 w3 := by rw [hw3]; exact (Below.refl _ _).alloc (Nat.le_refl _) _
  have hr3 : w3.heap[w2.heap.size]? = some (.cells #[.int .i64 (s : Int), .pointer (some ⟨q, 0, none⟩), .iface 41 (.pointer (some ⟨pS, 0, none⟩))] 125 (0, 0)) := by rw [hw3]; exact heap_alloc_new w2 _
  rw [← hw3]
  obtain ⟨e0, e1, e2, _, _⟩ := (HF2.out.next hb3).cells
  refine hK _ _ ⟨e0, e1, e2⟩ (fun hHeld => ?_)
  clear hK K
  refine wpAnyH_take (i := 15) (v := ?_) rfl (by kernel_rfl) (by kernel_rfl) (by kernel_rfl) (fun _ _ _ h => h) (Or.inl ⟨by rfl, fun w hSw => ?_⟩) (by assumption) ?_
  rotate_left
  · (try dsimp only at hSw); go_simp; try with_reducible rfl
  simp only [Act.put, List.setIfInBounds_toArray, List.set_cons_zero, List.set_cons_succ, List.getElem_toArray, List.getElem_cons_succ, List.getElem_cons_zero]
  refine wpAnyH_done (by kernel_rfl) ?_ _
  go_wp2_with (fail)
  go_ret
  refine ⟨w2.heap.size, q, T2, D2, rfl, ⟨hr3, pmp_ok.next HP.out hb3, fun h => ?_, HF.out.sz, HF.out.fit⟩, HB.out.size, HT.out, HD2.out, HB.out.trans (hb3.mono HB.out.size)⟩
  have := pmp_ok.lt HP.out _ h
  omega
/-- Is a row of blocks or calls greater than is looked at? -/
theorem fgreat_any (ra : Option Addr) (rn rc : Nat) (fr : Nat → Pc) (a : Option Addr) (n c : Nat) (f : Nat → Cb) (w : World) (hr : Rws w ra rn fr) (hrn : rn ≤ 9223372036854775807) (hrb : ∀ i, i < rn → (fr i).n ≤ reachBytes) (hc : CbsAt w a n f) :
    Calls Try.prog 30 #[.slice ra rn rc, .slice a n c] w fun e w' => ∃ gb, e = .returned (.bool gb) ∧ (gb = false → rn ≤ 5000 ∧ (∀ i, i < rn → (fr i).n ≤ 5000) ∧ n ≤ 60 ∧ ∀ i, i < n → (f i).l ≤ 20000) ∧ Below w.heap.size w w' := by
  have hwg := weigh_any 5000 (by omega) ra rn rc fr w hr hrn hrb
  have e5 : ((5000 : Nat) : Int) = 5000 := rfl
  rw [e5] at hwg
  have HWG := Lib.hid hwg
  have HC := Lib.hid hc
  clear hwg e5 hr hrn hrb hc
  go_enter Try.func30, Try.ntmps30
  go_wp2_with (fail)
  refine HWG.out.mono ?_
  rintro e w2 ⟨t, ht, rfl, rfl, hf⟩
  by_cases h1 : 5000 < t
  · have k1 : (5000 : Int) < (t : Int) := by omega
    clear hf
    go_wp2_with (fail)
    go_ret
    exact ⟨true, rfl, (fun h => by cases h), Below.refl _ _⟩
  have k1 : ¬ (5000 : Int) < (t : Int) := by omega
  have HF := Lib.hid (hf (by omega))
  clear hf
  by_cases h2 : 60 < n
  · have k2 : (60 : Int) < (n : Int) := by omega
    go_wp2_with (fail)
    go_ret
    exact ⟨true, rfl, (fun h => by cases h), Below.refl _ _⟩
  have k2 : ¬ (60 : Int) < (n : Int) := by omega
  clear h1 h2
  go_wp2_with (fail)
  clear k1
  go_loopw [5, 6] (fun v5 v6 wr => ∃ i t : Nat, i ≤ n ∧ v6 = .int .i64 i ∧ v5 = .int .i64 t ∧ t ≤ 20000 ∧ (∀ j, j < i → (f j).l ≤ 20000) ∧ Below w.heap.size w wr) (fun _ v6 _ => n - (RowKit.intOf v6).toNat)
  case atStart => exact ⟨0, 0, by omega, rfl, rfl, by omega, (fun j hj => by omega), Below.refl _ _⟩
  case round =>
    obtain ⟨i, t2, hi, rfl, rfl, ht2, hall, hb⟩ := hrel
    have HA := Lib.hid hall
    have HB := Lib.hid hb
    clear hall hb
    by_cases hlt : i < n
    · rcases HC.out.next HB.out with h0 | ⟨b1, o1, rfl, l1, r1⟩
      · omega
      have hx := r1 i hlt
      obtain ⟨x, hxe⟩ : ∃ x, x = f i := ⟨_, rfl⟩
      rw [← hxe] at hx
      have HXE := Lib.hid hxe
      have hfew := hx.few
      unfold reachBytes at hfew
      have c3 := hx.k3
      have k0 : (0 : Int) ≤ (i : Int) := by omega
      have k1 : (i : Int) < (n : Int) := by omega
      have z1 : IntKind.i64.wrap ((t2 : Int) + (x.l : Int)) = ((t2 + x.l : Nat) : Int) := by rw [IntWalk.i64_in _ (by omega)]; omega
      clear hx hxe r1
      by_cases h3 : 20000 < t2 + x.l
      · have k3 : (20000 : Int) < ((t2 + x.l : Nat) : Int) := by omega
        go_wp2_with (fail)
        go_ret
        exact ⟨true, rfl, (fun h => by cases h), HB.out⟩
      · have k3 : ¬ (20000 : Int) < ((t2 + x.l : Nat) : Int) := by omega
        go_wp2_with (fail)
        go_roundw
        case rel => exact ⟨i + 1, t2 + x.l, by omega, by go_num, rfl, by omega, (fun j hj => by
          by_cases e : j = i
          · rw [e, ← HXE.out]; omega
          · exact HA.out j (by omega)), HB.out⟩
        case measure => simp [RowKit.intOf]; omega
    · obtain rfl : i = n := by omega
      go_wp2_with (fail)
      go_ret
      exact ⟨false, rfl, (fun _ => ⟨HF.out.1, HF.out.2, by omega, HA.out⟩), HB.out⟩
/-- The numbers that are one alone. -/
theorem sel_one {p : Nat → Bool} {m n : Nat} (hm : m < n) (h : ∀ k, k < n → p k = decide (k = m)) : selL p n = [(m : Int)] := by
  rw [selL_congr h]
  clear h
  induction n with
  | zero => omega
  | succ n ih =>
    rw [selL]
    by_cases e : m = n
    · subst e
      have h0 : ∀ j, j ≤ m → selL (fun k => decide (k = m)) j = [] := by
        intro j
        induction j with
        | zero => intro _; rfl
        | succ j ihj =>
          intro hj
          rw [selL, ihj (by omega), if_neg (by simp; omega)]
          rfl
      rw [h0 m (Nat.le_refl _), if_pos (by simp)]
      rfl
    · rw [ih (by omega), if_neg (by simp; omega), List.append_nil]
theorem falive_any (w : World) : Calls Try.prog 29 #[] w fun e w' => e = .returned (.bool true) ∧ Below w.heap.size w w' := by
  obtain ⟨w1, hw1⟩ : ∃ w1, w1 = w.alloc (.cells #[.slice none 0 0, .slice none 0 0] 43) := ⟨_, rfl⟩
  have hb1 : Below w.heap.size w w1 := by rw [hw1]; exact (Below.refl _ _).alloc (Nat.le_refl _) _
  have HB1 := Lib.hid hb1
  have HW1 := Lib.hid hw1
  clear hb1 hw1
  go_enter Try.func29, Try.ntmps29
  go_wp2_with (fail)
  rw [← HW1.out]
  refine (FN.new w.heap.size w1).mono ?_
  rintro e w2 ⟨b, T, D, rfl, hf, hbl, hD, hb⟩
  have HF := Lib.hid hf
  have HB2 := Lib.hid (HB1.out.trans (hb.mono HB1.out.size))
  have HBL := Lib.hid (show w.heap.size ≤ b ∧ ∀ j, D j → w.heap.size ≤ j from ⟨Nat.le_trans HB1.out.size hbl, fun j hj => Nat.le_trans HB1.out.size (hD j hj)⟩)
  clear hf hbl hD hb
  obtain ⟨w3, hw3⟩ : ∃ w3, w3 = w2.alloc (.cells #[.int .u8 7] 5) := ⟨_, rfl⟩
  have hb3 : Below w2.heap.size w2 w3 := by rw [hw3]; exact (Below.refl _ _).alloc (Nat.le_refl _) _
  have hp3 : Pin w3 (some ⟨w2.heap.size, 0, none⟩) 1 1 [7] := by
    have hk : Blk w3 w2.heap.size [7] := ⟨by rw [hw3]; exact heap_alloc_new w2 _⟩
    exact hk.pin (fun z hz => by rw [List.mem_singleton.1 hz]; omega) rfl (Nat.le_refl _) (by omega)
  have HF3 := Lib.hid (HF.out.next hb3)
  have HB3 := Lib.hid (HB2.out.trans (hb3.mono HB2.out.size))
  have HP3 := Lib.hid hp3
  have HW3 := Lib.hid hw3
  clear hb3 hp3 hw3
  go_wp2_with (fail)
  rw [← HW3.out]
  have hwr := HF3.out.write 100 (some ⟨w2.heap.size, 0, none⟩) 1 1 [7] HP3.out (by omega)
  rw [show wrBad 100 1 = false by decide, if_neg (by simp), show wrS 0 100 1 = 101 by decide] at hwr
  refine hwr.mono ?_
  rintro e w4 ⟨rfl, T4, D4, hf4, hT4, hD4, ht4⟩
  have HB4 := Lib.hid (show Below w.heap.size w w4 from HB3.out.trans (ht4.below HB3.out.size fun j hj => by
    rcases hj with h1 | rfl | h1
    · exact HBL.out.2 j (HF3.out.td j h1)
    · exact HBL.out.1
    · exact Nat.le_trans HB3.out.size h1))
  obtain ⟨c, hc⟩ : ∃ c, c = wrZ (fun _ => 0) 100 [7] := ⟨_, rfl⟩
  rw [← hc] at hf4
  have hcv : ∀ i, c i = if i = 100 then 7 else 0 := by
    intro i
    rw [hc]
    unfold wrZ
    rw [show wrBad 100 [(7 : Int)].length = false by decide, if_neg (by simp)]
    unfold wrC
    by_cases e : i = 100
    · subst e; rfl
    · rw [if_neg e]
      have : ¬ ((100 : Int).toNat ≤ i ∧ i < (100 : Int).toNat + [(7 : Int)].length) := by
        rintro ⟨h1, h2⟩
        have e1 : (100 : Int).toNat = 100 := rfl
        have e2 : [(7 : Int)].length = 1 := rfl
        omega
      rw [if_neg this]
  have HF4 := Lib.hid hf4
  have HCV := Lib.hid hcv
  clear hwr hf4 hT4 hD4 ht4 hc hcv
  obtain ⟨p, fr, hfl⟩ := HF4.out.at'
  have HFL := Lib.hid hfl
  clear hfl
  go_wp2_with (fail)
  refine (fsize_any HFL.out).mono ?_
  rintro e w5 ⟨rfl, rfl⟩
  go_wp2_with (fail)
  refine (fmap_any HFL.out).mono ?_
  rintro e w5 ⟨rfl, rfl⟩
  go_wp2_with (fail)
  refine (fmap_any HFL.out).mono ?_
  rintro e w5 ⟨rfl, rfl⟩
  go_wp2_with (fail)
  have hsel : selL (theP (fun _ => 0) (cX c)) 828 = [1] := by
    refine sel_one (m := 1) (by omega) fun k hk => ?_
    unfold theP
    by_cases e : k = 1
    · subst e
      have : cX c 1 ≠ [] := fun h => by
        have h1 := cX_byt c 1 (j := 44) (by omega)
        rw [h, HCV.out] at h1
        simp [byt] at h1
      cases hx : cX c 1 with
      | nil => exact absurd hx this
      | cons y l => rfl
    · rw [cB_zero fun j hj => by rw [HCV.out, if_neg (by omega)]]
      simp [e]
  have hth := pmp_ok.there HFL.out.mp
  rw [hsel] at hth
  refine hth.mono ?_
  rintro e w5 ⟨a5, c5, rfl, hi5, _, hb5⟩
  have HI5 := Lib.hid hi5
  have HB5 := Lib.hid (HB4.out.trans (hb5.mono HB4.out.size))
  have HF5 := Lib.hid (HF4.out.next hb5)
  clear hth hsel hi5 hb5
  obtain ⟨w6, hw6⟩ : ∃ w6, w6 = w5.alloc (.cells #[.int .i64 1] 3) := ⟨_, rfl⟩
  have hb6 : Below w5.heap.size w5 w6 := by rw [hw6]; exact (Below.refl _ _).alloc (Nat.le_refl _) _
  have hi6 : Ins w6 (some ⟨w5.heap.size, 0, none⟩) 1 [1] := by rw [hw6]; exact ins_lit rfl rfl rfl
  have HI6 := Lib.hid hi6
  have HI56 := Lib.hid (HI5.out.next hb6)
  have HB6 := Lib.hid (HB5.out.trans (hb6.mono HB5.out.size))
  have HF6 := Lib.hid (HF5.out.next hb6)
  have HW6 := Lib.hid hw6
  clear hb6 hi6 hw6
  go_wp2_with (fail)
  rw [← HW6.out]
  refine (sameInts_yes a5 _ 1 c5 1 [1] w6 HI56.out HI6.out (by omega)).mono ?_
  rintro e w7 ⟨rfl, hb7⟩
  have HB7 := Lib.hid (HB6.out.trans (hb7.mono HB6.out.size))
  have HF7 := Lib.hid (HF6.out.next hb7)
  clear hb7
  go_wp2_with (fail)
  have hrd := HF7.out.read 99 5 (by omega) (by omega)
  have e99 : ((99 : Nat) : Int) = 99 := rfl
  have e5 : ((5 : Nat) : Int) = 5 := rfl
  rw [e99, e5, show rdC c 99 (Nat.min 5 (101 - 99)) = [0, 7] by
    have : Nat.min 5 (101 - 99) = 2 := rfl
    rw [this]
    unfold rdC
    have h2 : List.range 2 = [0, 1] := rfl
    rw [h2, List.map_cons, List.map_cons, List.map_nil, HCV.out, HCV.out]
    rfl] at hrd
  refine hrd.mono ?_
  rintro e w8 ⟨a8, n8, c8, rfl, hp8, _, hb8⟩
  obtain rfl : n8 = 2 := by have := hp8.len; simpa using this.symm
  have HP8 := Lib.hid hp8
  have HB8 := Lib.hid (HB7.out.trans (hb8.mono HB7.out.size))
  clear hrd e99 e5 hp8 hb8
  obtain ⟨w9, hw9⟩ : ∃ w9, w9 = w8.alloc (.cells #[.int .u8 0, .int .u8 7] 5) := ⟨_, rfl⟩
  have hb9 : Below w8.heap.size w8 w9 := by rw [hw9]; exact (Below.refl _ _).alloc (Nat.le_refl _) _
  have hp9 : Pin w9 (some ⟨w8.heap.size, 0, none⟩) 2 2 [0, 7] := by
    have hk : Blk w9 w8.heap.size [0, 7] := ⟨by rw [hw9]; exact heap_alloc_new w8 _⟩
    exact hk.pin (fun z hz => by simp at hz; omega) rfl (Nat.le_refl _) (by omega)
  have HP9 := Lib.hid hp9
  have HP89 := Lib.hid (HP8.out.next hb9)
  have HB9 := Lib.hid (HB8.out.trans (hb9.mono HB8.out.size))
  have HW9 := Lib.hid hw9
  clear hb9 hp9 hw9
  have hsm := same_any a8 (some ⟨w8.heap.size, 0, none⟩) 2 c8 2 2 [0, 7] [0, 7] w9 HP89.out.bys HP9.out.bys (by omega)
  rw [sameB_true rfl] at hsm
  have HSM := Lib.hid hsm
  clear hsm
  go_wp2_with (fail)
  rw [← HW9.out]
  refine HSM.out.mono ?_
  rintro e w10 ⟨rfl, q, rfl⟩
  go_wp2_with (fail)
  go_ret
  exact ⟨rfl, HB9.out.trans (below_drewN (Below.refl w9.heap.size w9) q |>.mono HB9.out.size)⟩

theorem Turn.of_grownR {M : Nat → Prop} {w w' : World} {row : Option Nat} (h : w.grownBy w' row) (hb : ∀ b, row = some b → M b) : Turn M w w' :=
  ⟨h.os, h.tape, h.output, h.size, fun k hk hn => h.block k hk (fun e => hn (hb k e.symm))⟩
theorem OwnI.turn {M : Nat → Prop} {w w' : World} {B : Nat} {v : Value} {n : Nat} {ks : List Int} (h : OwnI w B v n ks) (ht : Turn M w w') (hm : ∀ j, v.ownBlock = some j → ¬ M j) : OwnI w' B v n ks := by
  refine ⟨h.1, ?_⟩
  rcases h.2 with h1 | ⟨g, cap, cur, rfl, hb, hg, r⟩
  · exact .inl h1
  · exact .inr ⟨g, cap, cur, rfl, hb, (ht.block g (lt_of_block hg) (hm g rfl)).trans hg, r⟩
/-- 'append(s, l...)' of numbers, s of the call's own. -/
abbrev pcV (p : Pc) : Value := .slice p.a p.n p.c
theorem infoS : (Try.prog.info? 50).map (fun i => (i.zero, i.size, i.bytes)) = some (some (.slice none 0 0), 1, 24) := by kernel_rfl
structure StG (w : World) (B g : Nat) (vA vD : Value) (ks : List Int) (ps : List Pc) : Prop where
  row : w.heap[g]? = some (.cells #[vA, vD] 43 (0, 0))
  lo : B ≤ g
  oa : OwnI w B vA ks.length ks
  od : w.ownsRow B 50 1 vD ps.length (ps.map pcV)
  na : vA.ownBlock ≠ some g
  nd : vD.ownBlock ≠ some g
  ne : ∀ j, vA.ownBlock = some j → vD.ownBlock ≠ some j
section
variable {w w' : World} {B g : Nat} {vA vD : Value} {ks : List Int} {ps : List Pc}
theorem StG.next (h : StG w B g vA vD ks ps) (hb : Below w.heap.size w w') : StG w' B g vA vD ks ps :=
  ⟨(hb.block g (lt_of_block h.row)).trans h.row, h.lo, h.oa.next hb, h.od.kept (row := none) ⟨hb.os, hb.tape, hb.output, hb.size, fun k hk _ => hb.block k hk⟩ (by cases vD.ownBlock <;> simp), h.na, h.nd, h.ne⟩
theorem StG.cells (h : StG w B g vA vD ks ps) : g < w.heap.size ∧ w.cell? ⟨g, 0, none⟩ = some vA ∧ w.cell? ⟨g, 1, none⟩ = some vD ∧ w.frozen? ⟨g, 0, none⟩ = false ∧ w.frozen? ⟨g, 1, none⟩ = false :=
  ⟨lt_of_block h.row, cell_of_row w g 0 _ _ (0, 0) h.row, cell_of_row w g 1 _ _ (0, 0) h.row, frozen_of_row w g 0 _ _ h.row, frozen_of_row w g 1 _ _ h.row⟩
theorem stG_new (w : World) (B : Nat) (hB : B ≤ w.heap.size) : StG (w.alloc (.cells #[.slice none 0 0, .slice none 0 0] 43 (0, 0))) B w.heap.size (.slice none 0 0) (.slice none 0 0) [] [] :=
  ⟨heap_alloc_new w _, hB, ownI_nil _ _, World.ownsRow_nil _ _ _ _, by simp [Value.ownBlock], by simp [Value.ownBlock], by simp [Value.ownBlock]⟩
theorem StG.addA (h : StG w B g vA vD ks ps) {v' : Value} {z : Int} (ho : w'.ownsRow B 3 1 v' (ks.length + 1) (ks.map (Value.int .i64) ++ [.int .i64 z])) (hg : w.grownBy w' vA.ownBlock) {g1 : Nat} (hv : v'.ownBlock = some g1) (h1 : vA.ownBlock = some g1 ∨ g1 = w.heap.size) :
    StG (w'.setCell ⟨g, 0, none⟩ v') B g v' vD (ks ++ [z]) ps := by
  have hgl := lt_of_block h.row
  have hr : w'.heap[g]? = some (.cells #[vA, vD] 43 (0, 0)) := (hg.block g hgl fun e => h.na e.symm).trans h.row
  have hn1 : v'.ownBlock ≠ some g := by
    rw [hv]
    intro e
    cases e
    rcases h1 with e | e
    · exact h.na e
    · omega
  have hne2 : ∀ j, v'.ownBlock = some j → vD.ownBlock ≠ some j := by
    intro j e e2
    rw [hv] at e
    cases e
    rcases h1 with e | e
    · exact h.ne _ e e2
    · have := (World.ownsRow.lt h.od _ e2).2
      omega
  refine ⟨?_, h.lo, ?_, ?_, hn1, h.nd, hne2⟩
  · rw [heap_setCell_same w' g 0 _ _ _ hr]; rfl
  · have ho2 : OwnI w' B v' (ks ++ [z]).length (ks ++ [z]) := by
      unfold OwnI
      rw [List.map_append, List.length_append]
      exact ho
    exact ho2.turn (M := (· = g)) (Turn.setCell (M := fun j => j = _) w' (a := ⟨_, 0, none⟩) rfl _) fun j e hj => hn1 (by rw [← hj]; exact e)
  · exact ownsRow_setCell_other (h.od.kept hg (by
      rcases hd : vD.ownBlock with _ | k
      · exact .inl rfl
      · exact .inr fun e => h.ne k e.symm hd)) (by exact h.nd) _
theorem StG.addD (h : StG w B g vA vD ks ps) {v' : Value} {p : Pc} (ho : w'.ownsRow B 50 1 v' (ps.length + 1) (ps.map pcV ++ [pcV p])) (hg : w.grownBy w' vD.ownBlock) {g1 : Nat} (hv : v'.ownBlock = some g1) (h1 : vD.ownBlock = some g1 ∨ g1 = w.heap.size) :
    StG (w'.setCell ⟨g, 1, none⟩ v') B g vA v' ks (ps ++ [p]) := by
  have hgl := lt_of_block h.row
  have hr : w'.heap[g]? = some (.cells #[vA, vD] 43 (0, 0)) := (hg.block g hgl fun e => h.nd e.symm).trans h.row
  have hn1 : v'.ownBlock ≠ some g := by
    rw [hv]
    intro e
    cases e
    rcases h1 with e | e
    · exact h.nd e
    · omega
  have hne2 : ∀ j, vA.ownBlock = some j → v'.ownBlock ≠ some j := by
    intro j e e2
    rw [hv] at e2
    cases e2
    rcases h1 with e3 | e3
    · exact h.ne _ e e3
    · have := (World.ownsRow.lt h.oa _ e).2
      omega
  refine ⟨?_, h.lo, ?_, ?_, h.na, hn1, hne2⟩
  · rw [heap_setCell_same w' g 1 _ _ _ hr]; rfl
  · exact (h.oa.turn (Turn.of_grownR (M := fun j => vD.ownBlock = some j) hg (fun b e => e)) fun j e e2 => h.ne j e e2).turn (M := (· = g)) (Turn.setCell (M := fun j => j = _) w' (a := ⟨_, 1, none⟩) rfl _) fun j e hj => h.na (by rw [← hj]; exact e)
  · refine ownsRow_setCell_other ?_ (by exact hn1) _
    rw [List.map_append, List.length_append]
    exact ho
/-- What is filled is a store. -/
theorem StG.sto (h : StG w B g vA vD ks ps) (he : ∀ p, p ∈ ps → Pin w p.a p.n p.c p.zs ∧ p.n ≤ 1000000000000) (hl : ks.length = ps.length) (hm : ks.length ≤ 1000000) :
    ∃ A cA Dt cD, Sto w g A ks.length cA Dt ps.length cD ks (fun i => ps.getD i default) := by
  obtain ⟨a, c, rfl, hi, _⟩ := h.oa.ins
  obtain ⟨h1, h2, h3, _⟩ := h.cells
  have hget : ∀ i, i < ps.length → ps.getD i default ∈ ps := fun i hi => by
    rw [show ps.getD i default = ps[i] by simp [List.getD, hi]]; exact List.getElem_mem hi
  rcases h.od.2 with ⟨rfl, h0⟩ | ⟨b, cap, cur, rfl, hb, hg, hnc, hmx, hsz, htake⟩
  · refine ⟨a, c, none, 0, h1, h2, ?_, hi, ⟨.inl h0, fun i hi => (he _ (hget i hi)).1⟩, by omega, hm, fun i hi => (he _ (hget i (by omega))).2⟩
    rw [h3, h0]
  · refine ⟨a, c, some ⟨b, 0, none⟩, cap, h1, h2, h3, hi, ⟨.inr ⟨b, 0, rfl, lt_of_block hg, fun i hi => ?_⟩, fun i hi => (he _ (hget i hi)).1⟩, by omega, hm, fun i hi => (he _ (hget i (by omega))).2⟩
    have := h.od.cellAt i (by omega)
    rw [Nat.zero_add, this]
    simp [List.getElem?_map, List.getElem?_eq_getElem hi, List.getD, hi]
theorem StG.far (h : StG w B g vA vD ks ps) {wx : World} (hb : Below w.heap.size w wx) {row : Option Nat} (hg : wx.grownBy w' row) (hr : row ≠ some g) :
    g < w'.heap.size ∧ w'.cell? ⟨g, 0, none⟩ = some vA ∧ w'.cell? ⟨g, 1, none⟩ = some vD ∧ w'.frozen? ⟨g, 0, none⟩ = false ∧ w'.frozen? ⟨g, 1, none⟩ = false := by
  have h2 := h.next hb
  have hr : w'.heap[g]? = _ := (hg.block g (lt_of_block h2.row) fun e => hr e.symm).trans h2.row
  exact ⟨lt_of_block hr, cell_of_row _ _ 0 _ _ (0, 0) hr, cell_of_row _ _ 1 _ _ (0, 0) hr, frozen_of_row _ _ 0 _ _ hr, frozen_of_row _ _ 1 _ _ hr⟩
theorem StG.putA (h : StG w B g vA vD ks ps) {w0 wx : World} (hb0 : Below B w0 w) (hB : B ≤ w.heap.size) (hx : Below w.heap.size w wx) {z : Int} {n cap g1 H : Nat} (hn : ks.length = n) (ho : w'.ownsRow B 3 1 (.slice (some ⟨g1, 0, none⟩) (n + 1) cap) (n + 1) (ks.map (Value.int .i64) ++ [.int .i64 z])) (hg : wx.grownBy w' vA.ownBlock) (h1 : vA.ownBlock = some g1 ∨ g1 = H) (hH : wx.heap.size = H) :
    StG (w'.setCell ⟨g, 0, none⟩ (.slice (some ⟨g1, 0, none⟩) (n + 1) cap)) B g (.slice (some ⟨g1, 0, none⟩) (n + 1) cap) vD (ks ++ [z]) ps ∧ Below B w0 (w'.setCell ⟨g, 0, none⟩ (.slice (some ⟨g1, 0, none⟩) (n + 1) cap)) := by
  have h2 := h.next hx
  have hb : Below B w0 wx := hb0.trans (hx.mono hB)
  refine ⟨h2.addA (by rw [hn]; exact ho) hg rfl (by rw [hH]; exact h1), Below.setCell (hb.grown hg (Nat.le_trans hB hx.size) fun k e => (World.ownsRow.lt h2.oa k e).1) h.lo _⟩
theorem StG.putD (h : StG w B g vA vD ks ps) {w0 wx : World} (hb0 : Below B w0 w) (hB : B ≤ w.heap.size) (hx : Below w.heap.size w wx) {p : Pc} {n cap g1 H : Nat} (hn : ps.length = n) (ho : w'.ownsRow B 50 1 (.slice (some ⟨g1, 0, none⟩) (n + 1) cap) (n + 1) (ps.map pcV ++ [pcV p])) (hg : wx.grownBy w' vD.ownBlock) (h1 : vD.ownBlock = some g1 ∨ g1 = H) (hH : wx.heap.size = H) :
    StG (w'.setCell ⟨g, 1, none⟩ (.slice (some ⟨g1, 0, none⟩) (n + 1) cap)) B g vA (.slice (some ⟨g1, 0, none⟩) (n + 1) cap) ks (ps ++ [p]) ∧ Below B w0 (w'.setCell ⟨g, 1, none⟩ (.slice (some ⟨g1, 0, none⟩) (n + 1) cap)) := by
  have h2 := h.next hx
  have hb : Below B w0 wx := hb0.trans (hx.mono hB)
  refine ⟨h2.addD (by rw [hn]; exact ho) hg rfl (by rw [hH]; exact h1), Below.setCell (hb.grown hg (Nat.le_trans hB hx.size) fun k e => (World.ownsRow.lt h2.od k e).1) h.lo _⟩
end

section
variable {w : World} {ops : Array Oper} {rest : List Oper} {o : Oper} {a : Act} {Q : Exit → Act → World → Prop}
theorem wpList_stoA (hgd : o.guard = none) (s x : Operand)
    (ho : o.op = .call { callee := .builtin .append, args := #[s, x], argTypes := #[25, 25] })
    (B : Nat) (v : Value) (n : Nat) (ks : List Int) (hs : a.eval s = v) (hown : OwnI w B v n ks) (g : Nat) (z : Int) (hx : a.eval x = .slice (some ⟨g, 0, none⟩) 1 1) (hg : w.cell? ⟨g, 0, none⟩ = some (.int .i64 z))
    (hn : n + 1 ≤ 1000000000000) (hB : B ≤ w.heap.size)
    (h : ∀ g1 cap w', w'.ownsRow B 3 1 (.slice (some ⟨g1, 0, none⟩) (n + 1) cap) (n + 1) (ks.map (Value.int .i64) ++ [.int .i64 z]) → w.grownBy w' v.ownBlock → (v.ownBlock = some g1 ∨ g1 = w.heap.size) → wpList Try.prog ops Q rest (a.put o.dst (.slice (some ⟨g1, 0, none⟩) (n + 1) cap)) w') : wpList Try.prog ops Q (o :: rest) a w := by
  obtain ⟨i0, hi, hz0, hz1, hz2⟩ := info_parts info3
  refine wpList_append_lies w hgd s x 25 ho B 3 i0 (.int .i64 0) 1 8 Try.underlying25 hi hz0 hz1 hz2 rfl (by decide) v n _ hs hown ⟨g, 0, none⟩ 1 1 [.int .i64 z] hx rfl ?_ ?_ (by decide) (by unfold maxLen; omega) (by omega) hB w.heap.size rfl ?_
  · intro j u hj
    cases j with
    | zero =>
      simp at hj
      subst hj
      exact hg
    | succ j => simp at hj
  · intro u hu
    rw [List.mem_singleton.1 hu]
    rfl
  · intro g1 cap w' hown' hgrow hat hlt
    exact h g1 cap w' hown' hgrow hat
theorem wpList_stoD (hgd : o.guard = none) (s x : Operand)
    (ho : o.op = .call { callee := .builtin .append, args := #[s, x], argTypes := #[39, 39] })
    (B : Nat) (v : Value) (n : Nat) (ps : List Pc) (hs : a.eval s = v) (hown : w.ownsRow B 50 1 v n (ps.map pcV)) (g : Nat) (p : Pc) (hx : a.eval x = .slice (some ⟨g, 0, none⟩) 1 1) (hg : w.cell? ⟨g, 0, none⟩ = some (pcV p))
    (hn : n + 1 ≤ 1000000) (hB : B ≤ w.heap.size)
    (h : ∀ g1 cap w', w'.ownsRow B 50 1 (.slice (some ⟨g1, 0, none⟩) (n + 1) cap) (n + 1) (ps.map pcV ++ [pcV p]) → w.grownBy w' v.ownBlock → (v.ownBlock = some g1 ∨ g1 = w.heap.size) → wpList Try.prog ops Q rest (a.put o.dst (.slice (some ⟨g1, 0, none⟩) (n + 1) cap)) w') : wpList Try.prog ops Q (o :: rest) a w := by
  obtain ⟨i0, hi, hz0, hz1, hz2⟩ := info_parts infoS
  refine wpList_append_lies w hgd s x 39 ho B 50 i0 (.slice none 0 0) 1 24 Try.underlying39 hi hz0 hz1 hz2 rfl (by decide) v n _ hs hown ⟨g, 0, none⟩ 1 1 [pcV p] hx rfl ?_ ?_ (by decide) (by unfold maxLen; omega) (by omega) hB w.heap.size rfl ?_
  · intro j u hj
    cases j with
    | zero =>
      simp at hj
      subst hj
      exact hg
    | succ j => simp at hj
  · intro u hu
    rw [List.mem_singleton.1 hu]
    rfl
  · intro g1 cap w' hown' hgrow hat hlt
    exact h g1 cap w' hown' hgrow hat
end
/-- Pieces that a store tells, clear of the store's own blocks. -/
def PsOk (w : World) (g : Nat) (vA vD : Value) (ps : List Pc) : Prop :=
  ∀ p, p ∈ ps → Pin w p.a p.n p.c p.zs ∧ p.n = 56 ∧ ∀ y, p.a = some y → y.block < w.heap.size ∧ y.block ≠ g ∧ vA.ownBlock ≠ some y.block ∧ vD.ownBlock ≠ some y.block
theorem PsOk.next {w w' : World} {g : Nat} {vA vD : Value} {ps : List Pc} (h : PsOk w g vA vD ps) (hb : Below w.heap.size w w') : PsOk w' g vA vD ps := fun p hp => by
  obtain ⟨h1, h2, h3⟩ := h p hp
  exact ⟨h1.next hb, h2, fun y e => ⟨Nat.lt_of_lt_of_le (h3 y e).1 hb.size, (h3 y e).2⟩⟩
theorem PsOk.putA {w w' : World} {g n cap g1 : Nat} {vA vD u : Value} {ps : List Pc} (h : PsOk w g vA vD ps) (hg : w.grownBy w' vA.ownBlock) (h1 : vA.ownBlock = some g1 ∨ g1 = w.heap.size) : PsOk (w'.setCell ⟨g, 0, none⟩ u) g (.slice (some ⟨g1, 0, none⟩) n cap) vD ps := fun p hp => by
  obtain ⟨e1, e2, e3⟩ := h p hp
  have ht : Turn (fun j => vA.ownBlock = some j) w w' := Turn.of_grownR hg (fun b e => e)
  have ht2 : Turn (· = g) w' (w'.setCell ⟨g, 0, none⟩ u) := Turn.setCell (M := (· = g)) (a := ⟨g, 0, none⟩) w' rfl _
  refine ⟨pin_turn (pin_turn e1 ht fun _ y e => (e3 y e).2.2.1) ht2 fun _ y e => (e3 y e).2.1, e2, fun y e => ?_⟩
  obtain ⟨f1, f2, f3, f4⟩ := e3 y e
  refine ⟨Nat.lt_of_lt_of_le (Nat.lt_of_lt_of_le f1 ht.size) ht2.size, f2, fun e4 => ?_, f4⟩
  have e5 : g1 = y.block := by simpa [Value.ownBlock] using e4
  rcases h1 with h1 | h1
  · exact f3 (by rw [h1, e5])
  · omega
theorem PsOk.putD {w w' : World} {g n cap g1 : Nat} {vA vD u : Value} {ps : List Pc} (h : PsOk w g vA vD ps) (hg : w.grownBy w' vD.ownBlock) (h1 : vD.ownBlock = some g1 ∨ g1 = w.heap.size) : PsOk (w'.setCell ⟨g, 1, none⟩ u) g vA (.slice (some ⟨g1, 0, none⟩) n cap) ps := fun p hp => by
  obtain ⟨e1, e2, e3⟩ := h p hp
  have ht : Turn (fun j => vD.ownBlock = some j) w w' := Turn.of_grownR hg (fun b e => e)
  have ht2 : Turn (· = g) w' (w'.setCell ⟨g, 1, none⟩ u) := Turn.setCell (M := (· = g)) (a := ⟨g, 1, none⟩) w' rfl _
  refine ⟨pin_turn (pin_turn e1 ht fun _ y e => (e3 y e).2.2.2) ht2 fun _ y e => (e3 y e).2.1, e2, fun y e => ?_⟩
  obtain ⟨f1, f2, f3, f4⟩ := e3 y e
  refine ⟨Nat.lt_of_lt_of_le (Nat.lt_of_lt_of_le f1 ht.size) ht2.size, f2, f3, fun e4 => ?_⟩
  have e5 : g1 = y.block := by simpa [Value.ownBlock] using e4
  rcases h1 with h1 | h1
  · exact f4 (by rw [h1, e5])
  · omega
theorem PsOk.cons {w : World} {g : Nat} {vA vD : Value} {ps : List Pc} (h : PsOk w g vA vD ps) {p : Pc} (h1 : Pin w p.a p.n p.c p.zs) (h2 : p.n = 56) (h3 : ∀ y, p.a = some y → y.block < w.heap.size ∧ y.block ≠ g ∧ vA.ownBlock ≠ some y.block ∧ vD.ownBlock ≠ some y.block) : PsOk w g vA vD (ps ++ [p]) := fun q hq => by
  rcases List.mem_append.1 hq with hq | hq
  · exact h q hq
  · rw [List.mem_singleton.1 hq]
    exact ⟨h1, h2, h3⟩
/-- What source answers. -/
def ScP (w : World) (e : Ending) (w' : World) : Prop := ∃ p A nA cA Dt nD cD ks f, e = .returned (.pointer (some ⟨p, 0, none⟩)) ∧ Sto w' p A nA cA Dt nD cD ks f ∧ Below w.heap.size w w'
theorem fsource_any (ra : Option Addr) (rn rc : Nat) (fr : Nat → Pc) (w : World) (hr : Rws w ra rn fr) (hrn : rn ≤ 5000) (hrb : ∀ i, i < rn → (fr i).n ≤ 5000) :
    Calls Try.prog 39 #[.slice ra rn rc] w (ScP w) := by
  have HR := Lib.hid hr
  have HRB := Lib.hid hrb
  have HST := Lib.hid (stG_new w w.heap.size (Nat.le_refl _))
  have HBS := Lib.hid ((Below.refl w.heap.size w).alloc (Nat.le_refl _) (.cells #[.slice none 0 0, .slice none 0 0] 43 (0, 0)))
  clear hr hrb
  go_enter Try.func39, Try.ntmps39
  go_wp2_with (fail)
  obtain ⟨g, hg⟩ : ∃ g, g = w.heap.size := ⟨_, rfl⟩
  have HG := Lib.hid hg
  rw [← hg] at HST ⊢
  clear hg
  go_loopw [4, 5] (fun v4 _ wr => ∃ (i : Nat) (vA vD : Value) (ks : List Int) (ps : List Pc), i ≤ rn ∧ v4 = .int .i64 i ∧ ks.length = i ∧ ps.length = i ∧ StG wr g g vA vD ks ps ∧ PsOk wr g vA vD ps ∧ Below w.heap.size w wr) (fun v4 _ _ => rn - (RowKit.intOf v4).toNat)
  case atStart => exact ⟨0, _, _, [], [], by omega, rfl, rfl, rfl, HST.out, (fun p hp => by cases hp), HBS.out⟩
  case round =>
    obtain ⟨i, vA, vD, ks, ps, hi, rfl, hlk, hlp, hst, hps, hb⟩ := hrel
    have HS := Lib.hid hst
    have HPS := Lib.hid hps
    have HB := Lib.hid hb
    have HLK := Lib.hid (And.intro hlk hlp)
    clear hst hps hb hlk hlp
    by_cases hlt : i < rn
    · have hrow := HR.out.next HB.out
      rcases hrow.place with h0 | ⟨rb, ro, rfl, hrl, hrc⟩
      · omega
      have hci := hrc i hlt
      have hpi := hrow.each i hlt
      obtain ⟨x, hxe⟩ : ∃ x, x = fr i := ⟨_, rfl⟩
      have hx5 := HRB.out i hlt
      rw [← hxe] at hci hpi hx5
      have HPI := Lib.hid hpi
      have HX5 := Lib.hid hx5
      have k0 : (0 : Int) ≤ (i : Int) := by omega
      have k1 : (i : Int) < (rn : Int) := by omega
      have HCI := Lib.hid (show rb < wr.heap.size ∧ wr.cell? ⟨rb, ro + i, none⟩ = some (.slice x.a x.n x.c) from ⟨hrl, hci⟩)
      clear hrow hrc hxe hpi hci hx5 hrl
      go_upto_region 6 with (refine wpList_mk rfl _ _ rfl .i64 .i64 56 56 56 rfl rfl rfl rfl (by omega) ?_; intro w4 hk4 hb4)
      have hy4 : PyB w4 wr.heap.size no56 := ⟨⟨_, hk4.row⟩, no56_len, no56_small⟩
      have HY4 := Lib.hid hy4
      have HB4 := Lib.hid hb4
      have hci4 : w4.cell? ⟨rb, ro + i, none⟩ = some (.slice x.a x.n x.c) := (hb4.cell (p := ⟨rb, ro + i, none⟩) HCI.out.1).trans HCI.out.2
      have HP4 := Lib.hid (HPI.out.next hb4)
      obtain ⟨bz, hbz⟩ : ∃ b, b = wr.heap.size := ⟨_, rfl⟩
      have HBZ := Lib.hid hbz
      rw [← hbz] at HY4 ⊢
      clear hk4 hb4 hy4 hbz
      obtain ⟨m, hm⟩ : ∃ m, m = Nat.min x.n 56 := ⟨_, rfl⟩
      have hm56 : 0 + m ≤ 56 := by rw [hm, Nat.zero_add]; exact Nat.min_le_right _ _
      have HM := Lib.hid (And.intro hm hm56)
      clear hm hm56
      go_upto_region 7 with (first
        | (refine wpList_cpY rfl (.tmp 15) (.tmp 19) rfl bz 0 56 56 x.a x.n x.c no56 x.zs m rfl rfl HY4.out HP4.out.bys HM.out.1 HM.out.2 ?_; intro w5 hy5 ht5)
        | fail)
      have hb5 : Below wr.heap.size wr w5 := below_of_turn HB4.out (by rw [HBZ.out]; exact Nat.le_refl _) ht5
      have HY5 := Lib.hid hy5
      have HB5 := Lib.hid hb5
      have HS5 := Lib.hid (HS.out.next hb5)
      have HPS5 := Lib.hid (HPS.out.next hb5)
      have HBG := Lib.hid (show Below g w w5 by rw [HG.out]; exact HB.out.trans (hb5.mono HB.out.size))
      have HZ5 := Lib.hid (show g ≤ w5.heap.size ∧ bz < w5.heap.size ∧ g < bz by
        have h1 := HY5.out.lt
        have h2 := (HS.out.cells).1
        have h3 := HBZ.out
        have h4 := hb5.size
        omega)
      have HPIN := Lib.hid (show Pin w5 (some ⟨bz, 0, none⟩) 56 56 (cpY no56 0 m x.zs) from HY5.out.all)
      obtain ⟨zz, hzz⟩ : ∃ zz, zz = cpY no56 0 m x.zs := ⟨_, rfl⟩
      rw [← hzz] at HPIN
      have HPS6 := Lib.hid (HPS5.out.cons (p := ⟨some ⟨bz, 0, none⟩, 56, 56, zz⟩) HPIN.out rfl fun y e => by
        cases e
        have h3 := HBZ.out
        refine ⟨HZ5.out.2.1, by have := HZ5.out; show bz ≠ g; omega, fun e2 => ?_, fun e2 => ?_⟩
        · have : bz < wr.heap.size := (World.ownsRow.lt HS.out.oa bz e2).2; omega
        · have : bz < wr.heap.size := (World.ownsRow.lt HS.out.od bz e2).2; omega)
      clear hci4 hy5 ht5 hb5 hzz
      obtain ⟨n0, d0, d1, g0, g1'⟩ := HS5.out.cells
      have hlk := HLK.out.1
      have HOA := Lib.hid HS5.out.oa
      rw [HLK.out.1] at HOA
      have HAX := Lib.hid ((Below.refl w5.heap.size w5).alloc (Nat.le_refl _) (.cells #[.int .i64 ((i : Int) + 1)] 3))
      go_upto_region 8 with (first
        | (at_builtin; go_must (refine wpList_stoA rfl (.tmp 25) (.tmp 28) rfl g vA i ks rfl (HOA.out.alloc _) w5.heap.size ((i : Int) + 1) rfl (by simp) (by omega) (by have := HZ5.out.1; simp; omega) ?_; intro g6 cap6 w6 ho6 hg6 ha6; have HO6 := Lib.hid ho6; have HG6 := Lib.hid hg6; have HA6 := Lib.hid ha6; obtain ⟨m1, m2, m3, m4, m5⟩ := HS5.out.far HAX.out hg6 HS5.out.na; clear ho6 hg6 ha6 n0 d0 d1 g0 g1'))
        | fail)
      obtain ⟨hS7, hB7⟩ := HS5.out.putA HBG.out HZ5.out.1 HAX.out HLK.out.1 HO6.out HG6.out HA6.out (by simp)
      have hps7 := (HPS6.out.next HAX.out).putA (u := .slice (some ⟨g6, 0, none⟩) (i + 1) cap6) (n := i + 1) (cap := cap6) HG6.out (by rcases HA6.out with h | h; exact .inl h; exact .inr h)
      obtain ⟨w7, hw7⟩ : ∃ w7, w7 = w6.setCell ⟨g, 0, none⟩ (.slice (some ⟨g6, 0, none⟩) (i + 1) cap6) := ⟨_, rfl⟩
      rw [← hw7] at hS7 hB7 hps7 ⊢
      have HS7 := Lib.hid hS7
      have HB7 := Lib.hid hB7
      have HPS7 := Lib.hid hps7
      have HZ7 := Lib.hid (show g ≤ w7.heap.size from Nat.le_of_lt (hS7.cells).1)
      clear hw7 hS7 hB7 hps7 HO6 HG6 HA6 HOA m1 m2 m3 m4 m5
      obtain ⟨n0, d0, d1, g0, g1'⟩ := HS7.out.cells
      have HOD := Lib.hid HS7.out.od
      rw [HLK.out.2] at HOD
      have HAX7 := Lib.hid ((Below.refl w7.heap.size w7).alloc (Nat.le_refl _) (.cells #[.slice (some ⟨bz, 0, none⟩) 56 56] 50))
      go_upto_region 9 with (first
        | (at_builtin; go_must (refine wpList_stoD rfl (.tmp 36) (.tmp 38) rfl g vD i ps rfl (HOD.out.alloc _) w7.heap.size ⟨some ⟨bz, 0, none⟩, 56, 56, zz⟩ rfl (by simp) (by omega) (by have := HZ7.out; simp; omega) ?_; intro g8 cap8 w8 ho8 hg8 ha8; have HO8 := Lib.hid ho8; have HG8 := Lib.hid hg8; have HA8 := Lib.hid ha8; obtain ⟨m1, m2, m3, m4, m5⟩ := HS7.out.far HAX7.out hg8 HS7.out.nd; clear ho8 hg8 ha8 n0 d0 d1 g0 g1'))
        | fail)
      obtain ⟨hS9, hB9⟩ := HS7.out.putD HB7.out HZ7.out HAX7.out (p := ⟨some ⟨bz, 0, none⟩, 56, 56, zz⟩) HLK.out.2 HO8.out HG8.out HA8.out (by simp)
      have hps9 := (HPS7.out.next HAX7.out).putD (u := .slice (some ⟨g8, 0, none⟩) (i + 1) cap8) (n := i + 1) (cap := cap8) HG8.out (by rcases HA8.out with h | h; exact .inl h; exact .inr h)
      have HS9 := Lib.hid hS9
      have HB9 := Lib.hid hB9
      have HPS9 := Lib.hid hps9
      clear hS9 hB9 hps9 HO8 HG8 HA8 m1 m2 m3 m4 m5
      go_roundw
      case rel => exact ⟨i + 1, _, _, _, _, by omega, by go_num, by rw [List.length_append, HLK.out.1]; rfl, by rw [List.length_append, HLK.out.2]; rfl, HS9.out, HPS9.out, by rw [← HG.out]; exact HB9.out⟩
      case measure => simp [RowKit.intOf]; omega
    · obtain rfl : i = rn := by omega
      obtain ⟨A, cA, Dt, cD, hsto⟩ := HS.out.sto (fun p hp => ⟨(HPS.out p hp).1, by rw [(HPS.out p hp).2.1]; decide⟩) (by have := HLK.out; omega) (by have := HLK.out; omega)
      have HSTO := Lib.hid hsto
      clear hsto
      go_wp2_with (fail)
      go_ret
      exact ⟨g, A, _, cA, Dt, _, cD, _, _, rfl, HSTO.out, HB.out⟩
end Go.Proofs.Ytegcjpocdfmpfaa
