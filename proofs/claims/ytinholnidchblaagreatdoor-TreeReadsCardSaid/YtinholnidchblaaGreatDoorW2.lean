/-
  TreeReads: the walk.
-/
import Derived.Test.YtinholnidchblaaGreatDoorQar
set_option linter.unusedVariables false
set_option linter.unusedSimpArgs false
namespace Go.Proofs.YtinholnidchblaaGreatDoor
open Go.RowKit
set_option linter.unusedVariables false
set_option linter.unusedSimpArgs false

theorem dread {L : List Nd} (h : Rgt L) {p q : ByteArray} {i n : Int} {D : List Nd × Rv} (hD : D = doO L 7 (nms p) (nms q) i n []) : D.1 = L ∧ D.2 = (oRead L (nms p) i n).2 := by
  rw [hD, do_read h]
  exact ⟨rfl, rfl⟩
theorem reads_plain {L : List Nd} (h : Rgt L) {p q : ByteArray} {i n m : Int} (h0 : 0 ≤ i) (h1 : 0 ≤ n) (h2 : 0 ≤ m) {D1 D2 D3 : List Nd × Rv} (e1 : D1 = doO L 7 (nms p) (nms q) i n []) (e2 : D2 = doO L 7 (nms p) (nms q) (i + n) m []) (e3 : D3 = doO L 7 (nms p) (nms q) i (n + m) []) :
    D1.1 = L ∧ D1.2.err = D2.2.err ∧ D2.2.err = D3.2.err ∧ D1.2.d ++ D2.2.d = D3.2.d ∧ D1.2.d.length ≤ 46368 ∧ D2.2.d.length ≤ 46368 ∧ D3.2.d.length ≤ 46368 := by
  obtain ⟨a1, b1⟩ := dread h e1
  obtain ⟨_, b2⟩ := dread h e2
  obtain ⟨_, b3⟩ := dread h e3
  refine ⟨a1, ?_⟩
  rw [b1, b2, b3]
  rcases law_read L (nms p) h0 h1 with ⟨e, he, hf, hr⟩ | ⟨k, hf, hr⟩
  · have x1 : (oRead L (nms p) i n).2 = .bad e := hr
    have x2 : (oRead L (nms p) (i + n) m).2 = .bad e := by
      rcases law_read L (nms p) (show 0 ≤ i + n by omega) h2 with ⟨e', _, hf', hr'⟩ | ⟨k', hf', _⟩
      · rw [hf] at hf'; cases hf'; exact hr'
      · rw [hf] at hf'; cases hf'
    have x3 : (oRead L (nms p) i (n + m)).2 = .bad e := by
      rcases law_read L (nms p) h0 (show 0 ≤ n + m by omega) with ⟨e', _, hf', hr'⟩ | ⟨k', hf', _⟩
      · rw [hf] at hf'; cases hf'; exact hr'
      · rw [hf] at hf'; cases hf'
    rw [x1, x2, x3]
    exact ⟨rfl, rfl, rfl, Nat.zero_le 46368, Nat.zero_le 46368, Nat.zero_le 46368⟩
  · have hk := fileAt_lt h.snd hf
    have hd : (nat L k).d.length ≤ 46368 := by
      rcases h.snd.node k hk.1 with h7 | h7
      · exact h7.2.2
      · rw [h7.2.1]; decide
    have x2 : (oRead L (nms p) (i + n) m).2 = ⟨0, ((nat L k).d.drop (i + n).toNat).take m.toNat, [], 0, 0, 0⟩ := by
      rcases law_read L (nms p) (show 0 ≤ i + n by omega) h2 with ⟨e', _, hf', _⟩ | ⟨k', hf', hr'⟩
      · rw [hf] at hf'; cases hf'
      · rw [hf] at hf'; cases hf'; exact hr'
    have x3 : (oRead L (nms p) i (n + m)).2 = ⟨0, ((nat L k).d.drop i.toNat).take (n + m).toNat, [], 0, 0, 0⟩ := by
      rcases law_read L (nms p) h0 (show 0 ≤ n + m by omega) with ⟨e', _, hf', _⟩ | ⟨k', hf', hr'⟩
      · rw [hf] at hf'; cases hf'
      · rw [hf] at hf'; cases hf'; exact hr'
    rw [hr, x2, x3]
    refine ⟨rfl, rfl, ?_, ?_, ?_, ?_⟩
    · rw [show (i + n).toNat = i.toNat + n.toNat by omega, show (n + m).toNat = n.toNat + m.toNat by omega, List.take_add, List.drop_drop]
    · simp only [List.length_take, List.length_drop]; omega
    · simp only [List.length_take, List.length_drop]; omega
    · simp only [List.length_take, List.length_drop]; omega
section
variable {w : World} {a : Option Addr} {n c : Nat} {f : Nat → Oc}
set_option maxRecDepth 100000 in
set_option maxHeartbeats 16000000 in
theorem treeReads_any (h : Ops w a n f) (s : ByteArray) (hs : s.size ≤ 9223372036854775807) (i n0 m : Int) (hi : -9223372036854775808 ≤ i ∧ i ≤ 9223372036854775807) (hn0 : -9223372036854775808 ≤ n0 ∧ n0 ≤ 9223372036854775807) (hm : -9223372036854775808 ≤ m ∧ m ≤ 9223372036854775807) : Calls Tryz.prog 10 #[.slice a n c, .string s, .int .i64 i, .int .i64 n0, .int .i64 m] w fun e w' => e = .returned (.bool true) ∧ Below w.heap.size w w' := by
  have HB : Hid (Below w.heap.size w w) := Lib.hid (Below.refl _ _)
  have HA := Lib.hid h
  clear h
  have hc := alive_any w
  go_enter Tryz.func10, Tryz.ntmps10
  go_wp2_with (fail)
  refine hc.mono ?_
  rintro e w91 ⟨rfl, hb⟩
  replace HB := Lib.hid (HB.out.trans (hb.mono HB.out.size))
  replace HA := Lib.hid (HA.out.next hb)
  clear hc hb
  have hc := made_any (c := c) HA.out
  go_wp2_with (fail)
  refine hc.mono ?_
  rintro e w92 ⟨L, aL, cL, ok, rfl, hT, hb⟩
  replace HB := Lib.hid (HB.out.trans (hb.mono HB.out.size))
  replace HA := Lib.hid (HA.out.next hb)
  clear hc hb
  obtain ⟨w93, x9, hw, hx, hV, hb⟩ := new_tr hT
  have HL9 := Lib.hid (show w.heap.size ≤ x9 by rw [hx]; exact HB.out.size)
  replace HB := Lib.hid (HB.out.trans (hb.mono HB.out.size))
  replace HA := Lib.hid (HA.out.next hb)
  have HV9 := Lib.hid hV
  have HW9 := Lib.hid hw
  have HX9 := Lib.hid hx
  have HRG := Lib.hid hV.tv.rgt
  clear hT hw hx hV hb
  cases ok with
  | false =>
    go_wp2_with (fail)
    rw [← HX9.out, ← HW9.out]
    go_ret
    exact ⟨rfl, HB.out⟩
  | true =>
    by_cases hq : 1000 < s.size
    · have hq2 : (1000 : Int) < (s.size : Int) := by omega
      clear hq
      go_wp2_with (fail)
      rw [← HX9.out, ← HW9.out]
      go_ret
      exact ⟨rfl, HB.out⟩
    have hn0 : ¬ (1000 : Int) < (s.size : Int) := by omega
    clear hq
    by_cases hq : i < 0
    · have hq2 : i < 0 := by omega
      clear hq
      go_wp2_with (fail)
      rw [← HX9.out, ← HW9.out]
      go_ret
      exact ⟨rfl, HB.out⟩
    have hn1 : ¬ i < 0 := by omega
    clear hq
    by_cases hq : n0 < 0
    · have hq2 : n0 < 0 := by omega
      clear hq
      go_wp2_with (fail)
      rw [← HX9.out, ← HW9.out]
      go_ret
      exact ⟨rfl, HB.out⟩
    have hn2 : ¬ n0 < 0 := by omega
    clear hq
    by_cases hq : m < 0
    · have hq2 : m < 0 := by omega
      clear hq
      go_wp2_with (fail)
      rw [← HX9.out, ← HW9.out]
      go_ret
      exact ⟨rfl, HB.out⟩
    have hn3 : ¬ m < 0 := by omega
    clear hq
    by_cases hq : 1048576 < i
    · have hq2 : 1048576 < i := by omega
      clear hq
      go_wp2_with (fail)
      rw [← HX9.out, ← HW9.out]
      go_ret
      exact ⟨rfl, HB.out⟩
    have hn4 : ¬ 1048576 < i := by omega
    clear hq
    by_cases hq : 1048576 < n0
    · have hq2 : 1048576 < n0 := by omega
      clear hq
      go_wp2_with (fail)
      rw [← HX9.out, ← HW9.out]
      go_ret
      exact ⟨rfl, HB.out⟩
    have hn5 : ¬ 1048576 < n0 := by omega
    clear hq
    by_cases hq : 1048576 < m
    · have hq2 : 1048576 < m := by omega
      clear hq
      go_wp2_with (fail)
      rw [← HX9.out, ← HW9.out]
      go_ret
      exact ⟨rfl, HB.out⟩
    have hn6 : ¬ 1048576 < m := by omega
    clear hq
    have HC : Hid (s.size ≤ 1000 ∧ (0 ≤ i ∧ i ≤ 1048576) ∧ (0 ≤ n0 ∧ n0 ≤ 1048576) ∧ (0 ≤ m ∧ m ≤ 1048576)) := Lib.hid (by omega)
    have HPL := Lib.hid (fun D1 D2 D3 e1 e2 e3 => reads_plain HRG.out (p := s) (q := ⟨#[]⟩) (D1 := D1) (D2 := D2) (D3 := D3) HC.out.2.1.1 HC.out.2.2.1.1 HC.out.2.2.2.1 e1 e2 e3)
    have u1 : wrap64 (i + n0) = i + n0 := IntWalk.wrap64_in _ (by omega)
    have u2 : wrap64 (n0 + m) = n0 + m := IntWalk.wrap64_in _ (by omega)
    have hc := doT HV9.out.tv 7 i n0 s (⟨#[]⟩ : ByteArray) none 0 0 [] (by have := HC.out; omega) (by decide) (by have := HC.out; omega) (by have := HC.out; omega) (Pin.zero _)
    obtain ⟨D1, hD⟩ : ∃ D, D = doO L 7 (nms s) (nms (⟨#[]⟩ : ByteArray)) i n0 [] := ⟨_, rfl⟩
    rw [← hD] at hc
    have HD1 := Lib.hid hD
    clear hD
    go_wp2_with (fail)
    rw [← HX9.out, ← HW9.out]
    refine hc.mono ?_
    rintro e w1 ⟨a1, c1, da1, dn1, dc1, na1, nn1, nc1, Ls1, rfl, hT, hS, hb⟩
    replace HB := Lib.hid (HB.out.trans (hb.mono HB.out.size))
    replace HA := Lib.hid (HA.out.next hb)
    replace HV9 := Lib.hid (HV9.out.next hb)
    clear hn0 hn1 hn2 hn3 hn4 hn5 hn6 hc hb
    have oV9 := HV9.out.var.cell
    have olV9 := lt_of_block HV9.out.var
    obtain ⟨w1s, x1, y1, hw, hx, hy, hV, hR, hb⟩ := new_tr_rs hT hS
    have HL1 := Lib.hid (show w.heap.size ≤ x1 by rw [hx]; exact HB.out.size)
    replace HB := Lib.hid (HB.out.trans (hb.mono HB.out.size))
    replace HA := Lib.hid (HA.out.next hb)
    replace HV9 := Lib.hid (HV9.out.next hb)
    have HV1 := Lib.hid hV
    have HR1 := Lib.hid hR
    have HW1 := Lib.hid hw
    have HX1 := Lib.hid hx
    have HY1 := Lib.hid hy
    clear hT hS hw hx hy hV hR hb
    unfold resW
    have hc := doT HV9.out.tv 7 (i + n0) m s (⟨#[]⟩ : ByteArray) none 0 0 [] (by have := HC.out; omega) (by decide) (by have := HC.out; omega) (by have := HC.out; omega) (Pin.zero _)
    obtain ⟨D2, hD⟩ : ∃ D, D = doO L 7 (nms s) (nms (⟨#[]⟩ : ByteArray)) (i + n0) m [] := ⟨_, rfl⟩
    rw [← hD] at hc
    have HD2 := Lib.hid hD
    clear hD
    go_wp2_with (fail)
    rw [← HY1.out, ← HX1.out, ← HW1.out]
    refine hc.mono ?_
    rintro e w2 ⟨a2, c2, da2, dn2, dc2, na2, nn2, nc2, Ls2, rfl, hT, hS, hb⟩
    replace HB := Lib.hid (HB.out.trans (hb.mono HB.out.size))
    replace HA := Lib.hid (HA.out.next hb)
    replace HV9 := Lib.hid (HV9.out.next hb)
    replace HV1 := Lib.hid (HV1.out.next hb)
    replace HR1 := Lib.hid (HR1.out.next hb)
    clear oV9 olV9 hc hb
    have oV9 := HV9.out.var.cell
    have olV9 := lt_of_block HV9.out.var
    obtain ⟨w2s, x2, y2, hw, hx, hy, hV, hR, hb⟩ := new_tr_rs hT hS
    have HL2 := Lib.hid (show w.heap.size ≤ x2 by rw [hx]; exact HB.out.size)
    replace HB := Lib.hid (HB.out.trans (hb.mono HB.out.size))
    replace HA := Lib.hid (HA.out.next hb)
    replace HV9 := Lib.hid (HV9.out.next hb)
    replace HV1 := Lib.hid (HV1.out.next hb)
    replace HR1 := Lib.hid (HR1.out.next hb)
    have HV2 := Lib.hid hV
    have HR2 := Lib.hid hR
    have HW2 := Lib.hid hw
    have HX2 := Lib.hid hx
    have HY2 := Lib.hid hy
    clear hT hS hw hx hy hV hR hb
    unfold resW
    have hc := doT HV9.out.tv 7 i (n0 + m) s (⟨#[]⟩ : ByteArray) none 0 0 [] (by have := HC.out; omega) (by decide) (by have := HC.out; omega) (by have := HC.out; omega) (Pin.zero _)
    obtain ⟨D3, hD⟩ : ∃ D, D = doO L 7 (nms s) (nms (⟨#[]⟩ : ByteArray)) i (n0 + m) [] := ⟨_, rfl⟩
    rw [← hD] at hc
    have HD3 := Lib.hid hD
    clear hD
    go_wp2_with (fail)
    rw [← HY2.out, ← HX2.out, ← HW2.out]
    refine hc.mono ?_
    rintro e w3 ⟨a3, c3, da3, dn3, dc3, na3, nn3, nc3, Ls3, rfl, hT, hS, hb⟩
    replace HB := Lib.hid (HB.out.trans (hb.mono HB.out.size))
    replace HA := Lib.hid (HA.out.next hb)
    replace HV9 := Lib.hid (HV9.out.next hb)
    replace HV1 := Lib.hid (HV1.out.next hb)
    replace HR1 := Lib.hid (HR1.out.next hb)
    replace HV2 := Lib.hid (HV2.out.next hb)
    replace HR2 := Lib.hid (HR2.out.next hb)
    clear oV9 olV9 hc hb
    have oV9 := HV9.out.var.cell
    have olV9 := lt_of_block HV9.out.var
    have oV1 := HV1.out.var.cell
    have olV1 := lt_of_block HV1.out.var
    obtain ⟨oR10, oR11, oR12, oR13, oR14, oR15⟩ := HR1.out.var.cells
    have olR1 := HR1.out.var.lt
    obtain ⟨oR20, oR21, oR22, oR23, oR24, oR25⟩ := HR2.out.var.cells
    have olR2 := HR2.out.var.lt
    obtain ⟨w3s, x3, y3, hw, hx, hy, hV, hR, hb⟩ := new_tr_rs hT hS
    have HL3 := Lib.hid (show w.heap.size ≤ x3 by rw [hx]; exact HB.out.size)
    replace HB := Lib.hid (HB.out.trans (hb.mono HB.out.size))
    replace HA := Lib.hid (HA.out.next hb)
    replace HV9 := Lib.hid (HV9.out.next hb)
    replace HV1 := Lib.hid (HV1.out.next hb)
    replace HR1 := Lib.hid (HR1.out.next hb)
    replace HV2 := Lib.hid (HV2.out.next hb)
    replace HR2 := Lib.hid (HR2.out.next hb)
    have HV3 := Lib.hid hV
    have HR3 := Lib.hid hR
    have HW3 := Lib.hid hw
    have HX3 := Lib.hid hx
    have HY3 := Lib.hid hy
    clear hT hS hw hx hy hV hR hb
    unfold resW
    obtain ⟨p1, p2, p3, p4, p5, p6, p7⟩ := HPL.out D1 D2 D3 HD1.out HD2.out HD3.out
    have HP := Lib.hid (And.intro p4 (And.intro p5 (And.intro p6 p7)))
    have hc := sameT2 HV9.out.tv HV1.out.tv
    rw [decide_eq_true p1.symm] at hc
    clear p1 p4 p5 p6 p7
    skip
    go_wp2_with (fail)
    rw [← HY3.out, ← HX3.out, ← HW3.out]
    refine hc.mono ?_
    rintro e w4 ⟨rfl, hb⟩
    replace HB := Lib.hid (HB.out.trans (hb.mono HB.out.size))
    replace HA := Lib.hid (HA.out.next hb)
    replace HV9 := Lib.hid (HV9.out.next hb)
    replace HV1 := Lib.hid (HV1.out.next hb)
    replace HR1 := Lib.hid (HR1.out.next hb)
    replace HV2 := Lib.hid (HV2.out.next hb)
    replace HR2 := Lib.hid (HR2.out.next hb)
    replace HV3 := Lib.hid (HV3.out.next hb)
    replace HR3 := Lib.hid (HR3.out.next hb)
    clear oV9 olV9 oV1 olV1 oR10 oR11 oR12 oR13 oR14 oR15 olR1 oR20 oR21 oR22 oR23 oR24 oR25 olR2 hc hb p2 p3
    obtain ⟨r10, r11, r12, r13, r14, r15⟩ := HR1.out.var.cells
    obtain ⟨r20, r21, r22, r23, r24, r25⟩ := HR2.out.var.cells
    obtain ⟨r30, r31, r32, r33, r34, r35⟩ := HR3.out.var.cells
    have HC1 := Lib.hid r11
    have HC2 := Lib.hid r21
    have HC3 := Lib.hid r31
    go_wp2_with (fail)
    clear r10 r11 r12 r13 r14 r15 r20 r21 r22 r23 r24 r25 r30 r31 r32 r33 r34 r35
    refine wp_region_held_drew (S := (fun w' => w'.cell? ⟨y1, 1, none⟩ = some (.slice da1 dn1 dc1) ∧ w'.cell? ⟨y2, 1, none⟩ = some (.slice da2 dn2 dc2) ∧ w'.cell? ⟨y3, 1, none⟩ = some (.slice da3 dn3 dc3))) (by kernel_rfl) ?_ (fun hHeld => ?_)
    · exact ⟨HC1.out, HC2.out, HC3.out⟩
    refine wpAnyH_take (i := 0) (v := ?_) rfl (by kernel_rfl) (by kernel_rfl) (by kernel_rfl) (fun _ _ _ h => h) (Or.inl ⟨by rfl, fun w hSw => ?_⟩) (by assumption) ?_
    rotate_left
    · (try dsimp only at hSw); go_simp; try with_reducible rfl
    simp only [Act.put, List.setIfInBounds_toArray, List.set_cons_zero, List.set_cons_succ, List.getElem_toArray, List.getElem_cons_zero]
    refine wpAnyH_take (i := 1) (v := ?_) rfl (by kernel_rfl) (by kernel_rfl) (by kernel_rfl) (fun _ _ _ h => h) (Or.inl ⟨by rfl, fun w hSw => ?_⟩) (by assumption) ?_
    rotate_left
    · (try dsimp only at hSw); go_simp; try with_reducible rfl
    simp only [Act.put, List.setIfInBounds_toArray, List.set_cons_zero, List.set_cons_succ, List.getElem_toArray, List.getElem_cons_succ, List.getElem_cons_zero]
    refine wpAnyH_take (i := 3) (v := ?_) rfl (by kernel_rfl) (by kernel_rfl) (by kernel_rfl) (fun _ _ _ h => h) (Or.inl ⟨by rfl, fun w hSw => ?_⟩) (by assumption) ?_
    rotate_left
    · (try dsimp only at hSw); go_simp; try with_reducible rfl
    simp only [Act.put, List.setIfInBounds_toArray, List.set_cons_zero, List.set_cons_succ, List.getElem_toArray, List.getElem_cons_succ, List.getElem_cons_zero]
    refine wpAnyH_take (i := 4) (v := ?_) rfl (by kernel_rfl) (by kernel_rfl) (by kernel_rfl) (fun _ _ _ h => h) (Or.inl ⟨by rfl, fun w hSw => ?_⟩) (by assumption) ?_
    rotate_left
    · (try dsimp only at hSw); go_simp; try with_reducible rfl
    simp only [Act.put, List.setIfInBounds_toArray, List.set_cons_zero, List.set_cons_succ, List.getElem_toArray, List.getElem_cons_succ, List.getElem_cons_zero]
    refine wpAnyH_take (i := 6) (v := ?_) rfl (by kernel_rfl) (by kernel_rfl) (by kernel_rfl) (fun _ _ _ h => h) (Or.inl ⟨by rfl, fun w hSw => ?_⟩) (by assumption) ?_
    rotate_left
    · (try dsimp only at hSw); go_simp; try with_reducible rfl
    simp only [Act.put, List.setIfInBounds_toArray, List.set_cons_zero, List.set_cons_succ, List.getElem_toArray, List.getElem_cons_succ, List.getElem_cons_zero]
    refine wpAnyH_take (i := 7) (v := ?_) rfl (by kernel_rfl) (by kernel_rfl) (by kernel_rfl) (fun _ _ _ h => h) (Or.inl ⟨by rfl, fun w hSw => ?_⟩) (by assumption) ?_
    rotate_left
    · (try dsimp only at hSw); go_simp; try with_reducible rfl
    simp only [Act.put, List.setIfInBounds_toArray, List.set_cons_zero, List.set_cons_succ, List.getElem_toArray, List.getElem_cons_succ, List.getElem_cons_zero]
    refine wpAnyH_ready (rs := [2]) (by kernel_rfl) (by simp) ?_
    refine AllReadyH.cons rfl (fun K hK => ?_) AllReadyH.nil
    simp only [List.getElem_toArray, List.getElem_cons_succ, List.getElem_cons_zero]
    go_simp
    have hbz : Below w4.heap.size w4 w4.drew := below_drewN (Below.refl _ _) 1
    replace HB := Lib.hid (HB.out.trans (hbz.mono HB.out.size))
    replace HR1 := Lib.hid (HR1.out.next hbz)
    replace HR2 := Lib.hid (HR2.out.next hbz)
    replace HR3 := Lib.hid (HR3.out.next hbz)
    have hdl := HR1.out.res.data.bys.len
    have hdl2 := HR2.out.res.data.bys.len
    refine (copyB_any da1 dn1 dc1 D1.2.d w4.drew HR1.out.res.data (by have := HP.out.2.1; omega)).mono ?_
    rintro e w5 ⟨v5, rfl, hO5, hb5⟩
    have HO5 := Lib.hid hO5
    have HB5 := Lib.hid hb5
    have hy2 := HR2.out.next hb5
    have hS5 := And.intro (HR1.out.next hb5).var.cells.2.1 (And.intro hy2.var.cells.2.1 (HR3.out.next hb5).var.cells.2.1)
    clear hO5 hb5 hbz hHeld
    go_wp2_with (fail)
    refine hK.out _ _ hS5 (fun _ => ?_)
    clear hK K
    refine wpAnyH_ready (rs := [5]) (by kernel_rfl) (by simp) ?_
    refine AllReadyH.cons rfl (fun K hK => ?_) AllReadyH.nil
    rw [if_pos (by rfl)]
    refine wp_apb (.tmp 108) (.tmp 110) rfl w4.drew.heap.size v5 D1.2.d.length D1.2.d rfl HO5.out da2 dn2 dc2 D2.2.d rfl hy2.res.data (by have := HP.out.2.1; have := HP.out.2.2.1; omega) HB5.out.size w4.drew HB5.out ?_
    intro v6 w6 hO6 hb6
    have hR3 := HR3.out.next hb6
    have hS6 := And.intro (HR1.out.next hb6).var.cells.2.1 (And.intro (HR2.out.next hb6).var.cells.2.1 hR3.var.cells.2.1)
    have hpq := HP.out.1
    rw [hpq] at hO6
    obtain ⟨aX, cX, rfl, hPX, _⟩ := hO6.pin
    have hc := same_any aX da3 (D1.2.d.length + dn2) cX dn3 dc3 D3.2.d D3.2.d w6 hPX.bys hR3.res.data.bys (by have := HP.out.2.1; have := HP.out.2.2.1; omega)
    rw [sameB_true rfl] at hc
    replace HB := Lib.hid (HB.out.trans (hb6.mono HB.out.size))
    have HS7 : Hid (∀ q, (fun w' : World => w'.cell? ⟨y1, 1, none⟩ = some (.slice da1 dn1 dc1) ∧ w'.cell? ⟨y2, 1, none⟩ = some (.slice da2 dn2 dc2) ∧ w'.cell? ⟨y3, 1, none⟩ = some (.slice da3 dn3 dc3)) (w6.drewN q)) := Lib.hid (fun q => hS6)
    clear hy2 hdl hdl2 hS5 hO6 hb6 hR3 hpq hPX
    simp only [Act.put, List.setIfInBounds_toArray, List.set_cons_zero, List.set_cons_succ, List.getElem_toArray, List.getElem_cons_succ, List.getElem_cons_zero]
    refine hK.out _ _ hS6 (fun _ => ?_)
    clear hK K hS6
    refine wpAnyH_ready (rs := [8]) (by kernel_rfl) (by simp) ?_
    refine AllReadyH.cons rfl (fun K hK => ?_) AllReadyH.nil
    simp only [List.getElem_toArray, List.getElem_cons_succ, List.getElem_cons_zero]
    go_simp
    refine hc.mono ?_
    rintro e w7 ⟨rfl, qd, rfl⟩
    clear hc
    go_wp2_with (fail)
    refine hK.out _ _ (HS7.out qd) (fun _ => ?_)
    clear hK K
    refine wpAnyH_take (i := 9) (v := ?_) rfl (by kernel_rfl) (by kernel_rfl) (by kernel_rfl) (fun _ _ _ h => h) (Or.inl ⟨by rfl, fun w hSw => ?_⟩) (by assumption) ?_
    rotate_left
    · (try dsimp only at hSw); go_simp; try with_reducible rfl
    simp only [Act.put, List.setIfInBounds_toArray, List.set_cons_zero, List.set_cons_succ, List.getElem_toArray, List.getElem_cons_succ, List.getElem_cons_zero]
    refine wpAnyH_done (by kernel_rfl) ?_ _
    replace HB := Lib.hid (below_drewN HB.out qd)
    go_wp2_with (fail)
    go_ret
    exact ⟨rfl, HB.out⟩
end
end Go.Proofs.YtinholnidchblaaGreatDoor
