/-
  FileClones, by contract.
-/
import Derived.Test.YtegcjpocdfmpfaaXaj
set_option linter.unusedVariables false
set_option linter.unusedSimpArgs false
set_option maxRecDepth 100000
set_option maxHeartbeats 16000000
namespace Go.Proofs.Ytegcjpocdfmpfaa
open Go.RowKit

theorem fileClones_any (a : Option Addr) (n c : Nat) (f : Nat → Cb) (p : Int) (aD : Option Addr) (nD cD : Nat) (zD : List Int) (w : World) (hc : CbsAt w a n f) (hd : Pin w aD nD cD zD) :
    Calls Try.prog 10 #[.slice a n c, .int .i64 p, .slice aD nD cD] w fun e w' => e = .returned (.bool true) ∧ Below w.heap.size w w' := by
  have HC := Lib.hid hc
  have HDA := Lib.hid hd
  clear hc hd
  go_enter Try.func10, Try.ntmps10
  go_wp2_with (fail)
  refine (falive_any w).mono ?_
  rintro e w2 ⟨rfl, hb2⟩
  go_wp2_with (fail)
  refine (fgreat_any none 0 0 (fun _ => default) a n c f w2 ⟨.inl rfl, fun i hi => by omega⟩ (by omega) (fun i hi => by omega) (HC.out.next hb2)).mono ?_
  rintro e w3 ⟨gb, rfl, hgb, hb3⟩
  have HB3 := Lib.hid (hb2.trans (hb3.mono hb2.size))
  clear hb2 hb3
  cases gb with
  | true =>
    go_wp2_with (fail)
    go_ret
    exact ⟨rfl, HB3.out⟩
  | false =>
    have HG := Lib.hid (hgb rfl)
    clear hgb
    by_cases ha0 : p < 0
    · go_wp2_with (fail)
      go_ret
      exact ⟨rfl, HB3.out⟩
    by_cases ha1 : 3000 < p
    · go_wp2_with (fail)
      go_ret
      exact ⟨rfl, HB3.out⟩
    by_cases hd1 : 3000 < nD
    · have k9 : (3000 : Int) < (nD : Int) := by omega
      go_wp2_with (fail)
      go_ret
      exact ⟨rfl, HB3.out⟩
    have k9 : ¬ (3000 : Int) < (nD : Int) := by omega
    obtain ⟨pn, rfl⟩ := Int.eq_ofNat_of_zero_le (by omega : 0 ≤ p)
    have HPQR := Lib.hid (show pn ≤ 3000 ∧ nD ≤ 3000 by omega)
    obtain ⟨w4, hw4⟩ : ∃ w4, w4 = w3.alloc (.cells #[.slice none 0 0, .slice none 0 0] 43) := ⟨_, rfl⟩
    have hb4 : Below w3.heap.size w3 w4 := by rw [hw4]; exact (Below.refl _ _).alloc (Nat.le_refl _) _
    have HB4 := Lib.hid (HB3.out.trans (hb4.mono HB3.out.size))
    have HW4 := Lib.hid hw4
    clear hb4 hw4
    go_wp2_with (fail)
    rw [← HW4.out]
    refine (FN.new w3.heap.size w4).mono ?_
    rintro e w5 ⟨b, T0, D0, rfl, hf, hbl, hD, hb⟩
    have HF5 := Lib.hid hf
    have HB5 := Lib.hid (HB4.out.trans (hb.mono HB4.out.size))
    have HL5 := Lib.hid (show w.heap.size ≤ b ∧ ∀ j, D0 j → w.heap.size ≤ j from ⟨Nat.le_trans HB4.out.size hbl, fun j hj => Nat.le_trans HB4.out.size (hD j hj)⟩)
    clear hf hbl hD hb
    clear ha0 ha1 hd1 k9
    go_wp2_with (fail)
    go_loopw [9] (fun v wr => ∃ (i s : Nat) (T D : Nat → Prop) (c : Nat → Int), i ≤ n ∧ v = .int .i64 i ∧ FN wr b s T D c ∧ (∀ j, T j → w.heap.size ≤ j) ∧ (∀ j, D j → w.heap.size ≤ j) ∧ Below w.heap.size w wr) (fun v _ => n - (RowKit.intOf v).toNat)
    case atStart => exact ⟨0, 0, T0, D0, fun _ => 0, by omega, rfl, HF5.out, (fun j hj => HL5.out.2 j (HF5.out.td j hj)), HL5.out.2, HB5.out⟩
    case round =>
      obtain ⟨i, s, T, D, c0, hi, rfl, hf, hT, hD, hb⟩ := hrel
      have HF := Lib.hid hf
      have HT := Lib.hid hT
      have HD := Lib.hid hD
      have HB := Lib.hid hb
      clear hf hT hD hb
      by_cases hlt : i < n
      · rcases HC.out with h0 | ⟨b1, o1, rfl, l1, r1⟩
        · omega
        have hx := r1 i hlt
        have hfew := HG.out.2.2.2 i hlt
        have hn60 := HG.out.2.2.1
        obtain ⟨x, hxe⟩ : ∃ x, x = f i := ⟨_, rfl⟩
        rw [← hxe] at hx hfew
        have HX := Lib.hid (show ∀ w', Below w.heap.size w w' → CbIn w' b1 (o1 + i * 4) x from fun w' hb => hx.next l1 hb)
        have HFW := Lib.hid hfew
        have k0 : (0 : Int) ≤ (i : Int) := by omega
        have k1 : (i : Int) < (n : Int) := by omega
        have hx2 := HX.out _ HB.out
        have d0 := hx2.k0
        have d1 := hx2.k1
        have d2 := hx2.k2
        have d3 := hx2.k3
        clear hxe hx hx2 r1 hfew l1
        by_cases h1 : x.q = 1
        · rw [h1] at d0
          have HX1 := Lib.hid h1
          clear h1
          go_upto_region 12 with fail
          refine wp_region_held_drew (S := (fun w' => w'.cell? ⟨b1, o1 + i * 4 + 1, none⟩ = some (.int .i64 x.k) ∧ w'.cell? ⟨b1, o1 + i * 4 + 3, none⟩ = some (.slice x.a x.l x.c))) (by kernel_rfl) ⟨d1, d3⟩ (fun hHeld => ?_)
          refine wpAnyH_take (i := 0) (v := ?_) rfl (by kernel_rfl) (by kernel_rfl) (by kernel_rfl) (fun _ _ _ h => h) (Or.inl ⟨by rfl, fun w hSw => ?_⟩) (by assumption) ?_
          rotate_left
          · (try dsimp only at hSw); go_simp; try with_reducible rfl
          simp only [Act.put, List.setIfInBounds_toArray, List.set_cons_zero, List.set_cons_succ, List.getElem_toArray, List.getElem_cons_zero]
          refine wpAnyH_take (i := 1) (v := ?_) rfl (by kernel_rfl) (by kernel_rfl) (by kernel_rfl) (fun _ _ _ h => h) (Or.inl ⟨by rfl, fun w hSw => ?_⟩) (by assumption) ?_
          rotate_left
          · (try dsimp only at hSw); go_simp; try with_reducible rfl
          simp only [Act.put, List.setIfInBounds_toArray, List.set_cons_zero, List.set_cons_succ, List.getElem_toArray, List.getElem_cons_succ, List.getElem_cons_zero]
          refine wpAnyH_take (i := 2) (v := ?_) rfl (by kernel_rfl) (by kernel_rfl) (by kernel_rfl) (fun _ _ _ h => h) (Or.inl ⟨by rfl, fun w hSw => ?_⟩) (by assumption) ?_
          rotate_left
          · (try dsimp only at hSw); go_simp; try with_reducible rfl
          simp only [Act.put, List.setIfInBounds_toArray, List.set_cons_zero, List.set_cons_succ, List.getElem_toArray, List.getElem_cons_succ, List.getElem_cons_zero]
          refine wpAnyH_take (i := 3) (v := ?_) rfl (by kernel_rfl) (by kernel_rfl) (by kernel_rfl) (fun _ _ _ h => h) (Or.inl ⟨by rfl, fun w hSw => ?_⟩) (by assumption) ?_
          rotate_left
          · (try dsimp only at hSw); go_simp; try with_reducible rfl
          simp only [Act.put, List.setIfInBounds_toArray, List.set_cons_zero, List.set_cons_succ, List.getElem_toArray, List.getElem_cons_succ, List.getElem_cons_zero]
          refine wpAnyH_take (i := 4) (v := ?_) rfl (by kernel_rfl) (by kernel_rfl) (by kernel_rfl) (fun _ _ _ h => h) (Or.inl ⟨by rfl, fun w hSw => ?_⟩) (by assumption) ?_
          rotate_left
          · (try dsimp only at hSw); go_simp; try with_reducible rfl
          simp only [Act.put, List.setIfInBounds_toArray, List.set_cons_zero, List.set_cons_succ, List.getElem_toArray, List.getElem_cons_succ, List.getElem_cons_zero]
          refine wpAnyH_take (i := 5) (v := ?_) rfl (by kernel_rfl) (by kernel_rfl) (by kernel_rfl) (fun _ _ _ h => h) (Or.inl ⟨by rfl, fun w hSw => ?_⟩) (by assumption) ?_
          rotate_left
          · (try dsimp only at hSw); go_simp; try with_reducible rfl
          simp only [Act.put, List.setIfInBounds_toArray, List.set_cons_zero, List.set_cons_succ, List.getElem_toArray, List.getElem_cons_succ, List.getElem_cons_zero]
          refine wpAnyH_take (i := 6) (v := ?_) rfl (by kernel_rfl) (by kernel_rfl) (by kernel_rfl) (fun _ _ _ h => h) (Or.inl ⟨by rfl, fun w hSw => ?_⟩) (by assumption) ?_
          rotate_left
          · (try dsimp only at hSw); go_simp; try with_reducible rfl
          simp only [Act.put, List.setIfInBounds_toArray, List.set_cons_zero, List.set_cons_succ, List.getElem_toArray, List.getElem_cons_succ, List.getElem_cons_zero]
          refine wpAnyH_take (i := 7) (v := ?_) rfl (by kernel_rfl) (by kernel_rfl) (by kernel_rfl) (fun _ _ _ h => h) (Or.inl ⟨by rfl, fun w hSw => ?_⟩) (by assumption) ?_
          rotate_left
          · (try dsimp only at hSw); go_simp; try with_reducible rfl
          simp only [Act.put, List.setIfInBounds_toArray, List.set_cons_zero, List.set_cons_succ, List.getElem_toArray, List.getElem_cons_succ, List.getElem_cons_zero]
          refine wpAnyH_take (i := 8) (v := ?_) rfl (by kernel_rfl) (by kernel_rfl) (by kernel_rfl) (fun _ _ _ h => h) (Or.inl ⟨by rfl, fun w hSw => ?_⟩) (by assumption) ?_
          rotate_left
          · (try dsimp only at hSw); go_simp; try with_reducible rfl
          simp only [Act.put, List.setIfInBounds_toArray, List.set_cons_zero, List.set_cons_succ, List.getElem_toArray, List.getElem_cons_succ, List.getElem_cons_zero]
          refine wpAnyH_take (i := 9) (v := ?_) rfl (by kernel_rfl) (by kernel_rfl) (by kernel_rfl) (fun _ _ _ h => h) (Or.inl ⟨by rfl, fun w hSw => ?_⟩) (by assumption) ?_
          rotate_left
          · (try dsimp only at hSw); go_simp; try with_reducible rfl
          simp only [Act.put, List.setIfInBounds_toArray, List.set_cons_zero, List.set_cons_succ, List.getElem_toArray, List.getElem_cons_succ, List.getElem_cons_zero]
          refine wpAnyH_take (i := 10) (v := ?_) rfl (by kernel_rfl) (by kernel_rfl) (by kernel_rfl) (fun _ _ _ h => h) (Or.inl ⟨by rfl, fun w hSw => ?_⟩) (by assumption) ?_
          rotate_left
          · (try dsimp only at hSw); go_simp; try with_reducible rfl
          simp only [Act.put, List.setIfInBounds_toArray, List.set_cons_zero, List.set_cons_succ, List.getElem_toArray, List.getElem_cons_succ, List.getElem_cons_zero]
          refine wpAnyH_ready (rs := [11]) (by kernel_rfl) (by simp) ?_
          refine AllReadyH.cons rfl (fun K hK => ?_) AllReadyH.nil
          simp only [List.getElem_toArray, List.getElem_cons_succ, List.getElem_cons_zero]
          go_simp
          have hdr : Below wr.heap.size wr wr.drew := below_drewN (Below.refl _ _) 1
          have hbd := HB.out.trans (hdr.mono HB.out.size)
          refine ((HF.out.next hdr).write x.k x.a x.l x.c x.zs (HX.out _ hbd).pin (by have := HFW.out; omega)).mono ?_
          rintro e w7 ⟨rfl, hl⟩
          obtain ⟨T7, D7, hf7, hT7, hD7, hb7⟩ := hl.own hbd HL5.out.1 HT.out HD.out
          have HF7 := Lib.hid hf7
          have HT7 := Lib.hid (And.intro hT7 hD7)
          have HB7 := Lib.hid hb7
          have hx7 := HX.out _ hb7
          have e1 := hx7.k1
          have e3 := hx7.k3
          have e0 := hx7.k0
          rw [HX1.out] at e0
          obtain ⟨er, her⟩ : ∃ er : Int, er = if wrBad x.k x.l = true then 28 else 0 := ⟨_, rfl⟩
          rw [← her]
          clear hf7 hT7 hD7 hb7 hx7 hl hdr hbd her d0 d1 d2 d3
          go_wp2_with (fail)
          refine hK.out _ _ ⟨e1, e3⟩ (fun hHeld => ?_)
          clear hK K
          refine wpAnyH_done (by kernel_rfl) ?_ _
          clear hHeld e1 e3
          go_wp2_with (fail)
          go_roundw
          case rel => exact ⟨i + 1, _, T7, D7, _, by omega, by go_num, HF7.out, HT7.out.1, HT7.out.2, HB7.out⟩
          case measure => simp [RowKit.intOf]; omega
        · have q1 : (x.q == 1) = false := by simpa using h1
          clear h1
          go_wp2_with (fail)
          go_roundw
          case rel => exact ⟨i + 1, s, T, D, c0, by omega, by go_num, HF.out, HT.out, HD.out, HB.out⟩
          case measure => simp [RowKit.intOf]; omega
      · obtain rfl : i = n := by omega
        have HS := Lib.hid HF.out.sz
        have hmin : Nat.min 100000 (s - 0) = s := by
          rw [Nat.sub_zero]
          exact Nat.min_eq_right (by have := HS.out; omega)
        have HMIN := Lib.hid hmin
        clear hmin
        have e0 : ((0 : Nat) : Int) = 0 := rfl
        have e1 : ((100000 : Nat) : Int) = 100000 := rfl
        have hr1 := HF.out.read 0 100000 (by omega) (by omega)
        rw [HMIN.out, e0, e1] at hr1
        have HR1 := Lib.hid hr1
        clear hr1 e0 e1
        go_wp2_with (fail)
        refine HR1.out.mono ?_
        rintro e w6 ⟨a6, m6, c6, rfl, hp6, hn6, hb6⟩
        obtain rfl : m6 = s := by have := hp6.len; rw [rdC_len] at this; omega
        have HP6 := Lib.hid hp6
        have HB6 := Lib.hid (HB.out.trans (hb6.mono HB.out.size))
        have HF6 := Lib.hid (HF.out.next hb6)
        clear hp6 hb6 hn6 HR1
        go_wp2_with (fail)
        refine HF6.out.clone.mono ?_
        rintro e w7 ⟨b2, T2, D2, rfl, hf7, hb27, hT2, hD2, hb7⟩
        have hl6 := HF6.out.lt
        have HF7 := Lib.hid (HF6.out.next hb7)
        have HG7 := Lib.hid hf7
        have HB7 := Lib.hid (HB6.out.trans (hb7.mono HB6.out.size))
        have HP7 := Lib.hid (HP6.out.next hb7)
        have HAP := Lib.hid (show b < w6.heap.size ∧ ¬ D b ∧ (∀ j, D j → j < w6.heap.size) ∧ w6.heap.size ≤ b2 ∧ (∀ j, T2 j → w6.heap.size ≤ j) ∧ (∀ j, D2 j → (D j ∧ ¬ T j) ∨ w6.heap.size ≤ j) ∧ w6.heap.size ≤ w7.heap.size ∧ w.heap.size ≤ w6.heap.size from ⟨hl6.1, hl6.2.1, hl6.2.2, hb27, hT2, hD2, hb7.size, HB6.out.size⟩)
        have H67 := Lib.hid hb7
        clear hf7 hb27 hT2 hD2 hb7 hl6
        have hbad : wrBad (pn : Int) nD = false := by
          have := HPQR.out
          unfold wrBad
          rw [decide_eq_false (by omega), decide_eq_false (by omega)]
          rfl
        have hw := HG7.out.write (pn : Int) aD nD cD zD (HDA.out.next HB7.out) (by have := HPQR.out; omega)
        rw [hbad, if_neg (by simp)] at hw
        have HWR := Lib.hid hw
        have HBAD := Lib.hid hbad
        clear hw hbad
        go_wp2_with (fail)
        refine HWR.out.mono ?_
        rintro e w8 ⟨rfl, T3, D3, hf8, hT3, hD3, ht8⟩
        have hb8 : Below w6.heap.size w7 w8 := ht8.below HAP.out.2.2.2.2.2.2.1 fun j hj => by
          have hA := HAP.out
          rcases hj with h1 | rfl | h1
          · exact hA.2.2.2.2.1 j h1
          · exact hA.2.2.2.1
          · omega
        have hf8b := HF7.out.turn (N := fun j => T2 j ∨ j = b2 ∨ w7.heap.size ≤ j) ht8 (by
          have hA := HAP.out
          rintro (h1 | h1 | h1)
          · have := hA.2.2.2.2.1 _ h1; omega
          · omega
          · omega) (fun j hj => by
          have hA := HAP.out
          have hjl := hA.2.2.1 j hj
          rintro (h1 | h1 | h1)
          · have := hA.2.2.2.2.1 _ h1; omega
          · omega
          · omega)
        have HF8 := Lib.hid hf8b
        have HG8 := Lib.hid hf8
        have HB8 := Lib.hid (HB7.out.trans (hb8.mono HAP.out.2.2.2.2.2.2.2))
        have hp8 : Pin w8 a6 m6 c6 (rdC c0 0 m6) := (HP6.out.below (Nat.le_refl _) (H67.out.trans hb8))
        have HP8 := Lib.hid hp8
        have HD3 := Lib.hid (show ∀ j, D3 j → (D j ∧ ¬ T j) ∨ w6.heap.size ≤ j from fun j hj => by
          have hA := HAP.out
          rcases hD3 j hj with h1 | h1
          · exact hA.2.2.2.2.2.1 j h1
          · exact .inr (by omega))
        clear hf8 hT3 hD3 ht8 hb8 hf8b hp8
        have e0 : ((0 : Nat) : Int) = 0 := rfl
        have e1 : ((100000 : Nat) : Int) = 100000 := rfl
        have hr1 := HF8.out.read 0 100000 (by omega) (by omega)
        rw [HMIN.out, e0, e1] at hr1
        have HR1 := Lib.hid hr1
        clear hr1 e0 e1
        go_wp2_with (fail)
        refine HR1.out.mono ?_
        rintro e w9 ⟨a9, m9, c9, rfl, hp9, hn9, hb9⟩
        obtain rfl : m9 = m6 := by have := hp9.len; rw [rdC_len] at this; omega
        have HB9 := Lib.hid (HB8.out.trans (hb9.mono HB8.out.size))
        have HF9 := Lib.hid (HF8.out.next hb9)
        have HG9 := Lib.hid (HG8.out.next hb9)
        have hsm := same_any a6 a9 m9 c6 m9 c9 _ _ w9 (HP8.out.next hb9).bys hp9.bys (by have := HS.out; omega)
        rw [sameB_true rfl] at hsm
        have HSM := Lib.hid hsm
        clear hp9 hn9 hb9 hsm HR1
        go_wp2_with (fail)
        refine HSM.out.mono ?_
        rintro e w10 ⟨rfl, q, rfl⟩
        have hdq : Below w9.heap.size w9 (w9.drewN q) := below_drewN (Below.refl _ _) q
        have HF10 := Lib.hid (HF9.out.next hdq)
        have HG10 := Lib.hid (HG9.out.next hdq)
        have HB10 := Lib.hid (HB9.out.trans (hdq.mono HB9.out.size))
        clear hdq
        go_wp2_with (fail)
        refine HF10.out.size.mono ?_
        rintro e w11 ⟨rfl, rfl⟩
        go_wp2_with (fail)
        have htr := HF10.out.trunc 0
        rw [show trBad 0 = false by decide, if_neg (by simp), if_neg (by simp), if_neg (by simp)] at htr
        refine htr.mono ?_
        rintro e w12 ⟨rfl, T5, D5, hf12, _, _, ht12⟩
        have hg12 := HG10.out.turn ht12 (by
          have hA := HAP.out
          rintro (h1 | h1 | h1)
          · have := hA.2.2.1 _ (HF10.out.td _ h1); omega
          · omega
          · have := HG10.out.lt.1; omega) (fun j hj => by
          have hA := HAP.out
          have hjl := HG10.out.lt.2.2 j hj
          rintro (h1 | h1 | h1)
          · rcases HD3.out j hj with h2 | h2
            · exact h2.2 h1
            · have := hA.2.2.1 _ (HF10.out.td _ h1); omega
          · rcases HD3.out j hj with h2 | h2
            · rw [h1] at h2; exact hA.2.1 h2.1
            · omega
          · omega)
        have HG12 := Lib.hid hg12
        have HB12 := Lib.hid (show Below w.heap.size w w12 from HB10.out.trans (ht12.below HB10.out.size fun j hj => by
          rcases hj with h1 | rfl | h1
          · exact HT.out j h1
          · exact HL5.out.1
          · exact Nat.le_trans HB10.out.size h1))
        clear htr hf12 ht12 hg12
        have hrd : rdC (wrZ c0 (pn : Int) zD) pn (Nat.min nD (wrS m9 (pn : Int) nD - pn)) = zD := by
          have hl := HDA.out.len
          have hm : Nat.min nD (wrS m9 (pn : Int) nD - pn) = nD := by
            refine Nat.min_eq_left ?_
            unfold wrS
            rw [HBAD.out, Int.toNat_natCast]
            by_cases h0 : nD = 0
            · omega
            · rw [if_neg (by simp; exact h0)]
              have := Nat.le_max_right m9 (pn + nD)
              have h2 : pn + nD ≤ Nat.max m9 (pn + nD) := this
              omega
          rw [hm]
          refine byt_ext (by rw [rdC_len, hl]) fun i hi => ?_
          rw [rdC_len] at hi
          rw [rdC_byt _ _ hi]
          unfold wrZ
          rw [hl, HBAD.out, if_neg (by simp), Int.toNat_natCast]
          unfold wrC
          rw [if_pos (by omega)]
          congr 1
          omega
        have hr2 := HG12.out.read pn nD (by have := HPQR.out; omega) (by have := HPQR.out; omega)
        rw [hrd] at hr2
        have HR2 := Lib.hid hr2
        clear hr2 hrd
        go_wp2_with (fail)
        refine HR2.out.mono ?_
        rintro e w13 ⟨a13, m13, c13, rfl, hp13, hn13, hb13⟩
        obtain rfl : m13 = nD := by have := hp13.len; have := HDA.out.len; omega
        have HB13 := Lib.hid (HB12.out.trans (hb13.mono HB12.out.size))
        have hs2 := same_any a13 aD m13 c13 m13 cD _ _ w13 hp13.bys (HDA.out.next HB13.out).bys (by have := HPQR.out; omega)
        rw [sameB_true rfl] at hs2
        have HS2 := Lib.hid hs2
        clear hp13 hn13 hb13 hs2
        go_wp2_with (fail)
        refine HS2.out.mono ?_
        rintro e w14 ⟨rfl, q2, rfl⟩
        go_wp2_with (fail)
        go_ret
        exact ⟨rfl, HB13.out.trans (below_drewN (Below.refl w13.heap.size w13) q2 |>.mono HB13.out.size)⟩
end Go.Proofs.Ytegcjpocdfmpfaa
