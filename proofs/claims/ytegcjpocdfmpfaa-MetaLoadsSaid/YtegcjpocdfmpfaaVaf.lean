/-
  Is a record right? The document's answer, by contract.
-/
import Derived.Test.YtegcjpocdfmpfaaVae
set_option linter.unusedVariables false
set_option linter.unusedSimpArgs false
set_option maxRecDepth 100000
set_option maxHeartbeats 16000000
namespace Go.Proofs.Ytegcjpocdfmpfaa
open Go.RowKit

theorem pw_no {f : Nat → Int} {i : Nat} (hi : i < 18) (h : atO f i = false) : pwO f = false := by
  cases hh : pwO f with
  | false => rfl
  | true => rw [pwO_iff.1 hh i hi] at h; cases h
theorem pw_end {f : Nat → Int} (h : ∀ i, i < 16 → atO f i = true) : pwO f = (atO f 16 && atO f 17) := by
  rw [Bool.eq_iff_iff, pwO_iff, Bool.and_eq_true]
  constructor
  · intro h; exact ⟨h 16 (by omega), h 17 (by omega)⟩
  · intro ⟨h1, h2⟩ i hi
    by_cases e1 : i = 16
    · rw [e1]; exact h1
    · by_cases e2 : i = 17
      · rw [e2]; exact h2
      · exact h i (by omega)
theorem rright_any (f : Nat → Int) (w : World) : Calls Try.prog 58 #[rcv f] w fun e w' => e = .returned (.bool (rgO f)) ∧ Below w.heap.size w w' := by
  obtain ⟨P, hP⟩ : ∃ P, P = rgO f := ⟨_, rfl⟩
  rw [← hP]
  obtain ⟨wa, hwa⟩ : ∃ wa, wa = w.alloc (.cells (rcs f) 104) := ⟨_, rfl⟩
  have hR : Rcb wa w.heap.size f := by rw [hwa]; exact Rcb.mk' w f
  have hB : Below w.heap.size w wa := by rw [hwa]; exact (Below.refl _ _).alloc (Nat.le_refl _) _
  have y0 := hR.cell (i := 0) (by omega)
  have y1 := hR.cell (i := 1) (by omega)
  have y2 := hR.cell (i := 2) (by omega)
  have y3 := hR.cell (i := 19) (by omega)
  have y4 := hR.cell (i := 20) (by omega)
  obtain ⟨k, hk⟩ : ∃ s, s = f 0 := ⟨_, rfl⟩
  obtain ⟨l, hl⟩ : ∃ s, s = f 1 := ⟨_, rfl⟩
  obtain ⟨s, hs⟩ : ∃ s, s = f 2 := ⟨_, rfl⟩
  obtain ⟨g, hg⟩ : ∃ s, s = f 19 := ⟨_, rfl⟩
  obtain ⟨d, hd⟩ : ∃ s, s = f 20 := ⟨_, rfl⟩
  rw [← hk] at y0
  rw [← hl] at y1
  rw [← hs] at y2
  rw [← hg] at y3
  rw [← hd] at y4
  have hpg := rpointer_any g wa
  have hpd := rpointer_any d wa
  have hbk := rblocks_any s wa
  obtain ⟨og, hog⟩ : ∃ s, s = ptO g := ⟨_, rfl⟩
  obtain ⟨od, hod⟩ : ∃ s, s = ptO d := ⟨_, rfl⟩
  obtain ⟨nb, hnb⟩ : ∃ z, z = blkN s := ⟨_, rfl⟩
  rw [← hog] at hpg
  rw [← hod] at hpd
  rw [← hnb] at hbk
  have hrg : P = ((((decide (k = 1) || decide (k = 2)) && decide (1 ≤ l)) && decide (l ≤ 65535)) && szO s && pwO f) := by rw [hP, hk, hl, hs]; rfl
  have ha16 : atO f 16 = (og && (decide (g = 0) || decide (16 < nb))) := by rw [hog, hg, hnb, hs]; rfl
  have ha17 : atO f 17 = (od && (decide (d = 0) || decide (44 < nb))) := by rw [hod, hd, hnb, hs]; rfl
  have HA := Lib.hid (And.intro ha16 ha17)
  have HP := Lib.hid hrg
  have HR := Lib.hid hR
  have HB := Lib.hid hB
  have HW := Lib.hid hwa
  have HN := Lib.hid (show nb = blkN (f 2) by rw [hnb, hs])
  clear hP hk hl hs hg hd hog hod hnb hrg ha16 ha17 hR hB hwa
  by_cases d1 : k = 1
  · have e1 : (k != 1) = false := by simp [d1]
    have HK := Lib.hid (show (decide (k = 1) || decide (k = 2)) = true by simp [d1])
    clear d1
    by_cases h1 : l < 1
    · go_enter Try.func58, Try.ntmps58
      go_upto_region 1 with fail
      rw [← HW.out]
      clear HW
      go_wp2_with (fail)
      go_ret
      exact ⟨ret_bool (by rw [HP.out]; simp [decide_eq_false (show ¬ 1 ≤ l by omega)]), HB.out⟩
    · by_cases h2 : 65535 < l
      · go_enter Try.func58, Try.ntmps58
        go_upto_region 1 with fail
        rw [← HW.out]
        clear HW
        go_wp2_with (fail)
        go_ret
        exact ⟨ret_bool (by rw [HP.out]; simp [decide_eq_false (show ¬ l ≤ 65535 by omega)]), HB.out⟩
      · by_cases h3 : s < 0
        · go_enter Try.func58, Try.ntmps58
          go_upto_region 1 with fail
          rw [← HW.out]
          clear HW
          go_wp2_with (fail)
          go_ret
          exact ⟨ret_bool (by rw [HP.out]; simp [szO, decide_eq_false (show ¬ 0 ≤ s by omega)]), HB.out⟩
        · by_cases h4 : 46368 < s
          · go_enter Try.func58, Try.ntmps58
            go_upto_region 1 with fail
            rw [← HW.out]
            clear HW
            go_wp2_with (fail)
            go_ret
            exact ⟨ret_bool (by rw [HP.out]; simp [szO, decide_eq_false (show ¬ s ≤ 46368 by omega)]), HB.out⟩
          · have HS := Lib.hid (show szO s = true from decide_eq_true (by omega))
            cases og with
            | false =>
              go_enter Try.func58, Try.ntmps58
              go_upto_region 1 with fail
              rw [← HW.out]
              clear HW
              go_wp2_with (fail)
              refine hpg.mono ?_
              rintro e w2 ⟨rfl, rfl⟩
              go_wp2_with (fail)
              go_ret
              exact ⟨ret_bool (by rw [HP.out]; rw [pw_no (i := 16) (by omega) HA.out.1]; simp), HB.out⟩
            | true =>
              cases od with
              | false =>
                go_enter Try.func58, Try.ntmps58
                go_upto_region 1 with fail
                rw [← HW.out]
                clear HW
                go_wp2_with (fail)
                refine hpg.mono ?_
                rintro e w2 ⟨rfl, rfl⟩
                go_wp2_with (fail)
                refine hpd.mono ?_
                rintro e w2 ⟨rfl, rfl⟩
                go_wp2_with (fail)
                go_ret
                exact ⟨ret_bool (by rw [HP.out]; rw [pw_no (i := 17) (by omega) HA.out.2]; simp), HB.out⟩
              | true =>
                have HL := Lib.hid (show P = pwO f by rw [HP.out, HK.out, HS.out, decide_eq_true (show 1 ≤ l by omega), decide_eq_true (show l ≤ 65535 by omega)]; rfl)
                clear HP
                go_enter Try.func58, Try.ntmps58
                go_upto_region 1 with fail
                rw [← HW.out]
                clear HW
                go_wp2_with (fail)
                refine hpg.mono ?_
                rintro e w2 ⟨rfl, rfl⟩
                go_wp2_with (fail)
                refine hpd.mono ?_
                rintro e w2 ⟨rfl, rfl⟩
                go_wp2_with (fail)
                refine hbk.mono ?_
                rintro e w2 ⟨rfl, rfl⟩
                go_wp2_with (fail)
                go_loop [4] (fun v => ∃ j : Nat, j ≤ 16 ∧ v = .int .i64 j ∧ ∀ i, i < j → atO f i = true) (fun v => 16 - (RowKit.intOf v).toNat)
                case atStart => exact ⟨0, by omega, rfl, fun i hi => by omega⟩
                case round =>
                  obtain ⟨j, hj, rfl, hI⟩ := hrel
                  have HI := Lib.hid hI
                  clear hI
                  by_cases hlt : j < 16
                  · have yj := HR.out.cell (i := 3 + j) (by omega)
                    obtain ⟨q, hq⟩ : ∃ q, q = f (3 + j) := ⟨_, rfl⟩
                    rw [← hq] at yj
                    have hpq := rpointer_any q wa
                    have haj : atO f j = (ptO q && (decide (q = 0) || decide ((j : Int) < nb))) := by
                      rw [hq, HN.out]
                      unfold atO ftI
                      rw [if_neg (by omega), if_neg (by omega)]
                    have HJ := Lib.hid haj
                    clear haj hq
                    cases hoq : ptO q with
                    | false =>
                      rw [hoq] at hpq
                      go_wp2_with (fail)
                      refine hpq.mono ?_
                      rintro e w2 ⟨rfl, rfl⟩
                      go_wp2_with (fail)
                      go_ret
                      exact ⟨ret_bool (by rw [HL.out, pw_no (i := j) (by omega) (by rw [HJ.out, hoq]; rfl)]), HB.out⟩
                    | true =>
                      rw [hoq] at hpq
                      by_cases hjn : nb ≤ (j : Int)
                      · by_cases hq0 : q = 0
                        · have d0 : (q != 0) = false := by simp [hq0]
                          have HO := Lib.hid (show atO f j = true by rw [HJ.out, hoq, decide_eq_true hq0]; rfl)
                          clear hq0
                          go_wp2_with (fail)
                          refine hpq.mono ?_
                          rintro e w2 ⟨rfl, rfl⟩
                          go_wp2_with (fail)
                          go_round
                          case rel => exact ⟨j + 1, by omega, by go_num, fun i hi => by
                            by_cases hik : i = j
                            · rw [hik, HO.out]
                            · exact HI.out i (by omega)⟩
                          case measure => simp [RowKit.intOf]; omega
                        · have d0 : (q != 0) = true := by simp [hq0]
                          have HO := Lib.hid (show atO f j = false by rw [HJ.out, hoq, decide_eq_false hq0, decide_eq_false (by omega)]; rfl)
                          clear hq0
                          go_wp2_with (fail)
                          refine hpq.mono ?_
                          rintro e w2 ⟨rfl, rfl⟩
                          go_wp2_with (fail)
                          go_ret
                          exact ⟨ret_bool (by rw [HL.out, pw_no (i := j) (by omega) HO.out]), HB.out⟩
                      · have HO := Lib.hid (show atO f j = true by rw [HJ.out, hoq, decide_eq_true (show (j : Int) < nb by omega), Bool.or_true]; rfl)
                        go_wp2_with (fail)
                        refine hpq.mono ?_
                        rintro e w2 ⟨rfl, rfl⟩
                        go_wp2_with (fail)
                        go_round
                        case rel => exact ⟨j + 1, by omega, by go_num, fun i hi => by
                          by_cases hik : i = j
                          · rw [hik, HO.out]
                          · exact HI.out i (by omega)⟩
                        case measure => simp [RowKit.intOf]; omega
                  · obtain rfl : j = 16 := by omega
                    have HE := Lib.hid (show P = ((decide (g = 0) || decide (16 < nb)) && (decide (d = 0) || decide (44 < nb))) by rw [HL.out, pw_end HI.out, HA.out.1, HA.out.2, Bool.true_and, Bool.true_and])
                    clear HL
                    by_cases n1 : 44 < nb
                    · have n2 : 16 < nb := by omega
                      go_wp2_with (fail)
                      go_ret
                      exact ⟨ret_bool (by rw [HE.out, decide_eq_true n1, decide_eq_true n2]; simp), HB.out⟩
                    · by_cases n2 : 16 < nb
                      · go_wp2_with (fail)
                        all_goals go_ret
                        all_goals exact ⟨ret_bool (by rw [HE.out, decide_eq_false (show ¬ 44 < nb by omega), decide_eq_true n2]; rw [Bool.eq_iff_iff]; simp), HB.out⟩
                      · go_wp2_with (fail)
                        all_goals go_ret
                        all_goals exact ⟨ret_bool (by rw [HE.out, decide_eq_false (show ¬ 44 < nb by omega), decide_eq_false (show ¬ 16 < nb by omega)]; rw [Bool.eq_iff_iff]; simp_all), HB.out⟩
  · by_cases d2 : k = 2
    · have e1 : (k != 1) = true := by simp [d1]
      have e2 : (k != 2) = false := by simp [d2]
      have HK := Lib.hid (show (decide (k = 1) || decide (k = 2)) = true by simp [d2])
      clear d1 d2
      by_cases h1 : l < 1
      · go_enter Try.func58, Try.ntmps58
        go_upto_region 1 with fail
        rw [← HW.out]
        clear HW
        go_wp2_with (fail)
        go_ret
        exact ⟨ret_bool (by rw [HP.out]; simp [decide_eq_false (show ¬ 1 ≤ l by omega)]), HB.out⟩
      · by_cases h2 : 65535 < l
        · go_enter Try.func58, Try.ntmps58
          go_upto_region 1 with fail
          rw [← HW.out]
          clear HW
          go_wp2_with (fail)
          go_ret
          exact ⟨ret_bool (by rw [HP.out]; simp [decide_eq_false (show ¬ l ≤ 65535 by omega)]), HB.out⟩
        · by_cases h3 : s < 0
          · go_enter Try.func58, Try.ntmps58
            go_upto_region 1 with fail
            rw [← HW.out]
            clear HW
            go_wp2_with (fail)
            go_ret
            exact ⟨ret_bool (by rw [HP.out]; simp [szO, decide_eq_false (show ¬ 0 ≤ s by omega)]), HB.out⟩
          · by_cases h4 : 46368 < s
            · go_enter Try.func58, Try.ntmps58
              go_upto_region 1 with fail
              rw [← HW.out]
              clear HW
              go_wp2_with (fail)
              go_ret
              exact ⟨ret_bool (by rw [HP.out]; simp [szO, decide_eq_false (show ¬ s ≤ 46368 by omega)]), HB.out⟩
            · have HS := Lib.hid (show szO s = true from decide_eq_true (by omega))
              cases og with
              | false =>
                go_enter Try.func58, Try.ntmps58
                go_upto_region 1 with fail
                rw [← HW.out]
                clear HW
                go_wp2_with (fail)
                refine hpg.mono ?_
                rintro e w2 ⟨rfl, rfl⟩
                go_wp2_with (fail)
                go_ret
                exact ⟨ret_bool (by rw [HP.out]; rw [pw_no (i := 16) (by omega) HA.out.1]; simp), HB.out⟩
              | true =>
                cases od with
                | false =>
                  go_enter Try.func58, Try.ntmps58
                  go_upto_region 1 with fail
                  rw [← HW.out]
                  clear HW
                  go_wp2_with (fail)
                  refine hpg.mono ?_
                  rintro e w2 ⟨rfl, rfl⟩
                  go_wp2_with (fail)
                  refine hpd.mono ?_
                  rintro e w2 ⟨rfl, rfl⟩
                  go_wp2_with (fail)
                  go_ret
                  exact ⟨ret_bool (by rw [HP.out]; rw [pw_no (i := 17) (by omega) HA.out.2]; simp), HB.out⟩
                | true =>
                  have HL := Lib.hid (show P = pwO f by rw [HP.out, HK.out, HS.out, decide_eq_true (show 1 ≤ l by omega), decide_eq_true (show l ≤ 65535 by omega)]; rfl)
                  clear HP
                  go_enter Try.func58, Try.ntmps58
                  go_upto_region 1 with fail
                  rw [← HW.out]
                  clear HW
                  go_wp2_with (fail)
                  refine hpg.mono ?_
                  rintro e w2 ⟨rfl, rfl⟩
                  go_wp2_with (fail)
                  refine hpd.mono ?_
                  rintro e w2 ⟨rfl, rfl⟩
                  go_wp2_with (fail)
                  refine hbk.mono ?_
                  rintro e w2 ⟨rfl, rfl⟩
                  go_wp2_with (fail)
                  go_loop [4] (fun v => ∃ j : Nat, j ≤ 16 ∧ v = .int .i64 j ∧ ∀ i, i < j → atO f i = true) (fun v => 16 - (RowKit.intOf v).toNat)
                  case atStart => exact ⟨0, by omega, rfl, fun i hi => by omega⟩
                  case round =>
                    obtain ⟨j, hj, rfl, hI⟩ := hrel
                    have HI := Lib.hid hI
                    clear hI
                    by_cases hlt : j < 16
                    · have yj := HR.out.cell (i := 3 + j) (by omega)
                      obtain ⟨q, hq⟩ : ∃ q, q = f (3 + j) := ⟨_, rfl⟩
                      rw [← hq] at yj
                      have hpq := rpointer_any q wa
                      have haj : atO f j = (ptO q && (decide (q = 0) || decide ((j : Int) < nb))) := by
                        rw [hq, HN.out]
                        unfold atO ftI
                        rw [if_neg (by omega), if_neg (by omega)]
                      have HJ := Lib.hid haj
                      clear haj hq
                      cases hoq : ptO q with
                      | false =>
                        rw [hoq] at hpq
                        go_wp2_with (fail)
                        refine hpq.mono ?_
                        rintro e w2 ⟨rfl, rfl⟩
                        go_wp2_with (fail)
                        go_ret
                        exact ⟨ret_bool (by rw [HL.out, pw_no (i := j) (by omega) (by rw [HJ.out, hoq]; rfl)]), HB.out⟩
                      | true =>
                        rw [hoq] at hpq
                        by_cases hjn : nb ≤ (j : Int)
                        · by_cases hq0 : q = 0
                          · have d0 : (q != 0) = false := by simp [hq0]
                            have HO := Lib.hid (show atO f j = true by rw [HJ.out, hoq, decide_eq_true hq0]; rfl)
                            clear hq0
                            go_wp2_with (fail)
                            refine hpq.mono ?_
                            rintro e w2 ⟨rfl, rfl⟩
                            go_wp2_with (fail)
                            go_round
                            case rel => exact ⟨j + 1, by omega, by go_num, fun i hi => by
                              by_cases hik : i = j
                              · rw [hik, HO.out]
                              · exact HI.out i (by omega)⟩
                            case measure => simp [RowKit.intOf]; omega
                          · have d0 : (q != 0) = true := by simp [hq0]
                            have HO := Lib.hid (show atO f j = false by rw [HJ.out, hoq, decide_eq_false hq0, decide_eq_false (by omega)]; rfl)
                            clear hq0
                            go_wp2_with (fail)
                            refine hpq.mono ?_
                            rintro e w2 ⟨rfl, rfl⟩
                            go_wp2_with (fail)
                            go_ret
                            exact ⟨ret_bool (by rw [HL.out, pw_no (i := j) (by omega) HO.out]), HB.out⟩
                        · have HO := Lib.hid (show atO f j = true by rw [HJ.out, hoq, decide_eq_true (show (j : Int) < nb by omega), Bool.or_true]; rfl)
                          go_wp2_with (fail)
                          refine hpq.mono ?_
                          rintro e w2 ⟨rfl, rfl⟩
                          go_wp2_with (fail)
                          go_round
                          case rel => exact ⟨j + 1, by omega, by go_num, fun i hi => by
                            by_cases hik : i = j
                            · rw [hik, HO.out]
                            · exact HI.out i (by omega)⟩
                          case measure => simp [RowKit.intOf]; omega
                    · obtain rfl : j = 16 := by omega
                      have HE := Lib.hid (show P = ((decide (g = 0) || decide (16 < nb)) && (decide (d = 0) || decide (44 < nb))) by rw [HL.out, pw_end HI.out, HA.out.1, HA.out.2, Bool.true_and, Bool.true_and])
                      clear HL
                      by_cases n1 : 44 < nb
                      · have n2 : 16 < nb := by omega
                        go_wp2_with (fail)
                        go_ret
                        exact ⟨ret_bool (by rw [HE.out, decide_eq_true n1, decide_eq_true n2]; simp), HB.out⟩
                      · by_cases n2 : 16 < nb
                        · go_wp2_with (fail)
                          all_goals go_ret
                          all_goals exact ⟨ret_bool (by rw [HE.out, decide_eq_false (show ¬ 44 < nb by omega), decide_eq_true n2]; rw [Bool.eq_iff_iff]; simp), HB.out⟩
                        · go_wp2_with (fail)
                          all_goals go_ret
                          all_goals exact ⟨ret_bool (by rw [HE.out, decide_eq_false (show ¬ 44 < nb by omega), decide_eq_false (show ¬ 16 < nb by omega)]; rw [Bool.eq_iff_iff]; simp_all), HB.out⟩
    · have e1 : (k != 1) = true := by simp [d1]
      have e2 : (k != 2) = true := by simp [d2]
      have HK := Lib.hid (show (decide (k = 1) || decide (k = 2)) = false by simp [d1, d2])
      clear d1 d2
      go_enter Try.func58, Try.ntmps58
      go_upto_region 1 with fail
      rw [← HW.out]
      clear HW
      go_wp2_with (fail)
      go_ret
      exact ⟨ret_bool (by rw [HP.out, HK.out]; rfl), HB.out⟩
end Go.Proofs.Ytegcjpocdfmpfaa
