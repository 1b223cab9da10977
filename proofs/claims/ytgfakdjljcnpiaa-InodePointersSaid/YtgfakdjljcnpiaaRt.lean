/-
  Is a record right? The program's answer, by contract.
-/
import Derived.Test.YtgfakdjljcnpiaaPw
namespace Go.Proofs.Ytgfakdjljcnpiaa
open Go.RowKit
set_option linter.unusedVariables false
set_option linter.unusedSimpArgs false

set_option maxHeartbeats 2000000 in
theorem isRight_any (f : Nat → Int) (w : World) : Calls Try.prog 26 #[rcv f] w fun e w' => e = .returned (.bool (rgO f)) ∧ Below w.heap.size w w' := by
  obtain ⟨P, hP⟩ : ∃ P, P = rgO f := ⟨_, rfl⟩
  rw [← hP]
  obtain ⟨wa, hwa⟩ : ∃ wa, wa = w.alloc (.cells (rcs f) 24) := ⟨_, rfl⟩
  have hR : Rcb wa w.heap.size f := by rw [hwa]; exact Rcb.mk' w f
  have hB : Below w.heap.size w wa := by rw [hwa]; exact (Below.refl _ _).alloc (Nat.le_refl _) _
  have y0 := hR.cell (i := 0) (by omega)
  have y1 := hR.cell (i := 1) (by omega)
  have y2 := hR.cell (i := 2) (by omega)
  obtain ⟨k, hk⟩ : ∃ s, s = f 0 := ⟨_, rfl⟩
  obtain ⟨l, hl⟩ : ∃ s, s = f 1 := ⟨_, rfl⟩
  obtain ⟨s, hs⟩ : ∃ s, s = f 2 := ⟨_, rfl⟩
  rw [← hk] at y0
  rw [← hl] at y1
  rw [← hs] at y2
  have hsz := isSize_any s wa
  obtain ⟨sz, hsz2⟩ : ∃ sz, sz = szO s := ⟨_, rfl⟩
  rw [← hsz2] at hsz
  have hwi := within_any f wa
  obtain ⟨pw, hpw⟩ : ∃ pw, pw = pwO f := ⟨_, rfl⟩
  rw [← hpw] at hwi
  have hrg : P = ((((decide (k = 1) || decide (k = 2)) && decide (1 ≤ l)) && decide (l ≤ 65535)) && sz && pw) := by rw [hP, hk, hl, hsz2, hs, hpw]; rfl
  have HP := Lib.hid hrg
  have HR := Lib.hid hR
  have HB := Lib.hid hB
  have HW := Lib.hid hwa
  clear hP hk hl hs hsz2 hpw hrg hR hB hwa
  by_cases d1 : k = 1
  · have e1 : (k == 1) = true := by simp [d1]
    have HK := Lib.hid (show (decide (k = 1) || decide (k = 2)) = true by simp [d1])
    clear d1
    by_cases h1 : l < 1
    · go_enter Try.func26, Try.ntmps26
      go_upto_region 1 with fail
      rw [← HW.out]
      go_wp2_with (fail)
      go_ret
      exact ⟨ret_bool (by rw [HP.out]; simp [decide_eq_false (show ¬ 1 ≤ l by omega)]), HB.out⟩
    · by_cases h2 : 65535 < l
      · go_enter Try.func26, Try.ntmps26
        go_upto_region 1 with fail
        rw [← HW.out]
        go_wp2_with (fail)
        go_ret
        exact ⟨ret_bool (by rw [HP.out]; simp [decide_eq_false (show ¬ l ≤ 65535 by omega)]), HB.out⟩
      · cases sz with
        | false =>
          go_enter Try.func26, Try.ntmps26
          go_upto_region 1 with fail
          rw [← HW.out]
          go_wp2_with (fail)
          refine hsz.mono ?_
          rintro e w2 ⟨rfl, rfl⟩
          go_wp2_with (fail)
          go_ret
          exact ⟨ret_bool (by rw [HP.out]; simp), HB.out⟩
        | true =>
          go_enter Try.func26, Try.ntmps26
          go_upto_region 1 with fail
          rw [← HW.out]
          go_wp2_with (fail)
          refine hsz.mono ?_
          rintro e w2 ⟨rfl, rfl⟩
          go_wp2_with (refine wpList_ldR (by rfl) (.tmp 1) rfl w.heap.size rfl f HR.out ?_)
          refine hwi.mono ?_
          rintro e wb ⟨rfl, hb⟩
          have HB2 := Lib.hid (HB.out.trans (hb.mono HB.out.size))
          clear hb hwi
          go_wp2_with (fail)
          go_ret
          exact ⟨ret_bool (by rw [HP.out]; simp [HK.out, decide_eq_true (show 1 ≤ l by omega), decide_eq_true (show l ≤ 65535 by omega)]), HB2.out⟩
  · by_cases d2 : k = 2
    · have e1 : (k == 1) = false := by simp [d1]
      have e2 : (k == 2) = true := by simp [d2]
      have HK := Lib.hid (show (decide (k = 1) || decide (k = 2)) = true by simp [d2])
      clear d1 d2
      by_cases h1 : l < 1
      · go_enter Try.func26, Try.ntmps26
        go_upto_region 1 with fail
        rw [← HW.out]
        go_wp2_with (fail)
        go_ret
        exact ⟨ret_bool (by rw [HP.out]; simp [decide_eq_false (show ¬ 1 ≤ l by omega)]), HB.out⟩
      · by_cases h2 : 65535 < l
        · go_enter Try.func26, Try.ntmps26
          go_upto_region 1 with fail
          rw [← HW.out]
          go_wp2_with (fail)
          go_ret
          exact ⟨ret_bool (by rw [HP.out]; simp [decide_eq_false (show ¬ l ≤ 65535 by omega)]), HB.out⟩
        · cases sz with
          | false =>
            go_enter Try.func26, Try.ntmps26
            go_upto_region 1 with fail
            rw [← HW.out]
            go_wp2_with (fail)
            refine hsz.mono ?_
            rintro e w2 ⟨rfl, rfl⟩
            go_wp2_with (fail)
            go_ret
            exact ⟨ret_bool (by rw [HP.out]; simp), HB.out⟩
          | true =>
            go_enter Try.func26, Try.ntmps26
            go_upto_region 1 with fail
            rw [← HW.out]
            go_wp2_with (fail)
            refine hsz.mono ?_
            rintro e w2 ⟨rfl, rfl⟩
            go_wp2_with (refine wpList_ldR (by rfl) (.tmp 1) rfl w.heap.size rfl f HR.out ?_)
            refine hwi.mono ?_
            rintro e wb ⟨rfl, hb⟩
            have HB2 := Lib.hid (HB.out.trans (hb.mono HB.out.size))
            clear hb hwi
            go_wp2_with (fail)
            go_ret
            exact ⟨ret_bool (by rw [HP.out]; simp [HK.out, decide_eq_true (show 1 ≤ l by omega), decide_eq_true (show l ≤ 65535 by omega)]), HB2.out⟩
    · have e1 : (k == 1) = false := by simp [d1]
      have e2 : (k == 2) = false := by simp [d2]
      have HK := Lib.hid (show (decide (k = 1) || decide (k = 2)) = false by simp [d1, d2])
      clear d1 d2
      go_enter Try.func26, Try.ntmps26
      go_upto_region 1 with fail
      rw [← HW.out]
      go_wp2_with (fail)
      go_ret
      exact ⟨ret_bool (by rw [HP.out, HK.out]; rfl), HB.out⟩
end Go.Proofs.Ytgfakdjljcnpiaa
