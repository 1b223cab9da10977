/-
  The laws InodeSizes and InodePaths, walked.
-/
import Derived.Test.YtgfakdjljcnpiaaAl
namespace Go.Proofs.Ytgfakdjljcnpiaa
open Go.RowKit
set_option linter.unusedVariables false
set_option linter.unusedSimpArgs false

theorem wf_int64 {n : Int} (h : (Lit.int .i64 n).wf = true) : -9223372036854775808 ≤ n ∧ n ≤ 9223372036854775807 := by
  simp [Lit.wf, IntKind.min, IntKind.max, IntKind.signed, IntKind.bits] at h
  omega
theorem blkN_no {n : Int} (h : n < 0 ∨ 46368 < n) : blkN n = 0 := by rw [blkN, if_neg (by omega)]
theorem blkN_yes {n : Int} (h0 : 0 ≤ n) (h1 : n ≤ 46368) : blkN n = (n + 55) / 56 := by rw [blkN, if_pos ⟨h0, h1⟩]
theorem sizes_any (n : Int) (w : World) : Calls Try.prog 7 #[.int .i64 n] w fun e w' => e = .returned (.bool true) ∧ Below w.heap.size w w' := by
  have hal := alive_any w
  by_cases h0 : n < 0
  · have hbk := fun w => blocks_any n w
    rw [blkN_no (.inl h0)] at hbk
    go_enter Try.func7, Try.ntmps7
    go_wp2_with (fail)
    refine hal.mono ?_
    rintro e w2 ⟨rfl, hb⟩
    have HB := Lib.hid hb
    clear hb hal
    go_wp2_with (fail)
    refine (hbk w2).mono ?_
    rintro e w3 ⟨rfl, rfl⟩
    go_wp2_with (fail)
    go_ret
    exact ⟨rfl, HB.out⟩
  · by_cases h1 : n = 46368
    · subst h1
      have hbk := fun w => blocks_any 46368 w
      rw [show blkN 46368 = 828 by decide] at hbk
      clear h0
      go_enter Try.func7, Try.ntmps7
      go_wp2_with (fail)
      refine hal.mono ?_
      rintro e w2 ⟨rfl, hb⟩
      have HB := Lib.hid hb
      clear hb hal
      go_wp2_with (fail)
      refine (hbk w2).mono ?_
      rintro e w3 ⟨rfl, rfl⟩
      go_wp2_with (fail)
      go_ret
      exact ⟨rfl, HB.out⟩
    · by_cases h2 : 46368 < n
      · have hbk := fun w => blocks_any n w
        rw [blkN_no (.inr h2)] at hbk
        go_enter Try.func7, Try.ntmps7
        go_wp2_with (fail)
        refine hal.mono ?_
        rintro e w2 ⟨rfl, hb⟩
        have HB := Lib.hid hb
        clear hb hal
        go_wp2_with (fail)
        refine (hbk w2).mono ?_
        rintro e w3 ⟨rfl, rfl⟩
        go_wp2_with (fail)
        go_ret
        exact ⟨rfl, HB.out⟩
      · have hbk := fun w => blocks_any n w
        have hbk1 := fun w => blocks_any (n + 1) w
        have e1 : blkN n = (n + 55) / 56 := blkN_yes (by omega) (by omega)
        have e2 : blkN (n + 1) = (n + 1 + 55) / 56 := blkN_yes (by omega) (by omega)
        obtain ⟨p, hp⟩ : ∃ p, p = blkN n := ⟨_, rfl⟩
        obtain ⟨q, hq⟩ : ∃ q, q = blkN (n + 1) := ⟨_, rfl⟩
        rw [← hp] at hbk e1
        rw [← hq] at hbk1 e2
        have w1 : IntKind.i64.wrap (n + 1) = n + 1 := IntWalk.i64_in _ (by omega)
        have w2 : IntKind.i64.wrap (n.tmod 56) = n % 56 := by rw [Int.tmod_eq_emod_of_nonneg (by omega)]; exact IntWalk.i64_in _ (by omega)
        by_cases hm : n % 56 = 0
        · have w3 : IntKind.i64.wrap (q - p) = 1 := by rw [show q - p = 1 by omega]; exact IntWalk.i64_in _ (by omega)
          have d1 : (n % 56 == 0) = true := by simp [hm]
          clear hp hq e1 e2 hm w2
          go_enter Try.func7, Try.ntmps7
          go_wp2_with (fail)
          refine hal.mono ?_
          rintro e wb ⟨rfl, hb⟩
          have HB := Lib.hid hb
          clear hb hal
          go_wp2_with (fail)
          refine (hbk1 wb).mono ?_
          rintro e wc ⟨rfl, rfl⟩
          go_wp2_with (fail)
          refine (hbk wb).mono ?_
          rintro e wd ⟨rfl, rfl⟩
          go_wp2_with (fail)
          go_ret
          exact ⟨rfl, HB.out⟩
        · have w3 : IntKind.i64.wrap (q - p) = 0 := by rw [show q - p = 0 by omega]; exact IntWalk.i64_in _ (by omega)
          have d1 : (n % 56 != 0) = true := by simp [hm]
          clear hp hq e1 e2 hm w2
          go_enter Try.func7, Try.ntmps7
          go_wp2_with (fail)
          refine hal.mono ?_
          rintro e wb ⟨rfl, hb⟩
          have HB := Lib.hid hb
          clear hb hal
          go_wp2_with (fail)
          refine (hbk1 wb).mono ?_
          rintro e wc ⟨rfl, rfl⟩
          go_wp2_with (fail)
          refine (hbk wb).mono ?_
          rintro e wd ⟨rfl, rfl⟩
          go_wp2_with (fail)
          go_ret
          exact ⟨rfl, HB.out⟩
/-- Path where its answer is known. -/
theorem path_is {n l x y : Int} {ok : Bool} (w : World) (h : pthO n = ok ∧ pthL n = l ∧ pthX n = x ∧ pthY n = y) (hw : (Lit.int .i64 n).wf = true) :
    Calls Try.prog 21 #[.int .i64 n] w fun e w' => e = .returned (.tuple #[.int .i64 l, .int .i64 x, .int .i64 y, .bool ok]) ∧ w = w' := by
  obtain ⟨h1, h2, h3, h4⟩ := h
  have := path_any n w hw
  rwa [h1, h2, h3, h4] at this
set_option maxHeartbeats 8000000 in
theorem paths_any (a b : Int) (w : World) (wa : (Lit.int .i64 a).wf = true) (wb : (Lit.int .i64 b).wf = true) :
    Calls Try.prog 6 #[.int .i64 a, .int .i64 b] w fun e w' => e = .returned (.bool true) ∧ Below w.heap.size w w' := by
  have hal := alive_any w
  by_cases ha0 : a < 0
  · have ha := fun w => path_is w (pth_no (n := a) (by omega)) wa
    obtain ⟨l, x, y, k, hb0⟩ : ∃ l x y k, pthO b = k ∧ pthL b = l ∧ pthX b = x ∧ pthY b = y := ⟨_, _, _, _, rfl, rfl, rfl, rfl⟩
    have hq := fun w => path_is w hb0 wb
    clear hb0
    go_enter Try.func6, Try.ntmps6
    go_wp2_with (fail)
    refine hal.mono ?_
    rintro e w2 ⟨rfl, hb⟩
    have HB := Lib.hid hb
    clear hb hal
    go_wp2_with (fail)
    refine (ha w2).mono ?_
    rintro e w3 ⟨rfl, rfl⟩
    go_wp2_with (fail)
    refine (hq w2).mono ?_
    rintro e w3 ⟨rfl, rfl⟩
    go_wp2_with (fail)
    all_goals go_ret
    all_goals exact ⟨rfl, HB.out⟩
  · by_cases ha1 : a < 16
    · have ha := fun w => path_is w (pth_own (n := a) (by omega) (by omega)) wa
      by_cases hb0 : b < 0
      · have hq := fun w => path_is w (pth_no (n := b) (by omega)) wb
        go_enter Try.func6, Try.ntmps6
        go_wp2_with (fail)
        refine hal.mono ?_
        rintro e w2 ⟨rfl, hb⟩
        have HB := Lib.hid hb
        clear hb hal
        go_wp2_with (fail)
        refine (ha w2).mono ?_
        rintro e w3 ⟨rfl, rfl⟩
        go_wp2_with (fail)
        refine (hq w2).mono ?_
        rintro e w3 ⟨rfl, rfl⟩
        go_wp2_with (fail)
        all_goals go_ret
        all_goals exact ⟨rfl, HB.out⟩
      · by_cases hb1 : b < 16
        · have hq := fun w => path_is w (pth_own (n := b) (by omega) (by omega)) wb
          by_cases he : a = b
          · subst he
            have d0 : (a == a) = true := by simp
            go_enter Try.func6, Try.ntmps6
            go_wp2_with (fail)
            refine hal.mono ?_
            rintro e w2 ⟨rfl, hb⟩
            have HB := Lib.hid hb
            clear hb hal
            go_wp2_with (fail)
            refine (ha w2).mono ?_
            rintro e w3 ⟨rfl, rfl⟩
            go_wp2_with (fail)
            refine (hq w2).mono ?_
            rintro e w3 ⟨rfl, rfl⟩
            go_wp2_with (fail)
            all_goals go_ret
            all_goals exact ⟨rfl, HB.out⟩
          · have d0 : (a == b) = false := by simp; omega
            clear he
            go_enter Try.func6, Try.ntmps6
            go_wp2_with (fail)
            refine hal.mono ?_
            rintro e w2 ⟨rfl, hb⟩
            have HB := Lib.hid hb
            clear hb hal
            go_wp2_with (fail)
            refine (ha w2).mono ?_
            rintro e w3 ⟨rfl, rfl⟩
            go_wp2_with (fail)
            refine (hq w2).mono ?_
            rintro e w3 ⟨rfl, rfl⟩
            go_wp2_with (fail)
            all_goals go_ret
            all_goals exact ⟨rfl, HB.out⟩
        · by_cases hb2 : b < 44
          · have hq := fun w => path_is w (pth_single (n := b) (by omega) (by omega)) wb
            obtain ⟨u, hu⟩ : ∃ z, z = b - 16 := ⟨_, rfl⟩
            rw [← hu] at hq
            have ku : 0 ≤ u ∧ u < 28 := by omega
            have d0 : (a == b) = false := by simp; omega
            obtain ⟨ku0, ku1⟩ := ku
            clear hu
            go_enter Try.func6, Try.ntmps6
            go_wp2_with (fail)
            refine hal.mono ?_
            rintro e w2 ⟨rfl, hb⟩
            have HB := Lib.hid hb
            clear hb hal
            go_wp2_with (fail)
            refine (ha w2).mono ?_
            rintro e w3 ⟨rfl, rfl⟩
            go_wp2_with (fail)
            refine (hq w2).mono ?_
            rintro e w3 ⟨rfl, rfl⟩
            go_wp2_with (fail)
            all_goals go_ret
            all_goals exact ⟨rfl, HB.out⟩
          · by_cases hb3 : b < 828
            · have hq := fun w => path_is w (pth_double (n := b) (by omega) (by omega)) wb
              obtain ⟨u, hu⟩ : ∃ z, z = (b - 44) / 28 := ⟨_, rfl⟩
              obtain ⟨v, hv⟩ : ∃ z, z = (b - 44) % 28 := ⟨_, rfl⟩
              rw [← hu, ← hv] at hq
              have ku : 0 ≤ u ∧ u < 28 := by omega
              have kv : 0 ≤ v ∧ v < 28 := by omega
              have d0 : (a == b) = false := by simp; omega
              obtain ⟨ku0, ku1⟩ := ku
              obtain ⟨kv0, kv1⟩ := kv
              clear hu hv
              go_enter Try.func6, Try.ntmps6
              go_wp2_with (fail)
              refine hal.mono ?_
              rintro e w2 ⟨rfl, hb⟩
              have HB := Lib.hid hb
              clear hb hal
              go_wp2_with (fail)
              refine (ha w2).mono ?_
              rintro e w3 ⟨rfl, rfl⟩
              go_wp2_with (fail)
              refine (hq w2).mono ?_
              rintro e w3 ⟨rfl, rfl⟩
              go_wp2_with (fail)
              all_goals go_ret
              all_goals exact ⟨rfl, HB.out⟩
            · have hq := fun w => path_is w (pth_no (n := b) (by omega)) wb
              go_enter Try.func6, Try.ntmps6
              go_wp2_with (fail)
              refine hal.mono ?_
              rintro e w2 ⟨rfl, hb⟩
              have HB := Lib.hid hb
              clear hb hal
              go_wp2_with (fail)
              refine (ha w2).mono ?_
              rintro e w3 ⟨rfl, rfl⟩
              go_wp2_with (fail)
              refine (hq w2).mono ?_
              rintro e w3 ⟨rfl, rfl⟩
              go_wp2_with (fail)
              all_goals go_ret
              all_goals exact ⟨rfl, HB.out⟩
    · by_cases ha2 : a < 44
      · have ha := fun w => path_is w (pth_single (n := a) (by omega) (by omega)) wa
        obtain ⟨x, hx⟩ : ∃ z, z = a - 16 := ⟨_, rfl⟩
        rw [← hx] at ha
        have kx : 0 ≤ x ∧ x < 28 := by omega
        by_cases hb0 : b < 0
        · have hq := fun w => path_is w (pth_no (n := b) (by omega)) wb
          obtain ⟨kx0, kx1⟩ := kx
          clear hx
          go_enter Try.func6, Try.ntmps6
          go_wp2_with (fail)
          refine hal.mono ?_
          rintro e w2 ⟨rfl, hb⟩
          have HB := Lib.hid hb
          clear hb hal
          go_wp2_with (fail)
          refine (ha w2).mono ?_
          rintro e w3 ⟨rfl, rfl⟩
          go_wp2_with (fail)
          refine (hq w2).mono ?_
          rintro e w3 ⟨rfl, rfl⟩
          go_wp2_with (fail)
          all_goals go_ret
          all_goals exact ⟨rfl, HB.out⟩
        · by_cases hb1 : b < 16
          · have hq := fun w => path_is w (pth_own (n := b) (by omega) (by omega)) wb
            have d0 : (a == b) = false := by simp; omega
            obtain ⟨kx0, kx1⟩ := kx
            clear hx
            go_enter Try.func6, Try.ntmps6
            go_wp2_with (fail)
            refine hal.mono ?_
            rintro e w2 ⟨rfl, hb⟩
            have HB := Lib.hid hb
            clear hb hal
            go_wp2_with (fail)
            refine (ha w2).mono ?_
            rintro e w3 ⟨rfl, rfl⟩
            go_wp2_with (fail)
            refine (hq w2).mono ?_
            rintro e w3 ⟨rfl, rfl⟩
            go_wp2_with (fail)
            all_goals go_ret
            all_goals exact ⟨rfl, HB.out⟩
          · by_cases hb2 : b < 44
            · have hq := fun w => path_is w (pth_single (n := b) (by omega) (by omega)) wb
              obtain ⟨u, hu⟩ : ∃ z, z = b - 16 := ⟨_, rfl⟩
              rw [← hu] at hq
              have ku : 0 ≤ u ∧ u < 28 := by omega
              by_cases he : a = b
              · have e1 : u = x := by omega
                subst e1
                have d0 : (a == b) = true := by simp; omega
                have d1 : (u == u) = true := by simp
                clear hx hu he kx
                obtain ⟨ku0, ku1⟩ := ku
                go_enter Try.func6, Try.ntmps6
                go_wp2_with (fail)
                refine hal.mono ?_
                rintro e w2 ⟨rfl, hb⟩
                have HB := Lib.hid hb
                clear hb hal
                go_wp2_with (fail)
                refine (ha w2).mono ?_
                rintro e w3 ⟨rfl, rfl⟩
                go_wp2_with (fail)
                refine (hq w2).mono ?_
                rintro e w3 ⟨rfl, rfl⟩
                go_wp2_with (fail)
                all_goals go_ret
                all_goals exact ⟨rfl, HB.out⟩
              · have d0 : (a == b) = false := by simp; omega
                have d1 : (x == u) = false := by simp; omega
                clear hx hu he
                obtain ⟨kx0, kx1⟩ := kx
                obtain ⟨ku0, ku1⟩ := ku
                go_enter Try.func6, Try.ntmps6
                go_wp2_with (fail)
                refine hal.mono ?_
                rintro e w2 ⟨rfl, hb⟩
                have HB := Lib.hid hb
                clear hb hal
                go_wp2_with (fail)
                refine (ha w2).mono ?_
                rintro e w3 ⟨rfl, rfl⟩
                go_wp2_with (fail)
                refine (hq w2).mono ?_
                rintro e w3 ⟨rfl, rfl⟩
                go_wp2_with (fail)
                all_goals go_ret
                all_goals exact ⟨rfl, HB.out⟩
            · by_cases hb3 : b < 828
              · have hq := fun w => path_is w (pth_double (n := b) (by omega) (by omega)) wb
                obtain ⟨u, hu⟩ : ∃ z, z = (b - 44) / 28 := ⟨_, rfl⟩
                obtain ⟨v, hv⟩ : ∃ z, z = (b - 44) % 28 := ⟨_, rfl⟩
                rw [← hu, ← hv] at hq
                have ku : 0 ≤ u ∧ u < 28 := by omega
                have kv : 0 ≤ v ∧ v < 28 := by omega
                have d0 : (a == b) = false := by simp; omega
                obtain ⟨kx0, kx1⟩ := kx
                obtain ⟨ku0, ku1⟩ := ku
                obtain ⟨kv0, kv1⟩ := kv
                clear hx hu hv
                go_enter Try.func6, Try.ntmps6
                go_wp2_with (fail)
                refine hal.mono ?_
                rintro e w2 ⟨rfl, hb⟩
                have HB := Lib.hid hb
                clear hb hal
                go_wp2_with (fail)
                refine (ha w2).mono ?_
                rintro e w3 ⟨rfl, rfl⟩
                go_wp2_with (fail)
                refine (hq w2).mono ?_
                rintro e w3 ⟨rfl, rfl⟩
                go_wp2_with (fail)
                all_goals go_ret
                all_goals exact ⟨rfl, HB.out⟩
              · have hq := fun w => path_is w (pth_no (n := b) (by omega)) wb
                obtain ⟨kx0, kx1⟩ := kx
                clear hx
                go_enter Try.func6, Try.ntmps6
                go_wp2_with (fail)
                refine hal.mono ?_
                rintro e w2 ⟨rfl, hb⟩
                have HB := Lib.hid hb
                clear hb hal
                go_wp2_with (fail)
                refine (ha w2).mono ?_
                rintro e w3 ⟨rfl, rfl⟩
                go_wp2_with (fail)
                refine (hq w2).mono ?_
                rintro e w3 ⟨rfl, rfl⟩
                go_wp2_with (fail)
                all_goals go_ret
                all_goals exact ⟨rfl, HB.out⟩
      · by_cases ha3 : a < 828
        · have ha := fun w => path_is w (pth_double (n := a) (by omega) (by omega)) wa
          obtain ⟨x, hx⟩ : ∃ z, z = (a - 44) / 28 := ⟨_, rfl⟩
          obtain ⟨y, hy⟩ : ∃ z, z = (a - 44) % 28 := ⟨_, rfl⟩
          rw [← hx, ← hy] at ha
          have kx : 0 ≤ x ∧ x < 28 := by omega
          have ky : 0 ≤ y ∧ y < 28 := by omega
          by_cases hb0 : b < 0
          · have hq := fun w => path_is w (pth_no (n := b) (by omega)) wb
            obtain ⟨kx0, kx1⟩ := kx
            obtain ⟨ky0, ky1⟩ := ky
            clear hx hy
            go_enter Try.func6, Try.ntmps6
            go_wp2_with (fail)
            refine hal.mono ?_
            rintro e w2 ⟨rfl, hb⟩
            have HB := Lib.hid hb
            clear hb hal
            go_wp2_with (fail)
            refine (ha w2).mono ?_
            rintro e w3 ⟨rfl, rfl⟩
            go_wp2_with (fail)
            refine (hq w2).mono ?_
            rintro e w3 ⟨rfl, rfl⟩
            go_wp2_with (fail)
            all_goals go_ret
            all_goals exact ⟨rfl, HB.out⟩
          · by_cases hb1 : b < 16
            · have hq := fun w => path_is w (pth_own (n := b) (by omega) (by omega)) wb
              have d0 : (a == b) = false := by simp; omega
              obtain ⟨kx0, kx1⟩ := kx
              obtain ⟨ky0, ky1⟩ := ky
              clear hx hy
              go_enter Try.func6, Try.ntmps6
              go_wp2_with (fail)
              refine hal.mono ?_
              rintro e w2 ⟨rfl, hb⟩
              have HB := Lib.hid hb
              clear hb hal
              go_wp2_with (fail)
              refine (ha w2).mono ?_
              rintro e w3 ⟨rfl, rfl⟩
              go_wp2_with (fail)
              refine (hq w2).mono ?_
              rintro e w3 ⟨rfl, rfl⟩
              go_wp2_with (fail)
              all_goals go_ret
              all_goals exact ⟨rfl, HB.out⟩
            · by_cases hb2 : b < 44
              · have hq := fun w => path_is w (pth_single (n := b) (by omega) (by omega)) wb
                obtain ⟨u, hu⟩ : ∃ z, z = b - 16 := ⟨_, rfl⟩
                rw [← hu] at hq
                have ku : 0 ≤ u ∧ u < 28 := by omega
                have d0 : (a == b) = false := by simp; omega
                obtain ⟨kx0, kx1⟩ := kx
                obtain ⟨ky0, ky1⟩ := ky
                obtain ⟨ku0, ku1⟩ := ku
                clear hx hy hu
                go_enter Try.func6, Try.ntmps6
                go_wp2_with (fail)
                refine hal.mono ?_
                rintro e w2 ⟨rfl, hb⟩
                have HB := Lib.hid hb
                clear hb hal
                go_wp2_with (fail)
                refine (ha w2).mono ?_
                rintro e w3 ⟨rfl, rfl⟩
                go_wp2_with (fail)
                refine (hq w2).mono ?_
                rintro e w3 ⟨rfl, rfl⟩
                go_wp2_with (fail)
                all_goals go_ret
                all_goals exact ⟨rfl, HB.out⟩
              · by_cases hb3 : b < 828
                · have hq := fun w => path_is w (pth_double (n := b) (by omega) (by omega)) wb
                  obtain ⟨u, hu⟩ : ∃ z, z = (b - 44) / 28 := ⟨_, rfl⟩
                  obtain ⟨v, hv⟩ : ∃ z, z = (b - 44) % 28 := ⟨_, rfl⟩
                  rw [← hu, ← hv] at hq
                  have ku : 0 ≤ u ∧ u < 28 := by omega
                  have kv : 0 ≤ v ∧ v < 28 := by omega
                  by_cases he : a = b
                  · have e1 : u = x := by omega
                    have e2 : v = y := by omega
                    subst e1 e2
                    have d0 : (a == b) = true := by simp; omega
                    have d1 : (u == u) = true := by simp
                    have d2 : (v == v) = true := by simp
                    clear hx hy hu hv he
                    obtain ⟨ku0, ku1⟩ := ku
                    obtain ⟨kv0, kv1⟩ := kv
                    go_enter Try.func6, Try.ntmps6
                    go_wp2_with (fail)
                    refine hal.mono ?_
                    rintro e w2 ⟨rfl, hb⟩
                    have HB := Lib.hid hb
                    clear hb hal
                    go_wp2_with (fail)
                    refine (ha w2).mono ?_
                    rintro e w3 ⟨rfl, rfl⟩
                    go_wp2_with (fail)
                    refine (hq w2).mono ?_
                    rintro e w3 ⟨rfl, rfl⟩
                    go_wp2_with (fail)
                    all_goals go_ret
                    all_goals exact ⟨rfl, HB.out⟩
                  · have d0 : (a == b) = false := by simp; omega
                    by_cases hxu : x = u
                    · subst hxu
                      have d1 : (x == x) = true := by simp
                      have d2 : (y == v) = false := by simp; omega
                      clear hx hy hu hv he
                      obtain ⟨kx0, kx1⟩ := kx
                      obtain ⟨ky0, ky1⟩ := ky
                      obtain ⟨kv0, kv1⟩ := kv
                      go_enter Try.func6, Try.ntmps6
                      go_wp2_with (fail)
                      refine hal.mono ?_
                      rintro e w2 ⟨rfl, hb⟩
                      have HB := Lib.hid hb
                      clear hb hal
                      go_wp2_with (fail)
                      refine (ha w2).mono ?_
                      rintro e w3 ⟨rfl, rfl⟩
                      go_wp2_with (fail)
                      refine (hq w2).mono ?_
                      rintro e w3 ⟨rfl, rfl⟩
                      go_wp2_with (fail)
                      all_goals go_ret
                      all_goals exact ⟨rfl, HB.out⟩
                    · have d1 : (x == u) = false := by simp; omega
                      clear hx hy hu hv he hxu
                      obtain ⟨kx0, kx1⟩ := kx
                      obtain ⟨ky0, ky1⟩ := ky
                      obtain ⟨ku0, ku1⟩ := ku
                      obtain ⟨kv0, kv1⟩ := kv
                      go_enter Try.func6, Try.ntmps6
                      go_wp2_with (fail)
                      refine hal.mono ?_
                      rintro e w2 ⟨rfl, hb⟩
                      have HB := Lib.hid hb
                      clear hb hal
                      go_wp2_with (fail)
                      refine (ha w2).mono ?_
                      rintro e w3 ⟨rfl, rfl⟩
                      go_wp2_with (fail)
                      refine (hq w2).mono ?_
                      rintro e w3 ⟨rfl, rfl⟩
                      go_wp2_with (fail)
                      all_goals go_ret
                      all_goals exact ⟨rfl, HB.out⟩
                · have hq := fun w => path_is w (pth_no (n := b) (by omega)) wb
                  obtain ⟨kx0, kx1⟩ := kx
                  obtain ⟨ky0, ky1⟩ := ky
                  clear hx hy
                  go_enter Try.func6, Try.ntmps6
                  go_wp2_with (fail)
                  refine hal.mono ?_
                  rintro e w2 ⟨rfl, hb⟩
                  have HB := Lib.hid hb
                  clear hb hal
                  go_wp2_with (fail)
                  refine (ha w2).mono ?_
                  rintro e w3 ⟨rfl, rfl⟩
                  go_wp2_with (fail)
                  refine (hq w2).mono ?_
                  rintro e w3 ⟨rfl, rfl⟩
                  go_wp2_with (fail)
                  all_goals go_ret
                  all_goals exact ⟨rfl, HB.out⟩
        · have ha := fun w => path_is w (pth_no (n := a) (by omega)) wa
          obtain ⟨l, x, y, k, hb0⟩ : ∃ l x y k, pthO b = k ∧ pthL b = l ∧ pthX b = x ∧ pthY b = y := ⟨_, _, _, _, rfl, rfl, rfl, rfl⟩
          have hq := fun w => path_is w hb0 wb
          clear hb0
          go_enter Try.func6, Try.ntmps6
          go_wp2_with (fail)
          refine hal.mono ?_
          rintro e w2 ⟨rfl, hb⟩
          have HB := Lib.hid hb
          clear hb hal
          go_wp2_with (fail)
          refine (ha w2).mono ?_
          rintro e w3 ⟨rfl, rfl⟩
          go_wp2_with (fail)
          refine (hq w2).mono ?_
          rintro e w3 ⟨rfl, rfl⟩
          go_wp2_with (fail)
          all_goals go_ret
          all_goals exact ⟨rfl, HB.out⟩
end Go.Proofs.Ytgfakdjljcnpiaa
