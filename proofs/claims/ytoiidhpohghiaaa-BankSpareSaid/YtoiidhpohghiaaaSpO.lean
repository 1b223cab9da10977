/-
  BankSpare's early ways out.
-/
import Derived.Test.YtoiidhpohghiaaaAlv
namespace Go.Proofs.Ytoiidhpohghiaaa
open Go.RowKit Go.Maps
set_option linter.unusedVariables false

set_option maxRecDepth 100000 in
set_option maxHeartbeats 4000000 in
theorem spare_out (slot sector state : Int) (a : Option Addr) (n c : Nat) (w : World) (h : ¬ ((n : Int) = 64 ∧ 0 ≤ slot ∧ slot ≤ 2 ∧ 0 ≤ sector ∧ sector < 41 ∧ 1 ≤ state ∧ state ≤ 2)) :
    Calls Try.prog 4 #[.int .i64 slot, .int .i64 sector, .slice a n c, .int .i64 state] w fun e w' => e = .returned (.bool true) ∧ Below w.heap.size w w' := by
  by_cases h0 : (n : Int) = 64
  · obtain rfl : n = 64 := by omega
    by_cases h1 : 0 ≤ slot
    · by_cases h2 : slot ≤ 2
      · by_cases h3 : 0 ≤ sector
        · by_cases h4 : sector < 41
          · by_cases h5 : 1 ≤ state
            · by_cases h6 : state ≤ 2
              · exact absurd ⟨rfl, h1, h2, h3, h4, h5, h6⟩ h
              · clear h
                have f1 : decide (slot < 0) = false := decide_eq_false (by omega)
                have f2 : decide (2 < slot) = false := decide_eq_false (by omega)
                have f3 : decide (sector < 0) = false := decide_eq_false (by omega)
                have f4 : decide (41 ≤ sector) = false := decide_eq_false (by omega)
                have f5 : decide (state < 1) = false := decide_eq_false (by omega)
                have g6 : 2 < state := by omega
                clear h1 h2 h3 h4 h5 h6
                go_enter Try.func4, Try.ntmps4
                go_wp2_with (fail)
                refine (alive_any w).mono ?_
                rintro e w1 ⟨rfl, hb1⟩
                go_wp2_with (fail)
                go_ret
                exact ⟨rfl, hb1⟩
            · clear h
              have f1 : decide (slot < 0) = false := decide_eq_false (by omega)
              have f2 : decide (2 < slot) = false := decide_eq_false (by omega)
              have f3 : decide (sector < 0) = false := decide_eq_false (by omega)
              have f4 : decide (41 ≤ sector) = false := decide_eq_false (by omega)
              have g5 : state < 1 := by omega
              clear h1 h2 h3 h4 h5
              go_enter Try.func4, Try.ntmps4
              go_wp2_with (fail)
              refine (alive_any w).mono ?_
              rintro e w1 ⟨rfl, hb1⟩
              go_wp2_with (fail)
              go_ret
              exact ⟨rfl, hb1⟩
          · clear h
            have f1 : decide (slot < 0) = false := decide_eq_false (by omega)
            have f2 : decide (2 < slot) = false := decide_eq_false (by omega)
            have f3 : decide (sector < 0) = false := decide_eq_false (by omega)
            have g4 : 41 ≤ sector := by omega
            clear h1 h2 h3 h4
            go_enter Try.func4, Try.ntmps4
            go_wp2_with (fail)
            refine (alive_any w).mono ?_
            rintro e w1 ⟨rfl, hb1⟩
            go_wp2_with (fail)
            go_ret
            exact ⟨rfl, hb1⟩
        · clear h
          have f1 : decide (slot < 0) = false := decide_eq_false (by omega)
          have f2 : decide (2 < slot) = false := decide_eq_false (by omega)
          have g3 : sector < 0 := by omega
          clear h1 h2 h3
          go_enter Try.func4, Try.ntmps4
          go_wp2_with (fail)
          refine (alive_any w).mono ?_
          rintro e w1 ⟨rfl, hb1⟩
          go_wp2_with (fail)
          go_ret
          exact ⟨rfl, hb1⟩
      · clear h
        have f1 : decide (slot < 0) = false := decide_eq_false (by omega)
        have g2 : 2 < slot := by omega
        clear h1 h2
        go_enter Try.func4, Try.ntmps4
        go_wp2_with (fail)
        refine (alive_any w).mono ?_
        rintro e w1 ⟨rfl, hb1⟩
        go_wp2_with (fail)
        go_ret
        exact ⟨rfl, hb1⟩
    · clear h
      have g1 : slot < 0 := by omega
      clear h1
      go_enter Try.func4, Try.ntmps4
      go_wp2_with (fail)
      refine (alive_any w).mono ?_
      rintro e w1 ⟨rfl, hb1⟩
      go_wp2_with (fail)
      go_ret
      exact ⟨rfl, hb1⟩
  · clear h
    have g0 : ((n : Int) == 64) = false := by simpa using h0
    have g1 : ¬ n = 64 := by omega
    clear h0
    go_enter Try.func4, Try.ntmps4
    go_wp2_with (fail)
    refine (alive_any w).mono ?_
    rintro e w1 ⟨rfl, hb1⟩
    go_wp2_with (fail)
    go_ret
    exact ⟨rfl, hb1⟩

end Go.Proofs.Ytoiidhpohghiaaa
