/-
  Sizes, pointers and paths, the program's and the document's, by contract.
-/
import Derived.Test.YtgfakdjljcnpiaaIp
namespace Go.Proofs.Ytgfakdjljcnpiaa
open Go.RowKit
set_option linter.unusedVariables false
set_option linter.unusedSimpArgs false

theorem isSize_any (s : Int) (w : World) : Calls Try.prog 42 #[.int .i64 s] w fun e w' => e = .returned (.bool (szO s)) ∧ w = w' := by
  by_cases h : 0 ≤ s
  · by_cases h2 : s ≤ 46368
    · have e : szO s = true := decide_eq_true ⟨h, h2⟩
      rw [e]
      have HE := Lib.hid e
      clear e
      go_enter Try.func42, Try.ntmps42
      go_wp2
      go_ret
      exact ⟨rfl, rfl⟩
    · have e : szO s = false := decide_eq_false (by omega)
      rw [e]
      clear e
      go_enter Try.func42, Try.ntmps42
      go_wp2
      go_ret
      exact ⟨rfl, rfl⟩
  · have e : szO s = false := decide_eq_false (by omega)
    rw [e]
    clear e
    go_enter Try.func42, Try.ntmps42
    go_wp2
    go_ret
    exact ⟨rfl, rfl⟩
theorem noPtr_any (s : Int) (w : World) : Calls Try.prog 39 #[.int .i64 s] w fun e w' => e = .returned (.bool (!ptO s)) ∧ w = w' := by
  by_cases h : s < 0
  · have e : ptO s = false := decide_eq_false (by omega)
    rw [e]
    clear e
    go_enter Try.func39, Try.ntmps39
    go_wp2
    go_ret
    exact ⟨rfl, rfl⟩
  · by_cases h2 : 65535 < s
    · have e : ptO s = false := decide_eq_false (by omega)
      rw [e]
      clear e
      go_enter Try.func39, Try.ntmps39
      go_wp2
      go_ret
      exact ⟨rfl, rfl⟩
    · have e : ptO s = true := decide_eq_true (by omega)
      rw [e]
      clear e
      go_enter Try.func39, Try.ntmps39
      go_wp2
      go_ret
      exact ⟨rfl, rfl⟩
theorem rpointer_any (s : Int) (w : World) : Calls Try.prog 40 #[.int .i64 s] w fun e w' => e = .returned (.bool (ptO s)) ∧ w = w' := by
  by_cases h : 0 ≤ s
  · by_cases h2 : s ≤ 65535
    · have e : ptO s = true := decide_eq_true ⟨h, h2⟩
      rw [e]
      clear e
      go_enter Try.func40, Try.ntmps40
      go_wp2
      go_ret
      exact ⟨rfl, rfl⟩
    · have e : ptO s = false := decide_eq_false (by omega)
      rw [e]
      clear e
      go_enter Try.func40, Try.ntmps40
      go_wp2
      go_ret
      exact ⟨rfl, rfl⟩
  · have e : ptO s = false := decide_eq_false (by omega)
    rw [e]
    clear e
    go_enter Try.func40, Try.ntmps40
    go_wp2
    go_ret
    exact ⟨rfl, rfl⟩
theorem firstTold_any (i : Nat) (hi : i < 18) (w : World) : Calls Try.prog 49 #[.int .i64 i] w fun e w' => e = .returned (.int .i64 (ftI i)) ∧ w = w' := by
  unfold ftI
  by_cases h : i = 16
  · subst h
    go_enter Try.func49, Try.ntmps49
    go_wp2
    go_ret
    exact ⟨rfl, rfl⟩
  · by_cases h2 : i = 17
    · subst h2
      go_enter Try.func49, Try.ntmps49
      go_wp2
      go_ret
      exact ⟨rfl, rfl⟩
    · rw [if_neg h, if_neg h2]
      have d1 : decide ((i : Int) = 16) = false := decide_eq_false (by omega)
      have d2 : decide ((i : Int) = 17) = false := decide_eq_false (by omega)
      go_enter Try.func49, Try.ntmps49
      go_wp2
      go_ret
      exact ⟨rfl, rfl⟩
theorem wq56 {s : Int} (h0 : 0 ≤ s) (h1 : s ≤ 46368) : IntKind.i64.wrap ((s + 55).tdiv 56) = (s + 55) / 56 := by
  rw [Int.tdiv_eq_ediv_of_nonneg (by omega)]
  exact IntWalk.i64_in _ (by omega)
theorem blocks_any (s : Int) (w : World) : Calls Try.prog 24 #[.int .i64 s] w fun e w' => e = .returned (.int .i64 (blkN s)) ∧ w = w' := by
  have hc := isSize_any s w
  by_cases h : 0 ≤ s ∧ s ≤ 46368
  · have e : szO s = true := decide_eq_true h
    rw [e] at hc
    have w1 : IntKind.i64.wrap (s + 56) = s + 56 := IntWalk.i64_in _ (by omega)
    have w2 : IntKind.i64.wrap (s + 56 - 1) = s + 55 := by rw [show s + 56 - 1 = s + 55 by omega]; exact IntWalk.i64_in _ (by omega)
    have w3 := wq56 h.1 h.2
    have hb : blkN s = (s + 55) / 56 := by rw [blkN, if_pos h]
    rw [hb]
    clear e hb h
    go_enter Try.func24, Try.ntmps24
    go_wp2_with (fail)
    refine hc.mono ?_
    rintro e w2 ⟨rfl, rfl⟩
    go_wp2_with (fail)
    go_ret
    exact ⟨rfl, rfl⟩
  · have e : szO s = false := decide_eq_false h
    rw [e] at hc
    have hb : blkN s = 0 := by rw [blkN, if_neg h]
    rw [hb]
    clear e hb h
    go_enter Try.func24, Try.ntmps24
    go_wp2_with (fail)
    refine hc.mono ?_
    rintro e w2 ⟨rfl, rfl⟩
    go_wp2_with (fail)
    go_ret
    exact ⟨rfl, rfl⟩
theorem rblocks_any (s : Int) (w : World) : Calls Try.prog 25 #[.int .i64 s] w fun e w' => e = .returned (.int .i64 (blkN s)) ∧ w = w' := by
  by_cases h0 : 0 ≤ s
  · by_cases h1 : s ≤ 46368
    · have w1 : IntKind.i64.wrap (s + 55) = s + 55 := IntWalk.i64_in _ (by omega)
      have w3 := wq56 h0 h1
      have hb : blkN s = (s + 55) / 56 := by rw [blkN, if_pos ⟨h0, h1⟩]
      rw [hb]
      clear hb
      go_enter Try.func25, Try.ntmps25
      go_wp2
      go_ret
      exact ⟨rfl, rfl⟩
    · have hb : blkN s = 0 := by rw [blkN, if_neg (by omega)]
      rw [hb]
      clear hb
      go_enter Try.func25, Try.ntmps25
      go_wp2
      go_ret
      exact ⟨rfl, rfl⟩
  · have hb : blkN s = 0 := by rw [blkN, if_neg (by omega)]
    rw [hb]
    clear hb
    go_enter Try.func25, Try.ntmps25
    go_wp2
    go_ret
    exact ⟨rfl, rfl⟩

/-- Which pointer tells a block. -/
def pthO (n : Int) : Bool := decide (0 ≤ n ∧ n < 828)
def pthL (n : Int) : Int := if 0 ≤ n ∧ n < 828 then (if n < 16 then 0 else if n < 44 then 1 else 2) else 0
def pthX (n : Int) : Int := if 0 ≤ n ∧ n < 828 then (if n < 16 then n else if n < 44 then n - 16 else (n - 44) / 28) else 0
def pthY (n : Int) : Int := if 0 ≤ n ∧ n < 828 then (if n < 16 then 0 else if n < 44 then 0 else (n - 44) % 28) else 0
theorem pth_no {n : Int} (h : ¬ (0 ≤ n ∧ n < 828)) : pthO n = false ∧ pthL n = 0 ∧ pthX n = 0 ∧ pthY n = 0 := ⟨decide_eq_false h, if_neg h, if_neg h, if_neg h⟩
theorem pth_own {n : Int} (h : 0 ≤ n) (h2 : n < 16) : pthO n = true ∧ pthL n = 0 ∧ pthX n = n ∧ pthY n = 0 :=
  have h3 : 0 ≤ n ∧ n < 828 := by omega
  ⟨decide_eq_true h3, (if_pos h3).trans (if_pos h2), (if_pos h3).trans (if_pos h2), (if_pos h3).trans (if_pos h2)⟩
theorem pth_single {n : Int} (h : 16 ≤ n) (h2 : n < 44) : pthO n = true ∧ pthL n = 1 ∧ pthX n = n - 16 ∧ pthY n = 0 :=
  have h3 : 0 ≤ n ∧ n < 828 := by omega
  have h4 : ¬ n < 16 := by omega
  ⟨decide_eq_true h3, (if_pos h3).trans ((if_neg h4).trans (if_pos h2)), (if_pos h3).trans ((if_neg h4).trans (if_pos h2)), (if_pos h3).trans ((if_neg h4).trans (if_pos h2))⟩
theorem pth_double {n : Int} (h : 44 ≤ n) (h2 : n < 828) : pthO n = true ∧ pthL n = 2 ∧ pthX n = (n - 44) / 28 ∧ pthY n = (n - 44) % 28 :=
  have h3 : 0 ≤ n ∧ n < 828 := by omega
  have h4 : ¬ n < 16 := by omega
  have h5 : ¬ n < 44 := by omega
  ⟨decide_eq_true h3, (if_pos h3).trans ((if_neg h4).trans (if_neg h5)), (if_pos h3).trans ((if_neg h4).trans (if_neg h5)), (if_pos h3).trans ((if_neg h4).trans (if_neg h5))⟩
theorem path_any (n : Int) (w : World) (hw : (Lit.int .i64 n).wf = true) : Calls Try.prog 21 #[.int .i64 n] w fun e w' => e = .returned (.tuple #[.int .i64 (pthL n), .int .i64 (pthX n), .int .i64 (pthY n), .bool (pthO n)]) ∧ w = w' := by
  clear hw
  by_cases h0 : n < 0
  · obtain ⟨e1, e2, e3, e4⟩ := pth_no (n := n) (by omega)
    rw [e1, e2, e3, e4]
    clear e1 e2 e3 e4
    go_enter Try.func21, Try.ntmps21
    go_wp2
    refine bodyPost_ret (v := .tuple #[.int .i64 _, .int .i64 _, .int .i64 _, .bool _]) ?_ rfl ⟨rfl, rfl⟩
    simp [results, Try.results21, go_sem]
  · by_cases h1 : n < 16
    · obtain ⟨e1, e2, e3, e4⟩ := pth_own (n := n) (by omega) h1
      rw [e1, e2, e3, e4]
      clear e1 e2 e3 e4
      have k1 : n < 828 := by omega
      go_enter Try.func21, Try.ntmps21
      go_wp2
      refine bodyPost_ret (v := .tuple #[.int .i64 _, .int .i64 _, .int .i64 _, .bool _]) ?_ rfl ⟨rfl, rfl⟩
      simp [results, Try.results21, go_sem]
    · by_cases h2 : n < 44
      · obtain ⟨e1, e2, e3, e4⟩ := pth_single (n := n) (by omega) h2
        rw [e1, e2, e3, e4]
        clear e1 e2 e3 e4
        have k1 : n < 828 := by omega
        have w1 : IntKind.i64.wrap (n - 16) = n - 16 := IntWalk.i64_in _ (by omega)
        go_enter Try.func21, Try.ntmps21
        go_wp2
        refine bodyPost_ret (v := .tuple #[.int .i64 _, .int .i64 _, .int .i64 _, .bool _]) ?_ rfl ⟨rfl, rfl⟩
        simp [results, Try.results21, go_sem]
      · by_cases h3 : n < 828
        · obtain ⟨e1, e2, e3, e4⟩ := pth_double (n := n) (by omega) h3
          rw [e1, e2, e3, e4]
          clear e1 e2 e3 e4
          have k1 : n ≤ 827 := by omega
          have w1 : IntKind.i64.wrap (n - 44) = n - 44 := IntWalk.i64_in _ (by omega)
          have w2 : IntKind.i64.wrap ((n - 44).tdiv 28) = (n - 44) / 28 := by rw [Int.tdiv_eq_ediv_of_nonneg (by omega)]; exact IntWalk.i64_in _ (by omega)
          have w3 : IntKind.i64.wrap ((n - 44).tmod 28) = (n - 44) % 28 := by rw [Int.tmod_eq_emod_of_nonneg (by omega)]; exact IntWalk.i64_in _ (by omega)
          go_enter Try.func21, Try.ntmps21
          go_wp2
          refine bodyPost_ret (v := .tuple #[.int .i64 _, .int .i64 _, .int .i64 _, .bool _]) ?_ rfl ⟨rfl, rfl⟩
          simp [results, Try.results21, go_sem]
        · obtain ⟨e1, e2, e3, e4⟩ := pth_no (n := n) (by omega)
          rw [e1, e2, e3, e4]
          clear e1 e2 e3 e4
          have k1 : 827 < n := by omega
          have k2 : 828 ≤ n := by omega
          go_enter Try.func21, Try.ntmps21
          go_wp2
          refine bodyPost_ret (v := .tuple #[.int .i64 _, .int .i64 _, .int .i64 _, .bool _]) ?_ rfl ⟨rfl, rfl⟩
          simp [results, Try.results21, go_sem]
theorem rpath_any (n : Int) (w : World) (hw : (Lit.int .i64 n).wf = true) : Calls Try.prog 22 #[.int .i64 n] w fun e w' => e = .returned (.tuple #[.int .i64 (pthL n), .int .i64 (pthX n), .int .i64 (pthY n), .bool (pthO n)]) ∧ w = w' := by
  clear hw
  by_cases h0 : n < 0
  · obtain ⟨e1, e2, e3, e4⟩ := pth_no (n := n) (by omega)
    rw [e1, e2, e3, e4]
    clear e1 e2 e3 e4
    go_enter Try.func22, Try.ntmps22
    go_wp2
    refine bodyPost_ret (v := .tuple #[.int .i64 _, .int .i64 _, .int .i64 _, .bool _]) ?_ rfl ⟨rfl, rfl⟩
    simp [results, Try.results22, go_sem]
  · by_cases h1 : n < 16
    · obtain ⟨e1, e2, e3, e4⟩ := pth_own (n := n) (by omega) h1
      rw [e1, e2, e3, e4]
      clear e1 e2 e3 e4
      have k1 : n ≤ 827 := by omega
      go_enter Try.func22, Try.ntmps22
      go_wp2
      refine bodyPost_ret (v := .tuple #[.int .i64 _, .int .i64 _, .int .i64 _, .bool _]) ?_ rfl ⟨rfl, rfl⟩
      simp [results, Try.results22, go_sem]
    · by_cases h2 : n < 44
      · obtain ⟨e1, e2, e3, e4⟩ := pth_single (n := n) (by omega) h2
        rw [e1, e2, e3, e4]
        clear e1 e2 e3 e4
        have k1 : n ≤ 827 := by omega
        have w1 : IntKind.i64.wrap (n - 16) = n - 16 := IntWalk.i64_in _ (by omega)
        go_enter Try.func22, Try.ntmps22
        go_wp2
        refine bodyPost_ret (v := .tuple #[.int .i64 _, .int .i64 _, .int .i64 _, .bool _]) ?_ rfl ⟨rfl, rfl⟩
        simp [results, Try.results22, go_sem]
      · by_cases h3 : n < 828
        · obtain ⟨e1, e2, e3, e4⟩ := pth_double (n := n) (by omega) h3
          rw [e1, e2, e3, e4]
          clear e1 e2 e3 e4
          have k1 : n ≤ 827 := by omega
          have w1 : IntKind.i64.wrap (n - 44) = n - 44 := IntWalk.i64_in _ (by omega)
          have w2 : IntKind.i64.wrap ((n - 44).tdiv 28) = (n - 44) / 28 := by rw [Int.tdiv_eq_ediv_of_nonneg (by omega)]; exact IntWalk.i64_in _ (by omega)
          have w3 : IntKind.i64.wrap ((n - 44).tmod 28) = (n - 44) % 28 := by rw [Int.tmod_eq_emod_of_nonneg (by omega)]; exact IntWalk.i64_in _ (by omega)
          go_enter Try.func22, Try.ntmps22
          go_wp2
          refine bodyPost_ret (v := .tuple #[.int .i64 _, .int .i64 _, .int .i64 _, .bool _]) ?_ rfl ⟨rfl, rfl⟩
          simp [results, Try.results22, go_sem]
        · obtain ⟨e1, e2, e3, e4⟩ := pth_no (n := n) (by omega)
          rw [e1, e2, e3, e4]
          clear e1 e2 e3 e4
          have k1 : 827 < n := by omega
          have k2 : 828 ≤ n := by omega
          go_enter Try.func22, Try.ntmps22
          go_wp2
          refine bodyPost_ret (v := .tuple #[.int .i64 _, .int .i64 _, .int .i64 _, .bool _]) ?_ rfl ⟨rfl, rfl⟩
          simp [results, Try.results22, go_sem]
end Go.Proofs.Ytgfakdjljcnpiaa
