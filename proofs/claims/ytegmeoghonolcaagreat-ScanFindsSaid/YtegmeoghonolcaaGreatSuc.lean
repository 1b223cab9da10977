/-
  Summaries: what GetSummary answers, of a block, by one word for the program and the document.
-/
import Derived.Test.YtegmeoghonolcaaGreatSu0
import Derived.Test.YtegmeoghonolcaaGreatGe
import Derived.Test.YtegmeoghonolcaaGreatSua
import Derived.Test.YtegmeoghonolcaaGreatHb
import Derived.Test.YtegmeoghonolcaaGreatNa
import Derived.Test.YtegmeoghonolcaaGreatCs
import Derived.Test.YtegmeoghonolcaaGreatBase
set_option linter.unusedSimpArgs false
set_option linter.unusedVariables false
namespace Go.Proofs.YtegmeoghonolcaaGreat
open Go.RowKit
set_option linter.unusedVariables false

theorem tv_56 {x : List Int} (k : Nat) (hk : k ≤ 4) : tv 56 x (k : Int) = getN x (2 * k) 2 := by
  unfold tv getV
  have ho : getO 56 (2 * (k : Int)) 2 = true := by
    unfold getO
    rw [decide_eq_true_eq]
    omega
  rw [if_pos ho]
  congr 1
/-- Does a block tell a summary that is right? -/
noncomputable def gsO (d r s o ix : Int) (la : Nat) (x : List Int) : Bool := decide (o = 65535) && (decide (ix = 0) && (sameB x (sumL (tv la x 1) (tv la x 2) (tv la x 3) (tv la x 4)) && sumO d r s (tv la x 1) (tv la x 2) (tv la x 3) (tv la x 4)))
theorem gsO_own {d r s o ix : Int} {la : Nat} {x : List Int} (h : o ≠ 65535) : gsO d r s o ix la x = false := by unfold gsO; rw [decide_eq_false h]; rfl
theorem gsO_idx {d r s o ix : Int} {la : Nat} {x : List Int} (h : ix ≠ 0) : gsO d r s o ix la x = false := by unfold gsO; rw [decide_eq_false h]; simp
theorem gsO_sum {d r s o ix : Int} {la : Nat} {x : List Int} (h : sumO d r s (tv la x 1) (tv la x 2) (tv la x 3) (tv la x 4) = false) : gsO d r s o ix la x = false := by unfold gsO; rw [h]; simp
theorem gsO_same {d r s o ix : Int} {la : Nat} {x : List Int} (h : sameB x (sumL (tv la x 1) (tv la x 2) (tv la x 3) (tv la x 4)) = false) : gsO d r s o ix la x = false := by unfold gsO; rw [h]; simp
theorem gsO_yes {d r s o ix : Int} {la : Nat} {x : List Int} (h1 : o = 65535) (h2 : ix = 0) (h3 : sameB x (sumL (tv la x 1) (tv la x 2) (tv la x 3) (tv la x 4)) = true) (h4 : sumO d r s (tv la x 1) (tv la x 2) (tv la x 3) (tv la x 4) = true) : gsO d r s o ix la x = true := by
  unfold gsO
  rw [h3, h4, decide_eq_true h1, decide_eq_true h2]
  rfl
theorem getSum_any (d r s o ix : Int) (a : Option Addr) (la ca : Nat) (x : List Int) (w : World) (hx : Bys w a la x) (hn : la ≤ 1000000000000) :
    Calls Tryz.prog 25 #[gv d r s, .agg #[.int .i64 o, .int .i64 ix, .slice a la ca]] w (GsmPost w (gsO d r s o ix la x) (tv la x 1) (tv la x 2) (tv la x 3) (tv la x 4)) := by
  cases hs : sumO d r s (tv la x 1) (tv la x 2) (tv la x 3) (tv la x 4) with
  | false => rw [gsO_sum hs]; exact getSum_no d r s o ix a la ca x w hx hn _ _ _ _ rfl rfl rfl rfl hs
  | true =>
    by_cases ho : o = 65535
    · by_cases hi : ix = 0
      · cases hsm : sameB x (sumL (tv la x 1) (tv la x 2) (tv la x 3) (tv la x 4)) with
        | false => rw [gsO_same hsm]; exact getSum_diff d r s o ix a la ca x w hx hn _ _ _ _ rfl rfl rfl rfl hs (by simp [ho]) (by simp [hi]) hsm
        | true => rw [gsO_yes ho hi hsm hs]; exact getSum_yes d r s o ix a la ca x w hx hn _ _ _ _ rfl rfl rfl rfl hs (by simp [ho]) (by simp [hi]) hsm
      · rw [gsO_idx hi]; exact getSum_idx d r s o ix a la ca x w hx hn _ _ _ _ rfl rfl rfl rfl hs (by simp [ho]) (by simp [hi])
    · rw [gsO_own ho]; exact getSum_own d r s o ix a la ca x w hx hn _ _ _ _ rfl rfl rfl rfl hs (by simp [ho])
end Go.Proofs.YtegmeoghonolcaaGreat

/-
  Summaries: what was put is got again.
-/
namespace Go.Proofs.YtegmeoghonolcaaGreat
open Go.RowKit
set_option linter.unusedVariables false

theorem digs_two (v : Int) : digs 2 v = [v % 256, v / 256 % 256] := by
  apply byt_ext (by rw [digs_len]; rfl)
  intro i hi
  rw [digs_len] at hi
  rw [byt_digs _ _ _ hi]
  rcases (by omega : i = 0 ∨ i = 1) with rfl | rfl
  · show v / 256 ^ 0 % 256 = v % 256
    omega
  · show v / 256 ^ 1 % 256 = v / 256 % 256
    omega
theorem two_num {v : Int} (h : 0 ≤ v ∧ v < 65536) : v % 256 + 256 * (v / 256 % 256 + 256 * 0) = v := by omega
theorem tv_sum {c i n t : Int} (hc : 0 ≤ c ∧ c < 65536) (hi : 0 ≤ i ∧ i < 65536) (hn : 0 ≤ n ∧ n < 65536) (ht : 0 ≤ t ∧ t < 65536) : tv 56 (sumL c i n t) 1 = c ∧ tv 56 (sumL c i n t) 2 = i ∧ tv 56 (sumL c i n t) 3 = n ∧ tv 56 (sumL c i n t) 4 = t := by
  have e : sumL c i n t = padL ([83, 83] ++ [c % 256, c / 256 % 256] ++ [i % 256, i / 256 % 256] ++ [n % 256, n / 256 % 256] ++ [t % 256, t / 256 % 256]) 56 := by
    rw [sumL, sumN, digs_two c, digs_two i, digs_two n, digs_two t]
    rfl
  have t1 := tv_56 (x := sumL c i n t) 1 (by omega)
  have t2 := tv_56 (x := sumL c i n t) 2 (by omega)
  have t3 := tv_56 (x := sumL c i n t) 3 (by omega)
  have t4 := tv_56 (x := sumL c i n t) 4 (by omega)
  refine ⟨t1.trans ?_, t2.trans ?_, t3.trans ?_, t4.trans ?_⟩
  · rw [e]; exact two_num hc
  · rw [e]; exact two_num hi
  · rw [e]; exact two_num hn
  · rw [e]; exact two_num ht
theorem gsO_put {d r s c i n t : Int} (h : SumR d r s c i n t) : gsO d r s 65535 0 56 (sumL c i n t) = true := by
  obtain ⟨e1, e2, e3, e4⟩ := tv_sum h.small.1 h.small.2.1 h.small.2.2.1 h.small.2.2.2
  refine gsO_yes rfl rfl ?_ ?_
  · rw [e1, e2, e3, e4]; exact sameB_true rfl
  · rw [e1, e2, e3, e4]; exact sumO_yes h
end Go.Proofs.YtegmeoghonolcaaGreat
