/-
  Summaries: what was put is got again.
-/
import Derived.Test.YtcpplppccljmiaaSu6
namespace Go.Proofs.Ytcpplppccljmiaa
open Go.RowKit
set_option linter.unusedVariables false

theorem digs_two (v : Int) : digs 2 v = [v % 256, v / 256 % 256] := by
  apply byt_ext (by rw [digs_len]; rfl)
  intro i hi
  rw [digs_len] at hi
  rw [byt_digs _ _ _ hi]
  rcases (by omega : i = 0 ∨ i = 1) with rfl | rfl
  · show v / 256 ^ 0 % 256 = v % 256
    omega
  · show v / 256 ^ 1 % 256 = v / 256 % 256
    omega
theorem two_num {v : Int} (h : 0 ≤ v ∧ v < 65536) : v % 256 + 256 * (v / 256 % 256 + 256 * 0) = v := by omega
theorem tv_sum {c i n t : Int} (hc : 0 ≤ c ∧ c < 65536) (hi : 0 ≤ i ∧ i < 65536) (hn : 0 ≤ n ∧ n < 65536) (ht : 0 ≤ t ∧ t < 65536) : tv 56 (sumL c i n t) 1 = c ∧ tv 56 (sumL c i n t) 2 = i ∧ tv 56 (sumL c i n t) 3 = n ∧ tv 56 (sumL c i n t) 4 = t := by
  have e : sumL c i n t = padL ([83, 83] ++ [c % 256, c / 256 % 256] ++ [i % 256, i / 256 % 256] ++ [n % 256, n / 256 % 256] ++ [t % 256, t / 256 % 256]) 56 := by
    rw [sumL, sumN, digs_two c, digs_two i, digs_two n, digs_two t]
    rfl
  have t1 := tv_56 (x := sumL c i n t) 1 (by omega)
  have t2 := tv_56 (x := sumL c i n t) 2 (by omega)
  have t3 := tv_56 (x := sumL c i n t) 3 (by omega)
  have t4 := tv_56 (x := sumL c i n t) 4 (by omega)
  refine ⟨t1.trans ?_, t2.trans ?_, t3.trans ?_, t4.trans ?_⟩
  · rw [e]; exact two_num hc
  · rw [e]; exact two_num hi
  · rw [e]; exact two_num hn
  · rw [e]; exact two_num ht
theorem gsO_put {d r s c i n t : Int} (h : SumR d r s c i n t) : gsO d r s 65535 0 56 (sumL c i n t) = true := by
  obtain ⟨e1, e2, e3, e4⟩ := tv_sum h.small.1 h.small.2.1 h.small.2.2.1 h.small.2.2.2
  refine gsO_yes rfl rfl ?_ ?_
  · rw [e1, e2, e3, e4]; exact sameB_true rfl
  · rw [e1, e2, e3, e4]; exact sumO_yes h
end Go.Proofs.Ytcpplppccljmiaa
