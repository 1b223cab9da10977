/-
  The program's two questions on widths, by contract.
-/
import Derived.Test.YtgfakdjljcnpiaaBase
namespace Go.Proofs.Ytgfakdjljcnpiaa
open Go.RowKit

def isW (n : Int) : Bool := decide (1 ≤ n ∧ n ≤ 4)
theorem isW_true {n : Int} (h : 1 ≤ n ∧ n ≤ 4) : isW n = true := by simp [isW, h]
theorem isW_false {n : Int} (h : ¬ (1 ≤ n ∧ n ≤ 4)) : isW n = false := by simp only [isW, decide_eq_false_iff_not]; exact h
def hasW (n k : Int) : Bool := decide (0 ≤ n ∧ n < 2 ^ (8 * k).toNat)
theorem lim_wrap {k : Int} (h1 : 1 ≤ k) (h4 : k ≤ 4) : wrap64 (2 ^ (8 * k).toNat) = 2 ^ (8 * k).toNat := by
  rcases (by omega : k = 1 ∨ k = 2 ∨ k = 3 ∨ k = 4) with rfl | rfl | rfl | rfl <;> simp [wrap64]
theorem lim_le {k : Int} (h1 : 1 ≤ k) (h4 : k ≤ 4) : (2 : Int) ^ (8 * k).toNat ≤ 4294967296 := by
  rcases (by omega : k = 1 ∨ k = 2 ∨ k = 3 ∨ k = 4) with rfl | rfl | rfl | rfl <;> decide
theorem hasW_lt {n k : Int} (h0 : 0 ≤ n) (h1 : 1 ≤ k) (h4 : k ≤ 4) : decide (n < wrap64 (2 ^ (8 * k).toNat)) = hasW n k := by
  rw [lim_wrap h1 h4]; simp [hasW, h0]
theorem hasW_bd {n k : Int} (h : hasW n k = true) (h1 : 1 ≤ k) (h4 : k ≤ 4) : 0 ≤ n ∧ n < 4294967296 := by
  have := lim_le h1 h4
  simp only [hasW, decide_eq_true_eq] at h
  omega

theorem isWidth_any (n : Int) (w : World) : Calls Try.prog 45 #[.int .i64 n] w fun e w' => e = .returned (.bool (isW n)) ∧ w = w' := by
  by_cases h1 : 1 ≤ n
  · by_cases h4 : n ≤ 4
    · have hs : Hid (isW n = true) := isW_true ⟨h1, h4⟩
      go_enter Try.func45, Try.ntmps45
      go_wp2
      go_ret
      exact ⟨ret_bool hs.out.symm, rfl⟩
    · have hs : Hid (isW n = false) := isW_false (by omega)
      go_enter Try.func45, Try.ntmps45
      go_wp2
      go_ret
      exact ⟨ret_bool hs.out.symm, rfl⟩
  · have hs : Hid (isW n = false) := isW_false (by omega)
    go_enter Try.func45, Try.ntmps45
    go_wp2
    go_ret
    exact ⟨ret_bool hs.out.symm, rfl⟩

theorem hasWidth_any (n k : Int) (w : World) (h1 : 1 ≤ k) (h4 : k ≤ 4) : Calls Try.prog 46 #[.int .i64 n, .int .i64 k] w fun e w' => e = .returned (.bool (hasW n k)) ∧ w = w' := by
  by_cases h0 : 0 ≤ n
  · go_enter Try.func46, Try.ntmps46
    go_wp2
    go_ret
    exact ⟨ret_bool (hasW_lt h0 h1 h4), rfl⟩
  · have hs : Hid (hasW n k = false) := by show _ = _; simp only [hasW, decide_eq_false_iff_not]; omega
    go_enter Try.func46, Try.ntmps46
    go_wp2
    go_ret
    exact ⟨ret_bool hs.out.symm, rfl⟩

end Go.Proofs.Ytgfakdjljcnpiaa
