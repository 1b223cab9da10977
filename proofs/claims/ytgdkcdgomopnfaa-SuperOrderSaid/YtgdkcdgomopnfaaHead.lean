/-
  The numbers' bytes as pieces.
-/
import Derived.Test.YtgdkcdgomopnfaaPc
import Derived.Test.YtgdkcdgomopnfaaFun
namespace Go.Proofs.Ytgdkcdgomopnfaa
open Go.RowKit

/-- Put answers a piece. -/
theorem put_s (k n : Int) (w : World) : Calls Try.prog 53 #[.int .i64 k, .int .i64 n] w (RetS w (putL k n)) := by
  by_cases h : isW k = false ∨ hasW n k = false
  · rw [putL_no h]
    exact (put_no k n w h).mono fun e w' ⟨he, hw⟩ => by subst he hw; exact RetS.nil _
  · have h1 : isW k = true := by cases hk : isW k <;> simp_all
    have h2 : hasW n k = true := by cases hk : hasW n k <;> simp_all
    obtain ⟨a, b⟩ : 1 ≤ k ∧ k ≤ 4 := by simpa [isW] using h1
    obtain ⟨m, rfl⟩ := Int.eq_ofNat_of_zero_le (by omega : 0 ≤ k)
    rw [putL_yes (by omega) (by omega) h2]
    exact (put_yes m n w (by omega) (by omega) h2).mono fun e w' ⟨he, hb, hl⟩ => ⟨_, _, _, he, hb.pin (digs_small m n) (digs_len m n) (Nat.le_refl _) (by omega), hl⟩
/-- What the reference's Put answers: a piece, and one of the call's own where it has bytes. -/
def RefPut (w0 : World) (zs : List Int) (e : Ending) (w' : World) : Prop :=
  ∃ a m c, e = .returned (.slice a m c) ∧ Pin w' a m c zs ∧ (0 < m → Own w' w0.heap.size (.slice a m c) m zs) ∧ Below w0.heap.size w0 w'
theorem refPut_s (k n : Int) (w : World) (hn : n ≤ 9223372036854775807) : Calls Try.prog 55 #[.int .i64 k, .int .i64 n] w (RefPut w (putL k n)) := by
  by_cases h : (1 ≤ k ∧ k ≤ 4) ∧ 0 ≤ n
  · obtain ⟨⟨a, b⟩, h0⟩ := h
    obtain ⟨m, rfl⟩ := Int.eq_ofNat_of_zero_le (by omega : 0 ≤ k)
    refine (refPut_long m n w (by omega) (by omega) h0 hn).mono fun e w' ⟨hy, hno, hl⟩ => ?_
    by_cases hq : 0 < n / 256 ^ m
    · rw [hy hq, putL_no (.inr ((hasW_quo (by omega) (by omega) h0).1 hq))]
      exact ⟨none, 0, 0, rfl, Pin.zero _, (fun h => absurd h (Nat.lt_irrefl _)), hl⟩
    · obtain ⟨v, rfl, hown⟩ := hno hq
      have h2 : hasW n m = true := by
        cases hk : hasW n m
        · exact absurd ((hasW_quo (by omega) (by omega) h0).2 hk) hq
        · rfl
      rw [putL_yes (by omega) (by omega) h2]
      obtain ⟨a, c, rfl, hp, _⟩ := hown.pin
      exact ⟨_, _, _, rfl, hp, fun _ => hown, hl⟩
  · have h' : isW k = false ∨ hasW n k = false := by
      by_cases hk : 1 ≤ k ∧ k ≤ 4
      · right; simp only [hasW, decide_eq_false_iff_not]; omega
      · exact .inl (isW_false hk)
    rw [putL_no h']
    exact (refPut_none k n w (by omega)).mono fun e w' ⟨he, hl⟩ => by subst he; exact ⟨_, 0, 0, rfl, ⟨Bys.none _, (fun h => by cases h), Nat.le_refl _, by omega⟩, (fun h => absurd h (Nat.lt_irrefl _)), hl⟩
/-- The payload with noughts behind it. -/
theorem pad_s (a : Option Addr) (la ca : Nat) (n : Int) (x : List Int) (w : World) (hx : Bys w a la x) :
    Calls Try.prog 54 #[.slice a la ca, .int .i64 n] w (RetT w (padF x n) (padO la n)) := by
  by_cases h : (la : Int) ≤ n ∧ n ≤ 65536
  · have ho : padO la n = true := by simp only [padO, decide_eq_true_eq]; exact h
    obtain ⟨m, rfl⟩ := Int.eq_ofNat_of_zero_le (by omega : 0 ≤ n)
    have hL : padF x m = padL x m := by unfold padF; rw [hx.len, ho]; rfl
    rw [hL, ho]
    exact (pad_yes a la ca m x w hx (by omega) (by omega)).mono fun e w' ⟨he, hb, hl⟩ => ⟨_, _, _, he, hb.pin (padL_small hx.small m) (padL_len (by rw [hx.len]; omega)) (Nat.le_refl _) (by omega), hl⟩
  · have ho : padO la n = false := by simp only [padO, decide_eq_false_iff_not]; exact h
    have hL : padF x n = [] := by unfold padF; rw [hx.len, ho]; rfl
    rw [hL, ho]
    exact (pad_no a la ca n w (by omega)).mono fun e w' ⟨he, hw⟩ => by subst he hw; exact RetT.nil _ _

end Go.Proofs.Ytgdkcdgomopnfaa
