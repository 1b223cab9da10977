/-
  The sector's small questions, and the numbers' bytes as pieces.
-/
import Derived.Test.YtegllnjncpaipaaCon
import Derived.Test.YtegllnjncpaipaaFun
namespace Go.Proofs.Ytegllnjncpaipaa
open Go.RowKit

def is64 (n : Nat) : Bool := decide (n = 64)
theorem isSector_any (a : Option Addr) (n c : Nat) (w : World) : Calls Try.prog 25 #[.slice a n c] w fun e w' => e = .returned (.bool (is64 n)) ∧ w = w' := by
  by_cases h : n = 64
  · subst h
    go_enter Try.func25, Try.ntmps25
    go_wp2
    go_ret
    exact ⟨rfl, rfl⟩
  · have hs : Hid (is64 n = false) := by show _ = _; simp [is64, h]
    have h1 : ((n : Int) == 64) = false := by simp; omega
    clear h
    go_enter Try.func25, Try.ntmps25
    go_wp2
    go_ret
    exact ⟨ret_bool hs.out.symm, rfl⟩
theorem seqOf_any (a : Option Addr) (n c : Nat) (w : World) (h : 4 ≤ c) (hm : c ≤ 9223372036854775807) (ha : a = none → n = 0 ∧ c = 0) :
    Calls Try.prog 32 #[.slice a n c] w fun e w' => e = .returned (.slice a 4 c) ∧ w = w' := by
  cases a with
  | none => have := ha rfl; omega
  | some p =>
    obtain ⟨b, o, s⟩ := p
    clear ha
    go_enter Try.func32, Try.ntmps32
    go_wp2
    go_ret
    exact ⟨rfl, rfl⟩
theorem told_any (b o c : Nat) (w : World) (h : 64 ≤ c) (hm : c ≤ 9223372036854775807) :
    Calls Try.prog 31 #[.slice (some ⟨b, o, none⟩) 64 c] w fun e w' => e = .returned (.slice (some ⟨b, o + 4, none⟩) 60 (c - 4)) ∧ w = w' := by
  have h4 : ¬ c = 4 := by omega
  go_enter Try.func31, Try.ntmps31
  go_wp2
  go_ret
  exact ⟨rfl, rfl⟩
theorem number_any (a : Option Addr) (n c p m : Nat) (x : List Int) (w : World) (hx : Bys w a n x) (hn : n ≤ 1000000000000) (h1 : 1 ≤ m) (h4 : m ≤ 4) (hp : p + m ≤ n) :
    Calls Try.prog 26 #[.slice a n c, .int .i64 p, .int .i64 m] w fun e w' => e = .returned (.int .i64 (getN x p m)) ∧ w = w' := by
  go_enter Try.func26, Try.ntmps26
  go_wp2_with (fail)
  refine (get_yes a n c p m x w hx hn h1 h4 hp).mono ?_
  rintro e w1 ⟨rfl, rfl⟩
  go_wp2_with (fail)
  go_ret
  exact ⟨rfl, rfl⟩

/-- Put answers a piece. -/
theorem put_s (k n : Int) (w : World) : Calls Try.prog 23 #[.int .i64 k, .int .i64 n] w (RetS w (putL k n)) := by
  by_cases h : isW k = false ∨ hasW n k = false
  · rw [putL_no h]
    exact (put_no k n w h).mono fun e w' ⟨he, hw⟩ => by subst he hw; exact RetS.nil _
  · have h1 : isW k = true := by cases hk : isW k <;> simp_all
    have h2 : hasW n k = true := by cases hk : hasW n k <;> simp_all
    obtain ⟨a, b⟩ : 1 ≤ k ∧ k ≤ 4 := by simpa [isW] using h1
    obtain ⟨m, rfl⟩ := Int.eq_ofNat_of_zero_le (by omega : 0 ≤ k)
    rw [putL_yes (by omega) (by omega) h2]
    exact (put_yes m n w (by omega) (by omega) h2).mono fun e w' ⟨he, hb, hl⟩ => ⟨_, _, _, he, hb.pin (digs_small m n) (digs_len m n) (Nat.le_refl _) (by omega), hl⟩
/-- What the reference's Put answers: a piece, and one of the call's own where it has bytes. -/
def RefPut (w0 : World) (zs : List Int) (e : Ending) (w' : World) : Prop :=
  ∃ a m c, e = .returned (.slice a m c) ∧ Pin w' a m c zs ∧ (0 < m → Own w' w0.heap.size (.slice a m c) m zs) ∧ Below w0.heap.size w0 w'
theorem refPut_s (k n : Int) (w : World) (hn : n ≤ 9223372036854775807) : Calls Try.prog 24 #[.int .i64 k, .int .i64 n] w (RefPut w (putL k n)) := by
  by_cases h : (1 ≤ k ∧ k ≤ 4) ∧ 0 ≤ n
  · obtain ⟨⟨a, b⟩, h0⟩ := h
    obtain ⟨m, rfl⟩ := Int.eq_ofNat_of_zero_le (by omega : 0 ≤ k)
    refine (refPut_long m n w (by omega) (by omega) h0 hn).mono fun e w' ⟨hy, hno, hl⟩ => ?_
    by_cases hq : 0 < n / 256 ^ m
    · rw [hy hq, putL_no (.inr ((hasW_quo (by omega) (by omega) h0).1 hq))]
      exact ⟨none, 0, 0, rfl, Pin.zero _, (fun h => absurd h (Nat.lt_irrefl _)), hl⟩
    · obtain ⟨v, rfl, hown⟩ := hno hq
      have h2 : hasW n m = true := by
        cases hk : hasW n m
        · exact absurd ((hasW_quo (by omega) (by omega) h0).2 hk) hq
        · rfl
      rw [putL_yes (by omega) (by omega) h2]
      obtain ⟨a, c, rfl, hp, _⟩ := hown.pin
      exact ⟨_, _, _, rfl, hp, fun _ => hown, hl⟩
  · have h' : isW k = false ∨ hasW n k = false := by
      by_cases hk : 1 ≤ k ∧ k ≤ 4
      · right; simp only [hasW, decide_eq_false_iff_not]; omega
      · exact .inl (isW_false hk)
    rw [putL_no h']
    exact (refPut_none k n w (by omega)).mono fun e w' ⟨he, hl⟩ => by subst he; exact ⟨_, 0, 0, rfl, ⟨Bys.none _, (fun h => by cases h), Nat.le_refl _, by omega⟩, (fun h => absurd h (Nat.lt_irrefl _)), hl⟩
theorem xor_s (a b : Option Addr) (la ca lb cb : Nat) (x y : List Int) (w : World) (hx : Bys w a la x) (hy : Bys w b lb y) (hla : la ≤ 1000000000000) (hlb : lb ≤ 1000000000000) :
    Calls Try.prog 30 #[.slice a la ca, .slice b lb cb] w (RetS w (xorL x y)) :=
  (xor_any a b la ca lb cb x y w hx hy hla hlb).mono fun e w' ⟨he, hb, hl⟩ => ⟨_, _, _, he, hb.pin (xorL_small hx.small hy.small) (by rw [xorL_len, hx.len, hy.len]) (Nat.le_refl _) (by omega), hl⟩
/-- The payload with noughts behind it. -/
theorem pad_s (a : Option Addr) (la ca : Nat) (n : Int) (x : List Int) (w : World) (hx : Bys w a la x) :
    Calls Try.prog 21 #[.slice a la ca, .int .i64 n] w (RetT w (padF x n) (padO la n)) := by
  by_cases h : (la : Int) ≤ n ∧ n ≤ 65536
  · have ho : padO la n = true := by simp only [padO, decide_eq_true_eq]; exact h
    obtain ⟨m, rfl⟩ := Int.eq_ofNat_of_zero_le (by omega : 0 ≤ n)
    have hL : padF x m = padL x m := by unfold padF; rw [hx.len, ho]; rfl
    rw [hL, ho]
    exact (pad_yes a la ca m x w hx (by omega) (by omega)).mono fun e w' ⟨he, hb, hl⟩ => ⟨_, _, _, he, hb.pin (padL_small hx.small m) (padL_len (by rw [hx.len]; omega)) (Nat.le_refl _) (by omega), hl⟩
  · have ho : padO la n = false := by simp only [padO, decide_eq_false_iff_not]; exact h
    have hL : padF x n = [] := by unfold padF; rw [hx.len, ho]; rfl
    rw [hL, ho]
    exact (pad_no a la ca n w (by omega)).mono fun e w' ⟨he, hw⟩ => by subst he hw; exact RetT.nil _ _

end Go.Proofs.Ytegllnjncpaipaa
