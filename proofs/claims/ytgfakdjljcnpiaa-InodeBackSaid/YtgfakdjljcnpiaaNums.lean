/-
  Plain numbers: a number's bytes, the lowest first.
-/
import Derived.Test.YtgfakdjljcnpiaaBase
namespace Go.Proofs.Ytgfakdjljcnpiaa
open Go.RowKit

def digs : Nat → Int → List Int
  | 0, _ => []
  | m + 1, n => n % 256 :: digs m (n / 256)
theorem digs_len (m : Nat) (n : Int) : (digs m n).length = m := by
  induction m generalizing n with
  | zero => rfl
  | succ m ih => simp [digs, ih]
theorem digs_small (m : Nat) (n : Int) : AllB (digs m n) := by
  induction m generalizing n with
  | zero => intro z hz; cases hz
  | succ m ih =>
    intro z hz
    rcases List.mem_cons.1 hz with rfl | hz
    · omega
    · exact ih _ z hz
theorem byt_digs (m : Nat) (n : Int) (i : Nat) (h : i < m) : byt (digs m n) i = n / 256 ^ i % 256 := by
  induction m generalizing n i with
  | zero => omega
  | succ m ih =>
    cases i with
    | zero => simp [digs, byt]
    | succ i =>
      have := ih (n / 256) i (by omega)
      rw [show byt (digs (m + 1) n) (i + 1) = byt (digs m (n / 256)) i from rfl, this, Int.pow_succ', Int.ediv_ediv_of_nonneg (by omega)]

theorem dig_at {m k : Nat} (n : Int) (h : k < m) : n / 2 ^ (8 * k) % 256 = byt (digs m n) k := by
  rw [byt_digs m n k h, Int.pow_mul]
  rfl

theorem digs_snoc (m : Nat) (n : Int) : digs (m + 1) n = digs m n ++ [n / 256 ^ m % 256] := by
  induction m generalizing n with
  | zero => simp [digs]
  | succ m ih =>
    rw [digs, ih (n / 256), digs, Int.pow_succ', Int.ediv_ediv_of_nonneg (by omega)]
    rfl

/-- The number whose bytes stand at p .. p + m - 1. -/
def getN (x : List Int) : Nat → Nat → Int
  | _, 0 => 0
  | p, m + 1 => byt x p + 256 * getN x (p + 1) m
theorem getN_top (x : List Int) (p k : Nat) : getN x p (k + 1) = getN x p k + byt x (p + k) * 256 ^ k := by
  induction k generalizing p with
  | zero => simp [getN]
  | succ k ih =>
    rw [getN, ih (p + 1), getN, Int.pow_succ, show p + 1 + k = p + (k + 1) by omega, Int.mul_add, Int.mul_comm (256 ^ k) 256, Int.mul_left_comm (byt x (p + (k + 1))) 256]
    omega
theorem getN_bd {x : List Int} (hx : AllB x) (p k : Nat) : 0 ≤ getN x p k ∧ getN x p k < 256 ^ k := by
  induction k generalizing p with
  | zero => simp [getN]
  | succ k ih =>
    have h1 := ih (p + 1)
    have h2 := byt_bd hx p
    rw [getN, Int.pow_succ]
    omega

theorem i64_or_nat (a b : Nat) (ha : a < 9223372036854775808) (hb : b < 9223372036854775808) : bits .or .i64 (a : Int) (b : Int) = ((a ||| b : Nat) : Int) := by
  have hx : a ||| b < 2 ^ 63 := Nat.or_lt_two_pow (by omega) (by omega)
  have h1 : (BitVec.ofInt 64 (a : Int)).toNat = a := by
    rw [BitVec.ofInt_natCast, BitVec.toNat_ofNat]; exact Nat.mod_eq_of_lt (by omega)
  have h2 : (BitVec.ofInt 64 (b : Int)).toNat = b := by
    rw [BitVec.ofInt_natCast, BitVec.toNat_ofNat]; exact Nat.mod_eq_of_lt (by omega)
  show IntKind.i64.wrap ((BitVec.ofInt 64 (a : Int) ||| BitVec.ofInt 64 (b : Int)).toNat : Int) = _
  rw [BitVec.toNat_or, h1, h2, IntKind.wrap_i64]
  omega
theorem i64_join (i : Nat) (n b : Nat) (hn : n < 2 ^ i) (hb : b * 2 ^ i < 9223372036854775808) (hn' : n < 9223372036854775808) : bits .or .i64 (n : Int) ((b * 2 ^ i : Nat) : Int) = ((n + b * 2 ^ i : Nat) : Int) := by
  rw [i64_or_nat n _ hn' hb, Nat.or_comm, nat_join i _ n (Nat.mul_mod_left _ _) hn, Nat.add_comm]
theorem or_at {n b : Int} {k : Nat} (hk : k < 4) (h0 : 0 ≤ n) (h1 : n < 256 ^ k) (b0 : 0 ≤ b) (b1 : b ≤ 255) : bits .or .i64 n (wrap64 (b * 2 ^ (8 * k))) = n + b * 256 ^ k := by
  obtain ⟨n', rfl⟩ := Int.eq_ofNat_of_zero_le h0
  obtain ⟨b', rfl⟩ := Int.eq_ofNat_of_zero_le b0
  have hp : (256 : Int) ^ k = 2 ^ (8 * k) := by rw [Int.pow_mul]; rfl
  rw [hp] at h1 ⊢
  have hq : (2 : Nat) ^ (8 * k) ≤ 16777216 := by
    rcases (by omega : k = 0 ∨ k = 1 ∨ k = 2 ∨ k = 3) with rfl | rfl | rfl | rfl <;> decide
  have hc : ((2 : Int) ^ (8 * k)) = ((2 ^ (8 * k) : Nat) : Int) := by simp
  rw [hc] at h1 ⊢
  generalize hP : (2 : Nat) ^ (8 * k) = P at *
  have hm : b' * P ≤ 255 * 16777216 := Nat.mul_le_mul (by omega) hq
  rw [← Int.natCast_mul, IntWalk.wrap64_in _ (by omega), ← Int.natCast_add]
  subst hP
  exact i64_join (8 * k) n' b' (by omega) (by omega) (by omega)

end Go.Proofs.Ytgfakdjljcnpiaa
