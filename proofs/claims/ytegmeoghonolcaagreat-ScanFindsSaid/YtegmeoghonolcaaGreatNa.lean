/-
  Plain numbers: a number's bytes, the lowest first.
-/
import Derived.Test.YtegmeoghonolcaaGreatBase
set_option linter.unusedSimpArgs false
set_option linter.unusedVariables false
namespace Go.Proofs.YtegmeoghonolcaaGreat
open Go.RowKit

def digs : Nat → Int → List Int
  | 0, _ => []
  | m + 1, n => n % 256 :: digs m (n / 256)
theorem digs_len (m : Nat) (n : Int) : (digs m n).length = m := by
  induction m generalizing n with
  | zero => rfl
  | succ m ih => simp [digs, ih]
theorem digs_small (m : Nat) (n : Int) : AllB (digs m n) := by
  induction m generalizing n with
  | zero => intro z hz; cases hz
  | succ m ih =>
    intro z hz
    rcases List.mem_cons.1 hz with rfl | hz
    · omega
    · exact ih _ z hz
theorem byt_digs (m : Nat) (n : Int) (i : Nat) (h : i < m) : byt (digs m n) i = n / 256 ^ i % 256 := by
  induction m generalizing n i with
  | zero => omega
  | succ m ih =>
    cases i with
    | zero => simp [digs, byt]
    | succ i =>
      have := ih (n / 256) i (by omega)
      rw [show byt (digs (m + 1) n) (i + 1) = byt (digs m (n / 256)) i from rfl, this, Int.pow_succ', Int.ediv_ediv_of_nonneg (by omega)]

theorem dig_at {m k : Nat} (n : Int) (h : k < m) : n / 2 ^ (8 * k) % 256 = byt (digs m n) k := by
  rw [byt_digs m n k h, Int.pow_mul]
  rfl

/-- The number whose bytes stand at p .. p + m - 1. -/
def getN (x : List Int) : Nat → Nat → Int
  | _, 0 => 0
  | p, m + 1 => byt x p + 256 * getN x (p + 1) m
theorem getN_top (x : List Int) (p k : Nat) : getN x p (k + 1) = getN x p k + byt x (p + k) * 256 ^ k := by
  induction k generalizing p with
  | zero => simp [getN]
  | succ k ih =>
    rw [getN, ih (p + 1), getN, Int.pow_succ, show p + 1 + k = p + (k + 1) by omega, Int.mul_add, Int.mul_comm (256 ^ k) 256, Int.mul_left_comm (byt x (p + (k + 1))) 256]
    omega
theorem getN_bd {x : List Int} (hx : AllB x) (p k : Nat) : 0 ≤ getN x p k ∧ getN x p k < 256 ^ k := by
  induction k generalizing p with
  | zero => simp [getN]
  | succ k ih =>
    have h1 := ih (p + 1)
    have h2 := byt_bd hx p
    rw [getN, Int.pow_succ]
    omega

theorem i64_or_nat (a b : Nat) (ha : a < 9223372036854775808) (hb : b < 9223372036854775808) : bits .or .i64 (a : Int) (b : Int) = ((a ||| b : Nat) : Int) := by
  have hx : a ||| b < 2 ^ 63 := Nat.or_lt_two_pow (by omega) (by omega)
  have h1 : (BitVec.ofInt 64 (a : Int)).toNat = a := by
    rw [BitVec.ofInt_natCast, BitVec.toNat_ofNat]; exact Nat.mod_eq_of_lt (by omega)
  have h2 : (BitVec.ofInt 64 (b : Int)).toNat = b := by
    rw [BitVec.ofInt_natCast, BitVec.toNat_ofNat]; exact Nat.mod_eq_of_lt (by omega)
  show IntKind.i64.wrap ((BitVec.ofInt 64 (a : Int) ||| BitVec.ofInt 64 (b : Int)).toNat : Int) = _
  rw [BitVec.toNat_or, h1, h2, IntKind.wrap_i64]
  omega
theorem i64_join (i : Nat) (n b : Nat) (hn : n < 2 ^ i) (hb : b * 2 ^ i < 9223372036854775808) (hn' : n < 9223372036854775808) : bits .or .i64 (n : Int) ((b * 2 ^ i : Nat) : Int) = ((n + b * 2 ^ i : Nat) : Int) := by
  rw [i64_or_nat n _ hn' hb, Nat.or_comm, nat_join i _ n (Nat.mul_mod_left _ _) hn, Nat.add_comm]
theorem or_at {n b : Int} {k : Nat} (hk : k < 4) (h0 : 0 ≤ n) (h1 : n < 256 ^ k) (b0 : 0 ≤ b) (b1 : b ≤ 255) : bits .or .i64 n (wrap64 (b * 2 ^ (8 * k))) = n + b * 256 ^ k := by
  obtain ⟨n', rfl⟩ := Int.eq_ofNat_of_zero_le h0
  obtain ⟨b', rfl⟩ := Int.eq_ofNat_of_zero_le b0
  have hp : (256 : Int) ^ k = 2 ^ (8 * k) := by rw [Int.pow_mul]; rfl
  rw [hp] at h1 ⊢
  have hq : (2 : Nat) ^ (8 * k) ≤ 16777216 := by
    rcases (by omega : k = 0 ∨ k = 1 ∨ k = 2 ∨ k = 3) with rfl | rfl | rfl | rfl <;> decide
  have hc : ((2 : Int) ^ (8 * k)) = ((2 ^ (8 * k) : Nat) : Int) := by simp
  rw [hc] at h1 ⊢
  generalize hP : (2 : Nat) ^ (8 * k) = P at *
  have hm : b' * P ≤ 255 * 16777216 := Nat.mul_le_mul (by omega) hq
  rw [← Int.natCast_mul, IntWalk.wrap64_in _ (by omega), ← Int.natCast_add]
  subst hP
  exact i64_join (8 * k) n' b' (by omega) (by omega) (by omega)

end Go.Proofs.YtegmeoghonolcaaGreat

/-
  The program's two questions on widths, by contract.
-/
namespace Go.Proofs.YtegmeoghonolcaaGreat
open Go.RowKit

def isW (n : Int) : Bool := decide (1 ≤ n ∧ n ≤ 4)
theorem isW_true {n : Int} (h : 1 ≤ n ∧ n ≤ 4) : isW n = true := by simp [isW, h]
theorem isW_false {n : Int} (h : ¬ (1 ≤ n ∧ n ≤ 4)) : isW n = false := by simp only [isW, decide_eq_false_iff_not]; exact h
def hasW (n k : Int) : Bool := decide (0 ≤ n ∧ n < 2 ^ (8 * k).toNat)
theorem lim_wrap {k : Int} (h1 : 1 ≤ k) (h4 : k ≤ 4) : wrap64 (2 ^ (8 * k).toNat) = 2 ^ (8 * k).toNat := by
  rcases (by omega : k = 1 ∨ k = 2 ∨ k = 3 ∨ k = 4) with rfl | rfl | rfl | rfl <;> simp [wrap64]
theorem lim_le {k : Int} (h1 : 1 ≤ k) (h4 : k ≤ 4) : (2 : Int) ^ (8 * k).toNat ≤ 4294967296 := by
  rcases (by omega : k = 1 ∨ k = 2 ∨ k = 3 ∨ k = 4) with rfl | rfl | rfl | rfl <;> decide
theorem hasW_lt {n k : Int} (h0 : 0 ≤ n) (h1 : 1 ≤ k) (h4 : k ≤ 4) : decide (n < wrap64 (2 ^ (8 * k).toNat)) = hasW n k := by
  rw [lim_wrap h1 h4]; simp [hasW, h0]
theorem hasW_bd {n k : Int} (h : hasW n k = true) (h1 : 1 ≤ k) (h4 : k ≤ 4) : 0 ≤ n ∧ n < 4294967296 := by
  have := lim_le h1 h4
  simp only [hasW, decide_eq_true_eq] at h
  omega

theorem isWidth_any (n : Int) (w : World) : Calls Tryz.prog 131 #[.int .i64 n] w fun e w' => e = .returned (.bool (isW n)) ∧ w = w' := by
  by_cases h1 : 1 ≤ n
  · by_cases h4 : n ≤ 4
    · have hs : Hid (isW n = true) := isW_true ⟨h1, h4⟩
      go_enter Tryz.func131, Tryz.ntmps131
      go_wp2
      go_ret
      exact ⟨ret_bool hs.out.symm, rfl⟩
    · have hs : Hid (isW n = false) := isW_false (by omega)
      go_enter Tryz.func131, Tryz.ntmps131
      go_wp2
      go_ret
      exact ⟨ret_bool hs.out.symm, rfl⟩
  · have hs : Hid (isW n = false) := isW_false (by omega)
    go_enter Tryz.func131, Tryz.ntmps131
    go_wp2
    go_ret
    exact ⟨ret_bool hs.out.symm, rfl⟩

theorem hasWidth_any (n k : Int) (w : World) (h1 : 1 ≤ k) (h4 : k ≤ 4) : Calls Tryz.prog 132 #[.int .i64 n, .int .i64 k] w fun e w' => e = .returned (.bool (hasW n k)) ∧ w = w' := by
  by_cases h0 : 0 ≤ n
  · go_enter Tryz.func132, Tryz.ntmps132
    go_wp2
    go_ret
    exact ⟨ret_bool (hasW_lt h0 h1 h4), rfl⟩
  · have hs : Hid (hasW n k = false) := by show _ = _; simp only [hasW, decide_eq_false_iff_not]; omega
    go_enter Tryz.func132, Tryz.ntmps132
    go_wp2
    go_ret
    exact ⟨ret_bool hs.out.symm, rfl⟩

end Go.Proofs.YtegmeoghonolcaaGreat

/-
  The program's Put, by contract: a number's bytes in a new block, or the nil slice.
-/
namespace Go.Proofs.YtegmeoghonolcaaGreat
open Go.RowKit

set_option maxHeartbeats 400000 in
theorem put_yes (m : Nat) (n : Int) (w : World) (h1 : 1 ≤ m) (h4 : m ≤ 4) (hw : hasW n m = true) :
    Calls Tryz.prog 97 #[.int .i64 m, .int .i64 n] w fun e w' => e = .returned (.slice (some ⟨w.heap.size, 0, none⟩) m m) ∧ Blk w' w.heap.size (digs m n) ∧ Below w.heap.size w w' := by
  have hi : Hid (isW m = true) := isW_true (by omega)
  obtain ⟨hn0, hn1⟩ := hasW_bd hw (by omega) (by omega)
  have hh : Hid (hasW n m = true) := hw
  clear hw
  go_enter Tryz.func97, Tryz.ntmps97
  go_wp2_with (first
    | (go_at_call 131; refine (isWidth_any _ _).mono ?_; rintro e w' ⟨rfl, rfl⟩; rw [hi.out])
    | (go_at_call 132; refine (hasWidth_any _ _ _ (by omega) (by omega)).mono ?_; rintro e w' ⟨rfl, rfl⟩; rw [hh.out])
    | (at_make; refine wpList_mk rfl _ _ rfl _ _ _ _ m rfl rfl rfl rfl (by omega) ?_; intro w1 hb1 hl1))
  go_loopw [20] (fun i wr => ∃ (k : Nat) (zs : List Int), k ≤ m ∧ i = .int .i64 k ∧ Blk wr w.heap.size zs ∧ Mix zs (List.replicate m 0) (digs m n) k ∧ Below w.heap.size w wr)
    (fun i _ => m - (RowKit.intOf i).toNat)
  case atStart => exact ⟨0, _, Nat.zero_le _, rfl, hb1, Mix.start (by rw [digs_len]; simp), hl1⟩
  case round =>
    obtain ⟨k, zs, hk, rfl, hb, hmix, hl⟩ := hrel
    clear hb1 hl1
    by_cases hlt : k < m
    · have hf := hb.free k
      have hc : wr.cell? ⟨w.heap.size, k, none⟩ = some (.int .u8 (byt zs k)) := hb.cell (by rw [hmix.len, digs_len]; exact hlt)
      go_wp2
      go_roundw
      case rel => exact ⟨k + 1, _, by omega, by go_num, hb.set k _, hmix.set (by rw [digs_len]; exact hlt) (dig_at n hlt), hl.setCell (Nat.le_refl _) _⟩
      case measure => simp [RowKit.intOf]; omega
    · obtain rfl : k = m := by omega
      have hz : Hid (zs = digs k n) := hmix.done (fun j h h' => by rw [digs_len] at h'; omega)
      go_wp2
      go_ret
      exact ⟨rfl, by rw [← hz.out]; exact hb, hl⟩

set_option maxHeartbeats 400000 in
theorem put_no (k n : Int) (w : World) (h : isW k = false ∨ hasW n k = false) :
    Calls Tryz.prog 97 #[.int .i64 k, .int .i64 n] w fun e w' => e = .returned (.slice none 0 0) ∧ w = w' := by
  by_cases hw : 1 ≤ k ∧ k ≤ 4
  · have hi : Hid (isW k = true) := isW_true hw
    have hh : Hid (hasW n k = false) := by
      rcases h with h | h
      · rw [hi.out] at h; cases h
      · exact h
    obtain ⟨h1, h4⟩ := hw
    clear h
    go_enter Tryz.func97, Tryz.ntmps97
    go_wp2_with (first
      | (go_at_call 131; refine (isWidth_any _ _).mono ?_; rintro e w' ⟨rfl, rfl⟩; rw [hi.out])
      | (go_at_call 132; refine (hasWidth_any _ _ _ (by omega) (by omega)).mono ?_; rintro e w' ⟨rfl, rfl⟩; rw [hh.out]))
    go_ret
    exact ⟨rfl, rfl⟩
  · have hi : Hid (isW k = false) := isW_false hw
    clear h hw
    go_enter Tryz.func97, Tryz.ntmps97
    go_wp2_with (first
      | (go_at_call 131; refine (isWidth_any _ _).mono ?_; rintro e w' ⟨rfl, rfl⟩; rw [hi.out]))
    go_ret
    exact ⟨rfl, rfl⟩

end Go.Proofs.YtegmeoghonolcaaGreat

/-
  The program's and the reference's Get, by contract.
-/
namespace Go.Proofs.YtegmeoghonolcaaGreat
open Go.RowKit

set_option maxHeartbeats 400000 in
theorem get_yes (a : Option Addr) (la ca p m : Nat) (x : List Int) (w : World) (hx : Bys w a la x) (hn : la ≤ 1000000000000) (h1 : 1 ≤ m) (h4 : m ≤ 4) (hp : p + m ≤ la) :
    Calls Tryz.prog 112 #[.slice a la ca, .int .i64 p, .int .i64 m] w fun e w' => e = .returned (.tuple #[.int .i64 (getN x p m), .bool true]) ∧ w = w' := by
  have hi : Hid (isW m = true) := isW_true (by omega)
  rcases hx.place with h0 | ⟨ba, oa, rfl, _, hca⟩
  · omega
  have hs : AllB x := hx.small
  clear hx
  go_enter Tryz.func112, Tryz.ntmps112
  go_wp2_with (first
    | (go_at_call 131; refine (isWidth_any _ _).mono ?_; rintro e w' ⟨rfl, rfl⟩; rw [hi.out]))
  go_loop [8, 26] (fun v i => ∃ k : Nat, k ≤ m ∧ i = .int .i64 k ∧ v = .int .i64 (getN x p k))
    (fun _ i => m - (RowKit.intOf i).toNat)
  case atStart => exact ⟨0, Nat.zero_le _, rfl, rfl⟩
  case round =>
    obtain ⟨k, hk, rfl, rfl⟩ := hrel
    by_cases hlt : k < m
    · have g1 := hca (p + k) (by omega)
      have b1 := byt_bd hs (p + k)
      have b2 := getN_bd hs p k
      have b3 : ((p + k : Nat) : Int) < la := by omega
      clear hca
      go_wp2
      go_round
      case rel => exact ⟨k + 1, by omega, by go_num, val_int (by rw [getN_top]; exact or_at (by omega) b2.1 b2.2 b1.1 b1.2)⟩
      case measure => simp [RowKit.intOf]; omega
    · obtain rfl : k = m := by omega
      clear hca
      go_wp2
      go_ret2
      exact ⟨rfl, rfl⟩

set_option maxHeartbeats 400000 in
theorem get_no (a : Option Addr) (la ca : Nat) (p k : Int) (w : World) (hn : la ≤ 1000000000000) (h : ¬ (1 ≤ k ∧ k ≤ 4) ∨ p < 0 ∨ la - k < p) :
    Calls Tryz.prog 112 #[.slice a la ca, .int .i64 p, .int .i64 k] w fun e w' => e = .returned (.tuple #[.int .i64 0, .bool false]) ∧ w = w' := by
  by_cases hw : 1 ≤ k ∧ k ≤ 4
  · have hi : Hid (isW k = true) := isW_true hw
    obtain ⟨h1, h4⟩ := hw
    have h' : p < 0 ∨ la - k < p := by omega
    clear h
    by_cases hp : p < 0
    · clear h'
      go_enter Tryz.func112, Tryz.ntmps112
      go_wp2_with (first
        | (go_at_call 131; refine (isWidth_any _ _).mono ?_; rintro e w' ⟨rfl, rfl⟩; rw [hi.out]))
      go_ret2
      exact ⟨rfl, rfl⟩
    · have hp' : (la : Int) - k < p := by omega
      clear h'
      go_enter Tryz.func112, Tryz.ntmps112
      go_wp2_with (first
        | (go_at_call 131; refine (isWidth_any _ _).mono ?_; rintro e w' ⟨rfl, rfl⟩; rw [hi.out]))
      go_ret2
      exact ⟨rfl, rfl⟩
  · have hi : Hid (isW k = false) := isW_false hw
    clear h hw
    go_enter Tryz.func112, Tryz.ntmps112
    go_wp2_with (first
      | (go_at_call 131; refine (isWidth_any _ _).mono ?_; rintro e w' ⟨rfl, rfl⟩; rw [hi.out]))
    go_ret2
    exact ⟨rfl, rfl⟩

end Go.Proofs.YtegmeoghonolcaaGreat

/-
  The program's and the reference's Pad, by contract: a new block of the bytes and noughts behind them.
-/
namespace Go.Proofs.YtegmeoghonolcaaGreat
open Go.RowKit

def padL (x : List Int) (n : Nat) : List Int := x ++ List.replicate (n - x.length) 0
theorem padL_len {x : List Int} {n : Nat} (h : x.length ≤ n) : (padL x n).length = n := by simp [padL]; omega
theorem padL_small {x : List Int} (hx : AllB x) (n : Nat) : AllB (padL x n) := hx.app (AllB.zeros _)

set_option maxHeartbeats 400000 in
theorem pad_yes (a : Option Addr) (la ca n : Nat) (x : List Int) (w : World) (hx : Bys w a la x) (h : la ≤ n) (hn : n ≤ 65536) :
    Calls Tryz.prog 98 #[.slice a la ca, .int .i64 n] w fun e w' => e = .returned (.tuple #[.slice (some ⟨w.heap.size, 0, none⟩) n n, .bool true]) ∧ Blk w' w.heap.size (padL x n) ∧ Below w.heap.size w w' := by
  have HX : Hid (x.length = la) := hx.len
  go_enter Tryz.func98, Tryz.ntmps98
  go_wp2_with (first
    | (at_make; go_must (refine wpList_mk rfl _ _ rfl _ _ _ _ n rfl rfl rfl rfl (by omega) ?_); intro w1 hb1 hl1)
    | (with_reducible refine wpList_cp rfl (.tmp 17) (.tmp 18) rfl w.heap.size n n la ca a rfl rfl _ x hb1 (hx.below (Nat.le_refl _) hl1) (by simp) h w.heap.size w hl1 (Nat.le_refl _) ?_; intro w2 hb2 hl2))
  go_ret2
  refine ⟨rfl, ?_, hl2⟩
  rwa [List.drop_replicate, ← HX.out] at hb2

set_option maxHeartbeats 400000 in
theorem pad_no (a : Option Addr) (la ca : Nat) (n : Int) (w : World) (h : n < la ∨ 65536 < n) :
    Calls Tryz.prog 98 #[.slice a la ca, .int .i64 n] w fun e w' => e = .returned (.tuple #[.slice none 0 0, .bool false]) ∧ w = w' := by
  by_cases h1 : n < la
  · go_enter Tryz.func98, Tryz.ntmps98
    go_wp2
    go_ret2
    exact ⟨rfl, rfl⟩
  · have h2 : 65536 < n := by omega
    clear h
    go_enter Tryz.func98, Tryz.ntmps98
    go_wp2
    go_ret2
    exact ⟨rfl, rfl⟩

end Go.Proofs.YtegmeoghonolcaaGreat

/-
  The program's Xor, by contract: a new block, each byte the one or the other.
-/
namespace Go.Proofs.YtegmeoghonolcaaGreat
open Go.RowKit

def xr (a b : Int) : Int := ((a.toNat ^^^ b.toNat : Nat) : Int)
theorem xr_zero {a : Int} (h : 0 ≤ a) : xr a 0 = a := by
  show ((a.toNat ^^^ 0 : Nat) : Int) = a
  rw [Nat.xor_zero]; omega
theorem xr_comm (a b : Int) : xr a b = xr b a := by unfold xr; rw [Nat.xor_comm]
theorem xr_self (a : Int) : xr a a = 0 := by unfold xr; rw [Nat.xor_self]; rfl
theorem xr_assoc (a b c : Int) : xr (xr a b) c = xr a (xr b c) := by unfold xr; simp [Nat.xor_assoc]
theorem xr_bd {a b : Int} (ha : 0 ≤ a ∧ a ≤ 255) (hb : 0 ≤ b ∧ b ≤ 255) : 0 ≤ xr a b ∧ xr a b ≤ 255 := by
  have : a.toNat ^^^ b.toNat < 2 ^ 8 := Nat.xor_lt_two_pow (by omega) (by omega)
  unfold xr
  omega
def xorL (a b : List Int) : List Int := (List.range (max a.length b.length)).map fun i => xr (byt a i) (byt b i)
theorem xorL_len (a b : List Int) : (xorL a b).length = max a.length b.length := by simp [xorL]
theorem byt_xorL {a b : List Int} {i : Nat} (h : i < max a.length b.length) : byt (xorL a b) i = xr (byt a i) (byt b i) := by
  simp [byt, xorL, List.getD, List.getElem?_map, List.getElem?_range h]
theorem xorL_small {a b : List Int} (ha : AllB a) (hb : AllB b) : AllB (xorL a b) :=
  allB_byt fun i hi => by rw [xorL_len] at hi; rw [byt_xorL hi]; exact xr_bd (byt_bd ha i) (byt_bd hb i)
theorem u8_xr {a b : Int} (ha : 0 ≤ a ∧ a ≤ 255) (hb : 0 ≤ b ∧ b ≤ 255) : bits .xor .u8 a b = xr a b := u8_xor a b ha.1 (by omega) hb.1 (by omega)

set_option maxHeartbeats 800000 in
theorem xor_any (a b : Option Addr) (la ca lb cb : Nat) (x y : List Int) (w : World) (hx : Bys w a la x) (hy : Bys w b lb y) (hla : la ≤ 1000000000000) (hlb : lb ≤ 1000000000000) :
    Calls Tryz.prog 139 #[.slice a la ca, .slice b lb cb] w fun e w' => e = .returned (.slice (some ⟨w.heap.size, 0, none⟩) (max la lb) (max la lb)) ∧ Blk w' w.heap.size (xorL x y) ∧ Below w.heap.size w w' := by
  obtain ⟨n, hn⟩ : ∃ n, n = max la lb := ⟨_, rfl⟩
  have H : Hid (n = max la lb) := hn
  have hA : la ≤ n := by omega
  have hB : lb ≤ n := by omega
  have hN : n ≤ 1000000000000 := by omega
  have hmx : (if la < lb then (lb : Int) else (la : Int)) = (n : Int) := by split <;> omega
  rw [← hn]
  clear hn
  have HX : Hid (x.length = la) := hx.len
  have HY : Hid (y.length = lb) := hy.len
  go_enter Tryz.func139, Tryz.ntmps139
  go_wp2_with (first
    | (at_make; go_must (refine wpList_mk rfl _ _ rfl _ _ _ _ n rfl rfl rfl rfl (by omega) ?_); intro w1 hb1 hl1)
    | (with_reducible refine wpList_cp rfl (.tmp 14) (.tmp 15) rfl w.heap.size n n la ca a rfl rfl _ x hb1 (hx.below (Nat.le_refl _) hl1) (by simp) hA w.heap.size w hl1 (Nat.le_refl _) ?_; intro w2 hb2 hl2))
  have hmix0 : Mix (x ++ (List.replicate n 0).drop la) x (xorL x y) 0 := by
    refine ⟨?_, fun j h => by omega, fun j _ => ?_⟩
    · rw [xorL_len, HX.out, HY.out, ← H.out]; simp [HX.out]; omega
    · rw [List.drop_replicate, byt_pad]
  go_loopw [19] (fun i wr => ∃ (k : Nat) (zs : List Int), k ≤ lb ∧ i = .int .i64 k ∧ Blk wr w.heap.size zs ∧ Mix zs x (xorL x y) k ∧ Below w.heap.size w wr)
    (fun i _ => lb - (RowKit.intOf i).toNat)
  case atStart => exact ⟨0, _, Nat.zero_le _, rfl, hb2, hmix0, hl2⟩
  case round =>
    obtain ⟨k, zs, hk, rfl, hb, hmix, hl⟩ := hrel
    clear hb1 hl1 hb2 hl2 hmix0 hmx
    have HT : Hid ((xorL x y).length = n) := by show _ = _; rw [xorL_len, HX.out, HY.out, H.out]
    by_cases hlt : k < lb
    · rcases hy.place with h0 | ⟨bb, ob, rfl, hbb, hcb⟩
      · omega
      have g1 : wr.cell? ⟨bb, ob + k, none⟩ = some (.int .u8 (byt y k)) := (hl.cell (p := ⟨bb, ob + k, none⟩) hbb).trans (hcb k hlt)
      have hf := hb.free k
      have hc : wr.cell? ⟨w.heap.size, k, none⟩ = some (.int .u8 (byt zs k)) := hb.cell (by rw [hmix.len, HT.out]; omega)
      have hkn : k < n := by omega
      have hkn' : (k : Int) < n := by omega
      have hv : Hid (bits .xor .u8 (byt zs k) (byt y k) = byt (xorL x y) k) := by
        show _ = _
        rw [hmix.old k (Nat.le_refl _), byt_xorL (by rw [HX.out, HY.out, ← H.out]; exact hkn)]
        exact u8_xr (byt_bd hx.small k) (byt_bd hy.small k)
      clear hcb hx hy
      go_wp2
      go_roundw
      case rel => exact ⟨k + 1, _, by omega, by go_num, hb.set k _, hmix.set (by rw [HT.out]; exact hkn) hv.out, hl.setCell (Nat.le_refl _) _⟩
      case measure => simp [RowKit.intOf]; omega
    · obtain rfl : k = lb := by omega
      have hz : Hid (zs = xorL x y) := hmix.done (fun j h h' => by
        have hj : j < max x.length y.length := by rw [xorL_len] at h'; exact h'
        rw [byt_xorL hj, byt_past (zs := y) (by rw [HY.out]; exact h), xr_zero (byt_bd hx.small j).1])
      clear hx hy
      go_wp2
      go_ret
      exact ⟨rfl, by rw [← hz.out]; exact hb, hl⟩

end Go.Proofs.YtegmeoghonolcaaGreat
