/-
  Plain numbers: a number's bytes, the lowest first.
-/
import Derived.Test.YtegcjpocdfmpfaaVaa
import Derived.Deep.AppendLies
set_option linter.unusedVariables false
set_option linter.unusedSimpArgs false
set_option maxRecDepth 100000
set_option maxHeartbeats 16000000
namespace Go.Proofs.Ytegcjpocdfmpfaa
open Go.RowKit

def digs : Nat → Int → List Int
  | 0, _ => []
  | m + 1, n => n % 256 :: digs m (n / 256)
theorem digs_len (m : Nat) (n : Int) : (digs m n).length = m := by
  induction m generalizing n with
  | zero => rfl
  | succ m ih => simp [digs, ih]
theorem digs_small (m : Nat) (n : Int) : AllB (digs m n) := by
  induction m generalizing n with
  | zero => intro z hz; cases hz
  | succ m ih =>
    intro z hz
    rcases List.mem_cons.1 hz with rfl | hz
    · omega
    · exact ih _ z hz
theorem byt_digs (m : Nat) (n : Int) (i : Nat) (h : i < m) : byt (digs m n) i = n / 256 ^ i % 256 := by
  induction m generalizing n i with
  | zero => omega
  | succ m ih =>
    cases i with
    | zero => simp [digs, byt]
    | succ i =>
      have := ih (n / 256) i (by omega)
      rw [show byt (digs (m + 1) n) (i + 1) = byt (digs m (n / 256)) i from rfl, this, Int.pow_succ', Int.ediv_ediv_of_nonneg (by omega)]

theorem dig_at {m k : Nat} (n : Int) (h : k < m) : n / 2 ^ (8 * k) % 256 = byt (digs m n) k := by
  rw [byt_digs m n k h, Int.pow_mul]
  rfl

theorem digs_snoc (m : Nat) (n : Int) : digs (m + 1) n = digs m n ++ [n / 256 ^ m % 256] := by
  induction m generalizing n with
  | zero => simp [digs]
  | succ m ih =>
    rw [digs, ih (n / 256), digs, Int.pow_succ', Int.ediv_ediv_of_nonneg (by omega)]
    rfl

/-- The number whose bytes stand at p .. p + m - 1. -/
def getN (x : List Int) : Nat → Nat → Int
  | _, 0 => 0
  | p, m + 1 => byt x p + 256 * getN x (p + 1) m
theorem getN_top (x : List Int) (p k : Nat) : getN x p (k + 1) = getN x p k + byt x (p + k) * 256 ^ k := by
  induction k generalizing p with
  | zero => simp [getN]
  | succ k ih =>
    rw [getN, ih (p + 1), getN, Int.pow_succ, show p + 1 + k = p + (k + 1) by omega, Int.mul_add, Int.mul_comm (256 ^ k) 256, Int.mul_left_comm (byt x (p + (k + 1))) 256]
    omega
theorem getN_bd {x : List Int} (hx : AllB x) (p k : Nat) : 0 ≤ getN x p k ∧ getN x p k < 256 ^ k := by
  induction k generalizing p with
  | zero => simp [getN]
  | succ k ih =>
    have h1 := ih (p + 1)
    have h2 := byt_bd hx p
    rw [getN, Int.pow_succ]
    omega

theorem i64_or_nat (a b : Nat) (ha : a < 9223372036854775808) (hb : b < 9223372036854775808) : bits .or .i64 (a : Int) (b : Int) = ((a ||| b : Nat) : Int) := by
  have hx : a ||| b < 2 ^ 63 := Nat.or_lt_two_pow (by omega) (by omega)
  have h1 : (BitVec.ofInt 64 (a : Int)).toNat = a := by
    rw [BitVec.ofInt_natCast, BitVec.toNat_ofNat]; exact Nat.mod_eq_of_lt (by omega)
  have h2 : (BitVec.ofInt 64 (b : Int)).toNat = b := by
    rw [BitVec.ofInt_natCast, BitVec.toNat_ofNat]; exact Nat.mod_eq_of_lt (by omega)
  show IntKind.i64.wrap ((BitVec.ofInt 64 (a : Int) ||| BitVec.ofInt 64 (b : Int)).toNat : Int) = _
  rw [BitVec.toNat_or, h1, h2, IntKind.wrap_i64]
  omega
theorem i64_join (i : Nat) (n b : Nat) (hn : n < 2 ^ i) (hb : b * 2 ^ i < 9223372036854775808) (hn' : n < 9223372036854775808) : bits .or .i64 (n : Int) ((b * 2 ^ i : Nat) : Int) = ((n + b * 2 ^ i : Nat) : Int) := by
  rw [i64_or_nat n _ hn' hb, Nat.or_comm, nat_join i _ n (Nat.mul_mod_left _ _) hn, Nat.add_comm]
theorem or_at {n b : Int} {k : Nat} (hk : k < 4) (h0 : 0 ≤ n) (h1 : n < 256 ^ k) (b0 : 0 ≤ b) (b1 : b ≤ 255) : bits .or .i64 n (wrap64 (b * 2 ^ (8 * k))) = n + b * 256 ^ k := by
  obtain ⟨n', rfl⟩ := Int.eq_ofNat_of_zero_le h0
  obtain ⟨b', rfl⟩ := Int.eq_ofNat_of_zero_le b0
  have hp : (256 : Int) ^ k = 2 ^ (8 * k) := by rw [Int.pow_mul]; rfl
  rw [hp] at h1 ⊢
  have hq : (2 : Nat) ^ (8 * k) ≤ 16777216 := by
    rcases (by omega : k = 0 ∨ k = 1 ∨ k = 2 ∨ k = 3) with rfl | rfl | rfl | rfl <;> decide
  have hc : ((2 : Int) ^ (8 * k)) = ((2 ^ (8 * k) : Nat) : Int) := by simp
  rw [hc] at h1 ⊢
  generalize hP : (2 : Nat) ^ (8 * k) = P at *
  have hm : b' * P ≤ 255 * 16777216 := Nat.mul_le_mul (by omega) hq
  rw [← Int.natCast_mul, IntWalk.wrap64_in _ (by omega), ← Int.natCast_add]
  subst hP
  exact i64_join (8 * k) n' b' (by omega) (by omega) (by omega)


def isW (n : Int) : Bool := decide (1 ≤ n ∧ n ≤ 4)
theorem isW_true {n : Int} (h : 1 ≤ n ∧ n ≤ 4) : isW n = true := by simp [isW, h]
theorem isW_false {n : Int} (h : ¬ (1 ≤ n ∧ n ≤ 4)) : isW n = false := by simp only [isW, decide_eq_false_iff_not]; exact h
def hasW (n k : Int) : Bool := decide (0 ≤ n ∧ n < 2 ^ (8 * k).toNat)
theorem lim_wrap {k : Int} (h1 : 1 ≤ k) (h4 : k ≤ 4) : wrap64 (2 ^ (8 * k).toNat) = 2 ^ (8 * k).toNat := by
  rcases (by omega : k = 1 ∨ k = 2 ∨ k = 3 ∨ k = 4) with rfl | rfl | rfl | rfl <;> simp [wrap64]
theorem lim_le {k : Int} (h1 : 1 ≤ k) (h4 : k ≤ 4) : (2 : Int) ^ (8 * k).toNat ≤ 4294967296 := by
  rcases (by omega : k = 1 ∨ k = 2 ∨ k = 3 ∨ k = 4) with rfl | rfl | rfl | rfl <;> decide
theorem hasW_lt {n k : Int} (h0 : 0 ≤ n) (h1 : 1 ≤ k) (h4 : k ≤ 4) : decide (n < wrap64 (2 ^ (8 * k).toNat)) = hasW n k := by
  rw [lim_wrap h1 h4]; simp [hasW, h0]
theorem hasW_bd {n k : Int} (h : hasW n k = true) (h1 : 1 ≤ k) (h4 : k ≤ 4) : 0 ≤ n ∧ n < 4294967296 := by
  have := lim_le h1 h4
  simp only [hasW, decide_eq_true_eq] at h
  omega

theorem isWidth_any (n : Int) (w : World) : Calls Try.prog 131 #[.int .i64 n] w fun e w' => e = .returned (.bool (isW n)) ∧ w = w' := by
  by_cases h1 : 1 ≤ n
  · by_cases h4 : n ≤ 4
    · have hs : Hid (isW n = true) := isW_true ⟨h1, h4⟩
      go_enter Try.func131, Try.ntmps131
      go_wp2
      go_ret
      exact ⟨ret_bool hs.out.symm, rfl⟩
    · have hs : Hid (isW n = false) := isW_false (by omega)
      go_enter Try.func131, Try.ntmps131
      go_wp2
      go_ret
      exact ⟨ret_bool hs.out.symm, rfl⟩
  · have hs : Hid (isW n = false) := isW_false (by omega)
    go_enter Try.func131, Try.ntmps131
    go_wp2
    go_ret
    exact ⟨ret_bool hs.out.symm, rfl⟩

theorem hasWidth_any (n k : Int) (w : World) (h1 : 1 ≤ k) (h4 : k ≤ 4) : Calls Try.prog 132 #[.int .i64 n, .int .i64 k] w fun e w' => e = .returned (.bool (hasW n k)) ∧ w = w' := by
  by_cases h0 : 0 ≤ n
  · go_enter Try.func132, Try.ntmps132
    go_wp2
    go_ret
    exact ⟨ret_bool (hasW_lt h0 h1 h4), rfl⟩
  · have hs : Hid (hasW n k = false) := by show _ = _; simp only [hasW, decide_eq_false_iff_not]; omega
    go_enter Try.func132, Try.ntmps132
    go_wp2
    go_ret
    exact ⟨ret_bool hs.out.symm, rfl⟩


theorem put_yes (m : Nat) (n : Int) (w : World) (h1 : 1 ≤ m) (h4 : m ≤ 4) (hw : hasW n m = true) :
    Calls Try.prog 89 #[.int .i64 m, .int .i64 n] w fun e w' => e = .returned (.slice (some ⟨w.heap.size, 0, none⟩) m m) ∧ Blk w' w.heap.size (digs m n) ∧ Below w.heap.size w w' := by
  have hi : Hid (isW m = true) := isW_true (by omega)
  obtain ⟨hn0, hn1⟩ := hasW_bd hw (by omega) (by omega)
  have hh : Hid (hasW n m = true) := hw
  clear hw
  go_enter Try.func89, Try.ntmps89
  go_wp2_with (first
    | (go_at_call 131; refine (isWidth_any _ _).mono ?_; rintro e w' ⟨rfl, rfl⟩; rw [hi.out])
    | (go_at_call 132; refine (hasWidth_any _ _ _ (by omega) (by omega)).mono ?_; rintro e w' ⟨rfl, rfl⟩; rw [hh.out])
    | (at_make; refine wpList_mk rfl _ _ rfl _ _ _ _ m rfl rfl rfl rfl (by omega) ?_; intro w1 hb1 hl1))
  go_loopw [20] (fun i wr => ∃ (k : Nat) (zs : List Int), k ≤ m ∧ i = .int .i64 k ∧ Blk wr w.heap.size zs ∧ Mix zs (List.replicate m 0) (digs m n) k ∧ Below w.heap.size w wr)
    (fun i _ => m - (RowKit.intOf i).toNat)
  case atStart => exact ⟨0, _, Nat.zero_le _, rfl, hb1, Mix.start (by rw [digs_len]; simp), hl1⟩
  case round =>
    obtain ⟨k, zs, hk, rfl, hb, hmix, hl⟩ := hrel
    clear hb1 hl1
    by_cases hlt : k < m
    · have hf := hb.free k
      have hc : wr.cell? ⟨w.heap.size, k, none⟩ = some (.int .u8 (byt zs k)) := hb.cell (by rw [hmix.len, digs_len]; exact hlt)
      go_wp2
      go_roundw
      case rel => exact ⟨k + 1, _, by omega, by go_num, hb.set k _, hmix.set (by rw [digs_len]; exact hlt) (dig_at n hlt), hl.setCell (Nat.le_refl _) _⟩
      case measure => simp [RowKit.intOf]; omega
    · obtain rfl : k = m := by omega
      have hz : Hid (zs = digs k n) := hmix.done (fun j h h' => by rw [digs_len] at h'; omega)
      go_wp2
      go_ret
      exact ⟨rfl, by rw [← hz.out]; exact hb, hl⟩


theorem get_yes (a : Option Addr) (la ca p m : Nat) (x : List Int) (w : World) (hx : Bys w a la x) (hn : la ≤ 1000000000000) (h1 : 1 ≤ m) (h4 : m ≤ 4) (hp : p + m ≤ la) :
    Calls Try.prog 135 #[.slice a la ca, .int .i64 p, .int .i64 m] w fun e w' => e = .returned (.tuple #[.int .i64 (getN x p m), .bool true]) ∧ w = w' := by
  have hi : Hid (isW m = true) := isW_true (by omega)
  rcases hx.place with h0 | ⟨ba, oa, rfl, _, hca⟩
  · omega
  have hs : AllB x := hx.small
  clear hx
  go_enter Try.func135, Try.ntmps135
  go_wp2_with (first
    | (go_at_call 131; refine (isWidth_any _ _).mono ?_; rintro e w' ⟨rfl, rfl⟩; rw [hi.out]))
  go_loop [8, 26] (fun v i => ∃ k : Nat, k ≤ m ∧ i = .int .i64 k ∧ v = .int .i64 (getN x p k))
    (fun _ i => m - (RowKit.intOf i).toNat)
  case atStart => exact ⟨0, Nat.zero_le _, rfl, rfl⟩
  case round =>
    obtain ⟨k, hk, rfl, rfl⟩ := hrel
    by_cases hlt : k < m
    · have g1 := hca (p + k) (by omega)
      have b1 := byt_bd hs (p + k)
      have b2 := getN_bd hs p k
      have b3 : ((p + k : Nat) : Int) < la := by omega
      clear hca
      go_wp2
      go_round
      case rel => exact ⟨k + 1, by omega, by go_num, val_int (by rw [getN_top]; exact or_at (by omega) b2.1 b2.2 b1.1 b1.2)⟩
      case measure => simp [RowKit.intOf]; omega
    · obtain rfl : k = m := by omega
      clear hca
      go_wp2
      go_ret2
      exact ⟨rfl, rfl⟩

theorem get_no (a : Option Addr) (la ca : Nat) (p k : Int) (w : World) (hn : la ≤ 1000000000000) (h : ¬ (1 ≤ k ∧ k ≤ 4) ∨ p < 0 ∨ la - k < p) :
    Calls Try.prog 135 #[.slice a la ca, .int .i64 p, .int .i64 k] w fun e w' => e = .returned (.tuple #[.int .i64 0, .bool false]) ∧ w = w' := by
  by_cases hw : 1 ≤ k ∧ k ≤ 4
  · have hi : Hid (isW k = true) := isW_true hw
    obtain ⟨h1, h4⟩ := hw
    have h' : p < 0 ∨ la - k < p := by omega
    clear h
    by_cases hp : p < 0
    · clear h'
      go_enter Try.func135, Try.ntmps135
      go_wp2_with (first
        | (go_at_call 131; refine (isWidth_any _ _).mono ?_; rintro e w' ⟨rfl, rfl⟩; rw [hi.out]))
      go_ret2
      exact ⟨rfl, rfl⟩
    · have hp' : (la : Int) - k < p := by omega
      clear h'
      go_enter Try.func135, Try.ntmps135
      go_wp2_with (first
        | (go_at_call 131; refine (isWidth_any _ _).mono ?_; rintro e w' ⟨rfl, rfl⟩; rw [hi.out]))
      go_ret2
      exact ⟨rfl, rfl⟩
  · have hi : Hid (isW k = false) := isW_false hw
    clear h hw
    go_enter Try.func135, Try.ntmps135
    go_wp2_with (first
      | (go_at_call 131; refine (isWidth_any _ _).mono ?_; rintro e w' ⟨rfl, rfl⟩; rw [hi.out]))
    go_ret2
    exact ⟨rfl, rfl⟩


def padL (x : List Int) (n : Nat) : List Int := x ++ List.replicate (n - x.length) 0
theorem padL_len {x : List Int} {n : Nat} (h : x.length ≤ n) : (padL x n).length = n := by simp [padL]; omega
theorem padL_small {x : List Int} (hx : AllB x) (n : Nat) : AllB (padL x n) := hx.app (AllB.zeros _)

theorem pad_yes (a : Option Addr) (la ca n : Nat) (x : List Int) (w : World) (hx : Bys w a la x) (h : la ≤ n) (hn : n ≤ 65536) :
    Calls Try.prog 90 #[.slice a la ca, .int .i64 n] w fun e w' => e = .returned (.tuple #[.slice (some ⟨w.heap.size, 0, none⟩) n n, .bool true]) ∧ Blk w' w.heap.size (padL x n) ∧ Below w.heap.size w w' := by
  have HX : Hid (x.length = la) := hx.len
  go_enter Try.func90, Try.ntmps90
  go_wp2_with (first
    | (at_make; go_must (refine wpList_mk rfl _ _ rfl _ _ _ _ n rfl rfl rfl rfl (by omega) ?_); intro w1 hb1 hl1)
    | (with_reducible refine wpList_cp rfl (.tmp 17) (.tmp 18) rfl w.heap.size n n la ca a rfl rfl _ x hb1 (hx.below (Nat.le_refl _) hl1) (by simp) h w.heap.size w hl1 (Nat.le_refl _) ?_; intro w2 hb2 hl2))
  go_ret2
  refine ⟨rfl, ?_, hl2⟩
  rwa [List.drop_replicate, ← HX.out] at hb2


theorem quo_step {n q : Int} {k : Nat} (h : q = n / 256 ^ k) : Hid (q / 256 = n / 256 ^ (k + 1)) := by
  show _ = _
  rw [h, Int.pow_succ, Int.ediv_ediv_of_nonneg (Int.le_of_lt (Int.pow_pos (by omega)))]

def PutLong (w : World) (m : Nat) (n : Int) (e : Ending) (w' : World) : Prop :=
  (0 < n / 256 ^ m → e = .returned (.slice none 0 0)) ∧ (¬ 0 < n / 256 ^ m → ∃ v, e = .returned v ∧ Own w' w.heap.size v m (digs m n)) ∧ Below w.heap.size w w'

theorem refPut_long (m : Nat) (n : Int) (w : World) (h1 : 1 ≤ m) (h4 : m ≤ 4) (hn0 : 0 ≤ n) (hn1 : n ≤ 9223372036854775807) :
    Calls Try.prog 97 #[.int .i64 m, .int .i64 n] w (PutLong w m n) := by
  go_enter Try.func97, Try.ntmps97
  go_wp2
  go_loopw [1, 5, 6] (fun sn out i wr => ∃ (k : Nat) (q : Int), k ≤ m ∧ i = .int .i64 k ∧ sn = .int .i64 q ∧ Hid (q = n / 256 ^ k) ∧ 0 ≤ q ∧ q ≤ 9223372036854775807 ∧ Own wr w.heap.size out k (digs k n) ∧ Below w.heap.size w wr)
    (fun _ _ i _ => m - (RowKit.intOf i).toNat)
  case atStart => exact ⟨0, n, Nat.zero_le _, rfl, rfl, by show _ = _; simp, hn0, hn1, own_none w _ (Nat.le_refl _), (Below.refl _ _).alloc (Nat.le_refl _) _⟩
  case round =>
    obtain ⟨k, q, hk, rfl, rfl, hq, hq0, hq1, hown, hl⟩ := hrel
    by_cases hlt : k < m
    · go_wp2_with (at_builtin; go_must (refine wpList_ap rfl (.tmp 24) (.tmp 28) rfl w.heap.size _ k _ rfl (hown.below (Nat.le_refl _) ((Below.refl _ _).alloc (Nat.le_refl _) _)) _ 1 1 [q % 256] rfl (bys_one wr (by omega)) (fun h => by cases h) (by omega) (by have := hl.size; simp; omega) w (hl.alloc hl.size _) ?_); intro v w1 hown1 hb1)
      go_roundw
      case rel => exact ⟨k + 1, q / 256, by omega, by go_num, rfl, quo_step hq.out, by omega, by omega, by rw [digs_snoc, ← hq.out]; exact hown1, hb1⟩
      case measure => simp [RowKit.intOf]; omega
    · obtain rfl : k = m := by omega
      go_wp2
      · have hpos : 0 < q := by assumption
        go_ret
        exact ⟨fun _ => rfl, fun h => absurd (by rw [← hq.out]; exact hpos) h, hl⟩
      · have hneg : q ≤ 0 := by assumption
        go_ret
        exact ⟨fun h => absurd (by rw [← hq.out] at h; exact h) (by omega), fun _ => ⟨_, rfl, hown⟩, hl⟩

/-- No such width, or a number below 0: an empty slice. -/
def PutEmpty (w : World) (e : Ending) (w' : World) : Prop := e = .returned (.slice (some ⟨w.heap.size, 0, none⟩) 0 0) ∧ Below w.heap.size w w'

theorem refPut_none (k n : Int) (w : World) (h : ¬ (1 ≤ k ∧ k ≤ 4) ∨ n < 0) :
    Calls Try.prog 97 #[.int .i64 k, .int .i64 n] w (PutEmpty w) := by
  by_cases h1 : k < 1
  · clear h
    go_enter Try.func97, Try.ntmps97
    go_wp2
    go_ret
    exact ⟨rfl, (Below.refl _ _).alloc (Nat.le_refl _) _⟩
  · by_cases h4 : 4 < k
    · clear h
      go_enter Try.func97, Try.ntmps97
      go_wp2
      go_ret
      exact ⟨rfl, (Below.refl _ _).alloc (Nat.le_refl _) _⟩
    · have h2 : n < 0 := by omega
      clear h
      go_enter Try.func97, Try.ntmps97
      go_wp2
      go_ret
      exact ⟨rfl, (Below.refl _ _).alloc (Nat.le_refl _) _⟩


theorem getN_lt {x : List Int} (hx : AllB x) (p : Nat) {k : Nat} (hk : k ≤ 4) : 0 ≤ getN x p k ∧ getN x p k < 4294967296 := by
  have h := getN_bd hx p k
  rcases (by omega : k = 0 ∨ k = 1 ∨ k = 2 ∨ k = 3 ∨ k = 4) with rfl | rfl | rfl | rfl | rfl <;> omega
theorem getN_step (x : List Int) (p m j : Nat) (h : j < m) : getN x (p + (j + 1)) (m - (j + 1)) * 256 + byt x (p + j) = getN x (p + j) (m - j) := by
  obtain ⟨d, hd⟩ : ∃ d, m - j = d + 1 := ⟨m - j - 1, by omega⟩
  rw [hd, getN, show m - (j + 1) = d by omega, show p + (j + 1) = p + j + 1 by omega]
  omega

def GetAt (x : List Int) (p m : Nat) (v i : Value) : Prop :=
  (∃ j : Nat, j < m ∧ i = .int .i64 j ∧ v = .int .i64 (getN x (p + (j + 1)) (m - (j + 1)))) ∨ (i = .int .i64 (-1) ∧ v = .int .i64 (getN x p m))

theorem refGet_yes (a : Option Addr) (la ca p m : Nat) (x : List Int) (w : World) (hx : Bys w a la x) (hn : la ≤ 1000000000000) (h1 : 1 ≤ m) (h4 : m ≤ 4) (hp : p + m ≤ la) :
    Calls Try.prog 65 #[.slice a la ca, .int .i64 p, .int .i64 m] w fun e w' => e = .returned (.tuple #[.int .i64 (getN x p m), .bool true]) ∧ w = w' := by
  rcases hx.place with h0 | ⟨ba, oa, rfl, _, hca⟩
  · omega
  have hs : AllB x := hx.small
  have q1 : ¬ (m : Int) < 1 := by omega
  have q2 : ¬ (4 : Int) < m := by omega
  have q3 : ¬ (p : Int) < 0 := by omega
  have q4 : ¬ (la : Int) < p := by omega
  have q5 : ¬ (la : Int) - p < m := by omega
  clear hx
  go_enter Try.func65, Try.ntmps65
  go_wp2
  go_loop [8, 9] (fun v i => GetAt x p m v i) (fun _ i => (RowKit.intOf i + 1).toNat)
  case atStart => exact .inl ⟨m - 1, by omega, by congr 1; omega, by rw [show m - (m - 1 + 1) = 0 by omega]; rfl⟩
  case round =>
    rcases hrel with ⟨j, hj, rfl, rfl⟩ | ⟨rfl, rfl⟩
    · have g1 := hca (p + j) (by omega)
      have b1 := byt_bd hs (p + j)
      have b2 := getN_lt hs (p + (j + 1)) (k := m - (j + 1)) (by omega)
      have b3 : ((p + j : Nat) : Int) < la := by omega
      have hst : Hid (getN x (p + (j + 1)) (m - (j + 1)) * 256 + byt x (p + j) = getN x (p + j) (m - j)) := getN_step x p m j hj
      clear hca
      go_wp2
      go_round
      case rel =>
        cases j with
        | zero => exact .inr ⟨by go_num, val_int (by simpa using hst.out)⟩
        | succ j => exact .inl ⟨j, by omega, by go_num, val_int hst.out⟩
      case measure => simp [RowKit.intOf]
    · clear hca
      go_wp2
      go_ret2
      exact ⟨rfl, rfl⟩

theorem refGet_no (a : Option Addr) (la ca : Nat) (p k : Int) (w : World) (h : ¬ (1 ≤ k ∧ k ≤ 4) ∨ p < 0 ∨ la - k < p) :
    Calls Try.prog 65 #[.slice a la ca, .int .i64 p, .int .i64 k] w fun e w' => e = .returned (.tuple #[.int .i64 0, .bool false]) ∧ w = w' := by
  by_cases h1 : k < 1
  · clear h
    go_enter Try.func65, Try.ntmps65
    go_wp2
    go_ret2
    exact ⟨rfl, rfl⟩
  · by_cases h4 : 4 < k
    · clear h
      go_enter Try.func65, Try.ntmps65
      go_wp2
      go_ret2
      exact ⟨rfl, rfl⟩
    · by_cases h5 : p < 0
      · clear h
        go_enter Try.func65, Try.ntmps65
        go_wp2
        go_ret2
        exact ⟨rfl, rfl⟩
      · by_cases h6 : (la : Int) < p
        · clear h
          go_enter Try.func65, Try.ntmps65
          go_wp2
          go_ret2
          exact ⟨rfl, rfl⟩
        · have h7 : (la : Int) - p < k := by omega
          clear h
          go_enter Try.func65, Try.ntmps65
          go_wp2
          go_ret2
          exact ⟨rfl, rfl⟩


/-- What Put answers. -/
def putL (k n : Int) : List Int := if isW k && hasW n k then digs k.toNat n else []
theorem putL_yes {m : Nat} {n : Int} (h1 : 1 ≤ m) (h4 : m ≤ 4) (h : hasW n m = true) : putL m n = digs m n := by
  simp [putL, isW_true (n := (m : Int)) (by omega), h]
theorem putL_no {k n : Int} (h : isW k = false ∨ hasW n k = false) : putL k n = [] := by
  rcases h with h | h <;> simp [putL, h]
structure SliceOf (w0 : World) (zs : List Int) (n : Nat) (a : Option Addr) (c : Nat) (w' : World) : Prop where
  bys : Bys w' a n zs
  nil : a = none → n = 0 ∧ c = 0
  bel : Below w0.heap.size w0 w'
/-- A slice that holds zs. -/
def RetB (w0 : World) (zs : List Int) (e : Ending) (w' : World) : Prop := ∃ a c, e = .returned (.slice a zs.length c) ∧ SliceOf w0 zs zs.length a c w'
theorem RetB.own {w0 w' : World} {v : Value} {n : Nat} {zs : List Int} (h : Own w' w0.heap.size v n zs) (hb : Below w0.heap.size w0 w') : RetB w0 zs (.returned v) w' := by
  obtain ⟨a, c, rfl, h1, h2, _⟩ := h.form
  have := h.len
  subst this
  exact ⟨a, c, rfl, h2, h1, hb⟩
theorem hasW_quo {m : Nat} {n : Int} (h1 : 1 ≤ m) (h4 : m ≤ 4) (h0 : 0 ≤ n) : (0 < n / 256 ^ m ↔ hasW n m = false) := by
  unfold hasW
  rcases (by omega : m = 1 ∨ m = 2 ∨ m = 3 ∨ m = 4) with rfl | rfl | rfl | rfl <;> simp <;> omega

theorem refPut_fun (k n : Int) (w : World) (hn : n ≤ 9223372036854775807) : Calls Try.prog 97 #[.int .i64 k, .int .i64 n] w (RetB w (putL k n)) := by
  by_cases h : (1 ≤ k ∧ k ≤ 4) ∧ 0 ≤ n
  · obtain ⟨⟨a, b⟩, h0⟩ := h
    obtain ⟨m, rfl⟩ := Int.eq_ofNat_of_zero_le (by omega : 0 ≤ k)
    refine (refPut_long m n w (by omega) (by omega) h0 hn).mono fun e w' ⟨hy, hno, hl⟩ => ?_
    by_cases hq : 0 < n / 256 ^ m
    · rw [hy hq, putL_no (.inr ((hasW_quo (by omega) (by omega) h0).1 hq))]
      exact ⟨none, 0, rfl, Bys.none _, (fun _ => ⟨rfl, rfl⟩), hl⟩
    · obtain ⟨v, rfl, hown⟩ := hno hq
      have h2 : hasW n m = true := by
        cases hk : hasW n m
        · exact absurd ((hasW_quo (by omega) (by omega) h0).2 hk) hq
        · rfl
      rw [putL_yes (by omega) (by omega) h2]
      exact RetB.own hown hl
  · have h' : isW k = false ∨ hasW n k = false := by
      by_cases hk : 1 ≤ k ∧ k ≤ 4
      · right; simp only [hasW, decide_eq_false_iff_not]; omega
      · exact .inl (isW_false hk)
    rw [putL_no h']
    exact (refPut_none k n w (by omega)).mono fun e w' ⟨he, hl⟩ => by subst he; exact ⟨_, 0, rfl, Bys.none _, (fun h => by cases h), hl⟩

/-- What Get answers. -/
def getO (la : Nat) (p k : Int) : Bool := decide ((1 ≤ k ∧ k ≤ 4) ∧ 0 ≤ p ∧ p ≤ la - k)
def getV (la : Nat) (x : List Int) (p k : Int) : Int := if getO la p k then getN x p.toNat k.toNat else 0
theorem getO_yes {la m p : Nat} (h1 : 1 ≤ m) (h4 : m ≤ 4) (h : p + m ≤ la) : getO la p m = true := by
  unfold getO
  rw [decide_eq_true_eq]
  omega
theorem get_fun (a : Option Addr) (la ca : Nat) (p k : Int) (x : List Int) (w : World) (hx : Bys w a la x) (hn : la ≤ 1000000000000) :
    Calls Try.prog 135 #[.slice a la ca, .int .i64 p, .int .i64 k] w fun e w' => e = .returned (.tuple #[.int .i64 (getV la x p k), .bool (getO la p k)]) ∧ w = w' := by
  by_cases h : (1 ≤ k ∧ k ≤ 4) ∧ 0 ≤ p ∧ p ≤ la - k
  · have ho : getO la p k = true := by simp only [getO, decide_eq_true_eq]; exact h
    obtain ⟨m, rfl⟩ := Int.eq_ofNat_of_zero_le (by omega : 0 ≤ k)
    obtain ⟨q, rfl⟩ := Int.eq_ofNat_of_zero_le h.2.1
    rw [getV, if_pos ho, ho]
    exact get_yes a la ca q m x w hx hn (by omega) (by omega) (by omega)
  · have ho : getO la p k = false := by simp only [getO, decide_eq_false_iff_not]; exact h
    rw [getV, if_neg (by rw [ho]; decide), ho]
    exact get_no a la ca p k w hn (by omega)
theorem refGet_fun (a : Option Addr) (la ca : Nat) (p k : Int) (x : List Int) (w : World) (hx : Bys w a la x) (hn : la ≤ 1000000000000) :
    Calls Try.prog 65 #[.slice a la ca, .int .i64 p, .int .i64 k] w fun e w' => e = .returned (.tuple #[.int .i64 (getV la x p k), .bool (getO la p k)]) ∧ w = w' := by
  by_cases h : (1 ≤ k ∧ k ≤ 4) ∧ 0 ≤ p ∧ p ≤ la - k
  · have ho : getO la p k = true := by simp only [getO, decide_eq_true_eq]; exact h
    obtain ⟨m, rfl⟩ := Int.eq_ofNat_of_zero_le (by omega : 0 ≤ k)
    obtain ⟨q, rfl⟩ := Int.eq_ofNat_of_zero_le h.2.1
    rw [getV, if_pos ho, ho]
    exact refGet_yes a la ca q m x w hx hn (by omega) (by omega) (by omega)
  · have ho : getO la p k = false := by simp only [getO, decide_eq_false_iff_not]; exact h
    rw [getV, if_neg (by rw [ho]; decide), ho]
    exact refGet_no a la ca p k w (by omega)


def noughtB (zs : List Int) : Bool := zs.all (· == 0)
def Zeros (zs : List Int) (k : Nat) : Prop := ∀ j, j < k → byt zs j = 0
theorem Zeros.zero (zs : List Int) : Zeros zs 0 := fun _ h => by omega
theorem Zeros.succ {zs : List Int} {k : Nat} (h : Zeros zs k) (e : byt zs k = 0) : Zeros zs (k + 1) := fun j hj => by
  by_cases hk : j = k
  · rw [hk]; exact e
  · exact h j (by omega)
theorem noughtB_true {zs : List Int} (h : ∀ j, j < zs.length → byt zs j = 0) : noughtB zs = true := by
  unfold noughtB
  rw [List.all_eq_true]
  intro z hz
  obtain ⟨i, hi, rfl⟩ := List.getElem_of_mem hz
  have := h i hi
  simpa [byt, List.getD, hi] using this
theorem noughtB_false {zs : List Int} {k : Nat} (hk : k < zs.length) (h : byt zs k ≠ 0) : noughtB zs = false := by
  unfold noughtB
  rw [List.all_eq_false]
  refine ⟨zs[k], List.getElem_mem hk, ?_⟩
  simpa [byt, List.getD, hk] using h

theorem refNought_any (a : Option Addr) (la ca : Nat) (x : List Int) (w : World) (hx : Bys w a la x) (hn : la ≤ 1000000000000) :
    Calls Try.prog 66 #[.slice a la ca] w fun e w' => e = .returned (.bool (noughtB x)) ∧ w = w' := by
  go_enter Try.func66, Try.ntmps66
  go_wp2
  go_loop [3] (fun i => ∃ k : Nat, k ≤ la ∧ i = .int .i64 k ∧ Zeros x k) (fun i => la - (RowKit.intOf i).toNat)
  case atStart => exact ⟨0, Nat.zero_le _, rfl, Zeros.zero _⟩
  case round =>
    obtain ⟨k, hk, rfl, hf⟩ := hrel
    have hxl : Hid (x.length = la) := hx.len
    by_cases hlt : k < la
    · rcases hx.place with h0 | ⟨ba, oa, rfl, _, hca⟩
      · omega
      have g1 := hca k hlt
      clear hca hx
      go_wp2
      · have hs : Hid (noughtB x = false) := noughtB_false (by rw [hxl.out]; exact hlt) (by simpa using (by assumption : (byt x k != 0) = true))
        clear hxl hf
        go_ret
        exact ⟨ret_bool hs.out.symm, rfl⟩
      · go_round
        case rel => exact ⟨k + 1, by omega, by go_num, hf.succ (by simpa using (by assumption : (byt x k != 0) = false))⟩
        case measure => simp [RowKit.intOf]; omega
    · obtain rfl : k = la := by omega
      have hs : Hid (noughtB x = true) := noughtB_true (by rw [hxl.out]; exact hf)
      clear hx hf hxl
      go_wp2
      go_ret
      exact ⟨ret_bool hs.out.symm, rfl⟩


/-- The number at a place (0 behind the end). -/
def num (ks : List Int) (i : Nat) : Int := ks.getD i 0

/-- The slice at a, of n numbers, holds ks. -/
structure Ins (w : World) (a : Option Addr) (n : Nat) (ks : List Int) : Prop where
  len : ks.length = n
  place : n = 0 ∨ ∃ b off, a = some ⟨b, off, none⟩ ∧ b < w.heap.size ∧ ∀ i, i < n → w.cell? ⟨b, off + i, none⟩ = some (.int .i64 (num ks i))
theorem Ins.below {w w' : World} {a : Option Addr} {n : Nat} {ks : List Int} (h : Ins w a n ks) {B : Nat} (hB : w.heap.size ≤ B) (hb : Below B w w') : Ins w' a n ks := by
  refine ⟨h.len, ?_⟩
  rcases h.place with h0 | ⟨b, off, ha, hlt, hc⟩
  · exact .inl h0
  · exact .inr ⟨b, off, ha, Nat.lt_of_lt_of_le hlt hb.size, fun i hi => (hb.cell (p := ⟨b, off + i, none⟩) (by show b < B; omega)).trans (hc i hi)⟩
theorem Ins.next {w w' : World} {a : Option Addr} {n : Nat} {ks : List Int} (h : Ins w a n ks) (hb : Below w.heap.size w w') : Ins w' a n ks := h.below (Nat.le_refl _) hb
theorem Ins.alloc {w : World} {a : Option Addr} {n : Nat} {ks : List Int} (h : Ins w a n ks) (o : Obj) : Ins (w.alloc o) a n ks := h.next ((Below.refl _ _).alloc (Nat.le_refl _) o)
theorem Ins.at {w : World} {a : Option Addr} {n : Nat} {ks : List Int} (h : Ins w a n ks) (hn : 0 < n) : ∃ b off, a = some ⟨b, off, none⟩ ∧ b < w.heap.size ∧ ∀ i, i < n → w.cell? ⟨b, off + i, none⟩ = some (.int .i64 (num ks i)) := by
  rcases h.place with h0 | h1
  · omega
  · exact h1
theorem ins_one (w : World) (x : Int) : Ins (w.alloc (.cells #[.int .i64 x] 3 (0, 0))) (some ⟨w.heap.size, 0, none⟩) 1 [x] :=
  ⟨rfl, .inr ⟨_, 0, rfl, by simp, fun i hi => by
    rcases (by omega : i = 0) with rfl
    simp [num]⟩⟩
theorem ins_one' {w : World} {g : Nat} (x : Int) (h : w.heap.size = g) : Ins (w.alloc (.cells #[.int .i64 x] 3 (0, 0))) (some ⟨g, 0, none⟩) 1 [x] := by
  subst h
  exact ins_one w x
theorem info3 : (Try.prog.info? 3).map (fun i => (i.zero, i.size, i.bytes)) = some (some (.int .i64 0), 1, 8) := by kernel_rfl

/-- A slice of numbers of the call's own. -/
def OwnI (w : World) (B : Nat) (v : Value) (n : Nat) (ks : List Int) : Prop := w.ownsRow B 3 1 v n (ks.map (Value.int .i64))
theorem OwnI.below {w w' : World} {B : Nat} {v : Value} {n : Nat} {ks : List Int} (h : OwnI w B v n ks) {C : Nat} (hC : w.heap.size ≤ C) (hb : Below C w w') : OwnI w' B v n ks :=
  h.kept (row := none) ⟨hb.os, hb.tape, hb.output, hb.size, fun k hk _ => hb.block k (by omega)⟩ (by cases v.ownBlock <;> simp)
theorem OwnI.next {w w' : World} {B : Nat} {v : Value} {n : Nat} {ks : List Int} (h : OwnI w B v n ks) (hb : Below w.heap.size w w') : OwnI w' B v n ks := h.below (Nat.le_refl _) hb
theorem OwnI.alloc {w : World} {B : Nat} {v : Value} {n : Nat} {ks : List Int} (h : OwnI w B v n ks) (o : Obj) : OwnI (w.alloc o) B v n ks := h.next ((Below.refl _ _).alloc (Nat.le_refl _) o)
theorem ownI_none (w : World) (B : Nat) (hB : B ≤ w.heap.size) : OwnI (w.alloc (.cells #[] 3)) B (.slice (some ⟨w.heap.size, 0, none⟩) 0 0) 0 [] := World.ownsRow_lit w #[] 0 hB (Nat.zero_le _) rfl
theorem ownI_nil (w : World) (B : Nat) : OwnI w B (.slice none 0 0) 0 [] := World.ownsRow_nil _ _ _ _
theorem OwnI.ins {w : World} {B : Nat} {v : Value} {n : Nat} {ks : List Int} (h : OwnI w B v n ks) : ∃ a c, v = .slice a n c ∧ Ins w a n ks ∧ n ≤ c ∧ c ≤ 9223372036854775807 ∧ (∀ x, a = some x → B ≤ x.block ∧ x.block < w.heap.size) := by
  rcases h.2 with ⟨rfl, rfl⟩ | ⟨g, cap, cur, rfl, hb, hg, hnc, hm, hsz, htake⟩
  · have := h.1
    simp at this
    exact ⟨none, 0, rfl, ⟨by simpa using this, .inl rfl⟩, Nat.le_refl _, by omega, (fun x hx => by cases hx)⟩
  · have hl : ks.length = n := by have := h.1; simpa using this
    refine ⟨some ⟨g, 0, none⟩, cap, rfl, ⟨hl, .inr ⟨g, 0, rfl, lt_of_block hg, fun i hi => ?_⟩⟩, hnc, by unfold maxLen at hm; omega, fun x hx => by cases hx; exact ⟨hb, lt_of_block hg⟩⟩
    have hc := h.cellAt i (by omega)
    rw [Nat.zero_add, hc]
    simp [num, List.getD, show i < ks.length by omega]

/-- 'append(s, x)' of one number, s of the call's own; what lies in other blocks is as it was. -/
theorem wpList_api {w : World} {ops : Array Oper} {rest : List Oper} {o : Oper} {a : Act} {Q : Exit → Act → World → Prop} (hgd : o.guard = none) (s x : Operand)
    (ho : o.op = .call { callee := .builtin .append, args := #[s, x], argTypes := #[25, 25] })
    (B : Nat) (v : Value) (n : Nat) (ks : List Int) (hs : a.eval s = v) (hown : OwnI w B v n ks) (g : Nat) (z : Int) (hx : a.eval x = .slice (some ⟨g, 0, none⟩) 1 1) (hg : w.cell? ⟨g, 0, none⟩ = some (.int .i64 z))
    (hn : n + 1 ≤ 1000000000000) (hB : B ≤ w.heap.size) (w0 : World) (hb : Below B w0 w)
    (h : ∀ v' w', OwnI w' B v' (n + 1) (ks ++ [z]) → Below B w0 w' → wpList Try.prog ops Q rest (a.put o.dst v') w') : wpList Try.prog ops Q (o :: rest) a w := by
  obtain ⟨i0, hi, hz0, hz1, hz2⟩ := info_parts info3
  refine wpList_append_own w hgd s x 25 ho B 3 i0 (.int .i64 0) 1 8 Try.underlying25 hi hz0 hz1 hz2 rfl (by decide) v n _ hs hown ⟨g, 0, none⟩ 1 1 [.int .i64 z] hx rfl ?_ ?_ (by unfold maxLen; omega) (by omega) hB ?_
  · intro j u hj
    cases j with
    | zero =>
      simp at hj
      subst hj
      exact hg
    | succ j => simp at hj
  · intro u hu
    rw [List.mem_singleton.1 hu]
    rfl
  · intro v' w' hown' hgrow _
    exact h v' w' (by unfold OwnI; rw [List.map_append]; exact hown') (hb.grown hgrow hB fun k hk => (hown.lt k hk).1)

end Go.Proofs.Ytegcjpocdfmpfaa
