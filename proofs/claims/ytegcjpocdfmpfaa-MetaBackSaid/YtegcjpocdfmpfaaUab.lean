/-
  Plain numbers: a number's bytes, the lowest first.
-/
import Derived.Test.YtegcjpocdfmpfaaUaa
import Derived.Deep.AppendLies
set_option linter.unusedVariables false
set_option linter.unusedSimpArgs false
set_option maxRecDepth 100000
set_option maxHeartbeats 16000000
namespace Go.Proofs.Ytegcjpocdfmpfaa
open Go.RowKit

def digs : Nat → Int → List Int
  | 0, _ => []
  | m + 1, n => n % 256 :: digs m (n / 256)
theorem digs_len (m : Nat) (n : Int) : (digs m n).length = m := by
  induction m generalizing n with
  | zero => rfl
  | succ m ih => simp [digs, ih]
theorem digs_small (m : Nat) (n : Int) : AllB (digs m n) := by
  induction m generalizing n with
  | zero => intro z hz; cases hz
  | succ m ih =>
    intro z hz
    rcases List.mem_cons.1 hz with rfl | hz
    · omega
    · exact ih _ z hz
theorem byt_digs (m : Nat) (n : Int) (i : Nat) (h : i < m) : byt (digs m n) i = n / 256 ^ i % 256 := by
  induction m generalizing n i with
  | zero => omega
  | succ m ih =>
    cases i with
    | zero => simp [digs, byt]
    | succ i =>
      have := ih (n / 256) i (by omega)
      rw [show byt (digs (m + 1) n) (i + 1) = byt (digs m (n / 256)) i from rfl, this, Int.pow_succ', Int.ediv_ediv_of_nonneg (by omega)]

theorem dig_at {m k : Nat} (n : Int) (h : k < m) : n / 2 ^ (8 * k) % 256 = byt (digs m n) k := by
  rw [byt_digs m n k h, Int.pow_mul]
  rfl

theorem digs_snoc (m : Nat) (n : Int) : digs (m + 1) n = digs m n ++ [n / 256 ^ m % 256] := by
  induction m generalizing n with
  | zero => simp [digs]
  | succ m ih =>
    rw [digs, ih (n / 256), digs, Int.pow_succ', Int.ediv_ediv_of_nonneg (by omega)]
    rfl

/-- The number whose bytes stand at p .. p + m - 1. -/
def getN (x : List Int) : Nat → Nat → Int
  | _, 0 => 0
  | p, m + 1 => byt x p + 256 * getN x (p + 1) m
theorem getN_top (x : List Int) (p k : Nat) : getN x p (k + 1) = getN x p k + byt x (p + k) * 256 ^ k := by
  induction k generalizing p with
  | zero => simp [getN]
  | succ k ih =>
    rw [getN, ih (p + 1), getN, Int.pow_succ, show p + 1 + k = p + (k + 1) by omega, Int.mul_add, Int.mul_comm (256 ^ k) 256, Int.mul_left_comm (byt x (p + (k + 1))) 256]
    omega
theorem getN_bd {x : List Int} (hx : AllB x) (p k : Nat) : 0 ≤ getN x p k ∧ getN x p k < 256 ^ k := by
  induction k generalizing p with
  | zero => simp [getN]
  | succ k ih =>
    have h1 := ih (p + 1)
    have h2 := byt_bd hx p
    rw [getN, Int.pow_succ]
    omega

theorem i64_or_nat (a b : Nat) (ha : a < 9223372036854775808) (hb : b < 9223372036854775808) : bits .or .i64 (a : Int) (b : Int) = ((a ||| b : Nat) : Int) := by
  have hx : a ||| b < 2 ^ 63 := Nat.or_lt_two_pow (by omega) (by omega)
  have h1 : (BitVec.ofInt 64 (a : Int)).toNat = a := by
    rw [BitVec.ofInt_natCast, BitVec.toNat_ofNat]; exact Nat.mod_eq_of_lt (by omega)
  have h2 : (BitVec.ofInt 64 (b : Int)).toNat = b := by
    rw [BitVec.ofInt_natCast, BitVec.toNat_ofNat]; exact Nat.mod_eq_of_lt (by omega)
  show IntKind.i64.wrap ((BitVec.ofInt 64 (a : Int) ||| BitVec.ofInt 64 (b : Int)).toNat : Int) = _
  rw [BitVec.toNat_or, h1, h2, IntKind.wrap_i64]
  omega
theorem i64_join (i : Nat) (n b : Nat) (hn : n < 2 ^ i) (hb : b * 2 ^ i < 9223372036854775808) (hn' : n < 9223372036854775808) : bits .or .i64 (n : Int) ((b * 2 ^ i : Nat) : Int) = ((n + b * 2 ^ i : Nat) : Int) := by
  rw [i64_or_nat n _ hn' hb, Nat.or_comm, nat_join i _ n (Nat.mul_mod_left _ _) hn, Nat.add_comm]
theorem or_at {n b : Int} {k : Nat} (hk : k < 4) (h0 : 0 ≤ n) (h1 : n < 256 ^ k) (b0 : 0 ≤ b) (b1 : b ≤ 255) : bits .or .i64 n (wrap64 (b * 2 ^ (8 * k))) = n + b * 256 ^ k := by
  obtain ⟨n', rfl⟩ := Int.eq_ofNat_of_zero_le h0
  obtain ⟨b', rfl⟩ := Int.eq_ofNat_of_zero_le b0
  have hp : (256 : Int) ^ k = 2 ^ (8 * k) := by rw [Int.pow_mul]; rfl
  rw [hp] at h1 ⊢
  have hq : (2 : Nat) ^ (8 * k) ≤ 16777216 := by
    rcases (by omega : k = 0 ∨ k = 1 ∨ k = 2 ∨ k = 3) with rfl | rfl | rfl | rfl <;> decide
  have hc : ((2 : Int) ^ (8 * k)) = ((2 ^ (8 * k) : Nat) : Int) := by simp
  rw [hc] at h1 ⊢
  generalize hP : (2 : Nat) ^ (8 * k) = P at *
  have hm : b' * P ≤ 255 * 16777216 := Nat.mul_le_mul (by omega) hq
  rw [← Int.natCast_mul, IntWalk.wrap64_in _ (by omega), ← Int.natCast_add]
  subst hP
  exact i64_join (8 * k) n' b' (by omega) (by omega) (by omega)


def isW (n : Int) : Bool := decide (1 ≤ n ∧ n ≤ 4)
theorem isW_true {n : Int} (h : 1 ≤ n ∧ n ≤ 4) : isW n = true := by simp [isW, h]
theorem isW_false {n : Int} (h : ¬ (1 ≤ n ∧ n ≤ 4)) : isW n = false := by simp only [isW, decide_eq_false_iff_not]; exact h
def hasW (n k : Int) : Bool := decide (0 ≤ n ∧ n < 2 ^ (8 * k).toNat)
theorem lim_wrap {k : Int} (h1 : 1 ≤ k) (h4 : k ≤ 4) : wrap64 (2 ^ (8 * k).toNat) = 2 ^ (8 * k).toNat := by
  rcases (by omega : k = 1 ∨ k = 2 ∨ k = 3 ∨ k = 4) with rfl | rfl | rfl | rfl <;> simp [wrap64]
theorem lim_le {k : Int} (h1 : 1 ≤ k) (h4 : k ≤ 4) : (2 : Int) ^ (8 * k).toNat ≤ 4294967296 := by
  rcases (by omega : k = 1 ∨ k = 2 ∨ k = 3 ∨ k = 4) with rfl | rfl | rfl | rfl <;> decide
theorem hasW_lt {n k : Int} (h0 : 0 ≤ n) (h1 : 1 ≤ k) (h4 : k ≤ 4) : decide (n < wrap64 (2 ^ (8 * k).toNat)) = hasW n k := by
  rw [lim_wrap h1 h4]; simp [hasW, h0]
theorem hasW_bd {n k : Int} (h : hasW n k = true) (h1 : 1 ≤ k) (h4 : k ≤ 4) : 0 ≤ n ∧ n < 4294967296 := by
  have := lim_le h1 h4
  simp only [hasW, decide_eq_true_eq] at h
  omega

theorem isWidth_any (n : Int) (w : World) : Calls Try.prog 131 #[.int .i64 n] w fun e w' => e = .returned (.bool (isW n)) ∧ w = w' := by
  by_cases h1 : 1 ≤ n
  · by_cases h4 : n ≤ 4
    · have hs : Hid (isW n = true) := isW_true ⟨h1, h4⟩
      go_enter Try.func131, Try.ntmps131
      go_wp2
      go_ret
      exact ⟨ret_bool hs.out.symm, rfl⟩
    · have hs : Hid (isW n = false) := isW_false (by omega)
      go_enter Try.func131, Try.ntmps131
      go_wp2
      go_ret
      exact ⟨ret_bool hs.out.symm, rfl⟩
  · have hs : Hid (isW n = false) := isW_false (by omega)
    go_enter Try.func131, Try.ntmps131
    go_wp2
    go_ret
    exact ⟨ret_bool hs.out.symm, rfl⟩

theorem hasWidth_any (n k : Int) (w : World) (h1 : 1 ≤ k) (h4 : k ≤ 4) : Calls Try.prog 132 #[.int .i64 n, .int .i64 k] w fun e w' => e = .returned (.bool (hasW n k)) ∧ w = w' := by
  by_cases h0 : 0 ≤ n
  · go_enter Try.func132, Try.ntmps132
    go_wp2
    go_ret
    exact ⟨ret_bool (hasW_lt h0 h1 h4), rfl⟩
  · have hs : Hid (hasW n k = false) := by show _ = _; simp only [hasW, decide_eq_false_iff_not]; omega
    go_enter Try.func132, Try.ntmps132
    go_wp2
    go_ret
    exact ⟨ret_bool hs.out.symm, rfl⟩


theorem put_yes (m : Nat) (n : Int) (w : World) (h1 : 1 ≤ m) (h4 : m ≤ 4) (hw : hasW n m = true) :
    Calls Try.prog 89 #[.int .i64 m, .int .i64 n] w fun e w' => e = .returned (.slice (some ⟨w.heap.size, 0, none⟩) m m) ∧ Blk w' w.heap.size (digs m n) ∧ Below w.heap.size w w' := by
  have hi : Hid (isW m = true) := isW_true (by omega)
  obtain ⟨hn0, hn1⟩ := hasW_bd hw (by omega) (by omega)
  have hh : Hid (hasW n m = true) := hw
  clear hw
  go_enter Try.func89, Try.ntmps89
  go_wp2_with (first
    | (go_at_call 131; refine (isWidth_any _ _).mono ?_; rintro e w' ⟨rfl, rfl⟩; rw [hi.out])
    | (go_at_call 132; refine (hasWidth_any _ _ _ (by omega) (by omega)).mono ?_; rintro e w' ⟨rfl, rfl⟩; rw [hh.out])
    | (at_make; refine wpList_mk rfl _ _ rfl _ _ _ _ m rfl rfl rfl rfl (by omega) ?_; intro w1 hb1 hl1))
  go_loopw [20] (fun i wr => ∃ (k : Nat) (zs : List Int), k ≤ m ∧ i = .int .i64 k ∧ Blk wr w.heap.size zs ∧ Mix zs (List.replicate m 0) (digs m n) k ∧ Below w.heap.size w wr)
    (fun i _ => m - (RowKit.intOf i).toNat)
  case atStart => exact ⟨0, _, Nat.zero_le _, rfl, hb1, Mix.start (by rw [digs_len]; simp), hl1⟩
  case round =>
    obtain ⟨k, zs, hk, rfl, hb, hmix, hl⟩ := hrel
    clear hb1 hl1
    by_cases hlt : k < m
    · have hf := hb.free k
      have hc : wr.cell? ⟨w.heap.size, k, none⟩ = some (.int .u8 (byt zs k)) := hb.cell (by rw [hmix.len, digs_len]; exact hlt)
      go_wp2
      go_roundw
      case rel => exact ⟨k + 1, _, by omega, by go_num, hb.set k _, hmix.set (by rw [digs_len]; exact hlt) (dig_at n hlt), hl.setCell (Nat.le_refl _) _⟩
      case measure => simp [RowKit.intOf]; omega
    · obtain rfl : k = m := by omega
      have hz : Hid (zs = digs k n) := hmix.done (fun j h h' => by rw [digs_len] at h'; omega)
      go_wp2
      go_ret
      exact ⟨rfl, by rw [← hz.out]; exact hb, hl⟩


theorem get_yes (a : Option Addr) (la ca p m : Nat) (x : List Int) (w : World) (hx : Bys w a la x) (hn : la ≤ 1000000000000) (h1 : 1 ≤ m) (h4 : m ≤ 4) (hp : p + m ≤ la) :
    Calls Try.prog 135 #[.slice a la ca, .int .i64 p, .int .i64 m] w fun e w' => e = .returned (.tuple #[.int .i64 (getN x p m), .bool true]) ∧ w = w' := by
  have hi : Hid (isW m = true) := isW_true (by omega)
  rcases hx.place with h0 | ⟨ba, oa, rfl, _, hca⟩
  · omega
  have hs : AllB x := hx.small
  clear hx
  go_enter Try.func135, Try.ntmps135
  go_wp2_with (first
    | (go_at_call 131; refine (isWidth_any _ _).mono ?_; rintro e w' ⟨rfl, rfl⟩; rw [hi.out]))
  go_loop [8, 26] (fun v i => ∃ k : Nat, k ≤ m ∧ i = .int .i64 k ∧ v = .int .i64 (getN x p k))
    (fun _ i => m - (RowKit.intOf i).toNat)
  case atStart => exact ⟨0, Nat.zero_le _, rfl, rfl⟩
  case round =>
    obtain ⟨k, hk, rfl, rfl⟩ := hrel
    by_cases hlt : k < m
    · have g1 := hca (p + k) (by omega)
      have b1 := byt_bd hs (p + k)
      have b2 := getN_bd hs p k
      have b3 : ((p + k : Nat) : Int) < la := by omega
      clear hca
      go_wp2
      go_round
      case rel => exact ⟨k + 1, by omega, by go_num, val_int (by rw [getN_top]; exact or_at (by omega) b2.1 b2.2 b1.1 b1.2)⟩
      case measure => simp [RowKit.intOf]; omega
    · obtain rfl : k = m := by omega
      clear hca
      go_wp2
      go_ret2
      exact ⟨rfl, rfl⟩

theorem get_no (a : Option Addr) (la ca : Nat) (p k : Int) (w : World) (hn : la ≤ 1000000000000) (h : ¬ (1 ≤ k ∧ k ≤ 4) ∨ p < 0 ∨ la - k < p) :
    Calls Try.prog 135 #[.slice a la ca, .int .i64 p, .int .i64 k] w fun e w' => e = .returned (.tuple #[.int .i64 0, .bool false]) ∧ w = w' := by
  by_cases hw : 1 ≤ k ∧ k ≤ 4
  · have hi : Hid (isW k = true) := isW_true hw
    obtain ⟨h1, h4⟩ := hw
    have h' : p < 0 ∨ la - k < p := by omega
    clear h
    by_cases hp : p < 0
    · clear h'
      go_enter Try.func135, Try.ntmps135
      go_wp2_with (first
        | (go_at_call 131; refine (isWidth_any _ _).mono ?_; rintro e w' ⟨rfl, rfl⟩; rw [hi.out]))
      go_ret2
      exact ⟨rfl, rfl⟩
    · have hp' : (la : Int) - k < p := by omega
      clear h'
      go_enter Try.func135, Try.ntmps135
      go_wp2_with (first
        | (go_at_call 131; refine (isWidth_any _ _).mono ?_; rintro e w' ⟨rfl, rfl⟩; rw [hi.out]))
      go_ret2
      exact ⟨rfl, rfl⟩
  · have hi : Hid (isW k = false) := isW_false hw
    clear h hw
    go_enter Try.func135, Try.ntmps135
    go_wp2_with (first
      | (go_at_call 131; refine (isWidth_any _ _).mono ?_; rintro e w' ⟨rfl, rfl⟩; rw [hi.out]))
    go_ret2
    exact ⟨rfl, rfl⟩


def padL (x : List Int) (n : Nat) : List Int := x ++ List.replicate (n - x.length) 0
theorem padL_len {x : List Int} {n : Nat} (h : x.length ≤ n) : (padL x n).length = n := by simp [padL]; omega
theorem padL_small {x : List Int} (hx : AllB x) (n : Nat) : AllB (padL x n) := hx.app (AllB.zeros _)

theorem pad_yes (a : Option Addr) (la ca n : Nat) (x : List Int) (w : World) (hx : Bys w a la x) (h : la ≤ n) (hn : n ≤ 65536) :
    Calls Try.prog 90 #[.slice a la ca, .int .i64 n] w fun e w' => e = .returned (.tuple #[.slice (some ⟨w.heap.size, 0, none⟩) n n, .bool true]) ∧ Blk w' w.heap.size (padL x n) ∧ Below w.heap.size w w' := by
  have HX : Hid (x.length = la) := hx.len
  go_enter Try.func90, Try.ntmps90
  go_wp2_with (first
    | (at_make; go_must (refine wpList_mk rfl _ _ rfl _ _ _ _ n rfl rfl rfl rfl (by omega) ?_); intro w1 hb1 hl1)
    | (with_reducible refine wpList_cp rfl (.tmp 17) (.tmp 18) rfl w.heap.size n n la ca a rfl rfl _ x hb1 (hx.below (Nat.le_refl _) hl1) (by simp) h w.heap.size w hl1 (Nat.le_refl _) ?_; intro w2 hb2 hl2))
  go_ret2
  refine ⟨rfl, ?_, hl2⟩
  rwa [List.drop_replicate, ← HX.out] at hb2


theorem quo_step {n q : Int} {k : Nat} (h : q = n / 256 ^ k) : Hid (q / 256 = n / 256 ^ (k + 1)) := by
  show _ = _
  rw [h, Int.pow_succ, Int.ediv_ediv_of_nonneg (Int.le_of_lt (Int.pow_pos (by omega)))]

def PutLong (w : World) (m : Nat) (n : Int) (e : Ending) (w' : World) : Prop :=
  (0 < n / 256 ^ m → e = .returned (.slice none 0 0)) ∧ (¬ 0 < n / 256 ^ m → ∃ v, e = .returned v ∧ Own w' w.heap.size v m (digs m n)) ∧ Below w.heap.size w w'

theorem refPut_long (m : Nat) (n : Int) (w : World) (h1 : 1 ≤ m) (h4 : m ≤ 4) (hn0 : 0 ≤ n) (hn1 : n ≤ 9223372036854775807) :
    Calls Try.prog 97 #[.int .i64 m, .int .i64 n] w (PutLong w m n) := by
  go_enter Try.func97, Try.ntmps97
  go_wp2
  go_loopw [1, 5, 6] (fun sn out i wr => ∃ (k : Nat) (q : Int), k ≤ m ∧ i = .int .i64 k ∧ sn = .int .i64 q ∧ Hid (q = n / 256 ^ k) ∧ 0 ≤ q ∧ q ≤ 9223372036854775807 ∧ Own wr w.heap.size out k (digs k n) ∧ Below w.heap.size w wr)
    (fun _ _ i _ => m - (RowKit.intOf i).toNat)
  case atStart => exact ⟨0, n, Nat.zero_le _, rfl, rfl, by show _ = _; simp, hn0, hn1, own_none w _ (Nat.le_refl _), (Below.refl _ _).alloc (Nat.le_refl _) _⟩
  case round =>
    obtain ⟨k, q, hk, rfl, rfl, hq, hq0, hq1, hown, hl⟩ := hrel
    by_cases hlt : k < m
    · go_wp2_with (at_builtin; go_must (refine wpList_ap rfl (.tmp 24) (.tmp 28) rfl w.heap.size _ k _ rfl (hown.below (Nat.le_refl _) ((Below.refl _ _).alloc (Nat.le_refl _) _)) _ 1 1 [q % 256] rfl (bys_one wr (by omega)) (fun h => by cases h) (by omega) (by have := hl.size; simp; omega) w (hl.alloc hl.size _) ?_); intro v w1 hown1 hb1)
      go_roundw
      case rel => exact ⟨k + 1, q / 256, by omega, by go_num, rfl, quo_step hq.out, by omega, by omega, by rw [digs_snoc, ← hq.out]; exact hown1, hb1⟩
      case measure => simp [RowKit.intOf]; omega
    · obtain rfl : k = m := by omega
      go_wp2
      · have hpos : 0 < q := by assumption
        go_ret
        exact ⟨fun _ => rfl, fun h => absurd (by rw [← hq.out]; exact hpos) h, hl⟩
      · have hneg : q ≤ 0 := by assumption
        go_ret
        exact ⟨fun h => absurd (by rw [← hq.out] at h; exact h) (by omega), fun _ => ⟨_, rfl, hown⟩, hl⟩

/-- No such width, or a number below 0: an empty slice. -/
def PutEmpty (w : World) (e : Ending) (w' : World) : Prop := e = .returned (.slice (some ⟨w.heap.size, 0, none⟩) 0 0) ∧ Below w.heap.size w w'

theorem refPut_none (k n : Int) (w : World) (h : ¬ (1 ≤ k ∧ k ≤ 4) ∨ n < 0) :
    Calls Try.prog 97 #[.int .i64 k, .int .i64 n] w (PutEmpty w) := by
  by_cases h1 : k < 1
  · clear h
    go_enter Try.func97, Try.ntmps97
    go_wp2
    go_ret
    exact ⟨rfl, (Below.refl _ _).alloc (Nat.le_refl _) _⟩
  · by_cases h4 : 4 < k
    · clear h
      go_enter Try.func97, Try.ntmps97
      go_wp2
      go_ret
      exact ⟨rfl, (Below.refl _ _).alloc (Nat.le_refl _) _⟩
    · have h2 : n < 0 := by omega
      clear h
      go_enter Try.func97, Try.ntmps97
      go_wp2
      go_ret
      exact ⟨rfl, (Below.refl _ _).alloc (Nat.le_refl _) _⟩


/-- What Put answers. -/
def putL (k n : Int) : List Int := if isW k && hasW n k then digs k.toNat n else []
theorem putL_yes {m : Nat} {n : Int} (h1 : 1 ≤ m) (h4 : m ≤ 4) (h : hasW n m = true) : putL m n = digs m n := by
  simp [putL, isW_true (n := (m : Int)) (by omega), h]
theorem putL_no {k n : Int} (h : isW k = false ∨ hasW n k = false) : putL k n = [] := by
  rcases h with h | h <;> simp [putL, h]
structure SliceOf (w0 : World) (zs : List Int) (n : Nat) (a : Option Addr) (c : Nat) (w' : World) : Prop where
  bys : Bys w' a n zs
  nil : a = none → n = 0 ∧ c = 0
  bel : Below w0.heap.size w0 w'
/-- A slice that holds zs. -/
def RetB (w0 : World) (zs : List Int) (e : Ending) (w' : World) : Prop := ∃ a c, e = .returned (.slice a zs.length c) ∧ SliceOf w0 zs zs.length a c w'
theorem RetB.own {w0 w' : World} {v : Value} {n : Nat} {zs : List Int} (h : Own w' w0.heap.size v n zs) (hb : Below w0.heap.size w0 w') : RetB w0 zs (.returned v) w' := by
  obtain ⟨a, c, rfl, h1, h2, _⟩ := h.form
  have := h.len
  subst this
  exact ⟨a, c, rfl, h2, h1, hb⟩
theorem hasW_quo {m : Nat} {n : Int} (h1 : 1 ≤ m) (h4 : m ≤ 4) (h0 : 0 ≤ n) : (0 < n / 256 ^ m ↔ hasW n m = false) := by
  unfold hasW
  rcases (by omega : m = 1 ∨ m = 2 ∨ m = 3 ∨ m = 4) with rfl | rfl | rfl | rfl <;> simp <;> omega

theorem refPut_fun (k n : Int) (w : World) (hn : n ≤ 9223372036854775807) : Calls Try.prog 97 #[.int .i64 k, .int .i64 n] w (RetB w (putL k n)) := by
  by_cases h : (1 ≤ k ∧ k ≤ 4) ∧ 0 ≤ n
  · obtain ⟨⟨a, b⟩, h0⟩ := h
    obtain ⟨m, rfl⟩ := Int.eq_ofNat_of_zero_le (by omega : 0 ≤ k)
    refine (refPut_long m n w (by omega) (by omega) h0 hn).mono fun e w' ⟨hy, hno, hl⟩ => ?_
    by_cases hq : 0 < n / 256 ^ m
    · rw [hy hq, putL_no (.inr ((hasW_quo (by omega) (by omega) h0).1 hq))]
      exact ⟨none, 0, rfl, Bys.none _, (fun _ => ⟨rfl, rfl⟩), hl⟩
    · obtain ⟨v, rfl, hown⟩ := hno hq
      have h2 : hasW n m = true := by
        cases hk : hasW n m
        · exact absurd ((hasW_quo (by omega) (by omega) h0).2 hk) hq
        · rfl
      rw [putL_yes (by omega) (by omega) h2]
      exact RetB.own hown hl
  · have h' : isW k = false ∨ hasW n k = false := by
      by_cases hk : 1 ≤ k ∧ k ≤ 4
      · right; simp only [hasW, decide_eq_false_iff_not]; omega
      · exact .inl (isW_false hk)
    rw [putL_no h']
    exact (refPut_none k n w (by omega)).mono fun e w' ⟨he, hl⟩ => by subst he; exact ⟨_, 0, rfl, Bys.none _, (fun h => by cases h), hl⟩

/-- What Get answers. -/
def getO (la : Nat) (p k : Int) : Bool := decide ((1 ≤ k ∧ k ≤ 4) ∧ 0 ≤ p ∧ p ≤ la - k)
def getV (la : Nat) (x : List Int) (p k : Int) : Int := if getO la p k then getN x p.toNat k.toNat else 0
theorem getO_yes {la m p : Nat} (h1 : 1 ≤ m) (h4 : m ≤ 4) (h : p + m ≤ la) : getO la p m = true := by
  unfold getO
  rw [decide_eq_true_eq]
  omega
theorem get_fun (a : Option Addr) (la ca : Nat) (p k : Int) (x : List Int) (w : World) (hx : Bys w a la x) (hn : la ≤ 1000000000000) :
    Calls Try.prog 135 #[.slice a la ca, .int .i64 p, .int .i64 k] w fun e w' => e = .returned (.tuple #[.int .i64 (getV la x p k), .bool (getO la p k)]) ∧ w = w' := by
  by_cases h : (1 ≤ k ∧ k ≤ 4) ∧ 0 ≤ p ∧ p ≤ la - k
  · have ho : getO la p k = true := by simp only [getO, decide_eq_true_eq]; exact h
    obtain ⟨m, rfl⟩ := Int.eq_ofNat_of_zero_le (by omega : 0 ≤ k)
    obtain ⟨q, rfl⟩ := Int.eq_ofNat_of_zero_le h.2.1
    rw [getV, if_pos ho, ho]
    exact get_yes a la ca q m x w hx hn (by omega) (by omega) (by omega)
  · have ho : getO la p k = false := by simp only [getO, decide_eq_false_iff_not]; exact h
    rw [getV, if_neg (by rw [ho]; decide), ho]
    exact get_no a la ca p k w hn (by omega)

def noughtB (zs : List Int) : Bool := zs.all (· == 0)

/-- The number at a place (0 behind the end). -/
def num (ks : List Int) (i : Nat) : Int := ks.getD i 0

/-- The slice at a, of n numbers, holds ks. -/
structure Ins (w : World) (a : Option Addr) (n : Nat) (ks : List Int) : Prop where
  len : ks.length = n
  place : n = 0 ∨ ∃ b off, a = some ⟨b, off, none⟩ ∧ b < w.heap.size ∧ ∀ i, i < n → w.cell? ⟨b, off + i, none⟩ = some (.int .i64 (num ks i))
theorem Ins.below {w w' : World} {a : Option Addr} {n : Nat} {ks : List Int} (h : Ins w a n ks) {B : Nat} (hB : w.heap.size ≤ B) (hb : Below B w w') : Ins w' a n ks := by
  refine ⟨h.len, ?_⟩
  rcases h.place with h0 | ⟨b, off, ha, hlt, hc⟩
  · exact .inl h0
  · exact .inr ⟨b, off, ha, Nat.lt_of_lt_of_le hlt hb.size, fun i hi => (hb.cell (p := ⟨b, off + i, none⟩) (by show b < B; omega)).trans (hc i hi)⟩
theorem Ins.next {w w' : World} {a : Option Addr} {n : Nat} {ks : List Int} (h : Ins w a n ks) (hb : Below w.heap.size w w') : Ins w' a n ks := h.below (Nat.le_refl _) hb
theorem Ins.alloc {w : World} {a : Option Addr} {n : Nat} {ks : List Int} (h : Ins w a n ks) (o : Obj) : Ins (w.alloc o) a n ks := h.next ((Below.refl _ _).alloc (Nat.le_refl _) o)
theorem Ins.at {w : World} {a : Option Addr} {n : Nat} {ks : List Int} (h : Ins w a n ks) (hn : 0 < n) : ∃ b off, a = some ⟨b, off, none⟩ ∧ b < w.heap.size ∧ ∀ i, i < n → w.cell? ⟨b, off + i, none⟩ = some (.int .i64 (num ks i)) := by
  rcases h.place with h0 | h1
  · omega
  · exact h1
theorem ins_one (w : World) (x : Int) : Ins (w.alloc (.cells #[.int .i64 x] 3 (0, 0))) (some ⟨w.heap.size, 0, none⟩) 1 [x] :=
  ⟨rfl, .inr ⟨_, 0, rfl, by simp, fun i hi => by
    rcases (by omega : i = 0) with rfl
    simp [num]⟩⟩
theorem ins_one' {w : World} {g : Nat} (x : Int) (h : w.heap.size = g) : Ins (w.alloc (.cells #[.int .i64 x] 3 (0, 0))) (some ⟨g, 0, none⟩) 1 [x] := by
  subst h
  exact ins_one w x
theorem info3 : (Try.prog.info? 3).map (fun i => (i.zero, i.size, i.bytes)) = some (some (.int .i64 0), 1, 8) := by kernel_rfl

/-- A slice of numbers of the call's own. -/
def OwnI (w : World) (B : Nat) (v : Value) (n : Nat) (ks : List Int) : Prop := w.ownsRow B 3 1 v n (ks.map (Value.int .i64))
theorem OwnI.below {w w' : World} {B : Nat} {v : Value} {n : Nat} {ks : List Int} (h : OwnI w B v n ks) {C : Nat} (hC : w.heap.size ≤ C) (hb : Below C w w') : OwnI w' B v n ks :=
  h.kept (row := none) ⟨hb.os, hb.tape, hb.output, hb.size, fun k hk _ => hb.block k (by omega)⟩ (by cases v.ownBlock <;> simp)
theorem OwnI.next {w w' : World} {B : Nat} {v : Value} {n : Nat} {ks : List Int} (h : OwnI w B v n ks) (hb : Below w.heap.size w w') : OwnI w' B v n ks := h.below (Nat.le_refl _) hb
theorem OwnI.alloc {w : World} {B : Nat} {v : Value} {n : Nat} {ks : List Int} (h : OwnI w B v n ks) (o : Obj) : OwnI (w.alloc o) B v n ks := h.next ((Below.refl _ _).alloc (Nat.le_refl _) o)
theorem ownI_none (w : World) (B : Nat) (hB : B ≤ w.heap.size) : OwnI (w.alloc (.cells #[] 3)) B (.slice (some ⟨w.heap.size, 0, none⟩) 0 0) 0 [] := World.ownsRow_lit w #[] 0 hB (Nat.zero_le _) rfl
theorem ownI_nil (w : World) (B : Nat) : OwnI w B (.slice none 0 0) 0 [] := World.ownsRow_nil _ _ _ _
theorem OwnI.ins {w : World} {B : Nat} {v : Value} {n : Nat} {ks : List Int} (h : OwnI w B v n ks) : ∃ a c, v = .slice a n c ∧ Ins w a n ks ∧ n ≤ c ∧ c ≤ 9223372036854775807 ∧ (∀ x, a = some x → B ≤ x.block ∧ x.block < w.heap.size) := by
  rcases h.2 with ⟨rfl, rfl⟩ | ⟨g, cap, cur, rfl, hb, hg, hnc, hm, hsz, htake⟩
  · have := h.1
    simp at this
    exact ⟨none, 0, rfl, ⟨by simpa using this, .inl rfl⟩, Nat.le_refl _, by omega, (fun x hx => by cases hx)⟩
  · have hl : ks.length = n := by have := h.1; simpa using this
    refine ⟨some ⟨g, 0, none⟩, cap, rfl, ⟨hl, .inr ⟨g, 0, rfl, lt_of_block hg, fun i hi => ?_⟩⟩, hnc, by unfold maxLen at hm; omega, fun x hx => by cases hx; exact ⟨hb, lt_of_block hg⟩⟩
    have hc := h.cellAt i (by omega)
    rw [Nat.zero_add, hc]
    simp [num, List.getD, show i < ks.length by omega]


theorem getN_app (p : List Int) (m : Nat) (n : Int) (q : List Int) (h0 : 0 ≤ n) (h1 : n < 256 ^ m) : getN (p ++ (digs m n ++ q)) p.length m = n := by
  induction m generalizing p n q with
  | zero => simp at h1; simp [getN]; omega
  | succ m ih =>
    rw [getN, digs]
    have e : p ++ (n % 256 :: digs m (n / 256) ++ q) = (p ++ [n % 256]) ++ (digs m (n / 256) ++ q) := by simp
    rw [e]
    have hl : p.length + 1 = (p ++ [n % 256]).length := by simp
    rw [hl, ih (p ++ [n % 256]) (n / 256) q (by omega) (by rw [Int.pow_succ] at h1; omega)]
    have hb : byt (p ++ [n % 256] ++ (digs m (n / 256) ++ q)) p.length = n % 256 := by
      unfold byt
      simp [List.getD]
    rw [hb]
    omega
theorem take_snoc {x : List Int} {p m : Nat} (h : p + (m + 1) ≤ x.length) : (x.drop p).take (m + 1) = byt x p :: (x.drop (p + 1)).take m := by
  rw [List.drop_eq_getElem_cons (by omega), List.take_succ_cons]
  congr 1
  simp [byt, List.getD, show p < x.length by omega]
theorem digs_get {x : List Int} (hx : AllB x) (p m : Nat) (h : p + m ≤ x.length) : digs m (getN x p m) = (x.drop p).take m := by
  induction m generalizing p with
  | zero => rfl
  | succ m ih =>
    have hb := byt_bd hx p
    rw [take_snoc h, getN, digs, ← ih (p + 1) (by omega)]
    congr 1
    · omega
    · congr 1; omega
theorem nought_rep {z : List Int} (h : noughtB z = true) : z = List.replicate z.length 0 := by
  unfold noughtB at h
  rw [List.all_eq_true] at h
  exact List.eq_replicate_iff.2 ⟨rfl, fun b hb => by simpa using h b hb⟩
theorem nought_of (n : Nat) : noughtB (List.replicate n 0) = true := by
  unfold noughtB
  rw [List.all_eq_true]
  intro z hz
  simp [(List.mem_replicate.1 hz).2]
abbrev Z (n : Nat) : List Int := List.replicate n 0
theorem hasW1_of {n : Int} (h : 0 ≤ n ∧ n < 256 ^ 1) : hasW n 1 = true := decide_eq_true (by simpa using h)
theorem hasW4_of {n : Int} (h : 0 ≤ n ∧ n < 256 ^ 4) : hasW n 4 = true := decide_eq_true (by simpa using h)
theorem getV_in {x : List Int} {p m : Nat} (h1 : 1 ≤ m) (h4 : m ≤ 4) (h : p + m ≤ x.length) : getV x.length x p m = getN x p m := by
  rw [getV, if_pos (getO_yes h1 h4 h)]
  simp
theorem drop_take (x : List Int) (p m q : Nat) : ((x.drop p).take (m + q)) = (x.drop p).take m ++ (x.drop (p + m)).take q := by
  rw [List.take_add, List.drop_drop]

/-- A mark's bytes are known by their start, their noughts. -/
theorem hasW2_of {n : Int} (h : 0 ≤ n ∧ n ≤ 65535) : hasW n 2 = true := decide_eq_true (by simpa using (by omega : 0 ≤ n ∧ n < 65536))
/-- A size's blocks. -/
def blkN (s : Int) : Int := if 0 ≤ s ∧ s ≤ 46368 then (s + 55) / 56 else 0
def szO (s : Int) : Bool := decide (0 ≤ s ∧ s ≤ 46368)
/-- May this be a pointer? -/
def ptO (p : Int) : Bool := decide (0 ≤ p ∧ p ≤ 65535)
theorem ptO_iff {p : Int} : ptO p = true ↔ 0 ≤ p ∧ p ≤ 65535 := by simp [ptO]
/-- The first block that a record's pointer tells. -/
def ftI (i : Nat) : Int := if i = 16 then 16 else if i = 17 then 44 else (i : Int)
/-- Is this pointer such, and 0 where it tells no block? -/
def atO (f : Nat → Int) (i : Nat) : Bool := ptO (f (3 + i)) && (decide (f (3 + i) = 0) || decide (ftI i < blkN (f 2)))
def pwO (f : Nat → Int) : Bool := (List.range 18).all (atO f)
theorem pwO_iff {f : Nat → Int} : pwO f = true ↔ ∀ i, i < 18 → atO f i = true := by
  simp [pwO, List.all_eq_true]
/-- Is a record right? -/
def rgO (f : Nat → Int) : Bool := (decide (f 0 = 1) || decide (f 0 = 2)) && decide (1 ≤ f 1) && decide (f 1 ≤ 65535) && szO (f 2) && pwO f
structure RgR (f : Nat → Int) : Prop where
  kind : f 0 = 1 ∨ f 0 = 2
  l1 : 1 ≤ f 1
  l2 : f 1 ≤ 65535
  s0 : 0 ≤ f 2
  s1 : f 2 ≤ 46368
  pts : ∀ i, i < 18 → atO f i = true
theorem rgO_iff {f : Nat → Int} : rgO f = true ↔ RgR f := by
  constructor
  · intro h
    simp only [rgO, szO, Bool.and_eq_true, Bool.or_eq_true, decide_eq_true_eq, pwO_iff] at h
    obtain ⟨⟨⟨⟨h1, h2⟩, h3⟩, h4, h5⟩, h6⟩ := h
    exact ⟨h1, h2, h3, h4, h5, h6⟩
  · intro h
    simp only [rgO, szO, Bool.and_eq_true, Bool.or_eq_true, decide_eq_true_eq, pwO_iff]
    exact ⟨⟨⟨⟨h.kind, h.l1⟩, h.l2⟩, h.s0, h.s1⟩, h.pts⟩
theorem RgR.pt {f : Nat → Int} (h : RgR f) {i : Nat} (hi : i < 18) : 0 ≤ f (3 + i) ∧ f (3 + i) ≤ 65535 := by
  have := h.pts i hi
  simp only [atO, Bool.and_eq_true] at this
  exact ptO_iff.1 this.1
theorem rgO_congr {f g : Nat → Int} (h : ∀ i, i < 21 → f i = g i) : rgO f = rgO g := by
  have e : pwO f = pwO g := by
    rw [Bool.eq_iff_iff, pwO_iff, pwO_iff]
    refine forall_congr' fun i => forall_congr' fun hi => ?_
    rw [atO, atO, h (3 + i) (by omega), h 2 (by omega)]
  rw [rgO, rgO, e, h 0 (by omega), h 1 (by omega), h 2 (by omega)]

/-- Pointers' bytes. -/
def ptsL (g : Nat → Int) : Nat → List Int
  | 0 => []
  | k + 1 => ptsL g k ++ digs 2 (g k)
theorem ptsL_len (g : Nat → Int) (k : Nat) : (ptsL g k).length = 2 * k := by
  induction k with
  | zero => rfl
  | succ k ih => simp [ptsL, ih, digs_len]; omega
theorem ptsL_small (g : Nat → Int) (k : Nat) : AllB (ptsL g k) := by
  induction k with
  | zero => intro z hz; cases hz
  | succ k ih => exact ih.app (digs_small _ _)
theorem ptsL_congr {g h : Nat → Int} {n : Nat} (e : ∀ i, i < n → g i = h i) : ptsL g n = ptsL h n := by
  induction n with
  | zero => rfl
  | succ n ih => rw [ptsL, ptsL, ih fun i hi => e i (by omega), e n (by omega)]
/-- A pointer's place among pointers. -/
theorem ptsL_at (g : Nat → Int) {k n : Nat} (h : k < n) : ∃ t, ptsL g n = ptsL g k ++ (digs 2 (g k) ++ t) := by
  induction n with
  | zero => omega
  | succ n ih =>
    by_cases hk : k = n
    · subst hk; exact ⟨[], by rw [ptsL]; simp⟩
    · obtain ⟨t, ht⟩ := ih (by omega)
      exact ⟨t ++ digs 2 (g n), by rw [ptsL, ht]; simp⟩
/-- A record's bytes as far as its first k pointers. -/
def hdL (f : Nat → Int) : List Int := digs 1 (f 0) ++ digs 2 (f 1) ++ digs 4 (f 2)
def recP (f : Nat → Int) (k : Nat) : List Int := hdL f ++ ptsL (fun i => f (3 + i)) k
theorem hdL_len (f : Nat → Int) : (hdL f).length = 7 := by simp [hdL, digs_len]
theorem recP_succ (f : Nat → Int) (k : Nat) : recP f (k + 1) = recP f k ++ digs 2 (f (3 + k)) := by simp [recP, ptsL]
theorem recP_len (f : Nat → Int) (k : Nat) : (recP f k).length = 7 + 2 * k := by simp [recP, hdL_len, ptsL_len]
theorem recP_small (f : Nat → Int) (k : Nat) : AllB (recP f k) := (((digs_small _ _).app (digs_small _ _)).app (digs_small _ _)).app (ptsL_small _ _)
/-- A record's bytes. -/
def recB (f : Nat → Int) : List Int := padL (recP f 18) 56
theorem recB_eq (f : Nat → Int) : recB f = recP f 18 ++ Z 13 := by rw [recB, padL, recP_len]
theorem recB_len (f : Nat → Int) : (recB f).length = 56 := by rw [recB_eq]; simp [recP_len]
theorem recB_small (f : Nat → Int) : AllB (recB f) := by rw [recB_eq]; exact (recP_small _ _).app (AllB.zeros _)
theorem recB_drop (f : Nat → Int) : noughtB ((recB f).drop 43) = true := by
  rw [recB_eq, List.drop_append_of_le_length (by rw [recP_len]; omega), List.drop_of_length_le (by rw [recP_len]; omega)]
  exact nought_of 13
/-- Where a record's number stands, and how wide it is. -/
def posR (i : Nat) : Nat := if i = 0 then 0 else if i = 1 then 1 else if i = 2 then 3 else 7 + 2 * (i - 3)
def widR (i : Nat) : Nat := if i = 0 then 1 else if i = 2 then 4 else 2
/-- What stands in bytes where a record has its numbers. -/
def tld (x : List Int) (i : Nat) : Int := getV x.length x (posR i) (widR i)
theorem wid_bd (i : Nat) : 1 ≤ widR i ∧ widR i ≤ 4 := by unfold widR; split; omega; split <;> omega
theorem pos_bd {i : Nat} (h : i < 21) : posR i + widR i ≤ 43 := by
  by_cases h0 : i = 0
  · subst h0; decide
  · by_cases h1 : i = 1
    · subst h1; decide
    · by_cases h2 : i = 2
      · subst h2; decide
      · unfold posR widR
        rw [if_neg h0, if_neg h1, if_neg h2, if_neg h0, if_neg h2]
        omega
theorem tld_in {x : List Int} (hx : x.length = 56) {i : Nat} (h : i < 21) : tld x i = getN x (posR i) (widR i) :=
  getV_in (wid_bd i).1 (wid_bd i).2 (by have := pos_bd h; omega)
/-- Records that are put are got again. -/
theorem tld_rec {f : Nat → Int} (h : RgR f) {i : Nat} (hi : i < 21) : tld (recB f) i = f i := by
  rw [tld_in (recB_len f) hi, recB_eq]
  have hk := h.kind; have h1 := h.l1; have h2 := h.l2; have h3 := h.s0; have h4 := h.s1
  by_cases e0 : i = 0
  · subst e0
    have := getN_app [] 1 (f 0) (digs 2 (f 1) ++ digs 4 (f 2) ++ ptsL (fun i => f (3 + i)) 18 ++ Z 13) (by omega) (by omega)
    refine Eq.trans ?_ this
    rw [show posR 0 = 0 from rfl, show widR 0 = 1 from rfl]
    simp only [recP, hdL, List.append_assoc, List.nil_append, List.length_nil]
  · by_cases e1 : i = 1
    · subst e1
      have := getN_app (digs 1 (f 0)) 2 (f 1) (digs 4 (f 2) ++ ptsL (fun i => f (3 + i)) 18 ++ Z 13) (by omega) (by omega)
      rw [digs_len] at this
      refine Eq.trans ?_ this
      rw [show posR 1 = 1 from rfl, show widR 1 = 2 from rfl]
      simp only [recP, hdL, List.append_assoc, List.nil_append, List.length_nil]
    · by_cases e2 : i = 2
      · subst e2
        have := getN_app (digs 1 (f 0) ++ digs 2 (f 1)) 4 (f 2) (ptsL (fun i => f (3 + i)) 18 ++ Z 13) (by omega) (by omega)
        rw [show (digs 1 (f 0) ++ digs 2 (f 1)).length = 3 by simp [digs_len]] at this
        refine Eq.trans ?_ this
        rw [show posR 2 = 3 from rfl, show widR 2 = 4 from rfl]
        simp only [recP, hdL, List.append_assoc, List.nil_append, List.length_nil]
      · obtain ⟨k, rfl⟩ : ∃ k, i = 3 + k := ⟨i - 3, by omega⟩
        have hp := h.pt (i := k) (by omega)
        obtain ⟨t, ht⟩ := ptsL_at (fun i => f (3 + i)) (show k < 18 by omega)
        have := getN_app (recP f k) 2 (f (3 + k)) (t ++ Z 13) (by omega) (by omega)
        rw [recP_len] at this
        have ep : posR (3 + k) = 7 + 2 * k := by unfold posR; rw [if_neg (by omega), if_neg (by omega), if_neg (by omega)]; omega
        have ew : widR (3 + k) = 2 := by unfold widR; rw [if_neg (by omega), if_neg (by omega)]
        rw [ep, ew]
        refine Eq.trans ?_ this
        refine congrArg (fun l => getN l (7 + 2 * k) 2) ?_
        rw [recP, recP, ht]
        simp only [List.append_assoc]
theorem take_add' (x : List Int) (p q : Nat) : x.take (p + q) = x.take p ++ (x.drop p).take q := by
  have := drop_take x 0 p q
  simpa using this
/-- Bytes that have the form are those of what they tell. -/
theorem recP_tld {x : List Int} (hx : AllB x) (hl : x.length = 56) {k : Nat} (hk : k ≤ 18) : recP (tld x) k = x.take (7 + 2 * k) := by
  induction k with
  | zero =>
    rw [recP, ptsL, List.append_nil, hdL, tld_in hl (by omega), tld_in hl (by omega), tld_in hl (by omega)]
    show digs 1 (getN x 0 1) ++ digs 2 (getN x 1 2) ++ digs 4 (getN x 3 4) = x.take 7
    rw [digs_get hx 0 1 (by omega), digs_get hx 1 2 (by omega), digs_get hx 3 4 (by omega)]
    rw [show (7 : Nat) = 3 + 4 from rfl, take_add' x 3 4, show (3 : Nat) = 1 + 2 from rfl, take_add' x 1 2]
    simp
  | succ k ih =>
    rw [recP_succ, ih (by omega), tld_in hl (by omega)]
    have ep : posR (3 + k) = 7 + 2 * k := by unfold posR; rw [if_neg (by omega), if_neg (by omega), if_neg (by omega)]; omega
    have ew : widR (3 + k) = 2 := by unfold widR; rw [if_neg (by omega), if_neg (by omega)]
    rw [ep, ew, digs_get hx (7 + 2 * k) 2 (by omega), show 7 + 2 * (k + 1) = (7 + 2 * k) + 2 by omega, take_add' x (7 + 2 * k) 2]
theorem recB_tld {x : List Int} (hx : AllB x) (hl : x.length = 56) (h0 : noughtB (x.drop 43) = true) : recB (tld x) = x := by
  rw [recB_eq, recP_tld hx hl (Nat.le_refl _)]
  have h1 := nought_rep h0
  rw [List.length_drop, hl] at h1
  show x.take 43 ++ List.replicate 13 0 = x
  rw [← show x.drop 43 = List.replicate 13 0 from h1]
  exact List.take_append_drop 43 x
/-- Are bytes a right record's? By the program's way, and by the document's. -/
def okG (x : List Int) : Bool := rgO (tld x) && sameB (recB (tld x)) x
def okD (x : List Int) : Bool := decide (x.length = 56) && noughtB (x.drop 43) && rgO (tld x)
theorem okG_okD {x : List Int} (hx : AllB x) : okG x = okD x := by
  rw [Bool.eq_iff_iff]
  constructor
  · intro h
    simp only [okG, Bool.and_eq_true] at h
    have e : recB (tld x) = x := by simpa [sameB] using h.2
    simp only [okD, Bool.and_eq_true, decide_eq_true_eq]
    exact ⟨⟨by rw [← e]; exact recB_len _, by rw [← e]; exact recB_drop _⟩, h.1⟩
  · intro h
    simp only [okD, Bool.and_eq_true, decide_eq_true_eq] at h
    simp only [okG, Bool.and_eq_true]
    exact ⟨h.2, sameB_true (recB_tld hx h.1.1 h.1.2)⟩
theorem okG_rec {f : Nat → Int} (h : RgR f) : okG (recB f) = true := by
  rw [okG_okD (recB_small f)]
  simp only [okD, Bool.and_eq_true, decide_eq_true_eq]
  refine ⟨⟨recB_len f, recB_drop f⟩, ?_⟩
  rw [rgO_congr fun i hi => tld_rec h hi]
  exact rgO_iff.2 h
/-- The record that Get answers. -/
def gR (x : List Int) (i : Nat) : Int := if okG x then tld x i else 0
/-- Pointers' blocks. -/
def ppO (ks : List Int) : Bool := decide (ks.length ≤ 28) && ks.all ptO
def ppL (ks : List Int) : List Int := padL (ptsL (num ks) ks.length) 56
theorem ppL_eq {ks : List Int} (h : ks.length ≤ 28) : ppL ks = ptsL (num ks) ks.length ++ Z (56 - 2 * ks.length) := by rw [ppL, padL, ptsL_len]
theorem ppL_len {ks : List Int} (h : ks.length ≤ 28) : (ppL ks).length = 56 := padL_len (by rw [ptsL_len]; omega)
theorem ppL_small (ks : List Int) : AllB (ppL ks) := padL_small (ptsL_small _ _) _
/-- The pointers of bytes. -/
def gpL (x : List Int) : Nat → List Int
  | 0 => []
  | k + 1 => gpL x k ++ [getV x.length x ((2 * k : Nat) : Int) 2]
theorem gpL_len (x : List Int) (k : Nat) : (gpL x k).length = k := by
  induction k with
  | zero => rfl
  | succ k ih => simp [gpL, ih]
theorem gpL_num (x : List Int) {k i : Nat} (h : i < k) : num (gpL x k) i = getV x.length x ((2 * i : Nat) : Int) 2 := by
  induction k with
  | zero => omega
  | succ k ih =>
    by_cases hi : i = k
    · subst hi
      simp [gpL, num, List.getD, gpL_len]
    · rw [← ih (by omega)]
      simp [gpL, num, List.getD, List.getElem?_append_left (show i < (gpL x k).length by rw [gpL_len]; omega)]
theorem gp_put {ks : List Int} (h : ks.length ≤ 28) (hp : ∀ i, i < ks.length → 0 ≤ num ks i ∧ num ks i ≤ 65535) {i : Nat} (hi : i < 28) : num (gpL (ppL ks) 28) i = num ks i := by
  rw [gpL_num _ hi]
  have e : getV (ppL ks).length (ppL ks) ((2 * i : Nat) : Int) 2 = getN (ppL ks) (2 * i) 2 := getV_in (p := 2 * i) (m := 2) (by omega) (by omega) (by rw [ppL_len h]; omega)
  rw [e, ppL_eq h]
  by_cases hlt : i < ks.length
  · obtain ⟨t, ht⟩ := ptsL_at (num ks) hlt
    have := getN_app (ptsL (num ks) i) 2 (num ks i) (t ++ Z (56 - 2 * ks.length)) (hp i hlt).1 (by have := (hp i hlt).2; omega)
    rw [ptsL_len] at this
    rw [ht]
    refine Eq.trans ?_ this
    refine congrArg (fun l => getN l (2 * i) 2) ?_
    simp only [List.append_assoc]
  · have h0 : num ks i = 0 := by simp [num, List.getD, List.getElem?_eq_none (show ks.length ≤ i by omega)]
    rw [h0]
    have hb : ∀ j, 2 * ks.length ≤ j → byt (ptsL (num ks) ks.length ++ Z (56 - 2 * ks.length)) j = 0 := fun j hj => by
      unfold byt
      rw [List.getD_eq_getElem?_getD, List.getElem?_append_right (by rw [ptsL_len]; exact hj), ← List.getD_eq_getElem?_getD]
      exact byt_zero _ _
    simp [getN, hb (2 * i) (by omega), hb (2 * i + 1) (by omega)]

end Go.Proofs.Ytegcjpocdfmpfaa
