/-
  Cut of the program and of the document, by contract.
-/
import Derived.Test.YtinholnidchblaaGreatDoorQag
import Derived.Test.YtinholnidchblaaGreatDoorQaa
import Derived.Lib.AppendStr
import Derived.Deep.AppendLies
set_option linter.unusedVariables false
set_option linter.unusedSimpArgs false
namespace Go.Proofs.YtinholnidchblaaGreatDoor
open Go.RowKit
set_option linter.unusedVariables false
set_option linter.unusedSimpArgs false

theorem enters_cut (args : Array Value) (w : World) : (callFunc 149 args).run Tryz.prog w = .ok (.enter 149 args) w := enters_of (P := Tryz.prog) Tryz.func149 (by kernel_rfl) rfl args w
set_option maxHeartbeats 1000000 in
/-- Cut's closure: has the entry this name? -/
theorem gives_cut (b : Nat) (n : ByteArray) (w0 : World) (hlt : b < w0.heap.size) (hc : w0.cell? ⟨b, 0, none⟩ = some (.string n)) : Gives 149 #[.pointer (some ⟨b, 0, none⟩)] (fun x => beqS x.s n) w0 := by
  intro x w hb
  obtain ⟨s, i⟩ := x
  have c1 := (hb.cell (p := ⟨b, 0, none⟩) hlt).trans hc
  have hbs := hb.size
  have hb2 : b < w.heap.size := by omega
  have HB := Lib.hid ((Below.refl w.heap.size w).alloc (Nat.le_refl _) (.cells #[.string s, .int .i64 i] 77 (0, 0)))
  unfold env
  simp only
  show Calls Tryz.prog 149 #[.agg #[.string s, .int .i64 i], .pointer (some ⟨b, 0, none⟩)] w _
  clear hb hc hlt hbs
  go_enter Tryz.func149, Tryz.ntmps149
  go_wp2_with (fail)
  go_ret
  exact ⟨rfl, HB.out⟩
set_option maxHeartbeats 2000000 in
theorem cut_any (a : Option Addr) (n c : Nat) (L : List En) (s : ByteArray) (w : World) (h : Ens w a n L) (hn : n ≤ 100000) (hs : Fit L) :
    Calls Tryz.prog 131 #[.slice a n c, .string s] w (InsPost w.heap.size w (ecut L s).length (ecut L s)) := by
  have hb0 : Below w.heap.size w (w.alloc (.cells #[.string s] 9 (0, 0))) := (Below.refl _ _).alloc (Nat.le_refl _) _
  have hcp := copies_any a n c L (w.alloc (.cells #[.string s] 9 (0, 0))) (h.next hb0) (by omega) hs
  have HG := Lib.hid (gives_cut w.heap.size s (w.alloc (.cells #[.string s] 9 (0, 0))) (by simp) (by simp))
  have HB := Lib.hid hb0
  clear h hb0
  go_enter Tryz.func131, Tryz.ntmps131
  go_wp2_with (fail)
  refine hcp.mono ?_
  rintro e w1 ⟨v, rfl, ho, hb1⟩
  have hdel := delete_any _ #[.pointer (some ⟨w.heap.size, 0, none⟩)] enters_cut _ _ w1 HG.out hb1 v n L ho (by omega)
  clear ho hb1 hcp
  go_wp2_with (fail)
  refine hdel.mono ?_
  rintro e w2 ⟨v2, rfl, ho2, hb2⟩
  have HO2 := Lib.hid (ho2.lower HB.out.size)
  have HB2 := Lib.hid (HB.out.trans (hb2.mono HB.out.size))
  clear ho2 hb2 hdel
  go_wp2_with (fail)
  go_ret
  exact ⟨_, rfl, HO2.out, HB2.out⟩
theorem cut_step {L : List En} {k : Nat} {s : ByteArray} (hk : k < L.length) : ecut (L.take (k + 1)) s = ecut (L.take k) s ++ (if beqS (eat L k).s s then [] else [eat L k]) := filter_step (p := fun x => beqS x.s s) hk
theorem ecut_le (L : List En) (s : ByteArray) : (ecut L s).length ≤ L.length := List.length_filter_le _ _
set_option maxHeartbeats 2000000 in
theorem rcut_any (a : Option Addr) (n c : Nat) (L : List En) (s : ByteArray) (w : World) (h : Ens w a n L) (hn : n ≤ 100000) :
    Calls Tryz.prog 135 #[.slice a n c, .string s] w (InsPost w.heap.size w (ecut L s).length (ecut L s)) := by
  have hl := h.len
  subst hl
  have HH := Lib.hid h
  clear h
  go_enter Tryz.func135, Tryz.ntmps135
  go_wp2_with (fail)
  go_loopw [5, 6] (fun v5 v wr => ∃ k : Nat, k ≤ L.length ∧ v = .int .i64 k ∧ OwnE wr w.heap.size v5 (ecut (L.take k) s).length (ecut (L.take k) s) ∧ Below w.heap.size w wr) (fun _ v _ => L.length - (RowKit.intOf v).toNat)
  case atStart => exact ⟨0, by omega, rfl, ownE_none w _ (Nat.le_refl _), (Below.refl _ _).alloc (Nat.le_refl _) _⟩
  case round =>
    obtain ⟨k, hk, rfl, hO, hB⟩ := hrel
    have HO := Lib.hid hO
    have HB := Lib.hid hB
    by_cases hlt : k < L.length
    · have k1 : (k : Int) < (L.length : Int) := by omega
      have k0 : (0 : Int) ≤ (k : Int) := by omega
      obtain ⟨b, off, rfl, hbl, hd1, hd2⟩ := (HH.out.next hB).at hlt
      have hst := cut_step (s := s) hlt
      obtain ⟨va, vc, rfl, _⟩ := hO.ens
      clear hO hB hbl
      cases hb : ((eat L k).s.toList == s.toList) with
      | true =>
        have hb' : beqS (eat L k).s s = true := hb
        rw [hb', if_pos rfl, List.append_nil] at hst
        have HST := Lib.hid hst
        have hb2 : ((eat L k).s.toList != s.toList) = false := by rw [bne, hb]; rfl
        clear hst hb'
        go_wp2_with (fail)
        go_roundw
        case rel => exact ⟨k + 1, by omega, by go_num, by rw [HST.out]; exact HO.out, HB.out⟩
        case measure => simp [RowKit.intOf]; omega
      | false =>
        have hb' : beqS (eat L k).s s = false := hb
        rw [hb', if_neg (by decide)] at hst
        have HST := Lib.hid hst
        have hb2 : ((eat L k).s.toList != s.toList) = true := by rw [bne, hb]; rfl
        have HO1 := Lib.hid (HO.out.alloc (.cells #[.string (eat L k).s, .int .i64 (eat L k).i] 77 (0, 0)))
        have HB1 := Lib.hid (HB.out.alloc HB.out.size (.cells #[.string (eat L k).s, .int .i64 (eat L k).i] 77 (0, 0)))
        have HM := Lib.hid (ens_one (w := wr) (g := wr.heap.size) (eat L k).s (eat L k).i rfl)
        have hsz := HB.out.size
        have hle := Nat.le_trans (ecut_le (L.take k) s) (by rw [List.length_take]; omega : (L.take k).length ≤ 100000)
        clear hst hb'
        go_wp2_with (at_builtin; go_must (refine wpList_ape rfl (.tmp 21) (.tmp 26) rfl w.heap.size _ (ecut (L.take k) s).length (ecut (L.take k) s) rfl HO1.out (some ⟨wr.heap.size, 0, none⟩) 1 1 [eat L k] rfl HM.out (fun h => by cases h) (by omega) (by simp; omega) w HB1.out ?_); intro v4 w4 ho4 hb4)
        have HO4 := Lib.hid ho4
        have HB4 := Lib.hid hb4
        clear ho4 hb4
        go_roundw
        case rel => exact ⟨k + 1, by omega, by go_num, by rw [HST.out, List.length_append]; exact HO4.out, HB4.out⟩
        case measure => simp [RowKit.intOf]; omega
    · obtain rfl : k = L.length := by omega
      have k1 : ¬ (L.length : Int) < (L.length : Int) := by omega
      rw [List.take_of_length_le (Nat.le_refl _)] at hO
      have HO2 := Lib.hid hO
      clear hO hB
      go_wp2_with (fail)
      go_ret
      exact ⟨_, rfl, HO2.out, HB.out⟩
end Go.Proofs.YtinholnidchblaaGreatDoor

/-
  Plain numbers: a number's bytes, the lowest first.
-/
namespace Go.Proofs.YtinholnidchblaaGreatDoor
open Go.RowKit

def digs : Nat → Int → List Int
  | 0, _ => []
  | m + 1, n => n % 256 :: digs m (n / 256)
theorem digs_len (m : Nat) (n : Int) : (digs m n).length = m := by
  induction m generalizing n with
  | zero => rfl
  | succ m ih => simp [digs, ih]
theorem digs_small (m : Nat) (n : Int) : AllB (digs m n) := by
  induction m generalizing n with
  | zero => intro z hz; cases hz
  | succ m ih =>
    intro z hz
    rcases List.mem_cons.1 hz with rfl | hz
    · omega
    · exact ih _ z hz
theorem byt_digs (m : Nat) (n : Int) (i : Nat) (h : i < m) : byt (digs m n) i = n / 256 ^ i % 256 := by
  induction m generalizing n i with
  | zero => omega
  | succ m ih =>
    cases i with
    | zero => simp [digs, byt]
    | succ i =>
      have := ih (n / 256) i (by omega)
      rw [show byt (digs (m + 1) n) (i + 1) = byt (digs m (n / 256)) i from rfl, this, Int.pow_succ', Int.ediv_ediv_of_nonneg (by omega)]

theorem dig_at {m k : Nat} (n : Int) (h : k < m) : n / 2 ^ (8 * k) % 256 = byt (digs m n) k := by
  rw [byt_digs m n k h, Int.pow_mul]
  rfl

theorem digs_snoc (m : Nat) (n : Int) : digs (m + 1) n = digs m n ++ [n / 256 ^ m % 256] := by
  induction m generalizing n with
  | zero => simp [digs]
  | succ m ih =>
    rw [digs, ih (n / 256), digs, Int.pow_succ', Int.ediv_ediv_of_nonneg (by omega)]
    rfl

/-- The number whose bytes stand at p .. p + m - 1. -/
def getN (x : List Int) : Nat → Nat → Int
  | _, 0 => 0
  | p, m + 1 => byt x p + 256 * getN x (p + 1) m
theorem getN_top (x : List Int) (p k : Nat) : getN x p (k + 1) = getN x p k + byt x (p + k) * 256 ^ k := by
  induction k generalizing p with
  | zero => simp [getN]
  | succ k ih =>
    rw [getN, ih (p + 1), getN, Int.pow_succ, show p + 1 + k = p + (k + 1) by omega, Int.mul_add, Int.mul_comm (256 ^ k) 256, Int.mul_left_comm (byt x (p + (k + 1))) 256]
    omega
theorem getN_bd {x : List Int} (hx : AllB x) (p k : Nat) : 0 ≤ getN x p k ∧ getN x p k < 256 ^ k := by
  induction k generalizing p with
  | zero => simp [getN]
  | succ k ih =>
    have h1 := ih (p + 1)
    have h2 := byt_bd hx p
    rw [getN, Int.pow_succ]
    omega

theorem i64_or_nat (a b : Nat) (ha : a < 9223372036854775808) (hb : b < 9223372036854775808) : bits .or .i64 (a : Int) (b : Int) = ((a ||| b : Nat) : Int) := by
  have hx : a ||| b < 2 ^ 63 := Nat.or_lt_two_pow (by omega) (by omega)
  have h1 : (BitVec.ofInt 64 (a : Int)).toNat = a := by
    rw [BitVec.ofInt_natCast, BitVec.toNat_ofNat]; exact Nat.mod_eq_of_lt (by omega)
  have h2 : (BitVec.ofInt 64 (b : Int)).toNat = b := by
    rw [BitVec.ofInt_natCast, BitVec.toNat_ofNat]; exact Nat.mod_eq_of_lt (by omega)
  show IntKind.i64.wrap ((BitVec.ofInt 64 (a : Int) ||| BitVec.ofInt 64 (b : Int)).toNat : Int) = _
  rw [BitVec.toNat_or, h1, h2, IntKind.wrap_i64]
  omega
theorem i64_join (i : Nat) (n b : Nat) (hn : n < 2 ^ i) (hb : b * 2 ^ i < 9223372036854775808) (hn' : n < 9223372036854775808) : bits .or .i64 (n : Int) ((b * 2 ^ i : Nat) : Int) = ((n + b * 2 ^ i : Nat) : Int) := by
  rw [i64_or_nat n _ hn' hb, Nat.or_comm, nat_join i _ n (Nat.mul_mod_left _ _) hn, Nat.add_comm]
theorem or_at {n b : Int} {k : Nat} (hk : k < 4) (h0 : 0 ≤ n) (h1 : n < 256 ^ k) (b0 : 0 ≤ b) (b1 : b ≤ 255) : bits .or .i64 n (wrap64 (b * 2 ^ (8 * k))) = n + b * 256 ^ k := by
  obtain ⟨n', rfl⟩ := Int.eq_ofNat_of_zero_le h0
  obtain ⟨b', rfl⟩ := Int.eq_ofNat_of_zero_le b0
  have hp : (256 : Int) ^ k = 2 ^ (8 * k) := by rw [Int.pow_mul]; rfl
  rw [hp] at h1 ⊢
  have hq : (2 : Nat) ^ (8 * k) ≤ 16777216 := by
    rcases (by omega : k = 0 ∨ k = 1 ∨ k = 2 ∨ k = 3) with rfl | rfl | rfl | rfl <;> decide
  have hc : ((2 : Int) ^ (8 * k)) = ((2 ^ (8 * k) : Nat) : Int) := by simp
  rw [hc] at h1 ⊢
  generalize hP : (2 : Nat) ^ (8 * k) = P at *
  have hm : b' * P ≤ 255 * 16777216 := Nat.mul_le_mul (by omega) hq
  rw [← Int.natCast_mul, IntWalk.wrap64_in _ (by omega), ← Int.natCast_add]
  subst hP
  exact i64_join (8 * k) n' b' (by omega) (by omega) (by omega)

end Go.Proofs.YtinholnidchblaaGreatDoor

/-
  The program's two questions on widths, by contract.
-/
namespace Go.Proofs.YtinholnidchblaaGreatDoor
open Go.RowKit

def isW (n : Int) : Bool := decide (1 ≤ n ∧ n ≤ 4)
theorem isW_true {n : Int} (h : 1 ≤ n ∧ n ≤ 4) : isW n = true := by simp [isW, h]
theorem isW_false {n : Int} (h : ¬ (1 ≤ n ∧ n ≤ 4)) : isW n = false := by simp only [isW, decide_eq_false_iff_not]; exact h
def hasW (n k : Int) : Bool := decide (0 ≤ n ∧ n < 2 ^ (8 * k).toNat)
theorem lim_wrap {k : Int} (h1 : 1 ≤ k) (h4 : k ≤ 4) : wrap64 (2 ^ (8 * k).toNat) = 2 ^ (8 * k).toNat := by
  rcases (by omega : k = 1 ∨ k = 2 ∨ k = 3 ∨ k = 4) with rfl | rfl | rfl | rfl <;> simp [wrap64]
theorem lim_le {k : Int} (h1 : 1 ≤ k) (h4 : k ≤ 4) : (2 : Int) ^ (8 * k).toNat ≤ 4294967296 := by
  rcases (by omega : k = 1 ∨ k = 2 ∨ k = 3 ∨ k = 4) with rfl | rfl | rfl | rfl <;> decide
theorem hasW_lt {n k : Int} (h0 : 0 ≤ n) (h1 : 1 ≤ k) (h4 : k ≤ 4) : decide (n < wrap64 (2 ^ (8 * k).toNat)) = hasW n k := by
  rw [lim_wrap h1 h4]; simp [hasW, h0]
theorem hasW_bd {n k : Int} (h : hasW n k = true) (h1 : 1 ≤ k) (h4 : k ≤ 4) : 0 ≤ n ∧ n < 4294967296 := by
  have := lim_le h1 h4
  simp only [hasW, decide_eq_true_eq] at h
  omega

theorem isWidth_any (n : Int) (w : World) : Calls Tryz.prog 152 #[.int .i64 n] w fun e w' => e = .returned (.bool (isW n)) ∧ w = w' := by
  by_cases h1 : 1 ≤ n
  · by_cases h4 : n ≤ 4
    · have hs : Hid (isW n = true) := isW_true ⟨h1, h4⟩
      go_enter Tryz.func152, Tryz.ntmps152
      go_wp2
      go_ret
      exact ⟨ret_bool hs.out.symm, rfl⟩
    · have hs : Hid (isW n = false) := isW_false (by omega)
      go_enter Tryz.func152, Tryz.ntmps152
      go_wp2
      go_ret
      exact ⟨ret_bool hs.out.symm, rfl⟩
  · have hs : Hid (isW n = false) := isW_false (by omega)
    go_enter Tryz.func152, Tryz.ntmps152
    go_wp2
    go_ret
    exact ⟨ret_bool hs.out.symm, rfl⟩

theorem hasWidth_any (n k : Int) (w : World) (h1 : 1 ≤ k) (h4 : k ≤ 4) : Calls Tryz.prog 153 #[.int .i64 n, .int .i64 k] w fun e w' => e = .returned (.bool (hasW n k)) ∧ w = w' := by
  by_cases h0 : 0 ≤ n
  · go_enter Tryz.func153, Tryz.ntmps153
    go_wp2
    go_ret
    exact ⟨ret_bool (hasW_lt h0 h1 h4), rfl⟩
  · have hs : Hid (hasW n k = false) := by show _ = _; simp only [hasW, decide_eq_false_iff_not]; omega
    go_enter Tryz.func153, Tryz.ntmps153
    go_wp2
    go_ret
    exact ⟨ret_bool hs.out.symm, rfl⟩

end Go.Proofs.YtinholnidchblaaGreatDoor

/-
  The program's Put, by contract: a number's bytes in a new block, or the nil slice.
-/
namespace Go.Proofs.YtinholnidchblaaGreatDoor
open Go.RowKit

set_option maxHeartbeats 400000 in
theorem put_yes (m : Nat) (n : Int) (w : World) (h1 : 1 ≤ m) (h4 : m ≤ 4) (hw : hasW n m = true) :
    Calls Tryz.prog 137 #[.int .i64 m, .int .i64 n] w fun e w' => e = .returned (.slice (some ⟨w.heap.size, 0, none⟩) m m) ∧ Blk w' w.heap.size (digs m n) ∧ Below w.heap.size w w' := by
  have hi : Hid (isW m = true) := isW_true (by omega)
  obtain ⟨hn0, hn1⟩ := hasW_bd hw (by omega) (by omega)
  have hh : Hid (hasW n m = true) := hw
  clear hw
  go_enter Tryz.func137, Tryz.ntmps137
  go_wp2_with (first
    | (go_at_call 152; refine (isWidth_any _ _).mono ?_; rintro e w' ⟨rfl, rfl⟩; rw [hi.out])
    | (go_at_call 153; refine (hasWidth_any _ _ _ (by omega) (by omega)).mono ?_; rintro e w' ⟨rfl, rfl⟩; rw [hh.out])
    | (at_make; refine wpList_mk rfl _ _ rfl _ _ _ _ m rfl rfl rfl rfl (by omega) ?_; intro w1 hb1 hl1))
  go_loopw [20] (fun i wr => ∃ (k : Nat) (zs : List Int), k ≤ m ∧ i = .int .i64 k ∧ Blk wr w.heap.size zs ∧ Mix zs (List.replicate m 0) (digs m n) k ∧ Below w.heap.size w wr)
    (fun i _ => m - (RowKit.intOf i).toNat)
  case atStart => exact ⟨0, _, Nat.zero_le _, rfl, hb1, Mix.start (by rw [digs_len]; simp), hl1⟩
  case round =>
    obtain ⟨k, zs, hk, rfl, hb, hmix, hl⟩ := hrel
    clear hb1 hl1
    by_cases hlt : k < m
    · have hf := hb.free k
      have hc : wr.cell? ⟨w.heap.size, k, none⟩ = some (.int .u8 (byt zs k)) := hb.cell (by rw [hmix.len, digs_len]; exact hlt)
      go_wp2
      go_roundw
      case rel => exact ⟨k + 1, _, by omega, by go_num, hb.set k _, hmix.set (by rw [digs_len]; exact hlt) (dig_at n hlt), hl.setCell (Nat.le_refl _) _⟩
      case measure => simp [RowKit.intOf]; omega
    · obtain rfl : k = m := by omega
      have hz : Hid (zs = digs k n) := hmix.done (fun j h h' => by rw [digs_len] at h'; omega)
      go_wp2
      go_ret
      exact ⟨rfl, by rw [← hz.out]; exact hb, hl⟩

set_option maxHeartbeats 400000 in
theorem put_no (k n : Int) (w : World) (h : isW k = false ∨ hasW n k = false) :
    Calls Tryz.prog 137 #[.int .i64 k, .int .i64 n] w fun e w' => e = .returned (.slice none 0 0) ∧ w = w' := by
  by_cases hw : 1 ≤ k ∧ k ≤ 4
  · have hi : Hid (isW k = true) := isW_true hw
    have hh : Hid (hasW n k = false) := by
      rcases h with h | h
      · rw [hi.out] at h; cases h
      · exact h
    obtain ⟨h1, h4⟩ := hw
    clear h
    go_enter Tryz.func137, Tryz.ntmps137
    go_wp2_with (first
      | (go_at_call 152; refine (isWidth_any _ _).mono ?_; rintro e w' ⟨rfl, rfl⟩; rw [hi.out])
      | (go_at_call 153; refine (hasWidth_any _ _ _ (by omega) (by omega)).mono ?_; rintro e w' ⟨rfl, rfl⟩; rw [hh.out]))
    go_ret
    exact ⟨rfl, rfl⟩
  · have hi : Hid (isW k = false) := isW_false hw
    clear h hw
    go_enter Tryz.func137, Tryz.ntmps137
    go_wp2_with (first
      | (go_at_call 152; refine (isWidth_any _ _).mono ?_; rintro e w' ⟨rfl, rfl⟩; rw [hi.out]))
    go_ret
    exact ⟨rfl, rfl⟩

end Go.Proofs.YtinholnidchblaaGreatDoor

/-
  The program's and the reference's Get, by contract.
-/
namespace Go.Proofs.YtinholnidchblaaGreatDoor
open Go.RowKit

end Go.Proofs.YtinholnidchblaaGreatDoor

/-
  Put, Get and Pad, each by one contract for every input.
-/
namespace Go.Proofs.YtinholnidchblaaGreatDoor
open Go.RowKit

/-- What Put answers. -/
def putL (k n : Int) : List Int := if isW k && hasW n k then digs k.toNat n else []
theorem putL_yes {m : Nat} {n : Int} (h1 : 1 ≤ m) (h4 : m ≤ 4) (h : hasW n m = true) : putL m n = digs m n := by
  simp [putL, isW_true (n := (m : Int)) (by omega), h]
theorem putL_no {k n : Int} (h : isW k = false ∨ hasW n k = false) : putL k n = [] := by
  rcases h with h | h <;> simp [putL, h]
theorem putL_small (k n : Int) : AllB (putL k n) := by
  unfold putL
  split
  · exact digs_small _ _
  · intro z hz; cases hz
theorem put_fun (k n : Int) (w : World) : Calls Tryz.prog 137 #[.int .i64 k, .int .i64 n] w (RetB w (putL k n)) := by
  by_cases h : isW k = false ∨ hasW n k = false
  · rw [putL_no h]
    exact (put_no k n w h).mono fun e w' ⟨he, hw⟩ => by subst he hw; exact RetB.nil _
  · have h1 : isW k = true := by cases hk : isW k <;> simp_all
    have h2 : hasW n k = true := by cases hk : hasW n k <;> simp_all
    obtain ⟨a, b⟩ : 1 ≤ k ∧ k ≤ 4 := by simpa [isW] using h1
    obtain ⟨m, rfl⟩ := Int.eq_ofNat_of_zero_le (by omega : 0 ≤ k)
    rw [putL_yes (by omega) (by omega) h2]
    refine (put_yes m n w (by omega) (by omega) h2).mono fun e w' ⟨he, hb, hl⟩ => ?_
    subst he
    have := RetB.blk (w0 := w) (c := m) hb (digs_small m n) hl
    rwa [digs_len] at this

theorem hasW_quo {m : Nat} {n : Int} (h1 : 1 ≤ m) (h4 : m ≤ 4) (h0 : 0 ≤ n) : (0 < n / 256 ^ m ↔ hasW n m = false) := by
  unfold hasW
  rcases (by omega : m = 1 ∨ m = 2 ∨ m = 3 ∨ m = 4) with rfl | rfl | rfl | rfl <;> simp <;> omega

/-- What Get answers. -/
def getO (la : Nat) (p k : Int) : Bool := decide ((1 ≤ k ∧ k ≤ 4) ∧ 0 ≤ p ∧ p ≤ la - k)
def getV (la : Nat) (x : List Int) (p k : Int) : Int := if getO la p k then getN x p.toNat k.toNat else 0
theorem getO_yes {la m p : Nat} (h1 : 1 ≤ m) (h4 : m ≤ 4) (h : p + m ≤ la) : getO la p m = true := by
  unfold getO
  rw [decide_eq_true_eq]
  omega
end Go.Proofs.YtinholnidchblaaGreatDoor

/-
  Encode of the program and of the document, by contract.
-/
namespace Go.Proofs.YtinholnidchblaaGreatDoor
open Go.RowKit
set_option linter.unusedVariables false
set_option linter.unusedSimpArgs false

/-- Bytes, as the cells of a slice have them. -/
def bI (l : List UInt8) : List Int := l.map fun b => ((b.toNat : Nat) : Int)
theorem bI_len (l : List UInt8) : (bI l).length = l.length := by simp [bI]
theorem bI_all (l : List UInt8) : AllB (bI l) := fun z hz => by
  obtain ⟨b, _, rfl⟩ := List.mem_map.1 hz
  have := b.toNat_lt
  omega
theorem str_cells (s : ByteArray) : Lib.strCells s = (bI s.data.toList).map (Value.int .u8) := by
  unfold Lib.strCells bI
  rw [List.map_map]
  rfl
/-- An entry's bytes. -/
def encE (e : En) : List Int := [e.i, 0, (e.s.size : Int)] ++ bI e.s.data.toList
/-- Entries' bytes. -/
def encL (L : List En) : List Int := L.flatMap encE
/-- What Encode answers. -/
def encO (L : List En) : List Int := if rgt L then encL L else []
theorem okE_all {e : En} (h : okE e = true) : nmB e.s.data.toList = true ∧ 1 ≤ e.i ∧ e.i ≤ 56 ∧ 1 ≤ e.s.size ∧ e.s.size ≤ 12 := by
  unfold okE at h
  rw [Bool.and_eq_true, Bool.and_eq_true, decide_eq_true_eq, decide_eq_true_eq] at h
  obtain ⟨⟨h1, h2⟩, h3⟩ := h
  refine ⟨h1, h2, h3, ?_⟩
  unfold nmB at h1
  simp only [Bool.and_eq_true, decide_eq_true_eq] at h1
  have hs := Lib.size_eq e.s
  omega
theorem encE_len {e : En} : (encE e).length = 3 + e.s.size := by
  unfold encE
  rw [List.length_append, bI_len, ← Lib.size_eq]
  rfl
theorem encE_all {e : En} (h : okE e = true) : AllB (encE e) := by
  have := okE_all h
  unfold encE
  refine AllB.app (fun z hz => ?_) (bI_all _)
  simp at hz
  omega
theorem digs2 {i : Int} (h1 : 1 ≤ i) (h2 : i ≤ 56) : digs 2 i = [i, 0] := by
  simp [digs]; omega
theorem digs1 {i : Int} (h1 : 0 ≤ i) (h2 : i ≤ 56) : digs 1 i = [i] := by
  simp [digs]; omega
theorem hasW2 {i : Int} (h1 : 1 ≤ i) (h2 : i ≤ 56) : hasW i ((2 : Nat) : Int) = true := by
  unfold hasW
  simp
  omega
theorem hasW1 {i : Int} (h1 : 0 ≤ i) (h2 : i ≤ 56) : hasW i ((1 : Nat) : Int) = true := by
  unfold hasW
  simp
  omega
theorem encL_step {L : List En} {k : Nat} (hk : k < L.length) : encL (L.take (k + 1)) = encL (L.take k) ++ encE (eat L k) := by
  rw [← take_snoc hk]
  simp [encL]
theorem encL_len {L : List En} (h : L.all okE = true) : (encL L).length ≤ L.length * 15 := by
  induction L with
  | nil => simp [encL]
  | cons x L ih =>
    rw [List.all_cons, Bool.and_eq_true] at h
    have := ih h.2
    have h2 := okE_all h.1
    have h3 := encE_len (e := x)
    simp only [encL, List.flatMap_cons, List.length_append, List.length_cons] at *
    omega
theorem all_at {L : List En} (h : L.all okE = true) {k : Nat} (hk : k < L.length) : okE (eat L k) = true := List.all_eq_true.1 h _ (eat_mem hk)
theorem all_take {L : List En} (h : L.all okE = true) (k : Nat) : (L.take k).all okE = true := by
  rw [List.all_eq_true] at *
  exact fun x hx => h x (List.mem_of_mem_take hx)
theorem own_nil8 (w : World) (B : Nat) : Own w B (.slice none 0 0) 0 [] := ⟨World.ownsRow_nil _ _ _ _, fun z hz => by cases hz⟩
/-- Bytes and a bool that a call answers; the bytes are its own. -/
def EncPost (w : World) (zs : List Int) (ok : Bool) (e : Ending) (w' : World) : Prop := ∃ v, e = .returned (.tuple #[v, .bool ok]) ∧ Own w' w.heap.size v zs.length zs ∧ Below w.heap.size w w'
theorem bys_news {w : World} {p : Addr} {m : Nat} {ys : List Int} (hy : Bys w (some p) m ys) : ∀ j u, (ys.map (Value.int .u8))[j]? = some u → w.cell? (p.add j) = some u := by
  intro j u hj
  have hjm : j < m := by
    rcases Nat.lt_or_ge j m with h | h
    · exact h
    · rw [List.getElem?_eq_none (by simp [hy.len]; omega)] at hj; cases hj
  have hv : u = .int .u8 (byt ys j) := by
    rw [List.getElem?_map] at hj
    have hjx : j < ys.length := by rw [hy.len]; exact hjm
    simp [List.getElem?_eq_getElem hjx] at hj
    simp [byt, List.getD, hjx, hj]
  rcases hy.place with h0 | ⟨b, off, hp, _, hcell⟩
  · omega
  · cases hp
    rw [hv, add_e]
    exact hcell j hjm
theorem ints_one (ys : List Int) : ∀ u ∈ ys.map (Value.int .u8), u.oneCell' = true := fun u hu => by
  obtain ⟨z, _, rfl⟩ := List.mem_map.1 hu
  rfl
/-- 'append(s, x...)' of bytes, s of the call's own; and what else lies stays. -/
theorem wpList_apk {w : World} {ops : Array Oper} {rest : List Oper} {o : Oper} {a : Act} {Q : Exit → Act → World → Prop} (hgd : o.guard = none) (s x : Operand)
    (ho : o.op = .call { callee := .builtin .append, args := #[s, x], argTypes := #[29, 29] })
    (B : Nat) (v : Value) (n : Nat) (zs : List Int) (hs : a.eval s = v) (hown : Own w B v n zs) (p : Addr) (m c : Nat) (ys : List Int) (hx : a.eval x = .slice (some p) m c) (hy : Bys w (some p) m ys) (hm : 0 < m)
    (hnm : n + m ≤ 140737488355328) (hB : B ≤ w.heap.size) (w0 : World) (hb : Below B w0 w)
    (h : ∀ g cap w', Own w' B (.slice (some ⟨g, 0, none⟩) (n + m) cap) (n + m) (zs ++ ys) → Below B w0 w' → w.grownBy w' v.ownBlock → (v.ownBlock = some g ∨ g = w.heap.size) → wpList Tryz.prog ops Q rest (a.put o.dst (.slice (some ⟨g, 0, none⟩) (n + m) cap)) w') : wpList Tryz.prog ops Q (o :: rest) a w := by
  obtain ⟨i0, hi, hz0, hz1, hz2⟩ := info_parts info8
  refine wpList_append_lies w hgd s x 29 ho B 5 i0 (.int .u8 0) 1 1 Tryz.underlying29 hi hz0 hz1 hz2 rfl (by decide) v n _ hs hown.row p m c (ys.map (Value.int .u8)) hx (by simp [hy.len]) (bys_news hy) (ints_one ys) hm (by unfold maxLen; omega) (by omega) hB _ rfl ?_
  intro g cap w' hown' hgrow hat _
  exact h g cap w' ⟨by rw [List.map_append]; exact hown', hown.small.app hy.small⟩ (hb.grown hgrow hB fun k hk => (hown.row.lt k hk).1) hgrow hat
/-- The same as a step of a region that draws its order. -/
theorem wp_apk {w : World} {o : Oper} {a : Act} {K : Act → World → Prop} {Q : Exit → Act → World → Prop} (s x : Operand)
    (ho : o.op = .call { callee := .builtin .append, args := #[s, x], argTypes := #[29, 29] })
    (B : Nat) (v : Value) (n : Nat) (zs : List Int) (hs : a.eval s = v) (hown : Own w B v n zs) (p : Addr) (m c : Nat) (ys : List Int) (hx : a.eval x = .slice (some p) m c) (hy : Bys w (some p) m ys) (hm : 0 < m)
    (hnm : n + m ≤ 140737488355328) (hB : B ≤ w.heap.size) (w0 : World) (hb : Below B w0 w)
    (h : ∀ g cap w', Own w' B (.slice (some ⟨g, 0, none⟩) (n + m) cap) (n + m) (zs ++ ys) → Below B w0 w' → K (a.put o.dst (.slice (some ⟨g, 0, none⟩) (n + m) cap)) w') :
    Oper.wp Tryz.prog o a w K Q := by
  obtain ⟨i0, hi, hz0, hz1, hz2⟩ := info_parts info8
  refine wp_append_lies w s x 29 ho B 5 i0 (.int .u8 0) 1 1 Tryz.underlying29 hi hz0 hz1 hz2 rfl (by decide) v n _ hs hown.row p m c (ys.map (Value.int .u8)) hx (by simp [hy.len]) (bys_news hy) (ints_one ys) hm (by unfold maxLen; omega) (by omega) hB _ rfl ?_
  intro g cap w' hown' hgrow hat _
  exact h g cap w' ⟨by rw [List.map_append]; exact hown', hown.small.app hy.small⟩ (hb.grown hgrow hB fun k hk => (hown.row.lt k hk).1)
/-- The like of entries. -/
theorem wp_ape {w : World} {o : Oper} {a : Act} {K : Act → World → Prop} {Q : Exit → Act → World → Prop} (s x : Operand)
    (ho : o.op = .call { callee := .builtin .append, args := #[s, x], argTypes := #[52, 52] })
    (B : Nat) (v : Value) (n : Nat) (L : List En) (hs : a.eval s = v) (hown : OwnE w B v n L) (b off m c : Nat) (M : List En) (hx : a.eval x = .slice (some ⟨b, off, none⟩) m c) (hM : Ens w (some ⟨b, off, none⟩) m M) (hm : 0 < m)
    (hn : n + m ≤ 1000000000000) (hB : B ≤ w.heap.size) (w0 : World) (hb : Below B w0 w)
    (h : ∀ v' w', OwnE w' B v' (n + m) (L ++ M) → Below B w0 w' → K (a.put o.dst v') w') :
    Oper.wp Tryz.prog o a w K Q := by
  obtain ⟨i0, hi, hz0, hz1, hz2⟩ := info_parts infoE
  refine wp_append_lies w s x 52 ho B 77 i0 _ 2 24 Tryz.underlying52 hi hz0 hz1 hz2 rfl (by decide) v n _ hs hown ⟨b, off, none⟩ m c (M.flatMap ecl) hx (by rw [eflat_len, hM.len]) hM.cells (eflat_one M) hm (by unfold maxLen; omega) (by omega) hB _ rfl ?_
  intro g cap w' hown' hgrow hat _
  exact h _ w' (by unfold OwnE; rw [List.flatMap_append]; exact hown') (hb.grown hgrow hB fun k hk => (hown.lt k hk).1)
/-- 'append(s, t...)', t a text. -/
theorem wpList_aps {w : World} {ops : Array Oper} {rest : List Oper} {o : Oper} {a : Act} {Q : Exit → Act → World → Prop} (hgd : o.guard = none) (s x : Operand)
    (ho : o.op = .call { callee := .builtin .append, args := #[s, x], argTypes := #[29, 9] })
    (B : Nat) (v : Value) (n : Nat) (zs : List Int) (hs : a.eval s = v) (hown : Own w B v n zs) (t : ByteArray) (hx : a.eval x = .string t)
    (hnm : n + t.size ≤ 140737488355328) (hB : B ≤ w.heap.size) (w0 : World) (hb : Below B w0 w)
    (h : ∀ v' w', Own w' B v' (n + t.size) (zs ++ bI t.data.toList) → Below B w0 w' → wpList Tryz.prog ops Q rest (a.put o.dst v') w') : wpList Tryz.prog ops Q (o :: rest) a w := by
  obtain ⟨i0, hi, hz0, hz1, hz2⟩ := info_parts info8
  refine Lib.wpList_append_own_string w hgd s x _ _ ho B 5 i0 Tryz.underlying29 Tryz.underlying9 hi hz0 hz1 hz2 v n _ hs hown.row t hx (by unfold maxLen; omega) hnm hB ?_
  intro v' w' hown' hgrow _
  refine h v' w' ⟨?_, hown.small.app (bI_all _)⟩ (hb.grown hgrow hB fun k hk => (hown.row.lt k hk).1)
  rw [List.map_append, ← str_cells]
  exact hown'
end Go.Proofs.YtinholnidchblaaGreatDoor

/-
  A worker copies a node, with the places of what was met: by contract.
-/
namespace Go.Proofs.YtinholnidchblaaGreatDoor
open Go.RowKit
set_option linter.unusedVariables false
set_option linter.unusedSimpArgs false

/-- 'append' of entries at a step of a region that draws its order, with what has turned. -/
theorem wp_ape2 {w : World} {o : Oper} {a : Act} {K : Act → World → Prop} {Q : Exit → Act → World → Prop} (s x : Operand)
    (ho : o.op = .call { callee := .builtin .append, args := #[s, x], argTypes := #[52, 52] })
    (B : Nat) (v : Value) (n : Nat) (L : List En) (hs : a.eval s = v) (hown : OwnE w B v n L) (b off m c : Nat) (M : List En) (hx : a.eval x = .slice (some ⟨b, off, none⟩) m c) (hM : Ens w (some ⟨b, off, none⟩) m M) (hm : 0 < m)
    (hn : n + m ≤ 1000000000000) (hB : B ≤ w.heap.size) (w0 : World) (hb : Below B w0 w)
    (h : ∀ v' w', OwnE w' B v' (n + m) (L ++ M) → Below B w0 w' → w.grownBy w' v.ownBlock → K (a.put o.dst v') w') :
    Oper.wp Tryz.prog o a w K Q := by
  obtain ⟨i0, hi, hz0, hz1, hz2⟩ := info_parts infoE
  refine wp_append_lies w s x 52 ho B 77 i0 _ 2 24 Tryz.underlying52 hi hz0 hz1 hz2 rfl (by decide) v n _ hs hown ⟨b, off, none⟩ m c (M.flatMap ecl) hx (by rw [eflat_len, hM.len]) hM.cells (eflat_one M) hm (by unfold maxLen; omega) (by omega) hB _ rfl ?_
  intro g cap w' hown' hgrow hat _
  exact h _ w' (by unfold OwnE; rw [List.flatMap_append]; exact hown') (hb.grown hgrow hB fun k hk => (hown.lt k hk).1) hgrow
/-- The places that entries tell, when all is met. -/
def plG (f : Nat → Nc) (n : Nat) (k : Nat) : Nat := (met (chs (ndL f n))).idxOf k
theorem set_step {E : List En} {k : Nat} (h : k < E.length) (g : Nat → Nat) : (E.take k).map (setI g) ++ [setI g (eat E k)] = (E.take (k + 1)).map (setI g) := by
  have : E.take (k + 1) = E.take k ++ [eat E k] := by
    rw [List.take_add_one, List.getElem?_eq_getElem h]
    simp [eat, List.getD, h]
  rw [this, List.map_append]
  rfl
/-- The block of a node's variable. -/
def NdB1 (w : World) (b : Nat) (vs : Array Value) : Prop := w.heap[b]? = some (.cells vs 54 (0, 0))
theorem NdB1.load {w : World} {b : Nat} {v0 v1 v2 v3 : Value} (h : NdB1 w b #[v0, v1, v2, v3]) : (loadVar 54 ⟨b, 0, none⟩).run Tryz.prog w = .ok (.agg #[v0, v1, v2, v3]) w :=
  run_loadVar_row w b _ _ _ _ _ h Tryz.underlying54 rfl (by kernel_rfl)
theorem NdB1.set {w : World} {b : Nat} {a0 a1 a2 a3 : Value} (h : NdB1 w b #[a0, a1, a2, a3]) (v0 v1 v2 v3 : Value) :
    NdB1 ((((w.setCell ⟨b, 0, none⟩ v0).setCell ⟨b, 1, none⟩ v1).setCell ⟨b, 2, none⟩ v2).setCell ⟨b, 3, none⟩ v3) b #[v0, v1, v2, v3] := cells_set (cells_set (cells_set (cells_set h)))
theorem NdB1.cells {w : World} {b : Nat} {v0 v1 v2 v3 : Value} (h : NdB1 w b #[v0, v1, v2, v3]) : w.cell? ⟨b, 0, none⟩ = some v0 ∧ w.cell? ⟨b, 1, none⟩ = some v1 ∧ w.cell? ⟨b, 2, none⟩ = some v2 ∧ w.cell? ⟨b, 3, none⟩ = some v3 := by
  unfold NdB1 at h
  refine ⟨?_, ?_, ?_, ?_⟩ <;> simp [World.cell?, h]
theorem NdB1.free {w : World} {b : Nat} {vs : Array Value} (h : NdB1 w b vs) (i : Nat) : w.frozen? ⟨b, i, none⟩ = false := frozen_of_row w b i _ _ h
/-- What copied leaves: a node's value. -/
def CoPost (w : World) (k l : Int) (d : List Int) (E : List En) (e : Ending) (w' : World) : Prop :=
  ∃ da dc ea ec, e = .returned (.agg #[.int .i64 k, .int .i64 l, .slice da d.length dc, .slice ea E.length ec]) ∧ Pin w' da d.length dc d ∧ Enz w' ea E.length ec E ∧ Below w.heap.size w w'
section
variable {w : World} {wb pb eb n c : Nat} {na : Option Addr} {f : Nat → Nc}
set_option maxRecDepth 100000 in
set_option maxHeartbeats 16000000 in
theorem copied_any (h : Mtd w wb pb eb na n c f) (hok : EntOk n f) {a : Nat} (ha : a < n) (hf : Fit (f a).e) (hcl : ∀ y ∈ (f a).e, inoN y ∈ met (chs (ndL f n))) (hdl : (f a).d.length ≤ 100000) :
    Calls Tryz.prog 73 #[.pointer (some ⟨wb, 0, none⟩), .int .i64 a] w (CoPost w (f a).k (lnkM (ndL f n) a) (f a).d ((f a).e.map (setI (plG f n)))) := by
  have hn := hok.1
  obtain ⟨g, hg⟩ : ∃ g, g = plG f n := ⟨_, rfl⟩
  rw [← hg]
  have hlen0 := (h.nds.ents a ha).ens.len
  have hdlen := (h.nds.data a ha).len
  have c0 := h.wk.c0
  have hwl := h.wk.lt
  obtain ⟨b, off, rfl, hbl, d0, d1, d2, d3⟩ := h.nds.at ha
  rw [← hlen0] at d3
  have k0 : (0 : Int) ≤ (a : Int) := by omega
  have k1 : (a : Int) < (n : Int) := by omega
  obtain ⟨W0, hW0⟩ : ∃ W0, W0 = (w.alloc (.cells #[.int .i64 0, .int .i64 0, .slice none 0 0, .slice none 0 0] 54 (0, 0))).alloc (.cells #[.int .i64 (f a).k, .int .i64 (f a).l, .slice (f a).da (f a).dn (f a).dc, .slice (f a).ea (f a).e.length (f a).ec] 54 (0, 0)) := ⟨_, rfl⟩
  have hbW : Below w.heap.size w W0 := by rw [hW0]; exact ((Below.refl _ _).alloc (Nat.le_refl _) _).alloc (by simp) _
  obtain ⟨H, hH⟩ : ∃ H, H = w.heap.size := ⟨_, rfl⟩
  have hr1 : NdB1 W0 H #[.int .i64 0, .int .i64 0, .slice none 0 0, .slice none 0 0] := by
    have h1 := heap_alloc_new w (.cells #[.int .i64 0, .int .i64 0, .slice none 0 0, .slice none 0 0] 54 (0, 0))
    rw [hW0, hH]
    exact (Below.heap_alloc _ _ _ (by simp)).trans h1
  have hr2 : NdB1 W0 (H + 1) #[.int .i64 (f a).k, .int .i64 (f a).l, .slice (f a).da (f a).dn (f a).dc, .slice (f a).ea (f a).e.length (f a).ec] := by
    have h1 := heap_alloc_new (w.alloc (.cells #[.int .i64 0, .int .i64 0, .slice none 0 0, .slice none 0 0] 54 (0, 0))) (.cells #[.int .i64 (f a).k, .int .i64 (f a).l, .slice (f a).da (f a).dn (f a).dc, .slice (f a).ea (f a).e.length (f a).ec] 54 (0, 0))
    have e : (w.alloc (.cells #[.int .i64 0, .int .i64 0, .slice none 0 0, .slice none 0 0] 54 (0, 0))).heap.size = w.heap.size + 1 := by simp
    rw [e] at h1
    rw [hW0, hH]
    exact h1
  have hW0s : W0.heap.size = H + 1 + 1 := by rw [hW0, hH]; simp
  have HW0M := Lib.hid (h.next hbW)
  have HR1 := Lib.hid hr1
  have HR2 := Lib.hid hr2
  have HH := Lib.hid hH
  have HWS := Lib.hid hW0s
  have HBW := Lib.hid hbW
  have HOK := Lib.hid hok
  have HF := Lib.hid hf
  have HCL := Lib.hid hcl
  have HGG := Lib.hid hg
  have HDL := Lib.hid (And.intro hdl hdlen)
  have hel := (hok.2 a ha).1
  obtain ⟨E, hE⟩ : ∃ E, E = (f a).e := ⟨_, rfl⟩
  rw [← hE] at hW0 HR2 HF HCL hel d3 ⊢
  have HEE := Lib.hid hE
  clear h hok hf hcl hlen0 hdlen hr1 hr2 hW0s hbW hdl hg hE
  go_enter Tryz.func73, Tryz.ntmps73
  go_wp2_with (fail)
  rw [← hW0, ← hH]
  clear hW0 hH hwl hbl
  go_loopw [6, 20] (fun v6 v wr => ∃ j : Nat, j ≤ E.length ∧ v = .int .i64 j ∧ OwnE wr W0.heap.size v6 j ((E.take j).map (setI g)) ∧ Below W0.heap.size W0 wr) (fun _ v _ => E.length - (RowKit.intOf v).toNat)
  case atStart => exact ⟨0, Nat.zero_le _, rfl, ownE_nil _ _, Below.refl _ _⟩
  case round =>
    obtain ⟨j, hj, rfl, hO, hB⟩ := hrel
    have HB := Lib.hid hB
    by_cases hlt : j < E.length
    · have j0 : (0 : Int) ≤ (j : Int) := by omega
      have j1 : (j : Int) < (E.length : Int) := by omega
      have hm := HW0M.out.next hB
      obtain ⟨b2, off2, he2, hbl2, hd1, hd2⟩ := (hm.nds.ents a ha).ens.at (i := j) (by rw [← (hm.nds.ents a ha).ens.len, ← HEE.out]; exact hlt)
      rw [← HEE.out] at hd1 hd2
      rw [he2] at *
      have hbnd := (HOK.out.2 a ha).2 _ (by rw [← HEE.out]; exact eat_mem hlt)
      obtain ⟨kd, hkd⟩ : ∃ kd : Nat, (eat E j).i = (kd : Int) := ⟨inoN (eat E j), by unfold inoN; omega⟩
      have hki : inoN (eat E j) = kd := by unfold inoN; omega
      have hmem : kd ∈ met (chs (ndL f n)) := by rw [← hki]; exact HCL.out _ (eat_mem hlt)
      rw [hkd] at hd2
      obtain ⟨s, hs⟩ : ∃ s, s = (eat E j).s := ⟨_, rfl⟩
      rw [← hs] at hd1
      have hss : s.size ≤ 281474976710656 := by rw [hs]; exact HF.out.at hlt
      obtain ⟨ix, hix⟩ : ∃ ix, ix = g kd := ⟨_, rfl⟩
      have hstep := set_step hlt g
      have hset : setI g (eat E j) = En.mk s (ix : Int) := by rw [setI, hki, ← hs, ← hix]
      rw [hset] at hstep
      obtain ⟨q, hq⟩ : ∃ q, q = wr.heap.size := ⟨_, rfl⟩
      obtain ⟨w3, hw3⟩ : ∃ w3, w3 = (wr.alloc (.cells #[.string s, .int .i64 (kd : Int)] 77 (0, 0))).drew := ⟨_, rfl⟩
      have hr3 : w3.heap[q]? = some (.cells #[.string s, .int .i64 (kd : Int)] 77 (0, 0)) := by rw [hw3, hq]; exact heap_alloc_new wr _
      have hb3 : Below wr.heap.size wr w3 := by rw [hw3]; exact below_drewN ((Below.refl _ _).alloc (Nat.le_refl _) _) 1
      have hm3 := hm.next hb3
      obtain ⟨va, vc, rfl, _, _, _, _, hlo⟩ := hO.ens
      have HO3 := Lib.hid (hO.next hb3)
      have HW3 := Lib.hid (hB.trans (hb3.mono hB.size))
      have HS : Hid (∀ w', Below w3.heap.size w3 w' → (w'.cell? ⟨wb, 1, none⟩ = some (.map (some pb)) ∧ w'.cell? ⟨q, 0, none⟩ = some (.string s) ∧ w'.cell? ⟨q, 1, none⟩ = some (.int .i64 (kd : Int)))) := Lib.hid (fun w' hb' => by
        have h1 := (hm3.next hb').wk.c1
        have h2 : w'.heap[q]? = _ := (hb'.block q (lt_of_block hr3)).trans hr3
        exact ⟨h1, by simp [World.cell?, h2], by simp [World.cell?, h2]⟩)
      have HLK : Hid (∀ w', Below w3.heap.size w3 w' → (Instr.lookup 79 (.map (some pb)) (.int .i64 (kd : Int)) false).run Tryz.prog w' = .ok (.int .i64 (ix : Int)) w') := Lib.hid (fun w' hb' => by
        have := (hm3.next hb').pl.get (a := kd) (by omega) hmem
        rw [hix, HGG.out]
        exact this)
      have HCN := Lib.hid (fun w' : World => clone_any s w' hss)
      have HQ := Lib.hid hq
      have HS6F : Hid (∀ w5 w6, Below w3.heap.size w3 w5 → w5.grownBy w6 (Value.slice va j vc).ownBlock → (w6.cell? ⟨wb, 1, none⟩ = some (.map (some pb)) ∧ w6.cell? ⟨q, 0, none⟩ = some (.string s) ∧ w6.cell? ⟨q, 1, none⟩ = some (.int .i64 (kd : Int)))) := Lib.hid (fun w5 w6 h5 h6 => by
        have hne : ∀ k, (Value.slice va j vc).ownBlock = some k → k < wr.heap.size := fun k hk => (hO.lt k hk).2
        have hq5 : w5.heap[q]? = _ := (h5.block q (lt_of_block hr3)).trans hr3
        have hq6 : w6.heap[q]? = _ := (h6.block q (lt_of_block hq5) (fun e => by have := hne q e.symm; omega)).trans hq5
        have hwb := (hm3.next h5).wk
        have hlow := (hO.lt)
        have hwbk : w6.heap[wb]? = w5.heap[wb]? := h6.block wb hwb.lt (fun e => by
          have h1 := (hO.lt wb e.symm).1
          have h2 := HW0M.out.wk.lt
          omega)
        exact ⟨(hwb.block hwbk).c1, by simp [World.cell?, hq6], by simp [World.cell?, hq6]⟩)
      have HSTEP := Lib.hid hstep
      have hS3 := HS.out w3 (Below.refl _ _)
      clear hbl2 hbnd hkd hki hmem hs hss hix hstep hset hr3 hb3 hm3 hm hO hB hlo he2
      go_wp2_with (fail)
      rw [← hq]
      refine wp_region_held_drew (S := (fun w' => w'.cell? ⟨wb, 1, none⟩ = some (.map (some pb)) ∧ w'.cell? ⟨q, 0, none⟩ = some (.string s) ∧ w'.cell? ⟨q, 1, none⟩ = some (.int .i64 (kd : Int)))) (by kernel_rfl) ?_ (fun hHeld => ?_)
      · rw [← hw3]
        exact hS3
      rw [← hw3] at hHeld ⊢
      clear hw3 hq hHeld hd1 hd2
      refine wpAnyH_take (i := 0) (v := ?_) rfl (by kernel_rfl) (by kernel_rfl) (by kernel_rfl) (fun _ _ _ h => h) (Or.inl ⟨by rfl, fun w hSw => ?_⟩) (by assumption) ?_
      rotate_left
      · (try dsimp only at hSw); go_simp; try with_reducible rfl
      simp only [Act.put, List.setIfInBounds_toArray, List.set_cons_zero, List.set_cons_succ, List.getElem_toArray, List.getElem_cons_zero]
      refine wpAnyH_take (i := 1) (v := ?_) rfl (by kernel_rfl) (by kernel_rfl) (by kernel_rfl) (fun _ _ _ h => h) (Or.inl ⟨by rfl, fun w hSw => ?_⟩) (by assumption) ?_
      rotate_left
      · (try dsimp only at hSw); go_simp; try with_reducible rfl
      simp only [Act.put, List.setIfInBounds_toArray, List.set_cons_zero, List.set_cons_succ, List.getElem_toArray, List.getElem_cons_succ, List.getElem_cons_zero]
      refine wpAnyH_take (i := 2) (v := ?_) rfl (by kernel_rfl) (by kernel_rfl) (by kernel_rfl) (fun _ _ _ h => h) (Or.inl ⟨by rfl, fun w hSw => ?_⟩) (by assumption) ?_
      rotate_left
      · (try dsimp only at hSw); go_simp; try with_reducible rfl
      simp only [Act.put, List.setIfInBounds_toArray, List.set_cons_zero, List.set_cons_succ, List.getElem_toArray, List.getElem_cons_succ, List.getElem_cons_zero]
      refine wpAnyH_take (i := 4) (v := ?_) rfl (by kernel_rfl) (by kernel_rfl) (by kernel_rfl) (fun _ _ _ h => h) (Or.inl ⟨by rfl, fun w hSw => ?_⟩) (by assumption) ?_
      rotate_left
      · (try dsimp only at hSw); go_simp; try with_reducible rfl
      simp only [Act.put, List.setIfInBounds_toArray, List.set_cons_zero, List.set_cons_succ, List.getElem_toArray, List.getElem_cons_succ, List.getElem_cons_zero]
      refine wpAnyH_take (i := 5) (v := ?_) rfl (by kernel_rfl) (by kernel_rfl) (by kernel_rfl) (fun _ _ _ h => h) (Or.inl ⟨by rfl, fun w hSw => ?_⟩) (by assumption) ?_
      rotate_left
      · (try dsimp only at hSw); go_simp; try with_reducible rfl
      simp only [Act.put, List.setIfInBounds_toArray, List.set_cons_zero, List.set_cons_succ, List.getElem_toArray, List.getElem_cons_succ, List.getElem_cons_zero]
      refine wpAnyH_take (i := 6) (v := ?_) rfl (by kernel_rfl) (by kernel_rfl) (by kernel_rfl) (fun _ _ _ h => h) (Or.inl ⟨by rfl, fun w hSw => ?_⟩) (by assumption) ?_
      rotate_left
      · (try dsimp only at hSw); go_simp; try with_reducible rfl
      simp only [Act.put, List.setIfInBounds_toArray, List.set_cons_zero, List.set_cons_succ, List.getElem_toArray, List.getElem_cons_succ, List.getElem_cons_zero]
      refine wpAnyH_take (i := 7) (v := ?_) rfl (by kernel_rfl) (by kernel_rfl) (by kernel_rfl) (fun _ _ _ h => h) (Or.inl ⟨by rfl, fun w hSw => ?_⟩) (by assumption) ?_
      rotate_left
      · (try dsimp only at hSw); go_simp; try with_reducible rfl
      simp only [Act.put, List.setIfInBounds_toArray, List.set_cons_zero, List.set_cons_succ, List.getElem_toArray, List.getElem_cons_succ, List.getElem_cons_zero]
      refine wpAnyH_take (i := 8) (v := ?_) rfl (by kernel_rfl) (by kernel_rfl) (by kernel_rfl) (fun _ _ _ h => h) (Or.inl ⟨by rfl, fun w hSw => ?_⟩) (by assumption) ?_
      rotate_left
      · (try dsimp only at hSw); go_simp; try with_reducible rfl
      simp only [Act.put, List.setIfInBounds_toArray, List.set_cons_zero, List.set_cons_succ, List.getElem_toArray, List.getElem_cons_succ, List.getElem_cons_zero]
      refine wpAnyH_take (i := 9) (v := ?_) rfl (by kernel_rfl) (by kernel_rfl) (by kernel_rfl) (fun _ _ _ h => h) (Or.inl ⟨by rfl, fun w hSw => ?_⟩) (by assumption) ?_
      rotate_left
      · (try dsimp only at hSw); go_simp; try with_reducible rfl
      simp only [Act.put, List.setIfInBounds_toArray, List.set_cons_zero, List.set_cons_succ, List.getElem_toArray, List.getElem_cons_succ, List.getElem_cons_zero]
      refine wpAnyH_ready (rs := [3, 10]) (by kernel_rfl) (by simp) ?_
      refine AllReadyH.cons rfl (fun K hK => ?_) (AllReadyH.cons rfl (fun K hK => ?_) AllReadyH.nil)
      · simp only [List.getElem_toArray, List.getElem_cons_succ, List.getElem_cons_zero]
        go_simp
        refine (HCN.out w3).mono ?_
        rintro e w4 ⟨rfl, hb4⟩
        have HB4 := Lib.hid hb4
        have hlk4 := HLK.out w4 hb4
        clear hb4
        go_wp2_with (fail)
        refine hK.out _ _ (HS.out _ HB4.out) (fun _ => ?_)
        clear hK K
        refine wpAnyH_ready (rs := [10]) (by kernel_rfl) (by simp) ?_
        refine AllReadyH.cons rfl (fun K hK => ?_) AllReadyH.nil
        simp only [List.getElem_toArray, List.getElem_cons_succ, List.getElem_cons_zero]
        go_simp
        refine hK.out _ _ (HS.out _ HB4.out) (fun _ => ?_)
        clear hK K
        clear hlk4
        refine wpAnyH_take (i := 11) (v := ?_) rfl (by kernel_rfl) (by kernel_rfl) (by kernel_rfl) (fun _ _ _ h => h) (Or.inl ⟨by rfl, fun w hSw => ?_⟩) (by assumption) ?_
        rotate_left
        · (try dsimp only at hSw); go_simp; try with_reducible rfl
        simp only [Act.put, List.setIfInBounds_toArray, List.set_cons_zero, List.set_cons_succ, List.getElem_toArray, List.getElem_cons_succ, List.getElem_cons_zero]
        refine wpAnyH_ready (rs := [12]) (by kernel_rfl) (by simp) ?_
        refine AllReadyH.cons rfl (fun K hK => ?_) AllReadyH.nil
        simp only [List.getElem_toArray, List.getElem_cons_succ, List.getElem_cons_zero]
        go_simp
        have hb5 : Below w3.heap.size w3 (w4.alloc (.cells #[.string s, .int .i64 (ix : Int)] 77 (0, 0))) := HB4.out.alloc HB4.out.size _
        refine hK.out _ _ (HS.out _ hb5) (fun _ => ?_)
        clear hK K
        have HO5 := Lib.hid (HO3.out.next hb5)
        have HW5 := Lib.hid (HW3.out.trans (hb5.mono HW3.out.size))
        have HM5 := Lib.hid (ens_one (w := w4) (g := w4.heap.size) s (ix : Int) rfl)
        have HB5 := Lib.hid hb5
        have hXs : W0.heap.size ≤ (w4.alloc (.cells #[.string s, .int .i64 (ix : Int)] 77 (0, 0))).heap.size := HW5.out.size
        clear hb5
        refine wpAnyH_ready (rs := [13]) (by kernel_rfl) (by simp) ?_
        refine AllReadyH.cons rfl (fun K hK => ?_) AllReadyH.nil
        simp only [List.getElem_toArray, List.getElem_cons_succ, List.getElem_cons_zero]
        rw [if_pos (by rfl)]
        refine wp_ape2 (.tmp 24) (.tmp 36) rfl W0.heap.size (.slice va j vc) j ((E.take j).map (setI g)) rfl HO5.out w4.heap.size 0 1 1 [En.mk s (ix : Int)] rfl HM5.out (by omega) (by omega) hXs W0 HW5.out ?_
        intro v6 w6 ho6 hb6 hg6
        have HS6 := Lib.hid (HS6F.out _ _ HB5.out hg6)
        refine hK.out _ _ HS6.out (fun _ => ?_)
        rw [HSTEP.out] at ho6
        have HO6 := Lib.hid ho6
        have HB6 := Lib.hid hb6
        clear hK K ho6 hb6 hg6
        refine wpAnyH_take (i := 14) (v := ?_) rfl (by kernel_rfl) (by kernel_rfl) (by kernel_rfl) (fun _ _ _ h => h) (Or.inl ⟨by rfl, fun w hSw => ?_⟩) (by assumption) ?_
        rotate_left
        · (try dsimp only at hSw); go_simp; try with_reducible rfl
        simp only [Act.put, List.setIfInBounds_toArray, List.set_cons_zero, List.set_cons_succ, List.getElem_toArray, List.getElem_cons_succ, List.getElem_cons_zero]
        refine wpAnyH_done (by kernel_rfl) ?_ _
        clear hXs
        go_wp2_with (fail)
        go_roundw
        case rel => exact ⟨j + 1, by omega, by go_num, HO6.out, HB6.out⟩
        case measure => simp [RowKit.intOf]; omega
      · have hlk3 := HLK.out w3 (Below.refl _ _)
        simp only [List.getElem_toArray, List.getElem_cons_succ, List.getElem_cons_zero]
        go_simp
        refine hK.out _ _ (HS.out _ (Below.refl _ _)) (fun _ => ?_)
        clear hK K
        clear hlk3
        refine wpAnyH_ready (rs := [3]) (by kernel_rfl) (by simp) ?_
        refine AllReadyH.cons rfl (fun K hK => ?_) AllReadyH.nil
        simp only [List.getElem_toArray, List.getElem_cons_succ, List.getElem_cons_zero]
        go_simp
        refine (HCN.out w3).mono ?_
        rintro e w4 ⟨rfl, hb4⟩
        have HB4 := Lib.hid hb4
        clear hb4
        go_wp2_with (fail)
        refine hK.out _ _ (HS.out _ HB4.out) (fun _ => ?_)
        clear hK K
        refine wpAnyH_take (i := 11) (v := ?_) rfl (by kernel_rfl) (by kernel_rfl) (by kernel_rfl) (fun _ _ _ h => h) (Or.inl ⟨by rfl, fun w hSw => ?_⟩) (by assumption) ?_
        rotate_left
        · (try dsimp only at hSw); go_simp; try with_reducible rfl
        simp only [Act.put, List.setIfInBounds_toArray, List.set_cons_zero, List.set_cons_succ, List.getElem_toArray, List.getElem_cons_succ, List.getElem_cons_zero]
        refine wpAnyH_ready (rs := [12]) (by kernel_rfl) (by simp) ?_
        refine AllReadyH.cons rfl (fun K hK => ?_) AllReadyH.nil
        simp only [List.getElem_toArray, List.getElem_cons_succ, List.getElem_cons_zero]
        go_simp
        have hb5 : Below w3.heap.size w3 (w4.alloc (.cells #[.string s, .int .i64 (ix : Int)] 77 (0, 0))) := HB4.out.alloc HB4.out.size _
        refine hK.out _ _ (HS.out _ hb5) (fun _ => ?_)
        clear hK K
        have HO5 := Lib.hid (HO3.out.next hb5)
        have HW5 := Lib.hid (HW3.out.trans (hb5.mono HW3.out.size))
        have HM5 := Lib.hid (ens_one (w := w4) (g := w4.heap.size) s (ix : Int) rfl)
        have HB5 := Lib.hid hb5
        have hXs : W0.heap.size ≤ (w4.alloc (.cells #[.string s, .int .i64 (ix : Int)] 77 (0, 0))).heap.size := HW5.out.size
        clear hb5
        refine wpAnyH_ready (rs := [13]) (by kernel_rfl) (by simp) ?_
        refine AllReadyH.cons rfl (fun K hK => ?_) AllReadyH.nil
        simp only [List.getElem_toArray, List.getElem_cons_succ, List.getElem_cons_zero]
        rw [if_pos (by rfl)]
        refine wp_ape2 (.tmp 24) (.tmp 36) rfl W0.heap.size (.slice va j vc) j ((E.take j).map (setI g)) rfl HO5.out w4.heap.size 0 1 1 [En.mk s (ix : Int)] rfl HM5.out (by omega) (by omega) hXs W0 HW5.out ?_
        intro v6 w6 ho6 hb6 hg6
        have HS6 := Lib.hid (HS6F.out _ _ HB5.out hg6)
        refine hK.out _ _ HS6.out (fun _ => ?_)
        rw [HSTEP.out] at ho6
        have HO6 := Lib.hid ho6
        have HB6 := Lib.hid hb6
        clear hK K ho6 hb6 hg6
        refine wpAnyH_take (i := 14) (v := ?_) rfl (by kernel_rfl) (by kernel_rfl) (by kernel_rfl) (fun _ _ _ h => h) (Or.inl ⟨by rfl, fun w hSw => ?_⟩) (by assumption) ?_
        rotate_left
        · (try dsimp only at hSw); go_simp; try with_reducible rfl
        simp only [Act.put, List.setIfInBounds_toArray, List.set_cons_zero, List.set_cons_succ, List.getElem_toArray, List.getElem_cons_succ, List.getElem_cons_zero]
        refine wpAnyH_done (by kernel_rfl) ?_ _
        clear hXs
        go_wp2_with (fail)
        go_roundw
        case rel => exact ⟨j + 1, by omega, by go_num, HO6.out, HB6.out⟩
        case measure => simp [RowKit.intOf]; omega
    · obtain rfl : j = E.length := by omega
      rw [List.take_length] at hO
      obtain ⟨va, vc, rfl, hvE, hvc, hvm, hvn, hlo⟩ := hO.ens
      obtain ⟨w3, hw3⟩ : ∃ w3, w3 = wr.drew := ⟨_, rfl⟩
      have hb3 : Below W0.heap.size W0 w3 := by rw [hw3]; exact below_drewN hB 1
      have hs3 : w3.heap.size = wr.heap.size := by rw [hw3]; rfl
      have HWW : Hid (∀ w', Below w3.heap.size w3 w' → Below w.heap.size w w') := Lib.hid (fun w' hb' => HBW.out.trans ((hb3.trans (hb'.mono hb3.size)).mono HBW.out.size))
      have HM3 : Hid (∀ w', Below w3.heap.size w3 w' → Mtd w' wb pb eb (some ⟨b, off, none⟩) n c f) := Lib.hid (fun w' hb' => HW0M.out.next (hb3.trans (hb'.mono hb3.size)))
      have HRW : Hid (∀ w', Below w3.heap.size w3 w' → NdB1 w' H #[.int .i64 0, .int .i64 0, .slice none 0 0, .slice none 0 0]) := Lib.hid (fun w' hb' => ((hb3.trans (hb'.mono hb3.size)).block H (by rw [HWS.out]; omega)).trans HR1.out)
      have HLT : Hid (∀ w', Below w3.heap.size w3 w' → H + 1 < w'.heap.size) := Lib.hid (fun w' hb' => by
        have h1 := (hb3.trans (hb'.mono hb3.size)).size
        rw [HWS.out] at h1
        omega)
      have HS : Hid (∀ w', Below w3.heap.size w3 w' → (w'.cell? ⟨H + 1, 0, none⟩ = some (.int .i64 (f a).k) ∧ w'.cell? ⟨H + 1, 2, none⟩ = some (.slice (f a).da (f a).dn (f a).dc))) := Lib.hid (fun w' hb' => by
        have h2 : w'.heap[H + 1]? = _ := ((hb3.trans (hb'.mono hb3.size)).block (H + 1) (by rw [HWS.out]; omega)).trans HR2.out
        exact ⟨by simp [World.cell?, h2], by simp [World.cell?, h2]⟩)
      have HEZ : Hid (∀ w', Below w3.heap.size w3 w' → Enz w' va E.length vc (E.map (setI g)) ∧ ∀ x, va = some x → W0.heap.size ≤ x.block) := Lib.hid (fun w' hb' => by
        have hbw : Below wr.heap.size wr w' := by
          have h1 : Below wr.heap.size wr w3 := by rw [hw3]; exact below_drewN (Below.refl _ _) 1
          exact h1.trans (hb'.mono (by rw [hs3]; exact Nat.le_refl _))
        exact ⟨⟨hvE.next hbw, hvn, hvc, hvm⟩, fun x hx => (hlo x hx).1⟩)
      have hS3 := HS.out w3 (Below.refl _ _)
      clear hO hB hvE hvc hvm hvn hlo hb3 hs3 c0 d0 d1 d2 k0 k1 hel
      go_wp2_with (fail)
      refine wp_region_held_drew (S := (fun w' => w'.cell? ⟨H + 1, 0, none⟩ = some (.int .i64 (f a).k) ∧ w'.cell? ⟨H + 1, 2, none⟩ = some (.slice (f a).da (f a).dn (f a).dc))) (by kernel_rfl) ?_ (fun hHeld => ?_)
      · rw [← hw3]
        exact hS3
      rw [← hw3] at hHeld ⊢
      clear hw3 hHeld hj
      refine wpAnyH_take (i := 0) (v := ?_) rfl (by kernel_rfl) (by kernel_rfl) (by kernel_rfl) (fun _ _ _ h => h) (Or.inl ⟨by rfl, fun w hSw => ?_⟩) (by assumption) ?_
      rotate_left
      · (try dsimp only at hSw); go_simp; try with_reducible rfl
      simp only [Act.put, List.setIfInBounds_toArray, List.set_cons_zero, List.set_cons_succ, List.getElem_toArray, List.getElem_cons_zero]
      refine wpAnyH_take (i := 1) (v := ?_) rfl (by kernel_rfl) (by kernel_rfl) (by kernel_rfl) (fun _ _ _ h => h) (Or.inl ⟨by rfl, fun w hSw => ?_⟩) (by assumption) ?_
      rotate_left
      · (try dsimp only at hSw); go_simp; try with_reducible rfl
      simp only [Act.put, List.setIfInBounds_toArray, List.set_cons_zero, List.set_cons_succ, List.getElem_toArray, List.getElem_cons_succ, List.getElem_cons_zero]
      refine wpAnyH_take (i := 2) (v := ?_) rfl (by kernel_rfl) (by kernel_rfl) (by kernel_rfl) (fun _ _ _ h => h) (Or.inl ⟨by rfl, fun w hSw => ?_⟩) (by assumption) ?_
      rotate_left
      · (try dsimp only at hSw); go_simp; try with_reducible rfl
      simp only [Act.put, List.setIfInBounds_toArray, List.set_cons_zero, List.set_cons_succ, List.getElem_toArray, List.getElem_cons_succ, List.getElem_cons_zero]
      refine wpAnyH_take (i := 3) (v := ?_) rfl (by kernel_rfl) (by kernel_rfl) (by kernel_rfl) (fun _ _ _ h => h) (Or.inl ⟨by rfl, fun w hSw => ?_⟩) (by assumption) ?_
      rotate_left
      · (try dsimp only at hSw); go_simp; try with_reducible rfl
      simp only [Act.put, List.setIfInBounds_toArray, List.set_cons_zero, List.set_cons_succ, List.getElem_toArray, List.getElem_cons_succ, List.getElem_cons_zero]
      refine wpAnyH_take (i := 5) (v := ?_) rfl (by kernel_rfl) (by kernel_rfl) (by kernel_rfl) (fun _ _ _ h => h) (Or.inl ⟨by rfl, fun w hSw => ?_⟩) (by assumption) ?_
      rotate_left
      · (try dsimp only at hSw); go_simp; try with_reducible rfl
      simp only [Act.put, List.setIfInBounds_toArray, List.set_cons_zero, List.set_cons_succ, List.getElem_toArray, List.getElem_cons_succ, List.getElem_cons_zero]
      refine wpAnyH_take (i := 6) (v := ?_) rfl (by kernel_rfl) (by kernel_rfl) (by kernel_rfl) (fun _ _ _ h => h) (Or.inl ⟨by rfl, fun w hSw => ?_⟩) (by assumption) ?_
      rotate_left
      · (try dsimp only at hSw); go_simp; try with_reducible rfl
      simp only [Act.put, List.setIfInBounds_toArray, List.set_cons_zero, List.set_cons_succ, List.getElem_toArray, List.getElem_cons_succ, List.getElem_cons_zero]
      refine wpAnyH_take (i := 8) (v := ?_) rfl (by kernel_rfl) (by kernel_rfl) (by kernel_rfl) (fun _ _ _ h => h) (Or.inl ⟨by rfl, fun w hSw => ?_⟩) (by assumption) ?_
      rotate_left
      · (try dsimp only at hSw); go_simp; try with_reducible rfl
      simp only [Act.put, List.setIfInBounds_toArray, List.set_cons_zero, List.set_cons_succ, List.getElem_toArray, List.getElem_cons_succ, List.getElem_cons_zero]
      refine wpAnyH_ready (rs := [4]) (by kernel_rfl) (by simp) ?_
      refine AllReadyH.cons rfl (fun K hK => ?_) AllReadyH.nil
      simp only [List.getElem_toArray, List.getElem_cons_succ, List.getElem_cons_zero]
      go_simp
      refine (links_any (HM3.out w3 (Below.refl _ _)) HOK.out ha).mono ?_
      rintro e w4 ⟨rfl, hb4⟩
      have HB4 := Lib.hid hb4
      have hcn := bclone_any _ _ _ _ w4 ((HM3.out w4 hb4).nds.data a ha) (by have := HDL.out; omega)
      clear hb4
      go_wp2_with (fail)
      refine hK.out _ _ (HS.out _ HB4.out) (fun _ => ?_)
      clear hK K
      refine wpAnyH_ready (rs := [7]) (by kernel_rfl) (by simp) ?_
      refine AllReadyH.cons rfl (fun K hK => ?_) AllReadyH.nil
      simp only [List.getElem_toArray, List.getElem_cons_succ, List.getElem_cons_zero]
      go_simp
      refine hcn.mono ?_
      rintro e w5 ⟨v, rfl, hv, hb5⟩
      have HB5 := Lib.hid (HB4.out.trans (hb5.mono HB4.out.size))
      obtain ⟨ca, cc, rfl, hpn, hpl⟩ := hv.pin
      have HPN := Lib.hid (And.intro hpn fun x hx => Nat.le_trans HB4.out.size (hpl x hx).1)
      clear hcn hv hb5 hpn hpl
      go_wp2_with (fail)
      refine hK.out _ _ (HS.out _ HB5.out) (fun _ => ?_)
      clear hK K
      refine wpAnyH_take (i := 9) (v := ?_) rfl (by kernel_rfl) (by kernel_rfl) (by kernel_rfl) (fun _ _ _ h => h) (Or.inl ⟨by rfl, fun w hSw => ?_⟩) (by assumption) ?_
      rotate_left
      · (try dsimp only at hSw); go_simp; try with_reducible rfl
      simp only [Act.put, List.setIfInBounds_toArray, List.set_cons_zero, List.set_cons_succ, List.getElem_toArray, List.getElem_cons_succ, List.getElem_cons_zero]
      obtain ⟨x0, x1, x2, x3⟩ := (HRW.out w5 HB5.out).cells
      have g0 := (HRW.out w5 HB5.out).free 0
      have g1 := (HRW.out w5 HB5.out).free 1
      have g2 := (HRW.out w5 HB5.out).free 2
      have g3 := (HRW.out w5 HB5.out).free 3
      refine wpAnyH_ready (rs := [10]) (by kernel_rfl) (by simp) ?_
      refine AllReadyH.cons rfl (fun K hK => ?_) AllReadyH.nil
      simp only [List.getElem_toArray, List.getElem_cons_succ, List.getElem_cons_zero]
      go_simp
      have hT : Turn (· = H) w5 ((((w5.setCell ⟨H, 0, none⟩ (.int .i64 (f a).k)).setCell ⟨H, 1, none⟩ (.int .i64 (lnkM (ndL f n) a))).setCell ⟨H, 2, none⟩ (.slice ca (f a).d.length cc)).setCell ⟨H, 3, none⟩ (.slice va E.length vc)) := ((((Turn.refl (· = H) w5).setO (p := ⟨H, 0, none⟩) rfl _).setO (p := ⟨H, 1, none⟩) rfl _).setO (p := ⟨H, 2, none⟩) rfl _).setO (p := ⟨H, 3, none⟩) rfl _
      have hl5 : H + 1 < w5.heap.size := HLT.out w5 HB5.out
      have hSf : (((((w5.setCell ⟨H, 0, none⟩ (.int .i64 (f a).k)).setCell ⟨H, 1, none⟩ (.int .i64 (lnkM (ndL f n) a))).setCell ⟨H, 2, none⟩ (.slice ca (f a).d.length cc)).setCell ⟨H, 3, none⟩ (.slice va E.length vc)).cell? ⟨H + 1, 0, none⟩ = some (.int .i64 (f a).k) ∧ ((((w5.setCell ⟨H, 0, none⟩ (.int .i64 (f a).k)).setCell ⟨H, 1, none⟩ (.int .i64 (lnkM (ndL f n) a))).setCell ⟨H, 2, none⟩ (.slice ca (f a).d.length cc)).setCell ⟨H, 3, none⟩ (.slice va E.length vc)).cell? ⟨H + 1, 2, none⟩ = some (.slice (f a).da (f a).dn (f a).dc)) := ⟨(hT.cell (a := ⟨H + 1, 0, none⟩) hl5 (by show ¬ H + 1 = H; omega)).trans (HS.out _ HB5.out).1, (hT.cell (a := ⟨H + 1, 2, none⟩) hl5 (by show ¬ H + 1 = H; omega)).trans (HS.out _ HB5.out).2⟩
      have HFIN : Hid (CoPost w (f a).k (lnkM (ndL f n) a) (f a).d (E.map (setI g)) (.returned (.agg #[.int .i64 (f a).k, .int .i64 (lnkM (ndL f n) a), .slice ca (f a).d.length cc, .slice va E.length vc])) ((((w5.setCell ⟨H, 0, none⟩ (.int .i64 (f a).k)).setCell ⟨H, 1, none⟩ (.int .i64 (lnkM (ndL f n) a))).setCell ⟨H, 2, none⟩ (.slice ca (f a).d.length cc)).setCell ⟨H, 3, none⟩ (.slice va E.length vc))) := Lib.hid (by
        obtain ⟨hpn, hpl⟩ := HPN.out
        have hez := HEZ.out w5 HB5.out
        have hml : (E.map (setI g)).length = E.length := List.length_map _
        refine ⟨ca, cc, va, vc, by rw [hml], hpn.turn hT ?_, ?_, ?_⟩
        · rintro _ b3 off3 e rfl
          have := hpl _ e
          have := HLT.out w3 (Below.refl _ _)
          simp only at *
          omega
        · rw [hml]
          refine hez.1.turn hT ?_
          rintro _ b3 off3 e rfl
          have := hez.2 _ e
          have := HWS.out
          simp only at *
          omega
        · exact ((((HWW.out w5 HB5.out).setCell (p := ⟨H, 0, none⟩) (Nat.le_of_eq HH.out.symm) _).setCell (p := ⟨H, 1, none⟩) (Nat.le_of_eq HH.out.symm) _).setCell (p := ⟨H, 2, none⟩) (Nat.le_of_eq HH.out.symm) _).setCell (p := ⟨H, 3, none⟩) (Nat.le_of_eq HH.out.symm) _)
      have HRF : Hid (NdB1 ((((w5.setCell ⟨H, 0, none⟩ (.int .i64 (f a).k)).setCell ⟨H, 1, none⟩ (.int .i64 (lnkM (ndL f n) a))).setCell ⟨H, 2, none⟩ (.slice ca (f a).d.length cc)).setCell ⟨H, 3, none⟩ (.slice va E.length vc)) H #[.int .i64 (f a).k, .int .i64 (lnkM (ndL f n) a), .slice ca (f a).d.length cc, .slice va E.length vc]) := Lib.hid ((HRW.out w5 HB5.out).set _ _ _ _)
      clear x0 x1 x2 x3 g0 g1 g2 g3 hT hl5
      refine hK.out _ _ (hSf) (fun _ => ?_)
      clear hK K
      clear hSf
      refine wpAnyH_done (by kernel_rfl) ?_ _
      go_wp2_with (fail)
      refine bodyPost_ret (res_cell rfl _ _ ⟨H, 0, none⟩ _ rfl HRF.out.load) rfl ?_
      exact HFIN.out

end
end Go.Proofs.YtinholnidchblaaGreatDoor
