/-
  The reference's Put, by contract.
-/
import Derived.Test.YtciddoeeiamndaaGreatBa
import Derived.Test.YtciddoeeiamndaaGreatCopy
import Derived.Test.YtciddoeeiamndaaGreatHa
namespace Go.Proofs.YtciddoeeiamndaaGreat
open Go.RowKit

theorem quo_bd {n : Int} (h0 : 0 ≤ n) (k : Nat) : 0 ≤ n / 256 ^ k ∧ n / 256 ^ k ≤ n :=
  ⟨Int.ediv_nonneg h0 (Int.le_of_lt (Int.pow_pos (by omega))), Int.ediv_le_self _ h0⟩

theorem quo_step {n q : Int} {k : Nat} (h : q = n / 256 ^ k) : Hid (q / 256 = n / 256 ^ (k + 1)) := by
  show _ = _
  rw [h, Int.pow_succ, Int.ediv_ediv_of_nonneg (Int.le_of_lt (Int.pow_pos (by omega)))]

def PutLong (w : World) (m : Nat) (n : Int) (e : Ending) (w' : World) : Prop :=
  (0 < n / 256 ^ m → e = .returned (.slice none 0 0)) ∧ (¬ 0 < n / 256 ^ m → ∃ v, e = .returned v ∧ Own w' w.heap.size v m (digs m n)) ∧ Below w.heap.size w w'

set_option maxHeartbeats 800000 in
theorem refPut_long (m : Nat) (n : Int) (w : World) (h1 : 1 ≤ m) (h4 : m ≤ 4) (hn0 : 0 ≤ n) (hn1 : n ≤ 9223372036854775807) :
    Calls Tryz.prog 144 #[.int .i64 m, .int .i64 n] w (PutLong w m n) := by
  go_enter Tryz.func144, Tryz.ntmps144
  go_wp2
  go_loopw [1, 5, 6] (fun sn out i wr => ∃ (k : Nat) (q : Int), k ≤ m ∧ i = .int .i64 k ∧ sn = .int .i64 q ∧ Hid (q = n / 256 ^ k) ∧ 0 ≤ q ∧ q ≤ 9223372036854775807 ∧ Own wr w.heap.size out k (digs k n) ∧ Below w.heap.size w wr)
    (fun _ _ i _ => m - (RowKit.intOf i).toNat)
  case atStart => exact ⟨0, n, Nat.zero_le _, rfl, rfl, by show _ = _; simp, hn0, hn1, own_none w _ (Nat.le_refl _), (Below.refl _ _).alloc (Nat.le_refl _) _⟩
  case round =>
    obtain ⟨k, q, hk, rfl, rfl, hq, hq0, hq1, hown, hl⟩ := hrel
    by_cases hlt : k < m
    · go_wp2_with (at_builtin; go_must (refine wpList_ap rfl (.tmp 24) (.tmp 28) rfl w.heap.size _ k _ rfl (hown.below (Nat.le_refl _) ((Below.refl _ _).alloc (Nat.le_refl _) _)) _ 1 1 [q % 256] rfl (bys_one wr (by omega)) (fun h => by cases h) (by omega) (by have := hl.size; simp; omega) w (hl.alloc hl.size _) ?_); intro v w1 hown1 hb1)
      go_roundw
      case rel => exact ⟨k + 1, q / 256, by omega, by go_num, rfl, quo_step hq.out, by omega, by omega, by rw [digs_snoc, ← hq.out]; exact hown1, hb1⟩
      case measure => simp [RowKit.intOf]; omega
    · obtain rfl : k = m := by omega
      go_wp2
      · have hpos : 0 < q := by assumption
        go_ret
        exact ⟨fun _ => rfl, fun h => absurd (by rw [← hq.out]; exact hpos) h, hl⟩
      · have hneg : q ≤ 0 := by assumption
        go_ret
        exact ⟨fun h => absurd (by rw [← hq.out] at h; exact h) (by omega), fun _ => ⟨_, rfl, hown⟩, hl⟩

/-- No such width, or a number below 0: an empty slice. -/
def PutEmpty (w : World) (e : Ending) (w' : World) : Prop := e = .returned (.slice (some ⟨w.heap.size, 0, none⟩) 0 0) ∧ Below w.heap.size w w'

set_option maxHeartbeats 800000 in
theorem refPut_none (k n : Int) (w : World) (h : ¬ (1 ≤ k ∧ k ≤ 4) ∨ n < 0) :
    Calls Tryz.prog 144 #[.int .i64 k, .int .i64 n] w (PutEmpty w) := by
  by_cases h1 : k < 1
  · clear h
    go_enter Tryz.func144, Tryz.ntmps144
    go_wp2
    go_ret
    exact ⟨rfl, (Below.refl _ _).alloc (Nat.le_refl _) _⟩
  · by_cases h4 : 4 < k
    · clear h
      go_enter Tryz.func144, Tryz.ntmps144
      go_wp2
      go_ret
      exact ⟨rfl, (Below.refl _ _).alloc (Nat.le_refl _) _⟩
    · have h2 : n < 0 := by omega
      clear h
      go_enter Tryz.func144, Tryz.ntmps144
      go_wp2
      go_ret
      exact ⟨rfl, (Below.refl _ _).alloc (Nat.le_refl _) _⟩

end Go.Proofs.YtciddoeeiamndaaGreat

/-
  The reference's Get, by contract.
-/
namespace Go.Proofs.YtciddoeeiamndaaGreat
open Go.RowKit

theorem getN_lt {x : List Int} (hx : AllB x) (p : Nat) {k : Nat} (hk : k ≤ 4) : 0 ≤ getN x p k ∧ getN x p k < 4294967296 := by
  have h := getN_bd hx p k
  rcases (by omega : k = 0 ∨ k = 1 ∨ k = 2 ∨ k = 3 ∨ k = 4) with rfl | rfl | rfl | rfl | rfl <;> omega
theorem getN_step (x : List Int) (p m j : Nat) (h : j < m) : getN x (p + (j + 1)) (m - (j + 1)) * 256 + byt x (p + j) = getN x (p + j) (m - j) := by
  obtain ⟨d, hd⟩ : ∃ d, m - j = d + 1 := ⟨m - j - 1, by omega⟩
  rw [hd, getN, show m - (j + 1) = d by omega, show p + (j + 1) = p + j + 1 by omega]
  omega

def GetAt (x : List Int) (p m : Nat) (v i : Value) : Prop :=
  (∃ j : Nat, j < m ∧ i = .int .i64 j ∧ v = .int .i64 (getN x (p + (j + 1)) (m - (j + 1)))) ∨ (i = .int .i64 (-1) ∧ v = .int .i64 (getN x p m))

set_option maxHeartbeats 400000 in
theorem refGet_yes (a : Option Addr) (la ca p m : Nat) (x : List Int) (w : World) (hx : Bys w a la x) (hn : la ≤ 1000000000000) (h1 : 1 ≤ m) (h4 : m ≤ 4) (hp : p + m ≤ la) :
    Calls Tryz.prog 122 #[.slice a la ca, .int .i64 p, .int .i64 m] w fun e w' => e = .returned (.tuple #[.int .i64 (getN x p m), .bool true]) ∧ w = w' := by
  rcases hx.place with h0 | ⟨ba, oa, rfl, _, hca⟩
  · omega
  have hs : AllB x := hx.small
  have q1 : ¬ (m : Int) < 1 := by omega
  have q2 : ¬ (4 : Int) < m := by omega
  have q3 : ¬ (p : Int) < 0 := by omega
  have q4 : ¬ (la : Int) < p := by omega
  have q5 : ¬ (la : Int) - p < m := by omega
  clear hx
  go_enter Tryz.func122, Tryz.ntmps122
  go_wp2
  go_loop [8, 9] (fun v i => GetAt x p m v i) (fun _ i => (RowKit.intOf i + 1).toNat)
  case atStart => exact .inl ⟨m - 1, by omega, by congr 1; omega, by rw [show m - (m - 1 + 1) = 0 by omega]; rfl⟩
  case round =>
    rcases hrel with ⟨j, hj, rfl, rfl⟩ | ⟨rfl, rfl⟩
    · have g1 := hca (p + j) (by omega)
      have b1 := byt_bd hs (p + j)
      have b2 := getN_lt hs (p + (j + 1)) (k := m - (j + 1)) (by omega)
      have b3 : ((p + j : Nat) : Int) < la := by omega
      have hst : Hid (getN x (p + (j + 1)) (m - (j + 1)) * 256 + byt x (p + j) = getN x (p + j) (m - j)) := getN_step x p m j hj
      clear hca
      go_wp2
      go_round
      case rel =>
        cases j with
        | zero => exact .inr ⟨by go_num, val_int (by simpa using hst.out)⟩
        | succ j => exact .inl ⟨j, by omega, by go_num, val_int hst.out⟩
      case measure => simp [RowKit.intOf]
    · clear hca
      go_wp2
      go_ret2
      exact ⟨rfl, rfl⟩

set_option maxHeartbeats 400000 in
theorem refGet_no (a : Option Addr) (la ca : Nat) (p k : Int) (w : World) (h : ¬ (1 ≤ k ∧ k ≤ 4) ∨ p < 0 ∨ la - k < p) :
    Calls Tryz.prog 122 #[.slice a la ca, .int .i64 p, .int .i64 k] w fun e w' => e = .returned (.tuple #[.int .i64 0, .bool false]) ∧ w = w' := by
  by_cases h1 : k < 1
  · clear h
    go_enter Tryz.func122, Tryz.ntmps122
    go_wp2
    go_ret2
    exact ⟨rfl, rfl⟩
  · by_cases h4 : 4 < k
    · clear h
      go_enter Tryz.func122, Tryz.ntmps122
      go_wp2
      go_ret2
      exact ⟨rfl, rfl⟩
    · by_cases h5 : p < 0
      · clear h
        go_enter Tryz.func122, Tryz.ntmps122
        go_wp2
        go_ret2
        exact ⟨rfl, rfl⟩
      · by_cases h6 : (la : Int) < p
        · clear h
          go_enter Tryz.func122, Tryz.ntmps122
          go_wp2
          go_ret2
          exact ⟨rfl, rfl⟩
        · have h7 : (la : Int) - p < k := by omega
          clear h
          go_enter Tryz.func122, Tryz.ntmps122
          go_wp2
          go_ret2
          exact ⟨rfl, rfl⟩

end Go.Proofs.YtciddoeeiamndaaGreat

/-
  The reference's numbers, as functions of their arguments.
-/
namespace Go.Proofs.YtciddoeeiamndaaGreat
open Go.RowKit

theorem refPut_fun (k n : Int) (w : World) (hn : n ≤ 9223372036854775807) : Calls Tryz.prog 144 #[.int .i64 k, .int .i64 n] w (RetB w (putL k n)) := by
  by_cases h : (1 ≤ k ∧ k ≤ 4) ∧ 0 ≤ n
  · obtain ⟨⟨a, b⟩, h0⟩ := h
    obtain ⟨m, rfl⟩ := Int.eq_ofNat_of_zero_le (by omega : 0 ≤ k)
    refine (refPut_long m n w (by omega) (by omega) h0 hn).mono fun e w' ⟨hy, hno, hl⟩ => ?_
    by_cases hq : 0 < n / 256 ^ m
    · rw [hy hq, putL_no (.inr ((hasW_quo (by omega) (by omega) h0).1 hq))]
      exact ⟨none, 0, rfl, Bys.none _, (fun _ => ⟨rfl, rfl⟩), hl⟩
    · obtain ⟨v, rfl, hown⟩ := hno hq
      have h2 : hasW n m = true := by
        cases hk : hasW n m
        · exact absurd ((hasW_quo (by omega) (by omega) h0).2 hk) hq
        · rfl
      rw [putL_yes (by omega) (by omega) h2]
      exact RetB.own hown hl
  · have h' : isW k = false ∨ hasW n k = false := by
      by_cases hk : 1 ≤ k ∧ k ≤ 4
      · right; simp only [hasW, decide_eq_false_iff_not]; omega
      · exact .inl (isW_false hk)
    rw [putL_no h']
    exact (refPut_none k n w (by omega)).mono fun e w' ⟨he, hl⟩ => by subst he; exact ⟨_, 0, rfl, Bys.none _, (fun h => by cases h), hl⟩

theorem copy_fun (a : Option Addr) (la ca : Nat) (x : List Int) (w : World) (hx : Bys w a la x) (hnil : a = none → la = 0 ∧ ca = 0) (hla : la ≤ 1000000000000) :
    Calls Tryz.prog 50 #[.slice a la ca] w (RetB w x) :=
  (copy_any a la ca x w hx hnil hla).mono fun e w' ⟨v, he, hb, hl⟩ => by
    subst he
    exact RetB.own hb hl

theorem refGet_fun (a : Option Addr) (la ca : Nat) (p k : Int) (x : List Int) (w : World) (hx : Bys w a la x) (hn : la ≤ 1000000000000) :
    Calls Tryz.prog 122 #[.slice a la ca, .int .i64 p, .int .i64 k] w fun e w' => e = .returned (.tuple #[.int .i64 (getV la x p k), .bool (getO la p k)]) ∧ w = w' := by
  by_cases h : (1 ≤ k ∧ k ≤ 4) ∧ 0 ≤ p ∧ p ≤ la - k
  · have ho : getO la p k = true := by simp only [getO, decide_eq_true_eq]; exact h
    obtain ⟨m, rfl⟩ := Int.eq_ofNat_of_zero_le (by omega : 0 ≤ k)
    obtain ⟨q, rfl⟩ := Int.eq_ofNat_of_zero_le h.2.1
    rw [getV, if_pos ho, ho]
    exact refGet_yes a la ca q m x w hx hn (by omega) (by omega) (by omega)
  · have ho : getO la p k = false := by simp only [getO, decide_eq_false_iff_not]; exact h
    rw [getV, if_neg (by rw [ho]; decide), ho]
    exact refGet_no a la ca p k w (by omega)

theorem refPut_s (k n : Int) (w : World) (hn : n ≤ 9223372036854775807) : Calls Tryz.prog 144 #[.int .i64 k, .int .i64 n] w (RefPut w (putL k n)) := by
  by_cases h : (1 ≤ k ∧ k ≤ 4) ∧ 0 ≤ n
  · obtain ⟨⟨a, b⟩, h0⟩ := h
    obtain ⟨m, rfl⟩ := Int.eq_ofNat_of_zero_le (by omega : 0 ≤ k)
    refine (refPut_long m n w (by omega) (by omega) h0 hn).mono fun e w' ⟨hy, hno, hl⟩ => ?_
    by_cases hq : 0 < n / 256 ^ m
    · rw [hy hq, putL_no (.inr ((hasW_quo (by omega) (by omega) h0).1 hq))]
      exact ⟨none, 0, 0, rfl, Pin.zero _, (fun h => absurd h (Nat.lt_irrefl _)), hl⟩
    · obtain ⟨v, rfl, hown⟩ := hno hq
      have h2 : hasW n m = true := by
        cases hk : hasW n m
        · exact absurd ((hasW_quo (by omega) (by omega) h0).2 hk) hq
        · rfl
      rw [putL_yes (by omega) (by omega) h2]
      obtain ⟨a, c, rfl, hp, _⟩ := hown.pin
      exact ⟨_, _, _, rfl, hp, fun _ => hown, hl⟩
  · have h' : isW k = false ∨ hasW n k = false := by
      by_cases hk : 1 ≤ k ∧ k ≤ 4
      · right; simp only [hasW, decide_eq_false_iff_not]; omega
      · exact .inl (isW_false hk)
    rw [putL_no h']
    exact (refPut_none k n w (by omega)).mono fun e w' ⟨he, hl⟩ => by subst he; exact ⟨_, 0, 0, rfl, ⟨Bys.none _, (fun h => by cases h), Nat.le_refl _, by omega⟩, (fun h => absurd h (Nat.lt_irrefl _)), hl⟩

end Go.Proofs.YtciddoeeiamndaaGreat

/-
  The reference's Encode, by contract.
-/
namespace Go.Proofs.YtciddoeeiamndaaGreat
open Go.RowKit

def lenOf : Value → Nat
  | .slice _ n _ => n
  | _ => 0
/-- The padding loop's relation: k bytes stand. -/
def PadRel (w0 : World) (zs : List Int) (v : Value) (w : World) : Prop :=
  ∃ k j : Nat, k = zs.length + j ∧ k ≤ 64 ∧ Own w w0.heap.size v k (zs ++ List.replicate j 0) ∧ Below w0.heap.size w0 w

theorem rep_snoc (zs : List Int) (j : Nat) : zs ++ List.replicate j 0 ++ [0] = zs ++ List.replicate (j + 1) 0 := by
  rw [List.append_assoc, List.replicate_succ']
theorem encL_yes {s o i : Int} {x : List Int} (h : x.length ≤ 56) (h1 : hasW s 4 = true) (h2 : hasW o 2 = true) (h3 : hasW i 2 = true) : encO s o i x = true ∧ encL s o i x = digs 4 s ++ digs 2 o ++ digs 2 i ++ padL x 56 := by
  have ho : encO s o i x = true := by simp [encO, okH, h, h1, h2, h3]
  refine ⟨ho, ?_⟩
  rw [encL, ho, if_pos rfl, headL]
  rw [show putL 4 s = digs 4 s from putL_yes (m := 4) (by omega) (by omega) h1, show putL 2 o = digs 2 o from putL_yes (m := 2) (by omega) (by omega) h2, show putL 2 i = digs 2 i from putL_yes (m := 2) (by omega) (by omega) h3]
theorem put_len4 (n : Int) : (putL 4 n).length = if hasW n 4 then 4 else 0 := putL_len 4 n (by omega) (by omega)
theorem put_len2 (n : Int) : (putL 2 n).length = if hasW n 2 then 2 else 0 := putL_len 2 n (by omega) (by omega)

set_option maxHeartbeats 4000000 in
theorem refEnc_any (s o i : Int) (a : Option Addr) (n c : Nat) (x : List Int) (w : World) (hx : Pin w a n c x) (hs : s ≤ 9223372036854775807) (ho : o ≤ 9223372036854775807) (hi : i ≤ 9223372036854775807) :
    Calls Tryz.prog 118 #[hv s o i, .slice a n c] w (RetN w (encL s o i x) (encO s o i x)) := by
  obtain ⟨wb, hwb⟩ : ∃ wb, wb = w.alloc (.cells #[.int .i64 s, .int .i64 o, .int .i64 i] 126 (0, 0)) := ⟨_, rfl⟩
  have h0 : Hx wb w.heap.size s o i := by rw [hwb]; exact Hx.mk' w s o i _
  have hB0 : Below w.heap.size w wb := by rw [hwb]; exact (Below.refl _ _).alloc (Nat.le_refl _) _
  have hxb : Pin wb a n c x := hx.next hB0
  have HXL := Lib.hid hx.len
  have hB0' := hB0
  have hxb0 := Lib.hid hxb
  clear hx
  have y1 := h0.c0
  have y2 := h0.c1
  have y3 := h0.c2
  go_enter Tryz.func118, Tryz.ntmps118
  go_wp2_with (fail)
  rw [← hwb]
  clear hwb
  refine (refPut_s 4 s wb hs).mono ?_
  rintro e w1 ⟨a1, m1, c1, rfl, hp1, ho1, hb1⟩
  have h1 := h0.next hb1
  have hx1 := hxb.next hb1
  clear y1 y2 y3
  have y2 := h1.c1
  have y3 := h1.c2
  go_wp2_with (fail)
  refine (refPut_s 2 o w1 ho).mono ?_
  rintro e w2 ⟨a2, m2, c2, rfl, hp2, _, hb2⟩
  have h2 := h1.next hb2
  have hx2 := hx1.next hb2
  have q1 := fun h => (ho1 h).lo
  have s12 := hb2.size
  have L1 := Lib.hid (show m1 = if hasW s 4 then 4 else 0 by rw [← hp1.len, put_len4])
  clear y2 y3
  have y3 := h2.c2
  have hbb2 := hb1.trans (hb2.mono hb1.size)
  have ho2 := fun h => (ho1 h).below (Nat.le_refl _) hb2
  clear h1 h0 hxb hx1 ho1 hp1
  go_wp2_with (fail)
  refine (refPut_s 2 i w2 hi).mono ?_
  rintro e w3 ⟨a3, m3, c3, rfl, hp3, q3', hb3⟩
  have q3 := fun h => (q3' h).lo
  clear q3'
  have hx3 := hx2.next hb3
  have hbb3 := hbb2.trans (hb3.mono hbb2.size)
  have ho3 := fun h => (ho2 h).below (Nat.le_refl _) hb3
  have hp2 := hp2.next hb3
  have hB3 : Below w.heap.size w w3 := hB0.trans (hbb3.mono hB0.size)
  have l1 := L1.out
  have l2 : m2 = if hasW o 2 then 2 else 0 := by rw [← hp2.len, put_len2]
  have l3 : m3 = if hasW i 2 then 2 else 0 := by rw [← hp3.len, put_len2]
  clear h2 hx2 hbb2 ho2 y3 hb3 hb2 hb1 hB0
  cases g1 : hasW s 4
  · rw [g1] at l1
    obtain rfl : m1 = 0 := l1
    have hL : Hid (encO s o i x = false) := by show _ = _; simp [encO, okH, g1]
    clear g1 l2 l3
    go_wp2_with (fail)
    go_ret2
    rw [encL, hL.out]
    exact ⟨_, _, _, rfl, Pin.zero _, (fun x hx => by cases hx), hB3⟩
  rw [g1] at l1
  obtain rfl : m1 = 4 := l1
  cases g2 : hasW o 2
  · rw [g2] at l2
    obtain rfl : m2 = 0 := l2
    have hL : Hid (encO s o i x = false) := by show _ = _; simp [encO, okH, g2]
    clear g1 g2 l3
    go_wp2_with (fail)
    go_ret2
    rw [encL, hL.out]
    exact ⟨_, _, _, rfl, Pin.zero _, (fun x hx => by cases hx), hB3⟩
  rw [g2] at l2
  obtain rfl : m2 = 2 := l2
  cases g3 : hasW i 2
  · rw [g3] at l3
    obtain rfl : m3 = 0 := l3
    have hL : Hid (encO s o i x = false) := by show _ = _; simp [encO, okH, g3]
    clear g1 g2 g3
    go_wp2_with (fail)
    go_ret2
    rw [encL, hL.out]
    exact ⟨_, _, _, rfl, Pin.zero _, (fun x hx => by cases hx), hB3⟩
  rw [g3] at l3
  obtain rfl : m3 = 2 := l3
  by_cases hn : n ≤ 56
  · have hL := encL_yes (x := x) (by rw [HXL.out]; exact hn) g1 g2 g3
    have HO := Lib.hid hL.1
    have HE := Lib.hid hL.2
    have HY := Lib.hid (show putL 4 s ++ putL 2 o ++ putL 2 i ++ x = digs 4 s ++ digs 2 o ++ digs 2 i ++ x by
      rw [show putL 4 s = digs 4 s from putL_yes (m := 4) (by omega) (by omega) g1, show putL 2 o = digs 2 o from putL_yes (m := 2) (by omega) (by omega) g2, show putL 2 i = digs 2 i from putL_yes (m := 2) (by omega) (by omega) g3])
    have hn' : ¬ (56 : Int) < (n : Int) := by omega
    have ho4 := ho3 (by omega)
    have hn2 := hp2.nil
    have hn3 := hp3.nil
    have hnx := hx3.nil
    have hsz := hbb3.size
    have hx3b := hx3.bys
    have hp2b := hp2.bys
    have hp3b := hp3.bys
    have hx3l := fun {w'} (h : Below wb.heap.size wb w') => hxb0.out.bys.next h
    clear hL g1 g2 g3 ho3 hp2 hp3
    have hne3 : (2 : Nat) = 0 ∨ ∀ x, a3 = some x → some x.block ≠ (Value.slice a1 4 c1).ownBlock := .inr fun x e e2 => by
      have h3 := (q3 (by omega) x e).1
      cases ha : a1 with
      | none => rw [ha] at e2; cases e2
      | some y =>
        rw [ha] at e2
        have h1 := (q1 (by omega) y ha).2
        have h4 : x.block = y.block := by simpa [Value.ownBlock] using e2
        omega
    have HNE := Lib.hid hne3
    clear hne3 q1 q3
    cases a2 with
    | none => have := hn2 rfl; omega
    | some p2 =>
    cases a3 with
    | none => have := hn3 rfl; omega
    | some p3 =>
    clear hn2 hn3
    go_wp2_with (at_builtin; first
      | (refine wpList_ap2 rfl (.tmp 37) (.tmp 38) rfl wb.heap.size _ 4 _ rfl ho4 p2 2 c2 _ rfl hp2b (by omega) hsz wb hbb3 ?_
         intro v4 w4 ho5 hb5 hkeep
         have hp3c := hkeep _ _ _ hp3b HNE.out
         have hs4 := hb5.size
         clear hkeep hp3b ho4)
      | (refine wpList_ap2 rfl (.tmp 39) (.tmp 40) rfl wb.heap.size _ 6 _ rfl ho5 p3 2 c3 _ rfl hp3c (by omega) hs4 wb hb5 ?_
         intro v5 w5 ho6 hb6 _
         have hs5 := hb6.size
         clear hp3c ho5 hb5)
      | (refine wpList_ap rfl (.tmp 42) (.tmp 43) rfl wb.heap.size _ 8 _ rfl ho6 a n c _ rfl (hx3l hb6) hnx (by omega) hs5 wb hb6 ?_
         intro v6 w6 ho7 hb7
         clear ho6))
    rw [HY.out] at ho7
    obtain ⟨ZS, hZS⟩ : ∃ zs, zs = digs 4 s ++ digs 2 o ++ digs 2 i ++ x := ⟨_, rfl⟩
    have hZL : Hid (ZS.length = 8 + n) := by show _ = _; rw [hZS]; simp [digs_len, HXL.out]; omega
    have HZ := Lib.hid hZS
    rw [← hZS] at ho7
    clear hZS hb6
    go_loopw [9] (fun v wr => PadRel wb ZS v wr) (fun v _ => 64 - lenOf v)
    case atStart => exact ⟨8 + n, 0, by rw [hZL.out]; rfl, by omega, by simpa using ho7, hb7⟩
    case round =>
      obtain ⟨k, j, hk, hk64, ho8, hb8⟩ := hrel
      have HK := Lib.hid hk
      clear hk hb7
      obtain ⟨a8, c8, rfl, hp8, hlo8⟩ := ho8.pin
      have hs8 := hb8.size
      by_cases hlt : k < 64
      · go_wp2_with (at_builtin; go_must (refine wpList_ap rfl (.tmp 48) (.tmp 49) rfl wb.heap.size _ k _ rfl (ho8.below (Nat.le_refl _) ((Below.refl _ _).alloc (Nat.le_refl _) _)) _ 1 1 [0] rfl (bys_one wr (by omega)) (fun h => by cases h) (by omega) (by simp; omega) wb (hb8.alloc hs8 _) ?_); intro v9 w9 ho9 hb9)
        obtain ⟨a9, c9, rfl, hp9, _⟩ := ho9.pin
        go_roundw
        case rel => exact ⟨k + 1, j + 1, by rw [HK.out]; omega, by omega, by rw [← rep_snoc]; exact ho9, hb9⟩
        case measure => simp [lenOf]; omega
      · obtain rfl : k = 64 := by omega
        go_wp2_with (fail)
        go_ret2
        rw [HE.out, HO.out]
        refine ⟨_, _, _, rfl, ?_, (fun y hy => by have := (hlo8 y hy).1; have := hB0'.size; omega), hB0'.trans (hb8.mono hB0'.size)⟩
        have hj : j = 56 - x.length := by have := HK.out; rw [hZL.out] at this; rw [HXL.out]; omega
        have : digs 4 s ++ digs 2 o ++ digs 2 i ++ padL x 56 = ZS ++ List.replicate j 0 := by rw [HZ.out, hj, padL]; simp
        rw [this]
        exact hp8
  · have hn' : (56 : Int) < (n : Int) := by omega
    have hL : Hid (encO s o i x = false) := by show _ = _; simp [encO, HXL.out, hn]
    clear g1 g2 g3 hn
    go_wp2_with (fail)
    go_ret2
    rw [encL, hL.out]
    exact ⟨_, _, _, rfl, Pin.zero _, (fun x hx => by cases hx), hB3⟩

end Go.Proofs.YtciddoeeiamndaaGreat

/-
  The reference's Parity, by contract.
-/
namespace Go.Proofs.YtciddoeeiamndaaGreat
open Go.RowKit

/-- The exclusive or of what is told of the first k, begun with noughts. -/
def sumR (f : Nat → Pc) : Nat → List Int
  | 0 => List.replicate 60 0
  | k + 1 => xorL (sumR f k) ((f k).zs.drop 4)
theorem xorL_nought {x : List Int} (h : x.length = 60) (hs : AllB x) : xorL (List.replicate 60 0) x = x := by
  refine byt_ext (by rw [xorL_len, h]; simp) fun i hi => ?_
  rw [xorL_len] at hi
  rw [byt_xorL hi, byt_zero, xr_comm, xr_zero (byt_bd hs i).1]
theorem xorL_nil {x : List Int} (hs : AllB x) : xorL [] x = x := by
  refine byt_ext (by rw [xorL_len]; simp) fun i hi => ?_
  rw [xorL_len] at hi
  rw [byt_xorL hi, byt_past (Nat.zero_le _), xr_comm, xr_zero (byt_bd hs i).1]
theorem sumR_len {f : Nat → Pc} {k n : Nat} (h : k ≤ n) (ho : oneUpto f n = true) : (sumR f k).length = 60 := by
  induction k with
  | zero => rfl
  | succ k ih =>
    rw [sumR, xorL_len, List.length_drop, (oneUpto_at (k := k) h ho).1, ih (by omega)]
    rfl
theorem sumR_sumP {f : Nat → Pc} {k n : Nat} (hf : ∀ i, i < n → AllB (f i).zs) (h : k + 1 ≤ n) (ho : oneUpto f n = true) : sumR f (k + 1) = sumP f (k + 1) := by
  induction k with
  | zero =>
    have h1 := (oneUpto_at (k := 0) h ho).1
    rw [sumR, sumP, sumR, sumP, xorL_nought (by rw [List.length_drop, h1]) ((hf 0 h).drop 4), xorL_nil ((hf 0 h).drop 4)]
  | succ k ih => rw [sumR, sumP, ih (by omega)]
theorem sumR_small {f : Nat → Pc} {k n : Nat} (hf : ∀ i, i < n → AllB (f i).zs) (h : k ≤ n) : AllB (sumR f k) := by
  induction k with
  | zero => exact AllB.zeros _
  | succ k ih => exact xorL_small (ih (by omega)) ((hf k h).drop 4)
theorem Rws.small {w : World} {a : Option Addr} {n : Nat} {f : Nat → Pc} (h : Rws w a n f) : ∀ i, i < n → AllB (f i).zs := fun i hi => (h.each i hi).bys.small

/-- What stands behind k sectors. -/
def outR (f : Nat → Pc) (k : Nat) : List Int := (f 0).zs.take 4 ++ sumR f k
theorem byt_out {x y : List Int} (h : x.length = 4) (j : Nat) : byt (x ++ y) j = if j < 4 then byt x j else byt y (j - 4) := by
  by_cases hj : j < 4
  · rw [if_pos hj, byt_app_left (by omega)]
  · rw [if_neg hj]
    obtain ⟨m, rfl⟩ : ∃ m, j = x.length + m := ⟨j - 4, by omega⟩
    rw [byt_app_right, h, Nat.add_sub_cancel_left]

theorem outR_small {f : Nat → Pc} {k n : Nat} (hf : ∀ i, i < n → AllB (f i).zs) (h0 : 0 < n) (h : k ≤ n) : AllB (outR f k) := ((hf 0 h0).take 4).app (sumR_small hf h)
theorem outR_len {f : Nat → Pc} {k : Nat} (h64 : (f 0).zs.length = 64) (ho : oneUpto f k = true) : (outR f k).length = 64 := by
  rw [outR, List.length_append, sumR_len (Nat.le_refl _) ho, List.length_take, h64]; rfl

/-- The outer loop's relation. -/
def RefRel (f : Nat → Pc) (w0 : World) (n : Nat) (v : Value) (w : World) : Prop :=
  ∃ k : Nat, k ≤ n ∧ v = .int .i64 k ∧ oneUpto f k = true ∧ Blk w w0.heap.size (outR f k) ∧ Below w0.heap.size w0 w
/-- The inner loop's. -/
def RefRel2 (f : Nat → Pc) (k : Nat) (w0 : World) (v : Value) (w : World) : Prop :=
  ∃ (j : Nat) (zs : List Int), 4 ≤ j ∧ j ≤ 64 ∧ v = .int .i64 j ∧ Blk w w0.heap.size zs ∧ Mix zs (outR f k) (outR f (k + 1)) j ∧ Below w0.heap.size w0 w

set_option maxHeartbeats 4000000 in
theorem refPar_some (a : Option Addr) (n c : Nat) (f : Nat → Pc) (w : World) (h : Rws w a n f) (hn : n ≤ 9223372036854775807) (hn0 : 0 < n) (h64 : (f 0).zs.length = 64) :
    Calls Tryz.prog 119 #[.slice a n c] w (RetN w (parL f n) (oneSeq f n)) := by
  obtain ⟨b, off, x, m, d, zs, rfl, hbl, hc, hp, hz, hm⟩ := h.at hn0
  rw [Nat.add_zero] at hc
  have hsm := h.small
  have h64' := h64
  rw [hz, hp.len] at h64'
  subst h64'
  obtain ⟨b2, o2, rfl, hb2, hc2⟩ := hp.at (by omega)
  have hcap := hp.cap
  have hmax := hp.max
  have hq := hp.front (k := 4) (by omega) (fun h => by cases h)
  have HZ := Lib.hid hz
  have HSM := Lib.hid hsm
  have H64 := Lib.hid h64
  have hzl := hp.len
  have HZL := Lib.hid hzl
  clear hz hm hp hsm h64 hc2 hzl
  go_enter Tryz.func119, Tryz.ntmps119
  go_wp2_with (first
    | (at_make; go_must (refine wpList_mk rfl _ _ rfl _ _ _ _ 64 rfl rfl rfl rfl (by omega) ?_); intro w1 hb1 hl1; have hc1 := (hl1.cell (p := ⟨b, off, none⟩) hbl).trans hc)
    | (with_reducible refine wpList_cp rfl (.tmp 18) (.tmp 22) rfl w.heap.size 64 64 4 d (some ⟨b2, o2, none⟩) rfl rfl _ (zs.take 4) hb1 (hq.bys.below (Nat.le_refl _) hl1) (by simp) (by omega) w.heap.size w hl1 (Nat.le_refl _) ?_; intro w2 hb2 hl2))
  have hbk : Blk w2 w.heap.size (outR f 0) := by
    have : zs.take 4 ++ (List.replicate 64 0).drop 4 = outR f 0 := by rw [outR, HZ.out]; rfl
    rw [← this]; exact hb2
  clear hb1 hl1 hc1 hb2 hc hq
  go_wp2_with (fail)
  go_loopw [5, 6] (fun v _k wr => RefRel f w n v wr) (fun v _ _ => n - (RowKit.intOf v).toNat)
  case atStart => exact ⟨0, by omega, rfl, rfl, hbk, hl2⟩
  case round =>
    obtain ⟨k, hk, rfl, hone, hbk', hb⟩ := hrel
    clear hbk hl2
    have hr := h.next hb
    have HO := Lib.hid hone
    clear hone
    by_cases hlt : k < n
    · obtain ⟨b', off', x, m, d', zs', e0, hbl', hcw, hpw, hz, hm⟩ := h.at hlt
      cases e0
      have hp := hpw.next hb
      have hc' := (hb.cell (p := ⟨b, off + k, none⟩) hbl').trans hcw
      have hp64 := hp.max
      have hpc := hp.cap
      have hk0 : (0 : Int) ≤ (k : Int) := by omega
      have hk1 : (k : Int) < (n : Int) := by omega
      by_cases hm64 : m = 64
      · subst hm64
        obtain ⟨b3, o3, rfl, hb3, hc3⟩ := hpw.at (by omega)
        have hstep : Hid (oneUpto f (k + 1) = sameB (zs'.take 4) ((outR f k).take 4)) := by
          show _ = _
          rw [oneUpto, HO.out, hz, hp.len, HZ.out, outR, HZ.out, List.take_left' (by rw [List.length_take, HZL.out]; rfl)]
          simp [is64]
        have hxf := Lib.hid (hp.front (k := 4) (by omega) (fun h => by cases h)).bys
        have hof := Lib.hid (hbk'.bys (outR_small HSM.out hn0 hk) (n := 4) (by rw [outR_len H64.out HO.out]; omega))
        have HBK := Lib.hid hbk'
        have HP := Lib.hid hp
        have HZ' := Lib.hid hz
        have HN3 := Lib.hid hb3
        have HC3 := Lib.hid hc3
        have HCW := Lib.hid hcw
        clear hbk' hp hpw hz hr hm hc3 hb3 hcw
        cases hsb : sameB (zs'.take 4) ((outR f k).take 4)
        · have HE : Hid (∀ q, Calls Tryz.prog 15 #[.slice (some ⟨b3, o3, none⟩) 4 d', .slice (some ⟨w.heap.size, 0, none⟩) 4 64] (wr.drewN q) fun e w' => e = .returned (.bool false) ∧ ∃ m, w' = (wr.drewN q).drewN m) := by
            show ∀ q, _
            intro q
            have := same_any (some ⟨b3, o3, none⟩) (some ⟨w.heap.size, 0, none⟩) 4 d' 4 64 _ _ (wr.drewN q) (hxf.out.drewN q) (hof.out.drewN q) (by omega)
            rwa [hsb] at this
          have hstp : Hid (oneUpto f (k + 1) = false) := by show _ = _; rw [hstep.out, hsb]
          clear hsb
          go_wp2_with (fail)
          go_quiet ((go_at_call 15; exact Calls.quiet_of (HE.out _)))
          go_wp2_with (fail)
          go_ret2
          rw [oneSeq_no hlt hstp.out, parL, oneSeq_no hlt hstp.out]
          exact ⟨_, _, _, rfl, Pin.zero _, (fun x hx => by cases hx), by first | exact below_drewN hb _ | exact hb⟩
        · have HE : Hid (∀ q, Calls Tryz.prog 15 #[.slice (some ⟨b3, o3, none⟩) 4 d', .slice (some ⟨w.heap.size, 0, none⟩) 4 64] (wr.drewN q) fun e w' => e = .returned (.bool true) ∧ ∃ m, w' = (wr.drewN q).drewN m) := by
            show ∀ q, _
            intro q
            have := same_any (some ⟨b3, o3, none⟩) (some ⟨w.heap.size, 0, none⟩) 4 d' 4 64 _ _ (wr.drewN q) (hxf.out.drewN q) (hof.out.drewN q) (by omega)
            rwa [hsb] at this
          have hstp : Hid (oneUpto f (k + 1) = true) := by show _ = _; rw [hstep.out, hsb]
          clear hsb
          go_wp2_with (fail)
          go_quiet ((go_at_call 15; exact Calls.quiet_of (HE.out _)))
          go_wp2_with (fail)
          have hl4 : Below w.heap.size w (wr.drewN nq) := below_drewN hb nq
          have hk4 : Blk (wr.drewN nq) w.heap.size (outR f k) := HBK.out.drewN nq
          have hsm' := (Rws.small h)
          have HT := Lib.hid (show ∀ j, 4 ≤ j → j < 64 → bits .xor .u8 (byt (outR f k) j) (byt zs' j) = byt (outR f (k + 1)) j from fun j h4 h64 => by
            have h4l : ((f 0).zs.take 4).length = 4 := by rw [List.length_take, H64.out]; rfl
            have hl1 := sumR_len (Nat.le_refl _) HO.out
            have hb1 := byt_bd (outR_small HSM.out hn0 hk) j
            have hb2 := byt_bd HP.out.bys.small j
            rw [u8_xr hb1 hb2, outR, outR, byt_out h4l, byt_out h4l, if_neg (by omega), if_neg (by omega), sumR, byt_xorL (by rw [hl1]; omega), byt_drop, HZ'.out, show 4 + (j - 4) = j by omega])
          have HF := Lib.hid (show ∀ j, j < 4 → byt (outR f k) j = byt (outR f (k + 1)) j from fun j h4 => by
            have h4l : ((f 0).zs.take 4).length = 4 := by rw [List.length_take, H64.out]; rfl
            rw [outR, outR, byt_out h4l, byt_out h4l, if_pos h4, if_pos h4])
          have HL0 := Lib.hid (outR_len H64.out HO.out)
          have HL1 := Lib.hid (outR_len H64.out hstp.out)
          clear hc' hb hsm'
          obtain ⟨w4, hw4⟩ : ∃ w4, w4 = wr.drewN nq := ⟨_, rfl⟩
          rw [← hw4] at hl4 hk4 ⊢
          clear hw4 hstep hof hxf HBK HE
          obtain ⟨wo, rfl⟩ : ∃ wo, wo = wr := ⟨_, rfl⟩
          go_loopw [6] (fun v wr => RefRel2 f k w v wr) (fun v _ => 64 - (RowKit.intOf v).toNat)
          case atStart => exact ⟨4, _, by omega, by omega, rfl, hk4, ⟨by rw [HL0.out, HL1.out], HF.out, fun _ _ => rfl⟩, hl4⟩
          case round =>
            obtain ⟨j, zo, h4j, hj, rfl, hbo, hmix, hlo⟩ := hrel
            clear hk4 hl4
            by_cases hj64 : j < 64
            · have g0 : wr.cell? ⟨w.heap.size, j, none⟩ = some (.int .u8 (byt zo j)) := hbo.cell (by rw [hmix.len, HL1.out]; exact hj64)
              have g1 : wr.cell? ⟨b, off + k, none⟩ = some (.slice (some ⟨b3, o3, none⟩) 64 d') := (hlo.cell (p := ⟨b, off + k, none⟩) hbl').trans HCW.out
              have g2 : wr.cell? ⟨b3, o3 + j, none⟩ = some (.int .u8 (byt zs' j)) := (hlo.cell (p := ⟨b3, o3 + j, none⟩) HN3.out).trans (HC3.out j hj64)
              have g3 : wr.frozen? ⟨w.heap.size, j, none⟩ = false := hbo.free j
              have hj0 : (0 : Int) ≤ (j : Int) := by omega
              have hj1 : (j : Int) < 64 := by omega
              have d0 : wr.drew.cell? ⟨w.heap.size, j, none⟩ = some (.int .u8 (byt zo j)) := g0
              have d3 : wr.drew.frozen? ⟨w.heap.size, j, none⟩ = false := g3
              go_wp2_with (fail)
              refine wp_region_held_drew (S := (fun w' => w'.cell? ⟨b, off + k, none⟩ = some (.slice (some ⟨b3, o3, none⟩) 64 d') ∧ w'.cell? ⟨b3, o3 + j, none⟩ = some (.int .u8 (byt zs' j)))) (by kernel_rfl) ?_ (fun hHeld => ?_)
              · exact ⟨g1, g2⟩
              refine wpAnyH_take (i := 0) (v := ?_) rfl (by kernel_rfl) (by kernel_rfl) (by kernel_rfl) (fun _ _ _ h => h) (Or.inl ⟨by rfl, fun w hSw => ?_⟩) (by assumption) ?_
              rotate_left
              · (try dsimp only at hSw); go_simp; try with_reducible rfl
              simp only [Act.put, List.setIfInBounds_toArray, List.set_cons_zero, List.set_cons_succ, List.getElem_toArray, List.getElem_cons_zero]
              refine wpAnyH_take (i := 1) (v := ?_) rfl (by kernel_rfl) (by kernel_rfl) (by kernel_rfl) (fun _ _ _ h => h) (Or.inl ⟨by rfl, fun w hSw => ?_⟩) (by assumption) ?_
              rotate_left
              · (try dsimp only at hSw); go_simp; try with_reducible rfl
              simp only [Act.put, List.setIfInBounds_toArray, List.set_cons_zero, List.set_cons_succ, List.getElem_toArray, List.getElem_cons_succ, List.getElem_cons_zero]
              refine wpAnyH_take (i := 2) (v := ?_) rfl (by kernel_rfl) (by kernel_rfl) (by kernel_rfl) (fun _ _ _ h => h) (Or.inl ⟨by rfl, fun w hSw => ?_⟩) (by assumption) ?_
              rotate_left
              · (try dsimp only at hSw); go_simp; try with_reducible rfl
              simp only [Act.put, List.setIfInBounds_toArray, List.set_cons_zero, List.set_cons_succ, List.getElem_toArray, List.getElem_cons_succ, List.getElem_cons_zero]
              refine wpAnyH_take (i := 4) (v := ?_) rfl (by kernel_rfl) (by kernel_rfl) (by kernel_rfl) (fun _ _ _ h => h) (Or.inl ⟨by rfl, fun w hSw => ?_⟩) (by assumption) ?_
              rotate_left
              · (try dsimp only at hSw); go_simp; try with_reducible rfl
              simp only [Act.put, List.setIfInBounds_toArray, List.set_cons_zero, List.set_cons_succ, List.getElem_toArray, List.getElem_cons_succ, List.getElem_cons_zero]
              refine wpAnyH_take (i := 5) (v := ?_) rfl (by kernel_rfl) (by kernel_rfl) (by kernel_rfl) (fun _ _ _ h => h) (Or.inl ⟨by rfl, fun w hSw => ?_⟩) (by assumption) ?_
              rotate_left
              · (try dsimp only at hSw); go_simp; try with_reducible rfl
              simp only [Act.put, List.setIfInBounds_toArray, List.set_cons_zero, List.set_cons_succ, List.getElem_toArray, List.getElem_cons_succ, List.getElem_cons_zero]
              refine wpAnyH_take (i := 6) (v := ?_) rfl (by kernel_rfl) (by kernel_rfl) (by kernel_rfl) (fun _ _ _ h => h) (Or.inl ⟨by rfl, fun w hSw => ?_⟩) (by assumption) ?_
              rotate_left
              · (try dsimp only at hSw); go_simp; try with_reducible rfl
              simp only [Act.put, List.setIfInBounds_toArray, List.set_cons_zero, List.set_cons_succ, List.getElem_toArray, List.getElem_cons_succ, List.getElem_cons_zero]
              refine wpAnyH_take (i := 7) (v := ?_) rfl (by kernel_rfl) (by kernel_rfl) (by kernel_rfl) (fun _ _ _ h => h) (Or.inl ⟨by rfl, fun w hSw => ?_⟩) (by assumption) ?_
              rotate_left
              · (try dsimp only at hSw); go_simp; try with_reducible rfl
              simp only [Act.put, List.setIfInBounds_toArray, List.set_cons_zero, List.set_cons_succ, List.getElem_toArray, List.getElem_cons_succ, List.getElem_cons_zero]
              refine wpAnyH_take (i := 8) (v := ?_) rfl (by kernel_rfl) (by kernel_rfl) (by kernel_rfl) (fun _ _ _ h => h) (Or.inl ⟨by rfl, fun w hSw => ?_⟩) (by assumption) ?_
              rotate_left
              · (try dsimp only at hSw); go_simp; try with_reducible rfl
              simp only [Act.put, List.setIfInBounds_toArray, List.set_cons_zero, List.set_cons_succ, List.getElem_toArray, List.getElem_cons_succ, List.getElem_cons_zero]
              refine wpAnyH_take (i := 9) (v := ?_) rfl (by kernel_rfl) (by kernel_rfl) (by kernel_rfl) (fun _ _ _ h => h) (Or.inl ⟨by rfl, fun w hSw => ?_⟩) (by assumption) ?_
              rotate_left
              · (try dsimp only at hSw); go_simp; try with_reducible rfl
              simp only [Act.put, List.setIfInBounds_toArray, List.set_cons_zero, List.set_cons_succ, List.getElem_toArray, List.getElem_cons_succ, List.getElem_cons_zero]
              refine wpAnyH_take (i := 10) (v := ?_) rfl (by kernel_rfl) (by kernel_rfl) (by kernel_rfl) (fun _ _ _ h => h) (Or.inl ⟨by rfl, fun w hSw => ?_⟩) (by assumption) ?_
              rotate_left
              · (try dsimp only at hSw); go_simp; try with_reducible rfl
              simp only [Act.put, List.setIfInBounds_toArray, List.set_cons_zero, List.set_cons_succ, List.getElem_toArray, List.getElem_cons_succ, List.getElem_cons_zero]
              refine wpAnyH_ready (rs := [3]) (by kernel_rfl) (by simp) ?_
              refine AllReadyH.cons rfl (fun K hK => ?_) AllReadyH.nil
              simp only [List.getElem_toArray, List.getElem_cons_succ, List.getElem_cons_zero]
              go_simp
              refine hK.out _ _ ⟨g1, g2⟩ (fun hHeld => ?_)
              clear hK K
              refine wpAnyH_take (i := 11) (v := ?_) rfl (by kernel_rfl) (by kernel_rfl) (by kernel_rfl) (fun _ _ _ h => h) (Or.inl ⟨by rfl, fun w hSw => ?_⟩) (by assumption) ?_
              rotate_left
              · (try dsimp only at hSw); go_simp; try with_reducible rfl
              simp only [Act.put, List.setIfInBounds_toArray, List.set_cons_zero, List.set_cons_succ, List.getElem_toArray, List.getElem_cons_succ, List.getElem_cons_zero]
              refine wpAnyH_take (i := 12) (v := ?_) rfl (by kernel_rfl) (by kernel_rfl) (by kernel_rfl) (fun _ _ _ h => h) (Or.inl ⟨by rfl, fun w hSw => ?_⟩) (by assumption) ?_
              rotate_left
              · (try dsimp only at hSw); go_simp; try with_reducible rfl
              simp only [Act.put, List.setIfInBounds_toArray, List.set_cons_zero, List.set_cons_succ, List.getElem_toArray, List.getElem_cons_succ, List.getElem_cons_zero]
              refine wpAnyH_ready (rs := [13]) (by kernel_rfl) (by simp) ?_
              refine AllReadyH.cons rfl (fun K hK => ?_) AllReadyH.nil
              simp only [List.getElem_toArray, List.getElem_cons_succ, List.getElem_cons_zero]
              go_simp
              have hnew : Below w.heap.size w (wr.drew.setCell ⟨w.heap.size, j, none⟩ (.int .u8 (bits .xor .u8 (byt zo j) (byt zs' j)))) := (below_drewN hlo 1).setCell (Nat.le_refl _) _
              have k1 := (hnew.cell (p := ⟨b, off + k, none⟩) hbl').trans HCW.out
              have k2 := (hnew.cell (p := ⟨b3, o3 + j, none⟩) HN3.out).trans (HC3.out j hj64)
              refine hK.out _ _ ⟨k1, k2⟩ (fun hHeld => ?_)
              clear hK K
              refine wpAnyH_done (by kernel_rfl) ?_ _
              clear k1 k2
              go_wp2_with (fail)
              go_roundw
              case rel => exact ⟨j + 1, _, by omega, by omega, by go_num, (hbo.drewN 1).set j _, hmix.set (by rw [HL1.out]; exact hj64) (by rw [hmix.old j (Nat.le_refl _)]; exact HT.out j h4j hj64), hnew⟩
              case measure => simp [RowKit.intOf]; omega
            · obtain rfl : j = 64 := by omega
              have hz := hmix.done (fun j h h' => by rw [HL1.out] at h'; omega)
              rw [hz] at hbo
              clear hz
              go_wp2_with (fail)
              go_roundw
              case rel => exact ⟨k + 1, by omega, by go_num, hstp.out, hbo, hlo⟩
              case measure => simp [RowKit.intOf]; omega
      · have hno : Hid (oneUpto f (k + 1) = false) := by
          show _ = _
          rw [oneUpto, hz, hp.len]
          simp [is64, hm64]
        have hb3 := hb
        have hm' : ((m : Int) != 64) = true := by simp; omega
        clear hbk' hz hp hpw hcw hr hm
        go_wp2_with (fail)
        go_quiet (fail)
        go_wp2_with (fail)
        go_ret2
        rw [oneSeq_no hlt hno.out, parL, oneSeq_no hlt hno.out]
        exact ⟨_, _, _, rfl, Pin.zero _, (fun x hx => by cases hx), by first | exact below_drewN hb _ | exact hb⟩
    · obtain rfl : k = n := by omega
      have hP : Hid (oneSeq f k = true ∧ parL f k = outR f k) := by
        show _ ∧ _
        have h1 : oneSeq f k = true := by simp [oneSeq, hn0, HO.out]
        refine ⟨h1, ?_⟩
        obtain ⟨j, rfl⟩ : ∃ j, k = j + 1 := ⟨k - 1, by omega⟩
        rw [parL, h1, outR, sumR_sumP HSM.out (Nat.le_refl _) HO.out]
        rfl
      have hln : (outR f k).length = 64 := by rw [outR, List.length_append, sumR_len (Nat.le_refl _) HO.out, List.length_take, H64.out]; rfl
      have hpin := hbk'.pin (c := 64) (outR_small HSM.out hn0 (Nat.le_refl _)) hln (Nat.le_refl _) (by omega)
      clear hbk' hr hln
      go_wp2_with (fail)
      go_ret2
      rw [hP.out.1, hP.out.2]
      exact ⟨_, _, _, rfl, hpin, (fun x hx => by cases hx; exact Nat.le_refl _), hb⟩

end Go.Proofs.YtciddoeeiamndaaGreat

/-
  The reference's Parity, of whatever row.
-/
namespace Go.Proofs.YtciddoeeiamndaaGreat
open Go.RowKit

set_option maxHeartbeats 1000000 in
theorem refPar_any (a : Option Addr) (n c : Nat) (f : Nat → Pc) (w : World) (h : Rws w a n f) (hn : n ≤ 9223372036854775807) :
    Calls Tryz.prog 119 #[.slice a n c] w (RetN w (parL f n) (oneSeq f n)) := by
  by_cases h0 : n = 0
  · subst h0
    clear h
    go_enter Tryz.func119, Tryz.ntmps119
    go_wp2_with (fail)
    go_ret2
    exact ⟨_, _, _, rfl, Pin.zero _, (fun x hx => by cases hx), Below.refl _ _⟩
  · by_cases h64 : (f 0).zs.length = 64
    · exact refPar_some a n c f w h hn (by omega) h64
    · obtain ⟨b, off, x, m, d, zs, rfl, hbl, hc, hp, hz, hm⟩ := h.at (i := 0) (by omega)
      rw [Nat.add_zero] at hc
      have ho : oneSeq f n = false := by
        refine oneSeq_no (k := 1) (by omega) ?_
        simp [oneUpto, is64, h64]
      have hP : Hid (parL f n = []) := by show _ = _; rw [parL, ho]; rfl
      have HO := Lib.hid ho
      have hml : m ≠ 64 := by rw [← hp.len, ← hz]; exact h64
      have hm' : ((m : Int) != 64) = true := by simp; omega
      have hpc := hp.cap
      have hpm := hp.max
      have h1 : ((n : Int) == 0) = false := by simp; omega
      clear h hz hp hm ho h64 hml
      go_enter Tryz.func119, Tryz.ntmps119
      go_wp2_with (fail)
      go_ret2
      rw [hP.out, HO.out]
      exact ⟨_, _, _, rfl, Pin.zero _, (fun x hx => by cases hx), Below.refl _ _⟩

end Go.Proofs.YtciddoeeiamndaaGreat

/-
  The reference's Decode, by contract.
-/
namespace Go.Proofs.YtciddoeeiamndaaGreat
open Go.RowKit

set_option maxHeartbeats 1000000 in
theorem refDec_no (a : Option Addr) (n c : Nat) (x : List Int) (w : World) (hx : Pin w a n c x) (hn : n ≠ 64) :
    Calls Tryz.prog 84 #[.slice a n c] w (DecPost w x) := by
  have ho : Hid (decO x = false) := by show _ = _; simp [decO, hx.len, hn]
  have hi : ((n : Int) != 64) = true := by simp; omega
  clear hx hn
  go_enter Tryz.func84, Tryz.ntmps84
  go_wp2_with (fail)
  exact bodyPost_ret (v := .tuple #[hv 0 0 0, .slice none 0 0, .bool false]) (by simp [results, Tryz.results84, go_sem]) rfl (by
    rw [DecPost, decN, decN, decN, decL, ho.out]
    exact ⟨_, _, _, rfl, Pin.zero _, ((Below.refl _ _).alloc (Nat.le_refl _) _)⟩)

set_option maxHeartbeats 2000000 in
theorem refDec_yes (a : Option Addr) (c : Nat) (x : List Int) (w : World) (hx : Pin w a 64 c x) :
    Calls Tryz.prog 84 #[.slice a 64 c] w (DecPost w x) := by
  have ho : Hid (decO x = true) := by show _ = _; simp [decO, hx.len]
  obtain ⟨b, off, rfl, hlt, _⟩ := hx.at (by omega)
  have hcap := hx.cap
  have hmax := hx.max
  have hc8 : ¬ c = 8 := by omega
  have hx1 := (hx.alloc (.cells #[.int .i64 0, .int .i64 0, .int .i64 0] 126 (0, 0))).alloc (.cells #[.int .i64 0, .int .i64 0, .int .i64 0] 126 (0, 0))
  go_enter Tryz.func84, Tryz.ntmps84
  go_wp2_with (fail)
  refine (refGet_yes _ 64 c 0 4 x _ hx1.bys (by omega) (by omega) (by omega) (by omega)).mono ?_
  rintro e w1 ⟨rfl, rfl⟩
  obtain ⟨p, hp⟩ : ∃ p, p = getN x 0 4 := ⟨_, rfl⟩
  rw [← hp]
  have hP := Lib.hid hp
  clear hp
  go_wp2_with (fail)
  refine (refGet_yes _ 64 c 4 2 x _ ((hx.alloc _).alloc _).bys (by omega) (by omega) (by omega) (by omega)).mono ?_
  rintro e w1 ⟨rfl, rfl⟩
  obtain ⟨q, hq⟩ : ∃ p, p = getN x 4 2 := ⟨_, rfl⟩
  rw [← hq]
  have hQ := Lib.hid hq
  clear hq
  go_wp2_with (fail)
  refine (refGet_yes _ 64 c 6 2 x _ ((hx.alloc _).alloc _).bys (by omega) (by omega) (by omega) (by omega)).mono ?_
  rintro e w1 ⟨rfl, rfl⟩
  obtain ⟨r, hr⟩ : ∃ p, p = getN x 6 2 := ⟨_, rfl⟩
  rw [← hr]
  have hR := Lib.hid hr
  clear hr
  go_wp2_with (fail)
  obtain ⟨w2, hw2⟩ : ∃ w2, w2 = (w.alloc (.cells #[.int .i64 0, .int .i64 0, .int .i64 0] 126)).alloc (.cells #[.int .i64 p, .int .i64 q, .int .i64 r] 126) := ⟨_, rfl⟩
  have hd : Hx w2.drew (w.heap.size + 1) p q r := by rw [hw2]; have := Hx.mk' (w.alloc (.cells #[.int .i64 0, .int .i64 0, .int .i64 0] 126)) p q r 126; simpa using this.drew
  have hz : Rc w2.drew w.heap.size := by rw [hw2]; exact ((Rc.mk' w 126).alloc _).drew
  have hx2 : Pin w2.drew (some ⟨b, off, none⟩) 64 c x := by rw [hw2]; exact ((hx.alloc _).alloc _).drewN 1
  have hB2 : Below w.heap.size w w2.drew := by rw [hw2]; exact below_drewN (((Below.refl _ _).alloc (Nat.le_refl _) _).alloc (by simp) _) 1
  rw [← hw2]
  clear hw2 hx hx1
  have hc0 := hd.c0
  have hc1 := hd.c1
  have hc2 := hd.c2
  refine wp_region_held_drew (S := (fun w' => w'.cell? ⟨w.heap.size + 1, 0, none⟩ = some (.int .i64 p) ∧ w'.cell? ⟨w.heap.size + 1, 1, none⟩ = some (.int .i64 q) ∧ w'.cell? ⟨w.heap.size + 1, 2, none⟩ = some (.int .i64 r))) (by kernel_rfl) ?_ (fun hHeld => ?_)
  · exact ⟨hc0, hc1, hc2⟩
  refine wpAnyH_take (i := 0) (v := ?_) rfl (by kernel_rfl) (by kernel_rfl) (by kernel_rfl) (fun _ _ _ h => h) (Or.inl ⟨by rfl, fun w hSw => ?_⟩) (by assumption) ?_
  rotate_left
  · (try dsimp only at hSw); go_simp; try with_reducible rfl
  simp only [Act.put, List.setIfInBounds_toArray, List.set_cons_zero, List.set_cons_succ, List.getElem_toArray, List.getElem_cons_zero]
  refine wpAnyH_take (i := 1) (v := ?_) rfl (by kernel_rfl) (by kernel_rfl) (by kernel_rfl) (fun _ _ _ h => h) (Or.inl ⟨by rfl, fun w hSw => ?_⟩) (by assumption) ?_
  rotate_left
  · (try dsimp only at hSw); go_simp; try with_reducible rfl
  simp only [Act.put, List.setIfInBounds_toArray, List.set_cons_zero, List.set_cons_succ, List.getElem_toArray, List.getElem_cons_succ, List.getElem_cons_zero]
  refine wpAnyH_take (i := 2) (v := ?_) rfl (by kernel_rfl) (by kernel_rfl) (by kernel_rfl) (fun _ _ _ h => h) (Or.inl ⟨by rfl, fun w hSw => ?_⟩) (by assumption) ?_
  rotate_left
  · (try dsimp only at hSw); go_simp; try with_reducible rfl
  simp only [Act.put, List.setIfInBounds_toArray, List.set_cons_zero, List.set_cons_succ, List.getElem_toArray, List.getElem_cons_succ, List.getElem_cons_zero]
  refine wpAnyH_ready (rs := [3]) (by kernel_rfl) (by simp) ?_
  refine AllReadyH.cons rfl (fun K hK => ?_) AllReadyH.nil
  simp only [List.getElem_toArray, List.getElem_cons_succ, List.getElem_cons_zero]
  go_simp
  refine (copy_any _ 56 (c - 8) (x.drop 8) _ (hx2.rest 8).bys (fun h => by cases h) (by omega)).mono ?_
  rintro e w3 ⟨v3, rfl, ho3, hb3⟩
  have hd3 := hd.next hb3
  have hz3 := hz.next hb3
  have hB3 := hB2.trans (hb3.mono hB2.size)
  have hz2lt := hz.lt
  have hxl : (x.drop 8).length = 56 := by rw [List.length_drop, hx2.len]
  have HXL := Lib.hid hxl
  clear hd hz hB2 hb3 hx2 hxl
  obtain ⟨v0, z0⟩ := hz3.c0
  obtain ⟨v1, z1⟩ := hz3.c1
  obtain ⟨v2, z2⟩ := hz3.c2
  have f0 := hz3.f0
  have f1 := hz3.f1
  have f2 := hz3.f2
  go_wp2_with (fail)
  refine hK.out _ _ ⟨hd3.c0, hd3.c1, hd3.c2⟩ (fun hHeld => ?_)
  clear hK K
  refine wpAnyH_ready (rs := [4]) (by kernel_rfl) (by simp) ?_
  refine AllReadyH.cons rfl (fun K hK => ?_) AllReadyH.nil
  simp only [List.getElem_toArray, List.getElem_cons_succ, List.getElem_cons_zero]
  go_simp
  have hd4 : Hx (setH w3 w.heap.size p q r) (w.heap.size + 1) p q r := hd3.setOther (by omega)
  have hr4 : Hx (setH w3 w.heap.size p q r) w.heap.size p q r := hz3.set p q r
  have ho4 : Own (setH w3 w.heap.size p q r) w2.drew.heap.size v3 56 (x.drop 8) := ho3.setH hz2lt
  have hB4 : Below w.heap.size w (setH w3 w.heap.size p q r) := hB3.setH (Nat.le_refl _)
  refine hK.out _ (setH w3 w.heap.size p q r) ⟨hd4.c0, hd4.c1, hd4.c2⟩ (fun hHeld => ?_)
  clear hK K
  obtain ⟨w4, hw4⟩ : ∃ w4, w4 = setH w3 w.heap.size p q r := ⟨_, rfl⟩
  rw [← hw4] at hd4 hr4 ho4 hB4 hHeld ⊢
  clear hw4
  obtain ⟨a4, c4, rfl, hp4, _⟩ := ho4.pin
  refine wpAnyH_take (i := 5) (v := ?_) rfl (by kernel_rfl) (by kernel_rfl) (by kernel_rfl) (fun _ _ _ h => h) (Or.inl ⟨by rfl, fun w hSw => ?_⟩) (by assumption) ?_
  rotate_left
  · (try dsimp only at hSw); go_simp; try with_reducible rfl
  simp only [Act.put, List.setIfInBounds_toArray, List.set_cons_zero, List.set_cons_succ, List.getElem_toArray, List.getElem_cons_succ, List.getElem_cons_zero]
  refine wpAnyH_take (i := 6) (v := ?_) rfl (by kernel_rfl) (by kernel_rfl) (by kernel_rfl) (fun _ _ _ h => h) (Or.inl ⟨by rfl, fun w hSw => ?_⟩) (by assumption) ?_
  rotate_left
  · (try dsimp only at hSw); go_simp; try with_reducible rfl
  simp only [Act.put, List.setIfInBounds_toArray, List.set_cons_zero, List.set_cons_succ, List.getElem_toArray, List.getElem_cons_succ, List.getElem_cons_zero]
  refine wpAnyH_done (by kernel_rfl) ?_ _
  go_wp2_with (fail)
  have g0 := hr4.c0
  have g1 := hr4.c1
  have g2 := hr4.c2
  exact bodyPost_ret (v := .tuple #[hv p q r, .slice a4 56 c4, .bool true]) (by simp [results, Tryz.results84, go_sem, g0, g1, g2]) rfl (by
    rw [DecPost, decN, decN, decN, decL, ho.out, ← hP.out, ← hQ.out, ← hR.out]
    exact ⟨_, _, _, rfl, hp4, hB4⟩)

theorem refDec_any (a : Option Addr) (n c : Nat) (x : List Int) (w : World) (hx : Pin w a n c x) : Calls Tryz.prog 84 #[.slice a n c] w (DecPost w x) := by
  by_cases h : n = 64
  · subst h; exact refDec_yes a c x w hx
  · exact refDec_no a n c x w hx h

end Go.Proofs.YtciddoeeiamndaaGreat
