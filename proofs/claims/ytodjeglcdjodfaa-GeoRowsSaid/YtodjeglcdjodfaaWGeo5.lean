/-
  The law GeoRows, walked.
-/
import Derived.Test.YtodjeglcdjodfaaWGeo4
namespace Go.Proofs.Ytodjeglcdjodfaa
open Go.RowKit

theorem parity_at (d r s g k P Q : Int) (w : World) (h : Sg d r s g) (k0 : 0 ≤ k) (k1 : k < r) (hP : P = PD d (g * r + k)) (hQ : Q = 5 + (g * r + k)) :
    Calls Try.prog 22 #[gv d r s, .int .i64 g, .int .i64 k] w fun e w' => e = .returned (sv P Q true) ∧ Below w.heap.size w w' := by
  rw [hP, hQ]
  exact parity_yes d r s g k w h k0 k1
/-- The disks that a row's parity and its first c blocks are on, as bits. -/
def mk (D p : Nat) : Nat → Nat
  | 0 => 2 ^ p
  | c + 1 => mk D p c ||| 2 ^ ((p + 1 + c) % D)
theorem mk_all : ∀ D < 17, ∀ p < D, (∀ c < D, mk D p c < 65536 ∧ (c + 1 < D → mk D p c / 2 ^ ((p + 1 + c) % D) % 2 = 0)) ∧ mk D p (D - 1) = 2 ^ D - 1 := by decide +kernel

theorem i64_nat {a : Nat} (h : a < 9223372036854775808) : (BitVec.ofInt 64 (a : Int)).toNat = a := by
  rw [BitVec.ofInt_natCast, BitVec.toNat_ofNat]; exact Nat.mod_eq_of_lt (by omega)
theorem i64_or_nat (a b : Nat) (ha : a < 9223372036854775808) (hb : b < 9223372036854775808) : bits .or .i64 (a : Int) (b : Int) = ((a ||| b : Nat) : Int) := by
  have hx : a ||| b < 2 ^ 63 := Nat.or_lt_two_pow (by omega) (by omega)
  show IntKind.i64.wrap ((BitVec.ofInt 64 (a : Int) ||| BitVec.ofInt 64 (b : Int)).toNat : Int) = _
  rw [BitVec.toNat_or, i64_nat ha, i64_nat hb, IntKind.wrap_i64]
  omega
theorem i64_and_one (a : Nat) (ha : a < 9223372036854775808) : bits .and .i64 (a : Int) 1 = ((a % 2 : Nat) : Int) := by
  show IntKind.i64.wrap ((BitVec.ofInt 64 (a : Int) &&& BitVec.ofInt 64 ((1 : Nat) : Int)).toNat : Int) = _
  rw [BitVec.toNat_and, i64_nat ha, i64_nat (by omega), IntKind.wrap_i64, Nat.and_one_is_mod]
  omega
theorem two_pow_lt {b : Nat} (h : b < 17) : (2 : Nat) ^ b ≤ 65536 := by
  have := Nat.pow_le_pow_right (show 0 < 2 by omega) (show b ≤ 16 by omega)
  simpa using this
theorem shl_nat {b : Nat} (h : b < 17) : wrap64 (2 ^ b) = ((2 ^ b : Nat) : Int) := by
  have := two_pow_lt h
  rw [show (2 : Int) ^ b = ((2 ^ b : Nat) : Int) by simp]
  generalize (2 : Nat) ^ b = N at *
  exact IntWalk.wrap64_in _ (by omega)
theorem and_bit {m b : Nat} (hm : m < 65536) (h0 : m / 2 ^ b % 2 = 0) : (bits .and .i64 ((m : Int) / 2 ^ b) 1 == 1) = false := by
  have hd : m / 2 ^ b ≤ m := Nat.div_le_self _ _
  rw [show (m : Int) / 2 ^ b = ((m / 2 ^ b : Nat) : Int) by simp, i64_and_one _ (by omega), h0]
  rfl
theorem or_bit {m b : Nat} (hm : m < 65536) (hb : b < 17) : bits .or .i64 (m : Int) (wrap64 (2 ^ b)) = ((m ||| 2 ^ b : Nat) : Int) := by
  have := two_pow_lt hb
  rw [shl_nat hb, i64_or_nat _ _ (by omega) (by omega)]

theorem block_at (D r s g k : Int) (q c b : Nat) (w : World) (h : Sg D r s g) (k0 : 0 ≤ k) (k1 : k < r) (c1 : (c : Int) < D - 1) (hP : (q : Int) = PD D (g * r + k)) (Q : Int) (hQ : Q = 5 + (g * r + k)) (hb : (b : Int) = (q + 1 + c) % D) :
    Calls Try.prog 20 #[gv D r s, .int .i64 g, .int .i64 (k * (D - 1) + c)] w fun e w' => e = .returned (sv b Q true) ∧ Below w.heap.size w w' := by
  have d1 := h.d1
  have m0 := Int.mul_nonneg k0 (show 0 ≤ D - 1 by omega)
  have m1 := Int.mul_le_mul_of_nonneg_right (show k + 1 ≤ r by omega) (show 0 ≤ D - 1 by omega)
  rw [Int.add_mul, Int.one_mul] at m1
  have e1 : (k * (D - 1) + c) / (D - 1) = k := by
    rw [Int.add_comm, Int.add_mul_ediv_right _ _ (by omega), Int.ediv_eq_zero_of_lt (by omega) c1]
    omega
  have e2 : (k * (D - 1) + c) % (D - 1) = c := by
    rw [Int.add_comm, Int.add_mul_emod_self_right, Int.emod_eq_of_lt (by omega) c1]
  have := block_yes D r s g (k * (D - 1) + c) w h (by omega) (by unfold PL; omega)
  rw [e1, e2] at this
  rw [hb, hQ]
  unfold BD at this
  rw [← hP] at this
  exact this

set_option maxHeartbeats 1000000 in
theorem rows_yes (D : Nat) (r s g k : Int) (w : World) (h : Sg D r s g) (k0 : 0 ≤ k) (k1 : k < r) :
    Calls Try.prog 6 #[gv D r s, .int .i64 g, .int .i64 k] w fun e w' => e = .returned (.bool true) ∧ Below w.heap.size w w' := by
  have x1 := Bx.mk' w D r s 23
  have hB1 : Below w.heap.size w (w.alloc (.cells #[.int .i64 D, .int .i64 r, .int .i64 s] 23 (0, 0))) := (Below.refl _ _).alloc (Nat.le_refl _) _
  have d1 := h.d1
  have d2 := h.d2
  obtain ⟨b1, b2⟩ := PD_bd (q := g * r + k) d1
  obtain ⟨p, hP⟩ : ∃ p : Nat, (p : Int) = PD D (g * r + k) := ⟨(PD D (g * r + k)).toNat, by omega⟩
  obtain ⟨Q, hQ⟩ : ∃ Q, Q = 5 + (g * r + k) := ⟨_, rfl⟩
  rw [← hP] at b1 b2
  have HP := Lib.hid hP
  have HQ := Lib.hid hQ
  clear hP hQ
  have hpD : p < D := by omega
  obtain ⟨M1, M2⟩ := mk_all D (by omega) p hpD
  have M1' := Lib.hid M1
  have M2' := Lib.hid M2
  have W1 : Hid (wrap64 (2 ^ p) = ((mk D p 0 : Nat) : Int)) := Lib.hid (shl_nat (by omega))
  clear M1 M2
  go_enter Try.func6, Try.ntmps6
  go_wp2_with (fail)
  refine (alive_any _).mono ?_
  rintro e w2 ⟨rfl, hb2⟩
  have x2 := x1.next hb2
  have hB2 := hB1.trans (hb2.mono (Nat.le_of_lt x1.lt))
  clear x1 hB1
  have y1 := x2.c0
  have y2 := x2.c1
  have y3 := x2.c2
  go_wp2_with (fail)
  refine (parity_at D r s g k p Q _ h k0 k1 HP.out HQ.out).mono ?_
  rintro e w3 ⟨rfl, hb3⟩
  have x3 := x2.next hb3
  have hB3 := hB2.trans (hb3.mono (Nat.le_of_lt x2.lt))
  clear y1 y2 y3
  clear x2 hB2
  have y1 := x3.c0
  have y2 := x3.c1
  have y3 := x3.c2
  have s4 := Px.mk' w3 p Q 30
  have x4 := x3.alloc (.cells #[.int .i64 p, .int .i64 Q] 30 (0, 0))
  have hB4 : Below w.heap.size w (w3.alloc (.cells #[.int .i64 p, .int .i64 Q] 30 (0, 0))) := hB3.alloc (Nat.le_of_lt x3.lt) _
  have lt4 := x3.lt
  clear x3 hB3 y1 y2 y3
  have y1 := x4.c0
  have y2 := x4.c1
  have y3 := x4.c2
  have z1 := s4.c0
  have z2 := s4.c1
  go_wp2_with (fail)
  clear y1 y2 y3 z1 z2
  go_loopw [9, 10] (fun u v wr => ∃ c : Nat, (c : Int) ≤ D - 1 ∧ u = .int .i64 ((mk D p c : Nat) : Int) ∧ v = .int .i64 c ∧ Bx wr w.heap.size D r s ∧ Px wr w3.heap.size p Q ∧ Below w.heap.size w wr) (fun _ v _ => ((D : Int) - 1 - intOf v).toNat)
  case atStart => exact ⟨0, by omega, by rw [W1.out], rfl, x4, s4, hB4⟩
  case round =>
    obtain ⟨c, c1, rfl, rfl, x5, s5, hB5⟩ := hrel
    clear x4 hB4 s4
    have y1 := x5.c0
    have y2 := x5.c1
    have y3 := x5.c2
    have z1 := s5.c0
    have z2 := s5.c1
    by_cases hlt : (c : Int) < D - 1
    · have m0 := Int.mul_nonneg k0 (show (0 : Int) ≤ D - 1 by omega)
      have m1 := mul_bd (a := k) (b := D - 1) (x := 3) (y := 15) k0 (by have := h.r2; omega) (by omega) (by omega)
      obtain ⟨b, hb⟩ : ∃ b : Nat, b = (p + 1 + c) % D := ⟨_, rfl⟩
      have hb' : Hid ((b : Int) = (p + 1 + c) % D) := Lib.hid (by rw [hb]; simp)
      have hbD : b < D := by rw [hb]; exact Nat.mod_lt _ (by omega)
      obtain ⟨hm, hz⟩ := M1'.out c (by omega)
      have hz' := hz (by omega)
      rw [← hb] at hz'
      have E1 := Lib.hid (and_bit hm hz')
      have Hb := Lib.hid hb
      clear hb hz hz'
      go_wp2_with (fail)
      refine (block_at D r s g k p c b _ h k0 k1 hlt HP.out Q HQ.out hb'.out).mono ?_
      rintro e w6 ⟨rfl, hb6⟩
      have x6 := x5.next hb6
      have hB6 := hB5.trans (hb6.mono (Nat.le_of_lt x5.lt))
      clear y1 y2 y3
      clear x5 hB5
      have y1 := x6.c0
      have y2 := x6.c1
      have y3 := x6.c2
      have s6 := s5.next hb6
      have s7 := Px.mk' w6 b Q 30
      have x7 := x6.alloc (.cells #[.int .i64 b, .int .i64 Q] 30 (0, 0))
      have s8 := s6.alloc (.cells #[.int .i64 b, .int .i64 Q] 30 (0, 0))
      have hB7 : Below w.heap.size w (w6.alloc (.cells #[.int .i64 b, .int .i64 Q] 30 (0, 0))) := hB6.alloc (Nat.le_of_lt x6.lt) _
      clear x6 s5 s6 hB6 y1 y2 y3 z1 z2
      have y1 := x7.c0
      have y2 := x7.c1
      have y3 := x7.c2
      have z1 := s7.c0
      have z2 := s7.c1
      have z3 := s8.c0
      have z4 := s8.c1
      have e1 := E1.out
      go_wp2_with (fail)
      go_roundw
      case rel => exact ⟨c + 1, by omega, by rw [or_bit hm (by omega), Hb.out]; rfl, by go_num, x7, s8, hB7⟩
      case measure => simp [intOf]; omega
    · obtain rfl : c = D - 1 := by omega
      have F1 : Hid (wrap64 (wrap64 (2 ^ D) - 1) = ((mk D p (D - 1) : Nat) : Int)) := Lib.hid (by
        have := two_pow_lt (b := D) (by omega)
        have h1 := Nat.one_le_two_pow (n := D)
        rw [shl_nat (by omega), M2'.out]
        generalize (2 : Nat) ^ D = N at *
        rw [IntWalk.wrap64_in _ (by omega)]
        omega)
      have f1 := F1.out
      go_wp2_with (fail)
      go_ret
      exact ⟨rfl, hB5⟩

set_option maxHeartbeats 1000000 in
theorem rows_out (d r s g k : Int) (w : World) (h : ¬ Rt d r s) :
    Calls Try.prog 6 #[gv d r s, .int .i64 g, .int .i64 k] w fun e w' => e = .returned (.bool true) ∧ Below w.heap.size w w' := by
  have x1 := Bx.mk' w d r s 23
  have hB1 : Below w.heap.size w (w.alloc (.cells #[.int .i64 d, .int .i64 r, .int .i64 s] 23 (0, 0))) := (Below.refl _ _).alloc (Nat.le_refl _) _
  go_enter Try.func6, Try.ntmps6
  go_wp2_with (fail)
  refine (alive_any _).mono ?_
  rintro e w2 ⟨rfl, hb2⟩
  have x2 := x1.next hb2
  have hB2 := hB1.trans (hb2.mono (Nat.le_of_lt x1.lt))
  clear x1 hB1
  have y1 := x2.c0
  have y2 := x2.c1
  have y3 := x2.c2
  go_wp2_with (fail)
  refine (parity_no d r s g k _ (fun q => h q.1.toRt)).mono ?_
  rintro e w3 ⟨rfl, hb3⟩
  have x3 := x2.next hb3
  have hB3 := hB2.trans (hb3.mono (Nat.le_of_lt x2.lt))
  clear y1 y2 y3
  clear x2 hB2
  have y1 := x3.c0
  have y2 := x3.c1
  have y3 := x3.c2
  have x4 := x3.alloc (.cells #[.int .i64 0, .int .i64 0] 30 (0, 0))
  have hB4 : Below w.heap.size w (w3.alloc (.cells #[.int .i64 0, .int .i64 0] 30 (0, 0))) := hB3.alloc (Nat.le_of_lt x3.lt) _
  clear x3 hB3 y1 y2 y3
  have y1 := x4.c0
  have y2 := x4.c1
  have y3 := x4.c2
  go_wp2_with (fail)
  refine (right_no d r s _ h).mono ?_
  rintro e w5 ⟨rfl, hb5⟩
  have x5 := x4.next hb5
  have hB5 := hB4.trans (hb5.mono (Nat.le_of_lt x4.lt))
  clear y1 y2 y3
  clear x4 hB4
  have y1 := x5.c0
  have y2 := x5.c1
  have y3 := x5.c2
  go_wp2_with (fail)
  go_ret
  exact ⟨rfl, hB5⟩
set_option maxHeartbeats 1000000 in
theorem rows_glow (d r s g k : Int) (w : World) (h : Rt d r s) (hg : g < 0) :
    Calls Try.prog 6 #[gv d r s, .int .i64 g, .int .i64 k] w fun e w' => e = .returned (.bool true) ∧ Below w.heap.size w w' := by
  have x1 := Bx.mk' w d r s 23
  have hB1 : Below w.heap.size w (w.alloc (.cells #[.int .i64 d, .int .i64 r, .int .i64 s] 23 (0, 0))) := (Below.refl _ _).alloc (Nat.le_refl _) _
  go_enter Try.func6, Try.ntmps6
  go_wp2_with (fail)
  refine (alive_any _).mono ?_
  rintro e w2 ⟨rfl, hb2⟩
  have x2 := x1.next hb2
  have hB2 := hB1.trans (hb2.mono (Nat.le_of_lt x1.lt))
  clear x1 hB1
  have y1 := x2.c0
  have y2 := x2.c1
  have y3 := x2.c2
  go_wp2_with (fail)
  refine (parity_no d r s g k _ (fun q => absurd q.1.g0 (by omega))).mono ?_
  rintro e w3 ⟨rfl, hb3⟩
  have x3 := x2.next hb3
  have hB3 := hB2.trans (hb3.mono (Nat.le_of_lt x2.lt))
  clear y1 y2 y3
  clear x2 hB2
  have y1 := x3.c0
  have y2 := x3.c1
  have y3 := x3.c2
  have x4 := x3.alloc (.cells #[.int .i64 0, .int .i64 0] 30 (0, 0))
  have hB4 : Below w.heap.size w (w3.alloc (.cells #[.int .i64 0, .int .i64 0] 30 (0, 0))) := hB3.alloc (Nat.le_of_lt x3.lt) _
  clear x3 hB3 y1 y2 y3
  have y1 := x4.c0
  have y2 := x4.c1
  have y3 := x4.c2
  go_wp2_with (fail)
  refine (right_yes d r s _ h).mono ?_
  rintro e w5 ⟨rfl, hb5⟩
  have x5 := x4.next hb5
  have hB5 := hB4.trans (hb5.mono (Nat.le_of_lt x4.lt))
  clear y1 y2 y3
  clear x4 hB4
  have y1 := x5.c0
  have y2 := x5.c1
  have y3 := x5.c2
  go_wp2_with (fail)
  go_ret
  exact ⟨rfl, hB5⟩
set_option maxHeartbeats 1000000 in
theorem rows_ghigh (d r s g k : Int) (w : World) (h : Rt d r s) (hg : s ≤ g) :
    Calls Try.prog 6 #[gv d r s, .int .i64 g, .int .i64 k] w fun e w' => e = .returned (.bool true) ∧ Below w.heap.size w w' := by
  have x1 := Bx.mk' w d r s 23
  have hB1 : Below w.heap.size w (w.alloc (.cells #[.int .i64 d, .int .i64 r, .int .i64 s] 23 (0, 0))) := (Below.refl _ _).alloc (Nat.le_refl _) _
  have g0 : decide (g < 0) = false := decide_eq_false (by have := h.s1; omega)
  go_enter Try.func6, Try.ntmps6
  go_wp2_with (fail)
  refine (alive_any _).mono ?_
  rintro e w2 ⟨rfl, hb2⟩
  have x2 := x1.next hb2
  have hB2 := hB1.trans (hb2.mono (Nat.le_of_lt x1.lt))
  clear x1 hB1
  have y1 := x2.c0
  have y2 := x2.c1
  have y3 := x2.c2
  go_wp2_with (fail)
  refine (parity_no d r s g k _ (fun q => absurd q.1.g1 (by omega))).mono ?_
  rintro e w3 ⟨rfl, hb3⟩
  have x3 := x2.next hb3
  have hB3 := hB2.trans (hb3.mono (Nat.le_of_lt x2.lt))
  clear y1 y2 y3
  clear x2 hB2
  have y1 := x3.c0
  have y2 := x3.c1
  have y3 := x3.c2
  have x4 := x3.alloc (.cells #[.int .i64 0, .int .i64 0] 30 (0, 0))
  have hB4 : Below w.heap.size w (w3.alloc (.cells #[.int .i64 0, .int .i64 0] 30 (0, 0))) := hB3.alloc (Nat.le_of_lt x3.lt) _
  clear x3 hB3 y1 y2 y3
  have y1 := x4.c0
  have y2 := x4.c1
  have y3 := x4.c2
  go_wp2_with (fail)
  refine (right_yes d r s _ h).mono ?_
  rintro e w5 ⟨rfl, hb5⟩
  have x5 := x4.next hb5
  have hB5 := hB4.trans (hb5.mono (Nat.le_of_lt x4.lt))
  clear y1 y2 y3
  clear x4 hB4
  have y1 := x5.c0
  have y2 := x5.c1
  have y3 := x5.c2
  go_wp2_with (fail)
  go_ret
  exact ⟨rfl, hB5⟩
set_option maxHeartbeats 1000000 in
theorem rows_klow (d r s g k : Int) (w : World) (h : Sg d r s g) (hk : k < 0) :
    Calls Try.prog 6 #[gv d r s, .int .i64 g, .int .i64 k] w fun e w' => e = .returned (.bool true) ∧ Below w.heap.size w w' := by
  have x1 := Bx.mk' w d r s 23
  have hB1 : Below w.heap.size w (w.alloc (.cells #[.int .i64 d, .int .i64 r, .int .i64 s] 23 (0, 0))) := (Below.refl _ _).alloc (Nat.le_refl _) _
  have g0 := h.g0
  have g1 := h.g1
  have g2 : decide (g < 0) = false := decide_eq_false (by omega)
  have g3 : decide (s ≤ g) = false := decide_eq_false (by omega)
  go_enter Try.func6, Try.ntmps6
  go_wp2_with (fail)
  refine (alive_any _).mono ?_
  rintro e w2 ⟨rfl, hb2⟩
  have x2 := x1.next hb2
  have hB2 := hB1.trans (hb2.mono (Nat.le_of_lt x1.lt))
  clear x1 hB1
  have y1 := x2.c0
  have y2 := x2.c1
  have y3 := x2.c2
  go_wp2_with (fail)
  refine (parity_no d r s g k _ (fun q => absurd q.2.1 (by omega))).mono ?_
  rintro e w3 ⟨rfl, hb3⟩
  have x3 := x2.next hb3
  have hB3 := hB2.trans (hb3.mono (Nat.le_of_lt x2.lt))
  clear y1 y2 y3
  clear x2 hB2
  have y1 := x3.c0
  have y2 := x3.c1
  have y3 := x3.c2
  have x4 := x3.alloc (.cells #[.int .i64 0, .int .i64 0] 30 (0, 0))
  have hB4 : Below w.heap.size w (w3.alloc (.cells #[.int .i64 0, .int .i64 0] 30 (0, 0))) := hB3.alloc (Nat.le_of_lt x3.lt) _
  clear x3 hB3 y1 y2 y3
  have y1 := x4.c0
  have y2 := x4.c1
  have y3 := x4.c2
  go_wp2_with (fail)
  refine (right_yes d r s _ h.toRt).mono ?_
  rintro e w5 ⟨rfl, hb5⟩
  have x5 := x4.next hb5
  have hB5 := hB4.trans (hb5.mono (Nat.le_of_lt x4.lt))
  clear y1 y2 y3
  clear x4 hB4
  have y1 := x5.c0
  have y2 := x5.c1
  have y3 := x5.c2
  go_wp2_with (fail)
  go_ret
  exact ⟨rfl, hB5⟩
set_option maxHeartbeats 1000000 in
theorem rows_khigh (d r s g k : Int) (w : World) (h : Sg d r s g) (hk : r ≤ k) :
    Calls Try.prog 6 #[gv d r s, .int .i64 g, .int .i64 k] w fun e w' => e = .returned (.bool true) ∧ Below w.heap.size w w' := by
  have x1 := Bx.mk' w d r s 23
  have hB1 : Below w.heap.size w (w.alloc (.cells #[.int .i64 d, .int .i64 r, .int .i64 s] 23 (0, 0))) := (Below.refl _ _).alloc (Nat.le_refl _) _
  have g0 := h.g0
  have g1 := h.g1
  have g2 : decide (g < 0) = false := decide_eq_false (by omega)
  have g3 : decide (s ≤ g) = false := decide_eq_false (by omega)
  have g4 : decide (k < 0) = false := decide_eq_false (by have := h.r1; omega)
  go_enter Try.func6, Try.ntmps6
  go_wp2_with (fail)
  refine (alive_any _).mono ?_
  rintro e w2 ⟨rfl, hb2⟩
  have x2 := x1.next hb2
  have hB2 := hB1.trans (hb2.mono (Nat.le_of_lt x1.lt))
  clear x1 hB1
  have y1 := x2.c0
  have y2 := x2.c1
  have y3 := x2.c2
  go_wp2_with (fail)
  refine (parity_no d r s g k _ (fun q => absurd q.2.2 (by omega))).mono ?_
  rintro e w3 ⟨rfl, hb3⟩
  have x3 := x2.next hb3
  have hB3 := hB2.trans (hb3.mono (Nat.le_of_lt x2.lt))
  clear y1 y2 y3
  clear x2 hB2
  have y1 := x3.c0
  have y2 := x3.c1
  have y3 := x3.c2
  have x4 := x3.alloc (.cells #[.int .i64 0, .int .i64 0] 30 (0, 0))
  have hB4 : Below w.heap.size w (w3.alloc (.cells #[.int .i64 0, .int .i64 0] 30 (0, 0))) := hB3.alloc (Nat.le_of_lt x3.lt) _
  clear x3 hB3 y1 y2 y3
  have y1 := x4.c0
  have y2 := x4.c1
  have y3 := x4.c2
  go_wp2_with (fail)
  refine (right_yes d r s _ h.toRt).mono ?_
  rintro e w5 ⟨rfl, hb5⟩
  have x5 := x4.next hb5
  have hB5 := hB4.trans (hb5.mono (Nat.le_of_lt x4.lt))
  clear y1 y2 y3
  clear x4 hB4
  have y1 := x5.c0
  have y2 := x5.c1
  have y3 := x5.c2
  go_wp2_with (fail)
  go_ret
  exact ⟨rfl, hB5⟩
theorem law_rows (d r s g k : Int) (w : World) :
    Calls Try.prog 6 #[gv d r s, .int .i64 g, .int .i64 k] w fun e w' => e = .returned (.bool true) ∧ Below w.heap.size w w' := by
  by_cases h : Rt d r s
  · by_cases g0 : 0 ≤ g
    · by_cases g1 : g < s
      · by_cases k0 : 0 ≤ k
        · by_cases k1 : k < r
          · obtain ⟨D, rfl⟩ := Int.eq_ofNat_of_zero_le (show 0 ≤ d by have := h.d1; omega)
            exact rows_yes D r s g k w ⟨h, g0, g1⟩ k0 k1
          · exact rows_khigh d r s g k w ⟨h, g0, g1⟩ (by omega)
        · exact rows_klow d r s g k w ⟨h, g0, g1⟩ (by omega)
      · exact rows_ghigh d r s g k w h (by omega)
    · exact rows_glow d r s g k w h (by omega)
  · exact rows_out d r s g k w h

end Go.Proofs.Ytodjeglcdjodfaa
