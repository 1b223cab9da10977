/-
  Where as the document has it, by counting.
-/
import Derived.Test.YtodjeglcdjodfaaRefB
import Derived.Test.YtodjeglcdjodfaaWGeo3
namespace Go.Proofs.Ytodjeglcdjodfaa
open Go.RowKit

theorem raddress_at (d r s g k A : Int) (w : World) (h : Pk d r s g k) (hA : A = g * PL d r + k) :
    Calls Try.prog 27 #[gv d r s, .int .i64 g, .int .i64 k] w fun e w' => e = .returned (.int .i64 A) ∧ Below w.heap.size w w' := by
  rw [hA]
  exact raddress_ok d r s g k w h
theorem where_of {t P k n : Int} (h : t * P + k = n) (k0 : 1 ≤ k) (k1 : k ≤ P) : t = (n - 1) / P ∧ k = (n - 1) % P + 1 := by
  rw [show n - 1 = (k - 1) + t * P by omega]
  exact ⟨by rw [Int.add_mul_ediv_right _ _ (by omega), Int.ediv_eq_zero_of_lt (by omega) (by omega)]; omega, by rw [Int.add_mul_emod_self_right, Int.emod_eq_of_lt (by omega) (by omega)]; omega⟩
set_option maxHeartbeats 1000000 in
theorem rwhere_out (d r s n : Int) (w : World) (h : ¬ Rt d r s) :
    Calls Try.prog 25 #[gv d r s, .int .i64 n] w fun e w' => e = .returned (.tuple #[.int .i64 0, .int .i64 0, .bool false]) ∧ Below w.heap.size w w' := by
  have x1 := Bx.mk' w d r s 23
  have hB1 : Below w.heap.size w (w.alloc (.cells #[.int .i64 d, .int .i64 r, .int .i64 s] 23 (0, 0))) := (Below.refl _ _).alloc (Nat.le_refl _) _
  go_enter Try.func25, Try.ntmps25
  go_wp2_with (fail)
  go_loopw [7] (fun v wr => v = .int .i64 0 ∧ Bx wr w.heap.size d r s ∧ Below w.heap.size w wr) (fun _ _ => 0)
  case atStart => exact ⟨rfl, x1, hB1⟩
  case round =>
    obtain ⟨rfl, x2, hB2⟩ := hrel
    clear x1 hB1
    have y1 := x2.c0
    have y2 := x2.c1
    have y3 := x2.c2
    by_cases h0 : 0 < s
    · go_wp2_with (fail)
      refine (rright_no d r s _ h).mono ?_
      rintro e w3 ⟨rfl, hb3⟩
      have x3 := x2.next hb3
      have hB3 := hB2.trans (hb3.mono (Nat.le_of_lt x2.lt))
      clear y1 y2 y3
      clear x2 hB2
      have y1 := x3.c0
      have y2 := x3.c1
      have y3 := x3.c2
      go_wp2_with (fail)
      go_ret3
      exact ⟨rfl, hB3⟩
    · go_wp2_with (fail)
      go_ret3
      exact ⟨rfl, hB2⟩
set_option maxHeartbeats 2000000 in
theorem rwhere_yes (d r s n : Int) (w : World) (h : Ak d r s n) :
    Calls Try.prog 25 #[gv d r s, .int .i64 n] w fun e w' => e = .returned (.tuple #[.int .i64 ((n - 1) / PL d r), .int .i64 ((n - 1) % PL d r + 1), .bool true]) ∧ Below w.heap.size w w' := by
  have x1 := Bx.mk' w d r s 23
  have hB1 : Below w.heap.size w (w.alloc (.cells #[.int .i64 d, .int .i64 r, .int .i64 s] 23 (0, 0))) := (Below.refl _ _).alloc (Nat.le_refl _) _
  obtain ⟨p1, p2, _⟩ := PL_bd h.d1 h.d2 h.r1 h.r2
  have n0 := h.n0
  have n1 := h.n1
  have s2 := h.s2
  have s1 := h.s1
  go_enter Try.func25, Try.ntmps25
  go_wp2_with (fail)
  go_loopw [7] (fun v wr => ∃ t : Nat, (t : Int) ≤ s ∧ t * PL d r + 1 ≤ n ∧ v = .int .i64 t ∧ Bx wr w.heap.size d r s ∧ Below w.heap.size w wr) (fun v _ => (s - intOf v).toNat)
  case atStart => exact ⟨0, by omega, by omega, rfl, x1, hB1⟩
  case round =>
    obtain ⟨t, t1, t2, rfl, x2, hB2⟩ := hrel
    clear x1 hB1
    have y1 := x2.c0
    have y2 := x2.c1
    have y3 := x2.c2
    have hlt : (t : Int) < s := by
      by_cases e : (t : Int) = s
      · rw [e] at t2; omega
      · omega
    obtain ⟨wo, hwo⟩ : ∃ wo, wo = wr := ⟨_, rfl⟩
    subst hwo
    go_wp2_with (fail)
    refine (rright_yes d r s _ h.toRt).mono ?_
    rintro e w3 ⟨rfl, hb3⟩
    have x3 := x2.next hb3
    have hB3 := hB2.trans (hb3.mono (Nat.le_of_lt x2.lt))
    clear y1 y2 y3
    clear x2 hB2
    have y1 := x3.c0
    have y2 := x3.c1
    have y3 := x3.c2
    go_wp2_with (fail)
    go_loopw [8] (fun v wr => ∃ k : Nat, 1 ≤ k ∧ (k : Int) ≤ PL d r + 1 ∧ t * PL d r + k ≤ n ∧ v = .int .i64 k ∧ Bx wr w.heap.size d r s ∧ Below w.heap.size w wr) (fun v _ => (PL d r + 1 - intOf v).toNat)
    case atStart => exact ⟨1, by omega, by omega, t2, rfl, x3, hB3⟩
    case round =>
      obtain ⟨k, k0, k1, k2, rfl, x4, hB4⟩ := hrel
      clear x3 hB3 y1 y2 y3
      have y1 := x4.c0
      have y2 := x4.c1
      have y3 := x4.c2
      by_cases hk : (k : Int) ≤ PL d r
      · have hp : Pk d r s t k := ⟨⟨h.toRt, by omega, hlt⟩, by omega, hk⟩
        obtain ⟨A, hA⟩ : ∃ A, A = (t : Int) * PL d r + k := ⟨_, rfl⟩
        rw [← hA] at k2
        have HA := Lib.hid hA
        by_cases he : A = n
        · have e1 : (A == n) = true := by simp [he]
          have HE := Lib.hid he
          clear hA he
          go_wp2_with (fail)
          refine (rplaces_yes d r s _ h.toRt).mono ?_
          rintro e w5 ⟨rfl, hb5⟩
          have x5 := x4.next hb5
          have hB5 := hB4.trans (hb5.mono (Nat.le_of_lt x4.lt))
          clear y1 y2 y3
          clear x4 hB4
          have y1 := x5.c0
          have y2 := x5.c1
          have y3 := x5.c2
          go_wp2_with (fail)
          refine (raddress_at d r s t k A _ hp HA.out).mono ?_
          rintro e w6 ⟨rfl, hb6⟩
          have x6 := x5.next hb6
          have hB6 := hB5.trans (hb6.mono (Nat.le_of_lt x5.lt))
          clear y1 y2 y3
          clear x5 hB5
          have y1 := x6.c0
          have y2 := x6.c1
          have y3 := x6.c2
          go_wp2_with (fail)
          go_ret3
          obtain ⟨q1, q2⟩ := where_of (n := n) (by rw [← HE.out, HA.out]) (show (1 : Int) ≤ k by omega) hk
          rw [← q1, ← q2]
          exact ⟨rfl, hB6⟩
        · have e1 : (A == n) = false := by simp [he]
          have k3 : (t : Int) * PL d r + k + 1 ≤ n := by rw [← hA]; omega
          clear hA he
          go_wp2_with (fail)
          refine (rplaces_yes d r s _ h.toRt).mono ?_
          rintro e w5 ⟨rfl, hb5⟩
          have x5 := x4.next hb5
          have hB5 := hB4.trans (hb5.mono (Nat.le_of_lt x4.lt))
          clear y1 y2 y3
          clear x4 hB4
          have y1 := x5.c0
          have y2 := x5.c1
          have y3 := x5.c2
          go_wp2_with (fail)
          refine (raddress_at d r s t k A _ hp HA.out).mono ?_
          rintro e w6 ⟨rfl, hb6⟩
          have x6 := x5.next hb6
          have hB6 := hB5.trans (hb6.mono (Nat.le_of_lt x5.lt))
          clear y1 y2 y3
          clear x5 hB5
          have y1 := x6.c0
          have y2 := x6.c1
          have y3 := x6.c2
          go_wp2_with (fail)
          go_roundw
          case rel => exact ⟨k + 1, by omega, by omega, by omega, by go_num, x6, hB6⟩
          case measure => simp [intOf]; omega
      · go_wp2_with (fail)
        refine (rplaces_yes d r s _ h.toRt).mono ?_
        rintro e w5 ⟨rfl, hb5⟩
        have x5 := x4.next hb5
        have hB5 := hB4.trans (hb5.mono (Nat.le_of_lt x4.lt))
        clear y1 y2 y3
        clear x4 hB4
        have y1 := x5.c0
        have y2 := x5.c1
        have y3 := x5.c2
        go_wp2_with (fail)
        go_roundw
        case rel => exact ⟨t + 1, by omega, by rw [show ((t + 1 : Nat) : Int) = (t : Int) + 1 by simp, Int.add_mul, Int.one_mul]; omega, by go_num, x5, hB5⟩
        case measure => simp [intOf]; omega

set_option maxHeartbeats 2000000 in
theorem rwhere_none (d r s n : Int) (w : World) (h : Rt d r s) (hn : n < 1 ∨ s * PL d r < n) :
    Calls Try.prog 25 #[gv d r s, .int .i64 n] w fun e w' => e = .returned (.tuple #[.int .i64 0, .int .i64 0, .bool false]) ∧ Below w.heap.size w w' := by
  have x1 := Bx.mk' w d r s 23
  have hB1 : Below w.heap.size w (w.alloc (.cells #[.int .i64 d, .int .i64 r, .int .i64 s] 23 (0, 0))) := (Below.refl _ _).alloc (Nat.le_refl _) _
  obtain ⟨p1, p2, _⟩ := PL_bd h.d1 h.d2 h.r1 h.r2
  have s2 := h.s2
  have s1 := h.s1
  go_enter Try.func25, Try.ntmps25
  go_wp2_with (fail)
  go_loopw [7] (fun v wr => ∃ t : Nat, (t : Int) ≤ s ∧ 0 ≤ t * PL d r ∧ v = .int .i64 t ∧ Bx wr w.heap.size d r s ∧ Below w.heap.size w wr) (fun v _ => (s - intOf v).toNat)
  case atStart => exact ⟨0, by omega, by omega, rfl, x1, hB1⟩
  case round =>
    obtain ⟨t, t1, t2, rfl, x2, hB2⟩ := hrel
    clear x1 hB1
    have y1 := x2.c0
    have y2 := x2.c1
    have y3 := x2.c2
    by_cases hge : s ≤ (t : Int)
    · go_wp2_with (fail)
      go_ret3
      exact ⟨rfl, hB2⟩
    have hlt : (t : Int) < s := by omega
    have m1 := Int.mul_le_mul_of_nonneg_right (show (t : Int) + 1 ≤ s by omega) (show 0 ≤ PL d r by omega)
    rw [Int.add_mul, Int.one_mul] at m1
    clear hge
    obtain ⟨wo, hwo⟩ : ∃ wo, wo = wr := ⟨_, rfl⟩
    subst hwo
    go_wp2_with (fail)
    refine (rright_yes d r s _ h).mono ?_
    rintro e w3 ⟨rfl, hb3⟩
    have x3 := x2.next hb3
    have hB3 := hB2.trans (hb3.mono (Nat.le_of_lt x2.lt))
    clear y1 y2 y3
    clear x2 hB2
    have y1 := x3.c0
    have y2 := x3.c1
    have y3 := x3.c2
    go_wp2_with (fail)
    go_loopw [8] (fun v wr => ∃ k : Nat, 1 ≤ k ∧ (k : Int) ≤ PL d r + 1 ∧ 0 ≤ t * PL d r ∧ v = .int .i64 k ∧ Bx wr w.heap.size d r s ∧ Below w.heap.size w wr) (fun v _ => (PL d r + 1 - intOf v).toNat)
    case atStart => exact ⟨1, by omega, by omega, t2, rfl, x3, hB3⟩
    case round =>
      obtain ⟨k, k0, k1, k2, rfl, x4, hB4⟩ := hrel
      clear x3 hB3 y1 y2 y3
      have y1 := x4.c0
      have y2 := x4.c1
      have y3 := x4.c2
      by_cases hk : (k : Int) ≤ PL d r
      · have hp : Pk d r s t k := ⟨⟨h, by omega, hlt⟩, by omega, hk⟩
        obtain ⟨A, hA⟩ : ∃ A, A = (t : Int) * PL d r + k := ⟨_, rfl⟩
        have e1 : (A == n) = false := by simp; omega
        have HA := Lib.hid hA
        clear hA
        go_wp2_with (fail)
        refine (rplaces_yes d r s _ h).mono ?_
        rintro e w5 ⟨rfl, hb5⟩
        have x5 := x4.next hb5
        have hB5 := hB4.trans (hb5.mono (Nat.le_of_lt x4.lt))
        clear y1 y2 y3
        clear x4 hB4
        have y1 := x5.c0
        have y2 := x5.c1
        have y3 := x5.c2
        go_wp2_with (fail)
        refine (raddress_at d r s t k A _ hp HA.out).mono ?_
        rintro e w6 ⟨rfl, hb6⟩
        have x6 := x5.next hb6
        have hB6 := hB5.trans (hb6.mono (Nat.le_of_lt x5.lt))
        clear y1 y2 y3
        clear x5 hB5
        have y1 := x6.c0
        have y2 := x6.c1
        have y3 := x6.c2
        go_wp2_with (fail)
        go_roundw
        case rel => exact ⟨k + 1, by omega, by omega, by omega, by go_num, x6, hB6⟩
        case measure => simp [intOf]; omega
      · go_wp2_with (fail)
        refine (rplaces_yes d r s _ h).mono ?_
        rintro e w5 ⟨rfl, hb5⟩
        have x5 := x4.next hb5
        have hB5 := hB4.trans (hb5.mono (Nat.le_of_lt x4.lt))
        clear y1 y2 y3
        clear x4 hB4
        have y1 := x5.c0
        have y2 := x5.c1
        have y3 := x5.c2
        go_wp2_with (fail)
        go_roundw
        case rel => exact ⟨t + 1, by omega, by rw [show ((t + 1 : Nat) : Int) = (t : Int) + 1 by simp, Int.add_mul, Int.one_mul]; omega, by go_num, x5, hB5⟩
        case measure => simp [intOf]; omega
theorem rwhere_no (d r s n : Int) (w : World) (h : ¬ Ak d r s n) :
    Calls Try.prog 25 #[gv d r s, .int .i64 n] w fun e w' => e = .returned (.tuple #[.int .i64 0, .int .i64 0, .bool false]) ∧ Below w.heap.size w w' := by
  by_cases hr : Rt d r s
  · exact rwhere_none d r s n w hr (by
      by_cases n0 : n < 1
      · exact .inl n0
      · by_cases n1 : s * PL d r < n
        · exact .inr n1
        · exact absurd ⟨hr, by omega, by omega⟩ h)
  · exact rwhere_out d r s n w hr

end Go.Proofs.Ytodjeglcdjodfaa
