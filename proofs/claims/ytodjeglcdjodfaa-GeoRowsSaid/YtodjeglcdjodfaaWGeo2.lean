/-
  The laws GeoOrder and GeoBack, walked.
-/
import Derived.Test.YtodjeglcdjodfaaGeoAl
namespace Go.Proofs.Ytodjeglcdjodfaa
open Go.RowKit

theorem addr_order {g k t l P : Int} (k0 : 1 ≤ k) (k1 : k ≤ P) (l0 : 1 ≤ l) (l1 : l ≤ P) :
    (g < t ∧ g * P + k < t * P + l) ∨ (g = t ∧ k < l ∧ g * P + k < t * P + l) ∨ (g = t ∧ k = l) ∨ (g = t ∧ l < k ∧ t * P + l < g * P + k) ∨ (t < g ∧ t * P + l < g * P + k) := by
  rcases (by omega : g < t ∨ g = t ∨ t < g) with h | h | h
  · have := Int.mul_le_mul_of_nonneg_right (show g + 1 ≤ t by omega) (show 0 ≤ P by omega)
    rw [Int.add_mul, Int.one_mul] at this
    exact .inl ⟨h, by omega⟩
  · subst h
    rcases (by omega : k < l ∨ k = l ∨ l < k) with e | e | e
    · exact .inr (.inl ⟨rfl, e, by omega⟩)
    · exact .inr (.inr (.inl ⟨rfl, e⟩))
    · exact .inr (.inr (.inr (.inl ⟨rfl, e, by omega⟩)))
  · have := Int.mul_le_mul_of_nonneg_right (show t + 1 ≤ g by omega) (show 0 ≤ P by omega)
    rw [Int.add_mul, Int.one_mul] at this
    exact .inr (.inr (.inr (.inr ⟨h, by omega⟩)))
theorem addr_pos {d r s g k : Int} (h : Pk d r s g k) : 1 ≤ g * PL d r + k := by
  have := Int.mul_nonneg h.g0 (show 0 ≤ PL d r by have := PL_bd h.d1 h.d2 h.r1 h.r2; omega)
  have := h.k0
  omega
theorem address_at (d r s g k A : Int) (w : World) (h : Pk d r s g k) (hA : A = g * PL d r + k) :
    Calls Try.prog 26 #[gv d r s, .int .i64 g, .int .i64 k] w fun e w' => e = .returned (.int .i64 A) ∧ Below w.heap.size w w' := by
  rw [hA]
  exact address_ok d r s g k w h

set_option maxHeartbeats 1000000 in
theorem order_no1 (d r s g k t l : Int) (w : World) (h : ¬ Pk d r s g k) (B : Int) (hc : ∀ w, Calls Try.prog 26 #[gv d r s, .int .i64 t, .int .i64 l] w fun e w' => e = .returned (.int .i64 B) ∧ Below w.heap.size w w') :
    Calls Try.prog 9 #[gv d r s, .int .i64 g, .int .i64 k, .int .i64 t, .int .i64 l] w fun e w' => e = .returned (.bool true) ∧ Below w.heap.size w w' := by
  have x1 := Bx.mk' w d r s 23
  have hB1 : Below w.heap.size w (w.alloc (.cells #[.int .i64 d, .int .i64 r, .int .i64 s] 23 (0, 0))) := (Below.refl _ _).alloc (Nat.le_refl _) _
  have Hc := Lib.hid hc
  clear hc
  go_enter Try.func9, Try.ntmps9
  go_wp2_with (fail)
  refine (alive_any _).mono ?_
  rintro e w2 ⟨rfl, hb2⟩
  have x2 := x1.next hb2
  have hB2 := hB1.trans (hb2.mono (Nat.le_of_lt x1.lt))
  clear x1 hB1
  have y1 := x2.c0
  have y2 := x2.c1
  have y3 := x2.c2
  go_wp2_with (fail)
  refine (address_no d r s g k _ h).mono ?_
  rintro e w3 ⟨rfl, hb3⟩
  have x3 := x2.next hb3
  have hB3 := hB2.trans (hb3.mono (Nat.le_of_lt x2.lt))
  clear y1 y2 y3
  clear x2 hB2
  have y1 := x3.c0
  have y2 := x3.c1
  have y3 := x3.c2
  go_wp2_with (fail)
  refine (Hc.out _).mono ?_
  rintro e w4 ⟨rfl, hb4⟩
  have x4 := x3.next hb4
  have hB4 := hB3.trans (hb4.mono (Nat.le_of_lt x3.lt))
  clear y1 y2 y3
  clear x3 hB3
  have y1 := x4.c0
  have y2 := x4.c1
  have y3 := x4.c2
  go_wp2_with (fail)
  go_ret
  exact ⟨rfl, hB4⟩
set_option maxHeartbeats 1000000 in
theorem order_no2 (d r s g k t l : Int) (w : World) (h : Pk d r s g k) (h2 : ¬ Pk d r s t l) :
    Calls Try.prog 9 #[gv d r s, .int .i64 g, .int .i64 k, .int .i64 t, .int .i64 l] w fun e w' => e = .returned (.bool true) ∧ Below w.heap.size w w' := by
  have x1 := Bx.mk' w d r s 23
  have hB1 : Below w.heap.size w (w.alloc (.cells #[.int .i64 d, .int .i64 r, .int .i64 s] 23 (0, 0))) := (Below.refl _ _).alloc (Nat.le_refl _) _
  obtain ⟨A, hA⟩ : ∃ A, A = g * PL d r + k := ⟨_, rfl⟩
  have a0 : 1 ≤ A := by rw [hA]; exact addr_pos h
  have a1 : (A == 0) = false := by simp; omega
  have HA := Lib.hid hA
  clear hA
  go_enter Try.func9, Try.ntmps9
  go_wp2_with (fail)
  refine (alive_any _).mono ?_
  rintro e w2 ⟨rfl, hb2⟩
  have x2 := x1.next hb2
  have hB2 := hB1.trans (hb2.mono (Nat.le_of_lt x1.lt))
  clear x1 hB1
  have y1 := x2.c0
  have y2 := x2.c1
  have y3 := x2.c2
  go_wp2_with (fail)
  refine (address_at d r s g k A _ h HA.out).mono ?_
  rintro e w3 ⟨rfl, hb3⟩
  have x3 := x2.next hb3
  have hB3 := hB2.trans (hb3.mono (Nat.le_of_lt x2.lt))
  clear y1 y2 y3
  clear x2 hB2
  have y1 := x3.c0
  have y2 := x3.c1
  have y3 := x3.c2
  go_wp2_with (fail)
  refine (address_no d r s t l _ h2).mono ?_
  rintro e w4 ⟨rfl, hb4⟩
  have x4 := x3.next hb4
  have hB4 := hB3.trans (hb4.mono (Nat.le_of_lt x3.lt))
  clear y1 y2 y3
  clear x3 hB3
  have y1 := x4.c0
  have y2 := x4.c1
  have y3 := x4.c2
  go_wp2_with (fail)
  go_ret
  exact ⟨rfl, hB4⟩
set_option maxHeartbeats 2000000 in
theorem order_yes (d r s g k t l : Int) (w : World) (h : Pk d r s g k) (h2 : Pk d r s t l) :
    Calls Try.prog 9 #[gv d r s, .int .i64 g, .int .i64 k, .int .i64 t, .int .i64 l] w fun e w' => e = .returned (.bool true) ∧ Below w.heap.size w w' := by
  have x1 := Bx.mk' w d r s 23
  have hB1 : Below w.heap.size w (w.alloc (.cells #[.int .i64 d, .int .i64 r, .int .i64 s] 23 (0, 0))) := (Below.refl _ _).alloc (Nat.le_refl _) _
  have ho := addr_order (g := g) (t := t) h.k0 h.k1 h2.k0 h2.k1
  have a0 := addr_pos h
  have b0 := addr_pos h2
  obtain ⟨A, hA⟩ : ∃ A, A = g * PL d r + k := ⟨_, rfl⟩
  obtain ⟨B, hB⟩ : ∃ B, B = t * PL d r + l := ⟨_, rfl⟩
  rw [← hA, ← hB] at ho
  rw [← hA] at a0
  rw [← hB] at b0
  have a1 : (A == 0) = false := by simp; omega
  have b1 : (B == 0) = false := by simp; omega
  have HA := Lib.hid hA
  have HB := Lib.hid hB
  rcases ho with ⟨o1, o2⟩ | ⟨o1, o2, o3⟩ | ⟨o1, o2⟩ | ⟨o1, o2, o3⟩ | ⟨o1, o2⟩
  · clear hA hB
    have q1 : (A == B) = false := by simp; omega
    have q2 : (g == t) = false := by simp; omega
    go_enter Try.func9, Try.ntmps9
    go_wp2_with (fail)
    refine (alive_any _).mono ?_
    rintro e w2 ⟨rfl, hb2⟩
    have x2 := x1.next hb2
    have hB2 := hB1.trans (hb2.mono (Nat.le_of_lt x1.lt))
    clear x1 hB1
    have y1 := x2.c0
    have y2 := x2.c1
    have y3 := x2.c2
    go_wp2_with (fail)
    refine (address_at d r s g k A _ h HA.out).mono ?_
    rintro e w3 ⟨rfl, hb3⟩
    have x3 := x2.next hb3
    have hB3 := hB2.trans (hb3.mono (Nat.le_of_lt x2.lt))
    clear y1 y2 y3
    clear x2 hB2
    have y1 := x3.c0
    have y2 := x3.c1
    have y3 := x3.c2
    go_wp2_with (fail)
    refine (address_at d r s t l B _ h2 HB.out).mono ?_
    rintro e w4 ⟨rfl, hb4⟩
    have x4 := x3.next hb4
    have hB4 := hB3.trans (hb4.mono (Nat.le_of_lt x3.lt))
    clear y1 y2 y3
    clear x3 hB3
    have y1 := x4.c0
    have y2 := x4.c1
    have y3 := x4.c2
    go_wp2_with (fail)
    go_ret
    exact ⟨rfl, hB4⟩
  · clear hA hB
    subst o1
    have q1 : (A == B) = false := by simp; omega
    have q2 : (k == l) = false := by simp; omega
    go_enter Try.func9, Try.ntmps9
    go_wp2_with (fail)
    refine (alive_any _).mono ?_
    rintro e w2 ⟨rfl, hb2⟩
    have x2 := x1.next hb2
    have hB2 := hB1.trans (hb2.mono (Nat.le_of_lt x1.lt))
    clear x1 hB1
    have y1 := x2.c0
    have y2 := x2.c1
    have y3 := x2.c2
    go_wp2_with (fail)
    refine (address_at d r s g k A _ h HA.out).mono ?_
    rintro e w3 ⟨rfl, hb3⟩
    have x3 := x2.next hb3
    have hB3 := hB2.trans (hb3.mono (Nat.le_of_lt x2.lt))
    clear y1 y2 y3
    clear x2 hB2
    have y1 := x3.c0
    have y2 := x3.c1
    have y3 := x3.c2
    go_wp2_with (fail)
    refine (address_at d r s g l B _ h2 HB.out).mono ?_
    rintro e w4 ⟨rfl, hb4⟩
    have x4 := x3.next hb4
    have hB4 := hB3.trans (hb4.mono (Nat.le_of_lt x3.lt))
    clear y1 y2 y3
    clear x3 hB3
    have y1 := x4.c0
    have y2 := x4.c1
    have y3 := x4.c2
    go_wp2_with (fail)
    go_ret
    exact ⟨rfl, hB4⟩
  · subst o1 o2
    obtain rfl : B = A := by omega
    clear hA hB
    go_enter Try.func9, Try.ntmps9
    go_wp2_with (fail)
    refine (alive_any _).mono ?_
    rintro e w2 ⟨rfl, hb2⟩
    have x2 := x1.next hb2
    have hB2 := hB1.trans (hb2.mono (Nat.le_of_lt x1.lt))
    clear x1 hB1
    have y1 := x2.c0
    have y2 := x2.c1
    have y3 := x2.c2
    go_wp2_with (fail)
    refine (address_at d r s g k B _ h HB.out).mono ?_
    rintro e w3 ⟨rfl, hb3⟩
    have x3 := x2.next hb3
    have hB3 := hB2.trans (hb3.mono (Nat.le_of_lt x2.lt))
    clear y1 y2 y3
    clear x2 hB2
    have y1 := x3.c0
    have y2 := x3.c1
    have y3 := x3.c2
    go_wp2_with (fail)
    refine (address_at d r s g k B _ h HB.out).mono ?_
    rintro e w4 ⟨rfl, hb4⟩
    have x4 := x3.next hb4
    have hB4 := hB3.trans (hb4.mono (Nat.le_of_lt x3.lt))
    clear y1 y2 y3
    clear x3 hB3
    have y1 := x4.c0
    have y2 := x4.c1
    have y3 := x4.c2
    go_wp2_with (fail)
    go_ret
    exact ⟨rfl, hB4⟩
  · clear hA hB
    subst o1
    have q1 : (A == B) = false := by simp; omega
    have q2 : (k == l) = false := by simp; omega
    have q3 : decide (k < l) = false := by simp; omega
    have q4 : decide (A < B) = false := by simp; omega
    go_enter Try.func9, Try.ntmps9
    go_wp2_with (fail)
    refine (alive_any _).mono ?_
    rintro e w2 ⟨rfl, hb2⟩
    have x2 := x1.next hb2
    have hB2 := hB1.trans (hb2.mono (Nat.le_of_lt x1.lt))
    clear x1 hB1
    have y1 := x2.c0
    have y2 := x2.c1
    have y3 := x2.c2
    go_wp2_with (fail)
    refine (address_at d r s g k A _ h HA.out).mono ?_
    rintro e w3 ⟨rfl, hb3⟩
    have x3 := x2.next hb3
    have hB3 := hB2.trans (hb3.mono (Nat.le_of_lt x2.lt))
    clear y1 y2 y3
    clear x2 hB2
    have y1 := x3.c0
    have y2 := x3.c1
    have y3 := x3.c2
    go_wp2_with (fail)
    refine (address_at d r s g l B _ h2 HB.out).mono ?_
    rintro e w4 ⟨rfl, hb4⟩
    have x4 := x3.next hb4
    have hB4 := hB3.trans (hb4.mono (Nat.le_of_lt x3.lt))
    clear y1 y2 y3
    clear x3 hB3
    have y1 := x4.c0
    have y2 := x4.c1
    have y3 := x4.c2
    go_wp2_with (fail)
    go_ret
    exact ⟨rfl, hB4⟩
  · clear hA hB
    have q1 : (A == B) = false := by simp; omega
    have q2 : (g == t) = false := by simp; omega
    have q3 : decide (g < t) = false := by simp; omega
    have q4 : decide (A < B) = false := by simp; omega
    go_enter Try.func9, Try.ntmps9
    go_wp2_with (fail)
    refine (alive_any _).mono ?_
    rintro e w2 ⟨rfl, hb2⟩
    have x2 := x1.next hb2
    have hB2 := hB1.trans (hb2.mono (Nat.le_of_lt x1.lt))
    clear x1 hB1
    have y1 := x2.c0
    have y2 := x2.c1
    have y3 := x2.c2
    go_wp2_with (fail)
    refine (address_at d r s g k A _ h HA.out).mono ?_
    rintro e w3 ⟨rfl, hb3⟩
    have x3 := x2.next hb3
    have hB3 := hB2.trans (hb3.mono (Nat.le_of_lt x2.lt))
    clear y1 y2 y3
    clear x2 hB2
    have y1 := x3.c0
    have y2 := x3.c1
    have y3 := x3.c2
    go_wp2_with (fail)
    refine (address_at d r s t l B _ h2 HB.out).mono ?_
    rintro e w4 ⟨rfl, hb4⟩
    have x4 := x3.next hb4
    have hB4 := hB3.trans (hb4.mono (Nat.le_of_lt x3.lt))
    clear y1 y2 y3
    clear x3 hB3
    have y1 := x4.c0
    have y2 := x4.c1
    have y3 := x4.c2
    go_wp2_with (fail)
    go_ret
    exact ⟨rfl, hB4⟩
theorem law_order (d r s g k t l : Int) (w : World) :
    Calls Try.prog 9 #[gv d r s, .int .i64 g, .int .i64 k, .int .i64 t, .int .i64 l] w fun e w' => e = .returned (.bool true) ∧ Below w.heap.size w w' := by
  by_cases h : Pk d r s g k
  · by_cases h2 : Pk d r s t l
    · exact order_yes d r s g k t l w h h2
    · exact order_no2 d r s g k t l w h h2
  · by_cases h2 : Pk d r s t l
    · exact order_no1 d r s g k t l w h _ fun w => address_ok d r s t l w h2
    · exact order_no1 d r s g k t l w h _ fun w => address_no d r s t l w h2

end Go.Proofs.Ytodjeglcdjodfaa
