/-
  The law GeoCount, walked.
-/
import Derived.Test.YtodjeglcdjodfaaWGeo3
namespace Go.Proofs.Ytodjeglcdjodfaa
open Go.RowKit

theorem where_at (d r s n a b : Int) (w : World) (h : Ak d r s n) (ha : a = (n - 1) / PL d r) (hb : b = (n - 1) % PL d r + 1) :
    Calls Try.prog 24 #[gv d r s, .int .i64 n] w fun e w' => e = .returned (.tuple #[.int .i64 a, .int .i64 b, .bool true]) ∧ Below w.heap.size w w' := by
  rw [ha, hb]
  exact where_ok d r s n w h

set_option maxHeartbeats 1000000 in
theorem count_no (d r s : Int) (w : World) (h : ¬ Rt d r s) :
    Calls Try.prog 10 #[gv d r s] w fun e w' => e = .returned (.bool true) ∧ Below w.heap.size w w' := by
  have x1 := Bx.mk' w d r s 23
  have hB1 : Below w.heap.size w (w.alloc (.cells #[.int .i64 d, .int .i64 r, .int .i64 s] 23 (0, 0))) := (Below.refl _ _).alloc (Nat.le_refl _) _
  go_enter Try.func10, Try.ntmps10
  go_wp2_with (fail)
  refine (alive_any _).mono ?_
  rintro e w2 ⟨rfl, hb2⟩
  have x2 := x1.next hb2
  have hB2 := hB1.trans (hb2.mono (Nat.le_of_lt x1.lt))
  clear x1 hB1
  have y1 := x2.c0
  have y2 := x2.c1
  have y3 := x2.c2
  go_wp2_with (fail)
  refine (right_no d r s _ h).mono ?_
  rintro e w3 ⟨rfl, hb3⟩
  have x3 := x2.next hb3
  have hB3 := hB2.trans (hb3.mono (Nat.le_of_lt x2.lt))
  clear y1 y2 y3
  clear x2 hB2
  have y1 := x3.c0
  have y2 := x3.c1
  have y3 := x3.c2
  go_wp2_with (fail)
  refine (where_out d r s 1 _ h).mono ?_
  rintro e w4 ⟨rfl, hb4⟩
  have x4 := x3.next hb4
  have hB4 := hB3.trans (hb4.mono (Nat.le_of_lt x3.lt))
  clear y1 y2 y3
  clear x3 hB3
  have y1 := x4.c0
  have y2 := x4.c1
  have y3 := x4.c2
  go_wp2_with (fail)
  go_ret
  exact ⟨rfl, hB4⟩
set_option maxHeartbeats 1000000 in
theorem count_yes (d r s : Int) (w : World) (h : Rt d r s) :
    Calls Try.prog 10 #[gv d r s] w fun e w' => e = .returned (.bool true) ∧ Below w.heap.size w w' := by
  have x1 := Bx.mk' w d r s 23
  have hB1 : Below w.heap.size w (w.alloc (.cells #[.int .i64 d, .int .i64 r, .int .i64 s] 23 (0, 0))) := (Below.refl _ _).alloc (Nat.le_refl _) _
  obtain ⟨m1, m2⟩ := sp_bd h
  have W1 : Hid (IntKind.i64.wrap (s * PL d r) = s * PL d r) := Lib.hid (IntWalk.i64_in _ (by omega))
  go_enter Try.func10, Try.ntmps10
  go_wp2_with (fail)
  refine (alive_any _).mono ?_
  rintro e w2 ⟨rfl, hb2⟩
  have x2 := x1.next hb2
  have hB2 := hB1.trans (hb2.mono (Nat.le_of_lt x1.lt))
  clear x1 hB1
  have y1 := x2.c0
  have y2 := x2.c1
  have y3 := x2.c2
  go_wp2_with (fail)
  refine (right_yes d r s _ h).mono ?_
  rintro e w3 ⟨rfl, hb3⟩
  have x3 := x2.next hb3
  have hB3 := hB2.trans (hb3.mono (Nat.le_of_lt x2.lt))
  clear y1 y2 y3
  clear x2 hB2
  have y1 := x3.c0
  have y2 := x3.c1
  have y3 := x3.c2
  go_wp2_with (fail)
  have w1 := W1.out
  go_region_held3 (fun w' => w'.cell? ⟨w.heap.size, 0, none⟩ = some (.int .i64 d) ∧ w'.cell? ⟨w.heap.size, 1, none⟩ = some (.int .i64 r) ∧ w'.cell? ⟨w.heap.size, 2, none⟩ = some (.int .i64 s))
    (first | go_keep | exact ⟨x3.c0, x3.c1, x3.c2⟩ | exact ⟨(x3.drew.next hb4).c0, (x3.drew.next hb4).c1, (x3.drew.next hb4).c2⟩)
    (first | (go_at_call 18
              refine (places_yes d r s _ h).mono ?_
              rintro e w4 ⟨rfl, hb4⟩))
  have x4 := x3.drew.next hb4
  have hB4 := hB3.drew.trans (hb4.mono (Nat.le_of_lt x3.lt))
  clear y1 y2 y3 x3 hB3 hb4 w1
  go_wp2_with (fail)
  go_loopw [7] (fun v wr => ∃ k : Nat, 1 ≤ k ∧ (k : Int) ≤ s * PL d r + 1 ∧ v = .int .i64 k ∧ Bx wr w.heap.size d r s ∧ Below w.heap.size w wr) (fun v _ => (s * PL d r + 1 - intOf v).toNat)
  case atStart => exact ⟨1, by omega, by omega, rfl, x4, hB4⟩
  case round =>
    obtain ⟨k, k1, k2, rfl, x5, hB5⟩ := hrel
    clear x4 hB4
    have y1 := x5.c0
    have y2 := x5.c1
    have y3 := x5.c2
    by_cases hlt : (k : Int) ≤ s * PL d r
    · have hak : Ak d r s (k : Int) := ⟨h, by omega, hlt⟩
      obtain ⟨hp, he⟩ := ak_pk hak
      obtain ⟨a, ha⟩ : ∃ a, a = ((k : Int) - 1) / PL d r := ⟨_, rfl⟩
      obtain ⟨b, hb⟩ : ∃ b, b = ((k : Int) - 1) % PL d r + 1 := ⟨_, rfl⟩
      rw [← ha, ← hb] at hp he
      have Ha := Lib.hid ha
      have Hb := Lib.hid hb
      have He := Lib.hid he.symm
      clear ha hb he
      go_wp2_with (fail)
      refine (where_at d r s k a b _ hak Ha.out Hb.out).mono ?_
      rintro e w6 ⟨rfl, hb6⟩
      have x6 := x5.next hb6
      have hB6 := hB5.trans (hb6.mono (Nat.le_of_lt x5.lt))
      clear y1 y2 y3
      clear x5 hB5
      have y1 := x6.c0
      have y2 := x6.c1
      have y3 := x6.c2
      go_wp2_with (fail)
      refine (address_at d r s a b k _ hp He.out).mono ?_
      rintro e w7 ⟨rfl, hb7⟩
      have x7 := x6.next hb7
      have hB7 := hB6.trans (hb7.mono (Nat.le_of_lt x6.lt))
      clear y1 y2 y3
      clear x6 hB6
      have y1 := x7.c0
      have y2 := x7.c1
      have y3 := x7.c2
      go_wp2_with (fail)
      go_roundw
      case rel => exact ⟨k + 1, by omega, by omega, by go_num, x7, hB7⟩
      case measure => simp [intOf]; omega
    · obtain ⟨z1, z2⟩ : ¬ Ak d r s 0 ∧ ¬ Ak d r s (s * PL d r + 1) := ⟨fun q => absurd q.n0 (by decide), fun q => by have := q.n1; omega⟩
      have hlt' : s * PL d r < (k : Int) := by omega
      clear hlt
      go_wp2_with (fail)
      refine (where_no d r s 0 _ z1).mono ?_
      rintro e w6 ⟨rfl, hb6⟩
      have x6 := x5.next hb6
      have hB6 := hB5.trans (hb6.mono (Nat.le_of_lt x5.lt))
      clear y1 y2 y3
      clear x5 hB5
      have y1 := x6.c0
      have y2 := x6.c1
      have y3 := x6.c2
      go_wp2_with (fail)
      refine (where_no d r s (s * PL d r + 1) _ z2).mono ?_
      rintro e w7 ⟨rfl, hb7⟩
      have x7 := x6.next hb7
      have hB7 := hB6.trans (hb7.mono (Nat.le_of_lt x6.lt))
      clear y1 y2 y3
      clear x6 hB6
      have y1 := x7.c0
      have y2 := x7.c1
      have y3 := x7.c2
      go_wp2_with (fail)
      go_ret
      exact ⟨rfl, hB7⟩
theorem law_count (d r s : Int) (w : World) : Calls Try.prog 10 #[gv d r s] w fun e w' => e = .returned (.bool true) ∧ Below w.heap.size w w' := by
  by_cases h : Rt d r s
  · exact count_yes d r s w h
  · exact count_no d r s w h

end Go.Proofs.Ytodjeglcdjodfaa
