/-
  The laws GeoCaps, GeoOrder and GeoBack, walked.
-/
import Derived.Test.YtodjeglcdjodfaaGeoAl
namespace Go.Proofs.Ytodjeglcdjodfaa
open Go.RowKit

theorem PC_bd {s : Int} (s1 : 12 ≤ s) (s2 : s ≤ 64) : 2 ≤ PC s ∧ PC s ≤ 20 ∧ 3 * PC s + 2 * QC s + 2 ≤ s := by
  unfold PC QC
  omega

set_option maxHeartbeats 1000000 in
theorem law_caps_yes (d r s : Int) (w : World) (h : Rt d r s) : Calls Try.prog 8 #[gv d r s] w fun e w' => e = .returned (.bool true) ∧ Below w.heap.size w w' := by
  obtain ⟨a1, a2, a3⟩ := PC_bd h.s1 h.s2
  obtain ⟨q1, q2⟩ := QC_bd h.s1 h.s2
  obtain ⟨p1, p2⟩ := QP_bd h.toBd
  have h8 := h.q
  have x1 := Bx.mk' w d r s 23
  have hB1 : Below w.heap.size w (w.alloc (.cells #[.int .i64 d, .int .i64 r, .int .i64 s] 23 (0, 0))) := (Below.refl _ _).alloc (Nat.le_refl _) _
  have hs := h.s2
  go_enter Try.func8, Try.ntmps8
  go_wp2_with (fail)
  refine (alive_any _).mono ?_
  rintro e w2 ⟨rfl, hb2⟩
  have x2 := x1.next hb2
  have hB2 := hB1.trans (hb2.mono (Nat.le_of_lt x1.lt))
  clear x1 hB1
  have y1 := x2.c0
  have y2 := x2.c1
  have y3 := x2.c2
  go_wp2_with (fail)
  refine (caps_yes d r s _ h).mono ?_
  rintro e w3 ⟨rfl, hb3⟩
  have x3 := x2.next hb3
  have hB3 := hB2.trans (hb3.mono (Nat.le_of_lt x2.lt))
  clear y1 y2 y3
  clear x2 hB2
  have y1 := x3.c0
  have y2 := x3.c1
  have y3 := x3.c2
  go_wp2_with (fail)
  refine (right_yes d r s _ h).mono ?_
  rintro e w4 ⟨rfl, hb4⟩
  have x4 := x3.next hb4
  have hB4 := hB3.trans (hb4.mono (Nat.le_of_lt x3.lt))
  clear y1 y2 y3
  clear x3 hB3
  have y1 := x4.c0
  have y2 := x4.c1
  have y3 := x4.c2
  go_wp2_with (fail)
  refine (places_yes d r s _ h).mono ?_
  rintro e w5 ⟨rfl, hb5⟩
  have x5 := x4.next hb5
  have hB5 := hB4.trans (hb5.mono (Nat.le_of_lt x4.lt))
  clear y1 y2 y3
  clear x4 hB4
  have y1 := x5.c0
  have y2 := x5.c1
  have y3 := x5.c2
  go_wp2_with (fail)
  go_ret
  exact ⟨rfl, hB5⟩
set_option maxHeartbeats 1000000 in
theorem law_caps_no (d r s : Int) (w : World) (h : ¬ Rt d r s) : Calls Try.prog 8 #[gv d r s] w fun e w' => e = .returned (.bool true) ∧ Below w.heap.size w w' := by
  have x1 := Bx.mk' w d r s 23
  have hB1 : Below w.heap.size w (w.alloc (.cells #[.int .i64 d, .int .i64 r, .int .i64 s] 23 (0, 0))) := (Below.refl _ _).alloc (Nat.le_refl _) _
  go_enter Try.func8, Try.ntmps8
  go_wp2_with (fail)
  refine (alive_any _).mono ?_
  rintro e w2 ⟨rfl, hb2⟩
  have x2 := x1.next hb2
  have hB2 := hB1.trans (hb2.mono (Nat.le_of_lt x1.lt))
  clear x1 hB1
  have y1 := x2.c0
  have y2 := x2.c1
  have y3 := x2.c2
  go_wp2_with (fail)
  refine (caps_no d r s _ h).mono ?_
  rintro e w3 ⟨rfl, hb3⟩
  have x3 := x2.next hb3
  have hB3 := hB2.trans (hb3.mono (Nat.le_of_lt x2.lt))
  clear y1 y2 y3
  clear x2 hB2
  have y1 := x3.c0
  have y2 := x3.c1
  have y3 := x3.c2
  go_wp2_with (fail)
  refine (right_no d r s _ h).mono ?_
  rintro e w4 ⟨rfl, hb4⟩
  have x4 := x3.next hb4
  have hB4 := hB3.trans (hb4.mono (Nat.le_of_lt x3.lt))
  clear y1 y2 y3
  clear x3 hB3
  have y1 := x4.c0
  have y2 := x4.c1
  have y3 := x4.c2
  go_wp2_with (fail)
  go_ret
  exact ⟨rfl, hB4⟩
theorem law_caps (d r s : Int) (w : World) : Calls Try.prog 8 #[gv d r s] w fun e w' => e = .returned (.bool true) ∧ Below w.heap.size w w' := by
  by_cases h : Rt d r s
  · exact law_caps_yes d r s w h
  · exact law_caps_no d r s w h

end Go.Proofs.Ytodjeglcdjodfaa
