/-
  The document's answers of geo, by counting: Right, Sectors, Places, Caps, Address.
-/
import Derived.Test.YtdgjhfghggcfaaaSpot
namespace Go.Proofs.Ytdgjhfghggcfaaa
open Go.RowKit

set_option maxHeartbeats 1000000 in
theorem rright_d1 (d r s : Int) (w : World) (h : d < 3) :
    Calls Try.prog 25 #[gv d r s] w fun e w' => e = .returned (.bool false) ∧ Below w.heap.size w w' := by
  have x1 := Bx.mk' w d r s 23
  go_enter Try.func25, Try.ntmps25
  go_wp2_with (fail)
  go_ret
  exact ⟨rfl, (Below.refl _ _).alloc (Nat.le_refl _) _⟩
set_option maxHeartbeats 1000000 in
theorem rright_d2 (d r s : Int) (w : World) (h : 16 < d) :
    Calls Try.prog 25 #[gv d r s] w fun e w' => e = .returned (.bool false) ∧ Below w.heap.size w w' := by
  have x1 := Bx.mk' w d r s 23
  have f1 : decide (d < 3) = false := decide_eq_false (by omega)
  go_enter Try.func25, Try.ntmps25
  go_wp2_with (fail)
  go_ret
  exact ⟨rfl, (Below.refl _ _).alloc (Nat.le_refl _) _⟩
set_option maxHeartbeats 1000000 in
theorem rright_r1 (d r s : Int) (w : World) (d1 : 3 ≤ d) (d2 : d ≤ 16) (h : r < 1) :
    Calls Try.prog 25 #[gv d r s] w fun e w' => e = .returned (.bool false) ∧ Below w.heap.size w w' := by
  have x1 := Bx.mk' w d r s 23
  have f1 : decide (d < 3) = false := decide_eq_false (by omega)
  have f2 : decide (16 < d) = false := decide_eq_false (by omega)
  go_enter Try.func25, Try.ntmps25
  go_wp2_with (fail)
  go_ret
  exact ⟨rfl, (Below.refl _ _).alloc (Nat.le_refl _) _⟩
set_option maxHeartbeats 1000000 in
theorem rright_r2 (d r s : Int) (w : World) (d1 : 3 ≤ d) (d2 : d ≤ 16) (h : 4 < r) :
    Calls Try.prog 25 #[gv d r s] w fun e w' => e = .returned (.bool false) ∧ Below w.heap.size w w' := by
  have x1 := Bx.mk' w d r s 23
  have f1 : decide (d < 3) = false := decide_eq_false (by omega)
  have f2 : decide (16 < d) = false := decide_eq_false (by omega)
  have f3 : decide (r < 1) = false := decide_eq_false (by omega)
  go_enter Try.func25, Try.ntmps25
  go_wp2_with (fail)
  go_ret
  exact ⟨rfl, (Below.refl _ _).alloc (Nat.le_refl _) _⟩
set_option maxHeartbeats 1000000 in
theorem rright_s1 (d r s : Int) (w : World) (d1 : 3 ≤ d) (d2 : d ≤ 16) (r1 : 1 ≤ r) (r2 : r ≤ 4) (h : s < 12) :
    Calls Try.prog 25 #[gv d r s] w fun e w' => e = .returned (.bool false) ∧ Below w.heap.size w w' := by
  have x1 := Bx.mk' w d r s 23
  have f1 : decide (d < 3) = false := decide_eq_false (by omega)
  have f2 : decide (16 < d) = false := decide_eq_false (by omega)
  have f3 : decide (r < 1) = false := decide_eq_false (by omega)
  have f4 : decide (4 < r) = false := decide_eq_false (by omega)
  go_enter Try.func25, Try.ntmps25
  go_wp2_with (fail)
  go_ret
  exact ⟨rfl, (Below.refl _ _).alloc (Nat.le_refl _) _⟩
set_option maxHeartbeats 1000000 in
theorem rright_s2 (d r s : Int) (w : World) (d1 : 3 ≤ d) (d2 : d ≤ 16) (r1 : 1 ≤ r) (r2 : r ≤ 4) (h : 64 < s) :
    Calls Try.prog 25 #[gv d r s] w fun e w' => e = .returned (.bool false) ∧ Below w.heap.size w w' := by
  have x1 := Bx.mk' w d r s 23
  have f1 : decide (d < 3) = false := decide_eq_false (by omega)
  have f2 : decide (16 < d) = false := decide_eq_false (by omega)
  have f3 : decide (r < 1) = false := decide_eq_false (by omega)
  have f4 : decide (4 < r) = false := decide_eq_false (by omega)
  have f5 : decide (s < 12) = false := decide_eq_false (by omega)
  go_enter Try.func25, Try.ntmps25
  go_wp2_with (fail)
  go_ret
  exact ⟨rfl, (Below.refl _ _).alloc (Nat.le_refl _) _⟩
set_option maxHeartbeats 1000000 in
theorem rright_bd (d r s : Int) (w : World) (h : Bd d r s) :
    Calls Try.prog 25 #[gv d r s] w fun e w' => e = .returned (.bool (decide (8 ≤ QC s * PL d r))) ∧ Below w.heap.size w w' := by
  obtain ⟨p1, p2, p3, p4⟩ := PL_bd h.d1 h.d2 h.r1 h.r2
  obtain ⟨q1, q2⟩ := QP_bd h
  obtain ⟨d1, d2, r1, r2, s1, s2⟩ := h
  have f1 : decide (d < 3) = false := decide_eq_false (by omega)
  have f2 : decide (16 < d) = false := decide_eq_false (by omega)
  have f3 : decide (r < 1) = false := decide_eq_false (by omega)
  have f4 : decide (4 < r) = false := decide_eq_false (by omega)
  have f5 : decide (s < 12) = false := decide_eq_false (by omega)
  have f6 : decide (64 < s) = false := decide_eq_false (by omega)
  unfold QC PL at q1 q2 ⊢
  go_enter Try.func25, Try.ntmps25
  go_wp2_with (fail)
  go_ret
  exact ⟨rfl, (Below.refl _ _).alloc (Nat.le_refl _) _⟩
theorem rright_yes (d r s : Int) (w : World) (h : Rt d r s) : Calls Try.prog 25 #[gv d r s] w fun e w' => e = .returned (.bool true) ∧ Below w.heap.size w w' := by
  have := rright_bd d r s w h.toBd
  rwa [decide_eq_true h.q] at this
theorem rright_no (d r s : Int) (w : World) (h : ¬ Rt d r s) : Calls Try.prog 25 #[gv d r s] w fun e w' => e = .returned (.bool false) ∧ Below w.heap.size w w' := by
  by_cases hb : Bd d r s
  · have := rright_bd d r s w hb
    rwa [decide_eq_false (fun q => h ⟨hb, q⟩)] at this
  · rcases not_Bd hb with h1 | ⟨h0, h1⟩ | ⟨h0, h00, h1⟩
    · rcases h1 with h1 | h1
      · exact rright_d1 d r s w h1
      · exact rright_d2 d r s w h1
    · rcases h1 with h1 | h1
      · exact rright_r1 d r s w h0.1 h0.2 h1
      · exact rright_r2 d r s w h0.1 h0.2 h1
    · rcases h1 with h1 | h1
      · exact rright_s1 d r s w h0.1 h0.2 h00.1 h00.2 h1
      · exact rright_s2 d r s w h0.1 h0.2 h00.1 h00.2 h1

set_option maxHeartbeats 1000000 in
theorem rplaces_yes (d r s : Int) (w : World) (h : Rt d r s) : Calls Try.prog 26 #[gv d r s] w fun e w' => e = .returned (.int .i64 (PL d r)) ∧ Below w.heap.size w w' := by
  have x1 := Bx.mk' w d r s 23
  have hB1 : Below w.heap.size w (w.alloc (.cells #[.int .i64 d, .int .i64 r, .int .i64 s] 23 (0, 0))) := (Below.refl _ _).alloc (Nat.le_refl _) _
  obtain ⟨p1, p2, p3, p4⟩ := PL_bd h.d1 h.d2 h.r1 h.r2
  have d1 := h.d1
  have d2 := h.d2
  unfold PL
  go_enter Try.func26, Try.ntmps26
  go_wp2_with (fail)
  refine (rright_yes d r s _ h).mono ?_
  rintro e w2 ⟨rfl, hb2⟩
  have x2 := x1.next hb2
  have hB2 := hB1.trans (hb2.mono (Nat.le_of_lt x1.lt))
  clear x1 hB1
  have y1 := x2.c0
  have y2 := x2.c1
  have y3 := x2.c2
  go_wp2_with (fail)
  go_ret
  exact ⟨rfl, hB2⟩
set_option maxHeartbeats 1000000 in
theorem rplaces_no (d r s : Int) (w : World) (h : ¬ Rt d r s) : Calls Try.prog 26 #[gv d r s] w fun e w' => e = .returned (.int .i64 0) ∧ Below w.heap.size w w' := by
  have x1 := Bx.mk' w d r s 23
  have hB1 : Below w.heap.size w (w.alloc (.cells #[.int .i64 d, .int .i64 r, .int .i64 s] 23 (0, 0))) := (Below.refl _ _).alloc (Nat.le_refl _) _
  go_enter Try.func26, Try.ntmps26
  go_wp2_with (fail)
  refine (rright_no d r s _ h).mono ?_
  rintro e w2 ⟨rfl, hb2⟩
  have x2 := x1.next hb2
  have hB2 := hB1.trans (hb2.mono (Nat.le_of_lt x1.lt))
  clear x1 hB1
  have y1 := x2.c0
  have y2 := x2.c1
  have y3 := x2.c2
  go_wp2_with (fail)
  go_ret
  exact ⟨rfl, hB2⟩
end Go.Proofs.Ytdgjhfghggcfaaa
