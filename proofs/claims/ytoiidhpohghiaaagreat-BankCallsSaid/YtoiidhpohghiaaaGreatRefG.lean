/-
  The document's answers of geo, by counting: Right, Sectors, Places, Caps, Address.
-/
import Derived.Test.YtoiidhpohghiaaaGreatRight
namespace Go.Proofs.YtoiidhpohghiaaaGreat
open Go.RowKit
set_option linter.unusedVariables false

/-- A geometry lies in block b. -/
structure Bx (w : World) (b : Nat) (d r s : Int) : Prop where
  lt : b < w.heap.size
  c0 : w.cell? ⟨b, 0, none⟩ = some (.int .i64 d)
  c1 : w.cell? ⟨b, 1, none⟩ = some (.int .i64 r)
  c2 : w.cell? ⟨b, 2, none⟩ = some (.int .i64 s)
theorem Bx.below {w w' : World} {b B : Nat} {d r s : Int} (h : Bx w b d r s) (hb : Below B w w') (hB : w.heap.size ≤ B) : Bx w' b d r s := by
  have hl := Nat.lt_of_lt_of_le h.lt hB
  exact ⟨Nat.lt_of_lt_of_le h.lt hb.size, (hb.cell (p := ⟨b, 0, none⟩) hl).trans h.c0, (hb.cell (p := ⟨b, 1, none⟩) hl).trans h.c1, (hb.cell (p := ⟨b, 2, none⟩) hl).trans h.c2⟩
theorem Bx.next {w w' : World} {b : Nat} {d r s : Int} (h : Bx w b d r s) (hb : Below w.heap.size w w') : Bx w' b d r s := h.below hb (Nat.le_refl _)
theorem Bx.mk' (w : World) (d r s : Int) (t : TypeId) : Bx (w.alloc (.cells #[.int .i64 d, .int .i64 r, .int .i64 s] t (0, 0))) w.heap.size d r s :=
  ⟨by simp, by go_simp, by go_simp, by go_simp⟩
theorem Bx.alloc {w : World} {b : Nat} {d r s : Int} (h : Bx w b d r s) (o : Obj) : Bx (w.alloc o) b d r s := h.below (((Below.refl _ _).alloc (Nat.le_refl _) o)) (Nat.le_refl _)
theorem Bx.drew {w : World} {b : Nat} {d r s : Int} (h : Bx w b d r s) : Bx w.drew b d r s := ⟨h.lt, h.c0, h.c1, h.c2⟩

set_option maxHeartbeats 1000000 in
theorem rright_d1 (d r s : Int) (w : World) (h : d < 3) :
    Calls Tryz.prog 20 #[gv d r s] w fun e w' => e = .returned (.bool false) ∧ Below w.heap.size w w' := by
  have x1 := Bx.mk' w d r s 30
  go_enter Tryz.func20, Tryz.ntmps20
  go_wp2_with (fail)
  go_ret
  exact ⟨rfl, (Below.refl _ _).alloc (Nat.le_refl _) _⟩
set_option maxHeartbeats 1000000 in
theorem rright_d2 (d r s : Int) (w : World) (h : 16 < d) :
    Calls Tryz.prog 20 #[gv d r s] w fun e w' => e = .returned (.bool false) ∧ Below w.heap.size w w' := by
  have x1 := Bx.mk' w d r s 30
  have f1 : decide (d < 3) = false := decide_eq_false (by omega)
  go_enter Tryz.func20, Tryz.ntmps20
  go_wp2_with (fail)
  go_ret
  exact ⟨rfl, (Below.refl _ _).alloc (Nat.le_refl _) _⟩
set_option maxHeartbeats 1000000 in
theorem rright_r1 (d r s : Int) (w : World) (d1 : 3 ≤ d) (d2 : d ≤ 16) (h : r < 1) :
    Calls Tryz.prog 20 #[gv d r s] w fun e w' => e = .returned (.bool false) ∧ Below w.heap.size w w' := by
  have x1 := Bx.mk' w d r s 30
  have f1 : decide (d < 3) = false := decide_eq_false (by omega)
  have f2 : decide (16 < d) = false := decide_eq_false (by omega)
  go_enter Tryz.func20, Tryz.ntmps20
  go_wp2_with (fail)
  go_ret
  exact ⟨rfl, (Below.refl _ _).alloc (Nat.le_refl _) _⟩
set_option maxHeartbeats 1000000 in
theorem rright_r2 (d r s : Int) (w : World) (d1 : 3 ≤ d) (d2 : d ≤ 16) (h : 4 < r) :
    Calls Tryz.prog 20 #[gv d r s] w fun e w' => e = .returned (.bool false) ∧ Below w.heap.size w w' := by
  have x1 := Bx.mk' w d r s 30
  have f1 : decide (d < 3) = false := decide_eq_false (by omega)
  have f2 : decide (16 < d) = false := decide_eq_false (by omega)
  have f3 : decide (r < 1) = false := decide_eq_false (by omega)
  go_enter Tryz.func20, Tryz.ntmps20
  go_wp2_with (fail)
  go_ret
  exact ⟨rfl, (Below.refl _ _).alloc (Nat.le_refl _) _⟩
set_option maxHeartbeats 1000000 in
theorem rright_s1 (d r s : Int) (w : World) (d1 : 3 ≤ d) (d2 : d ≤ 16) (r1 : 1 ≤ r) (r2 : r ≤ 4) (h : s < 12) :
    Calls Tryz.prog 20 #[gv d r s] w fun e w' => e = .returned (.bool false) ∧ Below w.heap.size w w' := by
  have x1 := Bx.mk' w d r s 30
  have f1 : decide (d < 3) = false := decide_eq_false (by omega)
  have f2 : decide (16 < d) = false := decide_eq_false (by omega)
  have f3 : decide (r < 1) = false := decide_eq_false (by omega)
  have f4 : decide (4 < r) = false := decide_eq_false (by omega)
  go_enter Tryz.func20, Tryz.ntmps20
  go_wp2_with (fail)
  go_ret
  exact ⟨rfl, (Below.refl _ _).alloc (Nat.le_refl _) _⟩
set_option maxHeartbeats 1000000 in
theorem rright_s2 (d r s : Int) (w : World) (d1 : 3 ≤ d) (d2 : d ≤ 16) (r1 : 1 ≤ r) (r2 : r ≤ 4) (h : 64 < s) :
    Calls Tryz.prog 20 #[gv d r s] w fun e w' => e = .returned (.bool false) ∧ Below w.heap.size w w' := by
  have x1 := Bx.mk' w d r s 30
  have f1 : decide (d < 3) = false := decide_eq_false (by omega)
  have f2 : decide (16 < d) = false := decide_eq_false (by omega)
  have f3 : decide (r < 1) = false := decide_eq_false (by omega)
  have f4 : decide (4 < r) = false := decide_eq_false (by omega)
  have f5 : decide (s < 12) = false := decide_eq_false (by omega)
  go_enter Tryz.func20, Tryz.ntmps20
  go_wp2_with (fail)
  go_ret
  exact ⟨rfl, (Below.refl _ _).alloc (Nat.le_refl _) _⟩
set_option maxHeartbeats 1000000 in
theorem rright_bd (d r s : Int) (w : World) (h : Bd d r s) :
    Calls Tryz.prog 20 #[gv d r s] w fun e w' => e = .returned (.bool (decide (8 ≤ QC s * PL d r))) ∧ Below w.heap.size w w' := by
  obtain ⟨p1, p2, p3, p4⟩ := PL_bd h.d1 h.d2 h.r1 h.r2
  obtain ⟨q1, q2⟩ := QP_bd h
  obtain ⟨d1, d2, r1, r2, s1, s2⟩ := h
  have f1 : decide (d < 3) = false := decide_eq_false (by omega)
  have f2 : decide (16 < d) = false := decide_eq_false (by omega)
  have f3 : decide (r < 1) = false := decide_eq_false (by omega)
  have f4 : decide (4 < r) = false := decide_eq_false (by omega)
  have f5 : decide (s < 12) = false := decide_eq_false (by omega)
  have f6 : decide (64 < s) = false := decide_eq_false (by omega)
  unfold QC PL at q1 q2 ⊢
  go_enter Tryz.func20, Tryz.ntmps20
  go_wp2_with (fail)
  go_ret
  exact ⟨rfl, (Below.refl _ _).alloc (Nat.le_refl _) _⟩
theorem rright_yes (d r s : Int) (w : World) (h : Rt d r s) : Calls Tryz.prog 20 #[gv d r s] w fun e w' => e = .returned (.bool true) ∧ Below w.heap.size w w' := by
  have := rright_bd d r s w h.toBd
  rwa [decide_eq_true h.q] at this
theorem rright_no (d r s : Int) (w : World) (h : ¬ Rt d r s) : Calls Tryz.prog 20 #[gv d r s] w fun e w' => e = .returned (.bool false) ∧ Below w.heap.size w w' := by
  by_cases hb : Bd d r s
  · have := rright_bd d r s w hb
    rwa [decide_eq_false (fun q => h ⟨hb, q⟩)] at this
  · rcases not_Bd hb with h1 | ⟨h0, h1⟩ | ⟨h0, h00, h1⟩
    · rcases h1 with h1 | h1
      · exact rright_d1 d r s w h1
      · exact rright_d2 d r s w h1
    · rcases h1 with h1 | h1
      · exact rright_r1 d r s w h0.1 h0.2 h1
      · exact rright_r2 d r s w h0.1 h0.2 h1
    · rcases h1 with h1 | h1
      · exact rright_s1 d r s w h0.1 h0.2 h00.1 h00.2 h1
      · exact rright_s2 d r s w h0.1 h0.2 h00.1 h00.2 h1

set_option maxHeartbeats 1000000 in
theorem rsectors_yes (d r s : Int) (w : World) (h : Rt d r s) : Calls Tryz.prog 21 #[gv d r s] w fun e w' => e = .returned (.int .i64 (5 + s * r)) ∧ Below w.heap.size w w' := by
  have x1 := Bx.mk' w d r s 30
  have hB1 : Below w.heap.size w (w.alloc (.cells #[.int .i64 d, .int .i64 r, .int .i64 s] 30 (0, 0))) := (Below.refl _ _).alloc (Nat.le_refl _) _
  have m := mul_bd (a := s) (b := r) (x := 64) (y := 4) (by have := h.s1; omega) h.s2 (by have := h.r1; omega) h.r2
  go_enter Tryz.func21, Tryz.ntmps21
  go_wp2_with (fail)
  refine (rright_yes d r s _ h).mono ?_
  rintro e w2 ⟨rfl, hb2⟩
  have x2 := x1.next hb2
  have hB2 := hB1.trans (hb2.mono (Nat.le_of_lt x1.lt))
  clear x1 hB1
  have y1 := x2.c0
  have y2 := x2.c1
  have y3 := x2.c2
  go_wp2_with (fail)
  go_ret
  exact ⟨rfl, hB2⟩
set_option maxHeartbeats 1000000 in
theorem rsectors_no (d r s : Int) (w : World) (h : ¬ Rt d r s) : Calls Tryz.prog 21 #[gv d r s] w fun e w' => e = .returned (.int .i64 0) ∧ Below w.heap.size w w' := by
  have x1 := Bx.mk' w d r s 30
  have hB1 : Below w.heap.size w (w.alloc (.cells #[.int .i64 d, .int .i64 r, .int .i64 s] 30 (0, 0))) := (Below.refl _ _).alloc (Nat.le_refl _) _
  go_enter Tryz.func21, Tryz.ntmps21
  go_wp2_with (fail)
  refine (rright_no d r s _ h).mono ?_
  rintro e w2 ⟨rfl, hb2⟩
  have x2 := x1.next hb2
  have hB2 := hB1.trans (hb2.mono (Nat.le_of_lt x1.lt))
  clear x1 hB1
  have y1 := x2.c0
  have y2 := x2.c1
  have y3 := x2.c2
  go_wp2_with (fail)
  go_ret
  exact ⟨rfl, hB2⟩
end Go.Proofs.YtoiidhpohghiaaaGreat
