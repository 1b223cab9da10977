/-
  The law GeoAnswers, walked; Address as the document has it.
-/
import Derived.Test.YtodjeglcdjodfaaRefG
namespace Go.Proofs.Ytodjeglcdjodfaa
open Go.RowKit

/-- Whatever the world: the call answers v, and leaves what was there. -/
def Ans (f : FuncId) (args : Array Value) (v : Value) : Prop := ∀ w : World, Calls Try.prog f args w fun e w' => e = .returned v ∧ Below w.heap.size w w'

set_option maxHeartbeats 2000000 in
theorem answers_any (d r s : Int) (b : Bool) (x y p q : Int) (w : World)
    (h1 : Ans 12 #[gv d r s] (.tuple #[.int .i64 p, .int .i64 q])) (h2 : Ans 13 #[gv d r s] (.tuple #[.int .i64 p, .int .i64 q]))
    (h3 : Ans 14 #[gv d r s] (.bool b)) (h4 : Ans 15 #[gv d r s] (.bool b))
    (h5 : Ans 16 #[gv d r s] (.int .i64 x)) (h6 : Ans 17 #[gv d r s] (.int .i64 x))
    (h7 : Ans 18 #[gv d r s] (.int .i64 y)) (h8 : Ans 19 #[gv d r s] (.int .i64 y)) :
    Calls Try.prog 3 #[gv d r s] w fun e w' => e = .returned (.bool true) ∧ Below w.heap.size w w' := by
  have x1 := Bx.mk' w d r s 23
  have hB1 : Below w.heap.size w (w.alloc (.cells #[.int .i64 d, .int .i64 r, .int .i64 s] 23 (0, 0))) := (Below.refl _ _).alloc (Nat.le_refl _) _
  go_enter Try.func3, Try.ntmps3
  go_wp2_with (fail)
  refine (alive_any _).mono ?_
  rintro e w2 ⟨rfl, hb2⟩
  have x2 := x1.next hb2
  have hB2 := hB1.trans (hb2.mono (Nat.le_of_lt x1.lt))
  clear x1 hB1
  have y1 := x2.c0
  have y2 := x2.c1
  have y3 := x2.c2
  go_wp2_with (fail)
  refine (h1 _).mono ?_
  rintro e w3 ⟨rfl, hb3⟩
  have x3 := x2.next hb3
  have hB3 := hB2.trans (hb3.mono (Nat.le_of_lt x2.lt))
  clear y1 y2 y3
  clear x2 hB2
  have y1 := x3.c0
  have y2 := x3.c1
  have y3 := x3.c2
  go_wp2_with (fail)
  refine (h2 _).mono ?_
  rintro e w4 ⟨rfl, hb4⟩
  have x4 := x3.next hb4
  have hB4 := hB3.trans (hb4.mono (Nat.le_of_lt x3.lt))
  clear y1 y2 y3
  clear x3 hB3
  have y1 := x4.c0
  have y2 := x4.c1
  have y3 := x4.c2
  go_wp2_with (fail)
  have X0 := x4.drew
  have B0 := hB4.drew
  go_region_held3 (fun w' => w'.cell? ⟨w.heap.size, 0, none⟩ = some (.int .i64 d) ∧ w'.cell? ⟨w.heap.size, 1, none⟩ = some (.int .i64 r) ∧ w'.cell? ⟨w.heap.size, 2, none⟩ = some (.int .i64 s))
    (first | go_keep | exact ⟨X6.c0, X6.c1, X6.c2⟩ | exact ⟨X5.c0, X5.c1, X5.c2⟩ | exact ⟨X4.c0, X4.c1, X4.c2⟩ | exact ⟨X3.c0, X3.c1, X3.c2⟩ | exact ⟨X2.c0, X2.c1, X2.c2⟩ | exact ⟨X1.c0, X1.c1, X1.c2⟩)
    (first
      | (go_at_call 14
         refine (h3 _).mono ?_
         rintro e v1 ⟨rfl, hb1⟩
         have X1 := X0.next hb1
         have B1 := B0.trans (hb1.mono (Nat.le_of_lt X0.lt)))
      | (go_at_call 15
         refine (h4 _).mono ?_
         rintro e v2 ⟨rfl, hb2⟩
         have X2 := X1.next hb2
         have B2 := B1.trans (hb2.mono (Nat.le_of_lt X1.lt)))
      | (go_at_call 16
         refine (h5 _).mono ?_
         rintro e v3 ⟨rfl, hb3⟩
         have X3 := X2.next hb3
         have B3 := B2.trans (hb3.mono (Nat.le_of_lt X2.lt)))
      | (go_at_call 17
         refine (h6 _).mono ?_
         rintro e v4 ⟨rfl, hb4⟩
         have X4 := X3.next hb4
         have B4 := B3.trans (hb4.mono (Nat.le_of_lt X3.lt)))
      | (go_at_call 18
         refine (h7 _).mono ?_
         rintro e v5 ⟨rfl, hb5⟩
         have X5 := X4.next hb5
         have B5 := B4.trans (hb5.mono (Nat.le_of_lt X4.lt)))
      | (go_at_call 19
         refine (h8 _).mono ?_
         rintro e v6 ⟨rfl, hb6⟩
         have X6 := X5.next hb6
         have B6 := B5.trans (hb6.mono (Nat.le_of_lt X5.lt))))
  go_wp2_with (fail)
  go_ret
  exact ⟨rfl, B6⟩
theorem law_answers (d r s : Int) (w : World) : Calls Try.prog 3 #[gv d r s] w fun e w' => e = .returned (.bool true) ∧ Below w.heap.size w w' := by
  by_cases h : Rt d r s
  · exact answers_any d r s true _ _ _ _ w (fun w => caps_yes d r s w h) (fun w => rcaps_yes d r s w h) (fun w => right_yes d r s w h) (fun w => rright_yes d r s w h) (fun w => sectors_yes d r s w h) (fun w => rsectors_yes d r s w h) (fun w => places_yes d r s w h) (fun w => rplaces_yes d r s w h)
  · exact answers_any d r s false _ _ _ _ w (fun w => caps_no d r s w h) (fun w => rcaps_no d r s w h) (fun w => right_no d r s w h) (fun w => rright_no d r s w h) (fun w => sectors_no d r s w h) (fun w => rsectors_no d r s w h) (fun w => places_no d r s w h) (fun w => rplaces_no d r s w h)

set_option maxHeartbeats 1000000 in
theorem raddress_out (d r s g k : Int) (w : World) (h : ¬ Rt d r s) :
    Calls Try.prog 27 #[gv d r s, .int .i64 g, .int .i64 k] w fun e w' => e = .returned (.int .i64 0) ∧ Below w.heap.size w w' := by
  have x1 := Bx.mk' w d r s 23
  have hB1 : Below w.heap.size w (w.alloc (.cells #[.int .i64 d, .int .i64 r, .int .i64 s] 23 (0, 0))) := (Below.refl _ _).alloc (Nat.le_refl _) _
  go_enter Try.func27, Try.ntmps27
  go_wp2_with (fail)
  refine (rright_no d r s _ h).mono ?_
  rintro e w2 ⟨rfl, hb2⟩
  have x2 := x1.next hb2
  have hB2 := hB1.trans (hb2.mono (Nat.le_of_lt x1.lt))
  clear x1 hB1
  have y1 := x2.c0
  have y2 := x2.c1
  have y3 := x2.c2
  go_wp2_with (fail)
  go_ret
  exact ⟨rfl, hB2⟩
set_option maxHeartbeats 1000000 in
theorem raddress_glow (d r s g k : Int) (w : World) (h : Rt d r s) (hg : g < 0) :
    Calls Try.prog 27 #[gv d r s, .int .i64 g, .int .i64 k] w fun e w' => e = .returned (.int .i64 0) ∧ Below w.heap.size w w' := by
  have x1 := Bx.mk' w d r s 23
  have hB1 : Below w.heap.size w (w.alloc (.cells #[.int .i64 d, .int .i64 r, .int .i64 s] 23 (0, 0))) := (Below.refl _ _).alloc (Nat.le_refl _) _
  go_enter Try.func27, Try.ntmps27
  go_wp2_with (fail)
  refine (rright_yes d r s _ h).mono ?_
  rintro e w2 ⟨rfl, hb2⟩
  have x2 := x1.next hb2
  have hB2 := hB1.trans (hb2.mono (Nat.le_of_lt x1.lt))
  clear x1 hB1
  have y1 := x2.c0
  have y2 := x2.c1
  have y3 := x2.c2
  go_wp2_with (fail)
  go_ret
  exact ⟨rfl, hB2⟩
set_option maxHeartbeats 1000000 in
theorem raddress_ghigh (d r s g k : Int) (w : World) (h : Rt d r s) (hg : s ≤ g) :
    Calls Try.prog 27 #[gv d r s, .int .i64 g, .int .i64 k] w fun e w' => e = .returned (.int .i64 0) ∧ Below w.heap.size w w' := by
  have x1 := Bx.mk' w d r s 23
  have hB1 : Below w.heap.size w (w.alloc (.cells #[.int .i64 d, .int .i64 r, .int .i64 s] 23 (0, 0))) := (Below.refl _ _).alloc (Nat.le_refl _) _
  have s1 := h.s1
  have f1 : decide (g < 0) = false := decide_eq_false (by omega)
  go_enter Try.func27, Try.ntmps27
  go_wp2_with (fail)
  refine (rright_yes d r s _ h).mono ?_
  rintro e w2 ⟨rfl, hb2⟩
  have x2 := x1.next hb2
  have hB2 := hB1.trans (hb2.mono (Nat.le_of_lt x1.lt))
  clear x1 hB1
  have y1 := x2.c0
  have y2 := x2.c1
  have y3 := x2.c2
  go_wp2_with (fail)
  go_ret
  exact ⟨rfl, hB2⟩
set_option maxHeartbeats 1000000 in
theorem raddress_klow (d r s g k : Int) (w : World) (h : Sg d r s g) (hk : k < 1) :
    Calls Try.prog 27 #[gv d r s, .int .i64 g, .int .i64 k] w fun e w' => e = .returned (.int .i64 0) ∧ Below w.heap.size w w' := by
  have x1 := Bx.mk' w d r s 23
  have hB1 : Below w.heap.size w (w.alloc (.cells #[.int .i64 d, .int .i64 r, .int .i64 s] 23 (0, 0))) := (Below.refl _ _).alloc (Nat.le_refl _) _
  have g0 := h.g0
  have g1 := h.g1
  have f1 : decide (g < 0) = false := decide_eq_false (by omega)
  have f2 : decide (s ≤ g) = false := decide_eq_false (by omega)
  go_enter Try.func27, Try.ntmps27
  go_wp2_with (fail)
  refine (rright_yes d r s _ h.toRt).mono ?_
  rintro e w2 ⟨rfl, hb2⟩
  have x2 := x1.next hb2
  have hB2 := hB1.trans (hb2.mono (Nat.le_of_lt x1.lt))
  clear x1 hB1
  have y1 := x2.c0
  have y2 := x2.c1
  have y3 := x2.c2
  go_wp2_with (fail)
  go_ret
  exact ⟨rfl, hB2⟩
set_option maxHeartbeats 1000000 in
theorem raddress_khigh (d r s g k : Int) (w : World) (h : Sg d r s g) (hk : PL d r < k) :
    Calls Try.prog 27 #[gv d r s, .int .i64 g, .int .i64 k] w fun e w' => e = .returned (.int .i64 0) ∧ Below w.heap.size w w' := by
  have x1 := Bx.mk' w d r s 23
  have hB1 : Below w.heap.size w (w.alloc (.cells #[.int .i64 d, .int .i64 r, .int .i64 s] 23 (0, 0))) := (Below.refl _ _).alloc (Nat.le_refl _) _
  have g0 := h.g0
  have g1 := h.g1
  have p1 := PL_bd h.d1 h.d2 h.r1 h.r2
  have f1 : decide (g < 0) = false := decide_eq_false (by omega)
  have f2 : decide (s ≤ g) = false := decide_eq_false (by omega)
  have f3 : decide (k < 1) = false := decide_eq_false (by omega)
  go_enter Try.func27, Try.ntmps27
  go_wp2_with (fail)
  refine (rright_yes d r s _ h.toRt).mono ?_
  rintro e w2 ⟨rfl, hb2⟩
  have x2 := x1.next hb2
  have hB2 := hB1.trans (hb2.mono (Nat.le_of_lt x1.lt))
  clear x1 hB1
  have y1 := x2.c0
  have y2 := x2.c1
  have y3 := x2.c2
  go_wp2_with (fail)
  refine (rplaces_yes d r s _ h.toRt).mono ?_
  rintro e w3 ⟨rfl, hb3⟩
  have x3 := x2.next hb3
  have hB3 := hB2.trans (hb3.mono (Nat.le_of_lt x2.lt))
  clear y1 y2 y3
  clear x2 hB2
  have y1 := x3.c0
  have y2 := x3.c1
  have y3 := x3.c2
  go_wp2_with (fail)
  go_ret
  exact ⟨rfl, hB3⟩
set_option maxHeartbeats 1000000 in
theorem raddress_ok (d r s g k : Int) (w : World) (h : Pk d r s g k) :
    Calls Try.prog 27 #[gv d r s, .int .i64 g, .int .i64 k] w fun e w' => e = .returned (.int .i64 (g * PL d r + k)) ∧ Below w.heap.size w w' := by
  have x1 := Bx.mk' w d r s 23
  have hB1 : Below w.heap.size w (w.alloc (.cells #[.int .i64 d, .int .i64 r, .int .i64 s] 23 (0, 0))) := (Below.refl _ _).alloc (Nat.le_refl _) _
  have g0 := h.g0
  have g1 := h.g1
  have k0 := h.k0
  have k1 := h.k1
  have p1 := PL_bd h.d1 h.d2 h.r1 h.r2
  obtain ⟨m1, m2⟩ := mul_bd (a := g) (b := PL d r) (x := 63) (y := 59) h.g0 (by have := h.g1; have := h.s2; omega) (by omega) p1.2.1
  have f1 : decide (g < 0) = false := decide_eq_false (by omega)
  have f2 : decide (s ≤ g) = false := decide_eq_false (by omega)
  have f3 : decide (k < 1) = false := decide_eq_false (by omega)
  have f4 : decide (PL d r < k) = false := decide_eq_false (by omega)
  go_enter Try.func27, Try.ntmps27
  go_wp2_with (fail)
  refine (rright_yes d r s _ h.toRt).mono ?_
  rintro e w2 ⟨rfl, hb2⟩
  have x2 := x1.next hb2
  have hB2 := hB1.trans (hb2.mono (Nat.le_of_lt x1.lt))
  clear x1 hB1
  have y1 := x2.c0
  have y2 := x2.c1
  have y3 := x2.c2
  go_wp2_with (fail)
  refine (rplaces_yes d r s _ h.toRt).mono ?_
  rintro e w3 ⟨rfl, hb3⟩
  have x3 := x2.next hb3
  have hB3 := hB2.trans (hb3.mono (Nat.le_of_lt x2.lt))
  clear y1 y2 y3
  clear x2 hB2
  have y1 := x3.c0
  have y2 := x3.c1
  have y3 := x3.c2
  go_wp2_with (fail)
  refine (rplaces_yes d r s _ h.toRt).mono ?_
  rintro e w4 ⟨rfl, hb4⟩
  have x4 := x3.next hb4
  have hB4 := hB3.trans (hb4.mono (Nat.le_of_lt x3.lt))
  clear y1 y2 y3
  clear x3 hB3
  have y1 := x4.c0
  have y2 := x4.c1
  have y3 := x4.c2
  go_wp2_with (fail)
  go_ret
  exact ⟨rfl, hB4⟩
theorem raddress_no (d r s g k : Int) (w : World) (h : ¬ Pk d r s g k) :
    Calls Try.prog 27 #[gv d r s, .int .i64 g, .int .i64 k] w fun e w' => e = .returned (.int .i64 0) ∧ Below w.heap.size w w' := by
  by_cases hr : Rt d r s
  · by_cases g0 : 0 ≤ g
    · by_cases g1 : g < s
      · by_cases k0 : 1 ≤ k
        · exact raddress_khigh d r s g k w ⟨hr, g0, g1⟩ (by
            by_cases k1 : k ≤ PL d r
            · exact absurd ⟨⟨hr, g0, g1⟩, k0, k1⟩ h
            · omega)
        · exact raddress_klow d r s g k w ⟨hr, g0, g1⟩ (by omega)
      · exact raddress_ghigh d r s g k w hr (by omega)
    · exact raddress_glow d r s g k w hr (by omega)
  · exact raddress_out d r s g k w hr

end Go.Proofs.Ytodjeglcdjodfaa
