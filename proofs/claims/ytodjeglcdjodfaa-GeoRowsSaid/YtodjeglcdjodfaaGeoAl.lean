/-
  The statements' first line: the program answers what the document fixes.
-/
import Derived.Test.YtodjeglcdjodfaaWhere
namespace Go.Proofs.Ytodjeglcdjodfaa
open Go.RowKit

theorem rt4 : Rt 4 2 16 := ⟨⟨by decide, by decide, by decide, by decide, by decide, by decide⟩, by decide⟩
theorem nrt0 : ¬ Rt 0 0 0 := fun h => absurd h.d1 (by decide)
theorem sg4 : Sg 4 2 16 0 := ⟨rt4, by decide, by decide⟩
theorem capsA (w : World) : Calls Try.prog 12 #[gv 4 2 16] w fun e w' => e = .returned (.tuple #[.int .i64 2, .int .i64 3]) ∧ Below w.heap.size w w' := by
  have := caps_yes 4 2 16 w rt4
  rwa [show PC 16 = 2 from rfl, show QC 16 = 3 from rfl] at this
theorem blockA (w : World) : Calls Try.prog 20 #[gv 4 2 16, .int .i64 0, .int .i64 1] w fun e w' => e = .returned (sv 1 5 true) ∧ Below w.heap.size w w' := by
  have := block_yes 4 2 16 0 1 w sg4 (by decide) (by decide)
  rwa [show BD 4 (0 * 2 + 1 / (4 - 1)) (1 % (4 - 1)) = 1 from rfl, show (5 : Int) + (0 * 2 + 1 / (4 - 1)) = 5 from rfl] at this
theorem placesA (w : World) : Calls Try.prog 18 #[gv 4 2 16] w fun e w' => e = .returned (.int .i64 5) ∧ Below w.heap.size w w' := by
  have := places_yes 4 2 16 w rt4
  rwa [show PL 4 2 = 5 from rfl] at this
theorem addressA (w : World) : Calls Try.prog 26 #[gv 4 2 16, .int .i64 0, .int .i64 1] w fun e w' => e = .returned (.int .i64 1) ∧ Below w.heap.size w w' := by
  have := address_yes 4 2 16 0 1 w sg4 (by decide) (by decide)
  rwa [show (0 : Int) * PL 4 2 + 1 = 1 from rfl] at this
theorem sectorsA (w : World) : Calls Try.prog 16 #[gv 4 2 16] w fun e w' => e = .returned (.int .i64 37) ∧ Below w.heap.size w w' := by
  have := sectors_yes 4 2 16 w rt4
  rwa [show (5 : Int) + 16 * 2 = 37 from rfl] at this
/-- A spot lies in block b. -/
structure Px (w : World) (b : Nat) (x y : Int) : Prop where
  lt : b < w.heap.size
  c0 : w.cell? ⟨b, 0, none⟩ = some (.int .i64 x)
  c1 : w.cell? ⟨b, 1, none⟩ = some (.int .i64 y)
theorem Px.below {w w' : World} {b B : Nat} {x y : Int} (h : Px w b x y) (hb : Below B w w') (hB : w.heap.size ≤ B) : Px w' b x y := by
  have hl := Nat.lt_of_lt_of_le h.lt hB
  exact ⟨Nat.lt_of_lt_of_le h.lt hb.size, (hb.cell (p := ⟨b, 0, none⟩) hl).trans h.c0, (hb.cell (p := ⟨b, 1, none⟩) hl).trans h.c1⟩
theorem Px.next {w w' : World} {b : Nat} {x y : Int} (h : Px w b x y) (hb : Below w.heap.size w w') : Px w' b x y := h.below hb (Nat.le_refl _)
theorem Px.mk' (w : World) (x y : Int) (t : TypeId) : Px (w.alloc (.cells #[.int .i64 x, .int .i64 y] t (0, 0))) w.heap.size x y := ⟨by simp, by go_simp, by go_simp⟩
theorem Px.alloc {w : World} {b : Nat} {x y : Int} (h : Px w b x y) (o : Obj) : Px (w.alloc o) b x y := h.below ((Below.refl _ _).alloc (Nat.le_refl _) o) (Nat.le_refl _)
theorem Px.drew {w : World} {b : Nat} {x y : Int} (h : Px w b x y) : Px w.drew b x y := ⟨h.lt, h.c0, h.c1⟩

set_option maxHeartbeats 1000000 in
theorem alive_any (w : World) : Calls Try.prog 11 #[] w fun e w' => e = .returned (.bool true) ∧ Below w.heap.size w w' := by
  have x1 := Bx.mk' w 4 2 16 23
  have hB1 : Below w.heap.size w (w.alloc (.cells #[.int .i64 4, .int .i64 2, .int .i64 16] 23 (0, 0))) := (Below.refl _ _).alloc (Nat.le_refl _) _
  go_enter Try.func11, Try.ntmps11
  go_wp2_with (fail)
  refine (capsA _).mono ?_
  rintro e w2 ⟨rfl, hb2⟩
  have x2 := x1.next hb2
  have hB2 := hB1.trans (hb2.mono (Nat.le_of_lt x1.lt))
  clear x1 hB1
  have y1 := x2.c0
  have y2 := x2.c1
  have y3 := x2.c2
  go_wp2_with (fail)
  refine (blockA _).mono ?_
  rintro e w3 ⟨rfl, hb3⟩
  have x3 := x2.next hb3
  have hB3 := hB2.trans (hb3.mono (Nat.le_of_lt x2.lt))
  clear y1 y2 y3
  clear x2 hB2
  have y1 := x3.c0
  have y2 := x3.c1
  have y3 := x3.c2
  have s4 := Px.mk' w3 1 5 30
  have x4 := x3.alloc (.cells #[.int .i64 1, .int .i64 5] 30 (0, 0))
  have hB4 : Below w.heap.size w (w3.alloc (.cells #[.int .i64 1, .int .i64 5] 30 (0, 0))) := hB3.alloc (Nat.le_of_lt x3.lt) _
  clear x3 hB3 y1 y2 y3
  have y1 := x4.c0
  have y2 := x4.c1
  have y3 := x4.c2
  go_wp2_with (fail)
  refine (right_yes 4 2 16 _ rt4).mono ?_
  rintro e w5 ⟨rfl, hb5⟩
  have x5 := x4.next hb5
  have hB5 := hB4.trans (hb5.mono (Nat.le_of_lt x4.lt))
  clear y1 y2 y3
  clear x4 hB4
  have y1 := x5.c0
  have y2 := x5.c1
  have y3 := x5.c2
  have s5 := s4.next hb5
  go_wp2_with (fail)
  refine (right_no 0 0 0 _ nrt0).mono ?_
  rintro e w6 ⟨rfl, hb6⟩
  have x6 := x5.next hb6
  have hB6 := hB5.trans (hb6.mono (Nat.le_of_lt x5.lt))
  clear y1 y2 y3
  clear x5 hB5
  have y1 := x6.c0
  have y2 := x6.c1
  have y3 := x6.c2
  have s6 := s5.next hb6
  go_wp2_with (fail)
  refine (placesA _).mono ?_
  rintro e w7 ⟨rfl, hb7⟩
  have x7 := x6.next hb7
  have hB7 := hB6.trans (hb7.mono (Nat.le_of_lt x6.lt))
  clear y1 y2 y3
  clear x6 hB6
  have y1 := x7.c0
  have y2 := x7.c1
  have y3 := x7.c2
  have s7 := s6.next hb7
  go_wp2_with (fail)
  refine (addressA _).mono ?_
  rintro e w8 ⟨rfl, hb8⟩
  have x8 := x7.next hb8
  have hB8 := hB7.trans (hb8.mono (Nat.le_of_lt x7.lt))
  clear y1 y2 y3
  clear x7 hB7
  have y1 := x8.c0
  have y2 := x8.c1
  have y3 := x8.c2
  have s8 := s7.next hb8
  clear s4 s5 s6 s7
  have z1 := s8.c0
  have z2 := s8.c1
  go_wp2_with (fail)
  refine (sectorsA _).mono ?_
  rintro e w9 ⟨rfl, hb9⟩
  have x9 := x8.next hb9
  have hB9 := hB8.trans (hb9.mono (Nat.le_of_lt x8.lt))
  clear y1 y2 y3
  clear x8 hB8
  have y1 := x9.c0
  have y2 := x9.c1
  have y3 := x9.c2
  go_wp2_with (fail)
  go_ret
  exact ⟨rfl, hB9⟩

end Go.Proofs.Ytodjeglcdjodfaa
