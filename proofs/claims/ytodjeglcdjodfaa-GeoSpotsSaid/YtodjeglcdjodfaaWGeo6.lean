/-
  The law GeoSpots, walked.
-/
import Derived.Test.YtodjeglcdjodfaaRefW
namespace Go.Proofs.Ytodjeglcdjodfaa
open Go.RowKit

set_option maxHeartbeats 4000000 in
theorem spots_any (d r s g k n : Int) (x y : Int) (b : Bool) (x' y' : Int) (b' : Bool) (p q : Int) (b'' : Bool) (a : Int) (w : World)
    (h1 : Ans 20 #[gv d r s, .int .i64 g, .int .i64 k] (sv x y b)) (h2 : Ans 21 #[gv d r s, .int .i64 g, .int .i64 k] (sv x y b))
    (h3 : Ans 22 #[gv d r s, .int .i64 g, .int .i64 k] (sv x' y' b')) (h4 : Ans 23 #[gv d r s, .int .i64 g, .int .i64 k] (sv x' y' b'))
    (h5 : Ans 24 #[gv d r s, .int .i64 n] (.tuple #[.int .i64 p, .int .i64 q, .bool b''])) (h6 : Ans 25 #[gv d r s, .int .i64 n] (.tuple #[.int .i64 p, .int .i64 q, .bool b'']))
    (h7 : Ans 26 #[gv d r s, .int .i64 g, .int .i64 k] (.int .i64 a)) (h8 : Ans 27 #[gv d r s, .int .i64 g, .int .i64 k] (.int .i64 a)) :
    Calls Try.prog 4 #[gv d r s, .int .i64 g, .int .i64 k, .int .i64 n] w fun e w' => e = .returned (.bool true) ∧ Below w.heap.size w w' := by
  have x1 := Bx.mk' w d r s 23
  have hB1 : Below w.heap.size w (w.alloc (.cells #[.int .i64 d, .int .i64 r, .int .i64 s] 23 (0, 0))) := (Below.refl _ _).alloc (Nat.le_refl _) _
  go_enter Try.func4, Try.ntmps4
  go_wp2_with (fail)
  refine (alive_any _).mono ?_
  rintro e w2 ⟨rfl, hb2⟩
  have x2 := x1.next hb2
  have hB2 := hB1.trans (hb2.mono (Nat.le_of_lt x1.lt))
  clear x1 hB1
  have y1 := x2.c0
  have y2 := x2.c1
  have y3 := x2.c2
  go_wp2_with (fail)
  refine (h1 _).mono ?_
  rintro e w3 ⟨rfl, hb3⟩
  have x3 := x2.next hb3
  have hB3 := hB2.trans (hb3.mono (Nat.le_of_lt x2.lt))
  clear y1 y2 y3
  clear x2 hB2
  have y1 := x3.c0
  have y2 := x3.c1
  have y3 := x3.c2
  have P0_4 := Px.mk' w3 x y 30
  have x4 := x3.alloc (.cells #[.int .i64 x, .int .i64 y] 30 (0, 0))
  have hB4 := hB3.alloc (Nat.le_of_lt x3.lt) (.cells #[.int .i64 x, .int .i64 y] 30 (0, 0))
  clear x3 hB3 y1 y2 y3
  have y1 := x4.c0
  have y2 := x4.c1
  have y3 := x4.c2
  go_wp2_with (fail)
  refine (h2 _).mono ?_
  rintro e w5 ⟨rfl, hb5⟩
  have x5 := x4.next hb5
  have hB5 := hB4.trans (hb5.mono (Nat.le_of_lt x4.lt))
  clear y1 y2 y3
  clear x4 hB4
  have y1 := x5.c0
  have y2 := x5.c1
  have y3 := x5.c2
  have P0_5 := P0_4.next hb5
  clear P0_4
  have P0_6 := P0_5.alloc (.cells #[.int .i64 x, .int .i64 y] 30 (0, 0))
  have P1_6 := Px.mk' w5 x y 30
  have x6 := x5.alloc (.cells #[.int .i64 x, .int .i64 y] 30 (0, 0))
  have hB6 := hB5.alloc (Nat.le_of_lt x5.lt) (.cells #[.int .i64 x, .int .i64 y] 30 (0, 0))
  clear x5 hB5 y1 y2 y3
  have y1 := x6.c0
  have y2 := x6.c1
  have y3 := x6.c2
  go_wp2_with (fail)
  refine (h3 _).mono ?_
  rintro e w7 ⟨rfl, hb7⟩
  have x7 := x6.next hb7
  have hB7 := hB6.trans (hb7.mono (Nat.le_of_lt x6.lt))
  clear y1 y2 y3
  clear x6 hB6
  have y1 := x7.c0
  have y2 := x7.c1
  have y3 := x7.c2
  have P0_7 := P0_6.next hb7
  have P1_7 := P1_6.next hb7
  clear P0_6 P1_6
  have P0_8 := P0_7.alloc (.cells #[.int .i64 x', .int .i64 y'] 30 (0, 0))
  have P1_8 := P1_7.alloc (.cells #[.int .i64 x', .int .i64 y'] 30 (0, 0))
  have P2_8 := Px.mk' w7 x' y' 30
  have x8 := x7.alloc (.cells #[.int .i64 x', .int .i64 y'] 30 (0, 0))
  have hB8 := hB7.alloc (Nat.le_of_lt x7.lt) (.cells #[.int .i64 x', .int .i64 y'] 30 (0, 0))
  clear x7 hB7 y1 y2 y3
  have y1 := x8.c0
  have y2 := x8.c1
  have y3 := x8.c2
  go_wp2_with (fail)
  refine (h4 _).mono ?_
  rintro e w9 ⟨rfl, hb9⟩
  have x9 := x8.next hb9
  have hB9 := hB8.trans (hb9.mono (Nat.le_of_lt x8.lt))
  clear y1 y2 y3
  clear x8 hB8
  have y1 := x9.c0
  have y2 := x9.c1
  have y3 := x9.c2
  have P0_9 := P0_8.next hb9
  have P1_9 := P1_8.next hb9
  have P2_9 := P2_8.next hb9
  clear P0_8 P1_8 P2_8
  have P0_10 := P0_9.alloc (.cells #[.int .i64 x', .int .i64 y'] 30 (0, 0))
  have P1_10 := P1_9.alloc (.cells #[.int .i64 x', .int .i64 y'] 30 (0, 0))
  have P2_10 := P2_9.alloc (.cells #[.int .i64 x', .int .i64 y'] 30 (0, 0))
  have P3_10 := Px.mk' w9 x' y' 30
  have x10 := x9.alloc (.cells #[.int .i64 x', .int .i64 y'] 30 (0, 0))
  have hB10 := hB9.alloc (Nat.le_of_lt x9.lt) (.cells #[.int .i64 x', .int .i64 y'] 30 (0, 0))
  clear x9 hB9 y1 y2 y3
  have y1 := x10.c0
  have y2 := x10.c1
  have y3 := x10.c2
  go_wp2_with (fail)
  refine (h5 _).mono ?_
  rintro e w11 ⟨rfl, hb11⟩
  have x11 := x10.next hb11
  have hB11 := hB10.trans (hb11.mono (Nat.le_of_lt x10.lt))
  clear y1 y2 y3
  clear x10 hB10
  have y1 := x11.c0
  have y2 := x11.c1
  have y3 := x11.c2
  have P0_11 := P0_10.next hb11
  have P1_11 := P1_10.next hb11
  have P2_11 := P2_10.next hb11
  have P3_11 := P3_10.next hb11
  clear P0_10 P1_10 P2_10 P3_10
  go_wp2_with (fail)
  refine (h6 _).mono ?_
  rintro e w12 ⟨rfl, hb12⟩
  have x12 := x11.next hb12
  have hB12 := hB11.trans (hb12.mono (Nat.le_of_lt x11.lt))
  clear y1 y2 y3
  clear x11 hB11
  have y1 := x12.c0
  have y2 := x12.c1
  have y3 := x12.c2
  have P0_12 := P0_11.next hb12
  have P1_12 := P1_11.next hb12
  have P2_12 := P2_11.next hb12
  have P3_12 := P3_11.next hb12
  clear P0_11 P1_11 P2_11 P3_11
  go_wp2_with (fail)
  clear y1 y2 y3
  have X0 := x12.drew
  have B0 := hB12.drew
  have Q0_0 := P0_12.drew
  have Q1_0 := P1_12.drew
  have Q2_0 := P2_12.drew
  have Q3_0 := P3_12.drew
  go_region_held3 (fun w' => w'.cell? ⟨w.heap.size, 0, none⟩ = some (.int .i64 d) ∧ w'.cell? ⟨w.heap.size, 1, none⟩ = some (.int .i64 r) ∧ w'.cell? ⟨w.heap.size, 2, none⟩ = some (.int .i64 s) ∧ w'.cell? ⟨w3.heap.size, 0, none⟩ = some (.int .i64 x) ∧ w'.cell? ⟨w3.heap.size, 1, none⟩ = some (.int .i64 y) ∧ w'.cell? ⟨w5.heap.size, 0, none⟩ = some (.int .i64 x) ∧ w'.cell? ⟨w5.heap.size, 1, none⟩ = some (.int .i64 y) ∧ w'.cell? ⟨w7.heap.size, 0, none⟩ = some (.int .i64 x') ∧ w'.cell? ⟨w7.heap.size, 1, none⟩ = some (.int .i64 y') ∧ w'.cell? ⟨w9.heap.size, 0, none⟩ = some (.int .i64 x') ∧ w'.cell? ⟨w9.heap.size, 1, none⟩ = some (.int .i64 y'))
    (first | exact ⟨X2.c0, X2.c1, X2.c2, Q0_2.c0, Q0_2.c1, Q1_2.c0, Q1_2.c1, Q2_2.c0, Q2_2.c1, Q3_2.c0, Q3_2.c1⟩ | exact ⟨X1.c0, X1.c1, X1.c2, Q0_1.c0, Q0_1.c1, Q1_1.c0, Q1_1.c1, Q2_1.c0, Q2_1.c1, Q3_1.c0, Q3_1.c1⟩ | exact ⟨X0.c0, X0.c1, X0.c2, Q0_0.c0, Q0_0.c1, Q1_0.c0, Q1_0.c1, Q2_0.c0, Q2_0.c1, Q3_0.c0, Q3_0.c1⟩ | go_keep)
    (first
      | (go_at_call 26
         refine (h7 _).mono ?_
         rintro e v1 ⟨rfl, hc1⟩
         have X1 := X0.next hc1
         have Q0_1 := Q0_0.next hc1
         have Q1_1 := Q1_0.next hc1
         have Q2_1 := Q2_0.next hc1
         have Q3_1 := Q3_0.next hc1
         have B1 := B0.trans (hc1.mono (Nat.le_of_lt X0.lt)))
      | (go_at_call 27
         refine (h8 _).mono ?_
         rintro e v2 ⟨rfl, hc2⟩
         have X2 := X1.next hc2
         have Q0_2 := Q0_1.next hc2
         have Q1_2 := Q1_1.next hc2
         have Q2_2 := Q2_1.next hc2
         have Q3_2 := Q3_1.next hc2
         have B2 := B1.trans (hc2.mono (Nat.le_of_lt X1.lt))))
  go_wp2_with (fail)
  go_ret
  exact ⟨rfl, B2⟩

end Go.Proofs.Ytodjeglcdjodfaa
