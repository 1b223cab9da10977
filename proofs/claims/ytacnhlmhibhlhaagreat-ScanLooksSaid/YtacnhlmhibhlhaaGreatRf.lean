/-
  Parity and Block as the document has them, by counting.
-/
import Derived.Test.YtacnhlmhibhlhaaGreatGe
set_option linter.unusedSimpArgs false
set_option linter.unusedVariables false
namespace Go.Proofs.YtacnhlmhibhlhaaGreat
open Go.RowKit

theorem emod_succ {i d : Int} (hd : 0 < d) : (i + 1) % d = if i % d = d - 1 then 0 else i % d + 1 := by
  have a := Int.emod_nonneg i (show d ≠ 0 by omega)
  have b := Int.emod_lt_of_pos i hd
  have e : (i + 1) % d = (i % d + 1) % d := by rw [Int.emod_add_emod]
  rw [e]
  split
  · next h => rw [h, show d - 1 + 1 = d by omega, Int.emod_self]
  · next h => exact Int.emod_eq_of_lt (by omega) (by omega)
theorem PD_succ {d i : Int} (hd : 3 ≤ d) : PD d (i + 1) = if PD d i = 0 then d - 1 else PD d i - 1 := by
  unfold PD
  rw [emod_succ (by omega)]
  by_cases h : i % d = d - 1
  · rw [if_pos h, if_pos (by omega)]; omega
  · rw [if_neg h, if_neg (by omega)]; omega

set_option maxHeartbeats 1000000 in
theorem rparity_out (d r s g k : Int) (w : World) (h : ¬ Rt d r s) :
    Calls Tryz.prog 127 #[gv d r s, .int .i64 g, .int .i64 k] w fun e w' => e = .returned (sv 0 0 false) ∧ Below w.heap.size w w' := by
  obtain ⟨hx, hs'⟩ := two w d r s 33 150
  go_enter Tryz.func127, Tryz.ntmps127
  go_wp2_with (fail)
  with_reducible refine (rright_no d r s _ h).mono ?_
  rintro e w2 ⟨rfl, hb⟩
  have hB := bel_two _ _ (by simp; omega) hb
  have s2 := hs'.next hb
  have x2 := hx.next hb
  clear hb hx hs'
  have y1 := x2.c0
  have y2 := x2.c1
  have y3 := x2.c2
  obtain ⟨_, ⟨v1, c1⟩, ⟨v2, c2⟩, f1, f2⟩ := s2
  go_wp2_with (fail)
  refine bodyPost_ret (v := sv 0 0 false) ?_ rfl ⟨rfl, ?_⟩
  · simp [results, Tryz.results127, go_sem, c1, c2]
  · exact (hB.setCell (by simp) _).setCell (by simp) _
set_option maxHeartbeats 1000000 in
theorem rparity_glow (d r s g k : Int) (w : World) (h : Rt d r s) (hg : g < 0) :
    Calls Tryz.prog 127 #[gv d r s, .int .i64 g, .int .i64 k] w fun e w' => e = .returned (sv 0 0 false) ∧ Below w.heap.size w w' := by
  obtain ⟨hx, hs'⟩ := two w d r s 33 150
  go_enter Tryz.func127, Tryz.ntmps127
  go_wp2_with (fail)
  with_reducible refine (rright_yes d r s _ h).mono ?_
  rintro e w2 ⟨rfl, hb⟩
  have hB := bel_two _ _ (by simp; omega) hb
  have s2 := hs'.next hb
  have x2 := hx.next hb
  clear hb hx hs'
  have y1 := x2.c0
  have y2 := x2.c1
  have y3 := x2.c2
  obtain ⟨_, ⟨v1, c1⟩, ⟨v2, c2⟩, f1, f2⟩ := s2
  go_wp2_with (fail)
  refine bodyPost_ret (v := sv 0 0 false) ?_ rfl ⟨rfl, ?_⟩
  · simp [results, Tryz.results127, go_sem, c1, c2]
  · exact (hB.setCell (by simp) _).setCell (by simp) _
set_option maxHeartbeats 1000000 in
theorem rparity_ghigh (d r s g k : Int) (w : World) (h : Rt d r s) (hg : s ≤ g) :
    Calls Tryz.prog 127 #[gv d r s, .int .i64 g, .int .i64 k] w fun e w' => e = .returned (sv 0 0 false) ∧ Below w.heap.size w w' := by
  obtain ⟨hx, hs'⟩ := two w d r s 33 150
  have s1 := h.s1
  have g1 : decide (g < 0) = false := decide_eq_false (by omega)
  go_enter Tryz.func127, Tryz.ntmps127
  go_wp2_with (fail)
  with_reducible refine (rright_yes d r s _ h).mono ?_
  rintro e w2 ⟨rfl, hb⟩
  have hB := bel_two _ _ (by simp; omega) hb
  have s2 := hs'.next hb
  have x2 := hx.next hb
  clear hb hx hs'
  have y1 := x2.c0
  have y2 := x2.c1
  have y3 := x2.c2
  obtain ⟨_, ⟨v1, c1⟩, ⟨v2, c2⟩, f1, f2⟩ := s2
  go_wp2_with (fail)
  refine bodyPost_ret (v := sv 0 0 false) ?_ rfl ⟨rfl, ?_⟩
  · simp [results, Tryz.results127, go_sem, c1, c2]
  · exact (hB.setCell (by simp) _).setCell (by simp) _
set_option maxHeartbeats 1000000 in
theorem rparity_klow (d r s g k : Int) (w : World) (h : Sg d r s g) (hk : k < 0) :
    Calls Tryz.prog 127 #[gv d r s, .int .i64 g, .int .i64 k] w fun e w' => e = .returned (sv 0 0 false) ∧ Below w.heap.size w w' := by
  obtain ⟨hx, hs'⟩ := two w d r s 33 150
  have g0 := h.g0
  have g1 := h.g1
  have g2 : decide (g < 0) = false := decide_eq_false (by omega)
  have g3 : decide (s ≤ g) = false := decide_eq_false (by omega)
  go_enter Tryz.func127, Tryz.ntmps127
  go_wp2_with (fail)
  with_reducible refine (rright_yes d r s _ h.toRt).mono ?_
  rintro e w2 ⟨rfl, hb⟩
  have hB := bel_two _ _ (by simp; omega) hb
  have s2 := hs'.next hb
  have x2 := hx.next hb
  clear hb hx hs'
  have y1 := x2.c0
  have y2 := x2.c1
  have y3 := x2.c2
  obtain ⟨_, ⟨v1, c1⟩, ⟨v2, c2⟩, f1, f2⟩ := s2
  go_wp2_with (fail)
  refine bodyPost_ret (v := sv 0 0 false) ?_ rfl ⟨rfl, ?_⟩
  · simp [results, Tryz.results127, go_sem, c1, c2]
  · exact (hB.setCell (by simp) _).setCell (by simp) _
set_option maxHeartbeats 1000000 in
theorem rparity_khigh (d r s g k : Int) (w : World) (h : Sg d r s g) (hk : r ≤ k) :
    Calls Tryz.prog 127 #[gv d r s, .int .i64 g, .int .i64 k] w fun e w' => e = .returned (sv 0 0 false) ∧ Below w.heap.size w w' := by
  obtain ⟨hx, hs'⟩ := two w d r s 33 150
  have g0 := h.g0
  have g1 := h.g1
  have r1 := h.r1
  have g2 : decide (g < 0) = false := decide_eq_false (by omega)
  have g3 : decide (s ≤ g) = false := decide_eq_false (by omega)
  have g4 : decide (k < 0) = false := decide_eq_false (by omega)
  go_enter Tryz.func127, Tryz.ntmps127
  go_wp2_with (fail)
  with_reducible refine (rright_yes d r s _ h.toRt).mono ?_
  rintro e w2 ⟨rfl, hb⟩
  have hB := bel_two _ _ (by simp; omega) hb
  have s2 := hs'.next hb
  have x2 := hx.next hb
  clear hb hx hs'
  have y1 := x2.c0
  have y2 := x2.c1
  have y3 := x2.c2
  obtain ⟨_, ⟨v1, c1⟩, ⟨v2, c2⟩, f1, f2⟩ := s2
  go_wp2_with (fail)
  refine bodyPost_ret (v := sv 0 0 false) ?_ rfl ⟨rfl, ?_⟩
  · simp [results, Tryz.results127, go_sem, c1, c2]
  · exact (hB.setCell (by simp) _).setCell (by simp) _
theorem rparity_no (d r s g k : Int) (w : World) (h : ¬ (Sg d r s g ∧ 0 ≤ k ∧ k < r)) :
    Calls Tryz.prog 127 #[gv d r s, .int .i64 g, .int .i64 k] w fun e w' => e = .returned (sv 0 0 false) ∧ Below w.heap.size w w' := by
  by_cases hr : Rt d r s
  · by_cases g0 : 0 ≤ g
    · by_cases g1 : g < s
      · by_cases k0 : 0 ≤ k
        · exact rparity_khigh d r s g k w ⟨hr, g0, g1⟩ (by
            by_cases k1 : k < r
            · exact absurd ⟨⟨hr, g0, g1⟩, k0, k1⟩ h
            · omega)
        · exact rparity_klow d r s g k w ⟨hr, g0, g1⟩ (by omega)
      · exact rparity_ghigh d r s g k w hr (by omega)
    · exact rparity_glow d r s g k w hr (by omega)
  · exact rparity_out d r s g k w hr

set_option maxHeartbeats 1000000 in
theorem rparity_yes (d r s g k : Int) (w : World) (h : Sg d r s g) (k0 : 0 ≤ k) (k1 : k < r) :
    Calls Tryz.prog 127 #[gv d r s, .int .i64 g, .int .i64 k] w fun e w' => e = .returned (sv (PD d (g * r + k)) (5 + (g * r + k)) true) ∧ Below w.heap.size w w' := by
  obtain ⟨m1, m2⟩ := gr_bd h
  have d1 := h.d1
  have d2 := h.d2
  have g0 := h.g0
  have g1 := h.g1
  have r2 := h.r2
  have q2 : decide (g < 0) = false := decide_eq_false (by omega)
  have q3 : decide (s ≤ g) = false := decide_eq_false (by omega)
  have q4 : decide (k < 0) = false := decide_eq_false (by omega)
  have q5 : decide (r ≤ k) = false := decide_eq_false (by omega)
  obtain ⟨hx, hs'⟩ := two w d r s 33 150
  go_enter Tryz.func127, Tryz.ntmps127
  go_wp2_with (fail)
  with_reducible refine (rright_yes d r s _ h.toRt).mono ?_
  rintro e w2 ⟨rfl, hb⟩
  have hB := bel_two _ _ (by simp; omega) hb
  have s2 := hs'.next hb
  have x2 := hx.next hb
  clear hb hx hs'
  have y1 := x2.c0
  have y2 := x2.c1
  have y3 := x2.c2
  go_wp2_with (fail)
  go_loop [8, 9] (fun u v => ∃ i : Nat, (i : Int) ≤ g * r + k ∧ v = .int .i64 i ∧ u = .int .i64 (PD d i)) (fun _ v => (g * r + k - RowKit.intOf v).toNat)
  case atStart => exact ⟨0, by omega, rfl, by simp [PD]⟩
  case round =>
    obtain ⟨i, i1, rfl, rfl⟩ := hrel
    have hp := PD_succ (d := d) (i := i) d1
    obtain ⟨b1, b2⟩ := PD_bd (q := (i : Int)) d1
    have Hp := Lib.hid hp
    clear hp
    by_cases hlt : (i : Int) < g * r + k
    · by_cases hz : PD d i = 0
      · have e1 : decide (PD d i - 1 < 0) = true := by simp; omega
        have Hz := Lib.hid hz
        clear hz
        go_wp2_with (fail)
        go_round
        case rel => exact ⟨i + 1, by omega, by go_num, by have := Hp.out; rw [if_pos Hz.out] at this; rw [show ((i + 1 : Nat) : Int) = (i : Int) + 1 by simp, this]⟩
        case measure => simp [RowKit.intOf]; omega
      · have e1 : decide (PD d i - 1 < 0) = false := by simp; omega
        have Hz := Lib.hid hz
        clear hz
        go_wp2_with (fail)
        go_round
        case rel => exact ⟨i + 1, by omega, by go_num, by have := Hp.out; rw [if_neg Hz.out] at this; rw [show ((i + 1 : Nat) : Int) = (i : Int) + 1 by simp, this]⟩
        case measure => simp [RowKit.intOf]; omega
    · have hi : (i : Int) = g * r + k := by omega
      have Hi := Lib.hid hi
      clear hi
      obtain ⟨_, ⟨v1, c1⟩, ⟨v2, c2⟩, f1, f2⟩ := s2
      go_wp2_with (fail)
      have hi := Hi.out
      refine bodyPost_ret (v := sv (PD d i) (5 + g * r + k) true) ?_ rfl ⟨by rw [hi, Int.add_assoc], ?_⟩
      · simp [results, Tryz.results127, go_sem, c1, c2]
      · exact (hB.setCell (by simp) _).setCell (by simp) _

end Go.Proofs.YtacnhlmhibhlhaaGreat

/-
  Block as the document has it, by counting.
-/
namespace Go.Proofs.YtacnhlmhibhlhaaGreat
open Go.RowKit

theorem Bx.set {w : World} {b b' o : Nat} {d r s : Int} (h : Bx w b d r s) (hne : b' ≠ b) (u : Value) : Bx (w.setCell ⟨b', o, none⟩ u) b d r s :=
  ⟨by simpa [World.setCell] using h.lt, (World.cell?_setCell_far w ⟨b', o, none⟩ ⟨b, 0, none⟩ u hne).trans h.c0, (World.cell?_setCell_far w ⟨b', o, none⟩ ⟨b, 1, none⟩ u hne).trans h.c1, (World.cell?_setCell_far w ⟨b', o, none⟩ ⟨b, 2, none⟩ u hne).trans h.c2⟩
/-- A spot lies in block b, and its cells may be written. -/
structure Fx (w : World) (b : Nat) (x y : Int) : Prop where
  row : ∃ t, w.heap[b]? = some (.cells #[.int .i64 x, .int .i64 y] t (0, 0))
theorem Fx.lt {w : World} {b : Nat} {x y : Int} (h : Fx w b x y) : b < w.heap.size := by obtain ⟨t, ht⟩ := h.row; exact lt_of_block ht
theorem Fx.c0 {w : World} {b : Nat} {x y : Int} (h : Fx w b x y) : w.cell? ⟨b, 0, none⟩ = some (.int .i64 x) := by obtain ⟨t, ht⟩ := h.row; rw [cell_of_row w b 0 _ _ (0, 0) ht]; rfl
theorem Fx.c1 {w : World} {b : Nat} {x y : Int} (h : Fx w b x y) : w.cell? ⟨b, 1, none⟩ = some (.int .i64 y) := by obtain ⟨t, ht⟩ := h.row; rw [cell_of_row w b 1 _ _ (0, 0) ht]; rfl
theorem Fx.f0 {w : World} {b : Nat} {x y : Int} (h : Fx w b x y) : w.frozen? ⟨b, 0, none⟩ = false := by obtain ⟨t, ht⟩ := h.row; exact frozen_of_row w b 0 _ _ ht
theorem Fx.f1 {w : World} {b : Nat} {x y : Int} (h : Fx w b x y) : w.frozen? ⟨b, 1, none⟩ = false := by obtain ⟨t, ht⟩ := h.row; exact frozen_of_row w b 1 _ _ ht
theorem Fx.set {w : World} {b : Nat} {x y : Int} (h : Fx w b x y) (z : Int) : Fx (w.setCell ⟨b, 0, none⟩ (.int .i64 z)) b z y := by
  obtain ⟨t, ht⟩ := h.row
  exact ⟨t, heap_setCell_same w b 0 _ _ _ ht⟩
theorem Fx.new (w : World) (x y : Int) (t : TypeId) : Fx (w.alloc (.cells #[.int .i64 x, .int .i64 y] t (0, 0))) w.heap.size x y := ⟨t, (MapKept.heap_alloc w _).1⟩
theorem Fx.far {w : World} {b b' o : Nat} {x y : Int} (h : Fx w b x y) (hne : b ≠ b') (u : Value) : Fx (w.setCell ⟨b', o, none⟩ u) b x y := by
  obtain ⟨t, ht⟩ := h.row
  exact ⟨t, (Below.heap_setCell w ⟨b', o, none⟩ u b hne).trans ht⟩
theorem Fx.below {w w' : World} {b B : Nat} {x y : Int} (h : Fx w b x y) (hb : Below B w w') (hB : w.heap.size ≤ B) : Fx w' b x y := by
  have hl := h.lt
  obtain ⟨t, ht⟩ := h.row
  exact ⟨t, (hb.block b (Nat.lt_of_lt_of_le hl hB)).trans ht⟩
theorem two' (w : World) (d r s : Int) (t t' : TypeId) :
    Bx ((w.alloc (.cells #[.int .i64 d, .int .i64 r, .int .i64 s] t (0, 0))).alloc (.cells #[.int .i64 0, .int .i64 0] t' (0, 0))) w.heap.size d r s ∧ Fx ((w.alloc (.cells #[.int .i64 d, .int .i64 r, .int .i64 s] t (0, 0))).alloc (.cells #[.int .i64 0, .int .i64 0] t' (0, 0))) (w.heap.size + 1) 0 0 := by
  refine ⟨(Bx.mk' w d r s t).alloc _, ?_⟩
  have := Fx.new (w.alloc (.cells #[.int .i64 d, .int .i64 r, .int .i64 s] t (0, 0))) 0 0 t'
  simpa using this

set_option maxHeartbeats 1000000 in
theorem rblock_out (d r s g k : Int) (w : World) (h : ¬ Rt d r s) :
    Calls Tryz.prog 90 #[gv d r s, .int .i64 g, .int .i64 k] w fun e w' => e = .returned (sv 0 0 false) ∧ Below w.heap.size w w' := by
  obtain ⟨hx, hs'⟩ := two' w d r s 33 150
  go_enter Tryz.func90, Tryz.ntmps90
  go_wp2_with (fail)
  with_reducible refine (rright_no d r s _ h).mono ?_
  rintro e w2 ⟨rfl, hb⟩
  have hB2 := bel_two _ _ (by simp; omega) hb
  have s2 := hs'.below hb (Nat.le_refl _)
  have x2 := hx.next hb
  clear hb hx hs'
  have y1 := x2.c0
  have y2 := x2.c1
  have y3 := x2.c2
  have c1 := s2.c0
  have c2 := s2.c1
  have f1 := s2.f0
  have f2 := s2.f1
  go_wp2_with (fail)
  refine bodyPost_ret (v := sv 0 0 false) ?_ rfl ⟨rfl, ?_⟩
  · simp [results, Tryz.results90, go_sem, c1, c2]
  · exact (hB2.setCell (by simp) _).setCell (by simp) _
set_option maxHeartbeats 1000000 in
theorem rblock_klow (d r s g k : Int) (w : World) (h : Rt d r s) (hk : k < 0) :
    Calls Tryz.prog 90 #[gv d r s, .int .i64 g, .int .i64 k] w fun e w' => e = .returned (sv 0 0 false) ∧ Below w.heap.size w w' := by
  obtain ⟨hx, hs'⟩ := two' w d r s 33 150
  go_enter Tryz.func90, Tryz.ntmps90
  go_wp2_with (fail)
  with_reducible refine (rright_yes d r s _ h).mono ?_
  rintro e w2 ⟨rfl, hb⟩
  have hB2 := bel_two _ _ (by simp; omega) hb
  have s2 := hs'.below hb (Nat.le_refl _)
  have x2 := hx.next hb
  clear hb hx hs'
  have y1 := x2.c0
  have y2 := x2.c1
  have y3 := x2.c2
  have c1 := s2.c0
  have c2 := s2.c1
  have f1 := s2.f0
  have f2 := s2.f1
  go_wp2_with (fail)
  refine bodyPost_ret (v := sv 0 0 false) ?_ rfl ⟨rfl, ?_⟩
  · simp [results, Tryz.results90, go_sem, c1, c2]
  · exact (hB2.setCell (by simp) _).setCell (by simp) _
set_option maxHeartbeats 1000000 in
theorem rblock_khigh (d r s g k : Int) (w : World) (h : Rt d r s) (hk : PL d r < k) :
    Calls Tryz.prog 90 #[gv d r s, .int .i64 g, .int .i64 k] w fun e w' => e = .returned (sv 0 0 false) ∧ Below w.heap.size w w' := by
  obtain ⟨hx, hs'⟩ := two' w d r s 33 150
  have p1 := PL_bd h.d1 h.d2 h.r1 h.r2
  have g2 : decide (k < 0) = false := decide_eq_false (by omega)
  go_enter Tryz.func90, Tryz.ntmps90
  go_wp2_with (fail)
  with_reducible refine (rright_yes d r s _ h).mono ?_
  rintro e w2 ⟨rfl, hb⟩
  have hB2 := bel_two _ _ (by simp; omega) hb
  have s2 := hs'.below hb (Nat.le_refl _)
  have x2 := hx.next hb
  clear hb hx hs'
  have y1 := x2.c0
  have y2 := x2.c1
  have y3 := x2.c2
  have c1 := s2.c0
  have c2 := s2.c1
  have f1 := s2.f0
  have f2 := s2.f1
  go_wp2_with (fail)
  with_reducible refine (rplaces_yes d r s _ h).mono ?_
  rintro e w3 ⟨rfl, hb3⟩
  have s3 := s2.below hb3 (Nat.le_refl _)
  have hB3 := hB2.trans (hb3.mono (Nat.le_of_lt x2.lt))
  clear y1 y2 y3 c1 c2 f1 f2 hb3
  have c1 := s3.c0
  have c2 := s3.c1
  have f1 := s3.f0
  have f2 := s3.f1
  go_wp2_with (fail)
  refine bodyPost_ret (v := sv 0 0 false) ?_ rfl ⟨rfl, ?_⟩
  · simp [results, Tryz.results90, go_sem, c1, c2]
  · exact (hB3.setCell (by simp) _).setCell (by simp) _
theorem rparity_at (d r s g k P Q : Int) (w : World) (h : Sg d r s g) (k0 : 0 ≤ k) (k1 : k < r) (hP : P = PD d (g * r + k)) (hQ : Q = 5 + (g * r + k)) :
    Calls Tryz.prog 127 #[gv d r s, .int .i64 g, .int .i64 k] w fun e w' => e = .returned (sv P Q true) ∧ Below w.heap.size w w' := by
  rw [hP, hQ]
  exact rparity_yes d r s g k w h k0 k1
theorem row_of {d k c : Int} {j : Nat} (d1 : 3 ≤ d) (h : c + j * (d - 1) = k) (c0 : 0 ≤ c) (c1 : c < d - 1) : (j : Int) = k / (d - 1) ∧ c = k % (d - 1) := by
  rw [← h]
  exact ⟨by rw [Int.add_mul_ediv_right _ _ (by omega), Int.ediv_eq_zero_of_lt c0 c1]; omega, by rw [Int.add_mul_emod_self_right, Int.emod_eq_of_lt c0 c1]⟩
theorem row_lt {d r k : Int} (d1 : 3 ≤ d) (k1 : k ≤ PL d r) : k / (d - 1) < r :=
  Int.ediv_lt_of_lt_mul (by omega) (by unfold PL at k1; omega)

set_option maxHeartbeats 2000000 in
theorem rblock_off (d r s g k : Int) (w : World) (h : Rt d r s) (hoff : ¬ Sg d r s g) (k0 : 0 ≤ k) (k1 : k ≤ PL d r) :
    Calls Tryz.prog 90 #[gv d r s, .int .i64 g, .int .i64 k] w fun e w' => e = .returned (sv 0 0 false) ∧ Below w.heap.size w w' := by
  have p1 := PL_bd h.d1 h.d2 h.r1 h.r2
  have d1 := h.d1
  have d2 := h.d2
  have g2 : decide (k < 0) = false := decide_eq_false (by omega)
  have g3 : decide (PL d r < k) = false := decide_eq_false (by omega)
  obtain ⟨hx, hs'⟩ := two' w d r s 33 150
  go_enter Tryz.func90, Tryz.ntmps90
  go_wp2_with (fail)
  with_reducible refine (rright_yes d r s _ h).mono ?_
  rintro e w2 ⟨rfl, hb⟩
  have hB2 := bel_two _ _ (by simp; omega) hb
  have s2 := hs'.below hb (Nat.le_refl _)
  have x2 := hx.next hb
  clear hb hx hs'
  have y1 := x2.c0
  have y2 := x2.c1
  have y3 := x2.c2
  go_wp2_with (fail)
  with_reducible refine (rplaces_yes d r s _ h).mono ?_
  rintro e w3 ⟨rfl, hb3⟩
  have s3 := s2.below hb3 (Nat.le_refl _)
  have x3 := x2.next hb3
  have hB3 := hB2.trans (hb3.mono (Nat.le_of_lt x2.lt))
  clear y1 y2 y3 hb3 s2 hB2 x2
  have y1 := x3.c0
  have y2 := x3.c1
  have y3 := x3.c2
  go_wp2_with (fail)
  go_loop [2, 8] (fun u v => ∃ (j : Nat) (c : Int), c + j * (d - 1) = k ∧ 0 ≤ c ∧ c + 2 * j ≤ k ∧ u = .int .i64 c ∧ v = .int .i64 j) (fun u _ => (RowKit.intOf u).toNat)
  case atStart => exact ⟨0, k, by omega, by omega, by omega, rfl, rfl⟩
  case round =>
    obtain ⟨j, c, hk, j0, j1, rfl, rfl⟩ := hrel
    have Hk := Lib.hid hk
    clear hk
    by_cases hlt : d - 1 ≤ c
    · go_wp2_with (fail)
      go_round
      case rel => exact ⟨j + 1, c - (d - 1), by have := Hk.out; rw [show ((j + 1 : Nat) : Int) = (j : Int) + 1 by simp, Int.add_mul, Int.one_mul]; omega, by omega, by omega, rfl, by go_num⟩
      case measure => simp [RowKit.intOf]; omega
    · obtain ⟨r1, r2⟩ := row_of d1 Hk.out j0 (by omega)
      have R1 := Lib.hid r1
      have R2 := Lib.hid r2
      have rl := row_lt d1 k1
      rw [← r1] at rl
      clear r1 r2
      go_wp2_with (fail)
      with_reducible refine (rparity_no d r s g j _ (fun q => absurd q.1 hoff)).mono ?_
      rintro e w4 ⟨rfl, hb4⟩
      have s4 := s3.below hb4 (Nat.le_refl _)
      have hB4 := hB3.trans (hb4.mono (Nat.le_of_lt x3.lt))
      have s5 := s4.below ((Below.refl _ _).alloc (Nat.le_refl _) (.cells #[.int .i64 0, .int .i64 0] 150 (0, 0))) (Nat.le_refl _)
      have hB5 := hB4.alloc (by have := x3.lt; have := hb4.size; omega) (.cells #[.int .i64 0, .int .i64 0] 150 (0, 0))
      have c1 := s5.c0
      have c2 := s5.c1
      have f1 := s5.f0
      have f2 := s5.f1
      go_wp2_with (fail)
      refine bodyPost_ret (v := sv 0 0 false) ?_ rfl ⟨rfl, ?_⟩
      · simp [results, Tryz.results90, go_sem, c1, c2]
      · exact (hB5.setCell (by simp) _).setCell (by simp) _

set_option maxHeartbeats 2000000 in
theorem rblock_yes (d r s g k : Int) (w : World) (hs : Sg d r s g) (k0 : 0 ≤ k) (k1 : k ≤ PL d r) :
    Calls Tryz.prog 90 #[gv d r s, .int .i64 g, .int .i64 k] w fun e w' => e = .returned (sv (BD d (g * r + k / (d - 1)) (k % (d - 1))) (5 + (g * r + k / (d - 1))) true) ∧ Below w.heap.size w w' := by
  have h := hs.toRt
  have p1 := PL_bd h.d1 h.d2 h.r1 h.r2
  have d1 := h.d1
  have d2 := h.d2
  have g2 : decide (k < 0) = false := decide_eq_false (by omega)
  have g3 : decide (PL d r < k) = false := decide_eq_false (by omega)
  obtain ⟨hx, hs'⟩ := two' w d r s 33 150
  go_enter Tryz.func90, Tryz.ntmps90
  go_wp2_with (fail)
  with_reducible refine (rright_yes d r s _ h).mono ?_
  rintro e w2 ⟨rfl, hb⟩
  have hB2 := bel_two _ _ (by simp; omega) hb
  have s2 := hs'.below hb (Nat.le_refl _)
  have x2 := hx.next hb
  clear hb hx hs'
  have y1 := x2.c0
  have y2 := x2.c1
  have y3 := x2.c2
  go_wp2_with (fail)
  with_reducible refine (rplaces_yes d r s _ h).mono ?_
  rintro e w3 ⟨rfl, hb3⟩
  have s3 := s2.below hb3 (Nat.le_refl _)
  have x3 := x2.next hb3
  have hB3 := hB2.trans (hb3.mono (Nat.le_of_lt x2.lt))
  clear y1 y2 y3 hb3 s2 hB2 x2
  have y1 := x3.c0
  have y2 := x3.c1
  have y3 := x3.c2
  go_wp2_with (fail)
  go_loop [2, 8] (fun u v => ∃ (j : Nat) (c : Int), c + j * (d - 1) = k ∧ 0 ≤ c ∧ c + 2 * j ≤ k ∧ u = .int .i64 c ∧ v = .int .i64 j) (fun u _ => (RowKit.intOf u).toNat)
  case atStart => exact ⟨0, k, by omega, by omega, by omega, rfl, rfl⟩
  case round =>
    obtain ⟨j, c, hk, j0, j1, rfl, rfl⟩ := hrel
    have Hk := Lib.hid hk
    clear hk
    by_cases hlt : d - 1 ≤ c
    · go_wp2_with (fail)
      go_round
      case rel => exact ⟨j + 1, c - (d - 1), by have := Hk.out; rw [show ((j + 1 : Nat) : Int) = (j : Int) + 1 by simp, Int.add_mul, Int.one_mul]; omega, by omega, by omega, rfl, by go_num⟩
      case measure => simp [RowKit.intOf]; omega
    · obtain ⟨r1, r2⟩ := row_of d1 Hk.out j0 (by omega)
      have R1 := Lib.hid r1
      have R2 := Lib.hid r2
      have rl := row_lt d1 k1
      rw [← r1] at rl
      clear r1 r2
      go_wp2_with (fail)
      obtain ⟨P, hP⟩ : ∃ P, P = PD d (g * r + j) := ⟨_, rfl⟩
      obtain ⟨Q, hQ⟩ : ∃ Q, Q = 5 + (g * r + j) := ⟨_, rfl⟩
      obtain ⟨b1, b2⟩ := PD_bd (q := g * r + j) d1
      rw [← hP] at b1 b2
      have HP := Lib.hid hP
      have HQ := Lib.hid hQ
      clear hP hQ
      refine (rparity_at d r s g j P Q _ hs (by omega) rl HP.out HQ.out).mono ?_
      rintro e w4 ⟨rfl, hb4⟩
      have s4 := s3.below hb4 (Nat.le_refl _)
      have x4 := x3.next hb4
      have hB4 := hB3.trans (hb4.mono (Nat.le_of_lt x3.lt))
      have x5 := x4.alloc (.cells #[.int .i64 P, .int .i64 Q] 150 (0, 0))
      have s5 := s4.below ((Below.refl _ _).alloc (Nat.le_refl _) (.cells #[.int .i64 P, .int .i64 Q] 150 (0, 0))) (Nat.le_refl _)
      have z5 := Fx.new w4 P Q 150
      have hB5 := hB4.alloc (Nat.le_of_lt x4.lt) (.cells #[.int .i64 P, .int .i64 Q] 150 (0, 0))
      have n1 : w4.heap.size ≠ w.heap.size := Nat.ne_of_gt x4.lt
      have n2 : w.heap.size + 1 ≠ w4.heap.size := Nat.ne_of_lt s4.lt
      have n3 : w.heap.size ≤ w4.heap.size := Nat.le_of_lt x4.lt
      clear y1 y2 y3 x3 s3 s4 x4 hB3 hB4 hb4
      go_wp2_with (fail)
      go_loopw [11] (fun v wr => ∃ i : Nat, (i : Int) ≤ c + 1 ∧ v = .int .i64 i ∧ Bx wr w.heap.size d r s ∧ Fx wr w4.heap.size ((P + i) % d) Q ∧ Fx wr (w.heap.size + 1) 0 0 ∧ Below w.heap.size w wr) (fun v _ => (c + 1 - RowKit.intOf v).toNat)
      case atStart => exact ⟨0, by omega, rfl, x5, by rw [show P + ((0 : Nat) : Int) = P by simp, Int.emod_eq_of_lt b1 b2]; exact z5, s5, hB5⟩
      case round =>
        obtain ⟨i, i1, rfl, x6, z6, s6, hB6⟩ := hrel
        clear x5 z5 s5 hB5
        have hv1 := Int.emod_nonneg (P + (i : Int)) (show d ≠ 0 by omega)
        have hv2 := Int.emod_lt_of_pos (P + (i : Int)) (show 0 < d by omega)
        have hv3 := emod_succ (i := P + (i : Int)) (d := d) (by omega)
        obtain ⟨v, hv⟩ : ∃ v, v = (P + (i : Int)) % d := ⟨_, rfl⟩
        rw [← hv] at hv1 hv2 hv3 z6
        have Hv := Lib.hid hv
        clear hv
        by_cases hlt : (i : Int) ≤ c
        · have y1 := z6.c0
          have y2 := z6.f0
          have z7 := z6.set (v + 1)
          have x7 := x6.set (o := 0) n1 (.int .i64 (v + 1))
          have s7 := s6.far (o := 0) n2 (.int .i64 (v + 1))
          have hB7 := hB6.setCell (p := ⟨w4.heap.size, 0, none⟩) n3 (.int .i64 (v + 1))
          have t1 := z7.c0
          have t2 := z7.f0
          have t3 := x7.c0
          by_cases hz : v = d - 1
          · have e1 : (v + 1 == d) = true := by simp; omega
            rw [if_pos hz] at hv3
            have Hv3 := Lib.hid hv3
            clear hv3 hz
            go_wp2_with (fail)
            go_roundw
            case rel => exact ⟨i + 1, by omega, by go_num, x7.set n1 _, by rw [show P + ((i + 1 : Nat) : Int) = P + (i : Int) + 1 by simp; omega, Hv3.out]; exact z7.set 0, s7.far n2 _, hB7.setCell (p := ⟨w4.heap.size, 0, none⟩) n3 _⟩
            case measure => simp [RowKit.intOf]; omega
          · have e1 : (v + 1 == d) = false := by simp; omega
            rw [if_neg hz] at hv3
            have Hv3 := Lib.hid hv3
            clear hv3 hz
            go_wp2_with (fail)
            go_roundw
            case rel => exact ⟨i + 1, by omega, by go_num, x7, by rw [show P + ((i + 1 : Nat) : Int) = P + (i : Int) + 1 by simp; omega, Hv3.out]; exact z7, s7, hB7⟩
            case measure => simp [RowKit.intOf]; omega
        · have hi : (i : Int) = c + 1 := by omega
          have Hi := Lib.hid hi
          have y1 := z6.c0
          have y2 := z6.c1
          have c1 := s6.c0
          have c2 := s6.c1
          have f1 := s6.f0
          have f2 := s6.f1
          clear hi hv3
          go_wp2_with (fail)
          refine bodyPost_ret (v := sv v Q true) ?_ rfl ⟨?_, ?_⟩
          · simp [results, Tryz.results90, go_sem, c1, c2]
          · rw [Hv.out, HP.out, HQ.out, Hi.out, R1.out, R2.out]
            unfold BD
            rw [Int.add_assoc (PD _ _) 1, Int.add_comm 1]
          · exact (hB6.setCell (by simp) _).setCell (by simp) _

end Go.Proofs.YtacnhlmhibhlhaaGreat
