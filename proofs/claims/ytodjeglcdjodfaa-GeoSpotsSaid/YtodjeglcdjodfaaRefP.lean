/-
  Parity and Block as the document has them, by counting.
-/
import Derived.Test.YtodjeglcdjodfaaRefA
namespace Go.Proofs.Ytodjeglcdjodfaa
open Go.RowKit

theorem emod_succ {i d : Int} (hd : 0 < d) : (i + 1) % d = if i % d = d - 1 then 0 else i % d + 1 := by
  have a := Int.emod_nonneg i (show d ≠ 0 by omega)
  have b := Int.emod_lt_of_pos i hd
  have e : (i + 1) % d = (i % d + 1) % d := by rw [Int.emod_add_emod]
  rw [e]
  split
  · next h => rw [h, show d - 1 + 1 = d by omega, Int.emod_self]
  · next h => exact Int.emod_eq_of_lt (by omega) (by omega)
theorem PD_succ {d i : Int} (hd : 3 ≤ d) : PD d (i + 1) = if PD d i = 0 then d - 1 else PD d i - 1 := by
  unfold PD
  rw [emod_succ (by omega)]
  by_cases h : i % d = d - 1
  · rw [if_pos h, if_pos (by omega)]; omega
  · rw [if_neg h, if_neg (by omega)]; omega

set_option maxHeartbeats 1000000 in
theorem rparity_out (d r s g k : Int) (w : World) (h : ¬ Rt d r s) :
    Calls Try.prog 23 #[gv d r s, .int .i64 g, .int .i64 k] w fun e w' => e = .returned (sv 0 0 false) ∧ Below w.heap.size w w' := by
  obtain ⟨hx, hs'⟩ := two w d r s 23 30
  go_enter Try.func23, Try.ntmps23
  go_wp2_with (fail)
  with_reducible refine (rright_no d r s _ h).mono ?_
  rintro e w2 ⟨rfl, hb⟩
  have hB := bel_two _ _ (by simp; omega) hb
  have s2 := hs'.next hb
  have x2 := hx.next hb
  clear hb hx hs'
  have y1 := x2.c0
  have y2 := x2.c1
  have y3 := x2.c2
  obtain ⟨_, ⟨v1, c1⟩, ⟨v2, c2⟩, f1, f2⟩ := s2
  go_wp2_with (fail)
  refine bodyPost_ret (v := sv 0 0 false) ?_ rfl ⟨rfl, ?_⟩
  · simp [results, Try.results23, go_sem, c1, c2]
  · exact (hB.setCell (by simp) _).setCell (by simp) _
set_option maxHeartbeats 1000000 in
theorem rparity_glow (d r s g k : Int) (w : World) (h : Rt d r s) (hg : g < 0) :
    Calls Try.prog 23 #[gv d r s, .int .i64 g, .int .i64 k] w fun e w' => e = .returned (sv 0 0 false) ∧ Below w.heap.size w w' := by
  obtain ⟨hx, hs'⟩ := two w d r s 23 30
  go_enter Try.func23, Try.ntmps23
  go_wp2_with (fail)
  with_reducible refine (rright_yes d r s _ h).mono ?_
  rintro e w2 ⟨rfl, hb⟩
  have hB := bel_two _ _ (by simp; omega) hb
  have s2 := hs'.next hb
  have x2 := hx.next hb
  clear hb hx hs'
  have y1 := x2.c0
  have y2 := x2.c1
  have y3 := x2.c2
  obtain ⟨_, ⟨v1, c1⟩, ⟨v2, c2⟩, f1, f2⟩ := s2
  go_wp2_with (fail)
  refine bodyPost_ret (v := sv 0 0 false) ?_ rfl ⟨rfl, ?_⟩
  · simp [results, Try.results23, go_sem, c1, c2]
  · exact (hB.setCell (by simp) _).setCell (by simp) _
set_option maxHeartbeats 1000000 in
theorem rparity_ghigh (d r s g k : Int) (w : World) (h : Rt d r s) (hg : s ≤ g) :
    Calls Try.prog 23 #[gv d r s, .int .i64 g, .int .i64 k] w fun e w' => e = .returned (sv 0 0 false) ∧ Below w.heap.size w w' := by
  obtain ⟨hx, hs'⟩ := two w d r s 23 30
  have s1 := h.s1
  have g1 : decide (g < 0) = false := decide_eq_false (by omega)
  go_enter Try.func23, Try.ntmps23
  go_wp2_with (fail)
  with_reducible refine (rright_yes d r s _ h).mono ?_
  rintro e w2 ⟨rfl, hb⟩
  have hB := bel_two _ _ (by simp; omega) hb
  have s2 := hs'.next hb
  have x2 := hx.next hb
  clear hb hx hs'
  have y1 := x2.c0
  have y2 := x2.c1
  have y3 := x2.c2
  obtain ⟨_, ⟨v1, c1⟩, ⟨v2, c2⟩, f1, f2⟩ := s2
  go_wp2_with (fail)
  refine bodyPost_ret (v := sv 0 0 false) ?_ rfl ⟨rfl, ?_⟩
  · simp [results, Try.results23, go_sem, c1, c2]
  · exact (hB.setCell (by simp) _).setCell (by simp) _
set_option maxHeartbeats 1000000 in
theorem rparity_klow (d r s g k : Int) (w : World) (h : Sg d r s g) (hk : k < 0) :
    Calls Try.prog 23 #[gv d r s, .int .i64 g, .int .i64 k] w fun e w' => e = .returned (sv 0 0 false) ∧ Below w.heap.size w w' := by
  obtain ⟨hx, hs'⟩ := two w d r s 23 30
  have g0 := h.g0
  have g1 := h.g1
  have g2 : decide (g < 0) = false := decide_eq_false (by omega)
  have g3 : decide (s ≤ g) = false := decide_eq_false (by omega)
  go_enter Try.func23, Try.ntmps23
  go_wp2_with (fail)
  with_reducible refine (rright_yes d r s _ h.toRt).mono ?_
  rintro e w2 ⟨rfl, hb⟩
  have hB := bel_two _ _ (by simp; omega) hb
  have s2 := hs'.next hb
  have x2 := hx.next hb
  clear hb hx hs'
  have y1 := x2.c0
  have y2 := x2.c1
  have y3 := x2.c2
  obtain ⟨_, ⟨v1, c1⟩, ⟨v2, c2⟩, f1, f2⟩ := s2
  go_wp2_with (fail)
  refine bodyPost_ret (v := sv 0 0 false) ?_ rfl ⟨rfl, ?_⟩
  · simp [results, Try.results23, go_sem, c1, c2]
  · exact (hB.setCell (by simp) _).setCell (by simp) _
set_option maxHeartbeats 1000000 in
theorem rparity_khigh (d r s g k : Int) (w : World) (h : Sg d r s g) (hk : r ≤ k) :
    Calls Try.prog 23 #[gv d r s, .int .i64 g, .int .i64 k] w fun e w' => e = .returned (sv 0 0 false) ∧ Below w.heap.size w w' := by
  obtain ⟨hx, hs'⟩ := two w d r s 23 30
  have g0 := h.g0
  have g1 := h.g1
  have r1 := h.r1
  have g2 : decide (g < 0) = false := decide_eq_false (by omega)
  have g3 : decide (s ≤ g) = false := decide_eq_false (by omega)
  have g4 : decide (k < 0) = false := decide_eq_false (by omega)
  go_enter Try.func23, Try.ntmps23
  go_wp2_with (fail)
  with_reducible refine (rright_yes d r s _ h.toRt).mono ?_
  rintro e w2 ⟨rfl, hb⟩
  have hB := bel_two _ _ (by simp; omega) hb
  have s2 := hs'.next hb
  have x2 := hx.next hb
  clear hb hx hs'
  have y1 := x2.c0
  have y2 := x2.c1
  have y3 := x2.c2
  obtain ⟨_, ⟨v1, c1⟩, ⟨v2, c2⟩, f1, f2⟩ := s2
  go_wp2_with (fail)
  refine bodyPost_ret (v := sv 0 0 false) ?_ rfl ⟨rfl, ?_⟩
  · simp [results, Try.results23, go_sem, c1, c2]
  · exact (hB.setCell (by simp) _).setCell (by simp) _
theorem rparity_no (d r s g k : Int) (w : World) (h : ¬ (Sg d r s g ∧ 0 ≤ k ∧ k < r)) :
    Calls Try.prog 23 #[gv d r s, .int .i64 g, .int .i64 k] w fun e w' => e = .returned (sv 0 0 false) ∧ Below w.heap.size w w' := by
  by_cases hr : Rt d r s
  · by_cases g0 : 0 ≤ g
    · by_cases g1 : g < s
      · by_cases k0 : 0 ≤ k
        · exact rparity_khigh d r s g k w ⟨hr, g0, g1⟩ (by
            by_cases k1 : k < r
            · exact absurd ⟨⟨hr, g0, g1⟩, k0, k1⟩ h
            · omega)
        · exact rparity_klow d r s g k w ⟨hr, g0, g1⟩ (by omega)
      · exact rparity_ghigh d r s g k w hr (by omega)
    · exact rparity_glow d r s g k w hr (by omega)
  · exact rparity_out d r s g k w hr

set_option maxHeartbeats 1000000 in
theorem rparity_yes (d r s g k : Int) (w : World) (h : Sg d r s g) (k0 : 0 ≤ k) (k1 : k < r) :
    Calls Try.prog 23 #[gv d r s, .int .i64 g, .int .i64 k] w fun e w' => e = .returned (sv (PD d (g * r + k)) (5 + (g * r + k)) true) ∧ Below w.heap.size w w' := by
  obtain ⟨m1, m2⟩ := gr_bd h
  have d1 := h.d1
  have d2 := h.d2
  have g0 := h.g0
  have g1 := h.g1
  have r2 := h.r2
  have q2 : decide (g < 0) = false := decide_eq_false (by omega)
  have q3 : decide (s ≤ g) = false := decide_eq_false (by omega)
  have q4 : decide (k < 0) = false := decide_eq_false (by omega)
  have q5 : decide (r ≤ k) = false := decide_eq_false (by omega)
  obtain ⟨hx, hs'⟩ := two w d r s 23 30
  go_enter Try.func23, Try.ntmps23
  go_wp2_with (fail)
  with_reducible refine (rright_yes d r s _ h.toRt).mono ?_
  rintro e w2 ⟨rfl, hb⟩
  have hB := bel_two _ _ (by simp; omega) hb
  have s2 := hs'.next hb
  have x2 := hx.next hb
  clear hb hx hs'
  have y1 := x2.c0
  have y2 := x2.c1
  have y3 := x2.c2
  go_wp2_with (fail)
  go_loop [8, 9] (fun u v => ∃ i : Nat, (i : Int) ≤ g * r + k ∧ v = .int .i64 i ∧ u = .int .i64 (PD d i)) (fun _ v => (g * r + k - intOf v).toNat)
  case atStart => exact ⟨0, by omega, rfl, by simp [PD]⟩
  case round =>
    obtain ⟨i, i1, rfl, rfl⟩ := hrel
    have hp := PD_succ (d := d) (i := i) d1
    obtain ⟨b1, b2⟩ := PD_bd (q := (i : Int)) d1
    have Hp := Lib.hid hp
    clear hp
    by_cases hlt : (i : Int) < g * r + k
    · by_cases hz : PD d i = 0
      · have e1 : decide (PD d i - 1 < 0) = true := by simp; omega
        have Hz := Lib.hid hz
        clear hz
        go_wp2_with (fail)
        go_round
        case rel => exact ⟨i + 1, by omega, by go_num, by have := Hp.out; rw [if_pos Hz.out] at this; rw [show ((i + 1 : Nat) : Int) = (i : Int) + 1 by simp, this]⟩
        case measure => simp [intOf]; omega
      · have e1 : decide (PD d i - 1 < 0) = false := by simp; omega
        have Hz := Lib.hid hz
        clear hz
        go_wp2_with (fail)
        go_round
        case rel => exact ⟨i + 1, by omega, by go_num, by have := Hp.out; rw [if_neg Hz.out] at this; rw [show ((i + 1 : Nat) : Int) = (i : Int) + 1 by simp, this]⟩
        case measure => simp [intOf]; omega
    · have hi : (i : Int) = g * r + k := by omega
      have Hi := Lib.hid hi
      clear hi
      obtain ⟨_, ⟨v1, c1⟩, ⟨v2, c2⟩, f1, f2⟩ := s2
      go_wp2_with (fail)
      have hi := Hi.out
      refine bodyPost_ret (v := sv (PD d i) (5 + g * r + k) true) ?_ rfl ⟨by rw [hi, Int.add_assoc], ?_⟩
      · simp [results, Try.results23, go_sem, c1, c2]
      · exact (hB.setCell (by simp) _).setCell (by simp) _

end Go.Proofs.Ytodjeglcdjodfaa
