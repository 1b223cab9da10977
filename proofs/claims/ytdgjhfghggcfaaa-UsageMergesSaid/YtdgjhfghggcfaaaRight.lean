/-
  Right: whether a geometry is right.
-/
import Derived.Test.YtdgjhfghggcfaaaGeo
namespace Go.Proofs.Ytdgjhfghggcfaaa
open Go.RowKit

set_option maxHeartbeats 400000 in
theorem right_bd (d r s : Int) (w : World) (h : Bd d r s) :
    Calls Try.prog 23 #[gv d r s] w fun e w' => e = .returned (.bool (decide (8 ≤ QC s * PL d r))) ∧ Below w.heap.size w w' := by
  obtain ⟨p1, p2, p3, p4⟩ := PL_bd h.d1 h.d2 h.r1 h.r2
  obtain ⟨q1, q2⟩ := QP_bd h
  obtain ⟨d1, d2, r1, r2, s1, s2⟩ := h
  have ew : IntKind.i64.wrap (QC s * PL d r) = QC s * PL d r := IntWalk.i64_in _ (by omega)
  clear p1 p2 p3 p4 q1 q2
  go_enter Try.func23, Try.ntmps23
  go_wp2_with (fail)
  go_region_held3 (fun w' => w'.cell? ⟨w.heap.size, 0, none⟩ = some (.int .i64 d) ∧ w'.cell? ⟨w.heap.size, 1, none⟩ = some (.int .i64 r) ∧ w'.cell? ⟨w.heap.size, 2, none⟩ = some (.int .i64 s))
    (first | go_keep | fail "keep")
    (first | (go_at_call 35
              refine (within_yes _ _ _ _ (by omega) (by omega)).mono ?_
              rintro e w2 ⟨rfl, rfl⟩)
           | (go_at_call 34
              refine (otherCap_any d r s _ s1 s2).mono ?_
              rintro e w2 ⟨rfl, hb⟩
              have hz : w.heap.size < w2.heap.size := size_box _ hb
              obtain ⟨hc, hf⟩ := bcell hb)
           | (go_at_call 33
              refine (placesS_any d r s _ d1 d2 r1 r2).mono ?_
              rintro e w3 ⟨rfl, hb3⟩
              obtain ⟨hc, hf⟩ := bcell hb3))
  go_wp2_with (fail)
  go_ret
  exact ⟨rfl, (bel_box _ (by simp) hb).trans (hb3.mono (Nat.le_of_lt hz))⟩

theorem not_Bd {d r s : Int} (h : ¬ Bd d r s) : (d < 3 ∨ 16 < d) ∨ ((3 ≤ d ∧ d ≤ 16) ∧ (r < 1 ∨ 4 < r)) ∨ ((3 ≤ d ∧ d ≤ 16) ∧ (1 ≤ r ∧ r ≤ 4) ∧ (s < 12 ∨ 64 < s)) := by
  by_cases h1 : 3 ≤ d ∧ d ≤ 16
  · by_cases h2 : 1 ≤ r ∧ r ≤ 4
    · by_cases h3 : 12 ≤ s ∧ s ≤ 64
      · exact absurd ⟨h1.1, h1.2, h2.1, h2.2, h3.1, h3.2⟩ h
      · exact .inr (.inr ⟨h1, h2, by omega⟩)
    · exact .inr (.inl ⟨h1, by omega⟩)
  · exact .inl (by omega)

/-- Is a number within its bounds? -/
def inB (n a b : Int) : Bool := decide (a ≤ n ∧ n ≤ b)
theorem within_any (n a b : Int) (w : World) : Calls Try.prog 35 #[.int .i64 n, .int .i64 a, .int .i64 b] w fun e w' => e = .returned (.bool (inB n a b)) ∧ w' = w := by
  by_cases h : a ≤ n ∧ n ≤ b
  · rw [show inB n a b = true from decide_eq_true h]
    exact (within_yes n a b w h.1 h.2).mono fun _ _ h => ⟨h.1, h.2.symm⟩
  · rw [show inB n a b = false from decide_eq_false h]
    exact (within_no n a b w (by omega)).mono fun _ _ h => ⟨h.1, h.2.symm⟩
theorem inB_yes {n a b : Int} (h : a ≤ n ∧ n ≤ b) : inB n a b = true := decide_eq_true h
theorem inB_no {n a b : Int} (h : n < a ∨ b < n) : inB n a b = false := decide_eq_false (by omega)

set_option maxHeartbeats 400000 in
theorem right_outD (d r s : Int) (w : World) (e1 : inB d 3 16 = false) :
    Calls Try.prog 23 #[gv d r s] w fun e w' => e = .returned (.bool false) ∧ Below w.heap.size w w' := by
  go_enter Try.func23, Try.ntmps23
  go_wp2_with (fail)
  go_quiet ((go_at_call 35; exact Calls.quiet_of_same (within_any _ _ _ _)))
  go_wp2_with (fail)
  go_ret
  exact ⟨rfl, below_drewN ((Below.refl _ _).alloc (Nat.le_refl _) _) _⟩
set_option maxHeartbeats 400000 in
theorem right_outR (d r s : Int) (w : World) (e1 : inB d 3 16 = true) (e2 : inB r 1 4 = false) :
    Calls Try.prog 23 #[gv d r s] w fun e w' => e = .returned (.bool false) ∧ Below w.heap.size w w' := by
  go_enter Try.func23, Try.ntmps23
  go_wp2_with (fail)
  go_quiet ((go_at_call 35; exact Calls.quiet_of_same (within_any _ _ _ _)))
  go_wp2_with (fail)
  go_ret
  exact ⟨rfl, below_drewN ((Below.refl _ _).alloc (Nat.le_refl _) _) _⟩
set_option maxHeartbeats 400000 in
theorem right_outS (d r s : Int) (w : World) (e1 : inB d 3 16 = true) (e2 : inB r 1 4 = true) (e3 : inB s 12 64 = false) :
    Calls Try.prog 23 #[gv d r s] w fun e w' => e = .returned (.bool false) ∧ Below w.heap.size w w' := by
  go_enter Try.func23, Try.ntmps23
  go_wp2_with (fail)
  go_quiet ((go_at_call 35; exact Calls.quiet_of_same (within_any _ _ _ _)))
  go_wp2_with (fail)
  go_ret
  exact ⟨rfl, below_drewN ((Below.refl _ _).alloc (Nat.le_refl _) _) _⟩
theorem right_out (d r s : Int) (w : World) (h : ¬ Bd d r s) :
    Calls Try.prog 23 #[gv d r s] w fun e w' => e = .returned (.bool false) ∧ Below w.heap.size w w' := by
  rcases not_Bd h with h1 | ⟨h0, h1⟩ | ⟨h0, h00, h1⟩
  · exact right_outD d r s w (inB_no h1)
  · exact right_outR d r s w (inB_yes h0) (inB_no h1)
  · exact right_outS d r s w (inB_yes h0) (inB_yes h00) (inB_no h1)

theorem right_yes (d r s : Int) (w : World) (h : Rt d r s) : Calls Try.prog 23 #[gv d r s] w fun e w' => e = .returned (.bool true) ∧ Below w.heap.size w w' := by
  have := right_bd d r s w h.toBd
  rwa [decide_eq_true h.q] at this
theorem right_no (d r s : Int) (w : World) (h : ¬ Rt d r s) : Calls Try.prog 23 #[gv d r s] w fun e w' => e = .returned (.bool false) ∧ Below w.heap.size w w' := by
  by_cases hb : Bd d r s
  · have := right_bd d r s w hb
    rwa [decide_eq_false (fun q => h ⟨hb, q⟩)] at this
  · exact right_out d r s w hb

theorem bel_box' {w w2 : World} {B : Nat} (o : Obj) (hB : w.heap.size ≤ B) (hb : Below B (w.alloc o) w2) : Below w.heap.size w w2 :=
  ((Below.refl _ _).alloc (Nat.le_refl _) o).trans (hb.mono hB)
theorem size_box' {w w2 : World} {B : Nat} (o : Obj) (hb : Below B (w.alloc o) w2) : w.heap.size < w2.heap.size := by
  have := hb.size; simp at this; omega

set_option maxHeartbeats 1000000 in
theorem places_yes (d r s : Int) (w : World) (h : Rt d r s) : Calls Try.prog 21 #[gv d r s] w fun e w' => e = .returned (.int .i64 (PL d r)) ∧ Below w.heap.size w w' := by
  go_enter Try.func21, Try.ntmps21
  go_wp2_with (fail)
  with_reducible refine (right_yes d r s _ h).mono ?_
  rintro e w2 ⟨rfl, hb⟩
  have hz : w.heap.size < w2.heap.size := size_box' _ hb
  have hB := bel_box' _ (by simp) hb
  obtain ⟨hc, hf⟩ := bcell hb
  clear hb
  go_wp2_with (fail)
  with_reducible refine (placesS_any d r s _ h.d1 h.d2 h.r1 h.r2).mono ?_
  rintro e w3 ⟨rfl, hb3⟩
  go_wp2_with (fail)
  go_ret
  exact ⟨rfl, hB.trans (hb3.mono (Nat.le_of_lt hz))⟩
set_option maxHeartbeats 1000000 in
theorem places_no (d r s : Int) (w : World) (h : ¬ Rt d r s) : Calls Try.prog 21 #[gv d r s] w fun e w' => e = .returned (.int .i64 0) ∧ Below w.heap.size w w' := by
  go_enter Try.func21, Try.ntmps21
  go_wp2_with (fail)
  with_reducible refine (right_no d r s _ h).mono ?_
  rintro e w2 ⟨rfl, hb⟩
  have hB := bel_box' _ (by simp) hb
  clear hb
  go_wp2_with (fail)
  go_ret
  exact ⟨rfl, hB⟩
/-- How many segments there may be for data. -/
def PC (s : Int) : Int := (s - 2 - 2 * QC s) / 3
/-- There is such a segment. -/
structure Sg (d r s g : Int) : Prop extends Rt d r s where
  g0 : 0 ≤ g
  g1 : g < s
end Go.Proofs.Ytdgjhfghggcfaaa
