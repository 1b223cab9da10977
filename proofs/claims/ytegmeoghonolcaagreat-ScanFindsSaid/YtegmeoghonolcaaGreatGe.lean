/-
  The plain words of the geometry, and a contract for each small function of the program.
-/
import Derived.Test.YtegmeoghonolcaaGreatBase
import Derived.WalkKit
import Derived.WalkSpells
import Derived.WalkLawsBesides
import Derived.WalkSmall
import Derived.Deep.QuietTactic
import Derived.Deep.RegionHeld3
import Derived.BigQuiet
import Derived.IntWalk
import Derived.Lib.Hide
import Derived.ProofKit
set_option linter.unusedSimpArgs false
set_option linter.unusedVariables false
namespace Go.Proofs.YtegmeoghonolcaaGreat
open Go.RowKit

/-- A geometry, as a value. -/
abbrev gv (d r s : Int) : Value := .agg #[.int .i64 d, .int .i64 r, .int .i64 s]
/-- How many places a segment has. -/
def PL (d r : Int) : Int := r * (d - 1) - 1
/-- How many segments there may be for all but data. -/
def QC (s : Int) : Int := 1 + s / 8
/-- The numbers are within the bounds. -/
structure Bd (d r s : Int) : Prop where
  d1 : 3 ≤ d
  d2 : d ≤ 16
  r1 : 1 ≤ r
  r2 : r ≤ 4
  s1 : 12 ≤ s
  s2 : s ≤ 64
/-- A geometry is right. -/
structure Rt (d r s : Int) : Prop extends Bd d r s where
  q : 8 ≤ QC s * PL d r

theorem PL_bd {d r : Int} (d1 : 3 ≤ d) (d2 : d ≤ 16) (r1 : 1 ≤ r) (r2 : r ≤ 4) : 1 ≤ PL d r ∧ PL d r ≤ 59 ∧ 2 ≤ r * (d - 1) ∧ r * (d - 1) ≤ 60 := by
  unfold PL
  rcases (by omega : r = 1 ∨ r = 2 ∨ r = 3 ∨ r = 4) with h | h | h | h <;> subst h <;> omega
theorem QC_bd {s : Int} (s1 : 12 ≤ s) (s2 : s ≤ 64) : 2 ≤ QC s ∧ QC s ≤ 9 := by unfold QC; omega
theorem mul_bd {a b x y : Int} (a0 : 0 ≤ a) (ax : a ≤ x) (b0 : 0 ≤ b) (by' : b ≤ y) : 0 ≤ a * b ∧ a * b ≤ x * y :=
  ⟨Int.mul_nonneg a0 b0, Int.mul_le_mul ax by' b0 (Int.le_trans a0 ax)⟩
theorem QP_bd {d r s : Int} (h : Bd d r s) : 0 ≤ QC s * PL d r ∧ QC s * PL d r ≤ 531 := by
  have h1 := PL_bd h.d1 h.d2 h.r1 h.r2
  have h2 := QC_bd h.s1 h.s2
  exact mul_bd (x := 9) (y := 59) (by omega) h2.2 (by omega) h1.2.1

theorem bcell {W w1 : World} (hb : Below W.heap.size W w1) : (∀ b o, b < W.heap.size → w1.cell? ⟨b, o, none⟩ = W.cell? ⟨b, o, none⟩) ∧ (∀ b o, b < W.heap.size → w1.frozen? ⟨b, o, none⟩ = W.frozen? ⟨b, o, none⟩) :=
  ⟨fun b o h => hb.cell (p := ⟨b, o, none⟩) h, fun b o h => hb.frozen (p := ⟨b, o, none⟩) h⟩

set_option maxHeartbeats 400000 in
theorem within_yes (n a b : Int) (w : World) (h1 : a ≤ n) (h2 : n ≤ b) :
    Calls Tryz.prog 67 #[.int .i64 n, .int .i64 a, .int .i64 b] w fun e w' => e = .returned (.bool true) ∧ w = w' := by
  go_enter Tryz.func67, Tryz.ntmps67
  go_wp2_with (fail)
  go_ret
  exact ⟨rfl, rfl⟩
set_option maxHeartbeats 400000 in
theorem within_no (n a b : Int) (w : World) (h : n < a ∨ b < n) :
    Calls Tryz.prog 67 #[.int .i64 n, .int .i64 a, .int .i64 b] w fun e w' => e = .returned (.bool false) ∧ w = w' := by
  by_cases h1 : a ≤ n
  · have h2 : ¬ n ≤ b := by omega
    clear h
    go_enter Tryz.func67, Tryz.ntmps67
    go_wp2_with (fail)
    go_ret
    exact ⟨rfl, rfl⟩
  · clear h
    go_enter Tryz.func67, Tryz.ntmps67
    go_wp2_with (fail)
    go_ret
    exact ⟨rfl, rfl⟩
set_option maxHeartbeats 400000 in
theorem perRow_any (d r s : Int) (w : World) (h1 : 3 ≤ d) (h2 : d ≤ 16) :
    Calls Tryz.prog 113 #[gv d r s] w fun e w' => e = .returned (.int .i64 (d - 1)) ∧ Below w.heap.size w w' := by
  go_enter Tryz.func113, Tryz.ntmps113
  go_wp2_with (fail)
  go_ret
  exact ⟨rfl, (Below.refl _ _).alloc (Nat.le_refl _) _⟩
set_option maxHeartbeats 400000 in
theorem otherCap_any (d r s : Int) (w : World) (h1 : 12 ≤ s) (h2 : s ≤ 64) :
    Calls Tryz.prog 68 #[gv d r s] w fun e w' => e = .returned (.int .i64 (QC s)) ∧ Below w.heap.size w w' := by
  go_enter Tryz.func68, Tryz.ntmps68
  go_wp2_with (fail)
  go_ret
  exact ⟨rfl, (Below.refl _ _).alloc (Nat.le_refl _) _⟩
set_option maxHeartbeats 400000 in
theorem stripe_any (d r s g k : Int) (w : World) (h1 : 0 ≤ g * r) (h2 : g * r ≤ 300) (h3 : 0 ≤ k) (h4 : k ≤ 100) :
    Calls Tryz.prog 169 #[gv d r s, .int .i64 g, .int .i64 k] w fun e w' => e = .returned (.int .i64 (g * r + k)) ∧ Below w.heap.size w w' := by
  go_enter Tryz.func169, Tryz.ntmps169
  go_wp2_with (fail)
  go_ret
  exact ⟨rfl, (Below.refl _ _).alloc (Nat.le_refl _) _⟩
/-- The disk that has a stripe's parity. -/
def PD (d q : Int) : Int := d - 1 - q % d
theorem PD_bd {d q : Int} (h1 : 3 ≤ d) : 0 ≤ PD d q ∧ PD d q < d := by
  have a := Int.emod_nonneg q (show d ≠ 0 by omega)
  have b := Int.emod_lt_of_pos q (show 0 < d by omega)
  unfold PD; omega
set_option maxHeartbeats 400000 in
theorem parityDisk_any (d r s q : Int) (w : World) (h1 : 3 ≤ d) (h2 : d ≤ 16) (h3 : 0 ≤ q) (h4 : q ≤ 400) :
    Calls Tryz.prog 170 #[gv d r s, .int .i64 q] w fun e w' => e = .returned (.int .i64 (PD d q)) ∧ Below w.heap.size w w' := by
  have a := Int.emod_nonneg q (show d ≠ 0 by omega)
  have b := Int.emod_lt_of_pos q (show 0 < d by omega)
  have d0 : d ≠ 0 := by omega
  go_enter Tryz.func170, Tryz.ntmps170
  go_wp2_with (fail)
  go_quiet (fail)
  go_wp2_with (fail)
  go_ret
  exact ⟨rfl, below_drewN ((Below.refl _ _).alloc (Nat.le_refl _) _) _⟩
theorem bel_box {w w2 : World} {B : Nat} (o : Obj) (hB : w.heap.size ≤ B) (hb : Below B (w.alloc o).drew w2) : Below w.heap.size w w2 :=
  ((Below.refl _ _).alloc (Nat.le_refl _) o).drew.trans (hb.mono hB)
theorem size_box {w w2 : World} {B : Nat} (o : Obj) (hb : Below B (w.alloc o).drew w2) : w.heap.size < w2.heap.size := by
  have := hb.size; simp at this; omega
set_option maxHeartbeats 400000 in
theorem placesS_any (d r s : Int) (w : World) (h1 : 3 ≤ d) (h2 : d ≤ 16) (h3 : 1 ≤ r) (h4 : r ≤ 4) :
    Calls Tryz.prog 69 #[gv d r s] w fun e w' => e = .returned (.int .i64 (PL d r)) ∧ Below w.heap.size w w' := by
  obtain ⟨p1, p2, p3, p4⟩ := PL_bd h1 h2 h3 h4
  have e1 : IntKind.i64.wrap (r * (d - 1)) = r * (d - 1) := IntWalk.i64_in _ (by omega)
  have e2 : IntKind.i64.wrap (r * (d - 1) - 1) = PL d r := IntWalk.i64_in _ (by omega)
  go_enter Tryz.func69, Tryz.ntmps69
  go_wp2_with (fail)
  go_region_held3 (fun w' => w'.cell? ⟨w.heap.size, 0, none⟩ = some (.int .i64 d) ∧ w'.cell? ⟨w.heap.size, 1, none⟩ = some (.int .i64 r) ∧ w'.cell? ⟨w.heap.size, 2, none⟩ = some (.int .i64 s))
    (first | go_keep | exact ⟨(hb.cell (p := ⟨w.heap.size, 0, none⟩) (by simp)).trans (by go_simp), (hb.cell (p := ⟨w.heap.size, 1, none⟩) (by simp)).trans (by go_simp), (hb.cell (p := ⟨w.heap.size, 2, none⟩) (by simp)).trans (by go_simp)⟩)
    (first | (go_at_call 113
              refine (perRow_any d r s _ h1 h2).mono ?_
              rintro e w2 ⟨rfl, hb⟩))
  go_wp2_with (fail)
  go_ret
  exact ⟨rfl, bel_box _ (by simp) hb⟩

end Go.Proofs.YtegmeoghonolcaaGreat

/-
  Right: whether a geometry is right.
-/
namespace Go.Proofs.YtegmeoghonolcaaGreat
open Go.RowKit

set_option maxHeartbeats 400000 in
theorem right_bd (d r s : Int) (w : World) (h : Bd d r s) :
    Calls Tryz.prog 28 #[gv d r s] w fun e w' => e = .returned (.bool (decide (8 ≤ QC s * PL d r))) ∧ Below w.heap.size w w' := by
  obtain ⟨p1, p2, p3, p4⟩ := PL_bd h.d1 h.d2 h.r1 h.r2
  obtain ⟨q1, q2⟩ := QP_bd h
  obtain ⟨d1, d2, r1, r2, s1, s2⟩ := h
  have ew : IntKind.i64.wrap (QC s * PL d r) = QC s * PL d r := IntWalk.i64_in _ (by omega)
  clear p1 p2 p3 p4 q1 q2
  go_enter Tryz.func28, Tryz.ntmps28
  go_wp2_with (fail)
  go_region_held3 (fun w' => w'.cell? ⟨w.heap.size, 0, none⟩ = some (.int .i64 d) ∧ w'.cell? ⟨w.heap.size, 1, none⟩ = some (.int .i64 r) ∧ w'.cell? ⟨w.heap.size, 2, none⟩ = some (.int .i64 s))
    (first | go_keep | fail "keep")
    (first | (go_at_call 67
              refine (within_yes _ _ _ _ (by omega) (by omega)).mono ?_
              rintro e w2 ⟨rfl, rfl⟩)
           | (go_at_call 68
              refine (otherCap_any d r s _ s1 s2).mono ?_
              rintro e w2 ⟨rfl, hb⟩
              have hz : w.heap.size < w2.heap.size := size_box _ hb
              obtain ⟨hc, hf⟩ := bcell hb)
           | (go_at_call 69
              refine (placesS_any d r s _ d1 d2 r1 r2).mono ?_
              rintro e w3 ⟨rfl, hb3⟩
              obtain ⟨hc, hf⟩ := bcell hb3))
  go_wp2_with (fail)
  go_ret
  exact ⟨rfl, (bel_box _ (by simp) hb).trans (hb3.mono (Nat.le_of_lt hz))⟩

theorem not_Bd {d r s : Int} (h : ¬ Bd d r s) : (d < 3 ∨ 16 < d) ∨ ((3 ≤ d ∧ d ≤ 16) ∧ (r < 1 ∨ 4 < r)) ∨ ((3 ≤ d ∧ d ≤ 16) ∧ (1 ≤ r ∧ r ≤ 4) ∧ (s < 12 ∨ 64 < s)) := by
  by_cases h1 : 3 ≤ d ∧ d ≤ 16
  · by_cases h2 : 1 ≤ r ∧ r ≤ 4
    · by_cases h3 : 12 ≤ s ∧ s ≤ 64
      · exact absurd ⟨h1.1, h1.2, h2.1, h2.2, h3.1, h3.2⟩ h
      · exact .inr (.inr ⟨h1, h2, by omega⟩)
    · exact .inr (.inl ⟨h1, by omega⟩)
  · exact .inl (by omega)

/-- Is a number within its bounds? -/
def inB (n a b : Int) : Bool := decide (a ≤ n ∧ n ≤ b)
theorem within_any (n a b : Int) (w : World) : Calls Tryz.prog 67 #[.int .i64 n, .int .i64 a, .int .i64 b] w fun e w' => e = .returned (.bool (inB n a b)) ∧ w' = w := by
  by_cases h : a ≤ n ∧ n ≤ b
  · rw [show inB n a b = true from decide_eq_true h]
    exact (within_yes n a b w h.1 h.2).mono fun _ _ h => ⟨h.1, h.2.symm⟩
  · rw [show inB n a b = false from decide_eq_false h]
    exact (within_no n a b w (by omega)).mono fun _ _ h => ⟨h.1, h.2.symm⟩
theorem inB_yes {n a b : Int} (h : a ≤ n ∧ n ≤ b) : inB n a b = true := decide_eq_true h
theorem inB_no {n a b : Int} (h : n < a ∨ b < n) : inB n a b = false := decide_eq_false (by omega)

set_option maxHeartbeats 400000 in
theorem right_outD (d r s : Int) (w : World) (e1 : inB d 3 16 = false) :
    Calls Tryz.prog 28 #[gv d r s] w fun e w' => e = .returned (.bool false) ∧ Below w.heap.size w w' := by
  go_enter Tryz.func28, Tryz.ntmps28
  go_wp2_with (fail)
  go_quiet ((go_at_call 67; exact Calls.quiet_of_same (within_any _ _ _ _)))
  go_wp2_with (fail)
  go_ret
  exact ⟨rfl, below_drewN ((Below.refl _ _).alloc (Nat.le_refl _) _) _⟩
set_option maxHeartbeats 400000 in
theorem right_outR (d r s : Int) (w : World) (e1 : inB d 3 16 = true) (e2 : inB r 1 4 = false) :
    Calls Tryz.prog 28 #[gv d r s] w fun e w' => e = .returned (.bool false) ∧ Below w.heap.size w w' := by
  go_enter Tryz.func28, Tryz.ntmps28
  go_wp2_with (fail)
  go_quiet ((go_at_call 67; exact Calls.quiet_of_same (within_any _ _ _ _)))
  go_wp2_with (fail)
  go_ret
  exact ⟨rfl, below_drewN ((Below.refl _ _).alloc (Nat.le_refl _) _) _⟩
set_option maxHeartbeats 400000 in
theorem right_outS (d r s : Int) (w : World) (e1 : inB d 3 16 = true) (e2 : inB r 1 4 = true) (e3 : inB s 12 64 = false) :
    Calls Tryz.prog 28 #[gv d r s] w fun e w' => e = .returned (.bool false) ∧ Below w.heap.size w w' := by
  go_enter Tryz.func28, Tryz.ntmps28
  go_wp2_with (fail)
  go_quiet ((go_at_call 67; exact Calls.quiet_of_same (within_any _ _ _ _)))
  go_wp2_with (fail)
  go_ret
  exact ⟨rfl, below_drewN ((Below.refl _ _).alloc (Nat.le_refl _) _) _⟩
theorem right_out (d r s : Int) (w : World) (h : ¬ Bd d r s) :
    Calls Tryz.prog 28 #[gv d r s] w fun e w' => e = .returned (.bool false) ∧ Below w.heap.size w w' := by
  rcases not_Bd h with h1 | ⟨h0, h1⟩ | ⟨h0, h00, h1⟩
  · exact right_outD d r s w (inB_no h1)
  · exact right_outR d r s w (inB_yes h0) (inB_no h1)
  · exact right_outS d r s w (inB_yes h0) (inB_yes h00) (inB_no h1)

theorem right_yes (d r s : Int) (w : World) (h : Rt d r s) : Calls Tryz.prog 28 #[gv d r s] w fun e w' => e = .returned (.bool true) ∧ Below w.heap.size w w' := by
  have := right_bd d r s w h.toBd
  rwa [decide_eq_true h.q] at this
theorem right_no (d r s : Int) (w : World) (h : ¬ Rt d r s) : Calls Tryz.prog 28 #[gv d r s] w fun e w' => e = .returned (.bool false) ∧ Below w.heap.size w w' := by
  by_cases hb : Bd d r s
  · have := right_bd d r s w hb
    rwa [decide_eq_false (fun q => h ⟨hb, q⟩)] at this
  · exact right_out d r s w hb

theorem bel_box' {w w2 : World} {B : Nat} (o : Obj) (hB : w.heap.size ≤ B) (hb : Below B (w.alloc o) w2) : Below w.heap.size w w2 :=
  ((Below.refl _ _).alloc (Nat.le_refl _) o).trans (hb.mono hB)
theorem size_box' {w w2 : World} {B : Nat} (o : Obj) (hb : Below B (w.alloc o) w2) : w.heap.size < w2.heap.size := by
  have := hb.size; simp at this; omega

set_option maxHeartbeats 1000000 in
theorem sectors_yes (d r s : Int) (w : World) (h : Rt d r s) : Calls Tryz.prog 8 #[gv d r s] w fun e w' => e = .returned (.int .i64 (5 + s * r)) ∧ Below w.heap.size w w' := by
  have m := mul_bd (a := s) (b := r) (x := 64) (y := 4) (by have := h.s1; omega) h.s2 (by have := h.r1; omega) h.r2
  go_enter Tryz.func8, Tryz.ntmps8
  go_wp2_with (fail)
  with_reducible refine (right_yes d r s _ h).mono ?_
  rintro e w2 ⟨rfl, hb⟩
  have hz : w.heap.size < w2.heap.size := size_box' _ hb
  have hB := bel_box' _ (by simp) hb
  obtain ⟨hc, hf⟩ := bcell hb
  clear hb
  go_wp2_with (fail)
  go_ret
  exact ⟨rfl, hB⟩
set_option maxHeartbeats 1000000 in
theorem sectors_no (d r s : Int) (w : World) (h : ¬ Rt d r s) : Calls Tryz.prog 8 #[gv d r s] w fun e w' => e = .returned (.int .i64 0) ∧ Below w.heap.size w w' := by
  go_enter Tryz.func8, Tryz.ntmps8
  go_wp2_with (fail)
  with_reducible refine (right_no d r s _ h).mono ?_
  rintro e w2 ⟨rfl, hb⟩
  have hB := bel_box' _ (by simp) hb
  clear hb
  go_wp2_with (fail)
  go_ret
  exact ⟨rfl, hB⟩
set_option maxHeartbeats 1000000 in
theorem places_yes (d r s : Int) (w : World) (h : Rt d r s) : Calls Tryz.prog 95 #[gv d r s] w fun e w' => e = .returned (.int .i64 (PL d r)) ∧ Below w.heap.size w w' := by
  go_enter Tryz.func95, Tryz.ntmps95
  go_wp2_with (fail)
  with_reducible refine (right_yes d r s _ h).mono ?_
  rintro e w2 ⟨rfl, hb⟩
  have hz : w.heap.size < w2.heap.size := size_box' _ hb
  have hB := bel_box' _ (by simp) hb
  obtain ⟨hc, hf⟩ := bcell hb
  clear hb
  go_wp2_with (fail)
  with_reducible refine (placesS_any d r s _ h.d1 h.d2 h.r1 h.r2).mono ?_
  rintro e w3 ⟨rfl, hb3⟩
  go_wp2_with (fail)
  go_ret
  exact ⟨rfl, hB.trans (hb3.mono (Nat.le_of_lt hz))⟩
/-- There is such a segment. -/
structure Sg (d r s g : Int) : Prop extends Rt d r s where
  g0 : 0 ≤ g
  g1 : g < s
set_option maxHeartbeats 1000000 in
theorem hasSeg_yes (d r s g : Int) (w : World) (h : Sg d r s g) : Calls Tryz.prog 168 #[gv d r s, .int .i64 g] w fun e w' => e = .returned (.bool true) ∧ Below w.heap.size w w' := by
  have g0 := h.g0
  have g1 := h.g1
  go_enter Tryz.func168, Tryz.ntmps168
  go_wp2_with (fail)
  with_reducible refine (right_yes d r s _ h.toRt).mono ?_
  rintro e w2 ⟨rfl, hb⟩
  have hz : w.heap.size < w2.heap.size := size_box' _ hb
  have hB := bel_box' _ (by simp) hb
  obtain ⟨hc, hf⟩ := bcell hb
  clear hb
  go_wp2_with (fail)
  go_ret
  exact ⟨rfl, hB⟩
set_option maxHeartbeats 1000000 in
theorem hasSeg_no (d r s g : Int) (w : World) (h : ¬ Sg d r s g) : Calls Tryz.prog 168 #[gv d r s, .int .i64 g] w fun e w' => e = .returned (.bool false) ∧ Below w.heap.size w w' := by
  by_cases hr : Rt d r s
  · have hg : g < 0 ∨ s ≤ g := by
      by_cases g0 : 0 ≤ g
      · by_cases g1 : g < s
        · exact absurd ⟨hr, g0, g1⟩ h
        · omega
      · omega
    clear h
    rcases hg with hg | hg
    · go_enter Tryz.func168, Tryz.ntmps168
      go_wp2_with (fail)
      with_reducible refine (right_yes d r s _ hr).mono ?_
      rintro e w2 ⟨rfl, hb⟩
      have hz : w.heap.size < w2.heap.size := size_box' _ hb
      have hB := bel_box' _ (by simp) hb
      obtain ⟨hc, hf⟩ := bcell hb
      clear hb
      go_wp2_with (fail)
      go_ret
      exact ⟨rfl, hB⟩
    · have g0 : 0 ≤ g := by have := hr.s1; omega
      have g1 : decide (g < s) = false := decide_eq_false (by omega)
      go_enter Tryz.func168, Tryz.ntmps168
      go_wp2_with (fail)
      with_reducible refine (right_yes d r s _ hr).mono ?_
      rintro e w2 ⟨rfl, hb⟩
      have hz : w.heap.size < w2.heap.size := size_box' _ hb
      have hB := bel_box' _ (by simp) hb
      obtain ⟨hc, hf⟩ := bcell hb
      clear hb
      go_wp2_with (fail)
      go_ret
      exact ⟨rfl, hB⟩
  · clear h
    go_enter Tryz.func168, Tryz.ntmps168
    go_wp2_with (fail)
    with_reducible refine (right_no d r s _ hr).mono ?_
    rintro e w2 ⟨rfl, hb⟩
    have hB := bel_box' _ (by simp) hb
    clear hb
    go_wp2_with (fail)
    go_ret
    exact ⟨rfl, hB⟩

end Go.Proofs.YtegmeoghonolcaaGreat

/-
  Block, Parity, Address and Where of the program.
-/
namespace Go.Proofs.YtegmeoghonolcaaGreat
open Go.RowKit

/-- A spot and whether it is one. -/
abbrev sv (x y : Int) (b : Bool) : Value := .tuple #[.agg #[.int .i64 x, .int .i64 y], .bool b]

theorem gr_bd {d r s g : Int} (h : Sg d r s g) : 0 ≤ g * r ∧ g * r ≤ 252 :=
  mul_bd (x := 63) (y := 4) h.g0 (by have := h.g1; have := h.s2; omega) (by have := h.r1; omega) h.r2
theorem kd_bd {d k : Int} (h1 : 3 ≤ d) (h2 : 0 ≤ k) : 0 ≤ k / (d - 1) ∧ k / (d - 1) ≤ k ∧ 0 ≤ k % (d - 1) ∧ k % (d - 1) < d - 1 :=
  ⟨Int.ediv_nonneg h2 (by omega), Int.ediv_le_self _ h2, Int.emod_nonneg _ (by omega), Int.emod_lt_of_pos _ (by omega)⟩

/-- A geometry lies in block b. -/
structure Bx (w : World) (b : Nat) (d r s : Int) : Prop where
  lt : b < w.heap.size
  c0 : w.cell? ⟨b, 0, none⟩ = some (.int .i64 d)
  c1 : w.cell? ⟨b, 1, none⟩ = some (.int .i64 r)
  c2 : w.cell? ⟨b, 2, none⟩ = some (.int .i64 s)
theorem Bx.below {w w' : World} {b B : Nat} {d r s : Int} (h : Bx w b d r s) (hb : Below B w w') (hB : w.heap.size ≤ B) : Bx w' b d r s := by
  have hl := Nat.lt_of_lt_of_le h.lt hB
  exact ⟨Nat.lt_of_lt_of_le h.lt hb.size, (hb.cell (p := ⟨b, 0, none⟩) hl).trans h.c0, (hb.cell (p := ⟨b, 1, none⟩) hl).trans h.c1, (hb.cell (p := ⟨b, 2, none⟩) hl).trans h.c2⟩
theorem Bx.next {w w' : World} {b : Nat} {d r s : Int} (h : Bx w b d r s) (hb : Below w.heap.size w w') : Bx w' b d r s := h.below hb (Nat.le_refl _)
theorem Bx.mk' (w : World) (d r s : Int) (t : TypeId) : Bx (w.alloc (.cells #[.int .i64 d, .int .i64 r, .int .i64 s] t (0, 0))) w.heap.size d r s :=
  ⟨by simp, by go_simp, by go_simp, by go_simp⟩
theorem Bx.alloc {w : World} {b : Nat} {d r s : Int} (h : Bx w b d r s) (o : Obj) : Bx (w.alloc o) b d r s := h.below (((Below.refl _ _).alloc (Nat.le_refl _) o)) (Nat.le_refl _)
theorem Bx.drew {w : World} {b : Nat} {d r s : Int} (h : Bx w b d r s) : Bx w.drew b d r s := ⟨h.lt, h.c0, h.c1, h.c2⟩
/-- A spot's cells, free. -/
structure Sx (w : World) (b : Nat) : Prop where
  lt : b < w.heap.size
  c0 : ∃ v, w.cell? ⟨b, 0, none⟩ = some v
  c1 : ∃ v, w.cell? ⟨b, 1, none⟩ = some v
  f0 : w.frozen? ⟨b, 0, none⟩ = false
  f1 : w.frozen? ⟨b, 1, none⟩ = false
theorem Sx.below {w w' : World} {b B : Nat} (h : Sx w b) (hb : Below B w w') (hB : w.heap.size ≤ B) : Sx w' b := by
  have hl := Nat.lt_of_lt_of_le h.lt hB
  obtain ⟨v, hv⟩ := h.c0
  obtain ⟨u, hu⟩ := h.c1
  exact ⟨Nat.lt_of_lt_of_le h.lt hb.size, ⟨v, (hb.cell (p := ⟨b, 0, none⟩) hl).trans hv⟩, ⟨u, (hb.cell (p := ⟨b, 1, none⟩) hl).trans hu⟩, (hb.frozen (p := ⟨b, 0, none⟩) hl).trans h.f0, (hb.frozen (p := ⟨b, 1, none⟩) hl).trans h.f1⟩
theorem Sx.next {w w' : World} {b : Nat} (h : Sx w b) (hb : Below w.heap.size w w') : Sx w' b := h.below hb (Nat.le_refl _)
theorem Sx.drew {w : World} {b : Nat} (h : Sx w b) : Sx w.drew b := ⟨h.lt, h.c0, h.c1, h.f0, h.f1⟩
theorem Sx.mk' (w : World) (x y : Value) (t : TypeId) : Sx (w.alloc (.cells #[x, y] t (0, 0))) w.heap.size :=
  ⟨by simp, ⟨x, by go_simp⟩, ⟨y, by go_simp⟩, by go_simp, by go_simp⟩
theorem two (w : World) (d r s : Int) (t t' : TypeId) :
    Bx ((w.alloc (.cells #[.int .i64 d, .int .i64 r, .int .i64 s] t (0, 0))).alloc (.cells #[.int .i64 0, .int .i64 0] t' (0, 0))) w.heap.size d r s ∧ Sx ((w.alloc (.cells #[.int .i64 d, .int .i64 r, .int .i64 s] t (0, 0))).alloc (.cells #[.int .i64 0, .int .i64 0] t' (0, 0))) (w.heap.size + 1) := by
  refine ⟨(Bx.mk' w d r s t).alloc _, ?_⟩
  have hs := Sx.mk' (w.alloc (.cells #[.int .i64 d, .int .i64 r, .int .i64 s] t (0, 0))) (.int .i64 0) (.int .i64 0) t'
  simpa using hs
theorem bel_two {w w2 : World} {B : Nat} (o o' : Obj) (hB : w.heap.size ≤ B) (hb : Below B ((w.alloc o).alloc o') w2) : Below w.heap.size w w2 :=
  (((Below.refl _ _).alloc (Nat.le_refl _) o).alloc (by simp) o').trans (hb.mono hB)

set_option maxHeartbeats 1000000 in
theorem parity_yes (d r s g k : Int) (w : World) (h : Sg d r s g) (k0 : 0 ≤ k) (k1 : k < r) :
    Calls Tryz.prog 137 #[gv d r s, .int .i64 g, .int .i64 k] w fun e w' => e = .returned (sv (PD d (g * r + k)) (5 + (g * r + k)) true) ∧ Below w.heap.size w w' := by
  obtain ⟨m1, m2⟩ := gr_bd h
  have d1 := h.d1
  have d2 := h.d2
  have r2 := h.r2
  obtain ⟨hx, hs'⟩ := two w d r s 33 150
  go_enter Tryz.func137, Tryz.ntmps137
  go_wp2_with (fail)
  with_reducible refine (hasSeg_yes d r s g _ h).mono ?_
  rintro e w2 ⟨rfl, hb⟩
  have hB := bel_two _ _ (by simp; omega) hb
  have x2 := hx.next hb
  have s2 := hs'.next hb
  have y1 := x2.c0
  have y2 := x2.c1
  have y3 := x2.c2
  clear hb hx hs'
  go_wp2_with (fail)
  with_reducible refine (stripe_any d r s g k _ m1 (by omega) k0 (by omega)).mono ?_
  rintro e w3 ⟨rfl, hb3⟩
  have x3 := x2.next hb3
  have s3 := s2.next hb3
  clear y1 y2 y3
  have y1 := x3.c0
  have y2 := x3.c1
  have y3 := x3.c2
  have hB3 := hB.trans (hb3.mono (Nat.le_of_lt x2.lt))
  clear x2 s2 hb3 hB h
  obtain ⟨q, hq⟩ : ∃ q, q = g * r + k := ⟨_, rfl⟩
  have hq0 : 0 ≤ q := by omega
  have hq1 : q ≤ 400 := by omega
  rw [← hq]
  have Hq := Lib.hid hq
  clear hq
  go_wp2_with (fail)
  with_reducible refine (parityDisk_any d r s q _ d1 d2 hq0 hq1).mono ?_
  rintro e w4 ⟨rfl, hb4⟩
  have s4 := s3.next hb4
  have hB4 := hB3.trans (hb4.mono (Nat.le_of_lt x3.lt))
  clear y1 y2 y3 x3 s3 hB3 hb4
  obtain ⟨_, ⟨v1, c1⟩, ⟨v2, c2⟩, f1, f2⟩ := s4
  go_wp2_with (fail)
  have hq := Hq.out
  refine bodyPost_ret (v := sv (PD d q) (5 + q) true) ?_ rfl ⟨by rw [hq], ?_⟩
  · simp [results, Tryz.results137, go_sem, c1, c2]
  · exact (hB4.setCell (by simp) _).setCell (by simp) _
set_option maxHeartbeats 1000000 in
theorem parity_out (d r s g k : Int) (w : World) (h : ¬ Sg d r s g) :
    Calls Tryz.prog 137 #[gv d r s, .int .i64 g, .int .i64 k] w fun e w' => e = .returned (sv 0 0 false) ∧ Below w.heap.size w w' := by
  obtain ⟨hx, hs'⟩ := two w d r s 33 150
  go_enter Tryz.func137, Tryz.ntmps137
  go_wp2_with (fail)
  with_reducible refine (hasSeg_no d r s g _ h).mono ?_
  rintro e w2 ⟨rfl, hb⟩
  have hB := bel_two _ _ (by simp; omega) hb
  have s2 := hs'.next hb
  clear hb hx hs'
  obtain ⟨_, ⟨v1, c1⟩, ⟨v2, c2⟩, f1, f2⟩ := s2
  go_wp2_with (fail)
  refine bodyPost_ret (v := sv 0 0 false) ?_ rfl ⟨rfl, ?_⟩
  · simp [results, Tryz.results137, go_sem, c1, c2]
  · exact (hB.setCell (by simp) _).setCell (by simp) _
set_option maxHeartbeats 1000000 in
theorem parity_low (d r s g k : Int) (w : World) (h : Sg d r s g) (hk : k < 0) :
    Calls Tryz.prog 137 #[gv d r s, .int .i64 g, .int .i64 k] w fun e w' => e = .returned (sv 0 0 false) ∧ Below w.heap.size w w' := by
  obtain ⟨hx, hs'⟩ := two w d r s 33 150
  go_enter Tryz.func137, Tryz.ntmps137
  go_wp2_with (fail)
  with_reducible refine (hasSeg_yes d r s g _ h).mono ?_
  rintro e w2 ⟨rfl, hb⟩
  have hB := bel_two _ _ (by simp; omega) hb
  have s2 := hs'.next hb
  have x2 := hx.next hb
  clear hb hx hs'
  have y1 := x2.c0
  have y2 := x2.c1
  have y3 := x2.c2
  obtain ⟨_, ⟨v1, c1⟩, ⟨v2, c2⟩, f1, f2⟩ := s2
  go_wp2_with (fail)
  refine bodyPost_ret (v := sv 0 0 false) ?_ rfl ⟨rfl, ?_⟩
  · simp [results, Tryz.results137, go_sem, c1, c2]
  · exact (hB.setCell (by simp) _).setCell (by simp) _
set_option maxHeartbeats 1000000 in
theorem block_out (d r s g k : Int) (w : World) (h : ¬ Sg d r s g) :
    Calls Tryz.prog 133 #[gv d r s, .int .i64 g, .int .i64 k] w fun e w' => e = .returned (sv 0 0 false) ∧ Below w.heap.size w w' := by
  obtain ⟨hx, hs'⟩ := two w d r s 33 150
  go_enter Tryz.func133, Tryz.ntmps133
  go_wp2_with (fail)
  with_reducible refine (hasSeg_no d r s g _ h).mono ?_
  rintro e w2 ⟨rfl, hb⟩
  have hB := bel_two _ _ (by simp; omega) hb
  have s2 := hs'.next hb
  clear hb hx hs'
  obtain ⟨_, ⟨v1, c1⟩, ⟨v2, c2⟩, f1, f2⟩ := s2
  go_wp2_with (fail)
  refine bodyPost_ret (v := sv 0 0 false) ?_ rfl ⟨rfl, ?_⟩
  · simp [results, Tryz.results133, go_sem, c1, c2]
  · exact (hB.setCell (by simp) _).setCell (by simp) _
set_option maxHeartbeats 1000000 in
theorem block_low (d r s g k : Int) (w : World) (h : Sg d r s g) (hk : k < 0) :
    Calls Tryz.prog 133 #[gv d r s, .int .i64 g, .int .i64 k] w fun e w' => e = .returned (sv 0 0 false) ∧ Below w.heap.size w w' := by
  obtain ⟨hx, hs'⟩ := two w d r s 33 150
  go_enter Tryz.func133, Tryz.ntmps133
  go_wp2_with (fail)
  with_reducible refine (hasSeg_yes d r s g _ h).mono ?_
  rintro e w2 ⟨rfl, hb⟩
  have hB := bel_two _ _ (by simp; omega) hb
  have s2 := hs'.next hb
  have x2 := hx.next hb
  clear hb hx hs'
  have y1 := x2.c0
  have y2 := x2.c1
  have y3 := x2.c2
  obtain ⟨_, ⟨v1, c1⟩, ⟨v2, c2⟩, f1, f2⟩ := s2
  go_wp2_with (fail)
  refine bodyPost_ret (v := sv 0 0 false) ?_ rfl ⟨rfl, ?_⟩
  · simp [results, Tryz.results133, go_sem, c1, c2]
  · exact (hB.setCell (by simp) _).setCell (by simp) _
set_option maxHeartbeats 1000000 in
theorem block_high (d r s g k : Int) (w : World) (h : Sg d r s g) (hk : PL d r < k) :
    Calls Tryz.prog 133 #[gv d r s, .int .i64 g, .int .i64 k] w fun e w' => e = .returned (sv 0 0 false) ∧ Below w.heap.size w w' := by
  obtain ⟨hx, hs'⟩ := two w d r s 33 150
  have k0 : 0 ≤ k := by have := PL_bd h.d1 h.d2 h.r1 h.r2; omega
  have hkf : ¬ k ≤ PL d r := by omega
  go_enter Tryz.func133, Tryz.ntmps133
  go_wp2_with (fail)
  with_reducible refine (hasSeg_yes d r s g _ h).mono ?_
  rintro e w2 ⟨rfl, hb⟩
  have hB := bel_two _ _ (by simp; omega) hb
  have s2 := hs'.next hb
  have x2 := hx.next hb
  clear hb hx hs'
  have y1 := x2.c0
  have y2 := x2.c1
  have y3 := x2.c2
  have hs2 := s2
  obtain ⟨_, ⟨v1, c1⟩, ⟨v2, c2⟩, f1, f2⟩ := s2
  go_wp2_with (fail)
  with_reducible refine (placesS_any d r s _ h.d1 h.d2 h.r1 h.r2).mono ?_
  rintro e w3 ⟨rfl, hb3⟩
  have s3 := (hs2.next hb3)
  have hB3 := hB.trans (hb3.mono (Nat.le_of_lt x2.lt))
  clear y1 y2 y3 c1 c2 f1 f2 hb3
  obtain ⟨_, ⟨v1, c1⟩, ⟨v2, c2⟩, f1, f2⟩ := s3
  go_wp2_with (fail)
  refine bodyPost_ret (v := sv 0 0 false) ?_ rfl ⟨rfl, ?_⟩
  · simp [results, Tryz.results133, go_sem, c1, c2]
  · exact (hB3.setCell (by simp) _).setCell (by simp) _

end Go.Proofs.YtegmeoghonolcaaGreat

/-
  Where of the program.
-/
namespace Go.Proofs.YtegmeoghonolcaaGreat
open Go.RowKit

set_option maxHeartbeats 1000000 in
theorem where_out (d r s n : Int) (w : World) (h : ¬ Rt d r s) :
    Calls Tryz.prog 130 #[gv d r s, .int .i64 n] w fun e w' => e = .returned (.tuple #[.int .i64 0, .int .i64 0, .bool false]) ∧ Below w.heap.size w w' := by
  have hx := (Bx.mk' w d r s 33).drew
  go_enter Tryz.func130, Tryz.ntmps130
  go_wp2_with (fail)
  refine wp_region_held_drew (S := (fun w' => w'.cell? ⟨w.heap.size, 0, none⟩ = some (.int .i64 d) ∧ w'.cell? ⟨w.heap.size, 1, none⟩ = some (.int .i64 r) ∧ w'.cell? ⟨w.heap.size, 2, none⟩ = some (.int .i64 s))) (by kernel_rfl) ?_ (fun hHeld => ?_)
  · exact ⟨hx.c0, hx.c1, hx.c2⟩
  refine rgY 0 ?_ rfl (by kernel_rfl) (fun _ _ _ h => h) (.inl ⟨by rfl, fun w hSw => ?_⟩) (by assumption) ?_
  rotate_left
  · (try dsimp only at hSw); go_simp; try with_reducible rfl
  simp only [Act.put, rg1, rg2, rg3, rg4, rg6]
  refine wpAnyH_ready (rs := [1]) (by kernel_rfl) (by simp) ?_
  refine AllReadyH.cons rfl (fun K hK => ?_) AllReadyH.nil
  simp only [List.getElem_toArray, List.getElem_cons_succ, List.getElem_cons_zero]
  go_simp
  refine (right_no d r s _ h).mono ?_
  rintro e w2 ⟨rfl, hb⟩
  have x2 := hx.next hb
  have hB := bel_box _ (by simp) hb
  go_wp2_with (fail)
  refine hK.out _ _ ⟨x2.c0, x2.c1, x2.c2⟩ (fun hHeld => ?_)
  clear hK K
  refine rgY 2 ?_ rfl (by kernel_rfl) (fun _ _ _ h => h) (.inl ⟨by rfl, fun w hSw => ?_⟩) (by assumption) ?_
  rotate_left
  · (try dsimp only at hSw); go_simp; try with_reducible rfl
  simp only [Act.put, rg1, rg2, rg3, rg4, rg5, rg6]
  refine rgY 3 ?_ rfl (by kernel_rfl) (fun _ _ _ h => h) (.inl ⟨by rfl, fun w hSw => ?_⟩) (by assumption) ?_
  rotate_left
  · (try dsimp only at hSw); go_simp; try with_reducible rfl
  simp only [Act.put, rg1, rg2, rg3, rg4, rg5, rg6]
  refine rgY 4 undef rfl (by kernel_rfl) (fun _ _ _ h => h) (.inr ⟨by rfl, rfl⟩) (by assumption) ?_
  simp only [Act.put, rg1, rg2, rg3, rg4, rg5, rg6]
  refine rgY 5 undef rfl (by kernel_rfl) (fun _ _ _ h => h) (.inr ⟨by rfl, rfl⟩) (by assumption) ?_
  simp only [Act.put, rg1, rg2, rg3, rg4, rg5, rg6]
  refine rgY 6 ?_ rfl (by kernel_rfl) (fun _ _ _ h => h) (.inl ⟨by rfl, fun w hSw => ?_⟩) (by assumption) ?_
  rotate_left
  · (try dsimp only at hSw); go_simp; try with_reducible rfl
  simp only [Act.put, rg1, rg2, rg3, rg4, rg5, rg6]
  refine rgY 7 ?_ rfl (by kernel_rfl) (fun _ _ _ h => h) (.inl ⟨by rfl, fun w hSw => ?_⟩) (by assumption) ?_
  rotate_left
  · (try dsimp only at hSw); go_simp; try with_reducible rfl
  simp only [Act.put, rg1, rg2, rg3, rg4, rg5, rg6]
  refine rgY 8 undef rfl (by kernel_rfl) (fun _ _ _ h => h) (.inr ⟨by rfl, rfl⟩) (by assumption) ?_
  simp only [Act.put, rg1, rg2, rg3, rg4, rg5, rg6]
  refine rgY 9 undef rfl (by kernel_rfl) (fun _ _ _ h => h) (.inr ⟨by rfl, rfl⟩) (by assumption) ?_
  simp only [Act.put, rg1, rg2, rg3, rg4, rg5, rg6]
  refine rgY 10 undef rfl (by kernel_rfl) (fun _ _ _ h => h) (.inr ⟨by rfl, rfl⟩) (by assumption) ?_
  simp only [Act.put, rg1, rg2, rg3, rg4, rg5, rg6]
  refine rgY 11 undef rfl (by kernel_rfl) (fun _ _ _ h => h) (.inr ⟨by rfl, rfl⟩) (by assumption) ?_
  simp only [Act.put, rg1, rg2, rg3, rg4, rg5, rg6]
  refine rgY 12 undef rfl (by kernel_rfl) (fun _ _ _ h => h) (.inr ⟨by rfl, rfl⟩) (by assumption) ?_
  simp only [Act.put, rg1, rg2, rg3, rg4, rg5, rg6]
  refine rgY 13 undef rfl (by kernel_rfl) (fun _ _ _ h => h) (.inr ⟨by rfl, rfl⟩) (by assumption) ?_
  simp only [Act.put, rg1, rg2, rg3, rg4, rg5, rg6]
  refine rgY 14 undef rfl (by kernel_rfl) (fun _ _ _ h => h) (.inr ⟨by rfl, rfl⟩) (by assumption) ?_
  simp only [Act.put, rg1, rg2, rg3, rg4, rg5, rg6]
  refine rgY 15 ?_ rfl (by kernel_rfl) (fun _ _ _ h => h) (.inl ⟨by rfl, fun w hSw => ?_⟩) (by assumption) ?_
  rotate_left
  · (try dsimp only at hSw); go_simp; try with_reducible rfl
  simp only [Act.put, rg1, rg2, rg3, rg4, rg5, rg6]
  refine wpAnyH_done (by kernel_rfl) ?_ _
  go_wp2_with (fail)
  go_ret3
  exact ⟨rfl, hB⟩
set_option maxHeartbeats 1000000 in
theorem where_low (d r s n : Int) (w : World) (h : Rt d r s) (hn : n < 1) :
    Calls Tryz.prog 130 #[gv d r s, .int .i64 n] w fun e w' => e = .returned (.tuple #[.int .i64 0, .int .i64 0, .bool false]) ∧ Below w.heap.size w w' := by
  have hx := (Bx.mk' w d r s 33).drew
  go_enter Tryz.func130, Tryz.ntmps130
  go_wp2_with (fail)
  refine wp_region_held_drew (S := (fun w' => w'.cell? ⟨w.heap.size, 0, none⟩ = some (.int .i64 d) ∧ w'.cell? ⟨w.heap.size, 1, none⟩ = some (.int .i64 r) ∧ w'.cell? ⟨w.heap.size, 2, none⟩ = some (.int .i64 s))) (by kernel_rfl) ?_ (fun hHeld => ?_)
  · exact ⟨hx.c0, hx.c1, hx.c2⟩
  refine rgY 0 ?_ rfl (by kernel_rfl) (fun _ _ _ h => h) (.inl ⟨by rfl, fun w hSw => ?_⟩) (by assumption) ?_
  rotate_left
  · (try dsimp only at hSw); go_simp; try with_reducible rfl
  simp only [Act.put, rg1, rg2, rg3, rg4, rg6]
  refine wpAnyH_ready (rs := [1]) (by kernel_rfl) (by simp) ?_
  refine AllReadyH.cons rfl (fun K hK => ?_) AllReadyH.nil
  simp only [List.getElem_toArray, List.getElem_cons_succ, List.getElem_cons_zero]
  go_simp
  refine (right_yes d r s _ h).mono ?_
  rintro e w2 ⟨rfl, hb⟩
  have x2 := hx.next hb
  have hB := bel_box _ (by simp) hb
  go_wp2_with (fail)
  refine hK.out _ _ ⟨x2.c0, x2.c1, x2.c2⟩ (fun hHeld => ?_)
  clear hK K
  refine rgY 2 ?_ rfl (by kernel_rfl) (fun _ _ _ h => h) (.inl ⟨by rfl, fun w hSw => ?_⟩) (by assumption) ?_
  rotate_left
  · (try dsimp only at hSw); go_simp; try with_reducible rfl
  simp only [Act.put, rg1, rg2, rg3, rg4, rg5, rg6]
  refine rgY 3 ?_ rfl (by kernel_rfl) (fun _ _ _ h => h) (.inl ⟨by rfl, fun w hSw => ?_⟩) (by assumption) ?_
  rotate_left
  · (try dsimp only at hSw); go_simp; try with_reducible rfl
  simp only [Act.put, rg1, rg2, rg3, rg4, rg5, rg6]
  refine rgY 4 ?_ rfl (by kernel_rfl) (fun _ _ _ h => h) (.inl ⟨by rfl, fun w hSw => ?_⟩) (by assumption) ?_
  rotate_left
  · (try dsimp only at hSw); go_simp; try with_reducible rfl
  simp only [Act.put, rg1, rg2, rg3, rg4, rg5, rg6]
  refine rgY 5 ?_ rfl (by kernel_rfl) (fun _ _ _ h => h) (.inl ⟨by rfl, fun w hSw => ?_⟩) (by assumption) ?_
  rotate_left
  · (try dsimp only at hSw); go_simp; try with_reducible rfl
  simp only [Act.put, rg1, rg2, rg3, rg4, rg5, rg6]
  refine rgY 6 ?_ rfl (by kernel_rfl) (fun _ _ _ h => h) (.inl ⟨by rfl, fun w hSw => ?_⟩) (by assumption) ?_
  rotate_left
  · (try dsimp only at hSw); go_simp; try with_reducible rfl
  simp only [Act.put, rg1, rg2, rg3, rg4, rg5, rg6]
  refine rgY 7 ?_ rfl (by kernel_rfl) (fun _ _ _ h => h) (.inl ⟨by rfl, fun w hSw => ?_⟩) (by assumption) ?_
  rotate_left
  · (try dsimp only at hSw); go_simp; try with_reducible rfl
  simp only [Act.put, rg1, rg2, rg3, rg4, rg5, rg6]
  refine rgY 8 undef rfl (by kernel_rfl) (fun _ _ _ h => h) (.inr ⟨by rfl, rfl⟩) (by assumption) ?_
  simp only [Act.put, rg1, rg2, rg3, rg4, rg5, rg6]
  refine rgY 9 undef rfl (by kernel_rfl) (fun _ _ _ h => h) (.inr ⟨by rfl, rfl⟩) (by assumption) ?_
  simp only [Act.put, rg1, rg2, rg3, rg4, rg5, rg6]
  refine rgY 10 undef rfl (by kernel_rfl) (fun _ _ _ h => h) (.inr ⟨by rfl, rfl⟩) (by assumption) ?_
  simp only [Act.put, rg1, rg2, rg3, rg4, rg5, rg6]
  refine rgY 11 undef rfl (by kernel_rfl) (fun _ _ _ h => h) (.inr ⟨by rfl, rfl⟩) (by assumption) ?_
  simp only [Act.put, rg1, rg2, rg3, rg4, rg5, rg6]
  refine rgY 12 undef rfl (by kernel_rfl) (fun _ _ _ h => h) (.inr ⟨by rfl, rfl⟩) (by assumption) ?_
  simp only [Act.put, rg1, rg2, rg3, rg4, rg5, rg6]
  refine rgY 13 undef rfl (by kernel_rfl) (fun _ _ _ h => h) (.inr ⟨by rfl, rfl⟩) (by assumption) ?_
  simp only [Act.put, rg1, rg2, rg3, rg4, rg5, rg6]
  refine rgY 14 undef rfl (by kernel_rfl) (fun _ _ _ h => h) (.inr ⟨by rfl, rfl⟩) (by assumption) ?_
  simp only [Act.put, rg1, rg2, rg3, rg4, rg5, rg6]
  refine rgY 15 ?_ rfl (by kernel_rfl) (fun _ _ _ h => h) (.inl ⟨by rfl, fun w hSw => ?_⟩) (by assumption) ?_
  rotate_left
  · (try dsimp only at hSw); go_simp; try with_reducible rfl
  simp only [Act.put, rg1, rg2, rg3, rg4, rg5, rg6]
  refine wpAnyH_done (by kernel_rfl) ?_ _
  go_wp2_with (fail)
  go_ret3
  exact ⟨rfl, hB⟩

theorem sp_bd {d r s : Int} (h : Rt d r s) : 0 ≤ s * PL d r ∧ s * PL d r ≤ 3776 :=
  mul_bd (x := 64) (y := 59) (by have := h.s1; omega) h.s2 (by have := PL_bd h.d1 h.d2 h.r1 h.r2; omega) (PL_bd h.d1 h.d2 h.r1 h.r2).2.1
set_option maxHeartbeats 1000000 in
theorem where_high (d r s n : Int) (w : World) (h : Rt d r s) (hn : s * PL d r < n) :
    Calls Tryz.prog 130 #[gv d r s, .int .i64 n] w fun e w' => e = .returned (.tuple #[.int .i64 0, .int .i64 0, .bool false]) ∧ Below w.heap.size w w' := by
  have hx := (Bx.mk' w d r s 33).drew
  obtain ⟨p1, p2, p3, p4⟩ := PL_bd h.d1 h.d2 h.r1 h.r2
  obtain ⟨m1, m2⟩ := sp_bd h
  have w1 : IntKind.i64.wrap (s * PL d r) = s * PL d r := IntWalk.i64_in _ (by omega)
  have n1 : 1 ≤ n := by omega
  have g1 : decide (n < 1) = false := decide_eq_false (by omega)
  have n2 : ¬ n ≤ s * PL d r := by omega
  go_enter Tryz.func130, Tryz.ntmps130
  go_wp2_with (fail)
  go_region_held3 (fun w' => w'.cell? ⟨w.heap.size, 0, none⟩ = some (.int .i64 d) ∧ w'.cell? ⟨w.heap.size, 1, none⟩ = some (.int .i64 r) ∧ w'.cell? ⟨w.heap.size, 2, none⟩ = some (.int .i64 s))
    (first | go_keep | exact ⟨hx.c0, hx.c1, hx.c2⟩ | exact ⟨(hx.next hb2).c0, (hx.next hb2).c1, (hx.next hb2).c2⟩ | exact ⟨((hx.next hb2).next hb3).c0, ((hx.next hb2).next hb3).c1, ((hx.next hb2).next hb3).c2⟩)
    (first | (go_at_call 28
              refine (right_yes d r s _ h).mono ?_
              rintro e w2 ⟨rfl, hb2⟩)
           | (go_at_call 69
              refine (placesS_any d r s _ h.d1 h.d2 h.r1 h.r2).mono ?_
              rintro e w3 ⟨rfl, hb3⟩))
  have hB := (bel_box _ (by simp) hb2).trans (hb3.mono (Nat.le_of_lt (hx.next hb2).lt))
  go_wp2_with (fail)
  go_ret3
  exact ⟨rfl, hB⟩
set_option maxHeartbeats 1000000 in
theorem where_yes (d r s n : Int) (w : World) (h : Rt d r s) (n1 : 1 ≤ n) (n2 : n ≤ s * PL d r) :
    Calls Tryz.prog 130 #[gv d r s, .int .i64 n] w fun e w' => e = .returned (.tuple #[.int .i64 ((n - 1) / PL d r), .int .i64 ((n - 1) % PL d r + 1), .bool true]) ∧ Below w.heap.size w w' := by
  have hx := (Bx.mk' w d r s 33).drew
  obtain ⟨p1, p2, p3, p4⟩ := PL_bd h.d1 h.d2 h.r1 h.r2
  obtain ⟨m1, m2⟩ := sp_bd h
  have w1 : IntKind.i64.wrap (s * PL d r) = s * PL d r := IntWalk.i64_in _ (by omega)
  have g1 : decide (n < 1) = false := decide_eq_false (by omega)
  have n3 : ¬ s * PL d r < n := by omega
  have z1 : PL d r ≠ 0 := by omega
  have n0 : 0 ≤ n - 1 := by omega
  have a1 := Int.ediv_nonneg n0 (b := PL d r) (by omega)
  have a2 := Int.ediv_le_self (PL d r) n0
  have a3 := Int.emod_nonneg (n - 1) z1
  have a4 := Int.emod_lt_of_pos (n - 1) (show 0 < PL d r by omega)
  have W3 := Lib.hid (Int.tdiv_eq_ediv_of_nonneg n0 (b := PL d r))
  have W4 := Lib.hid (Int.tmod_eq_emod_of_nonneg n0 (b := PL d r))
  have W5 : Hid (IntKind.i64.wrap ((n - 1) / PL d r) = (n - 1) / PL d r) := Lib.hid (IntWalk.i64_in _ (by omega))
  have W6 : Hid (IntKind.i64.wrap ((n - 1) % PL d r + 1) = (n - 1) % PL d r + 1) := Lib.hid (IntWalk.i64_in _ (by omega))
  go_enter Tryz.func130, Tryz.ntmps130
  go_wp2_with (fail)
  go_region_held3 (fun w' => w'.cell? ⟨w.heap.size, 0, none⟩ = some (.int .i64 d) ∧ w'.cell? ⟨w.heap.size, 1, none⟩ = some (.int .i64 r) ∧ w'.cell? ⟨w.heap.size, 2, none⟩ = some (.int .i64 s))
    (first | go_keep | exact ⟨hx.c0, hx.c1, hx.c2⟩ | exact ⟨(hx.next hb2).c0, (hx.next hb2).c1, (hx.next hb2).c2⟩ | exact ⟨((hx.next hb2).next hb3).c0, ((hx.next hb2).next hb3).c1, ((hx.next hb2).next hb3).c2⟩)
    (first | (go_at_call 28
              refine (right_yes d r s _ h).mono ?_
              rintro e w2 ⟨rfl, hb2⟩)
           | (go_at_call 69
              refine (placesS_any d r s _ h.d1 h.d2 h.r1 h.r2).mono ?_
              rintro e w3 ⟨rfl, hb3⟩))
  have hB := (bel_box _ (by simp) hb2).trans (hb3.mono (Nat.le_of_lt (hx.next hb2).lt))
  go_wp2_with (fail)
  have x3 := ((hx.next hb2).next hb3).drew
  have w3 := W3.out
  have w4 := W4.out
  have w5 := W5.out
  have w6 := W6.out
  go_region_held3 (fun w' => w'.cell? ⟨w.heap.size, 0, none⟩ = some (.int .i64 d) ∧ w'.cell? ⟨w.heap.size, 1, none⟩ = some (.int .i64 r) ∧ w'.cell? ⟨w.heap.size, 2, none⟩ = some (.int .i64 s))
    (first | go_keep | exact ⟨x3.c0, x3.c1, x3.c2⟩ | exact ⟨(x3.next hb4).c0, (x3.next hb4).c1, (x3.next hb4).c2⟩ | exact ⟨((x3.next hb4).next hb5).c0, ((x3.next hb4).next hb5).c1, ((x3.next hb4).next hb5).c2⟩)
    (first | (go_at_call 69
              have _ := hb4
              refine (placesS_any d r s _ h.d1 h.d2 h.r1 h.r2).mono ?_
              rintro e w5 ⟨rfl, hb5⟩)
           | (go_at_call 69
              refine (placesS_any d r s _ h.d1 h.d2 h.r1 h.r2).mono ?_
              rintro e w4 ⟨rfl, hb4⟩))
  have hC := hB.drew.trans (((hb4.mono (Nat.le_of_lt x3.lt))).trans (hb5.mono (Nat.le_of_lt (x3.next hb4).lt)))
  go_wp2_with (fail)
  go_ret3
  exact ⟨rfl, hC⟩

/-- There is such an address. -/
structure Ak (d r s n : Int) : Prop extends Rt d r s where
  n0 : 1 ≤ n
  n1 : n ≤ s * PL d r
theorem where_no (d r s n : Int) (w : World) (h : ¬ Ak d r s n) :
    Calls Tryz.prog 130 #[gv d r s, .int .i64 n] w fun e w' => e = .returned (.tuple #[.int .i64 0, .int .i64 0, .bool false]) ∧ Below w.heap.size w w' := by
  by_cases hr : Rt d r s
  · by_cases n0 : 1 ≤ n
    · exact where_high d r s n w hr (by
        by_cases n1 : n ≤ s * PL d r
        · exact absurd ⟨hr, n0, n1⟩ h
        · omega)
    · exact where_low d r s n w hr (by omega)
  · exact where_out d r s n w hr

end Go.Proofs.YtegmeoghonolcaaGreat

/-
  Block and Address of the program, where there is one.
-/
namespace Go.Proofs.YtegmeoghonolcaaGreat
open Go.RowKit

theorem stripe_q (d r s g k q : Int) (w : World) (h1 : 0 ≤ g * r) (h2 : g * r ≤ 300) (h3 : 0 ≤ k) (h4 : k ≤ 100) (hq : Hid (q = g * r + k)) :
    Calls Tryz.prog 169 #[gv d r s, .int .i64 g, .int .i64 k] w fun e w' => e = .returned (.int .i64 q) ∧ Below w.heap.size w w' := by
  rw [hq.out]
  exact stripe_any d r s g k w h1 h2 h3 h4
theorem parityDisk_q (d r s q P : Int) (w : World) (h1 : 3 ≤ d) (h2 : d ≤ 16) (h3 : 0 ≤ q) (h4 : q ≤ 400) (hP : Hid (P = PD d q)) :
    Calls Tryz.prog 170 #[gv d r s, .int .i64 q] w fun e w' => e = .returned (.int .i64 P) ∧ Below w.heap.size w w' := by
  rw [hP.out]
  exact parityDisk_any d r s q w h1 h2 h3 h4
/-- The disk of a block: c + 1 behind its row's parity, counted round. -/
def BD (d q c : Int) : Int := (PD d q + 1 + c) % d
set_option maxHeartbeats 1000000 in
theorem block_yes (d r s g k : Int) (w : World) (h : Sg d r s g) (k0 : 0 ≤ k) (k1 : k ≤ PL d r) :
    Calls Tryz.prog 133 #[gv d r s, .int .i64 g, .int .i64 k] w fun e w' => e = .returned (sv (BD d (g * r + k / (d - 1)) (k % (d - 1))) (5 + (g * r + k / (d - 1))) true) ∧ Below w.heap.size w w' := by
  obtain ⟨m1, m2⟩ := gr_bd h
  obtain ⟨p1, p2, p3, p4⟩ := PL_bd h.d1 h.d2 h.r1 h.r2
  have d1 := h.d1
  have d2 := h.d2
  have r1 := h.r1
  have r2 := h.r2
  obtain ⟨a1, a2, a3, a4⟩ := kd_bd (d := d) (k := k) d1 k0
  obtain ⟨a, ha⟩ : ∃ a, a = k / (d - 1) := ⟨_, rfl⟩
  obtain ⟨c, hc⟩ : ∃ c, c = k % (d - 1) := ⟨_, rfl⟩
  obtain ⟨q, hq⟩ : ∃ q, q = g * r + a := ⟨_, rfl⟩
  rw [← ha] at a1 a2
  rw [← hc] at a3 a4
  rw [← ha, ← hc, ← hq]
  have t1 : k.tdiv (d - 1) = a := by rw [Int.tdiv_eq_ediv_of_nonneg k0, ha]
  have t2 : k.tmod (d - 1) = c := by rw [Int.tmod_eq_emod_of_nonneg k0, hc]
  have z1 : d - 1 ≠ 0 := by omega
  have q0 : 0 ≤ q := by omega
  have q1 : q ≤ 400 := by omega
  have hkf : ¬ PL d r < k := by omega
  obtain ⟨hx, hs'⟩ := two w d r s 33 150
  obtain ⟨b1, b2⟩ := PD_bd (q := q) d1
  obtain ⟨P, hP⟩ : ∃ P, P = PD d q := ⟨_, rfl⟩
  have n0 : 0 ≤ P + 1 + c := by omega
  have t3 : (P + 1 + c).tmod d = BD d q c := by rw [Int.tmod_eq_emod_of_nonneg n0, hP]; rfl
  have z2 : d ≠ 0 := by omega
  have w0 : IntKind.i64.wrap (d - 1) = d - 1 := IntWalk.i64_in _ (by omega)
  have w1 : IntKind.i64.wrap a = a := IntWalk.i64_in _ (by omega)
  have w2 : IntKind.i64.wrap (P + 1) = P + 1 := IntWalk.i64_in _ (by omega)
  have w3 : IntKind.i64.wrap (P + 1 + c) = P + 1 + c := IntWalk.i64_in _ (by omega)
  have W0 := Lib.hid w0
  have W1 := Lib.hid w1
  have W2 := Lib.hid w2
  have W3 := Lib.hid w3
  have T1 := Lib.hid t1
  have T2 := Lib.hid t2
  have T3 := Lib.hid t3
  have HA := Lib.hid ha
  have HC := Lib.hid hc
  have HQ := Lib.hid hq
  have HP := Lib.hid hP
  clear w0 w1 w2 w3 t1 t2 t3 ha hc hq hP
  go_enter Tryz.func133, Tryz.ntmps133
  go_wp2_with (fail)
  with_reducible refine (hasSeg_yes d r s g _ h).mono ?_
  rintro e w2 ⟨rfl, hb⟩
  have hB := bel_two _ _ (by simp; omega) hb
  have s2 := hs'.next hb
  have x2 := hx.next hb
  clear hb hx hs'
  have y1 := x2.c0
  have y2 := x2.c1
  have y3 := x2.c2
  go_wp2_with (fail)
  with_reducible refine (placesS_any d r s _ d1 d2 r1 r2).mono ?_
  rintro e w3 ⟨rfl, hb3⟩
  have s3 := (s2.next hb3)
  have x3 := (x2.next hb3)
  have hB3 := hB.trans (hb3.mono (Nat.le_of_lt x2.lt))
  clear y1 y2 y3 x2 s2 hb3 hB
  have y1 := x3.c0
  have y2 := x3.c1
  have y3 := x3.c2
  go_wp2_with (fail)
  have t1 := T1.out
  have w1 := W1.out
  go_region_held3 (fun w' => w'.cell? ⟨w.heap.size, 0, none⟩ = some (.int .i64 d) ∧ w'.cell? ⟨w.heap.size, 1, none⟩ = some (.int .i64 r) ∧ w'.cell? ⟨w.heap.size, 2, none⟩ = some (.int .i64 s))
    (first | go_keep | exact ⟨(x3.drew.next hb4).c0, (x3.drew.next hb4).c1, (x3.drew.next hb4).c2⟩ | exact ⟨((x3.drew.next hb4).next hb5).c0, ((x3.drew.next hb4).next hb5).c1, ((x3.drew.next hb4).next hb5).c2⟩)
    (first | (go_at_call 113
              refine (perRow_any d r s _ d1 d2).mono ?_
              rintro e w4 ⟨rfl, hb4⟩)
           | (go_at_call 169
              refine (stripe_q d r s g a q _ m1 (by omega) a1 (by omega) HQ).mono ?_
              rintro e w5 ⟨rfl, hb5⟩))
  have x5 := (x3.drew.next hb4).next hb5
  have s5 := (s3.drew.next hb4).next hb5
  have hB5 := ((hB3.drew).trans (hb4.mono (Nat.le_of_lt x3.drew.lt))).trans (hb5.mono (Nat.le_of_lt (x3.drew.next hb4).lt))
  clear y1 y2 y3 x3 s3 hB3 hb4 hb5 t1 w1
  have y1 := x5.c0
  have y2 := x5.c1
  have y3 := x5.c2
  go_wp2_with (fail)
  have t2 := T2.out
  have t3 := T3.out
  have w2 := W2.out
  have w3 := W3.out
  go_region_held3 (fun w' => w'.cell? ⟨w.heap.size, 0, none⟩ = some (.int .i64 d) ∧ w'.cell? ⟨w.heap.size, 1, none⟩ = some (.int .i64 r) ∧ w'.cell? ⟨w.heap.size, 2, none⟩ = some (.int .i64 s))
    (first | go_keep | exact ⟨(x5.drew.next hb6).c0, (x5.drew.next hb6).c1, (x5.drew.next hb6).c2⟩ | exact ⟨((x5.drew.next hb6).next hb7).c0, ((x5.drew.next hb6).next hb7).c1, ((x5.drew.next hb6).next hb7).c2⟩)
    (first | (go_at_call 170
              refine (parityDisk_q d r s q P _ d1 d2 q0 q1 HP).mono ?_
              rintro e w6 ⟨rfl, hb6⟩)
           | (go_at_call 113
              refine (perRow_any d r s _ d1 d2).mono ?_
              rintro e w7 ⟨rfl, hb7⟩))
  have x7 := (x5.drew.next hb6).next hb7
  have s7 := (s5.drew.next hb6).next hb7
  have hB7 := ((hB5.drew).trans (hb6.mono (Nat.le_of_lt x5.drew.lt))).trans (hb7.mono (Nat.le_of_lt (x5.drew.next hb6).lt))
  clear y1 y2 y3 x5 s5 hB5 hb6 hb7 t2 t3 w2 w3
  obtain ⟨_, ⟨v1, c1⟩, ⟨v2, c2⟩, f1, f2⟩ := s7
  go_wp2_with (fail)
  refine bodyPost_ret (v := sv (BD d q c) (5 + q) true) ?_ rfl ⟨rfl, ?_⟩
  · simp [results, Tryz.results133, go_sem, c1, c2]
  · exact (hB7.setCell (by simp) _).setCell (by simp) _

/-- There is such a block. -/
structure Bk (d r s g k : Int) : Prop extends Sg d r s g where
  k0 : 0 ≤ k
  k1 : k ≤ PL d r
theorem block_no (d r s g k : Int) (w : World) (h : ¬ Bk d r s g k) :
    Calls Tryz.prog 133 #[gv d r s, .int .i64 g, .int .i64 k] w fun e w' => e = .returned (sv 0 0 false) ∧ Below w.heap.size w w' := by
  by_cases hs : Sg d r s g
  · by_cases k0 : 0 ≤ k
    · exact block_high d r s g k w hs (by
        by_cases k1 : k ≤ PL d r
        · exact absurd ⟨hs, k0, k1⟩ h
        · omega)
    · exact block_low d r s g k w hs (by omega)
  · exact block_out d r s g k w hs

end Go.Proofs.YtegmeoghonolcaaGreat
