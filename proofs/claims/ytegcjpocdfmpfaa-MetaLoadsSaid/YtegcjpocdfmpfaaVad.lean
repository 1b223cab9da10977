/-
  The plain words of the geometry, and a contract for each small function of the program.
-/
import Derived.Test.YtegcjpocdfmpfaaRows
import Derived.WalkKit
import Derived.WalkSpells
import Derived.WalkLawsBesides
import Derived.WalkSmall
import Derived.Deep.QuietTactic
import Derived.Deep.RegionHeld3
import Derived.BigQuiet
import Derived.IntWalk
import Derived.Lib.Hide
import Derived.ProofKit
set_option linter.unusedVariables false
set_option linter.unusedSimpArgs false
set_option maxRecDepth 100000
set_option maxHeartbeats 16000000
namespace Go.Proofs.Ytegcjpocdfmpfaa
open Go.RowKit

/-- A geometry, as a value. -/
abbrev gv (d r s : Int) : Value := .agg #[.int .i64 d, .int .i64 r, .int .i64 s]
/-- How many places a segment has. -/
def PL (d r : Int) : Int := r * (d - 1) - 1
/-- How many segments there may be for all but data. -/
def QC (s : Int) : Int := 1 + s / 8
/-- The numbers are within the bounds. -/
structure Bd (d r s : Int) : Prop where
  d1 : 3 ≤ d
  d2 : d ≤ 16
  r1 : 1 ≤ r
  r2 : r ≤ 4
  s1 : 12 ≤ s
  s2 : s ≤ 64
/-- A geometry is right. -/
structure Rt (d r s : Int) : Prop extends Bd d r s where
  q : 8 ≤ QC s * PL d r

theorem PL_bd {d r : Int} (d1 : 3 ≤ d) (d2 : d ≤ 16) (r1 : 1 ≤ r) (r2 : r ≤ 4) : 1 ≤ PL d r ∧ PL d r ≤ 59 ∧ 2 ≤ r * (d - 1) ∧ r * (d - 1) ≤ 60 := by
  unfold PL
  rcases (by omega : r = 1 ∨ r = 2 ∨ r = 3 ∨ r = 4) with h | h | h | h <;> subst h <;> omega
theorem QC_bd {s : Int} (s1 : 12 ≤ s) (s2 : s ≤ 64) : 2 ≤ QC s ∧ QC s ≤ 9 := by unfold QC; omega
theorem mul_bd {a b x y : Int} (a0 : 0 ≤ a) (ax : a ≤ x) (b0 : 0 ≤ b) (by' : b ≤ y) : 0 ≤ a * b ∧ a * b ≤ x * y :=
  ⟨Int.mul_nonneg a0 b0, Int.mul_le_mul ax by' b0 (Int.le_trans a0 ax)⟩
theorem QP_bd {d r s : Int} (h : Bd d r s) : 0 ≤ QC s * PL d r ∧ QC s * PL d r ≤ 531 := by
  have h1 := PL_bd h.d1 h.d2 h.r1 h.r2
  have h2 := QC_bd h.s1 h.s2
  exact mul_bd (x := 9) (y := 59) (by omega) h2.2 (by omega) h1.2.1

theorem bcell {W w1 : World} (hb : Below W.heap.size W w1) : (∀ b o, b < W.heap.size → w1.cell? ⟨b, o, none⟩ = W.cell? ⟨b, o, none⟩) ∧ (∀ b o, b < W.heap.size → w1.frozen? ⟨b, o, none⟩ = W.frozen? ⟨b, o, none⟩) :=
  ⟨fun b o h => hb.cell (p := ⟨b, o, none⟩) h, fun b o h => hb.frozen (p := ⟨b, o, none⟩) h⟩

theorem within_yes (n a b : Int) (w : World) (h1 : a ≤ n) (h2 : n ≤ b) :
    Calls Try.prog 99 #[.int .i64 n, .int .i64 a, .int .i64 b] w fun e w' => e = .returned (.bool true) ∧ w = w' := by
  go_enter Try.func99, Try.ntmps99
  go_wp2_with (fail)
  go_ret
  exact ⟨rfl, rfl⟩
theorem within_no (n a b : Int) (w : World) (h : n < a ∨ b < n) :
    Calls Try.prog 99 #[.int .i64 n, .int .i64 a, .int .i64 b] w fun e w' => e = .returned (.bool false) ∧ w = w' := by
  by_cases h1 : a ≤ n
  · have h2 : ¬ n ≤ b := by omega
    clear h
    go_enter Try.func99, Try.ntmps99
    go_wp2_with (fail)
    go_ret
    exact ⟨rfl, rfl⟩
  · clear h
    go_enter Try.func99, Try.ntmps99
    go_wp2_with (fail)
    go_ret
    exact ⟨rfl, rfl⟩
theorem perRow_any (d r s : Int) (w : World) (h1 : 3 ≤ d) (h2 : d ≤ 16) :
    Calls Try.prog 111 #[gv d r s] w fun e w' => e = .returned (.int .i64 (d - 1)) ∧ Below w.heap.size w w' := by
  go_enter Try.func111, Try.ntmps111
  go_wp2_with (fail)
  go_ret
  exact ⟨rfl, (Below.refl _ _).alloc (Nat.le_refl _) _⟩
theorem otherCap_any (d r s : Int) (w : World) (h1 : 12 ≤ s) (h2 : s ≤ 64) :
    Calls Try.prog 100 #[gv d r s] w fun e w' => e = .returned (.int .i64 (QC s)) ∧ Below w.heap.size w w' := by
  go_enter Try.func100, Try.ntmps100
  go_wp2_with (fail)
  go_ret
  exact ⟨rfl, (Below.refl _ _).alloc (Nat.le_refl _) _⟩
theorem bel_box {w w2 : World} {B : Nat} (o : Obj) (hB : w.heap.size ≤ B) (hb : Below B (w.alloc o).drew w2) : Below w.heap.size w w2 :=
  ((Below.refl _ _).alloc (Nat.le_refl _) o).drew.trans (hb.mono hB)
theorem size_box {w w2 : World} {B : Nat} (o : Obj) (hb : Below B (w.alloc o).drew w2) : w.heap.size < w2.heap.size := by
  have := hb.size; simp at this; omega
theorem placesS_any (d r s : Int) (w : World) (h1 : 3 ≤ d) (h2 : d ≤ 16) (h3 : 1 ≤ r) (h4 : r ≤ 4) :
    Calls Try.prog 69 #[gv d r s] w fun e w' => e = .returned (.int .i64 (PL d r)) ∧ Below w.heap.size w w' := by
  obtain ⟨p1, p2, p3, p4⟩ := PL_bd h1 h2 h3 h4
  have e1 : IntKind.i64.wrap (r * (d - 1)) = r * (d - 1) := IntWalk.i64_in _ (by omega)
  have e2 : IntKind.i64.wrap (r * (d - 1) - 1) = PL d r := IntWalk.i64_in _ (by omega)
  go_enter Try.func69, Try.ntmps69
  go_wp2_with (fail)
  go_region_held3 (fun w' => w'.cell? ⟨w.heap.size, 0, none⟩ = some (.int .i64 d) ∧ w'.cell? ⟨w.heap.size, 1, none⟩ = some (.int .i64 r) ∧ w'.cell? ⟨w.heap.size, 2, none⟩ = some (.int .i64 s))
    (first | go_keep | exact ⟨(hb.cell (p := ⟨w.heap.size, 0, none⟩) (by simp)).trans (by go_simp), (hb.cell (p := ⟨w.heap.size, 1, none⟩) (by simp)).trans (by go_simp), (hb.cell (p := ⟨w.heap.size, 2, none⟩) (by simp)).trans (by go_simp)⟩)
    (first | (go_at_call 111
              refine (perRow_any d r s _ h1 h2).mono ?_
              rintro e w2 ⟨rfl, hb⟩))
  go_wp2_with (fail)
  go_ret
  exact ⟨rfl, bel_box _ (by simp) hb⟩


theorem right_bd (d r s : Int) (w : World) (h : Bd d r s) :
    Calls Try.prog 56 #[gv d r s] w fun e w' => e = .returned (.bool (decide (8 ≤ QC s * PL d r))) ∧ Below w.heap.size w w' := by
  obtain ⟨p1, p2, p3, p4⟩ := PL_bd h.d1 h.d2 h.r1 h.r2
  obtain ⟨q1, q2⟩ := QP_bd h
  obtain ⟨d1, d2, r1, r2, s1, s2⟩ := h
  have ew : IntKind.i64.wrap (QC s * PL d r) = QC s * PL d r := IntWalk.i64_in _ (by omega)
  clear p1 p2 p3 p4 q1 q2
  go_enter Try.func56, Try.ntmps56
  go_wp2_with (fail)
  go_region_held3 (fun w' => w'.cell? ⟨w.heap.size, 0, none⟩ = some (.int .i64 d) ∧ w'.cell? ⟨w.heap.size, 1, none⟩ = some (.int .i64 r) ∧ w'.cell? ⟨w.heap.size, 2, none⟩ = some (.int .i64 s))
    (first | go_keep | fail "keep")
    (first | (go_at_call 99
              refine (within_yes _ _ _ _ (by omega) (by omega)).mono ?_
              rintro e w2 ⟨rfl, rfl⟩)
           | (go_at_call 100
              refine (otherCap_any d r s _ s1 s2).mono ?_
              rintro e w2 ⟨rfl, hb⟩
              have hz : w.heap.size < w2.heap.size := size_box _ hb
              obtain ⟨hc, hf⟩ := bcell hb)
           | (go_at_call 69
              refine (placesS_any d r s _ d1 d2 r1 r2).mono ?_
              rintro e w3 ⟨rfl, hb3⟩
              obtain ⟨hc, hf⟩ := bcell hb3))
  go_wp2_with (fail)
  go_ret
  exact ⟨rfl, (bel_box _ (by simp) hb).trans (hb3.mono (Nat.le_of_lt hz))⟩

theorem not_Bd {d r s : Int} (h : ¬ Bd d r s) : (d < 3 ∨ 16 < d) ∨ ((3 ≤ d ∧ d ≤ 16) ∧ (r < 1 ∨ 4 < r)) ∨ ((3 ≤ d ∧ d ≤ 16) ∧ (1 ≤ r ∧ r ≤ 4) ∧ (s < 12 ∨ 64 < s)) := by
  by_cases h1 : 3 ≤ d ∧ d ≤ 16
  · by_cases h2 : 1 ≤ r ∧ r ≤ 4
    · by_cases h3 : 12 ≤ s ∧ s ≤ 64
      · exact absurd ⟨h1.1, h1.2, h2.1, h2.2, h3.1, h3.2⟩ h
      · exact .inr (.inr ⟨h1, h2, by omega⟩)
    · exact .inr (.inl ⟨h1, by omega⟩)
  · exact .inl (by omega)

/-- Is a number within its bounds? -/
def inB (n a b : Int) : Bool := decide (a ≤ n ∧ n ≤ b)
theorem within_any (n a b : Int) (w : World) : Calls Try.prog 99 #[.int .i64 n, .int .i64 a, .int .i64 b] w fun e w' => e = .returned (.bool (inB n a b)) ∧ w' = w := by
  by_cases h : a ≤ n ∧ n ≤ b
  · rw [show inB n a b = true from decide_eq_true h]
    exact (within_yes n a b w h.1 h.2).mono fun _ _ h => ⟨h.1, h.2.symm⟩
  · rw [show inB n a b = false from decide_eq_false h]
    exact (within_no n a b w (by omega)).mono fun _ _ h => ⟨h.1, h.2.symm⟩
theorem inB_yes {n a b : Int} (h : a ≤ n ∧ n ≤ b) : inB n a b = true := decide_eq_true h
theorem inB_no {n a b : Int} (h : n < a ∨ b < n) : inB n a b = false := decide_eq_false (by omega)

theorem right_outD (d r s : Int) (w : World) (e1 : inB d 3 16 = false) :
    Calls Try.prog 56 #[gv d r s] w fun e w' => e = .returned (.bool false) ∧ Below w.heap.size w w' := by
  go_enter Try.func56, Try.ntmps56
  go_wp2_with (fail)
  go_quiet ((go_at_call 99; exact Calls.quiet_of_same (within_any _ _ _ _)))
  go_wp2_with (fail)
  go_ret
  exact ⟨rfl, below_drewN ((Below.refl _ _).alloc (Nat.le_refl _) _) _⟩
theorem right_outR (d r s : Int) (w : World) (e1 : inB d 3 16 = true) (e2 : inB r 1 4 = false) :
    Calls Try.prog 56 #[gv d r s] w fun e w' => e = .returned (.bool false) ∧ Below w.heap.size w w' := by
  go_enter Try.func56, Try.ntmps56
  go_wp2_with (fail)
  go_quiet ((go_at_call 99; exact Calls.quiet_of_same (within_any _ _ _ _)))
  go_wp2_with (fail)
  go_ret
  exact ⟨rfl, below_drewN ((Below.refl _ _).alloc (Nat.le_refl _) _) _⟩
theorem right_outS (d r s : Int) (w : World) (e1 : inB d 3 16 = true) (e2 : inB r 1 4 = true) (e3 : inB s 12 64 = false) :
    Calls Try.prog 56 #[gv d r s] w fun e w' => e = .returned (.bool false) ∧ Below w.heap.size w w' := by
  go_enter Try.func56, Try.ntmps56
  go_wp2_with (fail)
  go_quiet ((go_at_call 99; exact Calls.quiet_of_same (within_any _ _ _ _)))
  go_wp2_with (fail)
  go_ret
  exact ⟨rfl, below_drewN ((Below.refl _ _).alloc (Nat.le_refl _) _) _⟩
theorem right_out (d r s : Int) (w : World) (h : ¬ Bd d r s) :
    Calls Try.prog 56 #[gv d r s] w fun e w' => e = .returned (.bool false) ∧ Below w.heap.size w w' := by
  rcases not_Bd h with h1 | ⟨h0, h1⟩ | ⟨h0, h00, h1⟩
  · exact right_outD d r s w (inB_no h1)
  · exact right_outR d r s w (inB_yes h0) (inB_no h1)
  · exact right_outS d r s w (inB_yes h0) (inB_yes h00) (inB_no h1)

theorem right_yes (d r s : Int) (w : World) (h : Rt d r s) : Calls Try.prog 56 #[gv d r s] w fun e w' => e = .returned (.bool true) ∧ Below w.heap.size w w' := by
  have := right_bd d r s w h.toBd
  rwa [decide_eq_true h.q] at this
theorem right_no (d r s : Int) (w : World) (h : ¬ Rt d r s) : Calls Try.prog 56 #[gv d r s] w fun e w' => e = .returned (.bool false) ∧ Below w.heap.size w w' := by
  by_cases hb : Bd d r s
  · have := right_bd d r s w hb
    rwa [decide_eq_false (fun q => h ⟨hb, q⟩)] at this
  · exact right_out d r s w hb


/-- A geometry lies in block b. -/
structure Bx (w : World) (b : Nat) (d r s : Int) : Prop where
  lt : b < w.heap.size
  c0 : w.cell? ⟨b, 0, none⟩ = some (.int .i64 d)
  c1 : w.cell? ⟨b, 1, none⟩ = some (.int .i64 r)
  c2 : w.cell? ⟨b, 2, none⟩ = some (.int .i64 s)
theorem Bx.below {w w' : World} {b B : Nat} {d r s : Int} (h : Bx w b d r s) (hb : Below B w w') (hB : w.heap.size ≤ B) : Bx w' b d r s := by
  have hl := Nat.lt_of_lt_of_le h.lt hB
  exact ⟨Nat.lt_of_lt_of_le h.lt hb.size, (hb.cell (p := ⟨b, 0, none⟩) hl).trans h.c0, (hb.cell (p := ⟨b, 1, none⟩) hl).trans h.c1, (hb.cell (p := ⟨b, 2, none⟩) hl).trans h.c2⟩
theorem Bx.next {w w' : World} {b : Nat} {d r s : Int} (h : Bx w b d r s) (hb : Below w.heap.size w w') : Bx w' b d r s := h.below hb (Nat.le_refl _)
theorem Bx.mk' (w : World) (d r s : Int) (t : TypeId) : Bx (w.alloc (.cells #[.int .i64 d, .int .i64 r, .int .i64 s] t (0, 0))) w.heap.size d r s :=
  ⟨by simp, by go_simp, by go_simp, by go_simp⟩
theorem Bx.alloc {w : World} {b : Nat} {d r s : Int} (h : Bx w b d r s) (o : Obj) : Bx (w.alloc o) b d r s := h.below (((Below.refl _ _).alloc (Nat.le_refl _) o)) (Nat.le_refl _)
theorem Bx.drew {w : World} {b : Nat} {d r s : Int} (h : Bx w b d r s) : Bx w.drew b d r s := ⟨h.lt, h.c0, h.c1, h.c2⟩
/-- A spot's cells, free. -/
structure Sx (w : World) (b : Nat) : Prop where
  lt : b < w.heap.size
  c0 : ∃ v, w.cell? ⟨b, 0, none⟩ = some v
  c1 : ∃ v, w.cell? ⟨b, 1, none⟩ = some v
  f0 : w.frozen? ⟨b, 0, none⟩ = false
  f1 : w.frozen? ⟨b, 1, none⟩ = false
theorem Sx.mk' (w : World) (x y : Value) (t : TypeId) : Sx (w.alloc (.cells #[x, y] t (0, 0))) w.heap.size :=
  ⟨by simp, ⟨x, by go_simp⟩, ⟨y, by go_simp⟩, by go_simp, by go_simp⟩
theorem two (w : World) (d r s : Int) (t t' : TypeId) :
    Bx ((w.alloc (.cells #[.int .i64 d, .int .i64 r, .int .i64 s] t (0, 0))).alloc (.cells #[.int .i64 0, .int .i64 0] t' (0, 0))) w.heap.size d r s ∧ Sx ((w.alloc (.cells #[.int .i64 d, .int .i64 r, .int .i64 s] t (0, 0))).alloc (.cells #[.int .i64 0, .int .i64 0] t' (0, 0))) (w.heap.size + 1) := by
  refine ⟨(Bx.mk' w d r s t).alloc _, ?_⟩
  have hs := Sx.mk' (w.alloc (.cells #[.int .i64 d, .int .i64 r, .int .i64 s] t (0, 0))) (.int .i64 0) (.int .i64 0) t'
  simpa using hs

theorem rright_d1 (d r s : Int) (w : World) (h : d < 3) :
    Calls Try.prog 57 #[gv d r s] w fun e w' => e = .returned (.bool false) ∧ Below w.heap.size w w' := by
  have x1 := Bx.mk' w d r s 23
  go_enter Try.func57, Try.ntmps57
  go_wp2_with (fail)
  go_ret
  exact ⟨rfl, (Below.refl _ _).alloc (Nat.le_refl _) _⟩
theorem rright_d2 (d r s : Int) (w : World) (h : 16 < d) :
    Calls Try.prog 57 #[gv d r s] w fun e w' => e = .returned (.bool false) ∧ Below w.heap.size w w' := by
  have x1 := Bx.mk' w d r s 23
  have f1 : decide (d < 3) = false := decide_eq_false (by omega)
  go_enter Try.func57, Try.ntmps57
  go_wp2_with (fail)
  go_ret
  exact ⟨rfl, (Below.refl _ _).alloc (Nat.le_refl _) _⟩
theorem rright_r1 (d r s : Int) (w : World) (d1 : 3 ≤ d) (d2 : d ≤ 16) (h : r < 1) :
    Calls Try.prog 57 #[gv d r s] w fun e w' => e = .returned (.bool false) ∧ Below w.heap.size w w' := by
  have x1 := Bx.mk' w d r s 23
  have f1 : decide (d < 3) = false := decide_eq_false (by omega)
  have f2 : decide (16 < d) = false := decide_eq_false (by omega)
  go_enter Try.func57, Try.ntmps57
  go_wp2_with (fail)
  go_ret
  exact ⟨rfl, (Below.refl _ _).alloc (Nat.le_refl _) _⟩
theorem rright_r2 (d r s : Int) (w : World) (d1 : 3 ≤ d) (d2 : d ≤ 16) (h : 4 < r) :
    Calls Try.prog 57 #[gv d r s] w fun e w' => e = .returned (.bool false) ∧ Below w.heap.size w w' := by
  have x1 := Bx.mk' w d r s 23
  have f1 : decide (d < 3) = false := decide_eq_false (by omega)
  have f2 : decide (16 < d) = false := decide_eq_false (by omega)
  have f3 : decide (r < 1) = false := decide_eq_false (by omega)
  go_enter Try.func57, Try.ntmps57
  go_wp2_with (fail)
  go_ret
  exact ⟨rfl, (Below.refl _ _).alloc (Nat.le_refl _) _⟩
theorem rright_s1 (d r s : Int) (w : World) (d1 : 3 ≤ d) (d2 : d ≤ 16) (r1 : 1 ≤ r) (r2 : r ≤ 4) (h : s < 12) :
    Calls Try.prog 57 #[gv d r s] w fun e w' => e = .returned (.bool false) ∧ Below w.heap.size w w' := by
  have x1 := Bx.mk' w d r s 23
  have f1 : decide (d < 3) = false := decide_eq_false (by omega)
  have f2 : decide (16 < d) = false := decide_eq_false (by omega)
  have f3 : decide (r < 1) = false := decide_eq_false (by omega)
  have f4 : decide (4 < r) = false := decide_eq_false (by omega)
  go_enter Try.func57, Try.ntmps57
  go_wp2_with (fail)
  go_ret
  exact ⟨rfl, (Below.refl _ _).alloc (Nat.le_refl _) _⟩
theorem rright_s2 (d r s : Int) (w : World) (d1 : 3 ≤ d) (d2 : d ≤ 16) (r1 : 1 ≤ r) (r2 : r ≤ 4) (h : 64 < s) :
    Calls Try.prog 57 #[gv d r s] w fun e w' => e = .returned (.bool false) ∧ Below w.heap.size w w' := by
  have x1 := Bx.mk' w d r s 23
  have f1 : decide (d < 3) = false := decide_eq_false (by omega)
  have f2 : decide (16 < d) = false := decide_eq_false (by omega)
  have f3 : decide (r < 1) = false := decide_eq_false (by omega)
  have f4 : decide (4 < r) = false := decide_eq_false (by omega)
  have f5 : decide (s < 12) = false := decide_eq_false (by omega)
  go_enter Try.func57, Try.ntmps57
  go_wp2_with (fail)
  go_ret
  exact ⟨rfl, (Below.refl _ _).alloc (Nat.le_refl _) _⟩
theorem rright_bd (d r s : Int) (w : World) (h : Bd d r s) :
    Calls Try.prog 57 #[gv d r s] w fun e w' => e = .returned (.bool (decide (8 ≤ QC s * PL d r))) ∧ Below w.heap.size w w' := by
  obtain ⟨p1, p2, p3, p4⟩ := PL_bd h.d1 h.d2 h.r1 h.r2
  obtain ⟨q1, q2⟩ := QP_bd h
  obtain ⟨d1, d2, r1, r2, s1, s2⟩ := h
  have f1 : decide (d < 3) = false := decide_eq_false (by omega)
  have f2 : decide (16 < d) = false := decide_eq_false (by omega)
  have f3 : decide (r < 1) = false := decide_eq_false (by omega)
  have f4 : decide (4 < r) = false := decide_eq_false (by omega)
  have f5 : decide (s < 12) = false := decide_eq_false (by omega)
  have f6 : decide (64 < s) = false := decide_eq_false (by omega)
  unfold QC PL at q1 q2 ⊢
  go_enter Try.func57, Try.ntmps57
  go_wp2_with (fail)
  go_ret
  exact ⟨rfl, (Below.refl _ _).alloc (Nat.le_refl _) _⟩
theorem rright_yes (d r s : Int) (w : World) (h : Rt d r s) : Calls Try.prog 57 #[gv d r s] w fun e w' => e = .returned (.bool true) ∧ Below w.heap.size w w' := by
  have := rright_bd d r s w h.toBd
  rwa [decide_eq_true h.q] at this
theorem rright_no (d r s : Int) (w : World) (h : ¬ Rt d r s) : Calls Try.prog 57 #[gv d r s] w fun e w' => e = .returned (.bool false) ∧ Below w.heap.size w w' := by
  by_cases hb : Bd d r s
  · have := rright_bd d r s w hb
    rwa [decide_eq_false (fun q => h ⟨hb, q⟩)] at this
  · rcases not_Bd hb with h1 | ⟨h0, h1⟩ | ⟨h0, h00, h1⟩
    · rcases h1 with h1 | h1
      · exact rright_d1 d r s w h1
      · exact rright_d2 d r s w h1
    · rcases h1 with h1 | h1
      · exact rright_r1 d r s w h0.1 h0.2 h1
      · exact rright_r2 d r s w h0.1 h0.2 h1
    · rcases h1 with h1 | h1
      · exact rright_s1 d r s w h0.1 h0.2 h00.1 h00.2 h1
      · exact rright_s2 d r s w h0.1 h0.2 h00.1 h00.2 h1

theorem rplaces_yes (d r s : Int) (w : World) (h : Rt d r s) : Calls Try.prog 91 #[gv d r s] w fun e w' => e = .returned (.int .i64 (PL d r)) ∧ Below w.heap.size w w' := by
  have x1 := Bx.mk' w d r s 23
  have hB1 : Below w.heap.size w (w.alloc (.cells #[.int .i64 d, .int .i64 r, .int .i64 s] 23 (0, 0))) := (Below.refl _ _).alloc (Nat.le_refl _) _
  obtain ⟨p1, p2, p3, p4⟩ := PL_bd h.d1 h.d2 h.r1 h.r2
  have d1 := h.d1
  have d2 := h.d2
  unfold PL
  go_enter Try.func91, Try.ntmps91
  go_wp2_with (fail)
  refine (rright_yes d r s _ h).mono ?_
  rintro e w2 ⟨rfl, hb2⟩
  have x2 := x1.next hb2
  have hB2 := hB1.trans (hb2.mono (Nat.le_of_lt x1.lt))
  clear x1 hB1
  have y1 := x2.c0
  have y2 := x2.c1
  have y3 := x2.c2
  go_wp2_with (fail)
  go_ret
  exact ⟨rfl, hB2⟩
end Go.Proofs.Ytegcjpocdfmpfaa
