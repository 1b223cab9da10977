/-
  The plain words of the geometry, and a contract for each small function of the program.
-/
import Derived.Test.YtdgjhfghggcfaaaRows
import Derived.WalkKit
import Derived.WalkSpells
import Derived.WalkLawsBesides
import Derived.WalkSmall
import Derived.Deep.QuietTactic
import Derived.Deep.RegionHeld3
import Derived.BigQuiet
import Derived.IntWalk
import Derived.Lib.Hide
import Derived.ProofKit
namespace Go.Proofs.Ytdgjhfghggcfaaa
open Go.RowKit

/-- A geometry, as a value. -/
abbrev gv (d r s : Int) : Value := .agg #[.int .i64 d, .int .i64 r, .int .i64 s]
/-- How many places a segment has. -/
def PL (d r : Int) : Int := r * (d - 1) - 1
/-- How many segments there may be for all but data. -/
def QC (s : Int) : Int := 1 + s / 8
/-- The numbers are within the bounds. -/
structure Bd (d r s : Int) : Prop where
  d1 : 3 ≤ d
  d2 : d ≤ 16
  r1 : 1 ≤ r
  r2 : r ≤ 4
  s1 : 12 ≤ s
  s2 : s ≤ 64
/-- A geometry is right. -/
structure Rt (d r s : Int) : Prop extends Bd d r s where
  q : 8 ≤ QC s * PL d r

theorem PL_bd {d r : Int} (d1 : 3 ≤ d) (d2 : d ≤ 16) (r1 : 1 ≤ r) (r2 : r ≤ 4) : 1 ≤ PL d r ∧ PL d r ≤ 59 ∧ 2 ≤ r * (d - 1) ∧ r * (d - 1) ≤ 60 := by
  unfold PL
  rcases (by omega : r = 1 ∨ r = 2 ∨ r = 3 ∨ r = 4) with h | h | h | h <;> subst h <;> omega
theorem QC_bd {s : Int} (s1 : 12 ≤ s) (s2 : s ≤ 64) : 2 ≤ QC s ∧ QC s ≤ 9 := by unfold QC; omega
theorem mul_bd {a b x y : Int} (a0 : 0 ≤ a) (ax : a ≤ x) (b0 : 0 ≤ b) (by' : b ≤ y) : 0 ≤ a * b ∧ a * b ≤ x * y :=
  ⟨Int.mul_nonneg a0 b0, Int.mul_le_mul ax by' b0 (Int.le_trans a0 ax)⟩
theorem QP_bd {d r s : Int} (h : Bd d r s) : 0 ≤ QC s * PL d r ∧ QC s * PL d r ≤ 531 := by
  have h1 := PL_bd h.d1 h.d2 h.r1 h.r2
  have h2 := QC_bd h.s1 h.s2
  exact mul_bd (x := 9) (y := 59) (by omega) h2.2 (by omega) h1.2.1

theorem bcell {W w1 : World} (hb : Below W.heap.size W w1) : (∀ b o, b < W.heap.size → w1.cell? ⟨b, o, none⟩ = W.cell? ⟨b, o, none⟩) ∧ (∀ b o, b < W.heap.size → w1.frozen? ⟨b, o, none⟩ = W.frozen? ⟨b, o, none⟩) :=
  ⟨fun b o h => hb.cell (p := ⟨b, o, none⟩) h, fun b o h => hb.frozen (p := ⟨b, o, none⟩) h⟩

set_option maxHeartbeats 400000 in
theorem within_yes (n a b : Int) (w : World) (h1 : a ≤ n) (h2 : n ≤ b) :
    Calls Try.prog 35 #[.int .i64 n, .int .i64 a, .int .i64 b] w fun e w' => e = .returned (.bool true) ∧ w = w' := by
  go_enter Try.func35, Try.ntmps35
  go_wp2_with (fail)
  go_ret
  exact ⟨rfl, rfl⟩
set_option maxHeartbeats 400000 in
theorem within_no (n a b : Int) (w : World) (h : n < a ∨ b < n) :
    Calls Try.prog 35 #[.int .i64 n, .int .i64 a, .int .i64 b] w fun e w' => e = .returned (.bool false) ∧ w = w' := by
  by_cases h1 : a ≤ n
  · have h2 : ¬ n ≤ b := by omega
    clear h
    go_enter Try.func35, Try.ntmps35
    go_wp2_with (fail)
    go_ret
    exact ⟨rfl, rfl⟩
  · clear h
    go_enter Try.func35, Try.ntmps35
    go_wp2_with (fail)
    go_ret
    exact ⟨rfl, rfl⟩
set_option maxHeartbeats 400000 in
theorem perRow_any (d r s : Int) (w : World) (h1 : 3 ≤ d) (h2 : d ≤ 16) :
    Calls Try.prog 43 #[gv d r s] w fun e w' => e = .returned (.int .i64 (d - 1)) ∧ Below w.heap.size w w' := by
  go_enter Try.func43, Try.ntmps43
  go_wp2_with (fail)
  go_ret
  exact ⟨rfl, (Below.refl _ _).alloc (Nat.le_refl _) _⟩
set_option maxHeartbeats 400000 in
theorem otherCap_any (d r s : Int) (w : World) (h1 : 12 ≤ s) (h2 : s ≤ 64) :
    Calls Try.prog 34 #[gv d r s] w fun e w' => e = .returned (.int .i64 (QC s)) ∧ Below w.heap.size w w' := by
  go_enter Try.func34, Try.ntmps34
  go_wp2_with (fail)
  go_ret
  exact ⟨rfl, (Below.refl _ _).alloc (Nat.le_refl _) _⟩
/-- The disk that has a stripe's parity. -/
def PD (d q : Int) : Int := d - 1 - q % d
theorem PD_bd {d q : Int} (h1 : 3 ≤ d) : 0 ≤ PD d q ∧ PD d q < d := by
  have a := Int.emod_nonneg q (show d ≠ 0 by omega)
  have b := Int.emod_lt_of_pos q (show 0 < d by omega)
  unfold PD; omega
theorem bel_box {w w2 : World} {B : Nat} (o : Obj) (hB : w.heap.size ≤ B) (hb : Below B (w.alloc o).drew w2) : Below w.heap.size w w2 :=
  ((Below.refl _ _).alloc (Nat.le_refl _) o).drew.trans (hb.mono hB)
theorem size_box {w w2 : World} {B : Nat} (o : Obj) (hb : Below B (w.alloc o).drew w2) : w.heap.size < w2.heap.size := by
  have := hb.size; simp at this; omega
set_option maxHeartbeats 400000 in
theorem placesS_any (d r s : Int) (w : World) (h1 : 3 ≤ d) (h2 : d ≤ 16) (h3 : 1 ≤ r) (h4 : r ≤ 4) :
    Calls Try.prog 33 #[gv d r s] w fun e w' => e = .returned (.int .i64 (PL d r)) ∧ Below w.heap.size w w' := by
  obtain ⟨p1, p2, p3, p4⟩ := PL_bd h1 h2 h3 h4
  have e1 : IntKind.i64.wrap (r * (d - 1)) = r * (d - 1) := IntWalk.i64_in _ (by omega)
  have e2 : IntKind.i64.wrap (r * (d - 1) - 1) = PL d r := IntWalk.i64_in _ (by omega)
  go_enter Try.func33, Try.ntmps33
  go_wp2_with (fail)
  go_region_held3 (fun w' => w'.cell? ⟨w.heap.size, 0, none⟩ = some (.int .i64 d) ∧ w'.cell? ⟨w.heap.size, 1, none⟩ = some (.int .i64 r) ∧ w'.cell? ⟨w.heap.size, 2, none⟩ = some (.int .i64 s))
    (first | go_keep | exact ⟨(hb.cell (p := ⟨w.heap.size, 0, none⟩) (by simp)).trans (by go_simp), (hb.cell (p := ⟨w.heap.size, 1, none⟩) (by simp)).trans (by go_simp), (hb.cell (p := ⟨w.heap.size, 2, none⟩) (by simp)).trans (by go_simp)⟩)
    (first | (go_at_call 43
              refine (perRow_any d r s _ h1 h2).mono ?_
              rintro e w2 ⟨rfl, hb⟩))
  go_wp2_with (fail)
  go_ret
  exact ⟨rfl, bel_box _ (by simp) hb⟩

end Go.Proofs.Ytdgjhfghggcfaaa
