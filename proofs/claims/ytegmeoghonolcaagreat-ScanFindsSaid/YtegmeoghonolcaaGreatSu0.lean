/-
  Summaries: what they are in memory, and when their root is right.
-/
import Derived.Test.YtegmeoghonolcaaGreatGpa
import Derived.Test.YtegmeoghonolcaaGreatGe
set_option linter.unusedSimpArgs false
set_option linter.unusedVariables false
namespace Go.Proofs.YtegmeoghonolcaaGreat
open Go.RowKit
set_option linter.unusedVariables false

/-- A summary by value. -/
def umv (c i n t : Int) : Value := .agg #[.int .i64 c, .int .i64 i, .int .i64 n, .int .i64 t]
/-- A geometry's box and behind it a summary's. -/
structure Gu (w : World) (g : Nat) (d r s c i n t : Int) : Prop where
  lt : g + 1 < w.heap.size
  b0 : w.cell? ⟨g, 0, none⟩ = some (.int .i64 d)
  b1 : w.cell? ⟨g, 1, none⟩ = some (.int .i64 r)
  b2 : w.cell? ⟨g, 2, none⟩ = some (.int .i64 s)
  u0 : w.cell? ⟨g + 1, 0, none⟩ = some (.int .i64 c)
  u1 : w.cell? ⟨g + 1, 1, none⟩ = some (.int .i64 i)
  u2 : w.cell? ⟨g + 1, 2, none⟩ = some (.int .i64 n)
  u3 : w.cell? ⟨g + 1, 3, none⟩ = some (.int .i64 t)
theorem Gu.next {w w' : World} {g : Nat} {d r s c i n t : Int} (h : Gu w g d r s c i n t) (hb : Below w.heap.size w w') : Gu w' g d r s c i n t := by
  have h1 := h.lt
  have h2 : g < w.heap.size := by omega
  exact ⟨Nat.lt_of_lt_of_le h.lt hb.size, (hb.cell (p := ⟨g, 0, none⟩) h2).trans h.b0, (hb.cell (p := ⟨g, 1, none⟩) h2).trans h.b1, (hb.cell (p := ⟨g, 2, none⟩) h2).trans h.b2, (hb.cell (p := ⟨g + 1, 0, none⟩) h1).trans h.u0, (hb.cell (p := ⟨g + 1, 1, none⟩) h1).trans h.u1, (hb.cell (p := ⟨g + 1, 2, none⟩) h1).trans h.u2, (hb.cell (p := ⟨g + 1, 3, none⟩) h1).trans h.u3⟩
theorem Gu.drew {w : World} {g : Nat} {d r s c i n t : Int} (h : Gu w g d r s c i n t) : Gu w.drew g d r s c i n t := ⟨h.lt, h.b0, h.b1, h.b2, h.u0, h.u1, h.u2, h.u3⟩
theorem Gu.mk' (w : World) (d r s c i n t : Int) : Gu ((w.alloc (.cells #[.int .i64 d, .int .i64 r, .int .i64 s] 33 (0, 0))).alloc (.cells #[.int .i64 c, .int .i64 i, .int .i64 n, .int .i64 t] 57 (0, 0))) w.heap.size d r s c i n t := by
  exact ⟨by simp, by simp, by simp, by simp, by simp, by simp, by simp, by simp⟩
/-- Is a summary's root right? (Of a geometry that is, and a Count that is.) -/
def rootO (d r s c i t : Int) : Bool := if i = c - 1 then decide (1 ≤ t ∧ t ≤ s * PL d r) else decide (t = 0)

set_option maxHeartbeats 1000000 in
theorem isRoot_any (d r s c i n t : Int) (w : World) (hR : Rt d r s) (hc : 1 ≤ c) (hc2 : c ≤ s) :
    Calls Tryz.prog 96 #[gv d r s, umv c i n t] w fun e w' => e = .returned (.bool (rootO d r s c i t)) ∧ Below w.heap.size w w' := by
  obtain ⟨X, hX⟩ : ∃ X, X = (w.alloc (.cells #[.int .i64 d, .int .i64 r, .int .i64 s] 33 (0, 0))).alloc (.cells #[.int .i64 c, .int .i64 i, .int .i64 n, .int .i64 t] 57 (0, 0)) := ⟨_, rfl⟩
  have hu : Gu X w.heap.size d r s c i n t := by rw [hX]; exact Gu.mk' w d r s c i n t
  have hB : Below w.heap.size w X := by rw [hX]; exact bel2 _ _ _
  have w1 : IntKind.i64.wrap (c - 1) = c - 1 := IntWalk.i64_in _ (by have := hR.s2; omega)
  obtain ⟨g, hg⟩ : ∃ g, g = w.heap.size := ⟨_, rfl⟩
  have HB := Lib.hid hB
  rw [← hg] at hu
  have HU := Lib.hid hu
  have HX := Lib.hid hX
  unfold umv
  clear hu hB hX
  unfold rootO
  by_cases hi : i = c - 1
  · rw [if_pos hi]
    have HI := Lib.hid hi
    have hwh : Calls Tryz.prog 130 #[gv d r s, .int .i64 t] X fun e w' => (∃ x y, e = .returned (.tuple #[.int .i64 x, .int .i64 y, .bool (decide (1 ≤ t ∧ t ≤ s * PL d r))])) ∧ Below X.heap.size X w' := by
      by_cases ht : 1 ≤ t ∧ t ≤ s * PL d r
      · rw [decide_eq_true ht]
        exact (where_yes d r s t X hR ht.1 ht.2).mono fun e w' ⟨a, b⟩ => ⟨⟨_, _, a⟩, b⟩
      · rw [decide_eq_false ht]
        exact (where_no d r s t X (fun h => ht ⟨h.n0, h.n1⟩)).mono fun e w' ⟨a, b⟩ => ⟨⟨_, _, a⟩, b⟩
    obtain ⟨ok, hok⟩ : ∃ ok, ok = decide (1 ≤ t ∧ t ≤ s * PL d r) := ⟨_, rfl⟩
    rw [← hok] at hwh ⊢
    have d1 : (i != c - 1) = false := by simp [hi]
    rw [HX.out] at hwh
    clear hok hi
    go_enter Tryz.func96, Tryz.ntmps96
    go_wp2_with (fail)
    refine hwh.mono ?_
    rintro e w2 ⟨⟨x, y, rfl⟩, hb2⟩
    rw [← HX.out] at hb2
    have HB2 := Lib.hid (HB.out.trans (hb2.mono HB.out.size))
    clear hb2 hwh
    go_wp2_with (fail)
    go_ret
    exact ⟨rfl, HB2.out⟩
  · rw [if_neg hi]
    have d1 : (i != c - 1) = true := by simp [hi]
    have hb := HB.out
    rw [HX.out] at hb
    have HB' := Lib.hid hb
    clear hi hb
    go_enter Tryz.func96, Tryz.ntmps96
    go_wp2_with (fail)
    go_ret
    exact ⟨rfl, HB'.out⟩
end Go.Proofs.YtegmeoghonolcaaGreat
