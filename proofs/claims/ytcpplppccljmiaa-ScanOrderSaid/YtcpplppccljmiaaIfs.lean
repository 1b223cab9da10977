/-
  Infos and groups in memory; an info's kin, by contract.
-/
import Derived.Test.YtcpplppccljmiaaGp
import Derived.Test.YtcpplppccljmiaaSpot
import Derived.Test.YtcpplppccljmiaaInts
namespace Go.Proofs.Ytcpplppccljmiaa
open Go.RowKit
set_option linter.unusedVariables false

/-- An info's cells. -/
def ifc (x : Inf) : List Value := [.int .i64 x.g, .int .i64 x.q, .int .i64 x.c, .int .i64 x.i, .int .i64 x.b, .int .i64 x.r]
/-- An info by value. -/
def ifv (x : Inf) : Value := .agg #[.int .i64 x.g, .int .i64 x.q, .int .i64 x.c, .int .i64 x.i, .int .i64 x.b, .int .i64 x.r]
/-- Its Seq and its Count are numbers. -/
def Inf.W (x : Inf) : Prop := x.q < 9223372036854775808 ∧ x.c < 9223372036854775808
def kinF (x : Inf) : Int := if x.ok then x.q - x.i else 0
def kinC (x : Inf) : Int := if x.ok then x.c else 0

theorem bel2 (w : World) (o p : Obj) : Below w.heap.size w ((w.alloc o).alloc p) := ((Below.refl _ _).alloc (Nat.le_refl _) _).alloc (by simp) _
set_option maxHeartbeats 1000000 in
theorem kinOf_any (x : Inf) (w : World) (hW : x.W) :
    Calls Try.prog 40 #[ifv x] w fun e w' => e = .returned (.tuple #[.agg #[.int .i64 (kinF x), .int .i64 (kinC x)], .bool x.ok]) ∧ Below w.heap.size w w' := by
  obtain ⟨g, q, c, i, b, r⟩ := x
  obtain ⟨hq, hc⟩ := hW
  simp only at hq hc
  unfold ifv
  simp only
  by_cases h1 : i < 0
  · have ho : Inf.ok ⟨g, q, c, i, b, r⟩ = false := decide_eq_false (by simp only; omega)
    unfold kinF kinC
    rw [ho]
    simp only [Bool.false_eq_true, if_false]
    clear ho
    go_enter Try.func40, Try.ntmps40
    go_wp2_with (fail)
    exact bodyPost_ret (v := .tuple #[.agg #[.int .i64 0, .int .i64 0], .bool false]) (by simp [results, Try.results40, go_sem]) rfl ⟨rfl, bel2 _ _ _⟩
  have d1 : decide (i < 0) = false := decide_eq_false h1
  by_cases h2 : i < c
  · have d2 : decide (c ≤ i) = false := decide_eq_false (by omega)
    by_cases h3 : q < i
    · have ho : Inf.ok ⟨g, q, c, i, b, r⟩ = false := decide_eq_false (by simp only; omega)
      unfold kinF kinC
      rw [ho]
      simp only [Bool.false_eq_true, if_false]
      clear ho
      go_enter Try.func40, Try.ntmps40
      go_wp2_with (fail)
      exact bodyPost_ret (v := .tuple #[.agg #[.int .i64 0, .int .i64 0], .bool false]) (by simp [results, Try.results40, go_sem]) rfl ⟨rfl, bel2 _ _ _⟩
    · have ho : Inf.ok ⟨g, q, c, i, b, r⟩ = true := decide_eq_true (by simp only; omega)
      have d3 : decide (q < i) = false := decide_eq_false h3
      have w1 : IntKind.i64.wrap (q - i) = q - i := IntWalk.i64_in _ (by omega)
      unfold kinF kinC
      rw [ho]
      simp only [if_true]
      clear ho
      go_enter Try.func40, Try.ntmps40
      go_wp2_with (fail)
      exact bodyPost_ret (v := .tuple #[.agg #[.int .i64 (q - i), .int .i64 c], .bool true]) (by simp [results, Try.results40, go_sem]) rfl ⟨rfl, bel2 _ _ _⟩
  · have ho : Inf.ok ⟨g, q, c, i, b, r⟩ = false := decide_eq_false (by simp only; omega)
    unfold kinF kinC
    rw [ho]
    simp only [Bool.false_eq_true, if_false]
    clear ho
    have d2 : c ≤ i := by omega
    go_enter Try.func40, Try.ntmps40
    go_wp2_with (fail)
    exact bodyPost_ret (v := .tuple #[.agg #[.int .i64 0, .int .i64 0], .bool false]) (by simp [results, Try.results40, go_sem]) rfl ⟨rfl, bel2 _ _ _⟩

/-- cmp.Compare of numbers. -/
def cmpI (x y : Int) : Int := if x < y then -1 else if y < x then 1 else 0
theorem isNaN_any (x : Int) (w : World) : Calls Try.prog 43 #[.int .i64 x] w fun e w' => e = .returned (.bool false) ∧ w' = w := by
  go_enter Try.func43, Try.ntmps43
  go_wp2_with (fail)
  go_ret
  exact ⟨rfl, rfl⟩
set_option maxHeartbeats 1000000 in
theorem cmp_any (x y : Int) (w : World) : Calls Try.prog 26 #[.int .i64 x, .int .i64 y] w fun e w' => e = .returned (.int .i64 (cmpI x y)) ∧ w' = w := by
  unfold cmpI
  go_enter Try.func26, Try.ntmps26
  go_wp2_with (first | (go_at_call 43; refine (isNaN_any _ _).mono ?_; rintro e w' ⟨rfl, rfl⟩))
  all_goals go_ret
  all_goals exact ⟨rfl, rfl⟩
end Go.Proofs.Ytcpplppccljmiaa
