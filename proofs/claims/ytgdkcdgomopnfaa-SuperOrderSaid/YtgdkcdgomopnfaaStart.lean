/-
  A kind's start and widths, by contract.
-/
import Derived.Test.YtgdkcdgomopnfaaSpec
namespace Go.Proofs.Ytgdkcdgomopnfaa
open Go.RowKit

/-- One of the three kinds. -/
def Kd (k : Int) : Prop := k = 1 ∨ k = 2 ∨ k = 3
def StartPost (k : Int) (w : World) (e : Ending) (w' : World) : Prop := ∃ v, e = .returned v ∧ Own w' w.heap.size v 4 (startL k) ∧ Below w.heap.size w w'
theorem own_lit (w : World) (k : Int) (h : 0 ≤ k ∧ k ≤ 255) : Own (w.alloc (.cells #[.int .u8 77, .int .u8 79, .int .u8 82, .int .u8 k] 5 (0, 0))) w.heap.size (.slice (some ⟨w.heap.size, 0, none⟩) 4 4) 4 (startL k) := by
  refine ⟨World.ownsRow_lit w #[.int .u8 77, .int .u8 79, .int .u8 82, .int .u8 k] 4 (Nat.le_refl _) (by unfold maxLen; omega) rfl, fun z hz => ?_⟩
  simp only [startL, List.mem_cons, List.not_mem_nil, or_false] at hz
  rcases hz with rfl | rfl | rfl | rfl <;> omega
theorem start_any (k : Int) (w : World) (hk : Kd k) : Calls Try.prog 51 #[.int .i64 k] w (StartPost k w) := by
  rcases hk with rfl | rfl | rfl
  · go_enter Try.func51, Try.ntmps51
    go_wp2_with (fail)
    go_ret
    exact ⟨_, rfl, own_lit w 1 (by omega), (Below.refl _ _).alloc (Nat.le_refl _) _⟩
  · go_enter Try.func51, Try.ntmps51
    go_wp2_with (fail)
    go_ret
    exact ⟨_, rfl, own_lit w 2 (by omega), (Below.refl _ _).alloc (Nat.le_refl _) _⟩
  · go_enter Try.func51, Try.ntmps51
    go_wp2_with (fail)
    go_ret
    exact ⟨_, rfl, own_lit w 3 (by omega), (Below.refl _ _).alloc (Nat.le_refl _) _⟩

/-- A slice of numbers that a call answers. -/
def RetI (w0 : World) (ks : List Int) (e : Ending) (w' : World) : Prop := ∃ a c, e = .returned (.slice a ks.length c) ∧ Ins w' a ks.length ks ∧ ks.length ≤ c ∧ c ≤ 9223372036854775807 ∧ (∀ x, a = some x → w0.heap.size ≤ x.block) ∧ Below w0.heap.size w0 w'
theorem widths_any (k : Int) (w : World) (hk : Kd k) : Calls Try.prog 52 #[.int .i64 k] w (RetI w (wids k)) := by
  rcases hk with rfl | rfl | rfl
  · go_enter Try.func52, Try.ntmps52
    go_wp2_with (fail)
    go_ret
    exact ⟨_, 3, rfl, ins_three w 1 1 1, (by decide), (by decide), (fun x h => by cases h; exact Nat.le_refl _), (Below.refl _ _).alloc (Nat.le_refl _) _⟩
  · go_enter Try.func52, Try.ntmps52
    go_wp2_with (fail)
    go_ret
    exact ⟨_, 1, rfl, ins_one w 4, (by decide), (by decide), (fun x h => by cases h; exact Nat.le_refl _), (Below.refl _ _).alloc (Nat.le_refl _) _⟩
  · go_enter Try.func52, Try.ntmps52
    go_wp2_with (fail)
    go_ret
    exact ⟨_, 3, rfl, ins_three w 4 1 1, (by decide), (by decide), (fun x h => by cases h; exact Nat.le_refl _), (Below.refl _ _).alloc (Nat.le_refl _) _⟩

end Go.Proofs.Ytgdkcdgomopnfaa
