/-
  The program's and the reference's Pad, by contract: a new block of the bytes and noughts behind them.
-/
import Derived.Test.YtgfakdjljcnpiaaBase
namespace Go.Proofs.Ytgfakdjljcnpiaa
open Go.RowKit

def padL (x : List Int) (n : Nat) : List Int := x ++ List.replicate (n - x.length) 0
theorem padL_len {x : List Int} {n : Nat} (h : x.length ≤ n) : (padL x n).length = n := by simp [padL]; omega
theorem padL_small {x : List Int} (hx : AllB x) (n : Nat) : AllB (padL x n) := hx.app (AllB.zeros _)

set_option maxHeartbeats 400000 in
theorem pad_yes (a : Option Addr) (la ca n : Nat) (x : List Int) (w : World) (hx : Bys w a la x) (h : la ≤ n) (hn : n ≤ 65536) :
    Calls Try.prog 31 #[.slice a la ca, .int .i64 n] w fun e w' => e = .returned (.tuple #[.slice (some ⟨w.heap.size, 0, none⟩) n n, .bool true]) ∧ Blk w' w.heap.size (padL x n) ∧ Below w.heap.size w w' := by
  have HX : Hid (x.length = la) := hx.len
  go_enter Try.func31, Try.ntmps31
  go_wp2_with (first
    | (at_make; go_must (refine wpList_mk rfl _ _ rfl _ _ _ _ n rfl rfl rfl rfl (by omega) ?_); intro w1 hb1 hl1)
    | (with_reducible refine wpList_cp rfl (.tmp 17) (.tmp 18) rfl w.heap.size n n la ca a rfl rfl _ x hb1 (hx.below (Nat.le_refl _) hl1) (by simp) h w.heap.size w hl1 (Nat.le_refl _) ?_; intro w2 hb2 hl2))
  go_ret2
  refine ⟨rfl, ?_, hl2⟩
  rwa [List.drop_replicate, ← HX.out] at hb2

set_option maxHeartbeats 400000 in
theorem pad_no (a : Option Addr) (la ca : Nat) (n : Int) (w : World) (h : n < la ∨ 65536 < n) :
    Calls Try.prog 31 #[.slice a la ca, .int .i64 n] w fun e w' => e = .returned (.tuple #[.slice none 0 0, .bool false]) ∧ w = w' := by
  by_cases h1 : n < la
  · go_enter Try.func31, Try.ntmps31
    go_wp2
    go_ret2
    exact ⟨rfl, rfl⟩
  · have h2 : 65536 < n := by omega
    clear h
    go_enter Try.func31, Try.ntmps31
    go_wp2
    go_ret2
    exact ⟨rfl, rfl⟩

end Go.Proofs.Ytgfakdjljcnpiaa
