/-
  The program's and the reference's Get, by contract.
-/
import Derived.Test.YtgfakdjljcnpiaaNums
import Derived.Test.YtgfakdjljcnpiaaWidth
namespace Go.Proofs.Ytgfakdjljcnpiaa
open Go.RowKit

set_option maxHeartbeats 400000 in
theorem get_yes (a : Option Addr) (la ca p m : Nat) (x : List Int) (w : World) (hx : Bys w a la x) (hn : la ≤ 1000000000000) (h1 : 1 ≤ m) (h4 : m ≤ 4) (hp : p + m ≤ la) :
    Calls Try.prog 41 #[.slice a la ca, .int .i64 p, .int .i64 m] w fun e w' => e = .returned (.tuple #[.int .i64 (getN x p m), .bool true]) ∧ w = w' := by
  have hi : Hid (isW m = true) := isW_true (by omega)
  rcases hx.place with h0 | ⟨ba, oa, rfl, _, hca⟩
  · omega
  have hs : AllB x := hx.small
  clear hx
  go_enter Try.func41, Try.ntmps41
  go_wp2_with (first
    | (go_at_call 45; refine (isWidth_any _ _).mono ?_; rintro e w' ⟨rfl, rfl⟩; rw [hi.out]))
  go_loop [8, 26] (fun v i => ∃ k : Nat, k ≤ m ∧ i = .int .i64 k ∧ v = .int .i64 (getN x p k))
    (fun _ i => m - (intOf i).toNat)
  case atStart => exact ⟨0, Nat.zero_le _, rfl, rfl⟩
  case round =>
    obtain ⟨k, hk, rfl, rfl⟩ := hrel
    by_cases hlt : k < m
    · have g1 := hca (p + k) (by omega)
      have b1 := byt_bd hs (p + k)
      have b2 := getN_bd hs p k
      have b3 : ((p + k : Nat) : Int) < la := by omega
      clear hca
      go_wp2
      go_round
      case rel => exact ⟨k + 1, by omega, by go_num, val_int (by rw [getN_top]; exact or_at (by omega) b2.1 b2.2 b1.1 b1.2)⟩
      case measure => simp [intOf]; omega
    · obtain rfl : k = m := by omega
      clear hca
      go_wp2
      go_ret2
      exact ⟨rfl, rfl⟩

set_option maxHeartbeats 400000 in
theorem get_no (a : Option Addr) (la ca : Nat) (p k : Int) (w : World) (hn : la ≤ 1000000000000) (h : ¬ (1 ≤ k ∧ k ≤ 4) ∨ p < 0 ∨ la - k < p) :
    Calls Try.prog 41 #[.slice a la ca, .int .i64 p, .int .i64 k] w fun e w' => e = .returned (.tuple #[.int .i64 0, .bool false]) ∧ w = w' := by
  by_cases hw : 1 ≤ k ∧ k ≤ 4
  · have hi : Hid (isW k = true) := isW_true hw
    obtain ⟨h1, h4⟩ := hw
    have h' : p < 0 ∨ la - k < p := by omega
    clear h
    by_cases hp : p < 0
    · clear h'
      go_enter Try.func41, Try.ntmps41
      go_wp2_with (first
        | (go_at_call 45; refine (isWidth_any _ _).mono ?_; rintro e w' ⟨rfl, rfl⟩; rw [hi.out]))
      go_ret2
      exact ⟨rfl, rfl⟩
    · have hp' : (la : Int) - k < p := by omega
      clear h'
      go_enter Try.func41, Try.ntmps41
      go_wp2_with (first
        | (go_at_call 45; refine (isWidth_any _ _).mono ?_; rintro e w' ⟨rfl, rfl⟩; rw [hi.out]))
      go_ret2
      exact ⟨rfl, rfl⟩
  · have hi : Hid (isW k = false) := isW_false hw
    clear h hw
    go_enter Try.func41, Try.ntmps41
    go_wp2_with (first
      | (go_at_call 45; refine (isWidth_any _ _).mono ?_; rintro e w' ⟨rfl, rfl⟩; rw [hi.out]))
    go_ret2
    exact ⟨rfl, rfl⟩

end Go.Proofs.Ytgfakdjljcnpiaa
