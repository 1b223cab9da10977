/-
  The reference's Get, by contract.
-/
import Derived.Test.YtgfakdjljcnpiaaNums
namespace Go.Proofs.Ytgfakdjljcnpiaa
open Go.RowKit

theorem getN_lt {x : List Int} (hx : AllB x) (p : Nat) {k : Nat} (hk : k ≤ 4) : 0 ≤ getN x p k ∧ getN x p k < 4294967296 := by
  have h := getN_bd hx p k
  rcases (by omega : k = 0 ∨ k = 1 ∨ k = 2 ∨ k = 3 ∨ k = 4) with rfl | rfl | rfl | rfl | rfl <;> omega
theorem getN_step (x : List Int) (p m j : Nat) (h : j < m) : getN x (p + (j + 1)) (m - (j + 1)) * 256 + byt x (p + j) = getN x (p + j) (m - j) := by
  obtain ⟨d, hd⟩ : ∃ d, m - j = d + 1 := ⟨m - j - 1, by omega⟩
  rw [hd, getN, show m - (j + 1) = d by omega, show p + (j + 1) = p + j + 1 by omega]
  omega

def GetAt (x : List Int) (p m : Nat) (v i : Value) : Prop :=
  (∃ j : Nat, j < m ∧ i = .int .i64 j ∧ v = .int .i64 (getN x (p + (j + 1)) (m - (j + 1)))) ∨ (i = .int .i64 (-1) ∧ v = .int .i64 (getN x p m))

set_option maxHeartbeats 400000 in
theorem refGet_yes (a : Option Addr) (la ca p m : Nat) (x : List Int) (w : World) (hx : Bys w a la x) (hn : la ≤ 1000000000000) (h1 : 1 ≤ m) (h4 : m ≤ 4) (hp : p + m ≤ la) :
    Calls Try.prog 37 #[.slice a la ca, .int .i64 p, .int .i64 m] w fun e w' => e = .returned (.tuple #[.int .i64 (getN x p m), .bool true]) ∧ w = w' := by
  rcases hx.place with h0 | ⟨ba, oa, rfl, _, hca⟩
  · omega
  have hs : AllB x := hx.small
  have q1 : ¬ (m : Int) < 1 := by omega
  have q2 : ¬ (4 : Int) < m := by omega
  have q3 : ¬ (p : Int) < 0 := by omega
  have q4 : ¬ (la : Int) < p := by omega
  have q5 : ¬ (la : Int) - p < m := by omega
  clear hx
  go_enter Try.func37, Try.ntmps37
  go_wp2
  go_loop [8, 9] (fun v i => GetAt x p m v i) (fun _ i => (intOf i + 1).toNat)
  case atStart => exact .inl ⟨m - 1, by omega, by congr 1; omega, by rw [show m - (m - 1 + 1) = 0 by omega]; rfl⟩
  case round =>
    rcases hrel with ⟨j, hj, rfl, rfl⟩ | ⟨rfl, rfl⟩
    · have g1 := hca (p + j) (by omega)
      have b1 := byt_bd hs (p + j)
      have b2 := getN_lt hs (p + (j + 1)) (k := m - (j + 1)) (by omega)
      have b3 : ((p + j : Nat) : Int) < la := by omega
      have hst : Hid (getN x (p + (j + 1)) (m - (j + 1)) * 256 + byt x (p + j) = getN x (p + j) (m - j)) := getN_step x p m j hj
      clear hca
      go_wp2
      go_round
      case rel =>
        cases j with
        | zero => exact .inr ⟨by go_num, val_int (by simpa using hst.out)⟩
        | succ j => exact .inl ⟨j, by omega, by go_num, val_int hst.out⟩
      case measure => simp [intOf]
    · clear hca
      go_wp2
      go_ret2
      exact ⟨rfl, rfl⟩

set_option maxHeartbeats 400000 in
theorem refGet_no (a : Option Addr) (la ca : Nat) (p k : Int) (w : World) (h : ¬ (1 ≤ k ∧ k ≤ 4) ∨ p < 0 ∨ la - k < p) :
    Calls Try.prog 37 #[.slice a la ca, .int .i64 p, .int .i64 k] w fun e w' => e = .returned (.tuple #[.int .i64 0, .bool false]) ∧ w = w' := by
  by_cases h1 : k < 1
  · clear h
    go_enter Try.func37, Try.ntmps37
    go_wp2
    go_ret2
    exact ⟨rfl, rfl⟩
  · by_cases h4 : 4 < k
    · clear h
      go_enter Try.func37, Try.ntmps37
      go_wp2
      go_ret2
      exact ⟨rfl, rfl⟩
    · by_cases h5 : p < 0
      · clear h
        go_enter Try.func37, Try.ntmps37
        go_wp2
        go_ret2
        exact ⟨rfl, rfl⟩
      · by_cases h6 : (la : Int) < p
        · clear h
          go_enter Try.func37, Try.ntmps37
          go_wp2
          go_ret2
          exact ⟨rfl, rfl⟩
        · have h7 : (la : Int) - p < k := by omega
          clear h
          go_enter Try.func37, Try.ntmps37
          go_wp2
          go_ret2
          exact ⟨rfl, rfl⟩

end Go.Proofs.Ytgfakdjljcnpiaa
