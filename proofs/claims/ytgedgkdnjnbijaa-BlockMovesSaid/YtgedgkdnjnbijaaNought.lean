/-
  Has a slice of bytes no byte but 0: the program's and the reference's, by contract.
-/
import Derived.Test.YtgedgkdnjnbijaaBase
namespace Go.Proofs.Ytgedgkdnjnbijaa
open Go.RowKit

def noughtB (zs : List Int) : Bool := zs.all (· == 0)
def Zeros (zs : List Int) (k : Nat) : Prop := ∀ j, j < k → byt zs j = 0
theorem Zeros.zero (zs : List Int) : Zeros zs 0 := fun _ h => by omega
theorem Zeros.succ {zs : List Int} {k : Nat} (h : Zeros zs k) (e : byt zs k = 0) : Zeros zs (k + 1) := fun j hj => by
  by_cases hk : j = k
  · rw [hk]; exact e
  · exact h j (by omega)
theorem noughtB_true {zs : List Int} (h : ∀ j, j < zs.length → byt zs j = 0) : noughtB zs = true := by
  unfold noughtB
  rw [List.all_eq_true]
  intro z hz
  obtain ⟨i, hi, rfl⟩ := List.getElem_of_mem hz
  have := h i hi
  simpa [byt, List.getD, hi] using this
theorem noughtB_false {zs : List Int} {k : Nat} (hk : k < zs.length) (h : byt zs k ≠ 0) : noughtB zs = false := by
  unfold noughtB
  rw [List.all_eq_false]
  refine ⟨zs[k], List.getElem_mem hk, ?_⟩
  simpa [byt, List.getD, hk] using h

set_option maxHeartbeats 400000 in
theorem nought_any (a : Option Addr) (la ca : Nat) (x : List Int) (w : World) (hx : Bys w a la x) (hn : la ≤ 1000000000000) :
    Calls Try.prog 39 #[.slice a la ca] w fun e w' => e = .returned (.bool (noughtB x)) ∧ w = w' := by
  go_enter Try.func39, Try.ntmps39
  go_wp2
  go_loop [7] (fun i => ∃ k : Nat, k ≤ la ∧ i = .int .i64 k ∧ Zeros x k) (fun i => la - (intOf i).toNat)
  case atStart => exact ⟨0, Nat.zero_le _, rfl, Zeros.zero _⟩
  case round =>
    obtain ⟨k, hk, rfl, hf⟩ := hrel
    have hxl : Hid (x.length = la) := hx.len
    by_cases hlt : k < la
    · rcases hx.place with h0 | ⟨ba, oa, rfl, _, hca⟩
      · omega
      have g1 := hca k hlt
      clear hca hx
      go_wp2
      · have hs : Hid (noughtB x = false) := noughtB_false (by rw [hxl.out]; exact hlt) (by simpa using (by assumption : (byt x k != 0) = true))
        clear hxl hf
        go_ret
        exact ⟨ret_bool hs.out.symm, rfl⟩
      · go_round
        case rel => exact ⟨k + 1, by omega, by go_num, hf.succ (by simpa using (by assumption : (byt x k != 0) = false))⟩
        case measure => simp [intOf]; omega
    · obtain rfl : k = la := by omega
      have hs : Hid (noughtB x = true) := noughtB_true (by rw [hxl.out]; exact hf)
      clear hx hf hxl
      go_wp2
      go_ret
      exact ⟨ret_bool hs.out.symm, rfl⟩

set_option maxHeartbeats 400000 in
theorem refNought_any (a : Option Addr) (la ca : Nat) (x : List Int) (w : World) (hx : Bys w a la x) (hn : la ≤ 1000000000000) :
    Calls Try.prog 47 #[.slice a la ca] w fun e w' => e = .returned (.bool (noughtB x)) ∧ w = w' := by
  go_enter Try.func47, Try.ntmps47
  go_wp2
  go_loop [3] (fun i => ∃ k : Nat, k ≤ la ∧ i = .int .i64 k ∧ Zeros x k) (fun i => la - (intOf i).toNat)
  case atStart => exact ⟨0, Nat.zero_le _, rfl, Zeros.zero _⟩
  case round =>
    obtain ⟨k, hk, rfl, hf⟩ := hrel
    have hxl : Hid (x.length = la) := hx.len
    by_cases hlt : k < la
    · rcases hx.place with h0 | ⟨ba, oa, rfl, _, hca⟩
      · omega
      have g1 := hca k hlt
      clear hca hx
      go_wp2
      · have hs : Hid (noughtB x = false) := noughtB_false (by rw [hxl.out]; exact hlt) (by simpa using (by assumption : (byt x k != 0) = true))
        clear hxl hf
        go_ret
        exact ⟨ret_bool hs.out.symm, rfl⟩
      · go_round
        case rel => exact ⟨k + 1, by omega, by go_num, hf.succ (by simpa using (by assumption : (byt x k != 0) = false))⟩
        case measure => simp [intOf]; omega
    · obtain rfl : k = la := by omega
      have hs : Hid (noughtB x = true) := noughtB_true (by rw [hxl.out]; exact hf)
      clear hx hf hxl
      go_wp2
      go_ret
      exact ⟨ret_bool hs.out.symm, rfl⟩

theorem nought_yes (a : Option Addr) (la ca : Nat) (x : List Int) (w : World) (hx : Bys w a la x) (hn : la ≤ 1000000000000) (h : noughtB x = true) :
    Calls Try.prog 39 #[.slice a la ca] w fun e w' => e = .returned (.bool true) ∧ w = w' := by
  have := nought_any a la ca x w hx hn
  rwa [h] at this

end Go.Proofs.Ytgedgkdnjnbijaa
