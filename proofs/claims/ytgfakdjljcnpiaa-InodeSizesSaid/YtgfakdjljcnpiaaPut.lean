/-
  The program's Put, by contract: a number's bytes in a new block, or the nil slice.
-/
import Derived.Test.YtgfakdjljcnpiaaNums
import Derived.Test.YtgfakdjljcnpiaaWidth
namespace Go.Proofs.Ytgfakdjljcnpiaa
open Go.RowKit

set_option maxHeartbeats 400000 in
theorem put_yes (m : Nat) (n : Int) (w : World) (h1 : 1 ≤ m) (h4 : m ≤ 4) (hw : hasW n m = true) :
    Calls Try.prog 29 #[.int .i64 m, .int .i64 n] w fun e w' => e = .returned (.slice (some ⟨w.heap.size, 0, none⟩) m m) ∧ Blk w' w.heap.size (digs m n) ∧ Below w.heap.size w w' := by
  have hi : Hid (isW m = true) := isW_true (by omega)
  obtain ⟨hn0, hn1⟩ := hasW_bd hw (by omega) (by omega)
  have hh : Hid (hasW n m = true) := hw
  clear hw
  go_enter Try.func29, Try.ntmps29
  go_wp2_with (first
    | (go_at_call 45; refine (isWidth_any _ _).mono ?_; rintro e w' ⟨rfl, rfl⟩; rw [hi.out])
    | (go_at_call 46; refine (hasWidth_any _ _ _ (by omega) (by omega)).mono ?_; rintro e w' ⟨rfl, rfl⟩; rw [hh.out])
    | (at_make; refine wpList_mk rfl _ _ rfl _ _ _ _ m rfl rfl rfl rfl (by omega) ?_; intro w1 hb1 hl1))
  go_loopw [20] (fun i wr => ∃ (k : Nat) (zs : List Int), k ≤ m ∧ i = .int .i64 k ∧ Blk wr w.heap.size zs ∧ Mix zs (List.replicate m 0) (digs m n) k ∧ Below w.heap.size w wr)
    (fun i _ => m - (intOf i).toNat)
  case atStart => exact ⟨0, _, Nat.zero_le _, rfl, hb1, Mix.start (by rw [digs_len]; simp), hl1⟩
  case round =>
    obtain ⟨k, zs, hk, rfl, hb, hmix, hl⟩ := hrel
    clear hb1 hl1
    by_cases hlt : k < m
    · have hf := hb.free k
      have hc : wr.cell? ⟨w.heap.size, k, none⟩ = some (.int .u8 (byt zs k)) := hb.cell (by rw [hmix.len, digs_len]; exact hlt)
      go_wp2
      go_roundw
      case rel => exact ⟨k + 1, _, by omega, by go_num, hb.set k _, hmix.set (by rw [digs_len]; exact hlt) (dig_at n hlt), hl.setCell (Nat.le_refl _) _⟩
      case measure => simp [intOf]; omega
    · obtain rfl : k = m := by omega
      have hz : Hid (zs = digs k n) := hmix.done (fun j h h' => by rw [digs_len] at h'; omega)
      go_wp2
      go_ret
      exact ⟨rfl, by rw [← hz.out]; exact hb, hl⟩

set_option maxHeartbeats 400000 in
theorem put_no (k n : Int) (w : World) (h : isW k = false ∨ hasW n k = false) :
    Calls Try.prog 29 #[.int .i64 k, .int .i64 n] w fun e w' => e = .returned (.slice none 0 0) ∧ w = w' := by
  by_cases hw : 1 ≤ k ∧ k ≤ 4
  · have hi : Hid (isW k = true) := isW_true hw
    have hh : Hid (hasW n k = false) := by
      rcases h with h | h
      · rw [hi.out] at h; cases h
      · exact h
    obtain ⟨h1, h4⟩ := hw
    clear h
    go_enter Try.func29, Try.ntmps29
    go_wp2_with (first
      | (go_at_call 45; refine (isWidth_any _ _).mono ?_; rintro e w' ⟨rfl, rfl⟩; rw [hi.out])
      | (go_at_call 46; refine (hasWidth_any _ _ _ (by omega) (by omega)).mono ?_; rintro e w' ⟨rfl, rfl⟩; rw [hh.out]))
    go_ret
    exact ⟨rfl, rfl⟩
  · have hi : Hid (isW k = false) := isW_false hw
    clear h hw
    go_enter Try.func29, Try.ntmps29
    go_wp2_with (first
      | (go_at_call 45; refine (isWidth_any _ _).mono ?_; rintro e w' ⟨rfl, rfl⟩; rw [hi.out]))
    go_ret
    exact ⟨rfl, rfl⟩

end Go.Proofs.Ytgfakdjljcnpiaa
