/-
  The library's Concat of pieces, by contract.
-/
import Derived.Test.YtgfakdjljcnpiaaLib
namespace Go.Proofs.Ytgfakdjljcnpiaa
open Go.RowKit

/-- The counting loop's relation. -/
def ConRel (f : Nat → Pc) (n : Nat) (u v : Value) : Prop := ∃ k s : Nat, k ≤ n ∧ s = (catL f k).length ∧ v = .int .i64 k ∧ u = .int .i64 s
/-- The gathering loop's relation. -/
def ConRel2 (w0 : World) (f : Nat → Pc) (n : Nat) (u v : Value) (w : World) : Prop :=
  ∃ k s : Nat, k ≤ n ∧ s = (catL f k).length ∧ v = .int .i64 k ∧ Own w w0.heap.size u s (catL f k) ∧ Below w0.heap.size w0 w

set_option maxHeartbeats 1000000 in
theorem concat_any (a : Option Addr) (n c : Nat) (f : Nat → Pc) (w : World) (h : Rws w a n f) (hn : n ≤ 1000000000000) (ht : (catL f n).length ≤ 1000000000000) :
    Calls Try.prog 28 #[.slice a n c] w (ConPost w (catL f n)) := by
  have HT := Lib.hid ht
  clear ht
  go_enter Try.func28, Try.ntmps28
  go_wp2
  go_loop [3, 5, 11] (fun u _p v => ConRel f n u v) (fun _ _ v => n - (intOf v).toNat)
  case atStart => exact ⟨0, 0, by omega, rfl, rfl, rfl⟩
  case round =>
    obtain ⟨k, s, hk, hs, rfl, rfl⟩ := hrel
    have hsl : s ≤ 1000000000000 := by have := catL_le f hk; have := HT.out; omega
    have HS := Lib.hid hs
    clear hs
    by_cases hlt : k < n
    · obtain ⟨b, off, x, m, d, zs, rfl, hb, hc, hp, hz, hm⟩ := h.at hlt
      have hl1 : (catL f (k + 1)).length = s + m := by rw [catL_len, hz, hp.len, ← HS.out]
      have hl2 := catL_le f (k := k + 1) (n := n) hlt
      have ht' := HT.out
      have hms : s + m ≤ 1000000000000 := by omega
      have HL := Lib.hid hl1
      clear h hp hz hm hl1 hl2 ht'
      go_wp2
      go_round
      case rel => exact ⟨k + 1, s + m, by omega, HL.out.symm, by go_num, by go_num⟩
      case measure => simp [intOf]; omega
    · obtain rfl : k = n := by omega
      go_wp2_with (fail)
      refine (grow_any s w (by omega)).mono ?_
      rintro e w1 ⟨v0, rfl, ho1, hb1⟩
      go_wp2_with (fail)
      go_loopw [6, 8, 27] (fun u _p v wr => ConRel2 w f k u v wr) (fun _ _ v _ => k - (intOf v).toNat)
      case atStart => exact ⟨0, 0, by omega, rfl, rfl, ho1, hb1⟩
      case round =>
        obtain ⟨j, s2, hj, hs2, rfl, ho, hbl⟩ := hrel
        have HS2 := Lib.hid hs2
        clear hs2 ho1
        by_cases hlt2 : j < k
        · obtain ⟨b, off, x, m, d, zs, rfl, hb, hc, hp, hz, hm⟩ := (h.next hbl).at hlt2
          have hl1 : (catL f (j + 1)).length = s2 + m := by rw [catL_len, hz, hp.len, ← HS2.out]
          have hl2 := catL_le f (k := j + 1) (n := k) hlt2
          have ht' := HT.out
          have hms : s2 + m ≤ 1000000000000 := by omega
          have HC := Lib.hid (show catL f (j + 1) = catL f j ++ zs by rw [← hz]; rfl)
          have hx := hp.bys
          have hn0 := hp.nil
          have hsz := hbl.size
          have HL := Lib.hid hl1
          clear h hp hz hm hl1 hl2 ht' hb1
          go_wp2_with (at_builtin; go_must (refine wpList_ap rfl (.tmp 31) (.tmp 32) rfl w.heap.size _ s2 _ rfl ho x m d zs rfl hx hn0 (by omega) hsz w hbl ?_); intro v1 w2 hown2 hb2)
          go_roundw
          case rel => exact ⟨j + 1, s2 + m, by omega, HL.out.symm, by go_num, by rw [HC.out]; exact hown2, hb2⟩
          case measure => simp [intOf]; omega
        · obtain rfl : j = k := by omega
          clear h hb1
          go_wp2_with (fail)
          go_ret
          exact ⟨_, rfl, by rw [← HS2.out]; exact ho, hbl⟩

end Go.Proofs.Ytgfakdjljcnpiaa
