/-
  The bytes of pointers, by contract.
-/
import Derived.Test.YtgfakdjljcnpiaaIp
import Derived.Test.YtgfakdjljcnpiaaCon
namespace Go.Proofs.Ytgfakdjljcnpiaa
open Go.RowKit
set_option linter.unusedVariables false
set_option linter.unusedSimpArgs false

set_option maxHeartbeats 1000000 in
theorem ptrBytes_any (a : Option Addr) (n c : Nat) (ks : List Int) (w : World) (h : Ins w a n ks) (hp : ∀ i, i < n → 0 ≤ num ks i ∧ num ks i ≤ 65535) (hn : n ≤ 1000000) :
    Calls Try.prog 30 #[.slice a n c] w fun e w' => ∃ v, e = .returned v ∧ Own w' w.heap.size v (2 * n) (ptsL (num ks) n) ∧ Below w.heap.size w w' := by
  have HP := Lib.hid hp
  have HI := Lib.hid h
  clear hp h
  go_enter Try.func30, Try.ntmps30
  go_wp2_with (fail)
  go_loopw [3, 5, 8] (fun u _p v wr => ∃ k : Nat, k ≤ n ∧ v = .int .i64 k ∧ Own wr w.heap.size u (2 * k) (ptsL (num ks) k) ∧ Below w.heap.size w wr) (fun _ _ v _ => n - (RowKit.intOf v).toNat)
  case atStart => exact ⟨0, by omega, rfl, ⟨World.ownsRow_nil _ _ _ _, fun z hz => by cases hz⟩, Below.refl _ _⟩
  case round =>
    obtain ⟨k, hk, rfl, hO, hB⟩ := hrel
    have HO := Lib.hid hO
    have HB := Lib.hid hB
    clear hO hB
    by_cases hlt : k < n
    · obtain ⟨b, off, rfl, hbl, hc⟩ := (HI.out.next HB.out).at (by omega : 0 < n)
      have hc1 := hc k hlt
      obtain ⟨z, hz⟩ : ∃ z, z = num ks k := ⟨_, rfl⟩
      rw [← hz] at hc1
      have hpt := HP.out k hlt
      rw [← hz] at hpt
      have hput := put_yes 2 z wr (by omega) (by omega) (hasW2_of hpt)
      have HZ := Lib.hid hz
      clear hc hz hpt
      go_wp2_with (fail)
      refine hput.mono ?_
      rintro e w2 ⟨rfl, hb2, hl2⟩
      have ho2 := HO.out.below (Nat.le_refl _) hl2
      have hy2 := hb2.bysn (digs_small _ _) (digs_len 2 z)
      have hs2 : w.heap.size ≤ w2.heap.size := Nat.le_trans HB.out.size hl2.size
      have hm2 := HB.out.trans (hl2.mono HB.out.size)
      clear hl2 hb2 hput
      go_wp2_with (at_builtin; go_must (refine wpList_ap rfl (.tmp 12) (.tmp 14) rfl w.heap.size _ (2 * k) _ rfl ho2 (some ⟨wr.heap.size, 0, none⟩) 2 2 _ rfl hy2 (fun h => by cases h) (by omega) hs2 w hm2 ?_); intro v1 w1 o1 b1; have HO1 := Lib.hid o1; have HB1 := Lib.hid b1; clear o1 b1 ho2 hy2 hs2 hm2)
      go_roundw
      case rel => exact ⟨k + 1, by omega, by go_num, by rw [ptsL, ← HZ.out]; exact HO1.out, HB1.out⟩
      case measure => simp [RowKit.intOf]; omega
    · obtain rfl : k = n := by omega
      go_wp2_with (fail)
      go_ret
      exact ⟨_, rfl, HO.out, HB.out⟩
end Go.Proofs.Ytgfakdjljcnpiaa
