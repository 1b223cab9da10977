/-
  The statements' first line: a rack whose power goes.
-/
import Derived.Test.YtcgemckookefmaaNew
import Derived.Test.YtcgemckookefmaaRest
namespace Go.Proofs.Ytcgemckookefmaa
open Go.RowKit Go.Maps

theorem restore_sec {w : World} {M : Nat → Prop} {S db o lb mb s : Nat} {d : Dk} (h : DrvAt w M S db o lb mb d) (ks : List Int) (num : Nat) (hs : s < S) : sec (d.restore S ks num).last s = d.rest ks num s :=
  sec_join (fun _ ht => (Dk.rest_len h ks num ht).1) hs

def b7 : List Int := 7 :: List.replicate 63 0
theorem b7_len : b7.length = 64 := by simp [b7]
theorem b7_small : AllB b7 := by
  intro z hz
  rcases List.mem_cons.1 hz with rfl | hz
  · omega
  · rw [(List.mem_replicate.1 hz).2]; omega

def aR1 : Rk := { newRk 2 3 with cnt := 1 }
def aR2 : Rk := aR1.call.setD 1 ((aR1.call.d 1).put 2 b7)
theorem aR1_call : aR1.callE 1 = 0 := by simp [aR1, newRk, newDk, Rk.callE, Dk.called]
theorem aR2_call : aR2.callE 1 = 12 := by simp [aR2, aR1, newRk, Rk.callE, Rk.call, Rk.setD]
theorem aR2_off : aR2.call.off = true := by simp [aR2, aR1, newRk, Rk.call, Rk.setD]
theorem aR2_stays : (aR2.call.d 1).rest [1] (aR2.call.num 1) 2 = b7 := by
  have h1 : (aR2.call.d 1).cache = putC noneC 2 b7 := by simp [aR2, aR1, newRk, newDk, Rk.call, Rk.setD, Dk.put, Dk.called]
  have h2 : (aR2.call.d 1).bad = false := by simp [aR2, aR1, newRk, newDk, Rk.call, Rk.setD, Dk.put, Dk.called]
  have h3 : aR2.call.num 1 = 0 := by simp [Rk.num, rank, cN, aR2, aR1, newRk, newDk, Rk.call, Rk.setD, Dk.called, noneC]
  have h4 : rank (putC noneC 2 b7) 2 = 0 := by simp [rank, cN, List.range_succ, putC, noneC]
  unfold Dk.rest Dk.stays Dk.read
  rw [h1, h2, h3, h4]
  simp [putC, keptB]

set_option maxHeartbeats 1000000 in
theorem alive2_any (w : World) : Calls Try.prog 9 #[] w fun e w' => e = .returned (.bool true) ∧ Below w.heap.size w w' := by
  go_enter Try.func9, Try.ntmps9
  go_wp2_with (fail)
  refine (new_ok 2 3 w (by omega) (by omega) (by omega) (by omega)).mono ?_
  rintro e w1 ⟨L, rfl, hr1, hM0, hl1⟩
  have hM : Hid (∀ k, L.M 2 k → w.heap.size ≤ k) := hM0
  clear hM0
  go_wp2_with (at_make; refine wpList_mk rfl _ _ rfl .i64 .i64 64 64 64 rfl rfl rfl rfl (by omega) ?_; intro w2 hb2 hl2; have hc2 := hb2.cell (i := 0) (by simp); have hf2 := hb2.free 0)
  have hb3 : Below w1.heap.size w1 (w2.setCell ⟨w1.heap.size, 0, none⟩ (.int .u8 7)) := hl2.setCell (Nat.le_refl _) _
  have hr3 := hr1.below hb3
  have hz3 : Blk (w2.setCell ⟨w1.heap.size, 0, none⟩ (.int .u8 7)) w1.heap.size b7 := hb2.set 0 7
  have hbM : Hid (¬ L.M 2 w1.heap.size) := fun x => by have := hr1.low _ x; omega
  have hl3 : Below w.heap.size w (w2.setCell ⟨w1.heap.size, 0, none⟩ (.int .u8 7)) := hl1.trans (hb3.mono hl1.size)
  clear hc2 hf2 hb2 hl2 hb3
  refine (arm_rack (L.M 2) L _ _ 1 hr3 (by omega)).mono ?_
  rintro e w4 ⟨rfl, hr4, ht4⟩
  have hz4 := hz3.turn ht4 hbM.out
  go_wp2_with (fail)
  refine (write_ok (L.M 2) L aR1 1 2 w1.heap.size 0 64 b7 w4 hr4 rfl (by show 1 < 2; omega) (by show 2 < 3; omega) (hz4.bysn b7_small b7_len) hbM.out aR1_call).mono ?_
  rintro e w5 ⟨rfl, hr5, ht5⟩
  have hz5 := hz4.turn ht5 hbM.out
  go_wp2_with (fail)
  refine (write_err (L.M 2) L aR2 w5 1 1 _ _ hr5 rfl (by show 1 < 2; omega) (by show 1 < 3; omega) (by rw [aR2_call]; omega)).mono ?_
  rw [aR2_call]
  rintro e w6 ⟨rfl, hr6, ht6⟩
  go_wp2_with (fail)
  refine (off_rack (L.M 2) L _ w6 hr6).mono ?_
  rw [aR2_off]
  rintro e w7 ⟨rfl, rfl⟩
  go_wp2_with (fail)
  have hr7 := hr6.below ((Below.refl w6.heap.size w6).alloc (Nat.le_refl _) (.cells #[.int .i64 1] 3))
  refine (restore_ok (L.M 2) L aR2.call 1 1 _ [1] _ hr7 ⟨rfl, .inr ⟨w6.heap.size, 0, rfl, by simp, fun i hi => ?_⟩⟩ (.inr fun b off e x => ?_) (by omega)).mono ?_
  · obtain rfl : i = 0 := by omega
    simp
  · cases e
    have := hr6.low _ x
    omega
  rintro e w8 ⟨rfl, hr8, ht8⟩
  have hla := lasting_ok (L.M 2) L (aR2.call.restore [1]) w8 1 2 hr8 (by show 1 < 2; omega) (by show 2 < 3; omega)
  have hsec : sec ((aR2.call.restore [1]).d 1).last 2 = b7 := by
    have := restore_sec (hr7.drv 1 (by show 1 < 2; omega)) [1] (aR2.call.num 1) (show 2 < 3 by omega)
    rw [aR2_stays] at this
    exact this
  rw [hsec] at hla
  clear hsec
  go_wp2_with (fail)
  refine hla.mono ?_
  rintro e w9 ⟨a9, c9, rfl, hs9⟩
  have hy9 : Bys w9 a9 64 b7 := hs9.bys
  have hr9 := hr8.below hs9.bel
  have hfin : Below w.heap.size w w9 := by
    have t := (((ht4.trans ht5).trans ht6).trans (Turn.of_below ((Below.refl w6.heap.size w6).alloc (Nat.le_refl _) _))).trans (ht8.trans (Turn.of_below hs9.bel))
    exact hl3.trans (t.below hl3.size (fun k hk => hM.out k hk))
  rcases hy9.place with h0 | ⟨b9, o9, rfl, _, hc9⟩
  · omega
  have hl0 : w9.cell? ⟨b9, o9, none⟩ = some (.int .u8 7) := hc9 0 (by omega)
  clear hc9 hy9 hs9 hr8 hr7 hr6 hr5 hr4 hr3 hr1 ht4 ht5 ht6 ht8 hz3 hz4 hz5 hbM hM hl1 hl3 hla
  have hoff := off_rack (L.M 2) L _ w9 hr9
  rw [show (aR2.call.restore [1]).off = false from rfl] at hoff
  rw [show b7.length = 64 from b7_len]
  go_wp2_with (go_at_call 14; refine hoff.mono ?_; rintro e w' ⟨rfl, rfl⟩)
  go_ret
  exact ⟨rfl, hfin⟩

end Go.Proofs.Ytcgemckookefmaa
