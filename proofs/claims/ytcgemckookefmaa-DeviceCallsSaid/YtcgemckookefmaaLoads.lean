/-
  DeviceLoads' walk.
-/
import Derived.Test.YtcgemckookefmaaAlive2
import Derived.Test.YtcgemckookefmaaArgs
import Derived.Laws.BitsLemmas
namespace Go.Proofs.Ytcgemckookefmaa
open Go.RowKit Go.Maps

theorem i64_and3 (n : Int) : bits .and .i64 n 3 = n % 4 := by
  have h3 : (BitVec.ofInt 64 3).toNat = 2 ^ 2 - 1 := by decide
  have key : (BitVec.ofInt 64 n &&& BitVec.ofInt 64 3).toNat = (n % ((2 ^ 64 : Nat) : Int)).toNat % 2 ^ 2 := by
    rw [BitVec.toNat_and, BitVec.toNat_ofInt, h3, Nat.and_two_pow_sub_one_eq_mod]
  show IntKind.i64.wrap ((BitVec.ofInt 64 n &&& BitVec.ofInt 64 3).toNat : Nat) = n % 4
  rw [key, IntKind.wrap_i64]
  omega
theorem i64_and7 (n : Int) : bits .and .i64 n 7 = n % 8 := by
  have h3 : (BitVec.ofInt 64 7).toNat = 2 ^ 3 - 1 := by decide
  have key : (BitVec.ofInt 64 n &&& BitVec.ofInt 64 7).toNat = (n % ((2 ^ 64 : Nat) : Int)).toNat % 2 ^ 3 := by
    rw [BitVec.toNat_and, BitVec.toNat_ofInt, h3, Nat.and_two_pow_sub_one_eq_mod]
  show IntKind.i64.wrap ((BitVec.ofInt 64 n &&& BitVec.ofInt 64 7).toNat : Nat) = n % 8
  rw [key, IntKind.wrap_i64]
  omega
theorem and3_nat (n : Int) : ∃ m : Nat, m < 4 ∧ bits .and .i64 n 3 = (m : Int) := ⟨(n % 4).toNat, by omega, by rw [i64_and3]; omega⟩

def b51 : List Int := (List.replicate 64 (0 : Int)).set 5 1
theorem b51_len : b51.length = 64 := by simp [b51]
theorem b51_small : AllB b51 := by
  intro z hz
  rcases List.mem_or_eq_of_mem_set hz with hz | rfl
  · rw [(List.mem_replicate.1 hz).2]; omega
  · omega

theorem newRk_call {n S i : Nat} : (newRk n S).callE i = 0 := by simp [newRk, newDk, Rk.callE, Dk.called]
theorem newRk_call_d {n S i : Nat} : (newRk n S).call.d i = newDk S := by simp [newRk, newDk, Rk.call, Dk.called]

/-- The rack behind a write and a load. -/
def lR1 (m : Nat) : Rk := (newRk 2 4).call.setD 1 (((newRk 2 4).call.d 1).put m b51)
def lR2 (m : Nat) (zs : List Int) : Rk := (lR1 m).setD 1 (((lR1 m).d 1).load 4 zs)
theorem lR3_read {w : World} {M : Nat → Prop} {L : Lay} {m k : Nat} {zs : List Int} (h : RackAt w M L (lR2 m zs)) (hk : k < 4) : (((lR2 m zs).restore [1]).d 1).read k = sec (loadL 4 zs) k := by
  have hd := h.drv 1 (by show 1 < 2; omega)
  have e1 := restore_sec hd [1] ((lR2 m zs).num 1) (show k < 4 from hk)
  have e2 : ((lR2 m zs).restore [1]).d 1 = ((lR2 m zs).d 1).restore 4 [1] ((lR2 m zs).num 1) := rfl
  rw [e2]
  unfold Dk.read
  show sec (((lR2 m zs).d 1).restore 4 [1] ((lR2 m zs).num 1)).last k = _
  rw [show (lR2 m zs).S = 4 from rfl] at e1
  rw [e1]
  rfl

theorem loads_big (a : Option Addr) (la ca : Nat) (at_ : Int) (w : World) (h : 2000 < la) :
    Calls Try.prog 7 #[.slice a la ca, .int .i64 at_] w fun e w' => e = .returned (.bool true) ∧ Below w.heap.size w w' := by
  go_enter Try.func7, Try.ntmps7
  go_wp2_with (fail)
  with_reducible refine (alive2_any _).mono ?_
  rintro e w1 ⟨rfl, hl1⟩
  go_wp2_with (fail)
  go_ret
  exact ⟨rfl, hl1⟩

set_option maxHeartbeats 2000000 in
theorem loads_small (a : Option Addr) (la ca : Nat) (at_ : Int) (zs : List Int) (w : World) (hx : Bys w a la zs) (h : la ≤ 2000) :
    Calls Try.prog 7 #[.slice a la ca, .int .i64 at_] w fun e w' => e = .returned (.bool true) ∧ Below w.heap.size w w' := by
  obtain ⟨m, hm4, hm⟩ := and3_nat at_
  go_enter Try.func7, Try.ntmps7
  go_wp2_with (fail)
  with_reducible refine (alive2_any _).mono ?_
  rintro e w1 ⟨rfl, hl1⟩
  have hx1 := hx.next hl1
  go_wp2_with (fail)
  refine (new_ok 2 4 w1 (by omega) (by omega) (by omega) (by omega)).mono ?_
  rintro e w2 ⟨L, rfl, hr2, hM0, hl2⟩
  have hM : Hid (∀ k, L.M 2 k → w1.heap.size ≤ k) := hM0
  clear hM0
  go_wp2_with (at_make; refine wpList_mk rfl _ _ rfl .i64 .i64 64 64 64 rfl rfl rfl rfl (by omega) ?_; intro w3 hb3 hl3; have hc3 := hb3.cell (i := 5) (by simp); have hf3 := hb3.free 5)
  have hb4 : Below w2.heap.size w2 (w3.setCell ⟨w2.heap.size, 5, none⟩ (.int .u8 1)) := hl3.setCell (Nat.le_refl _) _
  have hr4 := hr2.below hb4
  have hz4 : Blk (w3.setCell ⟨w2.heap.size, 5, none⟩ (.int .u8 1)) w2.heap.size b51 := hb3.set 5 1
  have hbM : Hid (¬ L.M 2 w2.heap.size) := fun x => by have := hr2.low _ x; omega
  clear hc3 hf3
  have hB4 : Below w1.heap.size w1 (w3.setCell ⟨w2.heap.size, 5, none⟩ (.int .u8 1)) := hl2.trans (hb4.mono hl2.size)
  clear hb3 hl3 hb4
  refine (write_ok (L.M 2) L (newRk 2 4) 1 m w2.heap.size 0 64 b51 _ hr4 rfl (by show 1 < 2; omega) (by show m < 4; omega) (hz4.bysn b51_small b51_len) hbM.out newRk_call).mono ?_
  rintro e w5 ⟨rfl, hr5, ht5⟩
  have hB5 : Below w1.heap.size w1 w5 := hB4.trans (ht5.below hB4.size hM.out)
  have hx5 := hx1.below (Nat.le_refl _) hB5
  go_wp2_with (fail)
  refine (load_ok (L.M 2) L (lR1 m) w5 1 la ca a zs hr5 (by show 1 < 2; omega) hx5 (by omega)).mono ?_
  rintro e w6 ⟨rfl, hr6, ht6⟩
  have hB6 : Below w1.heap.size w1 w6 := hB5.trans (ht6.below hB5.size hM.out)
  go_wp2_with (fail)
  have hr7 := hr6.below ((Below.refl w6.heap.size w6).alloc (Nat.le_refl _) (.cells #[.int .i64 1] 3))
  refine (restore_ok (L.M 2) L (lR2 m zs) 1 1 _ [1] _ hr7 ⟨rfl, .inr ⟨w6.heap.size, 0, rfl, by simp, fun i hi => ?_⟩⟩ (.inr fun b off e x => ?_) (by omega)).mono ?_
  · obtain rfl : i = 0 := by omega
    simp
  · cases e
    have := hr6.low _ x
    omega
  rintro e w8 ⟨rfl, hr8, ht8⟩
  have hB8 : Below w1.heap.size w1 w8 := (hB6.alloc hB6.size _).trans (ht8.below (Nat.le_trans hB6.size (by simp)) hM.out)
  have hrd : Hid (∀ k, k < 4 → (((lR2 m zs).restore [1]).d 1).read k = sec (loadL 4 zs) k) := fun k hk => lR3_read hr6 hk
  have hB1 : Below w.heap.size w w1 := hl1
  clear hx hx5 hr2 hr4 hr5 hr6 hr7 ht5 ht6 ht8 hz4 hbM hB4 hB5 hB6 hl1 hl2 hm
  go_wp2_with (fail)
  go_loopw [8] (fun i wr => ∃ k : Nat, k ≤ 4 ∧ i = .int .i64 k ∧ RackAt wr (L.M 2) L ((lR2 m zs).restore [1]) ∧ Below w1.heap.size w1 wr) (fun i _ => 4 - (intOf i).toNat)
  case atStart => exact ⟨0, by omega, rfl, hr8, hB8⟩
  case round =>
    obtain ⟨k, hk, rfl, hr, hB⟩ := hrel
    clear hr8 hB8
    by_cases hlt : k < 4
    · have hre := read_ok (L.M 2) L _ wr 1 k hr rfl (by show 1 < 2; omega) (by show k < 4; omega) (by rfl)
      rw [hrd.out k hlt] at hre
      have hlen : (sec (loadL 4 zs) k).length = 64 := sec_len (S := 4) (loadL_len 4 zs) hlt
      obtain ⟨ys, hys⟩ : ∃ ys, Hid (ys = sec (loadL 4 zs) k) := ⟨_, Lib.hid rfl⟩
      rw [← hys.out] at hre hlen
      go_wp2_with (fail)
      refine hre.mono ?_
      rintro e w9 ⟨a9, c9, rfl, hs9⟩
      have hr9 := hr.below hs9.bel
      have hB9 := hB.trans (hs9.bel.mono hB.size)
      have hx9 := hx1.below (Nat.le_refl _) hB9
      rcases hs9.bys.place with h0 | ⟨b9, o9, rfl, _, hc9⟩
      · omega
      rw [hlen] at hc9 ⊢
      clear hs9 hr hB hre hlen
      go_wp2_with (fail)
      obtain ⟨wo, rfl⟩ : ∃ wo : World, wo = w9 := ⟨_, rfl⟩
      go_loop [11, 12] (fun i _ => ∃ j : Nat, j ≤ 64 ∧ i = .int .i64 j) (fun i _ => 64 - (intOf i).toNat)
      case atStart => exact ⟨0, by omega, rfl⟩
      case round =>
        obtain ⟨j, hj, rfl⟩ := hrel
        by_cases hjl : j < 64
        · have hb0 : byt ys j = byt zs (k * 64 + j) := by
            rw [hys.out, byt_sec hjl, byt_loadL (by omega)]
          have hcx := hc9 j hjl
          rw [hb0] at hcx
          obtain ⟨v, hv⟩ : ∃ v, Hid (v = byt zs (k * 64 + j)) := ⟨_, Lib.hid rfl⟩
          rw [← hv.out] at hcx
          by_cases hin : k * 64 + j < la
          · rcases hx9.place with h0 | ⟨ba, oa, rfl, _, hca⟩
            · omega
            have hci := hca (k * 64 + j) hin
            rw [← hv.out] at hci
            clear hc9 hca hx9 hx1 hb0
            go_wp2_with (fail)
            go_round
            case rel => exact ⟨j + 1, by omega, by go_num⟩
            case measure => simp [intOf]; omega
          · have hv0 : v = 0 := by rw [hv.out]; exact byt_past (by rw [hx9.len]; omega)
            rw [hv0] at hcx
            clear hc9 hx9 hx1 hb0 hv0
            go_wp2_with (fail)
            go_round
            case rel => exact ⟨j + 1, by omega, by go_num⟩
            case measure => simp [intOf]; omega
        · obtain rfl : j = 64 := by omega
          clear hc9 hx9 hx1
          go_wp2_with (fail)
          go_roundw
          case rel => exact ⟨k + 1, by omega, by go_num, hr9, hB9⟩
          case measure => simp [intOf]; omega
    · obtain rfl : k = 4 := by omega
      go_wp2_with (fail)
      go_ret
      exact ⟨rfl, hB1.trans (hB.mono hB1.size)⟩

theorem law_loads (a : Option Addr) (la ca : Nat) (at_ : Int) (zs : List Int) (w : World) (hx : Bys w a la zs) :
    Calls Try.prog 7 #[.slice a la ca, .int .i64 at_] w fun e w' => e = .returned (.bool true) ∧ Below w.heap.size w w' := by
  by_cases h : la ≤ 2000
  · exact loads_small a la ca at_ zs w hx h
  · exact loads_big a la ca at_ w (by omega)

end Go.Proofs.Ytcgemckookefmaa
