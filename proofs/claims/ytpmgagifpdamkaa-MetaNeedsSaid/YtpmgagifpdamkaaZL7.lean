/-
  MetaNeeds, by contract.
-/
import Derived.Test.YtpmgagifpdamkaaZat
import Derived.Test.YtpmgagifpdamkaaZau
import Derived.Test.YtpmgagifpdamkaaZak
import Derived.Test.YtpmgagifpdamkaaZal
set_option linter.unusedVariables false
set_option linter.unusedSimpArgs false
set_option maxRecDepth 100000
set_option maxHeartbeats 16000000
namespace Go.Proofs.Ytpmgagifpdamkaa
open Go.RowKit Go.Maps

theorem metaNeeds_any (d r s : Int) (a : Option Addr) (n c : Nat) (f : Nat → Nw) (w : World) (hl : NwsAt w a n f) :
    Calls Try.prog 7 #[gv d r s, .slice a n c] w fun e w' => e = .returned (.bool true) ∧ Below w.heap.size w w' := by
  have hmm := @run_makeMap Try.prog
  have hx := Bx.mk' w d r s 23
  have hB : Below w.heap.size w (w.alloc (.cells #[.int .i64 d, .int .i64 r, .int .i64 s] 23 (0, 0))) := (Below.refl _ _).alloc (Nat.le_refl _) _
  obtain ⟨w1, hw1⟩ : ∃ w1, w1 = w.alloc (.cells #[.int .i64 d, .int .i64 r, .int .i64 s] 23 (0, 0)) := ⟨_, rfl⟩
  rw [← hw1] at hx hB
  have HX := Lib.hid hx
  have HB := Lib.hid hB
  have HL := Lib.hid hl
  have HW := Lib.hid hw1
  clear hx hB hl hw1
  go_enter Try.func7, Try.ntmps7
  go_wp2_with (fail)
  rw [← HW.out]
  obtain ⟨g, hg⟩ : ∃ g, g = w.heap.size := ⟨_, rfl⟩
  rw [← hg] at HX
  have HG := Lib.hid hg
  rw [← hg]
  clear hg
  refine (alive_any w1).mono ?_
  rintro e w2 ⟨rfl, hb2⟩
  go_wp2_with (fail)
  refine (great_any a n c f w2 (HL.out.next (HB.out.trans (hb2.mono HB.out.size)))).mono ?_
  rintro e w3 ⟨gb, rfl, hgb, hb3⟩
  have h23 := hb2.trans (hb3.mono hb2.size)
  have HX3 := Lib.hid (HX.out.next h23)
  have HB3 := Lib.hid (HB.out.trans (h23.mono HB.out.size))
  have HL3 := Lib.hid (HL.out.next HB3.out)
  clear h23 hb2 hb3 HX HB
  cases gb with
  | true =>
    go_wp2_with (fail)
    go_ret
    exact ⟨rfl, HB3.out⟩
  | false =>
    have hn := hgb rfl
    clear hgb
    have c0 := HX3.out.c0
    have c1 := HX3.out.c1
    have c2 := HX3.out.c2
    go_wp2_with (fail)
    refine (pmr_any d r s a n c f w3 HL3.out (by omega)).mono ?_
    rintro e w4 ⟨rfl, hb4⟩
    have HX4 := Lib.hid (HX3.out.next hb4)
    have HB4 := Lib.hid (HB3.out.trans (hb4.mono HB3.out.size))
    have HL4 := Lib.hid (HL.out.next HB4.out)
    clear hb4 HX3 HB3 HL3 c0 c1 c2
    have c0 := HX4.out.c0
    have c1 := HX4.out.c1
    have c2 := HX4.out.c2
    cases hr : mrO d r s (lnL f n) with
    | false =>
      have HR := Lib.hid hr
      go_wp2_with (fail)
      refine (pcount_any d r s a n c f w4 HL4.out (by omega)).mono ?_
      rintro e w5 ⟨rfl, hb5⟩
      have hc : cntO d r s f n = 0 := by rw [cntO, HR.out]; rfl
      rw [hc]
      have HB5 := Lib.hid (HB4.out.trans (hb5.mono HB4.out.size))
      clear hb5 hc
      go_wp2_with (fail)
      go_ret
      exact ⟨rfl, HB5.out⟩
    | true =>
      have HR := Lib.hid hr
      clear hr
      have hfew := (mr_few HR.out).2.2
      have hnl : needN (ndF' f) n ≤ 1656 * n := kneed_le fun i hi => hfew i hi
      have HFEW := Lib.hid hfew
      have HNL := Lib.hid hnl
      clear hfew hnl c0 c1 c2
      go_wp2_with (fail)
      go_loopw [5, 6, 7, 8] (fun v5 v6 _ _ wr => ∃ i : Nat, i ≤ n ∧ v6 = .int .i64 i ∧ v5 = .int .i64 ((3 + n + needN (ndF' f) i : Nat) : Int) ∧ Below w4.heap.size w4 wr) (fun _ v _ _ _ => n - (RowKit.intOf v).toNat)
      case atStart => exact ⟨0, by omega, rfl, by go_num, Below.refl _ _⟩
      case round =>
        obtain ⟨i, hi, rfl, rfl, hbr⟩ := hrel
        have HB5 := Lib.hid hbr
        have HN := Lib.hid hn
        by_cases hlt : i < n
        · rcases HL4.out.next hbr with h0 | ⟨b, off, rfl, hbl, hcs⟩
          · omega
          have hx := hcs i hlt
          have hf8 : (f i).ks.length ≤ 828 := HFEW.out i hlt
          have hneed : needN (ndF' f) (i + 1) = needN (ndF' f) i + (kp (f i).ks (f i).ks.length).length := rfl
          have hsm : needN (ndF' f) i ≤ 1656 * i := kneed_le fun j hj => HFEW.out j (by omega)
          obtain ⟨x, hxe⟩ : ∃ x, x = f i := ⟨_, rfl⟩
          rw [← hxe] at hx hf8 hneed
          obtain ⟨M, hM⟩ : ∃ M, M = needN (ndF' f) i := ⟨_, rfl⟩
          rw [← hM] at hneed hsm ⊢
          have HXN := Lib.hid hx
          have HNE := Lib.hid hneed
          have HSM := Lib.hid hsm
          have hlen := hx.ins.len
          have HK0 := Lib.hid (KpAt.new wr)
          have HBN := Lib.hid ((Below.refl wr.heap.size wr).alloc (Nat.le_refl _) (.map #[] 0))
          have HLT := Lib.hid hbl
          clear hbr hcs hneed hsm hxe hM hx hbl
          have hlen8 : x.n ≤ 828 := by omega
          go_wp2_with (fail)
          obtain ⟨bm, hbm⟩ : ∃ bm, bm = wr.heap.size := ⟨_, rfl⟩
          have HBM := Lib.hid hbm
          rw [← hbm] at HK0
          rw [← hbm]
          clear hbm
          go_loopw [8] (fun v wi => ∃ k : Nat, 16 ≤ k ∧ (k ≤ 16 ∨ k ≤ x.n) ∧ v = .int .i64 k ∧ KpAt wi bm (kp x.ks k) (2 * k) ∧ Below wr.heap.size wr wi) (fun v _ => 828 - (RowKit.intOf v).toNat)
          case atStart => exact ⟨16, by omega, by omega, rfl, by rw [kp_few _ (by omega)]; exact HK0.out.mono (by omega), HBN.out⟩
          case round =>
            obtain ⟨k, hk1, hk2, rfl, hka, hbi⟩ := hrel
            have HBI := Lib.hid hbi
            have HKA := Lib.hid hka
            have hxi := HXN.out.next HLT.out hbi
            have c4 := hxi.c4
            have HXI := Lib.hid hxi.ins
            have hsz := hbi.size
            clear hka hbi hxi
            by_cases hkn : k < x.n
            · obtain ⟨b2, o2, hxa, hl2, hc2⟩ := HXI.out.at (by omega : 0 < x.n)
              have hc := hc2 k hkn
              rw [hxa] at c4
              obtain ⟨z, hz⟩ : ∃ z, z = num x.ks k := ⟨_, rfl⟩
              rw [← hz] at hc
              have HSU : Hid (kp x.ks (k + 1) = if z = 0 then kp x.ks k else if k < 44 then insK (-1) (kp x.ks k) else insK (((k : Int) - 44).tdiv 28) (insK (-2) (kp x.ks k))) := Lib.hid (by rw [kp, if_neg (by omega), hz])
              have HZ := Lib.hid hz
              clear hz hc2 hl2
              by_cases hz0 : z = 0
              · go_wp2_with (fail)
                go_roundw
                case rel => exact ⟨k + 1, by omega, by omega, by go_num, by rw [HSU.out, if_pos hz0]; exact HKA.out.mono (by omega), HBI.out⟩
                case measure => simp [RowKit.intOf]; omega
              by_cases h44 : k < 44
              · obtain ⟨w7, hup, hs7, ht7⟩ := HKA.out.put (a := -1) (by omega) (by omega)
                have HB7 := Lib.hid ((HBI.out).grown ht7.grown HBI.out.size (fun j hj => by cases hj; exact Nat.le_of_eq HBM.out.symm))
                have HS7 := Lib.hid hs7
                clear hs7 ht7
                go_wp2_with (fail)
                go_roundw
                case rel => exact ⟨k + 1, by omega, by omega, by go_num, by rw [HSU.out, if_neg hz0, if_pos h44]; exact HS7.out.mono (by omega), HB7.out⟩
                case measure => simp [RowKit.intOf]; omega
              obtain ⟨w7, hup, hs7, ht7⟩ := HKA.out.put (a := -2) (by omega) (by omega)
              have HB7 := Lib.hid ((HBI.out).grown ht7.grown HBI.out.size (fun j hj => by cases hj; exact Nat.le_of_eq HBM.out.symm))
              obtain ⟨q, hq⟩ : ∃ q : Nat, ((k : Int) - 44).tdiv 28 = (q : Int) := ⟨_, tdiv28 (by omega)⟩
              have hq2 : q ≤ 828 := by rw [tdiv28 (by omega)] at hq; omega
              obtain ⟨w8, hup8, hs8, ht8⟩ := hs7.put (a := (q : Int)) (by omega) (by omega)
              have HB8 := Lib.hid ((HB7.out).grown ht8.grown HB7.out.size (fun j hj => by cases hj; exact Nat.le_of_eq HBM.out.symm))
              have HS8 := Lib.hid hs8
              clear hs7 ht7 hs8 ht8
              go_wp2_with (fail)
              go_roundw
              case rel => exact ⟨k + 1, by omega, by omega, by go_num, by rw [HSU.out, if_neg hz0, if_neg h44, hq]; exact HS8.out.mono (by omega), HB8.out⟩
              case measure => simp [RowKit.intOf]; omega
            · have hend : kp x.ks k = kp x.ks x.ks.length := by
                rcases hk2 with h | h
                · rw [kp_few _ h, kp_few _ (by omega)]
                · rw [show k = x.ks.length by omega]
              have hlenm := fun ty => HKA.out.len ty
              have HE := Lib.hid hend
              have hkl := kmp_le x.ks k
              obtain ⟨L, hL⟩ : ∃ L, L = (kp x.ks k).length := ⟨_, rfl⟩
              rw [← hL] at hlenm hkl
              have HLL := Lib.hid hL
              clear hend hL
              have hkk : k ≤ 828 := by omega
              have hM8 : M ≤ 165600 := by have := HSM.out; omega
              go_wp2_with (fail)
              go_roundw
              case rel =>
                refine ⟨i + 1, by omega, by go_num, ?_, HB5.out.trans (HBI.out.mono HB5.out.size)⟩
                rw [HNE.out, ← HE.out, ← HLL.out]
                go_num
              case measure => simp [RowKit.intOf]; omega
        · obtain rfl : i = n := by omega
          have hx5 := HX4.out.next HB5.out
          have c0 := hx5.c0
          have c1 := hx5.c1
          have c2 := hx5.c2
          clear hx5
          go_wp2_with (fail)
          refine (pcount_any d r s a i c f wr (HL4.out.next HB5.out) (by omega)).mono ?_
          rintro e w9 ⟨rfl, hb9⟩
          rw [cnt_is HR.out]
          have HB9 := Lib.hid (HB4.out.trans ((HB5.out.trans (hb9.mono HB5.out.size)).mono HB4.out.size))
          clear hb9
          have he : ((i + 3 + needN (ndF' f) i : Nat) : Int) = ((3 + i + needN (ndF' f) i : Nat) : Int) := by omega
          rw [he]
          clear he
          go_wp2_with (fail)
          go_ret
          exact ⟨rfl, HB9.out⟩
end Go.Proofs.Ytpmgagifpdamkaa
