/-
  The law InodeBack, walked.
-/
import Derived.Test.YtgfakdjljcnpiaaW2
namespace Go.Proofs.Ytgfakdjljcnpiaa
open Go.RowKit
set_option linter.unusedVariables false
set_option linter.unusedSimpArgs false

theorem recB_congr {f g : Nat → Int} (h : ∀ i, i < 21 → f i = g i) : recB f = recB g := by
  have hd : hdL f = hdL g := by rw [hdL, hdL, h 0 (by omega), h 1 (by omega), h 2 (by omega)]
  have hp : ptsL (fun i => f (3 + i)) 18 = ptsL (fun i => g (3 + i)) 18 := ptsL_congr fun i hi => h (3 + i) (by omega)
  rw [recB, recB, recP, recP, hd, hp]
theorem gR_rec {f : Nat → Int} (h : RgR f) : rcv (gR (recB f)) = rcv f := by
  unfold rcv
  rw [rcs_congr fun i hi => ?_]
  rw [gR, if_pos (okG_rec h), tld_rec h hi]
theorem gR_back {x : List Int} (hx : AllB x) (h : okG x = true) : RgR (gR x) ∧ recB (gR x) = x := by
  obtain ⟨h1, h2⟩ := okG_put hx h
  have e : ∀ i, i < 21 → gR x i = tld x i := fun i _ => by rw [gR, if_pos h]
  exact ⟨rgO_iff.1 (by rw [rgO_congr e]; exact rgO_iff.2 h2), by rw [recB_congr e, h1]⟩
theorem num_take {ks : List Int} {n i : Nat} (h : i < n) : num (ks.take n) i = num ks i := by
  unfold num
  simp [List.getD, h]
theorem Ins.front {w : World} {a : Option Addr} {n : Nat} {ks : List Int} (h : Ins w a n ks) {k : Nat} (hk : k ≤ n) : Ins w a k (ks.take k) := by
  refine ⟨by rw [List.length_take, h.len]; omega, ?_⟩
  rcases h.place with h0 | ⟨b, off, ha, hlt, hc⟩
  · exact .inl (by omega)
  · exact .inr ⟨b, off, ha, hlt, fun i hi => by rw [num_take hi]; exact hc i (by omega)⟩
theorem num_ext {x y : List Int} (hl : x.length = y.length) (h : ∀ i, i < x.length → num x i = num y i) : x = y := by
  apply List.ext_getElem hl
  intro i h1 h2
  have := h i h1
  simpa [num, List.getD, h1, h2] using this
theorem ppO_of {ks : List Int} (h : ppO ks = true) : ks.length ≤ 28 ∧ ∀ i, i < ks.length → 0 ≤ num ks i ∧ num ks i ≤ 65535 := by
  simp only [ppO, Bool.and_eq_true, decide_eq_true_eq] at h
  exact ⟨h.1, fun i hi => ptO_iff.1 (all_pt.1 h.2 i hi)⟩
theorem gp_front {ks : List Int} (h : ppO ks = true) : (gpL (ppL ks) 28).take ks.length = ks := by
  obtain ⟨h1, h2⟩ := ppO_of h
  refine num_ext (by rw [List.length_take, gpL_len]; omega) fun i hi => ?_
  rw [List.length_take, gpL_len] at hi
  rw [num_take (by omega)]
  exact gp_put h1 h2 (by omega)
theorem gp_rest {ks : List Int} (h : ppO ks = true) {i : Nat} (h1 : ks.length ≤ i) (h2 : i < 28) : num (gpL (ppL ks) 28) i = 0 := by
  obtain ⟨h3, h4⟩ := ppO_of h
  rw [gp_put h3 h4 h2]
  simp [num, List.getD, List.getElem?_eq_none h1]
set_option maxRecDepth 100000 in
set_option maxHeartbeats 16000000 in
theorem back_any (f : Nat → Int) (a1 : Option Addr) (n1 c1 : Nat) (ks : List Int) (a2 : Option Addr) (n2 c2 : Nat) (x : List Int) (w : World) (h0 : Ins w a1 n1 ks) (h1 : Pin w a2 n2 c2 x) :
    Calls Try.prog 5 #[rcv f, .slice a1 n1 c1, .slice a2 n2 c2] w fun e w' => e = .returned (.bool true) ∧ Below w.heap.size w w' := by
  obtain ⟨wa, hwa⟩ : ∃ wa, wa = w.alloc (.cells (rcs f) 24) := ⟨_, rfl⟩
  have hR : Rcb wa w.heap.size f := by rw [hwa]; exact Rcb.mk' w f
  have hB : Below w.heap.size w wa := by rw [hwa]; exact (Below.refl _ _).alloc (Nat.le_refl _) _
  have HL := Lib.hid (h0.next hB)
  have HX := Lib.hid (h1.next hB)
  have HR := Lib.hid hR
  have HB := Lib.hid hB
  have HW := Lib.hid hwa
  have hal := alive_any wa
  clear h0 h1 hR hB hwa
  by_cases g0 : 1000 < n1
  · have k0 : (1000 : Int) < (n1 : Int) := by omega
    clear g0
    go_enter Try.func5, Try.ntmps5
    go_upto_region 1 with fail
    rw [← HW.out]
    clear HW
    go_wp2_with (fail)
    refine hal.mono ?_
    rintro e wb ⟨rfl, hb⟩
    replace HB := Lib.hid (HB.out.trans (hb.mono HB.out.size))
    replace HR := Lib.hid (HR.out.next hb)
    replace HL := Lib.hid (HL.out.next hb)
    replace HX := Lib.hid (HX.out.next hb)
    clear hb hal
    go_wp2_with (fail)
    go_ret
    exact ⟨rfl, HB.out⟩
  by_cases g1 : 1000 < n2
  · have k0 : ¬ (1000 : Int) < (n1 : Int) := by omega
    have k1 : (1000 : Int) < (n2 : Int) := by omega
    clear g0 g1
    go_enter Try.func5, Try.ntmps5
    go_upto_region 1 with fail
    rw [← HW.out]
    clear HW
    go_wp2_with (fail)
    refine hal.mono ?_
    rintro e wb ⟨rfl, hb⟩
    replace HB := Lib.hid (HB.out.trans (hb.mono HB.out.size))
    replace HR := Lib.hid (HR.out.next hb)
    replace HL := Lib.hid (HL.out.next hb)
    replace HX := Lib.hid (HX.out.next hb)
    clear hb hal
    go_wp2_with (fail)
    go_ret
    exact ⟨rfl, HB.out⟩
  have k0 : ¬ (1000 : Int) < (n1 : Int) := by omega
  have k1 : ¬ (1000 : Int) < (n2 : Int) := by omega
  have HN := Lib.hid (show n1 ≤ 1000 ∧ n2 ≤ 1000 by omega)
  have hlen := HL.out.len
  clear g0 g1
  go_enter Try.func5, Try.ntmps5
  go_upto_region 1 with fail
  rw [← HW.out]
  clear HW
  go_wp2_with (fail)
  refine hal.mono ?_
  rintro e wb ⟨rfl, hb⟩
  replace HB := Lib.hid (HB.out.trans (hb.mono HB.out.size))
  replace HR := Lib.hid (HR.out.next hb)
  replace HL := Lib.hid (HL.out.next hb)
  replace HX := Lib.hid (HX.out.next hb)
  clear hb hal
  go_wp2_with (refine wpList_ldR (by rfl) (.tmp 3) rfl w.heap.size rfl f HR.out ?_)
  cases hr : rgO f with
  | false =>
    refine (put_noR f _ hr).mono ?_
    rintro e wc ⟨a3, n3, c3, rfl, _, _, hb⟩
    replace HB := Lib.hid (HB.out.trans (hb.mono HB.out.size))
    replace HL := Lib.hid (HL.out.next hb)
    replace HX := Lib.hid (HX.out.next hb)
    clear hb HR hr
    go_wp2_with (fail)
    refine (getR_any a2 n2 c2 x _ HX.out.bys (by have := HN.out; omega)).mono ?_
    rintro e wm ⟨rfl, hb⟩
    replace HB := Lib.hid (HB.out.trans (hb.mono HB.out.size))
    replace HL := Lib.hid (HL.out.next hb)
    replace HX := Lib.hid (HX.out.next hb)
    clear hb
    obtain ⟨s, hs⟩ : ∃ g, g = gR x := ⟨_, rfl⟩
    obtain ⟨is, his⟩ : ∃ g, g = okG x := ⟨_, rfl⟩
    have hbk : is = true → RgR s ∧ recB s = x := fun h => by rw [hs]; exact gR_back HX.out.bys.small (by rw [← his]; exact h)
    rw [← hs, ← his]
    have HK := Lib.hid hbk
    clear hs his hbk
    go_upto_region 11 with (refine wpList_stR (by rfl) (.tmp 11) (.tmp 49) rfl wm.heap.size rfl s rfl noR (Rcb.mk' wm noR) ?_; intro wn hPg hOg hBg)
    have hb : Below wm.heap.size wm wn := hBg _ _ (Nat.le_refl _) ((Below.refl _ _).alloc (Nat.le_refl _) _)
    replace HB := Lib.hid (HB.out.trans (hb.mono HB.out.size))
    replace HL := Lib.hid (HL.out.next hb)
    replace HX := Lib.hid (HX.out.next hb)
    obtain ⟨b2, hb2⟩ : ∃ b, b = wm.heap.size := ⟨_, rfl⟩
    rw [← hb2] at hPg ⊢
    have HS := Lib.hid hPg
    clear hPg hOg hBg hb hb2
    cases is with
    | false =>
      clear HK HS HX
      go_wp2_with (fail)
      refine (putP_any a1 n1 c1 ks _ HL.out (by have := HN.out; omega)).mono ?_
      rintro e wp ⟨a5, n5, c5, rfl, hp5, _, hb⟩
      replace HB := Lib.hid (HB.out.trans (hb.mono HB.out.size))
      replace HL := Lib.hid (HL.out.next hb)
      clear hb
      cases hpo : ppO ks with
      | false =>
        have hl5 := hp5.len
        rw [ppF, hpo] at hl5
        obtain rfl : n5 = 0 := hl5.symm
        clear hp5 hpo
        go_wp2_with (fail)
        go_ret
        exact ⟨rfl, HB.out⟩
      | true =>
        obtain ⟨h28, _⟩ := ppO_of hpo
        have hl5 := hp5.len
        rw [ppF, hpo, if_pos rfl] at hl5 hp5
        rw [ppL_len h28] at hl5
        obtain rfl : n5 = 56 := hl5.symm
        have HG := Lib.hid hpo
        have HP := Lib.hid hp5
        have H28 := Lib.hid (show n1 ≤ 28 by omega)
        have HLE := Lib.hid hlen
        clear hp5 hpo hl5 h28 hlen
        go_wp2_with (fail)
        refine (getP_any a5 56 c5 (ppL ks) _ HP.out.bys (by omega)).mono ?_
        rintro e wq ⟨a6, c6, rfl, hi6, _, hc6, hb⟩
        replace HB := Lib.hid (HB.out.trans (hb.mono HB.out.size))
        replace HL := Lib.hid (HL.out.next hb)
        have hl56 : (ppL ks).length = 56 := HP.out.len
        rw [gpF, if_pos hl56, gpL_len] at hi6 hc6 ⊢
        rw [decide_eq_true hl56]
        obtain ⟨b, off, rfl, hbl, hcs⟩ := hi6.at (by omega)
        have HI := Lib.hid hi6
        have hle : n1 ≤ 28 := H28.out
        have hlc : n1 ≤ c6 := by omega
        clear hi6 hcs hbl hl56 hb HP
        go_wp2_with (fail)
        have hfr := HI.out.front hle
        rw [← HLE.out, gp_front HG.out, HLE.out] at hfr
        refine (sameInts_yes _ a1 n1 c6 c1 ks _ hfr HL.out (by omega)).mono ?_
        rintro e wr ⟨rfl, hb⟩
        replace HB := Lib.hid (HB.out.trans (hb.mono HB.out.size))
        replace HI := Lib.hid (HI.out.next hb)
        clear hb hfr HL
        go_wp2_with (fail)
        go_loop [17] (fun v => ∃ k : Nat, n1 ≤ k ∧ k ≤ 28 ∧ v = .int .i64 k) (fun v => 28 - (RowKit.intOf v).toNat)
        case atStart => exact ⟨n1, Nat.le_refl _, H28.out, rfl⟩
        case round =>
          obtain ⟨k, hk1, hk2, rfl⟩ := hrel
          by_cases hlt : k < 28
          · obtain ⟨b', off', e', hbl, hcs⟩ := HI.out.at (by omega)
            cases e'
            have hc1 := hcs k hlt
            rw [gp_rest HG.out (by have := HLE.out; omega) hlt] at hc1
            clear hcs
            go_wp2_with (fail)
            go_round
            case rel => exact ⟨k + 1, by omega, by omega, by go_num⟩
            case measure => simp [RowKit.intOf]; omega
          · obtain rfl : k = 28 := by omega
            go_wp2_with (fail)
            go_ret
            exact ⟨rfl, HB.out⟩
    | true =>
      have HSB := Lib.hid (HK.out rfl)
      clear HK
      go_wp2_with (refine wpList_ldR (by rfl) (.tmp 11) rfl b2 rfl s HS.out ?_)
      refine (put_blkR s wn HSB.out.1).mono ?_
      rintro e wo ⟨g, rfl, hk, _, hb⟩
      have hy := hk.pin (recB_small s) (recB_len s) (Nat.le_refl 56) (by omega)
      rw [HSB.out.2] at hy
      have HY := Lib.hid hy
      clear hk hy
      replace HB := Lib.hid (HB.out.trans (hb.mono HB.out.size))
      replace HL := Lib.hid (HL.out.next hb)
      replace HX := Lib.hid (HX.out.next hb)
      clear hb HS HSB
      go_wp2_with (fail)
      refine (sameP HY.out HX.out (by omega)).mono ?_
      rintro e wo2 ⟨rfl, hb⟩
      replace HB := Lib.hid (HB.out.trans (hb.mono HB.out.size))
      replace HL := Lib.hid (HL.out.next hb)
      clear hb HY HX
      go_wp2_with (fail)
      refine (putP_any a1 n1 c1 ks _ HL.out (by have := HN.out; omega)).mono ?_
      rintro e wp ⟨a5, n5, c5, rfl, hp5, _, hb⟩
      replace HB := Lib.hid (HB.out.trans (hb.mono HB.out.size))
      replace HL := Lib.hid (HL.out.next hb)
      clear hb
      cases hpo : ppO ks with
      | false =>
        have hl5 := hp5.len
        rw [ppF, hpo] at hl5
        obtain rfl : n5 = 0 := hl5.symm
        clear hp5 hpo
        go_wp2_with (fail)
        go_ret
        exact ⟨rfl, HB.out⟩
      | true =>
        obtain ⟨h28, _⟩ := ppO_of hpo
        have hl5 := hp5.len
        rw [ppF, hpo, if_pos rfl] at hl5 hp5
        rw [ppL_len h28] at hl5
        obtain rfl : n5 = 56 := hl5.symm
        have HG := Lib.hid hpo
        have HP := Lib.hid hp5
        have H28 := Lib.hid (show n1 ≤ 28 by omega)
        have HLE := Lib.hid hlen
        clear hp5 hpo hl5 h28 hlen
        go_wp2_with (fail)
        refine (getP_any a5 56 c5 (ppL ks) _ HP.out.bys (by omega)).mono ?_
        rintro e wq ⟨a6, c6, rfl, hi6, _, hc6, hb⟩
        replace HB := Lib.hid (HB.out.trans (hb.mono HB.out.size))
        replace HL := Lib.hid (HL.out.next hb)
        have hl56 : (ppL ks).length = 56 := HP.out.len
        rw [gpF, if_pos hl56, gpL_len] at hi6 hc6 ⊢
        rw [decide_eq_true hl56]
        obtain ⟨b, off, rfl, hbl, hcs⟩ := hi6.at (by omega)
        have HI := Lib.hid hi6
        have hle : n1 ≤ 28 := H28.out
        have hlc : n1 ≤ c6 := by omega
        clear hi6 hcs hbl hl56 hb HP
        go_wp2_with (fail)
        have hfr := HI.out.front hle
        rw [← HLE.out, gp_front HG.out, HLE.out] at hfr
        refine (sameInts_yes _ a1 n1 c6 c1 ks _ hfr HL.out (by omega)).mono ?_
        rintro e wr ⟨rfl, hb⟩
        replace HB := Lib.hid (HB.out.trans (hb.mono HB.out.size))
        replace HI := Lib.hid (HI.out.next hb)
        clear hb hfr HL
        go_wp2_with (fail)
        go_loop [17] (fun v => ∃ k : Nat, n1 ≤ k ∧ k ≤ 28 ∧ v = .int .i64 k) (fun v => 28 - (RowKit.intOf v).toNat)
        case atStart => exact ⟨n1, Nat.le_refl _, H28.out, rfl⟩
        case round =>
          obtain ⟨k, hk1, hk2, rfl⟩ := hrel
          by_cases hlt : k < 28
          · obtain ⟨b', off', e', hbl, hcs⟩ := HI.out.at (by omega)
            cases e'
            have hc1 := hcs k hlt
            rw [gp_rest HG.out (by have := HLE.out; omega) hlt] at hc1
            clear hcs
            go_wp2_with (fail)
            go_round
            case rel => exact ⟨k + 1, by omega, by omega, by go_num⟩
            case measure => simp [RowKit.intOf]; omega
          · obtain rfl : k = 28 := by omega
            go_wp2_with (fail)
            go_ret
            exact ⟨rfl, HB.out⟩
  | true =>
    have HRR := Lib.hid (rgO_iff.1 hr)
    clear hr
    refine (put_blkR f _ HRR.out).mono ?_
    rintro e wc ⟨g, rfl, hk, _, hb⟩
    have HQ := Lib.hid (show Bys _ _ 56 _ from hk.bysn (recB_small f) (recB_len f))
    replace HB := Lib.hid (HB.out.trans (hb.mono HB.out.size))
    replace HL := Lib.hid (HL.out.next hb)
    replace HX := Lib.hid (HX.out.next hb)
    replace HR := Lib.hid (HR.out.next hb)
    clear hb hk
    go_wp2_with (fail)
    refine (getR_any _ 56 56 (recB f) _ HQ.out (by omega)).mono ?_
    rintro e wd ⟨rfl, hb⟩
    rw [gR_rec HRR.out, okG_rec HRR.out]
    replace HB := Lib.hid (HB.out.trans (hb.mono HB.out.size))
    replace HL := Lib.hid (HL.out.next hb)
    replace HX := Lib.hid (HX.out.next hb)
    replace HR := Lib.hid (HR.out.next hb)
    clear hb HQ
    go_upto_region 8 with (refine wpList_stR (by rfl) (.tmp 9) (.tmp 37) rfl wd.heap.size rfl f rfl noR (Rcb.mk' wd noR) ?_; intro we hPg hOg hBg)
    have hb : Below wd.heap.size wd we := hBg _ _ (Nat.le_refl _) ((Below.refl _ _).alloc (Nat.le_refl _) _)
    replace HB := Lib.hid (HB.out.trans (hb.mono HB.out.size))
    replace HL := Lib.hid (HL.out.next hb)
    replace HX := Lib.hid (HX.out.next hb)
    replace HR := Lib.hid (HR.out.next hb)
    obtain ⟨b1, hb1⟩ : ∃ b, b = wd.heap.size := ⟨_, rfl⟩
    rw [← hb1] at hPg ⊢
    have HS1 := Lib.hid hPg
    clear hPg hOg hBg hb hb1
    have hq : ∀ w, (binOp .neq 24 (rcv f) (rcv f)).run Try.prog w = .ok (.bool false) w := fun w => by rw [run_neqR, eqR_self]; rfl
    go_wp2_with (first
      | (refine wpList_ldR (by rfl) (.tmp 9) rfl b1 rfl f HS1.out ?_)
      | (refine wpList_ldR (by rfl) (.tmp 3) rfl w.heap.size rfl f HR.out ?_))
    clear hq HR HS1 HRR
    refine (getR_any a2 n2 c2 x _ HX.out.bys (by have := HN.out; omega)).mono ?_
    rintro e wm ⟨rfl, hb⟩
    replace HB := Lib.hid (HB.out.trans (hb.mono HB.out.size))
    replace HL := Lib.hid (HL.out.next hb)
    replace HX := Lib.hid (HX.out.next hb)
    clear hb
    obtain ⟨s, hs⟩ : ∃ g, g = gR x := ⟨_, rfl⟩
    obtain ⟨is, his⟩ : ∃ g, g = okG x := ⟨_, rfl⟩
    have hbk : is = true → RgR s ∧ recB s = x := fun h => by rw [hs]; exact gR_back HX.out.bys.small (by rw [← his]; exact h)
    rw [← hs, ← his]
    have HK := Lib.hid hbk
    clear hs his hbk
    go_upto_region 11 with (refine wpList_stR (by rfl) (.tmp 11) (.tmp 49) rfl wm.heap.size rfl s rfl noR (Rcb.mk' wm noR) ?_; intro wn hPg hOg hBg)
    have hb : Below wm.heap.size wm wn := hBg _ _ (Nat.le_refl _) ((Below.refl _ _).alloc (Nat.le_refl _) _)
    replace HB := Lib.hid (HB.out.trans (hb.mono HB.out.size))
    replace HL := Lib.hid (HL.out.next hb)
    replace HX := Lib.hid (HX.out.next hb)
    obtain ⟨b2, hb2⟩ : ∃ b, b = wm.heap.size := ⟨_, rfl⟩
    rw [← hb2] at hPg ⊢
    have HS := Lib.hid hPg
    clear hPg hOg hBg hb hb2
    cases is with
    | false =>
      clear HK HS HX
      go_wp2_with (fail)
      refine (putP_any a1 n1 c1 ks _ HL.out (by have := HN.out; omega)).mono ?_
      rintro e wp ⟨a5, n5, c5, rfl, hp5, _, hb⟩
      replace HB := Lib.hid (HB.out.trans (hb.mono HB.out.size))
      replace HL := Lib.hid (HL.out.next hb)
      clear hb
      cases hpo : ppO ks with
      | false =>
        have hl5 := hp5.len
        rw [ppF, hpo] at hl5
        obtain rfl : n5 = 0 := hl5.symm
        clear hp5 hpo
        go_wp2_with (fail)
        go_ret
        exact ⟨rfl, HB.out⟩
      | true =>
        obtain ⟨h28, _⟩ := ppO_of hpo
        have hl5 := hp5.len
        rw [ppF, hpo, if_pos rfl] at hl5 hp5
        rw [ppL_len h28] at hl5
        obtain rfl : n5 = 56 := hl5.symm
        have HG := Lib.hid hpo
        have HP := Lib.hid hp5
        have H28 := Lib.hid (show n1 ≤ 28 by omega)
        have HLE := Lib.hid hlen
        clear hp5 hpo hl5 h28 hlen
        go_wp2_with (fail)
        refine (getP_any a5 56 c5 (ppL ks) _ HP.out.bys (by omega)).mono ?_
        rintro e wq ⟨a6, c6, rfl, hi6, _, hc6, hb⟩
        replace HB := Lib.hid (HB.out.trans (hb.mono HB.out.size))
        replace HL := Lib.hid (HL.out.next hb)
        have hl56 : (ppL ks).length = 56 := HP.out.len
        rw [gpF, if_pos hl56, gpL_len] at hi6 hc6 ⊢
        rw [decide_eq_true hl56]
        obtain ⟨b, off, rfl, hbl, hcs⟩ := hi6.at (by omega)
        have HI := Lib.hid hi6
        have hle : n1 ≤ 28 := H28.out
        have hlc : n1 ≤ c6 := by omega
        clear hi6 hcs hbl hl56 hb HP
        go_wp2_with (fail)
        have hfr := HI.out.front hle
        rw [← HLE.out, gp_front HG.out, HLE.out] at hfr
        refine (sameInts_yes _ a1 n1 c6 c1 ks _ hfr HL.out (by omega)).mono ?_
        rintro e wr ⟨rfl, hb⟩
        replace HB := Lib.hid (HB.out.trans (hb.mono HB.out.size))
        replace HI := Lib.hid (HI.out.next hb)
        clear hb hfr HL
        go_wp2_with (fail)
        go_loop [17] (fun v => ∃ k : Nat, n1 ≤ k ∧ k ≤ 28 ∧ v = .int .i64 k) (fun v => 28 - (RowKit.intOf v).toNat)
        case atStart => exact ⟨n1, Nat.le_refl _, H28.out, rfl⟩
        case round =>
          obtain ⟨k, hk1, hk2, rfl⟩ := hrel
          by_cases hlt : k < 28
          · obtain ⟨b', off', e', hbl, hcs⟩ := HI.out.at (by omega)
            cases e'
            have hc1 := hcs k hlt
            rw [gp_rest HG.out (by have := HLE.out; omega) hlt] at hc1
            clear hcs
            go_wp2_with (fail)
            go_round
            case rel => exact ⟨k + 1, by omega, by omega, by go_num⟩
            case measure => simp [RowKit.intOf]; omega
          · obtain rfl : k = 28 := by omega
            go_wp2_with (fail)
            go_ret
            exact ⟨rfl, HB.out⟩
    | true =>
      have HSB := Lib.hid (HK.out rfl)
      clear HK
      go_wp2_with (refine wpList_ldR (by rfl) (.tmp 11) rfl b2 rfl s HS.out ?_)
      refine (put_blkR s wn HSB.out.1).mono ?_
      rintro e wo ⟨g, rfl, hk, _, hb⟩
      have hy := hk.pin (recB_small s) (recB_len s) (Nat.le_refl 56) (by omega)
      rw [HSB.out.2] at hy
      have HY := Lib.hid hy
      clear hk hy
      replace HB := Lib.hid (HB.out.trans (hb.mono HB.out.size))
      replace HL := Lib.hid (HL.out.next hb)
      replace HX := Lib.hid (HX.out.next hb)
      clear hb HS HSB
      go_wp2_with (fail)
      refine (sameP HY.out HX.out (by omega)).mono ?_
      rintro e wo2 ⟨rfl, hb⟩
      replace HB := Lib.hid (HB.out.trans (hb.mono HB.out.size))
      replace HL := Lib.hid (HL.out.next hb)
      clear hb HY HX
      go_wp2_with (fail)
      refine (putP_any a1 n1 c1 ks _ HL.out (by have := HN.out; omega)).mono ?_
      rintro e wp ⟨a5, n5, c5, rfl, hp5, _, hb⟩
      replace HB := Lib.hid (HB.out.trans (hb.mono HB.out.size))
      replace HL := Lib.hid (HL.out.next hb)
      clear hb
      cases hpo : ppO ks with
      | false =>
        have hl5 := hp5.len
        rw [ppF, hpo] at hl5
        obtain rfl : n5 = 0 := hl5.symm
        clear hp5 hpo
        go_wp2_with (fail)
        go_ret
        exact ⟨rfl, HB.out⟩
      | true =>
        obtain ⟨h28, _⟩ := ppO_of hpo
        have hl5 := hp5.len
        rw [ppF, hpo, if_pos rfl] at hl5 hp5
        rw [ppL_len h28] at hl5
        obtain rfl : n5 = 56 := hl5.symm
        have HG := Lib.hid hpo
        have HP := Lib.hid hp5
        have H28 := Lib.hid (show n1 ≤ 28 by omega)
        have HLE := Lib.hid hlen
        clear hp5 hpo hl5 h28 hlen
        go_wp2_with (fail)
        refine (getP_any a5 56 c5 (ppL ks) _ HP.out.bys (by omega)).mono ?_
        rintro e wq ⟨a6, c6, rfl, hi6, _, hc6, hb⟩
        replace HB := Lib.hid (HB.out.trans (hb.mono HB.out.size))
        replace HL := Lib.hid (HL.out.next hb)
        have hl56 : (ppL ks).length = 56 := HP.out.len
        rw [gpF, if_pos hl56, gpL_len] at hi6 hc6 ⊢
        rw [decide_eq_true hl56]
        obtain ⟨b, off, rfl, hbl, hcs⟩ := hi6.at (by omega)
        have HI := Lib.hid hi6
        have hle : n1 ≤ 28 := H28.out
        have hlc : n1 ≤ c6 := by omega
        clear hi6 hcs hbl hl56 hb HP
        go_wp2_with (fail)
        have hfr := HI.out.front hle
        rw [← HLE.out, gp_front HG.out, HLE.out] at hfr
        refine (sameInts_yes _ a1 n1 c6 c1 ks _ hfr HL.out (by omega)).mono ?_
        rintro e wr ⟨rfl, hb⟩
        replace HB := Lib.hid (HB.out.trans (hb.mono HB.out.size))
        replace HI := Lib.hid (HI.out.next hb)
        clear hb hfr HL
        go_wp2_with (fail)
        go_loop [17] (fun v => ∃ k : Nat, n1 ≤ k ∧ k ≤ 28 ∧ v = .int .i64 k) (fun v => 28 - (RowKit.intOf v).toNat)
        case atStart => exact ⟨n1, Nat.le_refl _, H28.out, rfl⟩
        case round =>
          obtain ⟨k, hk1, hk2, rfl⟩ := hrel
          by_cases hlt : k < 28
          · obtain ⟨b', off', e', hbl, hcs⟩ := HI.out.at (by omega)
            cases e'
            have hc1 := hcs k hlt
            rw [gp_rest HG.out (by have := HLE.out; omega) hlt] at hc1
            clear hcs
            go_wp2_with (fail)
            go_round
            case rel => exact ⟨k + 1, by omega, by omega, by go_num⟩
            case measure => simp [RowKit.intOf]; omega
          · obtain rfl : k = 28 := by omega
            go_wp2_with (fail)
            go_ret
            exact ⟨rfl, HB.out⟩
end Go.Proofs.Ytgfakdjljcnpiaa
