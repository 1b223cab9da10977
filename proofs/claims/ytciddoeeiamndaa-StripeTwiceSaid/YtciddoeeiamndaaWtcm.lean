/-
  StripeTwice, walked.
-/
import Derived.Test.YtciddoeeiamndaaWrdm
namespace Go.Proofs.Ytciddoeeiamndaa
open Go.RowKit Go.Maps
set_option linter.unusedVariables false

section
variable (seg other : Int) (a : Option Addr) (n c : Nat) (f : Nat → BlP) (a2 : Option Addr) (n2 c2 : Nat) (f2 : Nat → BlP) (w : World)
set_option maxRecDepth 100000 in
set_option maxHeartbeats 1000000 in
theorem twice_out (hbl : Bls w a n f) (hn : n ≤ 9223372036854775807) (hbl2 : Bls w a2 n2 f2) (hn2 : n2 ≤ 9223372036854775807) (h : ¬ (0 ≤ seg ∧ seg < 12 ∧ 0 ≤ other ∧ other < 12 ∧ fitO f n 6 = true ∧ fitO f2 n2 6 = true)) :
    Calls Try.prog 6 #[.int .i64 seg, .int .i64 other, .slice a n c, .slice a2 n2 c2] w fun e w' => e = .returned (.bool true) ∧ Below w.heap.size w w' := by
  have HAL := Lib.hid (alive_any w)
  have HFT1 : Hid (∀ w', Below w.heap.size w w' → Calls Try.prog 9 #[.slice a n c, .int .i64 6] w' fun e w'' => e = .returned (.bool (fitO f n 6)) ∧ Below w'.heap.size w' w'') := fun w' hb => fits_any a n c 6 f w' (hbl.next hb) hn
  have HFT2 : Hid (∀ w', Below w.heap.size w w' → Calls Try.prog 9 #[.slice a2 n2 c2, .int .i64 6] w' fun e w'' => e = .returned (.bool (fitO f2 n2 6)) ∧ Below w'.heap.size w' w'') := fun w' hb => fits_any a2 n2 c2 6 f2 w' (hbl2.next hb) hn2
  clear hbl hbl2
  by_cases h1 : 0 ≤ seg
  · have gh1 : decide (seg < 0) = false := decide_eq_false (by omega)
    by_cases h2 : seg < 12
    · have gh2 : decide (12 ≤ seg) = false := decide_eq_false (by omega)
      by_cases h3 : 0 ≤ other
      · have gh3 : decide (other < 0) = false := decide_eq_false (by omega)
        by_cases h4 : other < 12
        · have gh4 : decide (12 ≤ other) = false := decide_eq_false (by omega)
          cases hf1 : fitO f n 6 with
          | false =>
            rw [hf1] at HFT1
            clear h h1 h2 h3 h4 hf1
            go_enter Try.func6, Try.ntmps6
            go_wp2_with (fail)
            refine HAL.out.mono ?_
            rintro e w1 ⟨rfl, hb1⟩
            go_wp2_with (fail)
            refine (HFT1.out w1 hb1).mono ?_
            rintro e w2 ⟨rfl, hc2⟩
            have hb2 := hb1.trans (hc2.mono hb1.size)
            clear hc2
            go_wp2_with (fail)
            go_ret
            exact ⟨rfl, hb2⟩
          | true =>
            rw [hf1] at HFT1
            cases hf2 : fitO f2 n2 6 with
            | false =>
              rw [hf2] at HFT2
              clear h h1 h2 h3 h4 hf2
              go_enter Try.func6, Try.ntmps6
              go_wp2_with (fail)
              refine HAL.out.mono ?_
              rintro e w1 ⟨rfl, hb1⟩
              go_wp2_with (fail)
              refine (HFT1.out w1 hb1).mono ?_
              rintro e w2 ⟨rfl, hc2⟩
              have hb2 := hb1.trans (hc2.mono hb1.size)
              clear hc2
              go_wp2_with (fail)
              refine (HFT2.out w2 hb2).mono ?_
              rintro e w3 ⟨rfl, hc3⟩
              have hb3 := hb2.trans (hc3.mono hb2.size)
              clear hc3
              go_wp2_with (fail)
              go_ret
              exact ⟨rfl, hb3⟩
            | true =>
              exact absurd ⟨h1, h2, h3, h4, hf1, hf2⟩ h
        · have sh4 : 12 ≤ other := by omega
          clear h h1 h2 h3 h4
          go_enter Try.func6, Try.ntmps6
          go_wp2_with (fail)
          refine HAL.out.mono ?_
          rintro e w1 ⟨rfl, hb1⟩
          go_wp2_with (fail)
          go_ret
          exact ⟨rfl, hb1⟩
      · have sh3 : other < 0 := by omega
        clear h h1 h2 h3
        go_enter Try.func6, Try.ntmps6
        go_wp2_with (fail)
        refine HAL.out.mono ?_
        rintro e w1 ⟨rfl, hb1⟩
        go_wp2_with (fail)
        go_ret
        exact ⟨rfl, hb1⟩
    · have sh2 : 12 ≤ seg := by omega
      clear h h1 h2
      go_enter Try.func6, Try.ntmps6
      go_wp2_with (fail)
      refine HAL.out.mono ?_
      rintro e w1 ⟨rfl, hb1⟩
      go_wp2_with (fail)
      go_ret
      exact ⟨rfl, hb1⟩
  · have sh1 : seg < 0 := by omega
    clear h h1
    go_enter Try.func6, Try.ntmps6
    go_wp2_with (fail)
    refine HAL.out.mono ?_
    rintro e w1 ⟨rfl, hb1⟩
    go_wp2_with (fail)
    go_ret
    exact ⟨rfl, hb1⟩
end

section
variable (seg other : Nat) (a : Option Addr) (n c : Nat) (f : Nat → BlP) (a2 : Option Addr) (n2 c2 : Nat) (f2 : Nat → BlP) (w : World)
set_option maxRecDepth 100000 in
set_option maxHeartbeats 1000000 in
theorem twice_in (hbl : Bls w a n f) (hn : n ≤ 9223372036854775807) (hbl2 : Bls w a2 n2 f2) (hn2 : n2 ≤ 9223372036854775807) (hs : seg < 12) (ho : other < 12) (hfit : fitO f n 6 = true) (hfit2 : fitO f2 n2 6 = true) :
    Calls Try.prog 6 #[.int .i64 seg, .int .i64 other, .slice a n c, .slice a2 n2 c2] w fun e w' => e = .returned (.bool true) ∧ Below w.heap.size w w' := by
  have HE : Hid ((encB 4 f n 6 = true ∧ encB 5 f n 6 = true) ∧ encB 6 f2 n2 6 = true) := ⟨⟨fit_enc hbl hfit (by omega) (by omega), fit_enc hbl hfit (by omega) (by omega)⟩, fit_enc hbl2 hfit2 (by omega) (by omega)⟩
  have HSM : Hid (∀ j, j < n → AllB (f j).p.zs) := fun j hj => (hbl.each j hj).bys.small
  have HSM2 : Hid (∀ j, j < n2 → AllB (f2 j).p.zs) := fun j hj => (hbl2.each j hj).bys.small
  have HBL := Lib.hid hbl
  have HBL2 := Lib.hid hbl2
  have HFT : Hid (∀ w', Below w.heap.size w w' → Calls Try.prog 9 #[.slice a n c, .int .i64 6] w' fun e w'' => e = .returned (.bool true) ∧ Below w'.heap.size w' w'') := fun w' hb => by
    have := fits_any a n c 6 f w' (hbl.next hb) hn
    rw [hfit] at this
    exact this
  have HFT2 : Hid (∀ w', Below w.heap.size w w' → Calls Try.prog 9 #[.slice a2 n2 c2, .int .i64 6] w' fun e w'' => e = .returned (.bool true) ∧ Below w'.heap.size w' w'') := fun w' hb => by
    have := fits_any a2 n2 c2 6 f2 w' (hbl2.next hb) hn2
    rw [hfit2] at this
    exact this
  have HLEN : Hid (∀ j, j < n2 → (f2 j).p.n ≤ 56) := fun j hj => by
    have h2 := hfit2
    rw [fitO, Bool.and_eq_true] at h2
    have := fit_len hbl2 h2.2 hj
    rw [(hbl2.each j hj).len] at this
    exact this
  have HAL := Lib.hid (alive_any w)
  have f1 : decide ((seg : Int) < 0) = false := decide_eq_false (by omega)
  have f3 : decide ((12 : Int) ≤ (seg : Int)) = false := decide_eq_false (by omega)
  have f4 : decide ((other : Int) < 0) = false := decide_eq_false (by omega)
  have f5 : decide ((12 : Int) ≤ (other : Int)) = false := decide_eq_false (by omega)
  have HX : Hid (seg < 12 ∧ other < 12) := ⟨hs, ho⟩
  clear hbl hbl2 hfit hfit2 hs ho
  go_enter Try.func6, Try.ntmps6
  go_wp2_with (fail)
  refine HAL.out.mono ?_
  rintro e w1 ⟨rfl, hb1⟩
  go_wp2_with (fail)
  refine (HFT.out w1 hb1).mono ?_
  rintro e wf ⟨rfl, hbf⟩
  have hbg := hb1.trans (hbf.mono hb1.size)
  clear hb1 hbf HAL HFT
  go_wp2_with (fail)
  refine (HFT2.out wf hbg).mono ?_
  rintro e w2 ⟨rfl, hb2⟩
  have HB2 := Lib.hid (hbg.trans (hb2.mono hbg.size))
  clear hbg hb2 HFT2 f1 f3 f4 f5
  go_wp2_with (fail)
  refine (open_small w2).mono ?_
  rintro e w3 ⟨L, b, rfl, hst3⟩
  have hbl1 := HBL.out.next (HB2.out.trans (hst3.bel.mono HB2.out.size))
  have hwr1 := st_write sml0 other 4 a n c f hst3 hbl1 hn
  obtain ⟨e1, v1⟩ := Vd.start.write sml0 rfl (by decide) HX.out.2 (q := 4) (by omega) (by omega) HE.out.1.1 HSM.out
  rw [e1] at hwr1
  obtain ⟨R1, hR1⟩ : ∃ R, R = wrR B0 (newRk 4 41) 3 3 other 4 f n := ⟨_, rfl⟩
  rw [← hR1] at hwr1 v1
  obtain ⟨C1, hC1⟩ : ∃ C, C = wrS (fun _ _ => List.replicate 64 0) other 4 f n 3 := ⟨_, rfl⟩
  rw [← hC1] at v1
  have HC1 := Lib.hid hC1
  have HV1 := Lib.hid v1
  clear hC1 hR1 v1 e1 hst3 hbl1
  go_wp2_with (fail)
  refine hwr1.mono ?_
  rintro e w4 ⟨rfl, hst4, _⟩
  clear hwr1
  have hbl2 := HBL.out.next (HB2.out.trans (hst4.bel.mono HB2.out.size))
  have hwr2 := st_write sml0 seg 5 a n c f hst4 hbl2 hn
  obtain ⟨e2, v2⟩ := HV1.out.write sml0 rfl (by decide) HX.out.1 (q := 5) (by omega) (by omega) HE.out.1.2 HSM.out
  rw [e2] at hwr2
  obtain ⟨R2, hR2⟩ : ∃ R, R = wrR B0 R1 3 3 seg 5 f n := ⟨_, rfl⟩
  rw [← hR2] at hwr2 v2
  obtain ⟨C2, hC2⟩ : ∃ C, C = wrS C1 seg 5 f n 3 := ⟨_, rfl⟩
  rw [← hC2] at v2
  have HC2 := Lib.hid hC2
  have HV2 := Lib.hid v2
  clear hC2 hR2 v2 e2 hst4 hbl2
  go_wp2_with (fail)
  refine hwr2.mono ?_
  rintro e w5 ⟨rfl, hst5, _⟩
  clear hwr2
  have hbl3 := HBL2.out.next (HB2.out.trans (hst5.bel.mono HB2.out.size))
  have hwr3 := st_write sml0 seg 6 a2 n2 c2 f2 hst5 hbl3 hn2
  obtain ⟨e3, v3⟩ := HV2.out.write sml0 rfl (by decide) HX.out.1 (q := 6) (by omega) (by omega) HE.out.2 HSM2.out
  rw [e3] at hwr3
  obtain ⟨R3, hR3⟩ : ∃ R, R = wrR B0 R2 3 3 seg 6 f2 n2 := ⟨_, rfl⟩
  rw [← hR3] at hwr3 v3
  obtain ⟨C3, hC3⟩ : ∃ C, C = wrS C2 seg 6 f2 n2 3 := ⟨_, rfl⟩
  rw [← hC3] at v3
  have HC3 := Lib.hid hC3
  have HV3 := Lib.hid v3
  clear hC3 hR3 v3 e3 hst5 hbl3
  go_wp2_with (fail)
  refine hwr3.mono ?_
  rintro e w6 ⟨rfl, hst6, _⟩
  clear hwr3
  have HW : Hid (Whl C3 seg 6) := by rw [HC3.out]; exact wrS_whl HE.out.2 HSM2.out
  have HV0 := Lib.hid HV3.out.vw0
  have HWH : Hid (whR B0 R3 3 3 other = some (if other = seg then 6 else 4) ∧ chkE R3 (segO B0 other) = 0) := by
    refine ⟨?_, HV0.out.chk (HV0.out.seg HX.out.2)⟩
    by_cases e : other = seg
    · rw [if_pos e, e]
      exact HV0.out.whole HX.out.1 HW.out (by omega) (fun _ _ x => x) (by decide)
    · rw [if_neg e]
      refine HV0.out.whole (q := 4) HX.out.2 ?_ (by omega) (fun _ _ x => x) (by decide)
      rw [HC3.out]
      refine wrS_off e ?_
      rw [HC2.out]
      refine wrS_off e ?_
      rw [HC1.out]
      exact wrS_whl HE.out.1.1 HSM.out
  have HRD : Hid (∀ k : Nat, k < 6 → rbE B0 R3 3 seg k 6 = 0 ∧ decN (rbL B0 R3 3 seg k 6) 4 2 = (blkAt f2 n2 k).o ∧ decN (rbL B0 R3 3 seg k 6) 6 2 = (blkAt f2 n2 k).i ∧ decL (rbL B0 R3 3 seg k 6) = padL (blkAt f2 n2 k).p.zs 56 ∧ (decL (rbL B0 R3 3 seg k 6)).length = 56) := fun k hk => by
    obtain ⟨r0, r1⟩ := HV0.out.read HX.out.1 HW.out hk (.inr rfl)
    exact ⟨r0, blk_read HE.out.2 hk (r1.trans (by rw [HC3.out]; exact wrS_blk hk))⟩
  have HNO : Hid (∀ k : Nat, k < 6 → rbE B0 R3 3 seg k 5 = 14) := fun k hk => by
    have hlt := slt_lt (3 * seg + k / 2) (k % 2)
    have hrow := HW.out (k / 2) (by omega)
    refine (HV0.out.readNo HX.out.1 (q := 5) hk (.inr ?_) ?_).1
    · have := hrow.seq hlt
      show decN (C3 _ _) 0 4 ≠ 5
      rw [this]; omega
    · obtain ⟨a0, a1⟩ := skp_ne hlt (show 0 < 2 by omega)
      have := hrow.seq a0
      exact ⟨_, a0, a1, .inr (by rw [this]; omega)⟩
  have HST := Lib.hid hst6
  clear hst6 HV0 HV1 HV2 HV3 HC1 HC2 HC3 HW HE HSM HSM2
  go_wp2_with (fail)
  go_loopw [11] (fun i wr => ∃ k : Nat, k ≤ 6 ∧ i = .int .i64 k ∧ St w2 (also (L.M 4) (· = b)) L b R3 B0 wr) (fun i _ => 6 - (RowKit.intOf i).toNat)
  case atStart => exact ⟨0, by omega, rfl, HST.out⟩
  case round =>
    obtain ⟨k, hk, rfl, hst8⟩ := hrel
    by_cases hlt : k < 6
    · have hr := st_sread sml0 seg k 6 hst8
      obtain ⟨r0, r1, r2, r3, r4⟩ := HRD.out k hlt
      rw [r0, r1, r2, r3] at hr
      rw [r3] at r4
      have hlt' : (k : Int) < 6 := by omega
      clear hst8 r0 r1 r2 r3
      go_wp2_with (fail)
      refine hr.mono ?_
      rintro e w9 ⟨a9, n9, c9, rfl, hp9, hst9, hb9⟩
      obtain rfl : n9 = 56 := by rw [← hp9.len]; exact r4
      clear hr
      by_cases hkn : k < n2
      · have hbl9 := HBL2.out.next (HB2.out.trans (hst9.bel.mono HB2.out.size))
        obtain ⟨g, off, rfl, hg, hc⟩ : ∃ g off, a2 = some ⟨g, off, none⟩ ∧ g < w9.heap.size ∧ ∀ j, j < n2 → w9.cell? ⟨g, off + j * 3, none⟩ = some (.int .i64 (f2 j).o) ∧ w9.cell? ⟨g, off + j * 3 + 1, none⟩ = some (.int .i64 (f2 j).i) ∧ w9.cell? ⟨g, off + j * 3 + 2, none⟩ = some (.slice (f2 j).p.a (f2 j).p.n (f2 j).p.c) := by
          rcases hbl9.place with h0 | ⟨g, off, e, hg, hc⟩
          · omega
          · exact ⟨g, off, e, hg, hc⟩
        obtain ⟨c0, c1, c2⟩ := hc k hkn
        have eb : blkAt f2 n2 k = f2 k := if_pos hkn
        rw [eb] at hp9 r4 ⊢
        have HP2 := Lib.hid (hbl9.each k hkn)
        have HL2 := HLEN.out k hkn
        obtain ⟨x, hx⟩ : ∃ x, x = f2 k := ⟨_, rfl⟩
        rw [← hx] at c0 c1 c2 hp9 r4 HP2 HL2 ⊢
        have HP9 := Lib.hid hp9
        have HST9 := Lib.hid hst9
        clear hx hc hbl9 eb hp9 hst9 hb9 r4
        go_wp2_with (fail)
        refine (same_blk x.o x.i a9 c9 x.p.a x.p.n x.p.c _ x.p.zs _ (HP9.out.next (two_new w9 _ _)) (HP2.out.next (two_new w9 _ _)) HL2 rfl).mono ?_
        rintro e w10 ⟨rfl, hb10⟩
        have HST10 := Lib.hid ((HST9.out.next (two_new w9 _ _)).next hb10)
        clear hb10 HST9 HP9 HP2 c0 c1 c2
        go_wp2_with (fail)
        have hr2 := st_sread sml0 seg k 5 HST10.out
        rw [HNO.out k hlt] at hr2
        obtain ⟨z1, hz1⟩ : ∃ z, z = decN (rbL B0 R3 3 seg k 5) 4 2 := ⟨_, rfl⟩
        obtain ⟨z2, hz2⟩ : ∃ z, z = decN (rbL B0 R3 3 seg k 5) 6 2 := ⟨_, rfl⟩
        rw [← hz1, ← hz2] at hr2
        clear HST10 hz1 hz2
        refine hr2.mono ?_
        rintro e w11 ⟨a11, n11, c11, rfl, _, hst11, _⟩
        have HST11 := Lib.hid hst11
        clear hr2 hst11
        go_wp2_with (fail)
        go_roundw
        case rel => exact ⟨k + 1, by omega, by go_num, HST11.out⟩
        case measure => simp [RowKit.intOf]; omega
      · have eb : blkAt f2 n2 k = default := if_neg hkn
        rw [eb] at hp9 r4 ⊢
        have HP9 := Lib.hid hp9
        have HST9 := Lib.hid hst9
        have hkn' : ¬ (k : Int) < (n2 : Int) := by omega
        clear eb hp9 hst9 hb9 r4
        rw [show (default : BlP).o = 0 from rfl, show (default : BlP).i = 0 from rfl]
        rw [show (default : BlP).p.zs = [] from rfl] at HP9
        go_wp2_with (fail)
        refine (same_blk 0 0 a9 c9 none 0 0 _ [] _ (HP9.out.next (two_new w9 _ _)) (Pin.zero _) (by omega) rfl).mono ?_
        rintro e w10 ⟨rfl, hb10⟩
        have HST10 := Lib.hid ((HST9.out.next (two_new w9 _ _)).next hb10)
        clear hb10 HST9 HP9
        go_wp2_with (fail)
        have hr2 := st_sread sml0 seg k 5 HST10.out
        rw [HNO.out k hlt] at hr2
        obtain ⟨z1, hz1⟩ : ∃ z, z = decN (rbL B0 R3 3 seg k 5) 4 2 := ⟨_, rfl⟩
        obtain ⟨z2, hz2⟩ : ∃ z, z = decN (rbL B0 R3 3 seg k 5) 6 2 := ⟨_, rfl⟩
        rw [← hz1, ← hz2] at hr2
        clear HST10 hz1 hz2
        refine hr2.mono ?_
        rintro e w11 ⟨a11, n11, c11, rfl, _, hst11, _⟩
        have HST11 := Lib.hid hst11
        clear hr2 hst11
        go_wp2_with (fail)
        go_roundw
        case rel => exact ⟨k + 1, by omega, by go_num, HST11.out⟩
        case measure => simp [RowKit.intOf]; omega
    · obtain rfl : k = 6 := by omega
      have hw := st_whole sml0 other hst8
      rw [HWH.out.1, HWH.out.2] at hw
      clear hst8
      by_cases e : other = seg
      · rw [if_pos e] at hw
        have e1 : ((other : Int) != (seg : Int)) = false := by simp [e]
        clear e
        go_wp2_with (fail)
        refine hw.mono ?_
        rintro e w9 ⟨rfl, hst9, _⟩
        have HST9 := Lib.hid hst9
        clear hw hst9
        go_wp2_with (fail)
        go_ret
        exact ⟨rfl, HB2.out.trans (HST9.out.bel.mono HB2.out.size)⟩
      · rw [if_neg e] at hw
        have e1 : ((other : Int) != (seg : Int)) = true := by simp; omega
        clear e
        go_wp2_with (fail)
        refine hw.mono ?_
        rintro e w9 ⟨rfl, hst9, _⟩
        have HST9 := Lib.hid hst9
        clear hw hst9
        go_wp2_with (fail)
        go_ret
        exact ⟨rfl, HB2.out.trans (HST9.out.bel.mono HB2.out.size)⟩
end
theorem twiceW_any (seg other : Int) (a : Option Addr) (n c : Nat) (f : Nat → BlP) (a2 : Option Addr) (n2 c2 : Nat) (f2 : Nat → BlP) (w : World) (hbl : Bls w a n f) (hn : n ≤ 9223372036854775807) (hbl2 : Bls w a2 n2 f2) (hn2 : n2 ≤ 9223372036854775807) :
    Calls Try.prog 6 #[.int .i64 seg, .int .i64 other, .slice a n c, .slice a2 n2 c2] w fun e w' => e = .returned (.bool true) ∧ Below w.heap.size w w' := by
  by_cases h : 0 ≤ seg ∧ seg < 12 ∧ 0 ≤ other ∧ other < 12 ∧ fitO f n 6 = true ∧ fitO f2 n2 6 = true
  · obtain ⟨h1, h2, h3, h4, h5, h6⟩ := h
    obtain ⟨x, rfl⟩ := Int.eq_ofNat_of_zero_le h1
    obtain ⟨y, rfl⟩ := Int.eq_ofNat_of_zero_le h3
    exact twice_in x y a n c f a2 n2 c2 f2 w hbl hn hbl2 hn2 (by omega) (by omega) h5 h6
  · exact twice_out seg other a n c f a2 n2 c2 f2 w hbl hn hbl2 hn2 h

end Go.Proofs.Ytciddoeeiamndaa
