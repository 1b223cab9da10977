/-
  StripeTwo, walked.
-/
import Derived.Test.YtciddoeeiamndaaWrdm
namespace Go.Proofs.Ytciddoeeiamndaa
open Go.RowKit Go.Maps
set_option linter.unusedVariables false

section
variable (a : Option Addr) (n c : Nat) (f : Nat → BlP) (x y : Int) (w : World)
set_option maxRecDepth 100000 in
set_option maxHeartbeats 1000000 in
theorem two_out (hbl : Bls w a n f) (hn : n ≤ 9223372036854775807) (h : ¬ (fitO f n 6 = true ∧ 0 ≤ x ∧ x ≤ 2 ∧ 0 ≤ y ∧ y ≤ 2 ∧ x ≠ y)) :
    Calls Try.prog 5 #[.slice a n c, .int .i64 x, .int .i64 y] w fun e w' => e = .returned (.bool true) ∧ Below w.heap.size w w' := by
  have HAL := Lib.hid (alive_any w)
  have HFT1 : Hid (∀ w', Below w.heap.size w w' → Calls Try.prog 9 #[.slice a n c, .int .i64 6] w' fun e w'' => e = .returned (.bool (fitO f n 6)) ∧ Below w'.heap.size w' w'') := fun w' hb => fits_any a n c 6 f w' (hbl.next hb) hn
  clear hbl
  cases hf1 : fitO f n 6 with
  | false =>
    rw [hf1] at HFT1
    clear h hf1
    go_enter Try.func5, Try.ntmps5
    go_wp2_with (fail)
    refine HAL.out.mono ?_
    rintro e w1 ⟨rfl, hb1⟩
    go_wp2_with (fail)
    refine (HFT1.out w1 hb1).mono ?_
    rintro e w2 ⟨rfl, hc2⟩
    have hb2 := hb1.trans (hc2.mono hb1.size)
    clear hc2
    go_wp2_with (fail)
    go_ret
    exact ⟨rfl, hb2⟩
  | true =>
    rw [hf1] at HFT1
    by_cases h1 : 0 ≤ x
    · have gh1 : decide (x < 0) = false := decide_eq_false (by omega)
      by_cases h2 : x ≤ 2
      · have gh2 : decide (2 < x) = false := decide_eq_false (by omega)
        by_cases h3 : 0 ≤ y
        · have gh3 : decide (y < 0) = false := decide_eq_false (by omega)
          by_cases h4 : y ≤ 2
          · have gh4 : decide (2 < y) = false := decide_eq_false (by omega)
            by_cases h5 : x ≠ y
            · exact absurd ⟨hf1, h1, h2, h3, h4, h5⟩ h
            · have sh5 : x = y := by omega
              clear h h1 h2 h3 h4 h5
              go_enter Try.func5, Try.ntmps5
              go_wp2_with (fail)
              refine HAL.out.mono ?_
              rintro e w1 ⟨rfl, hb1⟩
              go_wp2_with (fail)
              refine (HFT1.out w1 hb1).mono ?_
              rintro e w2 ⟨rfl, hc2⟩
              have hb2 := hb1.trans (hc2.mono hb1.size)
              clear hc2
              go_wp2_with (fail)
              go_ret
              exact ⟨rfl, hb2⟩
          · have sh4 : 2 < y := by omega
            clear h h1 h2 h3 h4
            go_enter Try.func5, Try.ntmps5
            go_wp2_with (fail)
            refine HAL.out.mono ?_
            rintro e w1 ⟨rfl, hb1⟩
            go_wp2_with (fail)
            refine (HFT1.out w1 hb1).mono ?_
            rintro e w2 ⟨rfl, hc2⟩
            have hb2 := hb1.trans (hc2.mono hb1.size)
            clear hc2
            go_wp2_with (fail)
            go_ret
            exact ⟨rfl, hb2⟩
        · have sh3 : y < 0 := by omega
          clear h h1 h2 h3
          go_enter Try.func5, Try.ntmps5
          go_wp2_with (fail)
          refine HAL.out.mono ?_
          rintro e w1 ⟨rfl, hb1⟩
          go_wp2_with (fail)
          refine (HFT1.out w1 hb1).mono ?_
          rintro e w2 ⟨rfl, hc2⟩
          have hb2 := hb1.trans (hc2.mono hb1.size)
          clear hc2
          go_wp2_with (fail)
          go_ret
          exact ⟨rfl, hb2⟩
      · have sh2 : 2 < x := by omega
        clear h h1 h2
        go_enter Try.func5, Try.ntmps5
        go_wp2_with (fail)
        refine HAL.out.mono ?_
        rintro e w1 ⟨rfl, hb1⟩
        go_wp2_with (fail)
        refine (HFT1.out w1 hb1).mono ?_
        rintro e w2 ⟨rfl, hc2⟩
        have hb2 := hb1.trans (hc2.mono hb1.size)
        clear hc2
        go_wp2_with (fail)
        go_ret
        exact ⟨rfl, hb2⟩
    · have sh1 : x < 0 := by omega
      clear h h1
      go_enter Try.func5, Try.ntmps5
      go_wp2_with (fail)
      refine HAL.out.mono ?_
      rintro e w1 ⟨rfl, hb1⟩
      go_wp2_with (fail)
      refine (HFT1.out w1 hb1).mono ?_
      rintro e w2 ⟨rfl, hc2⟩
      have hb2 := hb1.trans (hc2.mono hb1.size)
      clear hc2
      go_wp2_with (fail)
      go_ret
      exact ⟨rfl, hb2⟩
end

section
variable (a : Option Addr) (n c : Nat) (f : Nat → BlP) (x y : Nat) (w : World)
set_option maxRecDepth 100000 in
set_option maxHeartbeats 1000000 in
theorem two_in (hbl : Bls w a n f) (hn : n ≤ 9223372036854775807) (hfit : fitO f n 6 = true) (hx : x < 3) (hy : y < 3) (hxy : x ≠ y) :
    Calls Try.prog 5 #[.slice a n c, .int .i64 x, .int .i64 y] w fun e w' => e = .returned (.bool true) ∧ Below w.heap.size w w' := by
  have HE : Hid (encB 3 f n 6 = true ∧ encB 4 f n 6 = true) := ⟨fit_enc hbl hfit (by omega) (by omega), fit_enc hbl hfit (by omega) (by omega)⟩
  have HSM : Hid (∀ j, j < n → AllB (f j).p.zs) := fun j hj => (hbl.each j hj).bys.small
  have HBL := Lib.hid hbl
  have HFT : Hid (∀ w', Below w.heap.size w w' → Calls Try.prog 9 #[.slice a n c, .int .i64 6] w' fun e w'' => e = .returned (.bool true) ∧ Below w'.heap.size w' w'') := fun w' hb => by
    have := fits_any a n c 6 f w' (hbl.next hb) hn
    rw [hfit] at this
    exact this
  have HLEN : Hid (∀ j, j < n → (f j).p.n ≤ 56) := fun j hj => by
    have h2 := hfit
    rw [fitO, Bool.and_eq_true] at h2
    have := fit_len hbl h2.2 hj
    rw [(hbl.each j hj).len] at this
    exact this
  have HAL := Lib.hid (alive_any w)
  have f1 : decide ((x : Int) < 0) = false := decide_eq_false (by omega)
  have f2 : decide ((2 : Int) < (x : Int)) = false := decide_eq_false (by omega)
  have f3 : decide ((y : Int) < 0) = false := decide_eq_false (by omega)
  have f4 : decide ((2 : Int) < (y : Int)) = false := decide_eq_false (by omega)
  have f5 : ((x : Int) == (y : Int)) = false := by simp; omega
  have HX : Hid (x < 3 ∧ y < 3 ∧ x ≠ y) := ⟨hx, hy, hxy⟩
  clear hbl hfit hx hy hxy
  go_enter Try.func5, Try.ntmps5
  go_wp2_with (fail)
  refine HAL.out.mono ?_
  rintro e w1 ⟨rfl, hb1⟩
  go_wp2_with (fail)
  refine (HFT.out w1 hb1).mono ?_
  rintro e w2 ⟨rfl, hb2⟩
  have HB2 := Lib.hid (hb1.trans (hb2.mono hb1.size))
  clear hb1 hb2 HAL HFT
  go_wp2_with (fail)
  refine (open_small w2).mono ?_
  rintro e w3 ⟨L, b, rfl, hst⟩
  have hbl3 := HBL.out.next (HB2.out.trans (hst.bel.mono HB2.out.size))
  have hwr := st_write sml0 0 3 a n c f hst hbl3 hn
  obtain ⟨e1, v1⟩ := Vd.start.write sml0 rfl (by decide) (g := 0) (q := 3) (by omega) (by omega) (by omega) HE.out.1 HSM.out
  rw [show wrE B0 (newRk 4 41) 3 3 0 3 f n = 0 from e1] at hwr
  obtain ⟨R1, hR1⟩ : ∃ R1, R1 = wrR B0 (newRk 4 41) 3 3 0 3 f n := ⟨_, rfl⟩
  rw [← hR1] at hwr
  rw [show wrR B0 (newRk 4 41) 3 3 (0 : Nat) 3 f n = R1 from hR1.symm] at v1
  obtain ⟨C, hC⟩ : ∃ C, C = wrS (fun _ _ => List.replicate 64 0) 0 3 f n 3 := ⟨_, rfl⟩
  have HW : Hid (Whl C 0 3) := by rw [hC]; exact wrS_whl HE.out.1 HSM.out
  have HC : Hid (∀ k, k < 6 → C (slt (3 * 0 + k / 2) (k % 2)) (5 + (3 * 0 + k / 2)) = enS 3 f n k) := fun k hk => by rw [hC]; exact wrS_blk hk
  rw [← hC] at v1
  have HV1 := Lib.hid v1
  clear hC hR1 v1 e1 hst hbl3
  go_wp2_with (fail)
  refine hwr.mono ?_
  rintro e w4 ⟨rfl, hst4, _⟩
  have hdm := st_doom x 0 hst4 (by omega)
  obtain ⟨d1, d2⟩ := HV1.out.doom (i := x) (by have := HX.out; omega)
  rw [d1] at hdm
  obtain ⟨R2, hR2⟩ : ∃ R2, R2 = R1.doom x 0 := ⟨_, rfl⟩
  rw [← hR2] at hdm d2
  have HV2 := Lib.hid d2
  clear hwr hst4 d1 d2 hR2 HV1
  go_wp2_with (fail)
  refine hdm.mono ?_
  rintro e w5 ⟨rfl, hst5, _⟩
  have hdm2 := st_doom y 0 hst5 (by omega)
  obtain ⟨d1, d2⟩ := HV2.out.doom (i := y) (by have := HX.out; omega)
  rw [d1] at hdm2
  obtain ⟨R3, hR3⟩ : ∃ R3, R3 = R2.doom y 0 := ⟨_, rfl⟩
  rw [← hR3] at hdm2 d2
  have HV3 := Lib.hid d2
  clear hdm hst5 d1 d2 hR3 HV2
  go_wp2_with (fail)
  refine hdm2.mono ?_
  rintro e w6 ⟨rfl, hst6, _⟩
  have hfl := st_flush (n := 3) hst6 rfl (by omega)
  obtain ⟨f1, f2⟩ := HV3.out.flush0
  rw [f1] at hfl
  obtain ⟨R, hR⟩ : ∃ R, R = (flG B0 R3 B0.num).2.2 := ⟨_, rfl⟩
  rw [← hR] at hfl f2
  obtain ⟨bad, hbad⟩ : ∃ bad, bad = orD noD (fun j => (noD j || j == x) || j == y) := ⟨_, rfl⟩
  have HBX : Hid (bad x = true ∧ bad y = true) := by
    rw [hbad]
    exact ⟨by simp [orD], by simp [orD]⟩
  rw [← hbad] at f2
  have HV := Lib.hid f2
  have HCN : Hid (1 < cntB bad) := cnt_two HX.out.1 HX.out.2.1 HX.out.2.2 HBX.out.1 HBX.out.2
  have HV0 := Lib.hid f2.vw0
  have HWH : Hid (whR B0 R 3 3 0 = none ∧ chkE R (segO B0 0) = 0) := ⟨HV0.out.wholeNo HCN.out 0, HV0.out.chk (HV0.out.seg (g := 0) (by omega))⟩
  clear hdm2 hst6 f1 f2 hR HV3 hbad
  go_wp2_with (fail)
  refine hfl.mono ?_
  rintro e w7 ⟨rfl, hst7, _⟩
  have hwn := st_write sml0 0 4 a n c f hst7 (HBL.out.next (HB2.out.trans (hst7.bel.mono HB2.out.size))) hn
  obtain ⟨e1, e2⟩ := HV.out.writeNo sml0 rfl HCN.out (g := 0) (q := 4) (by omega) (by omega) (by omega) HE.out.2 (fb := f) (nb := n)
  rw [show wrE B0 R 3 3 0 4 f n = 14 from e1, show wrR B0 R 3 3 0 4 f n = R from e2] at hwn
  clear hfl hst7 e1 e2
  go_wp2_with (fail)
  refine hwn.mono ?_
  rintro e w8 ⟨rfl, hst8, _⟩
  have hwn2 := st_write sml0 1 4 a n c f hst8 (HBL.out.next (HB2.out.trans (hst8.bel.mono HB2.out.size))) hn
  obtain ⟨e1, e2⟩ := HV.out.writeNo sml0 rfl HCN.out (g := 1) (q := 4) (by omega) (by omega) (by omega) HE.out.2 (fb := f) (nb := n)
  rw [show wrE B0 R 3 3 1 4 f n = 14 from e1, show wrR B0 R 3 3 1 4 f n = R from e2] at hwn2
  clear hwn hst8 e1 e2
  go_wp2_with (fail)
  refine hwn2.mono ?_
  rintro e wa ⟨rfl, hsta, _⟩
  have hw := st_whole sml0 0 hsta
  rw [HWH.out.1, HWH.out.2] at hw
  clear hwn2 hsta HWH
  go_wp2_with (fail)
  refine hw.mono ?_
  rintro e wb ⟨rfl, hstb, _⟩
  have HSTB := Lib.hid hstb
  have HRD : Hid (∀ k : Nat, k < 6 → (rbE B0 R 3 0 k 3 = 0 ∧ decN (rbL B0 R 3 0 k 3) 4 2 = (blkAt f n k).o ∧ decN (rbL B0 R 3 0 k 3) 6 2 = (blkAt f n k).i ∧ decL (rbL B0 R 3 0 k 3) = padL (blkAt f n k).p.zs 56 ∧ (decL (rbL B0 R 3 0 k 3)).length = 56) ∨ rbE B0 R 3 0 k 3 = 14) := fun k hk => by
    have hlt := slt_lt (3 * 0 + k / 2) (k % 2)
    cases hb : bad (slt (3 * 0 + k / 2) (k % 2)) with
    | false =>
      obtain ⟨r0, r1⟩ := HV0.out.read (g := 0) (by omega) HW.out hk (.inr hb)
      exact .inl ⟨r0, blk_read HE.out.1 hk (r1.trans (HC.out k hk))⟩
    | true =>
      refine .inr (HV0.out.readNo (g := 0) (q := 3) (by omega) hk (.inl hb) ?_).1
      obtain ⟨x1, x2, x3⟩ := HX.out
      by_cases e : x = slt (3 * 0 + k / 2) (k % 2)
      · exact ⟨y, x2, fun e2 => x3 (e.trans e2.symm), .inl HBX.out.2⟩
      · exact ⟨x, x1, e, .inl HBX.out.1⟩
  clear hw hstb HV HV0 HCN HBX HW HC HE HSM
  go_wp2_with (fail)
  go_loopw [12] (fun i wr => ∃ k : Nat, k ≤ 6 ∧ i = .int .i64 k ∧ St w2 (also (L.M 4) (· = b)) L b R B0 wr) (fun i _ => 6 - (RowKit.intOf i).toNat)
  case atStart => exact ⟨0, by omega, rfl, HSTB.out⟩
  case round =>
    obtain ⟨k, hk, rfl, hst8⟩ := hrel
    by_cases hlt : k < 6
    · have hr := st_sread sml0 0 k 3 hst8
      have hlt' : (k : Int) < 6 := by omega
      rcases HRD.out k hlt with ⟨r0, r1, r2, r3, r4⟩ | r0
      · rw [r0, r1, r2, r3] at hr
        rw [r3] at r4
        clear hst8 r0 r1 r2 r3
        go_wp2_with (fail)
        refine hr.mono ?_
        rintro e w9 ⟨a9, n9, c9, rfl, hp9, hst9, hb9⟩
        obtain rfl : n9 = 56 := by rw [← hp9.len]; exact r4
        clear hr
        by_cases hkn : k < n
        · have hbl9 := HBL.out.next (HB2.out.trans (hst9.bel.mono HB2.out.size))
          obtain ⟨g, off, rfl, hg, hc⟩ : ∃ g off, a = some ⟨g, off, none⟩ ∧ g < w9.heap.size ∧ ∀ j, j < n → w9.cell? ⟨g, off + j * 3, none⟩ = some (.int .i64 (f j).o) ∧ w9.cell? ⟨g, off + j * 3 + 1, none⟩ = some (.int .i64 (f j).i) ∧ w9.cell? ⟨g, off + j * 3 + 2, none⟩ = some (.slice (f j).p.a (f j).p.n (f j).p.c) := by
            rcases hbl9.place with h0 | ⟨g, off, e, hg, hc⟩
            · omega
            · exact ⟨g, off, e, hg, hc⟩
          obtain ⟨c0, c1, c2⟩ := hc k hkn
          have eb : blkAt f n k = f k := if_pos hkn
          rw [eb] at hp9 r4 ⊢
          have HP2 := Lib.hid (hbl9.each k hkn)
          have HL2 := HLEN.out k hkn
          obtain ⟨x, hx⟩ : ∃ x, x = f k := ⟨_, rfl⟩
          rw [← hx] at c0 c1 c2 hp9 r4 HP2 HL2 ⊢
          have HP9 := Lib.hid hp9
          have HST9 := Lib.hid hst9
          clear hx hc hbl9 eb hp9 hst9 hb9 r4
          go_wp2_with (fail)
          refine (same_blk x.o x.i a9 c9 x.p.a x.p.n x.p.c _ x.p.zs _ (HP9.out.next (two_new w9 _ _)) (HP2.out.next (two_new w9 _ _)) HL2 rfl).mono ?_
          rintro e w10 ⟨rfl, hb10⟩
          have HST10 := Lib.hid ((HST9.out.next (two_new w9 _ _)).next hb10)
          clear hb10 HST9 HP9 HP2 c0 c1 c2
          go_wp2_with (fail)
          go_roundw
          case rel => exact ⟨k + 1, by omega, by go_num, HST10.out⟩
          case measure => simp [RowKit.intOf]; omega
        · have eb : blkAt f n k = default := if_neg hkn
          rw [eb] at hp9 r4 ⊢
          have HP9 := Lib.hid hp9
          have HST9 := Lib.hid hst9
          have hkn' : ¬ (k : Int) < (n : Int) := by omega
          clear eb hp9 hst9 hb9 r4
          rw [show (default : BlP).o = 0 from rfl, show (default : BlP).i = 0 from rfl]
          rw [show (default : BlP).p.zs = [] from rfl] at HP9
          go_wp2_with (fail)
          refine (same_blk 0 0 a9 c9 none 0 0 _ [] _ (HP9.out.next (two_new w9 _ _)) (Pin.zero _) (by omega) rfl).mono ?_
          rintro e w10 ⟨rfl, hb10⟩
          have HST10 := Lib.hid ((HST9.out.next (two_new w9 _ _)).next hb10)
          clear hb10 HST9 HP9
          go_wp2_with (fail)
          go_roundw
          case rel => exact ⟨k + 1, by omega, by go_num, HST10.out⟩
          case measure => simp [RowKit.intOf]; omega
      · rw [r0] at hr
        obtain ⟨z1, hz1⟩ : ∃ z, z = decN (rbL B0 R 3 0 k 3) 4 2 := ⟨_, rfl⟩
        obtain ⟨z2, hz2⟩ : ∃ z, z = decN (rbL B0 R 3 0 k 3) 6 2 := ⟨_, rfl⟩
        rw [← hz1, ← hz2] at hr
        clear hst8 r0 hz1 hz2
        go_wp2_with (fail)
        refine hr.mono ?_
        rintro e w9 ⟨a9, n9, c9, rfl, hp9, hst9, hb9⟩
        clear hr
        by_cases hkn : k < n
        · have hbl9 := HBL.out.next (HB2.out.trans (hst9.bel.mono HB2.out.size))
          obtain ⟨g, off, rfl, hg, hc⟩ : ∃ g off, a = some ⟨g, off, none⟩ ∧ g < w9.heap.size ∧ ∀ j, j < n → w9.cell? ⟨g, off + j * 3, none⟩ = some (.int .i64 (f j).o) ∧ w9.cell? ⟨g, off + j * 3 + 1, none⟩ = some (.int .i64 (f j).i) ∧ w9.cell? ⟨g, off + j * 3 + 2, none⟩ = some (.slice (f j).p.a (f j).p.n (f j).p.c) := by
            rcases hbl9.place with h0 | ⟨g, off, e, hg, hc⟩
            · omega
            · exact ⟨g, off, e, hg, hc⟩
          obtain ⟨c0, c1, c2⟩ := hc k hkn
          have HST10 := Lib.hid (hst9.next (two_new w9 (.cells #[.int .i64 z1, .int .i64 z2, .slice a9 n9 c9] 39) (.cells #[.int .i64 (f k).o, .int .i64 (f k).i, .slice (f k).p.a (f k).p.n (f k).p.c] 39)))
          clear hc hbl9 hp9 hst9 hb9
          go_wp2_with (fail)
          go_roundw
          case rel => exact ⟨k + 1, by omega, by go_num, HST10.out⟩
          case measure => simp [RowKit.intOf]; omega
        · have hkn' : ¬ (k : Int) < (n : Int) := by omega
          have HST10 := Lib.hid (hst9.next (two_new w9 (.cells #[.int .i64 z1, .int .i64 z2, .slice a9 n9 c9] 39) (.cells #[.int .i64 0, .int .i64 0, .slice none 0 0] 39)))
          clear hp9 hst9 hb9
          go_wp2_with (fail)
          go_roundw
          case rel => exact ⟨k + 1, by omega, by go_num, HST10.out⟩
          case measure => simp [RowKit.intOf]; omega
    · obtain rfl : k = 6 := by omega
      go_wp2_with (fail)
      go_ret
      exact ⟨rfl, HB2.out.trans (hst8.bel.mono HB2.out.size)⟩
end
theorem twoW_any (a : Option Addr) (n c : Nat) (f : Nat → BlP) (x y : Int) (w : World) (hbl : Bls w a n f) (hn : n ≤ 9223372036854775807) :
    Calls Try.prog 5 #[.slice a n c, .int .i64 x, .int .i64 y] w fun e w' => e = .returned (.bool true) ∧ Below w.heap.size w w' := by
  by_cases h : fitO f n 6 = true ∧ 0 ≤ x ∧ x ≤ 2 ∧ 0 ≤ y ∧ y ≤ 2 ∧ x ≠ y
  · obtain ⟨h1, h2, h3, h4, h5, h6⟩ := h
    obtain ⟨x, rfl⟩ := Int.eq_ofNat_of_zero_le h2
    obtain ⟨y, rfl⟩ := Int.eq_ofNat_of_zero_le h4
    exact two_in a n c f x y w hbl hn h1 (by omega) (by omega) (by omega)
  · exact two_out a n c f x y w hbl hn h

end Go.Proofs.Ytciddoeeiamndaa
