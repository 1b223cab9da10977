/-
  StripeReads, walked.
-/
import Derived.Test.YtciddoeeiamndaaSg
namespace Go.Proofs.Ytciddoeeiamndaa
open Go.RowKit Go.Maps
set_option linter.unusedVariables false

theorem i64_and3 (n : Int) : ∃ f : Nat, bits .and .i64 n 3 = (f : Int) ∧ f < 4 := by
  have h1 : bits .and .i64 n 3 = IntKind.i64.wrap ((BitVec.ofInt 64 n &&& BitVec.ofInt 64 3).toNat : Int) := rfl
  have h2 : (BitVec.ofInt 64 n &&& BitVec.ofInt 64 3).toNat = (BitVec.ofInt 64 n).toNat % 4 := by
    rw [BitVec.toNat_and]
    exact Nat.and_two_pow_sub_one_eq_mod _ 2
  refine ⟨(BitVec.ofInt 64 n).toNat % 4, ?_, Nat.mod_lt _ (by omega)⟩
  rw [h1, h2, IntKind.wrap_i64]
  omega

theorem two_new (w : World) (x y : Obj) : Below w.heap.size w ((w.alloc x).alloc y) := ((Below.refl _ _).alloc (Nat.le_refl _) _).alloc (by simp) _
section
variable (seg seq fail : Int) (a : Option Addr) (n c : Nat) (f : Nat → BlP) (w : World)
set_option maxRecDepth 100000 in
set_option maxHeartbeats 1000000 in
theorem reads_out (hbl : Bls w a n f) (hn : n ≤ 9223372036854775807) (h : ¬ (0 ≤ seg ∧ seg < 12 ∧ 1 ≤ seq ∧ seq < 4294967296 ∧ fitO f n 6 = true)) :
    Calls Try.prog 3 #[.int .i64 seg, .int .i64 seq, .slice a n c, .int .i64 fail] w fun e w' => e = .returned (.bool true) ∧ Below w.heap.size w w' := by
  have HAL := Lib.hid (alive_any w)
  have HFT : Hid (∀ w', Below w.heap.size w w' → Calls Try.prog 9 #[.slice a n c, .int .i64 6] w' fun e w'' => e = .returned (.bool (fitO f n 6)) ∧ Below w'.heap.size w' w'') := fun w' hb => fits_any a n c 6 f w' (hbl.next hb) hn
  clear hbl
  by_cases h1 : 0 ≤ seg
  · have f1 : decide (seg < 0) = false := decide_eq_false (by omega)
    by_cases h2 : seg < 12
    · have f2 : decide (12 ≤ seg) = false := decide_eq_false (by omega)
      by_cases h3 : 1 ≤ seq
      · have f3 : decide (seq < 1) = false := decide_eq_false (by omega)
        by_cases h4 : seq < 4294967296
        · have f4 : decide (4294967296 ≤ seq) = false := decide_eq_false (by omega)
          have h5 : fitO f n 6 = false := by
            cases hf : fitO f n 6 with
            | false => rfl
            | true => exact absurd ⟨h1, h2, h3, h4, hf⟩ h
          rw [h5] at HFT
          clear h h1 h2 h3 h4 h5
          go_enter Try.func3, Try.ntmps3
          go_wp2_with (fail)
          refine HAL.out.mono ?_
          rintro e w1 ⟨rfl, hb1⟩
          go_wp2_with (fail)
          refine (HFT.out w1 hb1).mono ?_
          rintro e w2 ⟨rfl, hb2⟩
          go_wp2_with (fail)
          go_ret
          exact ⟨rfl, hb1.trans (hb2.mono hb1.size)⟩
        · have g4 : 4294967296 ≤ seq := by omega
          clear h h1 h2 h3 h4 HFT
          go_enter Try.func3, Try.ntmps3
          go_wp2_with (fail)
          refine HAL.out.mono ?_
          rintro e w1 ⟨rfl, hb1⟩
          go_wp2_with (fail)
          go_ret
          exact ⟨rfl, hb1⟩
      · have g3 : seq < 1 := by omega
        clear h h1 h2 h3 HFT
        go_enter Try.func3, Try.ntmps3
        go_wp2_with (fail)
        refine HAL.out.mono ?_
        rintro e w1 ⟨rfl, hb1⟩
        go_wp2_with (fail)
        go_ret
        exact ⟨rfl, hb1⟩
    · have g2 : 12 ≤ seg := by omega
      clear h h1 h2 HFT
      go_enter Try.func3, Try.ntmps3
      go_wp2_with (fail)
      refine HAL.out.mono ?_
      rintro e w1 ⟨rfl, hb1⟩
      go_wp2_with (fail)
      go_ret
      exact ⟨rfl, hb1⟩
  · have g1 : seg < 0 := by omega
    clear h h1 HFT
    go_enter Try.func3, Try.ntmps3
    go_wp2_with (fail)
    refine HAL.out.mono ?_
    rintro e w1 ⟨rfl, hb1⟩
    go_wp2_with (fail)
    go_ret
    exact ⟨rfl, hb1⟩
end

section
variable (seg : Nat) (seq fail : Int) (a : Option Addr) (n c : Nat) (f : Nat → BlP) (w : World)
set_option maxRecDepth 100000 in
set_option maxHeartbeats 1000000 in
theorem reads_in (hbl : Bls w a n f) (hn : n ≤ 9223372036854775807) (hg : seg < 12) (q0 : 1 ≤ seq) (q1 : seq < 4294967296) (hfit : fitO f n 6 = true) :
    Calls Try.prog 3 #[.int .i64 seg, .int .i64 seq, .slice a n c, .int .i64 fail] w fun e w' => e = .returned (.bool true) ∧ Below w.heap.size w w' := by
  have he := fit_enc hbl hfit (q := seq) (by omega) q1
  have HSM : Hid (∀ j, j < n → AllB (f j).p.zs) := fun j hj => (hbl.each j hj).bys.small
  have HE := Lib.hid he
  have HBL := Lib.hid hbl
  have HFT : Hid (∀ w', Below w.heap.size w w' → Calls Try.prog 9 #[.slice a n c, .int .i64 6] w' fun e w'' => e = .returned (.bool true) ∧ Below w'.heap.size w' w'') := fun w' hb => by
    have := fits_any a n c 6 f w' (hbl.next hb) hn
    rw [hfit] at this
    exact this
  have HLEN : Hid (∀ j, j < n → (f j).p.n ≤ 56) := fun j hj => by
    have h2 := hfit
    rw [fitO, Bool.and_eq_true] at h2
    have := fit_len hbl h2.2 hj
    rw [(hbl.each j hj).len] at this
    exact this
  have HAL := Lib.hid (alive_any w)
  obtain ⟨fl, hfl, hfl4⟩ := i64_and3 fail
  have f1 : decide ((seg : Int) < 0) = false := decide_eq_false (by omega)
  have f2 : decide ((12 : Int) ≤ (seg : Int)) = false := decide_eq_false (by omega)
  have f3 : decide (seq < 1) = false := decide_eq_false (by omega)
  have f4 : decide (4294967296 ≤ seq) = false := decide_eq_false (by omega)
  have HG := Lib.hid hg
  have HQ : Hid (1 ≤ seq ∧ seq < 4294967296) := ⟨q0, q1⟩
  clear he hbl hfit hg q0 q1
  go_enter Try.func3, Try.ntmps3
  go_wp2_with (fail)
  refine HAL.out.mono ?_
  rintro e w1 ⟨rfl, hb1⟩
  go_wp2_with (fail)
  refine (HFT.out w1 hb1).mono ?_
  rintro e w2 ⟨rfl, hb2⟩
  have HB2 := Lib.hid (hb1.trans (hb2.mono hb1.size))
  clear hb1 hb2 HAL HFT f1 f2 f3 f4
  go_wp2_with (fail)
  refine (open_small w2).mono ?_
  rintro e w3 ⟨L, b, rfl, hst⟩
  have hbl3 := HBL.out.next (HB2.out.trans (hst.bel.mono HB2.out.size))
  have hwr := st_write sml0 seg seq a n c f hst hbl3 hn
  obtain ⟨e1, v1⟩ := Vd.start.write sml0 rfl (by decide) HG.out HQ.out.1 HQ.out.2 HE.out HSM.out
  rw [e1] at hwr
  obtain ⟨R1, hR1⟩ : ∃ R1, R1 = wrR B0 (newRk 4 41) 3 3 seg seq f n := ⟨_, rfl⟩
  rw [← hR1] at hwr v1
  obtain ⟨C, hC⟩ : ∃ C, C = wrS (fun _ _ => List.replicate 64 0) seg seq f n 3 := ⟨_, rfl⟩
  have HW : Hid (Whl C seg seq) := by rw [hC]; exact wrS_whl HE.out HSM.out
  have HC : Hid (∀ k, k < 6 → C (slt (3 * seg + k / 2) (k % 2)) (5 + (3 * seg + k / 2)) = enS seq f n k) := fun k hk => by rw [hC]; exact wrS_blk hk
  rw [← hC] at v1
  have HV1 := Lib.hid v1
  clear hC hR1 v1 e1 hst hbl3
  go_wp2_with (fail)
  refine hwr.mono ?_
  rintro e w4 ⟨rfl, hst4, _⟩
  have hdm := st_doom fl 0 hst4 (by omega)
  obtain ⟨d1, d2⟩ := HV1.out.doom hfl4
  rw [d1] at hdm
  obtain ⟨R2, hR2⟩ : ∃ R2, R2 = R1.doom fl 0 := ⟨_, rfl⟩
  rw [← hR2] at hdm d2
  have HV2 := Lib.hid d2
  clear hwr hst4 d1 d2 hR2 HV1
  go_wp2_with (fail)
  refine hdm.mono ?_
  rintro e w5 ⟨rfl, hst5, _⟩
  have hfl := st_flush (n := 3) hst5 rfl (by omega)
  obtain ⟨f1, f2⟩ := HV2.out.flush0
  rw [f1] at hfl
  obtain ⟨R3, hR3⟩ : ∃ R3, R3 = (flG B0 R2 B0.num).2.2 := ⟨_, rfl⟩
  rw [← hR3] at hfl f2
  obtain ⟨bad, hbad⟩ : ∃ bad, bad = orD noD (fun j => noD j || j == fl) := ⟨_, rfl⟩
  have hone : One bad fl := by rw [hbad]; exact one_doom fl
  rw [← hbad] at f2
  have hvw := f2.vw0
  have HWH : Hid (whR B0 R3 3 3 seg = some seq ∧ chkE R3 (segO B0 seg) = 0) := ⟨hvw.whole HG.out HW.out (by have := HQ.out.1; omega) (fun _ _ x => x) hone.cnt, hvw.chk (hvw.seg HG.out)⟩
  have HRD : Hid (∀ k : Nat, k < 6 → rbE B0 R3 3 seg k seq = 0 ∧ decN (rbL B0 R3 3 seg k seq) 4 2 = (blkAt f n k).o ∧ decN (rbL B0 R3 3 seg k seq) 6 2 = (blkAt f n k).i ∧ decL (rbL B0 R3 3 seg k seq) = padL (blkAt f n k).p.zs 56 ∧ (decL (rbL B0 R3 3 seg k seq)).length = 56) := fun k hk => by
    obtain ⟨r0, r1⟩ := hvw.read HG.out HW.out hk (hone.or (slt_lt _ _))
    exact ⟨r0, blk_read HE.out hk (r1.trans (HC.out k hk))⟩
  clear hdm hst5 f1 f2 hR3 HV2 hbad hone hvw HW HC HE HSM
  go_wp2_with (fail)
  refine hfl.mono ?_
  rintro e w6 ⟨rfl, hst6, _⟩
  have hw := st_whole sml0 seg hst6
  rw [HWH.out.1, HWH.out.2] at hw
  clear hfl hst6 HWH
  go_wp2_with (fail)
  refine hw.mono ?_
  rintro e w7 ⟨rfl, hst7, _⟩
  have HST7 := Lib.hid hst7
  clear hw hst7
  go_wp2_with (fail)
  go_loopw [14] (fun i wr => ∃ k : Nat, k ≤ 6 ∧ i = .int .i64 k ∧ St w2 (also (L.M 4) (· = b)) L b R3 B0 wr) (fun i _ => 6 - (RowKit.intOf i).toNat)
  case atStart => exact ⟨0, by omega, rfl, HST7.out⟩
  case round =>
    obtain ⟨k, hk, rfl, hst8⟩ := hrel
    by_cases hlt : k < 6
    · have hr := st_sread sml0 seg k seq hst8
      obtain ⟨r0, r1, r2, r3, r4⟩ := HRD.out k hlt
      rw [r0, r1, r2, r3] at hr
      rw [r3] at r4
      have hlt' : (k : Int) < 6 := by omega
      clear hst8 r0 r1 r2 r3
      go_wp2_with (fail)
      refine hr.mono ?_
      rintro e w9 ⟨a9, n9, c9, rfl, hp9, hst9, hb9⟩
      obtain rfl : n9 = 56 := by rw [← hp9.len]; exact r4
      clear hr
      by_cases hkn : k < n
      · have hbl9 := HBL.out.next (HB2.out.trans (hst9.bel.mono HB2.out.size))
        obtain ⟨g, off, rfl, hg, hc⟩ : ∃ g off, a = some ⟨g, off, none⟩ ∧ g < w9.heap.size ∧ ∀ j, j < n → w9.cell? ⟨g, off + j * 3, none⟩ = some (.int .i64 (f j).o) ∧ w9.cell? ⟨g, off + j * 3 + 1, none⟩ = some (.int .i64 (f j).i) ∧ w9.cell? ⟨g, off + j * 3 + 2, none⟩ = some (.slice (f j).p.a (f j).p.n (f j).p.c) := by
          rcases hbl9.place with h0 | ⟨g, off, e, hg, hc⟩
          · omega
          · exact ⟨g, off, e, hg, hc⟩
        obtain ⟨c0, c1, c2⟩ := hc k hkn
        have eb : blkAt f n k = f k := if_pos hkn
        rw [eb] at hp9 r4 ⊢
        have HP2 := Lib.hid (hbl9.each k hkn)
        have HL2 := HLEN.out k hkn
        obtain ⟨x, hx⟩ : ∃ x, x = f k := ⟨_, rfl⟩
        rw [← hx] at c0 c1 c2 hp9 r4 HP2 HL2 ⊢
        have HP9 := Lib.hid hp9
        have HST9 := Lib.hid hst9
        clear hx hc hbl9 eb hp9 hst9 hb9 r4
        go_wp2_with (fail)
        refine (same_blk x.o x.i a9 c9 x.p.a x.p.n x.p.c _ x.p.zs _ (HP9.out.next (two_new w9 _ _)) (HP2.out.next (two_new w9 _ _)) HL2 rfl).mono ?_
        rintro e w10 ⟨rfl, hb10⟩
        have HST10 := Lib.hid ((HST9.out.next (two_new w9 _ _)).next hb10)
        clear hb10 HST9 HP9 HP2 c0 c1 c2
        go_wp2_with (fail)
        go_roundw
        case rel => exact ⟨k + 1, by omega, by go_num, HST10.out⟩
        case measure => simp [RowKit.intOf]; omega
      · have eb : blkAt f n k = default := if_neg hkn
        rw [eb] at hp9 r4 ⊢
        have HP9 := Lib.hid hp9
        have HST9 := Lib.hid hst9
        have hkn' : ¬ (k : Int) < (n : Int) := by omega
        clear eb hp9 hst9 hb9 r4
        rw [show (default : BlP).o = 0 from rfl, show (default : BlP).i = 0 from rfl]
        rw [show (default : BlP).p.zs = [] from rfl] at HP9
        go_wp2_with (fail)
        refine (same_blk 0 0 a9 c9 none 0 0 _ [] _ (HP9.out.next (two_new w9 _ _)) (Pin.zero _) (by omega) rfl).mono ?_
        rintro e w10 ⟨rfl, hb10⟩
        have HST10 := Lib.hid ((HST9.out.next (two_new w9 _ _)).next hb10)
        clear hb10 HST9 HP9
        go_wp2_with (fail)
        go_roundw
        case rel => exact ⟨k + 1, by omega, by go_num, HST10.out⟩
        case measure => simp [RowKit.intOf]; omega
    · obtain rfl : k = 6 := by omega
      go_wp2_with (fail)
      go_ret
      exact ⟨rfl, HB2.out.trans (hst8.bel.mono HB2.out.size)⟩
end

theorem reads_any (seg seq fail : Int) (a : Option Addr) (n c : Nat) (f : Nat → BlP) (w : World) (hbl : Bls w a n f) (hn : n ≤ 9223372036854775807) :
    Calls Try.prog 3 #[.int .i64 seg, .int .i64 seq, .slice a n c, .int .i64 fail] w fun e w' => e = .returned (.bool true) ∧ Below w.heap.size w w' := by
  by_cases h : 0 ≤ seg ∧ seg < 12 ∧ 1 ≤ seq ∧ seq < 4294967296 ∧ fitO f n 6 = true
  · obtain ⟨h1, h2, h3, h4, h5⟩ := h
    obtain ⟨g, rfl⟩ := Int.eq_ofNat_of_zero_le h1
    exact reads_in g seq fail a n c f w hbl hn (by omega) h3 h4 h5
  · exact reads_out seg seq fail a n c f w hbl hn h

end Go.Proofs.Ytciddoeeiamndaa
