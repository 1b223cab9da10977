/-
  BankBad's walk.
-/
import Derived.Test.YtoiidhpohghiaaaAlv
import Derived.Test.YtoiidhpohghiaaaHld3
namespace Go.Proofs.Ytoiidhpohghiaaa
open Go.RowKit Go.Maps
set_option linter.unusedVariables false

theorem ins_next {w w' : World} {a : Option Addr} {n : Nat} {ks : List Int} (h : Ins w a n ks) (hb : Below w.heap.size w w') : Ins w' a n ks := by
  refine ⟨h.1, h.2.imp id fun ⟨b, off, e, hlt, hc⟩ => ⟨b, off, e, Nat.lt_of_lt_of_le hlt hb.size, fun i hi => (hb.cell (p := ⟨b, off + i, none⟩) hlt).trans (hc i hi)⟩⟩
/-- Is disk j told to fail? -/
def btF (fl : Int) (j : Nat) : Bool := bits .and .i64 (fl / 2 ^ j) 1 == 1
theorem btF_3 (fl : Int) : btF fl 3 = (bits .and .i64 (fl / 8) 1 == 1) := rfl
/-- Three numbers in a block. -/
structure B3 (w : World) (g : Nat) (x y z : Int) : Prop where
  lt : g < w.heap.size
  c0 : w.cell? ⟨g, 0, none⟩ = some (.int .i64 x)
  c1 : w.cell? ⟨g, 1, none⟩ = some (.int .i64 y)
  c2 : w.cell? ⟨g, 2, none⟩ = some (.int .i64 z)
theorem B3.next {w w' : World} {g : Nat} {x y z : Int} (h : B3 w g x y z) (hb : Below w.heap.size w w') : B3 w' g x y z :=
  ⟨Nat.lt_of_lt_of_le h.lt hb.size, (hb.cell (p := ⟨g, 0, none⟩) h.lt).trans h.c0, (hb.cell (p := ⟨g, 1, none⟩) h.lt).trans h.c1, (hb.cell (p := ⟨g, 2, none⟩) h.lt).trans h.c2⟩
theorem B3.turn {N : Nat → Prop} {w w' : World} {g : Nat} {x y z : Int} (h : B3 w g x y z) (ht : Turn N w w') (hn : ¬ N g) : B3 w' g x y z :=
  ⟨Nat.lt_of_lt_of_le h.lt ht.size, (ht.cell (a := ⟨g, 0, none⟩) h.lt hn).trans h.c0, (ht.cell (a := ⟨g, 1, none⟩) h.lt hn).trans h.c1, (ht.cell (a := ⟨g, 2, none⟩) h.lt hn).trans h.c2⟩
theorem B3.new (w : World) (x y z : Int) (t : TypeId) : B3 (w.alloc (.cells #[.int .i64 x, .int .i64 y, .int .i64 z] t)) w.heap.size x y z := ⟨by simp, by simp, by simp, by simp⟩

set_option maxRecDepth 100000 in
set_option maxHeartbeats 8000000 in
theorem badlaw_in (fl e sl st : Int) (w : World) (hf : -9223372036854775808 ≤ fl ∧ fl ≤ 9223372036854775807) :
    Calls Try.prog 5 #[.int .i64 fl, mb e sl st] w fun e w' => e = .returned (.bool true) ∧ Below w.heap.size w w' := by
  have hbx : ∀ o : Obj, Below w.heap.size w (w.alloc o) := fun o => (Below.refl _ _).alloc (Nat.le_refl _) _
  have HBX := Lib.hid hbx
  have HFL := Lib.hid hf
  clear hbx hf
  go_enter Try.func5, Try.ntmps5
  go_wp2_with (fail)
  have hx0 := B3.new w e sl st 25
  have hB0 := HBX.out (.cells #[.int .i64 e, .int .i64 sl, .int .i64 st] 25)
  generalize hW0 : w.alloc (.cells #[.int .i64 e, .int .i64 sl, .int .i64 st] 25) = W0 at *
  obtain ⟨g, hg⟩ : ∃ g, g = w.heap.size := ⟨_, rfl⟩
  have HG := Lib.hid hg
  rw [← hg] at hx0 ⊢
  clear hW0 hg
  refine (alive_any W0).mono ?_
  rintro en w1 ⟨rfl, hb1⟩
  have hB1 := hB0.trans (hb1.mono hB0.size)
  have hx1 := hx0.next hb1
  clear hx0 hb1 hB0
  go_wp2_with (fail)
  refine (small_any w1).mono ?_
  rintro en w2 ⟨rfl, hb2⟩
  have hB2 := hB1.trans (hb2.mono hB1.size)
  have hx2 := hx1.next hb2
  clear hx1 hb2 hB1
  go_wp2_with (fail)
  have hy2 := B3.new w2 3 3 12 23
  have hx3 := hx2.next ((Below.refl _ _).alloc (Nat.le_refl _) (.cells #[.int .i64 3, .int .i64 3, .int .i64 12] 23))
  have hB3 := hB2.alloc hB2.size (.cells #[.int .i64 3, .int .i64 3, .int .i64 12] 23)
  generalize hW3 : w2.alloc (.cells #[.int .i64 3, .int .i64 3, .int .i64 12] 23) = w3 at *
  generalize hqe : w2.heap.size = h at *
  clear hW3 hqe hB2 hx2
  refine (sectors_all 3 3 12 w3).mono ?_
  rintro en w4 ⟨rfl, hb4⟩
  rw [sect_small]
  have hB4 := hB3.trans (hb4.mono hB3.size)
  have hx4 := hx3.next hb4
  have hy4 := hy2.next hb4
  clear hx3 hy2 hB3 hb4
  go_wp2_with (fail)
  refine (new_ok 4 41 w4 (by omega) (by omega) (by omega) (by omega)).mono ?_
  rintro en w5 ⟨L, rfl, hr5, hM0, hb5⟩
  have hB5 := hB4.trans (hb5.mono hB4.size)
  have hx5 := hx4.next hb5
  have hy5 := hy4.next hb5
  have hlo : Hid (∀ k, L.M 4 k → w.heap.size ≤ k) := fun k hk => Nat.le_trans hB4.size (hM0 k hk)
  have HGL : Hid (¬ L.M 4 g) := fun x => by have := hM0 g x; have := hx4.lt; omega
  have HR := Lib.hid hr5
  have HB5 := Lib.hid hB5
  have HX5 := Lib.hid hx5
  have x1 := hx5.c0
  have x2 := hx5.c1
  have x3 := hx5.c2
  have y1 := hy5.c0
  have y2 := hy5.c1
  have y3 := hy5.c2
  clear hM0 hr5 hB5 hb5 hB4 hx4 hy4 hx5 hy5
  go_wp2_with (fail)
  refine (open_any 3 3 12 e sl st HR.out).mono ?_
  rintro en w6 hop
  have hb6 := hop.1
  have HX6 := Lib.hid (HX5.out.next hb6)
  have HB6 := Lib.hid (HB5.out.trans (hb6.mono HB5.out.size))
  clear x1 x2 x3 y1 y2 y3
  cases hm : memOk 3 sl st with
  | false =>
    have e1 : en = .returned (.tuple #[.pointer none, .int .i64 10]) := by
      have h := hop.2
      rw [openOk_small rfl rfl, hm] at h
      exact h
    subst e1
    clear hm hop hb6
    go_wp2_with (fail)
    go_ret
    exact ⟨rfl, HB6.out⟩
  | true =>
    obtain ⟨b, rfl, hlt, hst⟩ := St.opened (w0 := w) HR.out hlo.out HB5.out hop (by rw [openOk_small rfl rfl]; exact hm)
    have HMO := Lib.hid hm
    have HGB : Hid (g ≠ b) := by have := HX5.out.lt; unfold Hid; omega
    have HST := Lib.hid hst
    clear hm hop hb6 hst hlt HR HB5 HB6 HX5
    obtain ⟨M, hM⟩ : ∃ M : Nat → Prop, M = also (L.M 4) (· = b) := ⟨_, rfl⟩
    rw [← hM] at HST
    clear hM
    go_wp2_with (fail)
    obtain ⟨B, hBd⟩ : ∃ B : Bn, B = ⟨3, 3, 12, e, sl, st⟩ := ⟨_, rfl⟩
    rw [← hBd] at HST
    have HD : Hid (B.d = ((3 : Nat) : Int)) := by rw [hBd]; rfl
    have HBD := Lib.hid hBd
    have HMO2 : Hid ((st = 0 ∨ st = 1 ∨ st = 2) ∧ (st = 0 ∨ (0 ≤ sl ∧ sl < 3))) := by
      have h := of_decide_eq_true HMO.out
      unfold Hid
      omega
    clear hBd HMO
    go_loopw [9] (fun v wr => ∃ (j : Nat) (R : Rk), j ≤ 4 ∧ v = .int .i64 j ∧ Dm R (btF fl) j ∧ St w M L b R B wr ∧ B3 wr g e sl st) (fun v _ => 4 - (intOf v).toNat)
    case atStart => exact ⟨0, _, by omega, rfl, Dm.start, HST.out, HX6.out⟩
    case round =>
      obtain ⟨j, R, hj, rfl, hdm, hst, hx⟩ := hrel
      clear HST HX6
      have HDM := Lib.hid hdm
      have HX := Lib.hid hx
      have HST := Lib.hid hst
      have HNR : Hid (R.n = 4) := hdm.hn
      clear hdm hx
      by_cases hlt : j < 4
      · cases hb : (bits .and .i64 (fl / 2 ^ j) 1 == 1) with
        | true =>
          have hdo := st_doom (j : Int) 0 hst (by omega)
          have HB : Hid (btF fl j = true) := hb
          clear hst
          go_wp2_with (fail)
          refine hdo.mono ?_
          rintro en w7 ⟨rfl, hst7, ht7⟩
          have hx7 := HX.out.turn ht7 (by rw [show (R.doom (j : Int) 0).n = R.n by unfold Rk.doom; split <;> rfl, HNR.out]; exact HGL.out)
          have HX7 := Lib.hid hx7
          have HST7 := Lib.hid hst7
          clear hdo hst7 ht7 hx7 hb
          go_wp2_with (fail)
          go_roundw
          case rel => exact ⟨j + 1, _, by omega, by go_num, HDM.out.yes hlt HB.out, HST7.out, HX7.out⟩
          case measure => simp [intOf]; omega
        | false =>
          have HB : Hid (btF fl j = false) := hb
          clear hst
          go_wp2_with (fail)
          go_roundw
          case rel => exact ⟨j + 1, _, by omega, by go_num, HDM.out.no HB.out, HST.out, HX.out⟩
          case measure => simp [intOf]; omega
      · obtain rfl : j = 4 := by omega
        have hfl := st_flush (n := 3) hst HD.out (by omega)
        obtain ⟨f1, f2, f3, f4⟩ := pd_fl HDM.out.pd HD.out B.num (Nat.le_refl _)
        rw [f2] at hfl
        have hn1 := flG_n B R B.num
        have hnum : 0 < B.num := Nat.lt_of_lt_of_le (by omega) (num_ge3 HD.out)
        have f5 := f4 hnum
        generalize (flG B R B.num).2.2 = R1 at *
        have HPD := Lib.hid f3
        have HFN := Lib.hid f5
        have HN1 := Lib.hid hn1
        clear hst f1 f2 f3 f4 f5 hnum hn1 HDM HST
        go_wp2_with (fail)
        refine hfl.mono ?_
        rintro en w7 ⟨rfl, hst7, ht7⟩
        have HX7 := Lib.hid (HX.out.turn ht7 (by rw [HN1.out, HNR.out]; exact HGL.out))
        have hbd := st_bad (n := 3) hst7 HD.out (by omega)
        clear hfl ht7 hst7 HX
        go_wp2_with (fail)
        refine hbd.mono ?_
        rintro en w8 ⟨ab, cb, rfl, hins, hnil, hst8, hb8⟩
        have HX8 := Lib.hid (HX7.out.next hb8)
        have HST8 := Lib.hid hst8
        have HIN := Lib.hid hins
        have HBP : Hid (∀ i, i < 3 → badP B R1 ((i : Nat) : Int) = (decide (st = 1 ∧ (i : Int) = sl) || btF fl (B.dk i))) := fun i hi => by
          unfold badP
          rw [Bn.dk_eq HD.out, pd_failed HPD.out HFN.out (Bn.dk_lt HD.out (Nat.lt_of_lt_of_le hi (num_ge3 HD.out))), HBD.out]
        have HRD : Hid (∀ i, i < 3 → brE B R1 ((i : Nat) : Int) 0 = if btF fl (B.dk i) then 13 else 0) := fun i hi => by
          rw [(br_at HD.out hi R1 0).2]
          exact pd_rd HPD.out HFN.out (Bn.dk_lt HD.out (Nat.lt_of_lt_of_le hi (num_ge3 HD.out)))
        have HDK : Hid (∀ i : Nat, B.dk i = if st ≠ 0 ∧ (i : Int) = sl then 3 else i) := fun i => by
          rw [HBD.out]
          unfold Bn.dk Bn.disk
          split
          · rfl
          · rw [Int.toNat_natCast]
        clear hbd hins hnil hst8 hb8 HX7
        go_wp2_with (fail)
        generalize hbl : badL B R1 3 = bl at *
        have HBL := Lib.hid hbl
        clear hbl
        go_loopw [11, 12, 13, 14, 15, 16] (fun u v _ _ _ _ wr => ∃ i : Nat, i ≤ 3 ∧ v = .int .i64 i ∧ u = .int .i64 ((badL B R1 i).length : Nat) ∧ St w M L b R1 B wr ∧ B3 wr g e sl st ∧ Ins wr ab bl.length bl) (fun _ v _ _ _ _ _ => 3 - (intOf v).toNat)
        case atStart => exact ⟨0, by omega, rfl, rfl, HST8.out, HX8.out, HIN.out⟩
        case round =>
          obtain ⟨i, hi, rfl, rfl, hst, hx, hins⟩ := hrel
          clear HST8 HX8 HIN
          have HST := Lib.hid hst
          have HX := Lib.hid hx
          have HIN := Lib.hid hins
          have x0 := hx.c0
          have x1 := hx.c1
          have x2 := hx.c2
          clear hst hx hins
          by_cases hlt : i < 3
          · have hbp := HBP.out i hlt
            have hrd0 := HRD.out i hlt
            have hdk0 := HDK.out i
            obtain ⟨hm1, hm2⟩ := HMO2.out
            have HLT := Lib.hid hlt
            rcases hm1 with rfl | rfl | rfl
            · have hm1 := trivial
              have hdk : B.dk i = i := by rw [hdk0]; rw [if_neg (fun x => x.1 rfl)]
              rw [hdk] at hbp hrd0
              clear hdk hdk0
              cases hb : (bits .and .i64 (fl / 2 ^ i) 1 == 1) with
              | true =>
                have hbt : btF fl i = true := hb
                rw [hbt] at hbp hrd0
                have hbpv : badP B R1 (i : Int) = true := by rw [hbp, decide_eq_false (fun x => by have h : (0 : Int) = 1 := x.1; omega)]; rfl
                have hrd := st_bread (i : Int) 0 HST.out
                rw [show brE B R1 (i : Int) 0 = 13 from hrd0] at hrd
                generalize brV B R1 (i : Int) 0 = zs at *
                clear hbt hbp hrd0
                obtain ⟨m, hm⟩ : ∃ m, m = (badL B R1 i).length := ⟨_, rfl⟩
                obtain ⟨gt1, gt2⟩ := badL_get hbpv 3 HLT.out
                rw [HBL.out, ← hm] at gt1
                rw [HBL.out, ← hm] at gt2
                rcases HIN.out.2 with h0 | ⟨ba, oa, rfl, _, hca⟩
                · omega
                have hcell := hca m gt1
                rw [gt2] at hcell
                have hy := badL_yes hbpv
                rw [← hm] at hy ⊢
                have HY := Lib.hid hy
                have gt3 : (m : Int) < (bl.length : Int) := by omega
                have gt4 : decide ((bl.length : Int) ≤ (m : Int)) = false := decide_eq_false (by omega)
                have gt5 : (0 : Int) ≤ (m : Int) := by omega
                have gt6 : Hid (m ≤ 3) := by have := badL_len B R1 i; have := HLT.out; unfold Hid; omega
                have gt7 : m ≤ 3 := gt6.out
                clear gt2 hca hm hy hbpv hm1 hm2
                go_wp2_with (fail)
                refine hrd.mono ?_
                rintro en w9 ⟨a9, c9, rfl, _, _, hst9, hb9⟩
                have HST9 := Lib.hid hst9
                have HX9 := Lib.hid (HX.out.next hb9)
                have HIN9 := Lib.hid (ins_next HIN.out hb9)
                clear hrd hst9 hb9 hcell x0 x1 x2
                go_wp2_with (fail)
                go_roundw
                case rel => exact ⟨i + 1, by omega, by go_num, by rw [HY.out]; go_num, HST9.out, HX9.out, HIN9.out⟩
                case measure => simp [intOf]; omega
              | false =>
                have hbt : btF fl i = false := hb
                rw [hbt] at hbp hrd0
                have hbpv : badP B R1 (i : Int) = false := by rw [hbp, decide_eq_false (fun x => by have h : (0 : Int) = 1 := x.1; omega)]; rfl
                have hrd := st_bread (i : Int) 0 HST.out
                rw [show brE B R1 (i : Int) 0 = 0 from hrd0] at hrd
                generalize brV B R1 (i : Int) 0 = zs at *
                clear hbt hbp hrd0
                have hy := badL_no hbpv
                have HY := Lib.hid hy
                clear hbpv hm1 hm2 hy
                go_wp2_with (fail)
                refine hrd.mono ?_
                rintro en w9 ⟨a9, c9, rfl, _, _, hst9, hb9⟩
                have HST9 := Lib.hid hst9
                have HX9 := Lib.hid (HX.out.next hb9)
                have HIN9 := Lib.hid (ins_next HIN.out hb9)
                clear hrd hst9 hb9 x0 x1 x2
                go_wp2_with (fail)
                go_roundw
                case rel => exact ⟨i + 1, by omega, by go_num, by rw [HY.out], HST9.out, HX9.out, HIN9.out⟩
                case measure => simp [intOf]; omega
            · have hm1 := trivial
              by_cases hs : (i : Int) = sl
              · subst hs
                have hdk : B.dk i = 3 := by rw [hdk0]; rw [if_pos ⟨by omega, rfl⟩]
                rw [hdk] at hbp hrd0
                clear hdk hdk0
                cases hb : (bits .and .i64 (fl / 8) 1 == 1) with
                | true =>
                  have hbt : btF fl 3 = true := hb
                  rw [hbt] at hbp hrd0
                  have hbpv : badP B R1 (i : Int) = true := by rw [hbp, decide_eq_true (show (1 : Int) = 1 ∧ (i : Int) = (i : Int) from ⟨rfl, rfl⟩)]; rfl
                  have hrd := st_bread (i : Int) 0 HST.out
                  rw [show brE B R1 (i : Int) 0 = 13 from hrd0] at hrd
                  generalize brV B R1 (i : Int) 0 = zs at *
                  clear hbt hbp hrd0
                  obtain ⟨m, hm⟩ : ∃ m, m = (badL B R1 i).length := ⟨_, rfl⟩
                  obtain ⟨gt1, gt2⟩ := badL_get hbpv 3 HLT.out
                  rw [HBL.out, ← hm] at gt1
                  rw [HBL.out, ← hm] at gt2
                  rcases HIN.out.2 with h0 | ⟨ba, oa, rfl, _, hca⟩
                  · omega
                  have hcell := hca m gt1
                  rw [gt2] at hcell
                  have hy := badL_yes hbpv
                  rw [← hm] at hy ⊢
                  have HY := Lib.hid hy
                  have gt3 : (m : Int) < (bl.length : Int) := by omega
                  have gt4 : decide ((bl.length : Int) ≤ (m : Int)) = false := decide_eq_false (by omega)
                  have gt5 : (0 : Int) ≤ (m : Int) := by omega
                  have gt6 : Hid (m ≤ 3) := by have := badL_len B R1 i; have := HLT.out; unfold Hid; omega
                  have gt7 : m ≤ 3 := gt6.out
                  clear gt2 hca hm hy hbpv hm1 hm2
                  go_wp2_with (fail)
                  refine hrd.mono ?_
                  rintro en w9 ⟨a9, c9, rfl, _, _, hst9, hb9⟩
                  have HST9 := Lib.hid hst9
                  have HX9 := Lib.hid (HX.out.next hb9)
                  have HIN9 := Lib.hid (ins_next HIN.out hb9)
                  clear hrd hst9 hb9 hcell x0 x1 x2
                  go_wp2_with (fail)
                  go_roundw
                  case rel => exact ⟨i + 1, by omega, by go_num, by rw [HY.out]; go_num, HST9.out, HX9.out, HIN9.out⟩
                  case measure => simp [intOf]; omega
                | false =>
                  have hbt : btF fl 3 = false := hb
                  rw [hbt] at hbp hrd0
                  have hbpv : badP B R1 (i : Int) = true := by rw [hbp, decide_eq_true (show (1 : Int) = 1 ∧ (i : Int) = (i : Int) from ⟨rfl, rfl⟩)]; rfl
                  have hrd := st_bread (i : Int) 0 HST.out
                  rw [show brE B R1 (i : Int) 0 = 0 from hrd0] at hrd
                  generalize brV B R1 (i : Int) 0 = zs at *
                  clear hbt hbp hrd0
                  obtain ⟨m, hm⟩ : ∃ m, m = (badL B R1 i).length := ⟨_, rfl⟩
                  obtain ⟨gt1, gt2⟩ := badL_get hbpv 3 HLT.out
                  rw [HBL.out, ← hm] at gt1
                  rw [HBL.out, ← hm] at gt2
                  rcases HIN.out.2 with h0 | ⟨ba, oa, rfl, _, hca⟩
                  · omega
                  have hcell := hca m gt1
                  rw [gt2] at hcell
                  have hy := badL_yes hbpv
                  rw [← hm] at hy ⊢
                  have HY := Lib.hid hy
                  have gt3 : (m : Int) < (bl.length : Int) := by omega
                  have gt4 : decide ((bl.length : Int) ≤ (m : Int)) = false := decide_eq_false (by omega)
                  have gt5 : (0 : Int) ≤ (m : Int) := by omega
                  have gt6 : Hid (m ≤ 3) := by have := badL_len B R1 i; have := HLT.out; unfold Hid; omega
                  have gt7 : m ≤ 3 := gt6.out
                  clear gt2 hca hm hy hbpv hm1 hm2
                  go_wp2_with (fail)
                  refine hrd.mono ?_
                  rintro en w9 ⟨a9, c9, rfl, _, _, hst9, hb9⟩
                  have HST9 := Lib.hid hst9
                  have HX9 := Lib.hid (HX.out.next hb9)
                  have HIN9 := Lib.hid (ins_next HIN.out hb9)
                  clear hrd hst9 hb9 hcell x0 x1 x2
                  go_wp2_with (fail)
                  go_roundw
                  case rel => exact ⟨i + 1, by omega, by go_num, by rw [HY.out]; go_num, HST9.out, HX9.out, HIN9.out⟩
                  case measure => simp [intOf]; omega
              · have hz : (sl == (i : Int)) = false := by simpa using fun h : sl = (i : Int) => hs h.symm
                have hz2 : ¬ sl = (i : Int) := fun h => hs h.symm
                have hdk : B.dk i = i := by rw [hdk0]; rw [if_neg (fun x => hs x.2)]
                rw [hdk] at hbp hrd0
                clear hdk hdk0
                cases hb : (bits .and .i64 (fl / 2 ^ i) 1 == 1) with
                | true =>
                  have hbt : btF fl i = true := hb
                  rw [hbt] at hbp hrd0
                  have hbpv : badP B R1 (i : Int) = true := by rw [hbp, decide_eq_false (fun x => hs x.2)]; rfl
                  have hrd := st_bread (i : Int) 0 HST.out
                  rw [show brE B R1 (i : Int) 0 = 13 from hrd0] at hrd
                  generalize brV B R1 (i : Int) 0 = zs at *
                  clear hbt hbp hrd0
                  obtain ⟨m, hm⟩ : ∃ m, m = (badL B R1 i).length := ⟨_, rfl⟩
                  obtain ⟨gt1, gt2⟩ := badL_get hbpv 3 HLT.out
                  rw [HBL.out, ← hm] at gt1
                  rw [HBL.out, ← hm] at gt2
                  rcases HIN.out.2 with h0 | ⟨ba, oa, rfl, _, hca⟩
                  · omega
                  have hcell := hca m gt1
                  rw [gt2] at hcell
                  have hy := badL_yes hbpv
                  rw [← hm] at hy ⊢
                  have HY := Lib.hid hy
                  have gt3 : (m : Int) < (bl.length : Int) := by omega
                  have gt4 : decide ((bl.length : Int) ≤ (m : Int)) = false := decide_eq_false (by omega)
                  have gt5 : (0 : Int) ≤ (m : Int) := by omega
                  have gt6 : Hid (m ≤ 3) := by have := badL_len B R1 i; have := HLT.out; unfold Hid; omega
                  have gt7 : m ≤ 3 := gt6.out
                  clear gt2 hca hm hy hbpv hm1 hm2
                  go_wp2_with (fail)
                  refine hrd.mono ?_
                  rintro en w9 ⟨a9, c9, rfl, _, _, hst9, hb9⟩
                  have HST9 := Lib.hid hst9
                  have HX9 := Lib.hid (HX.out.next hb9)
                  have HIN9 := Lib.hid (ins_next HIN.out hb9)
                  clear hrd hst9 hb9 hcell x0 x1 x2
                  go_wp2_with (fail)
                  go_roundw
                  case rel => exact ⟨i + 1, by omega, by go_num, by rw [HY.out]; go_num, HST9.out, HX9.out, HIN9.out⟩
                  case measure => simp [intOf]; omega
                | false =>
                  have hbt : btF fl i = false := hb
                  rw [hbt] at hbp hrd0
                  have hbpv : badP B R1 (i : Int) = false := by rw [hbp, decide_eq_false (fun x => hs x.2)]; rfl
                  have hrd := st_bread (i : Int) 0 HST.out
                  rw [show brE B R1 (i : Int) 0 = 0 from hrd0] at hrd
                  generalize brV B R1 (i : Int) 0 = zs at *
                  clear hbt hbp hrd0
                  have hy := badL_no hbpv
                  have HY := Lib.hid hy
                  clear hbpv hm1 hm2 hy
                  go_wp2_with (fail)
                  refine hrd.mono ?_
                  rintro en w9 ⟨a9, c9, rfl, _, _, hst9, hb9⟩
                  have HST9 := Lib.hid hst9
                  have HX9 := Lib.hid (HX.out.next hb9)
                  have HIN9 := Lib.hid (ins_next HIN.out hb9)
                  clear hrd hst9 hb9 x0 x1 x2
                  go_wp2_with (fail)
                  go_roundw
                  case rel => exact ⟨i + 1, by omega, by go_num, by rw [HY.out], HST9.out, HX9.out, HIN9.out⟩
                  case measure => simp [intOf]; omega
            · have hm1 := trivial
              by_cases hs : (i : Int) = sl
              · subst hs
                have hdk : B.dk i = 3 := by rw [hdk0]; rw [if_pos ⟨by omega, rfl⟩]
                rw [hdk] at hbp hrd0
                clear hdk hdk0
                cases hb : (bits .and .i64 (fl / 8) 1 == 1) with
                | true =>
                  have hbt : btF fl 3 = true := hb
                  rw [hbt] at hbp hrd0
                  have hbpv : badP B R1 (i : Int) = true := by rw [hbp, decide_eq_false (fun x => by have h : (2 : Int) = 1 := x.1; omega)]; rfl
                  have hrd := st_bread (i : Int) 0 HST.out
                  rw [show brE B R1 (i : Int) 0 = 13 from hrd0] at hrd
                  generalize brV B R1 (i : Int) 0 = zs at *
                  clear hbt hbp hrd0
                  obtain ⟨m, hm⟩ : ∃ m, m = (badL B R1 i).length := ⟨_, rfl⟩
                  obtain ⟨gt1, gt2⟩ := badL_get hbpv 3 HLT.out
                  rw [HBL.out, ← hm] at gt1
                  rw [HBL.out, ← hm] at gt2
                  rcases HIN.out.2 with h0 | ⟨ba, oa, rfl, _, hca⟩
                  · omega
                  have hcell := hca m gt1
                  rw [gt2] at hcell
                  have hy := badL_yes hbpv
                  rw [← hm] at hy ⊢
                  have HY := Lib.hid hy
                  have gt3 : (m : Int) < (bl.length : Int) := by omega
                  have gt4 : decide ((bl.length : Int) ≤ (m : Int)) = false := decide_eq_false (by omega)
                  have gt5 : (0 : Int) ≤ (m : Int) := by omega
                  have gt6 : Hid (m ≤ 3) := by have := badL_len B R1 i; have := HLT.out; unfold Hid; omega
                  have gt7 : m ≤ 3 := gt6.out
                  clear gt2 hca hm hy hbpv hm1 hm2
                  go_wp2_with (fail)
                  refine hrd.mono ?_
                  rintro en w9 ⟨a9, c9, rfl, _, _, hst9, hb9⟩
                  have HST9 := Lib.hid hst9
                  have HX9 := Lib.hid (HX.out.next hb9)
                  have HIN9 := Lib.hid (ins_next HIN.out hb9)
                  clear hrd hst9 hb9 hcell x0 x1 x2
                  go_wp2_with (fail)
                  go_roundw
                  case rel => exact ⟨i + 1, by omega, by go_num, by rw [HY.out]; go_num, HST9.out, HX9.out, HIN9.out⟩
                  case measure => simp [intOf]; omega
                | false =>
                  have hbt : btF fl 3 = false := hb
                  rw [hbt] at hbp hrd0
                  have hbpv : badP B R1 (i : Int) = false := by rw [hbp, decide_eq_false (fun x => by have h : (2 : Int) = 1 := x.1; omega)]; rfl
                  have hrd := st_bread (i : Int) 0 HST.out
                  rw [show brE B R1 (i : Int) 0 = 0 from hrd0] at hrd
                  generalize brV B R1 (i : Int) 0 = zs at *
                  clear hbt hbp hrd0
                  have hy := badL_no hbpv
                  have HY := Lib.hid hy
                  clear hbpv hm1 hm2 hy
                  go_wp2_with (fail)
                  refine hrd.mono ?_
                  rintro en w9 ⟨a9, c9, rfl, _, _, hst9, hb9⟩
                  have HST9 := Lib.hid hst9
                  have HX9 := Lib.hid (HX.out.next hb9)
                  have HIN9 := Lib.hid (ins_next HIN.out hb9)
                  clear hrd hst9 hb9 x0 x1 x2
                  go_wp2_with (fail)
                  go_roundw
                  case rel => exact ⟨i + 1, by omega, by go_num, by rw [HY.out], HST9.out, HX9.out, HIN9.out⟩
                  case measure => simp [intOf]; omega
              · have hz : (sl == (i : Int)) = false := by simpa using fun h : sl = (i : Int) => hs h.symm
                have hz2 : ¬ sl = (i : Int) := fun h => hs h.symm
                have hdk : B.dk i = i := by rw [hdk0]; rw [if_neg (fun x => hs x.2)]
                rw [hdk] at hbp hrd0
                clear hdk hdk0
                cases hb : (bits .and .i64 (fl / 2 ^ i) 1 == 1) with
                | true =>
                  have hbt : btF fl i = true := hb
                  rw [hbt] at hbp hrd0
                  have hbpv : badP B R1 (i : Int) = true := by rw [hbp, decide_eq_false (fun x => by have h : (2 : Int) = 1 := x.1; omega)]; rfl
                  have hrd := st_bread (i : Int) 0 HST.out
                  rw [show brE B R1 (i : Int) 0 = 13 from hrd0] at hrd
                  generalize brV B R1 (i : Int) 0 = zs at *
                  clear hbt hbp hrd0
                  obtain ⟨m, hm⟩ : ∃ m, m = (badL B R1 i).length := ⟨_, rfl⟩
                  obtain ⟨gt1, gt2⟩ := badL_get hbpv 3 HLT.out
                  rw [HBL.out, ← hm] at gt1
                  rw [HBL.out, ← hm] at gt2
                  rcases HIN.out.2 with h0 | ⟨ba, oa, rfl, _, hca⟩
                  · omega
                  have hcell := hca m gt1
                  rw [gt2] at hcell
                  have hy := badL_yes hbpv
                  rw [← hm] at hy ⊢
                  have HY := Lib.hid hy
                  have gt3 : (m : Int) < (bl.length : Int) := by omega
                  have gt4 : decide ((bl.length : Int) ≤ (m : Int)) = false := decide_eq_false (by omega)
                  have gt5 : (0 : Int) ≤ (m : Int) := by omega
                  have gt6 : Hid (m ≤ 3) := by have := badL_len B R1 i; have := HLT.out; unfold Hid; omega
                  have gt7 : m ≤ 3 := gt6.out
                  clear gt2 hca hm hy hbpv hm1 hm2
                  go_wp2_with (fail)
                  refine hrd.mono ?_
                  rintro en w9 ⟨a9, c9, rfl, _, _, hst9, hb9⟩
                  have HST9 := Lib.hid hst9
                  have HX9 := Lib.hid (HX.out.next hb9)
                  have HIN9 := Lib.hid (ins_next HIN.out hb9)
                  clear hrd hst9 hb9 hcell x0 x1 x2
                  go_wp2_with (fail)
                  go_roundw
                  case rel => exact ⟨i + 1, by omega, by go_num, by rw [HY.out]; go_num, HST9.out, HX9.out, HIN9.out⟩
                  case measure => simp [intOf]; omega
                | false =>
                  have hbt : btF fl i = false := hb
                  rw [hbt] at hbp hrd0
                  have hbpv : badP B R1 (i : Int) = false := by rw [hbp, decide_eq_false (fun x => by have h : (2 : Int) = 1 := x.1; omega)]; rfl
                  have hrd := st_bread (i : Int) 0 HST.out
                  rw [show brE B R1 (i : Int) 0 = 0 from hrd0] at hrd
                  generalize brV B R1 (i : Int) 0 = zs at *
                  clear hbt hbp hrd0
                  have hy := badL_no hbpv
                  have HY := Lib.hid hy
                  clear hbpv hm1 hm2 hy
                  go_wp2_with (fail)
                  refine hrd.mono ?_
                  rintro en w9 ⟨a9, c9, rfl, _, _, hst9, hb9⟩
                  have HST9 := Lib.hid hst9
                  have HX9 := Lib.hid (HX.out.next hb9)
                  have HIN9 := Lib.hid (ins_next HIN.out hb9)
                  clear hrd hst9 hb9 x0 x1 x2
                  go_wp2_with (fail)
                  go_roundw
                  case rel => exact ⟨i + 1, by omega, by go_num, by rw [HY.out], HST9.out, HX9.out, HIN9.out⟩
                  case measure => simp [intOf]; omega
          · obtain rfl : i = 3 := by omega
            rw [HBL.out]
            have hsf := spareFailed_any HST.out.rk HST.out.bk
            have hpf := pd_failed HPD.out HFN.out (i := 3) (by omega)
            rw [HD.out, show R1.failed ((3 : Nat) : Int) = btF fl 3 from hpf] at hsf
            have HB := Lib.hid HST.out.bel
            clear hpf x0 x1 x2
            cases hb : (bits .and .i64 (fl / 8) 1 == 1) with
            | true =>
              rw [show btF fl 3 = true from hb] at hsf
              go_wp2_with (go_at_call 24; refine hsf.mono ?_; clear hsf; rintro en w9 ⟨rfl, q, rfl⟩)
              go_ret
              exact ⟨rfl, below_drewN HB.out q⟩
            | false =>
              rw [show btF fl 3 = false from hb] at hsf
              go_wp2_with (go_at_call 24; refine hsf.mono ?_; clear hsf; rintro en w9 ⟨rfl, q, rfl⟩)
              go_ret
              exact ⟨rfl, below_drewN HB.out q⟩

end Go.Proofs.Ytoiidhpohghiaaa
