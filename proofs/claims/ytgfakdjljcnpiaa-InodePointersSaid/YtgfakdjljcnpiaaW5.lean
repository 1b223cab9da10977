/-
  The law InodePointers, walked.
-/
import Derived.Test.YtgfakdjljcnpiaaW2
namespace Go.Proofs.Ytgfakdjljcnpiaa
open Go.RowKit
set_option linter.unusedVariables false
set_option linter.unusedSimpArgs false

theorem ppF_len (ks : List Int) : (ppF ks).length ≤ 56 := by
  unfold ppF
  split
  · next h =>
    simp only [ppO, Bool.and_eq_true, decide_eq_true_eq] at h
    rw [ppL_len h.1]
    exact Nat.le_refl _
  · simp
theorem gpF_len (x : List Int) : (gpF x).length ≤ 28 := by
  unfold gpF
  split
  · rw [gpL_len]; exact Nat.le_refl _
  · simp
set_option maxRecDepth 100000 in
set_option maxHeartbeats 8000000 in
theorem pointersL_any (a0 : Option Addr) (n0 c0 : Nat) (ks : List Int) (a1 : Option Addr) (n1 c1 : Nat) (x : List Int) (n : Int) (w : World) (h0 : Ins w a0 n0 ks) (z0 : a0 = none → n0 = 0 ∧ c0 = 0) (h1 : Pin w a1 n1 c1 x) (hw : (Lit.int .i64 n).wf = true) :
    Calls Try.prog 4 #[.slice a0 n0 c0, .slice a1 n1 c1, .int .i64 n] w fun e w' => e = .returned (.bool true) ∧ Below w.heap.size w w' := by
  have hal := alive_any w
  have HL := Lib.hid h0
  have HX := Lib.hid h1
  have HZ := Lib.hid z0
  have HW := Lib.hid hw
  clear h0 h1 z0 hw
  by_cases g0 : 1000 < n0
  · have k0 : (1000 : Int) < (n0 : Int) := by omega
    clear g0
    go_enter Try.func4, Try.ntmps4
    go_wp2_with (fail)
    refine hal.mono ?_
    rintro e wb ⟨rfl, hb⟩
    have HB := Lib.hid hb
    clear hb hal
    go_wp2_with (fail)
    go_ret
    exact ⟨rfl, HB.out⟩
  by_cases g1 : 1000 < n1
  · have k0 : ¬ (1000 : Int) < (n0 : Int) := by omega
    have k1 : (1000 : Int) < (n1 : Int) := by omega
    clear g0 g1
    go_enter Try.func4, Try.ntmps4
    go_wp2_with (fail)
    refine hal.mono ?_
    rintro e wb ⟨rfl, hb⟩
    have HB := Lib.hid hb
    clear hb hal
    go_wp2_with (fail)
    go_ret
    exact ⟨rfl, HB.out⟩
  have k0 : ¬ (1000 : Int) < (n0 : Int) := by omega
  have k1 : ¬ (1000 : Int) < (n1 : Int) := by omega
  have HN := Lib.hid (show n0 ≤ 1000 ∧ n1 ≤ 1000 by omega)
  clear g0 g1
  go_enter Try.func4, Try.ntmps4
  go_wp2_with (fail)
  refine hal.mono ?_
  rintro e wb ⟨rfl, hb⟩
  have HB := Lib.hid hb
  replace HL := Lib.hid (HL.out.next hb)
  replace HX := Lib.hid (HX.out.next hb)
  clear hb hal
  go_wp2_with (fail)
  refine (cpints_any a0 n0 c0 ks wb HL.out HZ.out (by have := HN.out; omega)).mono ?_
  rintro e wn ⟨ao, co, rfl, hio, _, hb⟩
  replace HB := Lib.hid (HB.out.trans (hb.mono HB.out.size))
  replace HL := Lib.hid (HL.out.next hb)
  replace HX := Lib.hid (HX.out.next hb)
  have HO := Lib.hid hio
  clear hb hio
  go_wp2_with (fail)
  refine (putP_any ao n0 co ks _ HO.out (by have := HN.out; omega)).mono ?_
  rintro e wn ⟨a2, n2, c2, rfl, hp2, _, hb⟩
  replace HB := Lib.hid (HB.out.trans (hb.mono HB.out.size))
  replace HL := Lib.hid (HL.out.next hb)
  replace HX := Lib.hid (HX.out.next hb)
  replace HO := Lib.hid (HO.out.next hb)
  have HP2 := Lib.hid hp2
  clear hb hp2
  go_wp2_with (fail)
  refine (rputP_any a0 n0 c0 ks _ HL.out (by have := HN.out; omega)).mono ?_
  rintro e wn ⟨a3, n3, c3, rfl, hp3, hb⟩
  replace HB := Lib.hid (HB.out.trans (hb.mono HB.out.size))
  replace HL := Lib.hid (HL.out.next hb)
  replace HX := Lib.hid (HX.out.next hb)
  replace HO := Lib.hid (HO.out.next hb)
  replace HP2 := Lib.hid (HP2.out.next hb)
  have HP3 := Lib.hid hp3
  clear hb hp3
  obtain ⟨ok, hok⟩ : ∃ ok, ok = ppO ks := ⟨_, rfl⟩
  rw [← hok]
  clear hok
  go_wp2_with (fail)
  refine (getP_any a1 n1 c1 x _ HX.out.bys (by have := HN.out; omega)).mono ?_
  rintro e wn ⟨a4, c4, rfl, hi4, _, _, hb⟩
  replace HB := Lib.hid (HB.out.trans (hb.mono HB.out.size))
  replace HL := Lib.hid (HL.out.next hb)
  replace HX := Lib.hid (HX.out.next hb)
  replace HO := Lib.hid (HO.out.next hb)
  replace HP2 := Lib.hid (HP2.out.next hb)
  replace HP3 := Lib.hid (HP3.out.next hb)
  have HI4 := Lib.hid hi4
  clear hb hi4
  go_wp2_with (fail)
  refine (rgetP_any a1 n1 c1 x _ HX.out.bys (by have := HN.out; omega)).mono ?_
  rintro e wn ⟨a5, c5, rfl, hi5, _, _, hb⟩
  replace HB := Lib.hid (HB.out.trans (hb.mono HB.out.size))
  replace HL := Lib.hid (HL.out.next hb)
  replace HX := Lib.hid (HX.out.next hb)
  replace HO := Lib.hid (HO.out.next hb)
  replace HP2 := Lib.hid (HP2.out.next hb)
  replace HP3 := Lib.hid (HP3.out.next hb)
  replace HI4 := Lib.hid (HI4.out.next hb)
  have HI5 := Lib.hid hi5
  clear hb hi5
  obtain ⟨has, hhas⟩ : ∃ ok, ok = decide (x.length = 56) := ⟨_, rfl⟩
  rw [← hhas]
  obtain ⟨m, hm⟩ : ∃ m, m = (gpF x).length := ⟨_, rfl⟩
  rw [← hm] at HI4 HI5 ⊢
  have HM := Lib.hid (show m ≤ 28 by rw [hm]; exact gpF_len x)
  clear hhas hm
  go_wp2_with (fail)
  have hpa := fun w => path_any n w HW.out
  have hpr := fun w => rpath_any n w HW.out
  obtain ⟨l, hl⟩ : ∃ z, z = pthL n := ⟨_, rfl⟩
  obtain ⟨px, hpx⟩ : ∃ z, z = pthX n := ⟨_, rfl⟩
  obtain ⟨py, hpy⟩ : ∃ z, z = pthY n := ⟨_, rfl⟩
  obtain ⟨can, hcan⟩ : ∃ z, z = pthO n := ⟨_, rfl⟩
  rw [← hl, ← hpx, ← hpy, ← hcan] at hpa hpr
  have hba := fun w => blocks_any n w
  have hbr := fun w => rblocks_any n w
  obtain ⟨nb, hnb⟩ : ∃ z, z = blkN n := ⟨_, rfl⟩
  rw [← hnb] at hba hbr
  have d1 : (ok == ok) = true := by simp
  have d2 : (has == has) = true := by simp
  have d3 : (can == can) = true := by simp
  have d4 : (l == l) = true := by simp
  have d5 : (px == px) = true := by simp
  have d6 : (py == py) = true := by simp
  have d7 : (nb == nb) = true := by simp
  clear hl hpx hpy hcan hnb
  refine (hpa _).mono ?_
  rintro e wn2 ⟨rfl, rfl⟩
  go_wp2_with (fail)
  refine (hpr _).mono ?_
  rintro e wn2 ⟨rfl, rfl⟩
  have hl2 := HP2.out.len
  go_wp2_with (fail)
  refine (sameP HP2.out HP3.out (by have := ppF_len ks; omega)).mono ?_
  rintro e wn ⟨rfl, hb⟩
  replace HB := Lib.hid (HB.out.trans (hb.mono HB.out.size))
  replace HL := Lib.hid (HL.out.next hb)
  replace HX := Lib.hid (HX.out.next hb)
  replace HO := Lib.hid (HO.out.next hb)
  replace HI4 := Lib.hid (HI4.out.next hb)
  replace HI5 := Lib.hid (HI5.out.next hb)
  clear hb hl2
  go_wp2_with (fail)
  refine (sameInts_yes a4 a5 m c4 c5 (gpF x) _ HI4.out HI5.out (by have := HM.out; omega)).mono ?_
  rintro e wn ⟨rfl, hb⟩
  replace HB := Lib.hid (HB.out.trans (hb.mono HB.out.size))
  replace HO := Lib.hid (HO.out.next hb)
  replace HL := Lib.hid (HL.out.next hb)
  clear hb
  go_wp2_with (fail)
  refine (hba _).mono ?_
  rintro e wn2 ⟨rfl, rfl⟩
  go_wp2_with (fail)
  refine (hbr _).mono ?_
  rintro e wn2 ⟨rfl, rfl⟩
  go_wp2_with (fail)
  refine (sameInts_yes ao a0 n0 co c0 ks _ HO.out HL.out (by have := HN.out; omega)).mono ?_
  rintro e wn ⟨rfl, hb⟩
  replace HB := Lib.hid (HB.out.trans (hb.mono HB.out.size))
  clear hb
  go_wp2_with (fail)
  go_ret
  exact ⟨rfl, HB.out⟩
end Go.Proofs.Ytgfakdjljcnpiaa
