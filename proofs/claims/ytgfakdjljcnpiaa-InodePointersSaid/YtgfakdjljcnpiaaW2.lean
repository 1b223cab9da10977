/-
  The law InodeRecords, walked.
-/
import Derived.Test.YtgfakdjljcnpiaaAl
namespace Go.Proofs.Ytgfakdjljcnpiaa
open Go.RowKit
set_option linter.unusedVariables false
set_option linter.unusedSimpArgs false

theorem eqR_self (f : Nat → Int) : eqR f f = true := eqR_iff.2 fun _ _ => rfl
/-- Bytes that are one. -/
theorem sameP {w : World} {a b : Option Addr} {n m c d : Nat} {x : List Int} (h1 : Pin w a n c x) (h2 : Pin w b m d x) (hn : n ≤ 1000000000000) :
    Calls Try.prog 15 #[.slice a n c, .slice b m d] w fun e w' => e = .returned (.bool true) ∧ Below w.heap.size w w' := by
  obtain rfl : m = n := h2.len.symm.trans h1.len
  exact same_eq a b m c d x x w h1.bys h2.bys hn rfl
theorem ruB_len (f : Nat → Int) : (ruB f).length ≤ 56 := by
  unfold ruB
  split
  · rw [recB_len]; exact Nat.le_refl _
  · simp
set_option maxRecDepth 100000 in
set_option maxHeartbeats 8000000 in
theorem records_any (f : Nat → Int) (a : Option Addr) (n c : Nat) (x : List Int) (w : World) (h : Pin w a n c x) :
    Calls Try.prog 3 #[rcv f, .slice a n c] w fun e w' => e = .returned (.bool true) ∧ Below w.heap.size w w' := by
  obtain ⟨wa, hwa⟩ : ∃ wa, wa = w.alloc (.cells (rcs f) 24) := ⟨_, rfl⟩
  have hR : Rcb wa w.heap.size f := by rw [hwa]; exact Rcb.mk' w f
  have hB : Below w.heap.size w wa := by rw [hwa]; exact (Below.refl _ _).alloc (Nat.le_refl _) _
  have HX := Lib.hid (h.next hB)
  have HR := Lib.hid hR
  have HB := Lib.hid hB
  have HW := Lib.hid hwa
  have hal := alive_any wa
  clear h hR hB hwa
  by_cases h1 : 1000 < n
  · have h2 : (1000 : Int) < (n : Int) := by omega
    clear h1
    go_enter Try.func3, Try.ntmps3
    go_upto_region 1 with fail
    rw [← HW.out]
    go_wp2_with (fail)
    refine hal.mono ?_
    rintro e wb ⟨rfl, hb⟩
    have HB2 := Lib.hid (HB.out.trans (hb.mono HB.out.size))
    clear hb hal
    go_wp2_with (fail)
    go_ret
    exact ⟨rfl, HB2.out⟩
  · have h2 : ¬ (1000 : Int) < (n : Int) := by omega
    have HN := Lib.hid (show n ≤ 1000 by omega)
    clear h1
    go_enter Try.func3, Try.ntmps3
    go_upto_region 1 with fail
    rw [← HW.out]
    clear HW
    go_wp2_with (fail)
    refine hal.mono ?_
    rintro e wb ⟨rfl, hb⟩
    replace HB := Lib.hid (HB.out.trans (hb.mono HB.out.size))
    replace HR := Lib.hid (HR.out.next hb)
    replace HX := Lib.hid (HX.out.next hb)
    clear hb hal
    go_wp2_with (fail)
    refine (copy_any a n c x wb HX.out.bys HX.out.nil (by have := HN.out; omega)).mono ?_
    rintro e wc ⟨v, rfl, hO, hb⟩
    obtain ⟨ao, co, rfl, hpo, _⟩ := hO.pin
    have HO := Lib.hid hpo
    replace HB := Lib.hid (HB.out.trans (hb.mono HB.out.size))
    replace HR := Lib.hid (HR.out.next hb)
    replace HX := Lib.hid (HX.out.next hb)
    clear hb hO hpo
    go_wp2_with (refine wpList_ldR (by rfl) (.tmp 2) rfl w.heap.size rfl f HR.out ?_)
    refine (putR_any f wc).mono ?_
    rintro e wd ⟨a2, n2, c2, rfl, hp2, _, hb⟩
    have HP2 := Lib.hid hp2
    replace HO := Lib.hid (HO.out.next hb)
    replace HB := Lib.hid (HB.out.trans (hb.mono HB.out.size))
    replace HR := Lib.hid (HR.out.next hb)
    replace HX := Lib.hid (HX.out.next hb)
    clear hb hp2
    go_wp2_with (refine wpList_ldR (by rfl) (.tmp 2) rfl w.heap.size rfl f HR.out ?_)
    refine (rputR_any f wd).mono ?_
    rintro e we ⟨a3, n3, c3, rfl, hp3, hb⟩
    have HP3 := Lib.hid hp3
    replace HP2 := Lib.hid (HP2.out.next hb)
    replace HO := Lib.hid (HO.out.next hb)
    replace HB := Lib.hid (HB.out.trans (hb.mono HB.out.size))
    replace HR := Lib.hid (HR.out.next hb)
    replace HX := Lib.hid (HX.out.next hb)
    clear hb hp3
    obtain ⟨ok, hok⟩ : ∃ ok, ok = rgO f := ⟨_, rfl⟩
    rw [← hok]
    clear hok
    go_wp2_with (fail)
    refine (getR_any ao n co x we HO.out.bys (by have := HN.out; omega)).mono ?_
    rintro e wf ⟨rfl, hb⟩
    replace HP3 := Lib.hid (HP3.out.next hb)
    replace HP2 := Lib.hid (HP2.out.next hb)
    replace HO := Lib.hid (HO.out.next hb)
    replace HB := Lib.hid (HB.out.trans (hb.mono HB.out.size))
    replace HX := Lib.hid (HX.out.next hb)
    clear hb HR
    obtain ⟨g, hg⟩ : ∃ g, g = gR x := ⟨_, rfl⟩
    obtain ⟨has, hhas⟩ : ∃ g, g = okG x := ⟨_, rfl⟩
    rw [← hg, ← hhas]
    have HG := Lib.hid (And.intro hg hhas)
    clear hg hhas
    go_upto_region 9 with (refine wpList_stR (by rfl) (.tmp 10) (.tmp 34) rfl wf.heap.size rfl g rfl noR (Rcb.mk' wf noR) ?_; intro wg hPg hOg hBg)
    have hb : Below wf.heap.size wf wg := hBg _ _ (Nat.le_refl _) ((Below.refl _ _).alloc (Nat.le_refl _) _)
    replace HP3 := Lib.hid (HP3.out.next hb)
    replace HP2 := Lib.hid (HP2.out.next hb)
    replace HO := Lib.hid (HO.out.next hb)
    replace HB := Lib.hid (HB.out.trans (hb.mono HB.out.size))
    replace HX := Lib.hid (HX.out.next hb)
    obtain ⟨b1, hb1⟩ : ∃ b, b = wf.heap.size := ⟨_, rfl⟩
    rw [← hb1] at hPg ⊢
    have HV1 := Lib.hid hPg
    clear hPg hOg hBg hb hb1
    go_wp2_with (fail)
    refine (rgetR_any a n c x wg HX.out.bys (by have := HN.out; omega) HX.out.cap).mono ?_
    rintro e wh ⟨rfl, hb⟩
    rw [← HG.out.1, ← HG.out.2]
    replace HP3 := Lib.hid (HP3.out.next hb)
    replace HP2 := Lib.hid (HP2.out.next hb)
    replace HO := Lib.hid (HO.out.next hb)
    replace HB := Lib.hid (HB.out.trans (hb.mono HB.out.size))
    replace HX := Lib.hid (HX.out.next hb)
    replace HV1 := Lib.hid (HV1.out.next hb)
    clear hb
    go_upto_region 10 with (refine wpList_stR (by rfl) (.tmp 12) (.tmp 39) rfl wh.heap.size rfl g rfl noR (Rcb.mk' wh noR) ?_; intro wi hPg hOg hBg)
    have hb : Below wh.heap.size wh wi := hBg _ _ (Nat.le_refl _) ((Below.refl _ _).alloc (Nat.le_refl _) _)
    replace HP3 := Lib.hid (HP3.out.next hb)
    replace HP2 := Lib.hid (HP2.out.next hb)
    replace HO := Lib.hid (HO.out.next hb)
    replace HB := Lib.hid (HB.out.trans (hb.mono HB.out.size))
    replace HX := Lib.hid (HX.out.next hb)
    replace HV1 := Lib.hid (HV1.out.next hb)
    obtain ⟨b2, hb2⟩ : ∃ b, b = wh.heap.size := ⟨_, rfl⟩
    rw [← hb2] at hPg ⊢
    have HV2 := Lib.hid hPg
    clear hPg hOg hBg hb hb2
    have hl2 := HP2.out.len
    go_wp2_with (fail)
    refine (sameP HP2.out HP3.out (by have := ruB_len f; omega)).mono ?_
    rintro e wj ⟨rfl, hb⟩
    replace HO := Lib.hid (HO.out.next hb)
    replace HB := Lib.hid (HB.out.trans (hb.mono HB.out.size))
    replace HX := Lib.hid (HX.out.next hb)
    replace HV1 := Lib.hid (HV1.out.next hb)
    replace HV2 := Lib.hid (HV2.out.next hb)
    clear hb hl2
    have hq : ∀ w, (binOp .eql 24 (rcv g) (rcv g)).run Try.prog w = .ok (.bool true) w := fun w => by rw [run_eqlR, eqR_self]
    have d1 : (ok == ok) = true := by simp
    have d2 : (has == has) = true := by simp
    go_wp2_with (first
      | (refine wpList_ldR (by rfl) (.tmp 10) rfl b1 rfl g HV1.out ?_)
      | (refine wpList_ldR (by rfl) (.tmp 12) rfl b2 rfl g HV2.out ?_))
    refine (sameP HO.out HX.out (by have := HN.out; omega)).mono ?_
    rintro e wk ⟨rfl, hb⟩
    replace HB := Lib.hid (HB.out.trans (hb.mono HB.out.size))
    clear hb
    go_wp2_with (fail)
    go_ret
    exact ⟨rfl, HB.out⟩
end Go.Proofs.Ytgfakdjljcnpiaa
