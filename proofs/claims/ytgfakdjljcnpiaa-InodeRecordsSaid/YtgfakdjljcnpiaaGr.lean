/-
  The program's Get of a record, by contract.
-/
import Derived.Test.YtgfakdjljcnpiaaTo
import Derived.Test.YtgfakdjljcnpiaaLib
namespace Go.Proofs.Ytgfakdjljcnpiaa
open Go.RowKit
set_option linter.unusedVariables false
set_option linter.unusedSimpArgs false

theorem gR_yes {x : List Int} (h : okG x = true) : rcv (gR x) = rcv (tld x) := by
  unfold rcv
  rw [rcs_congr fun i _ => by unfold gR; rw [if_pos h]]
theorem gR_no {x : List Int} (h : okG x = false) : rcv (gR x) = rcv noR := by
  unfold rcv
  rw [rcs_congr (g := noR) fun i _ => by unfold gR; rw [if_neg (by rw [h]; decide)]; rfl]
/-- What Get answers. -/
def GetPost (w : World) (x : List Int) (e : Ending) (w' : World) : Prop := e = .returned (.tuple #[rcv (gR x), .bool (okG x)]) ∧ Below w.heap.size w w'
set_option maxHeartbeats 4000000 in
theorem getR_any (a : Option Addr) (n c : Nat) (x : List Int) (w : World) (hx : Bys w a n x) (hn : n ≤ 1000000000) :
    Calls Try.prog 13 #[.slice a n c] w (GetPost w x) := by
  obtain ⟨wa, hwa⟩ : ∃ wa, wa = w.alloc (.cells (rcs noR) 24) := ⟨_, rfl⟩
  have hR : Rcb wa w.heap.size noR := by rw [hwa]; exact Rcb.mk' w noR
  have hB : Below w.heap.size w wa := by rw [hwa]; exact (Below.refl _ _).alloc (Nat.le_refl _) _
  have hxa := hx.next hB
  have htd := told_any a n c x wa hxa hn
  have HX := Lib.hid hxa
  have HR := Lib.hid hR
  have HB := Lib.hid hB
  have HW := Lib.hid hwa
  clear hx hxa hR hB hwa
  obtain ⟨f, hf⟩ : ∃ f, f = tld x := ⟨_, rfl⟩
  rw [← hf] at htd
  have HF := Lib.hid hf
  clear hf
  go_enter Try.func13, Try.ntmps13
  go_upto_region 1 with fail
  change Code.wp _ _ _ _ (w.alloc (.cells (rcs noR) 24))
  rw [← HW.out]
  clear HW
  go_wp2_with (fail)
  refine htd.mono ?_
  rintro e wb ⟨rfl, hb⟩
  have HXb := Lib.hid (HX.out.next hb)
  have HRb := Lib.hid (HR.out.next hb)
  have HBb := Lib.hid (HB.out.trans (hb.mono HB.out.size))
  clear hb htd HX HR HB
  go_upto_region 2 with (refine wpList_stR (by rfl) (.tmp 4) (.tmp 8) rfl wb.heap.size rfl f rfl noR (Rcb.mk' wb noR) ?_; intro wd hPd hOd hBd)
  obtain ⟨g, hg⟩ : ∃ g, g = wb.heap.size := ⟨_, rfl⟩
  have hRd : Rcb wd w.heap.size noR := ⟨(hOd w.heap.size (by have := HRb.out.lt; omega)).trans (HRb.out.alloc _).row⟩
  have hBd2 : Below w.heap.size w wd := hBd _ _ HBb.out.size (HBb.out.alloc HBb.out.size _)
  have hBd3 : Below wb.heap.size wb wd := hBd _ _ (Nat.le_refl _) ((Below.refl _ _).alloc (Nat.le_refl _) _)
  have HXd := Lib.hid (HXb.out.next hBd3)
  have hgw : w.heap.size < g := by rw [hg]; exact HRb.out.lt
  rw [← hg] at hPd ⊢
  have HP := Lib.hid hPd
  have HR := Lib.hid hRd
  have HB := Lib.hid hBd2
  have HG := Lib.hid hgw
  clear hOd hBd hg HRb HBb HXb hPd hRd hBd2 hBd3 hgw
  have hput := putR_any f wd
  obtain ⟨ok, hok⟩ : ∃ ok, ok = rgO f := ⟨_, rfl⟩
  obtain ⟨zs, hzs⟩ : ∃ zs, zs = ruB f := ⟨_, rfl⟩
  rw [← hok, ← hzs] at hput
  have HO := Lib.hid hok
  have HZ := Lib.hid hzs
  clear hok hzs
  go_wp2_with (refine wpList_ldR (by rfl) (.tmp 4) rfl g rfl f HP.out ?_)
  refine hput.mono ?_
  rintro e we ⟨a2, n2, c2, rfl, hp2, _, hb2⟩
  have HPe := Lib.hid (HP.out.next hb2)
  have HRe := Lib.hid (HR.out.next hb2)
  have HBe := Lib.hid (HB.out.trans (hb2.mono HB.out.size))
  have HXe := Lib.hid (HXd.out.next hb2)
  have heq := equal_any a2 a n2 c2 n c zs x we hp2.bys HXe.out
  obtain ⟨sm, hsm⟩ : ∃ sm, sm = sameB zs x := ⟨_, rfl⟩
  rw [← hsm] at heq
  have HS := Lib.hid hsm
  clear hsm hb2 hp2 hput HP HR HB HXd
  cases ok with
  | false =>
    have hno : okG x = false := by rw [okG, ← HF.out, ← HO.out]; rfl
    have HN := Lib.hid hno
    clear hno heq
    go_wp2_with (refine wpList_stR (by rfl) (.tmp 2) (.tmp 21) rfl w.heap.size rfl noR rfl noR HRe.out ?_; intro wz hPz hOz hBz)
    refine bodyPost_ret (v := .tuple #[rcv noR, .bool false]) ?_ rfl ?_
    · exact res_ct rfl _ _ ⟨w.heap.size, 0, none⟩ _ _ rfl rfl (Rcb.load hPz)
    · exact ⟨by rw [gR_no HN.out, HN.out], hBz _ _ (Nat.le_refl _) HBe.out⟩
  | true =>
    cases sm with
    | false =>
      have hno : okG x = false := by rw [okG, ← HF.out, ← HO.out, Bool.true_and, HS.out, HZ.out, ruB, ← HO.out, if_pos rfl]
      have HN := Lib.hid hno
      clear hno
      go_wp2_with (fail)
      refine heq.mono ?_
      rintro e wf ⟨rfl, rfl⟩
      go_wp2_with (refine wpList_stR (by rfl) (.tmp 2) (.tmp 21) rfl w.heap.size rfl noR rfl noR HRe.out ?_; intro wz hPz hOz hBz)
      refine bodyPost_ret (v := .tuple #[rcv noR, .bool false]) ?_ rfl ?_
      · exact res_ct rfl _ _ ⟨w.heap.size, 0, none⟩ _ _ rfl rfl (Rcb.load hPz)
      · exact ⟨by rw [gR_no HN.out, HN.out], hBz _ _ (Nat.le_refl _) HBe.out⟩
    | true =>
      have hno : okG x = true := by rw [okG, ← HF.out, ← HO.out, Bool.true_and, HS.out, HZ.out, ruB, ← HO.out, if_pos rfl]
      have HN := Lib.hid hno
      clear hno
      go_wp2_with (fail)
      refine heq.mono ?_
      rintro e wf ⟨rfl, rfl⟩
      go_wp2_with (first
        | (refine wpList_ldR (by rfl) (.tmp 4) rfl g rfl f HPe.out ?_)
        | (refine wpList_stR (by rfl) (.tmp 2) (.tmp 20) rfl w.heap.size rfl f rfl noR HRe.out ?_; intro wz hPz hOz hBz))
      refine bodyPost_ret (v := .tuple #[rcv f, .bool true]) ?_ rfl ?_
      · exact res_ct rfl _ _ ⟨w.heap.size, 0, none⟩ _ _ rfl rfl (Rcb.load hPz)
      · exact ⟨by rw [gR_yes HN.out, HN.out, HF.out], hBz _ _ (Nat.le_refl _) HBe.out⟩
end Go.Proofs.Ytgfakdjljcnpiaa
