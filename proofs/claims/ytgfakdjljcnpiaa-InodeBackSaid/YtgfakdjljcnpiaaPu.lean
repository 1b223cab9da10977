/-
  The program's Put of a record, by contract.
-/
import Derived.Test.YtgfakdjljcnpiaaRt
import Derived.Test.YtgfakdjljcnpiaaPb
import Derived.Test.YtgfakdjljcnpiaaPp
namespace Go.Proofs.Ytgfakdjljcnpiaa
open Go.RowKit
set_option linter.unusedVariables false
set_option linter.unusedSimpArgs false

theorem Pcb.ins {w : World} {b : Nat} {g : Nat → Int} (h : Pcb w b g) : Ins w (some ⟨b, 0, none⟩) 18 ((List.range 18).map g) :=
  ⟨by simp, .inr ⟨b, 0, rfl, h.lt, fun i hi => by
    rw [Nat.zero_add, h.cell hi]
    simp [num, List.getD, hi]⟩⟩
theorem num_range (g : Nat → Int) {i : Nat} (h : i < 18) : num ((List.range 18).map g) i = g i := by simp [num, List.getD, h]
/-- Four pieces, as a row. -/
def row4 (p q r s : Pc) : Nat → Pc := fun i => if i = 0 then p else if i = 1 then q else if i = 2 then r else s
theorem catL_four (p q r s : Pc) : catL (row4 p q r s) 4 = p.zs ++ q.zs ++ r.zs ++ s.zs := by simp [catL, row4]
theorem rws_four {w : World} {t : TypeId} {a0 a1 a2 a3 : Option Addr} {n0 c0 n1 c1 n2 c2 n3 c3 : Nat} {x0 x1 x2 x3 : List Int} (h0 : Pin w a0 n0 c0 x0) (h1 : Pin w a1 n1 c1 x1) (h2 : Pin w a2 n2 c2 x2) (h3 : Pin w a3 n3 c3 x3) :
    Rws (w.alloc (.cells #[.slice a0 n0 c0, .slice a1 n1 c1, .slice a2 n2 c2, .slice a3 n3 c3] t (0, 0))) (some ⟨w.heap.size, 0, none⟩) 4 (row4 ⟨a0, n0, c0, x0⟩ ⟨a1, n1, c1, x1⟩ ⟨a2, n2, c2, x2⟩ ⟨a3, n3, c3, x3⟩) := by
  refine ⟨.inr ⟨w.heap.size, 0, rfl, by simp, fun i hi => ?_⟩, fun i hi => ?_⟩
  · rcases (by omega : i = 0 ∨ i = 1 ∨ i = 2 ∨ i = 3) with rfl | rfl | rfl | rfl <;> simp [row4]
  · rcases (by omega : i = 0 ∨ i = 1 ∨ i = 2 ∨ i = 3) with rfl | rfl | rfl | rfl
    · exact h0.alloc _
    · exact h1.alloc _
    · exact h2.alloc _
    · exact h3.alloc _
theorem Blk.piece {w : World} {g : Nat} {m : Nat} {z : Int} (h : Blk w g (digs m z)) (hm : m ≤ 4) : Pin w (some ⟨g, 0, none⟩) m m (digs m z) := h.pin (digs_small _ _) (digs_len _ _) (Nat.le_refl _) (by omega)
theorem hasW1' {k : Int} (h : 1 ≤ k ∧ k ≤ 2) : hasW k 1 = true := hasW1_of (by omega)
theorem hasW4' {k : Int} (h : 0 ≤ k ∧ k ≤ 46368) : hasW k 4 = true := hasW4_of (by omega)
/-- What Put answers. -/
def ruB (f : Nat → Int) : List Int := if rgO f then recB f else []

set_option maxHeartbeats 4000000 in
theorem put_blkR (f : Nat → Int) (w : World) (hr : RgR f) : Calls Try.prog 11 #[rcv f] w fun e w' =>
    ∃ g, e = .returned (.tuple #[.slice (some ⟨g, 0, none⟩) 56 56, .bool true]) ∧ Blk w' g (recB f) ∧ w.heap.size ≤ g ∧ Below w.heap.size w w' := by
  obtain ⟨wa, hwa⟩ : ∃ wa, wa = w.alloc (.cells (rcs f) 24) := ⟨_, rfl⟩
  have hR : Rcb wa w.heap.size f := by rw [hwa]; exact Rcb.mk' w f
  have hB : Below w.heap.size w wa := by rw [hwa]; exact (Below.refl _ _).alloc (Nat.le_refl _) _
  have hrt := isRight_any f wa
  rw [rgO_iff.2 hr] at hrt
  have HRR := Lib.hid hr
  have HR := Lib.hid hR
  have HB := Lib.hid hB
  have HW := Lib.hid hwa
  clear hr hR hB hwa
  go_enter Try.func11, Try.ntmps11
  go_upto_region 1 with fail
  rw [← HW.out]
  go_wp2_with (refine wpList_ldR (by rfl) (.tmp 1) rfl w.heap.size rfl f HR.out ?_)
  refine hrt.mono ?_
  rintro e wb ⟨rfl, hb⟩
  have HRb := Lib.hid (HR.out.next hb)
  have HBb := Lib.hid (HB.out.trans (hb.mono HB.out.size))
  clear hb hrt HR HB HW
  go_wp2_with (refine wpList_ldR (by rfl) (.tmp 1) rfl w.heap.size rfl f HRb.out ?_)
  refine (pointers_any f wb).mono ?_
  rintro e wc ⟨rfl, hb⟩
  have HRc := Lib.hid (HRb.out.next hb)
  have HBc := Lib.hid (HBb.out.trans (hb.mono HBb.out.size))
  clear hb HRb HBb
  go_wp2_with (refine wpList_stP (by rfl) (.tmp 4) (.tmp 10) rfl wc.heap.size rfl (ptsR f) rfl noR (Pcb.mk' wc noR) ?_; intro wd hPd hOd hBd)
  have hRd : Rcb wd w.heap.size f := ⟨(hOd w.heap.size (by have := HRc.out.lt; omega)).trans (HRc.out.alloc _).row⟩
  have hBd2 : Below w.heap.size w wd := hBd _ _ HBc.out.size (HBc.out.alloc HBc.out.size _)
  clear hOd hBd
  obtain ⟨g, hg⟩ : ∃ g, g = wc.heap.size := ⟨_, rfl⟩
  rw [← hg] at hPd ⊢
  clear hg HRc HBc
  have hRe := hRd.drew
  have hPe := hPd.drew
  have hBe := below_drewN hBd2 1
  obtain ⟨k, hk⟩ : ∃ s, s = f 0 := ⟨_, rfl⟩
  obtain ⟨l, hl⟩ : ∃ s, s = f 1 := ⟨_, rfl⟩
  obtain ⟨s, hs⟩ : ∃ s, s = f 2 := ⟨_, rfl⟩
  have y0 := hRe.cell (i := 0) (by omega)
  have y1 := hRe.cell (i := 1) (by omega)
  have y2 := hRe.cell (i := 2) (by omega)
  rw [← hk] at y0
  rw [← hl] at y1
  rw [← hs] at y2
  have HK := Lib.hid hk
  have HL := Lib.hid hl
  have HS := Lib.hid hs
  have HR1 := Lib.hid hRe
  have HP1 := Lib.hid hPe
  have HB1 := Lib.hid hBe
  clear hRd hPd hBd2 hRe hPe hBe hk hl hs
  refine wp_region_held_drew (S := (fun w' => w'.cell? ⟨w.heap.size, 0, none⟩ = some (.int .i64 k) ∧ w'.cell? ⟨w.heap.size, 1, none⟩ = some (.int .i64 l) ∧ w'.cell? ⟨w.heap.size, 2, none⟩ = some (.int .i64 s))) (by kernel_rfl) ?_ (fun hHeld => ?_)
  · exact ⟨y0, y1, y2⟩
  refine wpAnyH_take (i := 0) (v := ?_) rfl (by kernel_rfl) (by kernel_rfl) (by kernel_rfl) (fun _ _ _ h => h) (Or.inl ⟨by rfl, fun w hSw => ?_⟩) (by assumption) ?_
  rotate_left
  · (try dsimp only at hSw); go_simp; try with_reducible rfl
  simp only [Act.put, List.setIfInBounds_toArray, List.set_cons_zero, List.set_cons_succ, List.getElem_toArray, List.getElem_cons_zero]
  refine wpAnyH_take (i := 1) (v := ?_) rfl (by kernel_rfl) (by kernel_rfl) (by kernel_rfl) (fun _ _ _ h => h) (Or.inl ⟨by rfl, fun w hSw => ?_⟩) (by assumption) ?_
  rotate_left
  · (try dsimp only at hSw); go_simp; try with_reducible rfl
  simp only [Act.put, List.setIfInBounds_toArray, List.set_cons_zero, List.set_cons_succ, List.getElem_toArray, List.getElem_cons_succ, List.getElem_cons_zero]
  refine wpAnyH_take (i := 3) (v := ?_) rfl (by kernel_rfl) (by kernel_rfl) (by kernel_rfl) (fun _ _ _ h => h) (Or.inl ⟨by rfl, fun w hSw => ?_⟩) (by assumption) ?_
  rotate_left
  · (try dsimp only at hSw); go_simp; try with_reducible rfl
  simp only [Act.put, List.setIfInBounds_toArray, List.set_cons_zero, List.set_cons_succ, List.getElem_toArray, List.getElem_cons_succ, List.getElem_cons_zero]
  refine wpAnyH_take (i := 4) (v := ?_) rfl (by kernel_rfl) (by kernel_rfl) (by kernel_rfl) (fun _ _ _ h => h) (Or.inl ⟨by rfl, fun w hSw => ?_⟩) (by assumption) ?_
  rotate_left
  · (try dsimp only at hSw); go_simp; try with_reducible rfl
  simp only [Act.put, List.setIfInBounds_toArray, List.set_cons_zero, List.set_cons_succ, List.getElem_toArray, List.getElem_cons_succ, List.getElem_cons_zero]
  refine wpAnyH_take (i := 6) (v := ?_) rfl (by kernel_rfl) (by kernel_rfl) (by kernel_rfl) (fun _ _ _ h => h) (Or.inl ⟨by rfl, fun w hSw => ?_⟩) (by assumption) ?_
  rotate_left
  · (try dsimp only at hSw); go_simp; try with_reducible rfl
  simp only [Act.put, List.setIfInBounds_toArray, List.set_cons_zero, List.set_cons_succ, List.getElem_toArray, List.getElem_cons_succ, List.getElem_cons_zero]
  refine wpAnyH_take (i := 7) (v := ?_) rfl (by kernel_rfl) (by kernel_rfl) (by kernel_rfl) (fun _ _ _ h => h) (Or.inl ⟨by rfl, fun w hSw => ?_⟩) (by assumption) ?_
  rotate_left
  · (try dsimp only at hSw); go_simp; try with_reducible rfl
  simp only [Act.put, List.setIfInBounds_toArray, List.set_cons_zero, List.set_cons_succ, List.getElem_toArray, List.getElem_cons_succ, List.getElem_cons_zero]
  refine wpAnyH_take (i := 9) (v := ?_) rfl (by kernel_rfl) (by kernel_rfl) (by kernel_rfl) (fun _ _ _ h => h) (Or.inl ⟨by rfl, fun w hSw => ?_⟩) (by assumption) ?_
  rotate_left
  · (try dsimp only at hSw); go_simp; try with_reducible rfl
  simp only [Act.put, List.setIfInBounds_toArray, List.set_cons_zero, List.set_cons_succ, List.getElem_toArray, List.getElem_cons_succ, List.getElem_cons_zero]
  refine wpAnyH_ready (rs := [2]) (by kernel_rfl) (by simp) ?_
  refine AllReadyH.cons rfl (fun K hK => ?_) AllReadyH.nil
  simp only [List.getElem_toArray, List.getElem_cons_succ, List.getElem_cons_zero]
  go_simp
  refine (put_yes 1 k _ (by omega) (by omega) (hasW1' (by rw [HK.out]; have := HRR.out.kind; omega))).mono ?_
  rintro e w2 ⟨rfl, hb, hl⟩
  have HR2 := Lib.hid (HR1.out.next hl)
  have HP2 := Lib.hid (HP1.out.next hl)
  have HB2 := Lib.hid (HB1.out.trans (hl.mono HB1.out.size))
  have HQa := Lib.hid (hb.piece (by omega))
  clear hb hl HR1 HP1 HB1 y0 y1 y2
  have y0 := HR2.out.cell (i := 0) (by omega)
  have y1 := HR2.out.cell (i := 1) (by omega)
  have y2 := HR2.out.cell (i := 2) (by omega)
  rw [← HK.out] at y0
  rw [← HL.out] at y1
  rw [← HS.out] at y2
  go_wp2_with (fail)
  refine hK.out _ _ ⟨y0, y1, y2⟩ (fun hHeld => ?_)
  clear hK K
  refine wpAnyH_ready (rs := [5]) (by kernel_rfl) (by simp) ?_
  refine AllReadyH.cons rfl (fun K hK => ?_) AllReadyH.nil
  simp only [List.getElem_toArray, List.getElem_cons_succ, List.getElem_cons_zero]
  go_simp
  refine (put_yes 2 l _ (by omega) (by omega) (hasW2_of (by rw [HL.out]; have := HRR.out.l1; have := HRR.out.l2; omega))).mono ?_
  rintro e w3 ⟨rfl, hb, hl⟩
  have HR3 := Lib.hid (HR2.out.next hl)
  have HP3 := Lib.hid (HP2.out.next hl)
  have HB3 := Lib.hid (HB2.out.trans (hl.mono HB2.out.size))
  replace HQa := Lib.hid (HQa.out.next hl)
  have HQb := Lib.hid (hb.piece (by omega))
  clear hb hl HR2 HP2 HB2 y0 y1 y2
  have y0 := HR3.out.cell (i := 0) (by omega)
  have y1 := HR3.out.cell (i := 1) (by omega)
  have y2 := HR3.out.cell (i := 2) (by omega)
  rw [← HK.out] at y0
  rw [← HL.out] at y1
  rw [← HS.out] at y2
  go_wp2_with (fail)
  refine hK.out _ _ ⟨y0, y1, y2⟩ (fun hHeld => ?_)
  clear hK K
  refine wpAnyH_ready (rs := [8]) (by kernel_rfl) (by simp) ?_
  refine AllReadyH.cons rfl (fun K hK => ?_) AllReadyH.nil
  simp only [List.getElem_toArray, List.getElem_cons_succ, List.getElem_cons_zero]
  go_simp
  refine (put_yes 4 s _ (by omega) (by omega) (hasW4' (by rw [HS.out]; have := HRR.out.s0; have := HRR.out.s1; omega))).mono ?_
  rintro e w4 ⟨rfl, hb, hl⟩
  have HR4 := Lib.hid (HR3.out.next hl)
  have HP4 := Lib.hid (HP3.out.next hl)
  have HB4 := Lib.hid (HB3.out.trans (hl.mono HB3.out.size))
  replace HQa := Lib.hid (HQa.out.next hl)
  replace HQb := Lib.hid (HQb.out.next hl)
  have HQc := Lib.hid (hb.piece (by omega))
  clear hb hl HR3 HP3 HB3 y0 y1 y2
  have y0 := HR4.out.cell (i := 0) (by omega)
  have y1 := HR4.out.cell (i := 1) (by omega)
  have y2 := HR4.out.cell (i := 2) (by omega)
  rw [← HK.out] at y0
  rw [← HL.out] at y1
  rw [← HS.out] at y2
  go_wp2_with (fail)
  refine hK.out _ _ ⟨y0, y1, y2⟩ (fun hHeld => ?_)
  clear hK K
  refine wpAnyH_ready (rs := [10]) (by kernel_rfl) (by simp) ?_
  refine AllReadyH.cons rfl (fun K hK => ?_) AllReadyH.nil
  simp only [List.getElem_toArray, List.getElem_cons_succ, List.getElem_cons_zero]
  go_simp
  have hpb : ∀ i, i < 18 → 0 ≤ num ((List.range 18).map (ptsR f)) i ∧ num ((List.range 18).map (ptsR f)) i ≤ 65535 := fun i hi => by rw [num_range _ hi]; exact HRR.out.pt hi
  refine (ptrBytes_any _ 18 18 _ _ HP4.out.ins hpb (by omega)).mono ?_
  rintro e w5 ⟨v5, rfl, hO5, hl⟩
  rw [show ptsL (num ((List.range 18).map (ptsR f))) 18 = ptsL (ptsR f) 18 from ptsL_congr fun i hi => num_range _ hi] at hO5
  obtain ⟨a5, c5, rfl, hp5, _⟩ := hO5.pin
  have HR5 := Lib.hid (HR4.out.next hl)
  have HB5 := Lib.hid (HB4.out.trans (hl.mono HB4.out.size))
  replace HQa := Lib.hid (HQa.out.next hl)
  replace HQb := Lib.hid (HQb.out.next hl)
  replace HQc := Lib.hid (HQc.out.next hl)
  have HQd := Lib.hid hp5
  clear hl hO5 hp5 hpb HR4 HB4 HP4 y0 y1 y2
  have y0 := HR5.out.cell (i := 0) (by omega)
  have y1 := HR5.out.cell (i := 1) (by omega)
  have y2 := HR5.out.cell (i := 2) (by omega)
  rw [← HK.out] at y0
  rw [← HL.out] at y1
  rw [← HS.out] at y2
  go_wp2_with (fail)
  refine hK.out _ _ ⟨y0, y1, y2⟩ (fun hHeld => ?_)
  clear hK K
  refine wpAnyH_ready (rs := [11]) (by kernel_rfl) (by simp) ?_
  refine AllReadyH.cons rfl (fun K hK => ?_) AllReadyH.nil
  simp only [List.getElem_toArray, List.getElem_cons_succ, List.getElem_cons_zero]
  go_simp
  have HR6 := Lib.hid (HR5.out.alloc (.cells #[.slice (some ⟨wd.drew.heap.size, 0, none⟩) 1 1, .slice (some ⟨w2.heap.size, 0, none⟩) 2 2, .slice (some ⟨w3.heap.size, 0, none⟩) 4 4, .slice a5 36 c5] 25 (0, 0)))
  clear y0 y1 y2
  have y0 := HR6.out.cell (i := 0) (by omega)
  have y1 := HR6.out.cell (i := 1) (by omega)
  have y2 := HR6.out.cell (i := 2) (by omega)
  rw [← HK.out] at y0
  rw [← HL.out] at y1
  rw [← HS.out] at y2
  refine hK.out _ _ ⟨y0, y1, y2⟩ (fun hHeld => ?_)
  clear hK K
  refine wpAnyH_ready (rs := [12]) (by kernel_rfl) (by simp) ?_
  refine AllReadyH.cons rfl (fun K hK => ?_) AllReadyH.nil
  simp only [List.getElem_toArray, List.getElem_cons_succ, List.getElem_cons_zero]
  go_simp
  have hcl : (catL (row4 ⟨some ⟨wd.drew.heap.size, 0, none⟩, 1, 1, digs 1 k⟩ ⟨some ⟨w2.heap.size, 0, none⟩, 2, 2, digs 2 l⟩ ⟨some ⟨w3.heap.size, 0, none⟩, 4, 4, digs 4 s⟩ ⟨a5, 36, c5, ptsL (ptsR f) 18⟩) 4) = recP f 18 := by
    rw [catL_four, HK.out, HL.out, HS.out]
    rfl
  refine (concat_any _ 4 4 _ _ (rws_four HQa.out HQb.out HQc.out HQd.out) (by omega) (by rw [hcl, recP_len]; omega)).mono ?_
  rintro e w6 ⟨v6, rfl, ho6, hb6⟩
  rw [hcl, recP_len] at ho6
  obtain ⟨a6, c6, rfl, hp6, _⟩ := ho6.pin
  have HB6 := Lib.hid ((HB5.out.alloc HB5.out.size _).trans (hb6.mono (by have := HB5.out.size; simp; omega)))
  have HR7 := Lib.hid (HR6.out.next hb6)
  have HQ := Lib.hid hp6
  clear ho6 hb6 hcl y0 y1 y2 hp6 HQa HQb HQc HQd HB5
  have y0 := HR7.out.cell (i := 0) (by omega)
  have y1 := HR7.out.cell (i := 1) (by omega)
  have y2 := HR7.out.cell (i := 2) (by omega)
  rw [← HK.out] at y0
  rw [← HL.out] at y1
  rw [← HS.out] at y2
  go_wp2_with (fail)
  refine hK.out _ _ ⟨y0, y1, y2⟩ (fun hHeld => ?_)
  clear hK K
  refine wpAnyH_take (i := 13) (v := ?_) rfl (by kernel_rfl) (by kernel_rfl) (by kernel_rfl) (fun _ _ _ h => h) (Or.inl ⟨by rfl, fun w hSw => ?_⟩) (by assumption) ?_
  rotate_left
  · (try dsimp only at hSw); go_simp; try with_reducible rfl
  simp only [Act.put, List.setIfInBounds_toArray, List.set_cons_zero, List.set_cons_succ, List.getElem_toArray, List.getElem_cons_succ, List.getElem_cons_zero]
  refine wpAnyH_done (by kernel_rfl) ?_ _
  go_wp2_with (fail)
  refine (pad_yes a6 43 c6 56 _ w6 HQ.out.bys (by omega) (by omega)).mono ?_
  rintro e w7 ⟨rfl, hb7, hl7⟩
  have HB7 := Lib.hid (HB6.out.trans (hl7.mono HB6.out.size))
  have HS6 := Lib.hid HB6.out.size
  clear hl7
  go_wp2_with (fail)
  go_ret2
  exact ⟨_, rfl, hb7, HS6.out, HB7.out⟩
theorem put_yesR (f : Nat → Int) (w : World) (hr : RgR f) : Calls Try.prog 11 #[rcv f] w (RetN w (recB f) true) :=
  (put_blkR f w hr).mono fun e w' ⟨g, he, hb, hg, hl⟩ => ⟨_, _, _, he, hb.pin (recB_small f) (recB_len f) (Nat.le_refl _) (by omega), (fun x hx => by cases hx; exact hg), hl⟩
theorem put_noR (f : Nat → Int) (w : World) (hr : rgO f = false) : Calls Try.prog 11 #[rcv f] w (RetN w [] false) := by
  obtain ⟨wa, hwa⟩ : ∃ wa, wa = w.alloc (.cells (rcs f) 24) := ⟨_, rfl⟩
  have hR : Rcb wa w.heap.size f := by rw [hwa]; exact Rcb.mk' w f
  have hB : Below w.heap.size w wa := by rw [hwa]; exact (Below.refl _ _).alloc (Nat.le_refl _) _
  have hrt := isRight_any f wa
  rw [hr] at hrt
  have HR := Lib.hid hR
  have HB := Lib.hid hB
  have HW := Lib.hid hwa
  clear hr hR hB hwa
  go_enter Try.func11, Try.ntmps11
  go_upto_region 1 with fail
  rw [← HW.out]
  go_wp2_with (refine wpList_ldR (by rfl) (.tmp 1) rfl w.heap.size rfl f HR.out ?_)
  refine hrt.mono ?_
  rintro e wb ⟨rfl, hb⟩
  have HBb := Lib.hid (HB.out.trans (hb.mono HB.out.size))
  clear hb hrt HR HB HW
  go_wp2_with (fail)
  go_ret2
  exact ⟨_, _, _, rfl, Pin.zero _, (fun x hx => by cases hx), HBb.out⟩
theorem putR_any (f : Nat → Int) (w : World) : Calls Try.prog 11 #[rcv f] w (RetN w (ruB f) (rgO f)) := by
  cases hr : rgO f with
  | true => rw [ruB, hr, if_pos rfl]; exact put_yesR f w (rgO_iff.1 hr)
  | false => rw [ruB, hr]; exact put_noR f w hr
end Go.Proofs.Ytgfakdjljcnpiaa
