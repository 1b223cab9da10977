/-
  The law's 'told', of any map that does as its contracts say.
-/
import Derived.Test.YtgedgkdnjnbijaaTo
namespace Go.Proofs.Ytgedgkdnjnbijaa
open Go.RowKit
set_option linter.unusedVariables false
set_option linter.unusedSimpArgs false

section
variable {Pmp : Pred} {w : World} {p b : Nat} {T D G : Nat → Prop} {A : Nat → Int} {X : Nat → List Int} {q k n : Int} {a : Option Addr} {l c : Nat} {zs : List Int}
theorem by_small (h : Sml X) (k : Int) : (byX X k).length ≤ 1000000 := by
  unfold byX
  split
  · rename_i e
    have := inK_iff.1 e
    exact h _ (by omega)
  · simp
set_option maxRecDepth 100000 in
set_option maxHeartbeats 4000000 in
theorem told_put (H : MapOk Pmp) (h : Two Pmp w p b T D G A X A X) (hs : Sml X) (hz : Pin w a l c zs) (hzT : 0 < l → ∀ x, a = some x → ¬ T x.block ∧ x.block ≠ b) (hl : l ≤ 1000000000000) :
    Calls Try.prog 14 #[.pointer (some ⟨p, 0, none⟩), .pointer (some ⟨b, 0, none⟩), cl 0 k n a l c] w (ToldP Pmp w p b T D G) := by
  obtain ⟨wb, g, hwb, hg, HT, HC, HQ, HB⟩ := h.box H 0 k n a l c
  have HH := Lib.hid H
  have HS := Lib.hid hs
  have HI := Lib.hid (Inc.next (b := b) (T := T) (D := D) (G := G) HB.out)
  have HZ := Lib.hid (hz.next HB.out)
  have HZT := Lib.hid hzT
  have HL := Lib.hid hl
  have c3 := HC.out.c3
  rw [hwb, hg] at c3
  clear H h hs hz hzT hl HB
  go_enter Try.func14, Try.ntmps14
  go_wp2_with (fail)
  rw [← hwb, ← hg]
  clear hwb hg c3
  refine (copy_any a l c zs _ HZ.out.bys HZ.out.nil HL.out).mono ?_
  rintro e1 w1 ⟨v1, rfl, ho1, hb1⟩
  obtain ⟨a5, x5, rfl, hp5, hlo5⟩ := ho1.pin
  have hb2 := below_drewN hb1 1
  have HT2 := Lib.hid (HT.out.next HH.out hb2)
  have HC2 := Lib.hid (HC.out.next hb2)
  have HZ2 := Lib.hid (HZ.out.next hb2)
  have HP5 := Lib.hid (hp5.drewN 1)
  have HLO := Lib.hid (show ∀ x, a5 = some x → ¬ T x.block ∧ x.block ≠ b from fun x e => ⟨fun t => Nat.lt_irrefl _ (Nat.lt_of_lt_of_le (HT.out.tlt HH.out _ t) (hlo5 x e).1), fun t => Nat.lt_irrefl _ (Nat.lt_of_lt_of_le HT.out.rm.lt (t ▸ (hlo5 x e).1))⟩)
  replace HI := Lib.hid (HI.out.trans (Inc.next hb2))
  have c1 := HC2.out.c1
  have c3 := HC2.out.c3
  clear hb1 hb2 ho1 hp5 hlo5 HT HC HZ
  go_upto_region 4 with fail
  refine wp_region_held_drew (S := fun w' => w'.cell? ⟨g, 1, none⟩ = some (.int .i64 k) ∧ w'.cell? ⟨g, 3, none⟩ = some (.slice a l c)) (by kernel_rfl) ?_ (fun hHeld => ?_)
  · exact ⟨c1, c3⟩
  refine wpAnyH_take (i := 0) (v := ?_) rfl (by kernel_rfl) (by kernel_rfl) (by kernel_rfl) (fun _ _ _ h => h) (Or.inl ⟨by rfl, fun w hSw => ?_⟩) (by assumption) ?_
  rotate_left
  · (try dsimp only at hSw); go_simp; try with_reducible rfl
  simp only [Act.put, List.setIfInBounds_toArray, List.set_cons_zero, List.set_cons_succ, List.getElem_toArray, List.getElem_cons_zero]
  refine wpAnyH_take (i := 1) (v := ?_) rfl (by kernel_rfl) (by kernel_rfl) (by kernel_rfl) (fun _ _ _ h => h) (Or.inl ⟨by rfl, fun w hSw => ?_⟩) (by assumption) ?_
  rotate_left
  · (try dsimp only at hSw); go_simp; try with_reducible rfl
  simp only [Act.put, List.setIfInBounds_toArray, List.set_cons_zero, List.set_cons_succ, List.getElem_toArray, List.getElem_cons_succ, List.getElem_cons_zero]
  refine wpAnyH_take (i := 2) (v := ?_) rfl (by kernel_rfl) (by kernel_rfl) (by kernel_rfl) (fun _ _ _ h => h) (Or.inl ⟨by rfl, fun w hSw => ?_⟩) (by assumption) ?_
  rotate_left
  · (try dsimp only at hSw); go_simp; try with_reducible rfl
  simp only [Act.put, List.setIfInBounds_toArray, List.set_cons_zero, List.set_cons_succ, List.getElem_toArray, List.getElem_cons_succ, List.getElem_cons_zero]
  refine wpAnyH_take (i := 3) (v := ?_) rfl (by kernel_rfl) (by kernel_rfl) (by kernel_rfl) (fun _ _ _ h => h) (Or.inl ⟨by rfl, fun w hSw => ?_⟩) (by assumption) ?_
  rotate_left
  · (try dsimp only at hSw); go_simp; try with_reducible rfl
  simp only [Act.put, List.setIfInBounds_toArray, List.set_cons_zero, List.set_cons_succ, List.getElem_toArray, List.getElem_cons_succ, List.getElem_cons_zero]
  refine wpAnyH_take (i := 5) (v := ?_) rfl (by kernel_rfl) (by kernel_rfl) (by kernel_rfl) (fun _ _ _ h => h) (Or.inl ⟨by rfl, fun w hSw => ?_⟩) (by assumption) ?_
  rotate_left
  · (try dsimp only at hSw); go_simp; try with_reducible rfl
  simp only [Act.put, List.setIfInBounds_toArray, List.set_cons_zero, List.set_cons_succ, List.getElem_toArray, List.getElem_cons_succ, List.getElem_cons_zero]
  refine wpAnyH_take (i := 6) (v := ?_) rfl (by kernel_rfl) (by kernel_rfl) (by kernel_rfl) (fun _ _ _ h => h) (Or.inl ⟨by rfl, fun w hSw => ?_⟩) (by assumption) ?_
  rotate_left
  · (try dsimp only at hSw); go_simp; try with_reducible rfl
  simp only [Act.put, List.setIfInBounds_toArray, List.set_cons_zero, List.set_cons_succ, List.getElem_toArray, List.getElem_cons_succ, List.getElem_cons_zero]
  refine wpAnyH_take (i := 7) (v := ?_) rfl (by kernel_rfl) (by kernel_rfl) (by kernel_rfl) (fun _ _ _ h => h) (Or.inl ⟨by rfl, fun w hSw => ?_⟩) (by assumption) ?_
  rotate_left
  · (try dsimp only at hSw); go_simp; try with_reducible rfl
  simp only [Act.put, List.setIfInBounds_toArray, List.set_cons_zero, List.set_cons_succ, List.getElem_toArray, List.getElem_cons_succ, List.getElem_cons_zero]
  refine wpAnyH_take (i := 8) (v := ?_) rfl (by kernel_rfl) (by kernel_rfl) (by kernel_rfl) (fun _ _ _ h => h) (Or.inl ⟨by rfl, fun w hSw => ?_⟩) (by assumption) ?_
  rotate_left
  · (try dsimp only at hSw); go_simp; try with_reducible rfl
  simp only [Act.put, List.setIfInBounds_toArray, List.set_cons_zero, List.set_cons_succ, List.getElem_toArray, List.getElem_cons_succ, List.getElem_cons_zero]
  refine wpAnyH_take (i := 9) (v := ?_) rfl (by kernel_rfl) (by kernel_rfl) (by kernel_rfl) (fun _ _ _ h => h) (Or.inl ⟨by rfl, fun w hSw => ?_⟩) (by assumption) ?_
  rotate_left
  · (try dsimp only at hSw); go_simp; try with_reducible rfl
  simp only [Act.put, List.setIfInBounds_toArray, List.set_cons_zero, List.set_cons_succ, List.getElem_toArray, List.getElem_cons_succ, List.getElem_cons_zero]
  refine wpAnyH_ready (rs := [4]) (by kernel_rfl) (by simp) ?_
  refine AllReadyH.cons rfl (fun K hK => ?_) AllReadyH.nil
  simp only [List.getElem_toArray, List.getElem_cons_succ, List.getElem_cons_zero]
  go_simp
  refine (prog_put HH.out HT2.out k HP5.out (fun _ y e => (HLO.out y e).1)).mono ?_
  rintro e2 w2 ⟨rfl, ht, T3, D3, h3, hi3⟩
  have HC3 := Lib.hid (HC2.out.turn ht HQ.out.1)
  have HZ3 := Lib.hid (pin_turn HZ2.out ht (fun h x e => (HZT.out h x e).1))
  have HP6 := Lib.hid (pin_turn HP5.out ht (fun _ x e => (HLO.out x e).1))
  have HT3 := Lib.hid h3
  replace HI := Lib.hid (HI.out.trans hi3)
  clear ht h3 hi3
  go_wp2_with (fail)
  refine hK.out _ _ ⟨HC3.out.c1, HC3.out.c3⟩ (fun hHeld => ?_)
  clear hK K
  refine wpAnyH_ready (rs := [10]) (by kernel_rfl) (by simp) ?_
  refine AllReadyH.cons rfl (fun K hK => ?_) AllReadyH.nil
  simp only [List.getElem_toArray, List.getElem_cons_succ, List.getElem_cons_zero]
  go_simp
  refine (ref_put HH.out HT3.out k HZ3.out (fun h y e => (HZT.out h y e).2)).mono ?_
  rintro e4 w4 ⟨rfl, ht, G4, h4, hi4⟩
  have HC4 := Lib.hid (HC3.out.turn ht HQ.out.2)
  have HZ4 := Lib.hid (pin_turn HZ3.out ht (fun h x e => (HZT.out h x e).2))
  have HP7 := Lib.hid (pin_turn HP6.out ht (fun _ x e => (HLO.out x e).2))
  have HT4 := Lib.hid h4
  replace HI := Lib.hid (HI.out.trans hi4)
  have d1 : (puE k zs == puE k zs) = true := by simp
  clear ht h4 hi4
  go_wp2_with (fail)
  refine hK.out _ _ ⟨HC4.out.c1, HC4.out.c3⟩ (fun hHeld => ?_)
  clear hK K
  refine wpAnyH_take (i := 11) (v := ?_) rfl (by kernel_rfl) (by kernel_rfl) (by kernel_rfl) (fun _ _ _ h => h) (Or.inl ⟨by rfl, fun w hSw => ?_⟩) (by assumption) ?_
  rotate_left
  · (try dsimp only at hSw); go_simp; try with_reducible rfl
  simp only [Act.put, List.setIfInBounds_toArray, List.set_cons_zero, List.set_cons_succ, List.getElem_toArray, List.getElem_cons_succ, List.getElem_cons_zero]
  refine wpAnyH_take (i := 12) (v := ?_) rfl (by kernel_rfl) (by kernel_rfl) (by kernel_rfl) (fun _ _ _ h => h) (Or.inl ⟨by rfl, fun w hSw => ?_⟩) (by assumption) ?_
  rotate_left
  · (try dsimp only at hSw); go_simp; try with_reducible rfl
  simp only [Act.put, List.setIfInBounds_toArray, List.set_cons_zero, List.set_cons_succ, List.getElem_toArray, List.getElem_cons_succ, List.getElem_cons_zero]
  refine wpAnyH_take (i := 13) (v := ?_) rfl (by kernel_rfl) (by kernel_rfl) (by kernel_rfl) (fun _ _ _ h => h) (Or.inl ⟨by rfl, fun w hSw => ?_⟩) (by assumption) ?_
  rotate_left
  · (try dsimp only at hSw); go_simp; try with_reducible rfl
  simp only [Act.put, List.setIfInBounds_toArray, List.set_cons_zero, List.set_cons_succ, List.getElem_toArray, List.getElem_cons_succ, List.getElem_cons_zero]
  refine wpAnyH_take (i := 14) (v := ?_) rfl (by kernel_rfl) (by kernel_rfl) (by kernel_rfl) (fun _ _ _ h => h) (Or.inl ⟨by rfl, fun w hSw => ?_⟩) (by assumption) ?_
  rotate_left
  · (try dsimp only at hSw); go_simp; try with_reducible rfl
  simp only [Act.put, List.setIfInBounds_toArray, List.set_cons_zero, List.set_cons_succ, List.getElem_toArray, List.getElem_cons_succ, List.getElem_cons_zero]
  refine wpAnyH_take (i := 15) (v := ?_) rfl (by kernel_rfl) (by kernel_rfl) (by kernel_rfl) (fun _ _ _ h => h) (Or.inl ⟨by rfl, fun w hSw => ?_⟩) (by assumption) ?_
  rotate_left
  · (try dsimp only at hSw); go_simp; try with_reducible rfl
  simp only [Act.put, List.setIfInBounds_toArray, List.set_cons_zero, List.set_cons_succ, List.getElem_toArray, List.getElem_cons_succ, List.getElem_cons_zero]
  refine wpAnyH_ready (rs := [16]) (by kernel_rfl) (by simp) ?_
  refine AllReadyH.cons rfl (fun K hK => ?_) AllReadyH.nil
  simp only [List.getElem_toArray, List.getElem_cons_succ, List.getElem_cons_zero]
  go_simp
  refine (sameP HP7.out HZ4.out HL.out).mono ?_
  rintro e5 w5 ⟨rfl, hb⟩
  have HC5 := Lib.hid (HC4.out.next hb)
  have HT5 := Lib.hid (HT4.out.next HH.out hb)
  replace HI := Lib.hid (HI.out.trans (Inc.next hb))
  clear hb
  go_wp2_with (fail)
  refine hK.out _ _ ⟨HC5.out.c1, HC5.out.c3⟩ (fun hHeld => ?_)
  clear hK K
  refine wpAnyH_take (i := 17) (v := ?_) rfl (by kernel_rfl) (by kernel_rfl) (by kernel_rfl) (fun _ _ _ h => h) (Or.inl ⟨by rfl, fun w hSw => ?_⟩) (by assumption) ?_
  rotate_left
  · (try dsimp only at hSw); go_simp; try with_reducible rfl
  simp only [Act.put, List.setIfInBounds_toArray, List.set_cons_zero, List.set_cons_succ, List.getElem_toArray, List.getElem_cons_succ, List.getElem_cons_zero]
  refine wpAnyH_take (i := 18) (v := ?_) rfl (by kernel_rfl) (by kernel_rfl) (by kernel_rfl) (fun _ _ _ h => h) (Or.inl ⟨by rfl, fun w hSw => ?_⟩) (by assumption) ?_
  rotate_left
  · (try dsimp only at hSw); go_simp; try with_reducible rfl
  simp only [Act.put, List.setIfInBounds_toArray, List.set_cons_zero, List.set_cons_succ, List.getElem_toArray, List.getElem_cons_succ, List.getElem_cons_zero]
  refine wpAnyH_done (by kernel_rfl) ?_ _
  clear hHeld c1 c3
  go_wp2_with (fail)
  go_ret
  exact ⟨rfl, _, _, _, _, _, HT5.out, HS.out.put k zs, HI.out⟩
set_option maxRecDepth 100000 in
set_option maxHeartbeats 4000000 in
theorem told_at (H : MapOk Pmp) (h : Two Pmp w p b T D G A X A X) (hs : Sml X) :
    Calls Try.prog 14 #[.pointer (some ⟨p, 0, none⟩), .pointer (some ⟨b, 0, none⟩), cl 1 k n a l c] w (ToldP Pmp w p b T D G) := by
  obtain ⟨wb, g, hwb, hg, HT, HC, HQ, HB⟩ := h.box H 1 k n a l c
  have HH := Lib.hid H
  have HS := Lib.hid hs
  have HI := Lib.hid (Inc.next (b := b) (T := T) (D := D) (G := G) HB.out)
  have hb2 := below_drewN (Below.refl wb.heap.size wb) 1
  have HT2 := Lib.hid (HT.out.next HH.out hb2)
  have HC2 := Lib.hid (HC.out.next hb2)
  replace HI := Lib.hid (HI.out.trans (Inc.next hb2))
  have c1 := HC.out.c1
  rw [hwb, hg] at c1
  clear H h hs HB hb2
  go_enter Try.func14, Try.ntmps14
  go_upto_region 6 with fail
  rw [← hwb, ← hg]
  rw [← hwb, ← hg] at c1
  clear hwb hg HT HC
  refine wp_region_held_drew (S := fun w' => w'.cell? ⟨g, 1, none⟩ = some (.int .i64 k)) (by kernel_rfl) ?_ (fun hHeld => ?_)
  · exact c1
  refine wpAnyH_take (i := 0) (v := ?_) rfl (by kernel_rfl) (by kernel_rfl) (by kernel_rfl) (fun _ _ _ h => h) (Or.inl ⟨by rfl, fun w hSw => ?_⟩) (by assumption) ?_
  rotate_left
  · (try dsimp only at hSw); go_simp; try with_reducible rfl
  simp only [Act.put, List.setIfInBounds_toArray, List.set_cons_zero, List.set_cons_succ, List.getElem_toArray, List.getElem_cons_zero]
  refine wpAnyH_take (i := 1) (v := ?_) rfl (by kernel_rfl) (by kernel_rfl) (by kernel_rfl) (fun _ _ _ h => h) (Or.inl ⟨by rfl, fun w hSw => ?_⟩) (by assumption) ?_
  rotate_left
  · (try dsimp only at hSw); go_simp; try with_reducible rfl
  simp only [Act.put, List.setIfInBounds_toArray, List.set_cons_zero, List.set_cons_succ, List.getElem_toArray, List.getElem_cons_succ, List.getElem_cons_zero]
  refine wpAnyH_take (i := 2) (v := ?_) rfl (by kernel_rfl) (by kernel_rfl) (by kernel_rfl) (fun _ _ _ h => h) (Or.inl ⟨by rfl, fun w hSw => ?_⟩) (by assumption) ?_
  rotate_left
  · (try dsimp only at hSw); go_simp; try with_reducible rfl
  simp only [Act.put, List.setIfInBounds_toArray, List.set_cons_zero, List.set_cons_succ, List.getElem_toArray, List.getElem_cons_succ, List.getElem_cons_zero]
  refine wpAnyH_take (i := 4) (v := ?_) rfl (by kernel_rfl) (by kernel_rfl) (by kernel_rfl) (fun _ _ _ h => h) (Or.inl ⟨by rfl, fun w hSw => ?_⟩) (by assumption) ?_
  rotate_left
  · (try dsimp only at hSw); go_simp; try with_reducible rfl
  simp only [Act.put, List.setIfInBounds_toArray, List.set_cons_zero, List.set_cons_succ, List.getElem_toArray, List.getElem_cons_succ, List.getElem_cons_zero]
  refine wpAnyH_take (i := 5) (v := ?_) rfl (by kernel_rfl) (by kernel_rfl) (by kernel_rfl) (fun _ _ _ h => h) (Or.inl ⟨by rfl, fun w hSw => ?_⟩) (by assumption) ?_
  rotate_left
  · (try dsimp only at hSw); go_simp; try with_reducible rfl
  simp only [Act.put, List.setIfInBounds_toArray, List.set_cons_zero, List.set_cons_succ, List.getElem_toArray, List.getElem_cons_succ, List.getElem_cons_zero]
  refine wpAnyH_take (i := 6) (v := ?_) rfl (by kernel_rfl) (by kernel_rfl) (by kernel_rfl) (fun _ _ _ h => h) (Or.inl ⟨by rfl, fun w hSw => ?_⟩) (by assumption) ?_
  rotate_left
  · (try dsimp only at hSw); go_simp; try with_reducible rfl
  simp only [Act.put, List.setIfInBounds_toArray, List.set_cons_zero, List.set_cons_succ, List.getElem_toArray, List.getElem_cons_succ, List.getElem_cons_zero]
  refine wpAnyH_ready (rs := [3]) (by kernel_rfl) (by simp) ?_
  refine AllReadyH.cons rfl (fun K hK => ?_) AllReadyH.nil
  simp only [List.getElem_toArray, List.getElem_cons_succ, List.getElem_cons_zero]
  go_simp
  refine (HH.out.ad HT2.out.pm k).mono ?_
  rintro e2 w2 ⟨rfl, hb⟩
  have HC3 := Lib.hid (HC2.out.next hb)
  have HT3 := Lib.hid (HT2.out.next HH.out hb)
  replace HI := Lib.hid (HI.out.trans (Inc.next hb))
  clear hb
  go_wp2_with (fail)
  refine hK.out _ _ HC3.out.c1 (fun hHeld => ?_)
  clear hK K
  refine wpAnyH_ready (rs := [7]) (by kernel_rfl) (by simp) ?_
  refine AllReadyH.cons rfl (fun K hK => ?_) AllReadyH.nil
  simp only [List.getElem_toArray, List.getElem_cons_succ, List.getElem_cons_zero]
  go_simp
  refine (raddress_any b G A X k _ HT3.out.rm).mono ?_
  rintro e4 w4 ⟨rfl, rfl⟩
  have HC4 := HC3
  have HT4 := HT3
  have d1 : (adO A k == adO A k) = true := by simp
  go_wp2_with (fail)
  refine hK.out _ _ HC4.out.c1 (fun hHeld => ?_)
  clear hK K
  refine wpAnyH_take (i := 8) (v := ?_) rfl (by kernel_rfl) (by kernel_rfl) (by kernel_rfl) (fun _ _ _ h => h) (Or.inl ⟨by rfl, fun w hSw => ?_⟩) (by assumption) ?_
  rotate_left
  · (try dsimp only at hSw); go_simp; try with_reducible rfl
  simp only [Act.put, List.setIfInBounds_toArray, List.set_cons_zero, List.set_cons_succ, List.getElem_toArray, List.getElem_cons_succ, List.getElem_cons_zero]
  refine wpAnyH_take (i := 9) (v := ?_) rfl (by kernel_rfl) (by kernel_rfl) (by kernel_rfl) (fun _ _ _ h => h) (Or.inl ⟨by rfl, fun w hSw => ?_⟩) (by assumption) ?_
  rotate_left
  · (try dsimp only at hSw); go_simp; try with_reducible rfl
  simp only [Act.put, List.setIfInBounds_toArray, List.set_cons_zero, List.set_cons_succ, List.getElem_toArray, List.getElem_cons_succ, List.getElem_cons_zero]
  refine wpAnyH_done (by kernel_rfl) ?_ _
  clear hHeld c1
  go_wp2_with (fail)
  go_ret
  exact ⟨rfl, _, _, _, _, _, HT4.out, HS.out, HI.out⟩
set_option maxRecDepth 100000 in
set_option maxHeartbeats 4000000 in
theorem told_place (H : MapOk Pmp) (h : Two Pmp w p b T D G A X A X) (hs : Sml X) :
    Calls Try.prog 14 #[.pointer (some ⟨p, 0, none⟩), .pointer (some ⟨b, 0, none⟩), cl 4 k n a l c] w (ToldP Pmp w p b T D G) := by
  obtain ⟨wb, g, hwb, hg, HT, HC, HQ, HB⟩ := h.box H 4 k n a l c
  have HH := Lib.hid H
  have HS := Lib.hid hs
  have HI := Lib.hid (Inc.next (b := b) (T := T) (D := D) (G := G) HB.out)
  have hb2 := below_drewN (Below.refl wb.heap.size wb) 1
  have HT2 := Lib.hid (HT.out.next HH.out hb2)
  have HC2 := Lib.hid (HC.out.next hb2)
  replace HI := Lib.hid (HI.out.trans (Inc.next hb2))
  have c1 := HC.out.c1
  have c2 := HC.out.c2
  rw [hwb, hg] at c1 c2
  clear H h hs HB hb2
  go_enter Try.func14, Try.ntmps14
  go_upto_region 15 with fail
  rw [← hwb, ← hg]
  rw [← hwb, ← hg] at c1 c2
  clear hwb hg HT HC
  refine wp_region_held_drew (S := fun w' => w'.cell? ⟨g, 1, none⟩ = some (.int .i64 k) ∧ w'.cell? ⟨g, 2, none⟩ = some (.int .i64 n)) (by kernel_rfl) ?_ (fun hHeld => ?_)
  · exact ⟨c1, c2⟩
  refine wpAnyH_take (i := 0) (v := ?_) rfl (by kernel_rfl) (by kernel_rfl) (by kernel_rfl) (fun _ _ _ h => h) (Or.inl ⟨by rfl, fun w hSw => ?_⟩) (by assumption) ?_
  rotate_left
  · (try dsimp only at hSw); go_simp; try with_reducible rfl
  simp only [Act.put, List.setIfInBounds_toArray, List.set_cons_zero, List.set_cons_succ, List.getElem_toArray, List.getElem_cons_zero]
  refine wpAnyH_take (i := 1) (v := ?_) rfl (by kernel_rfl) (by kernel_rfl) (by kernel_rfl) (fun _ _ _ h => h) (Or.inl ⟨by rfl, fun w hSw => ?_⟩) (by assumption) ?_
  rotate_left
  · (try dsimp only at hSw); go_simp; try with_reducible rfl
  simp only [Act.put, List.setIfInBounds_toArray, List.set_cons_zero, List.set_cons_succ, List.getElem_toArray, List.getElem_cons_succ, List.getElem_cons_zero]
  refine wpAnyH_take (i := 2) (v := ?_) rfl (by kernel_rfl) (by kernel_rfl) (by kernel_rfl) (fun _ _ _ h => h) (Or.inl ⟨by rfl, fun w hSw => ?_⟩) (by assumption) ?_
  rotate_left
  · (try dsimp only at hSw); go_simp; try with_reducible rfl
  simp only [Act.put, List.setIfInBounds_toArray, List.set_cons_zero, List.set_cons_succ, List.getElem_toArray, List.getElem_cons_succ, List.getElem_cons_zero]
  refine wpAnyH_take (i := 3) (v := ?_) rfl (by kernel_rfl) (by kernel_rfl) (by kernel_rfl) (fun _ _ _ h => h) (Or.inl ⟨by rfl, fun w hSw => ?_⟩) (by assumption) ?_
  rotate_left
  · (try dsimp only at hSw); go_simp; try with_reducible rfl
  simp only [Act.put, List.setIfInBounds_toArray, List.set_cons_zero, List.set_cons_succ, List.getElem_toArray, List.getElem_cons_succ, List.getElem_cons_zero]
  refine wpAnyH_take (i := 4) (v := ?_) rfl (by kernel_rfl) (by kernel_rfl) (by kernel_rfl) (fun _ _ _ h => h) (Or.inl ⟨by rfl, fun w hSw => ?_⟩) (by assumption) ?_
  rotate_left
  · (try dsimp only at hSw); go_simp; try with_reducible rfl
  simp only [Act.put, List.setIfInBounds_toArray, List.set_cons_zero, List.set_cons_succ, List.getElem_toArray, List.getElem_cons_succ, List.getElem_cons_zero]
  refine wpAnyH_take (i := 6) (v := ?_) rfl (by kernel_rfl) (by kernel_rfl) (by kernel_rfl) (fun _ _ _ h => h) (Or.inl ⟨by rfl, fun w hSw => ?_⟩) (by assumption) ?_
  rotate_left
  · (try dsimp only at hSw); go_simp; try with_reducible rfl
  simp only [Act.put, List.setIfInBounds_toArray, List.set_cons_zero, List.set_cons_succ, List.getElem_toArray, List.getElem_cons_succ, List.getElem_cons_zero]
  refine wpAnyH_take (i := 7) (v := ?_) rfl (by kernel_rfl) (by kernel_rfl) (by kernel_rfl) (fun _ _ _ h => h) (Or.inl ⟨by rfl, fun w hSw => ?_⟩) (by assumption) ?_
  rotate_left
  · (try dsimp only at hSw); go_simp; try with_reducible rfl
  simp only [Act.put, List.setIfInBounds_toArray, List.set_cons_zero, List.set_cons_succ, List.getElem_toArray, List.getElem_cons_succ, List.getElem_cons_zero]
  refine wpAnyH_take (i := 8) (v := ?_) rfl (by kernel_rfl) (by kernel_rfl) (by kernel_rfl) (fun _ _ _ h => h) (Or.inl ⟨by rfl, fun w hSw => ?_⟩) (by assumption) ?_
  rotate_left
  · (try dsimp only at hSw); go_simp; try with_reducible rfl
  simp only [Act.put, List.setIfInBounds_toArray, List.set_cons_zero, List.set_cons_succ, List.getElem_toArray, List.getElem_cons_succ, List.getElem_cons_zero]
  refine wpAnyH_take (i := 9) (v := ?_) rfl (by kernel_rfl) (by kernel_rfl) (by kernel_rfl) (fun _ _ _ h => h) (Or.inl ⟨by rfl, fun w hSw => ?_⟩) (by assumption) ?_
  rotate_left
  · (try dsimp only at hSw); go_simp; try with_reducible rfl
  simp only [Act.put, List.setIfInBounds_toArray, List.set_cons_zero, List.set_cons_succ, List.getElem_toArray, List.getElem_cons_succ, List.getElem_cons_zero]
  refine wpAnyH_take (i := 10) (v := ?_) rfl (by kernel_rfl) (by kernel_rfl) (by kernel_rfl) (fun _ _ _ h => h) (Or.inl ⟨by rfl, fun w hSw => ?_⟩) (by assumption) ?_
  rotate_left
  · (try dsimp only at hSw); go_simp; try with_reducible rfl
  simp only [Act.put, List.setIfInBounds_toArray, List.set_cons_zero, List.set_cons_succ, List.getElem_toArray, List.getElem_cons_succ, List.getElem_cons_zero]
  refine wpAnyH_ready (rs := [5]) (by kernel_rfl) (by simp) ?_
  refine AllReadyH.cons rfl (fun K hK => ?_) AllReadyH.nil
  simp only [List.getElem_toArray, List.getElem_cons_succ, List.getElem_cons_zero]
  go_simp
  refine (prog_place HH.out HT2.out k n).mono ?_
  rintro e2 w2 ⟨rfl, ht, T3, D3, h3, hi3⟩
  have HC3 := Lib.hid (HC2.out.turn ht HQ.out.1)
  have HT3 := Lib.hid h3
  replace HI := Lib.hid (HI.out.trans hi3)
  clear ht h3 hi3
  go_wp2_with (fail)
  refine hK.out _ _ ⟨HC3.out.c1, HC3.out.c2⟩ (fun hHeld => ?_)
  clear hK K
  refine wpAnyH_ready (rs := [11]) (by kernel_rfl) (by simp) ?_
  refine AllReadyH.cons rfl (fun K hK => ?_) AllReadyH.nil
  simp only [List.getElem_toArray, List.getElem_cons_succ, List.getElem_cons_zero]
  go_simp
  refine (ref_place HH.out HT3.out HS.out k n).mono ?_
  rintro e4 w4 ⟨rfl, ht, G4, h4, hi4⟩
  have HC4 := Lib.hid (HC3.out.turn ht HQ.out.2)
  have HT4 := Lib.hid h4
  replace HI := Lib.hid (HI.out.trans hi4)
  clear ht h4 hi4
  have d1 : (plE X k n == plE X k n) = true := by simp
  go_wp2_with (fail)
  refine hK.out _ _ ⟨HC4.out.c1, HC4.out.c2⟩ (fun hHeld => ?_)
  clear hK K
  refine wpAnyH_take (i := 12) (v := ?_) rfl (by kernel_rfl) (by kernel_rfl) (by kernel_rfl) (fun _ _ _ h => h) (Or.inl ⟨by rfl, fun w hSw => ?_⟩) (by assumption) ?_
  rotate_left
  · (try dsimp only at hSw); go_simp; try with_reducible rfl
  simp only [Act.put, List.setIfInBounds_toArray, List.set_cons_zero, List.set_cons_succ, List.getElem_toArray, List.getElem_cons_succ, List.getElem_cons_zero]
  refine wpAnyH_take (i := 13) (v := ?_) rfl (by kernel_rfl) (by kernel_rfl) (by kernel_rfl) (fun _ _ _ h => h) (Or.inl ⟨by rfl, fun w hSw => ?_⟩) (by assumption) ?_
  rotate_left
  · (try dsimp only at hSw); go_simp; try with_reducible rfl
  simp only [Act.put, List.setIfInBounds_toArray, List.set_cons_zero, List.set_cons_succ, List.getElem_toArray, List.getElem_cons_succ, List.getElem_cons_zero]
  refine wpAnyH_done (by kernel_rfl) ?_ _
  clear hHeld c1 c2
  go_wp2_with (fail)
  go_ret
  exact ⟨rfl, _, _, _, _, _, HT4.out, HS.out.place k n, HI.out⟩
set_option maxRecDepth 100000 in
set_option maxHeartbeats 4000000 in
theorem told_move (H : MapOk Pmp) (h : Two Pmp w p b T D G A X A X) (hs : Sml X) :
    Calls Try.prog 14 #[.pointer (some ⟨p, 0, none⟩), .pointer (some ⟨b, 0, none⟩), cl 5 k n a l c] w (ToldP Pmp w p b T D G) := by
  obtain ⟨wb, g, hwb, hg, HT, HC, HQ, HB⟩ := h.box H 5 k n a l c
  have HH := Lib.hid H
  have HS := Lib.hid hs
  have HI := Lib.hid (Inc.next (b := b) (T := T) (D := D) (G := G) HB.out)
  have hb2 := below_drewN (Below.refl wb.heap.size wb) 1
  have HT2 := Lib.hid (HT.out.next HH.out hb2)
  have HC2 := Lib.hid (HC.out.next hb2)
  replace HI := Lib.hid (HI.out.trans (Inc.next hb2))
  have c1 := HC.out.c1
  have c2 := HC.out.c2
  rw [hwb, hg] at c1 c2
  clear H h hs HB hb2
  go_enter Try.func14, Try.ntmps14
  go_upto_region 17 with fail
  rw [← hwb, ← hg]
  rw [← hwb, ← hg] at c1 c2
  clear hwb hg HT HC
  refine wp_region_held_drew (S := fun w' => w'.cell? ⟨g, 1, none⟩ = some (.int .i64 k) ∧ w'.cell? ⟨g, 2, none⟩ = some (.int .i64 n)) (by kernel_rfl) ?_ (fun hHeld => ?_)
  · exact ⟨c1, c2⟩
  refine wpAnyH_take (i := 0) (v := ?_) rfl (by kernel_rfl) (by kernel_rfl) (by kernel_rfl) (fun _ _ _ h => h) (Or.inl ⟨by rfl, fun w hSw => ?_⟩) (by assumption) ?_
  rotate_left
  · (try dsimp only at hSw); go_simp; try with_reducible rfl
  simp only [Act.put, List.setIfInBounds_toArray, List.set_cons_zero, List.set_cons_succ, List.getElem_toArray, List.getElem_cons_zero]
  refine wpAnyH_take (i := 1) (v := ?_) rfl (by kernel_rfl) (by kernel_rfl) (by kernel_rfl) (fun _ _ _ h => h) (Or.inl ⟨by rfl, fun w hSw => ?_⟩) (by assumption) ?_
  rotate_left
  · (try dsimp only at hSw); go_simp; try with_reducible rfl
  simp only [Act.put, List.setIfInBounds_toArray, List.set_cons_zero, List.set_cons_succ, List.getElem_toArray, List.getElem_cons_succ, List.getElem_cons_zero]
  refine wpAnyH_take (i := 2) (v := ?_) rfl (by kernel_rfl) (by kernel_rfl) (by kernel_rfl) (fun _ _ _ h => h) (Or.inl ⟨by rfl, fun w hSw => ?_⟩) (by assumption) ?_
  rotate_left
  · (try dsimp only at hSw); go_simp; try with_reducible rfl
  simp only [Act.put, List.setIfInBounds_toArray, List.set_cons_zero, List.set_cons_succ, List.getElem_toArray, List.getElem_cons_succ, List.getElem_cons_zero]
  refine wpAnyH_take (i := 3) (v := ?_) rfl (by kernel_rfl) (by kernel_rfl) (by kernel_rfl) (fun _ _ _ h => h) (Or.inl ⟨by rfl, fun w hSw => ?_⟩) (by assumption) ?_
  rotate_left
  · (try dsimp only at hSw); go_simp; try with_reducible rfl
  simp only [Act.put, List.setIfInBounds_toArray, List.set_cons_zero, List.set_cons_succ, List.getElem_toArray, List.getElem_cons_succ, List.getElem_cons_zero]
  refine wpAnyH_take (i := 4) (v := ?_) rfl (by kernel_rfl) (by kernel_rfl) (by kernel_rfl) (fun _ _ _ h => h) (Or.inl ⟨by rfl, fun w hSw => ?_⟩) (by assumption) ?_
  rotate_left
  · (try dsimp only at hSw); go_simp; try with_reducible rfl
  simp only [Act.put, List.setIfInBounds_toArray, List.set_cons_zero, List.set_cons_succ, List.getElem_toArray, List.getElem_cons_succ, List.getElem_cons_zero]
  refine wpAnyH_take (i := 6) (v := ?_) rfl (by kernel_rfl) (by kernel_rfl) (by kernel_rfl) (fun _ _ _ h => h) (Or.inl ⟨by rfl, fun w hSw => ?_⟩) (by assumption) ?_
  rotate_left
  · (try dsimp only at hSw); go_simp; try with_reducible rfl
  simp only [Act.put, List.setIfInBounds_toArray, List.set_cons_zero, List.set_cons_succ, List.getElem_toArray, List.getElem_cons_succ, List.getElem_cons_zero]
  refine wpAnyH_take (i := 7) (v := ?_) rfl (by kernel_rfl) (by kernel_rfl) (by kernel_rfl) (fun _ _ _ h => h) (Or.inl ⟨by rfl, fun w hSw => ?_⟩) (by assumption) ?_
  rotate_left
  · (try dsimp only at hSw); go_simp; try with_reducible rfl
  simp only [Act.put, List.setIfInBounds_toArray, List.set_cons_zero, List.set_cons_succ, List.getElem_toArray, List.getElem_cons_succ, List.getElem_cons_zero]
  refine wpAnyH_take (i := 8) (v := ?_) rfl (by kernel_rfl) (by kernel_rfl) (by kernel_rfl) (fun _ _ _ h => h) (Or.inl ⟨by rfl, fun w hSw => ?_⟩) (by assumption) ?_
  rotate_left
  · (try dsimp only at hSw); go_simp; try with_reducible rfl
  simp only [Act.put, List.setIfInBounds_toArray, List.set_cons_zero, List.set_cons_succ, List.getElem_toArray, List.getElem_cons_succ, List.getElem_cons_zero]
  refine wpAnyH_take (i := 9) (v := ?_) rfl (by kernel_rfl) (by kernel_rfl) (by kernel_rfl) (fun _ _ _ h => h) (Or.inl ⟨by rfl, fun w hSw => ?_⟩) (by assumption) ?_
  rotate_left
  · (try dsimp only at hSw); go_simp; try with_reducible rfl
  simp only [Act.put, List.setIfInBounds_toArray, List.set_cons_zero, List.set_cons_succ, List.getElem_toArray, List.getElem_cons_succ, List.getElem_cons_zero]
  refine wpAnyH_take (i := 10) (v := ?_) rfl (by kernel_rfl) (by kernel_rfl) (by kernel_rfl) (fun _ _ _ h => h) (Or.inl ⟨by rfl, fun w hSw => ?_⟩) (by assumption) ?_
  rotate_left
  · (try dsimp only at hSw); go_simp; try with_reducible rfl
  simp only [Act.put, List.setIfInBounds_toArray, List.set_cons_zero, List.set_cons_succ, List.getElem_toArray, List.getElem_cons_succ, List.getElem_cons_zero]
  refine wpAnyH_ready (rs := [5]) (by kernel_rfl) (by simp) ?_
  refine AllReadyH.cons rfl (fun K hK => ?_) AllReadyH.nil
  simp only [List.getElem_toArray, List.getElem_cons_succ, List.getElem_cons_zero]
  go_simp
  refine (prog_move HH.out HT2.out k n).mono ?_
  rintro e2 w2 ⟨rfl, ht, T3, D3, h3, hi3⟩
  have HC3 := Lib.hid (HC2.out.turn ht HQ.out.1)
  have HT3 := Lib.hid h3
  replace HI := Lib.hid (HI.out.trans hi3)
  clear ht h3 hi3
  go_wp2_with (fail)
  refine hK.out _ _ ⟨HC3.out.c1, HC3.out.c2⟩ (fun hHeld => ?_)
  clear hK K
  refine wpAnyH_ready (rs := [11]) (by kernel_rfl) (by simp) ?_
  refine AllReadyH.cons rfl (fun K hK => ?_) AllReadyH.nil
  simp only [List.getElem_toArray, List.getElem_cons_succ, List.getElem_cons_zero]
  go_simp
  refine (ref_move HH.out HT3.out k n).mono ?_
  rintro e4 w4 ⟨rfl, ht, G4, h4, hi4⟩
  have HC4 := Lib.hid (HC3.out.turn ht HQ.out.2)
  have HT4 := Lib.hid h4
  replace HI := Lib.hid (HI.out.trans hi4)
  clear ht h4 hi4
  have d1 : (moE A k n == moE A k n) = true := by simp
  go_wp2_with (fail)
  refine hK.out _ _ ⟨HC4.out.c1, HC4.out.c2⟩ (fun hHeld => ?_)
  clear hK K
  refine wpAnyH_take (i := 12) (v := ?_) rfl (by kernel_rfl) (by kernel_rfl) (by kernel_rfl) (fun _ _ _ h => h) (Or.inl ⟨by rfl, fun w hSw => ?_⟩) (by assumption) ?_
  rotate_left
  · (try dsimp only at hSw); go_simp; try with_reducible rfl
  simp only [Act.put, List.setIfInBounds_toArray, List.set_cons_zero, List.set_cons_succ, List.getElem_toArray, List.getElem_cons_succ, List.getElem_cons_zero]
  refine wpAnyH_take (i := 13) (v := ?_) rfl (by kernel_rfl) (by kernel_rfl) (by kernel_rfl) (fun _ _ _ h => h) (Or.inl ⟨by rfl, fun w hSw => ?_⟩) (by assumption) ?_
  rotate_left
  · (try dsimp only at hSw); go_simp; try with_reducible rfl
  simp only [Act.put, List.setIfInBounds_toArray, List.set_cons_zero, List.set_cons_succ, List.getElem_toArray, List.getElem_cons_succ, List.getElem_cons_zero]
  refine wpAnyH_done (by kernel_rfl) ?_ _
  clear hHeld c1 c2
  go_wp2_with (fail)
  go_ret
  exact ⟨rfl, _, _, _, _, _, HT4.out, HS.out, HI.out⟩
set_option maxRecDepth 100000 in
set_option maxHeartbeats 4000000 in
theorem told_cut (H : MapOk Pmp) (h : Two Pmp w p b T D G A X A X) (hs : Sml X) (hw : (Lit.int .i64 k).wf = true) :
    Calls Try.prog 14 #[.pointer (some ⟨p, 0, none⟩), .pointer (some ⟨b, 0, none⟩), cl 3 k n a l c] w (ToldP Pmp w p b T D G) := by
  obtain ⟨wb, g, hwb, hg, HT, HC, HQ, HB⟩ := h.box H 3 k n a l c
  have HH := Lib.hid H
  have HS := Lib.hid hs
  have HI := Lib.hid (Inc.next (b := b) (T := T) (D := D) (G := G) HB.out)
  have HW := Lib.hid hw
  have c1 := HC.out.c1
  rw [hwb, hg] at c1
  clear H h hs hw HB
  go_enter Try.func14, Try.ntmps14
  go_wp2_with (fail)
  rw [← hwb, ← hg]
  clear hwb hg c1
  refine (prog_cut HH.out HT.out k HW.out).mono ?_
  rintro e2 w2 ⟨rfl, ht, T3, D3, h3, hi3⟩
  have hc3 := HC.out.turn ht HQ.out.1
  have HC3 := Lib.hid hc3
  have c1 := hc3.c1
  have HT3 := Lib.hid h3
  replace HI := Lib.hid (HI.out.trans hi3)
  clear ht h3 hi3 hc3
  go_wp2_with (fail)
  refine (ref_cut HH.out HT3.out k HW.out).mono ?_
  rintro e4 w4 ⟨rfl, ht, G4, h4, hi4⟩
  have HT4 := Lib.hid h4
  replace HI := Lib.hid (HI.out.trans hi4)
  clear ht h4 hi4 c1
  go_wp2_with (fail)
  go_ret
  exact ⟨rfl, _, _, _, _, _, HT4.out, HS.out.cut _ _, HI.out⟩
set_option maxRecDepth 100000 in
set_option maxHeartbeats 4000000 in
theorem told_bytes (H : MapOk Pmp) (h : Two Pmp w p b T D G A X A X) (hs : Sml X) :
    Calls Try.prog 14 #[.pointer (some ⟨p, 0, none⟩), .pointer (some ⟨b, 0, none⟩), cl 2 k n a l c] w (ToldP Pmp w p b T D G) := by
  obtain ⟨wb, g, hwb, hg, HT, HC, HQ, HB⟩ := h.box H 2 k n a l c
  have HH := Lib.hid H
  have HS := Lib.hid hs
  have HI := Lib.hid (Inc.next (b := b) (T := T) (D := D) (G := G) HB.out)
  have c1 := HC.out.c1
  rw [hwb, hg] at c1
  clear H h hs HB
  go_enter Try.func14, Try.ntmps14
  go_wp2_with (fail)
  rw [← hwb, ← hg]
  clear hwb hg c1
  refine (HH.out.bytes HT.out.pm k).mono ?_
  rintro e2 w2 ⟨a2, n2, x2, rfl, hp2, hb⟩
  have hc3 := HC.out.next hb
  have c1 := hc3.c1
  have HP2 := Lib.hid hp2
  have HT3 := Lib.hid (HT.out.next HH.out hb)
  replace HI := Lib.hid (HI.out.trans (Inc.next hb))
  clear hb hc3 hp2
  go_wp2_with (fail)
  refine (rbytes_any b G A X k _ HT3.out.rm HS.out).mono ?_
  rintro e4 w4 ⟨a4, n4, x4, rfl, hp4, _, hb⟩
  have HT4 := Lib.hid (HT3.out.next HH.out hb)
  have HP4 := Lib.hid hp4
  have HP3 := Lib.hid (HP2.out.next hb)
  have hx := by_small HS.out k
  have HX := Lib.hid (show n2 ≤ 1000000000000 by have := HP2.out.len; omega)
  obtain ⟨ok, hok⟩ : ∃ z, z = byO X k := ⟨_, rfl⟩
  rw [← hok]
  have d1 : (ok == ok) = true := by simp
  replace HI := Lib.hid (HI.out.trans (Inc.next hb))
  clear hb hp4 hx c1
  go_wp2_with (fail)
  refine (sameP HP3.out HP4.out HX.out).mono ?_
  rintro e5 w5 ⟨rfl, hb⟩
  have HT5 := Lib.hid (HT4.out.next HH.out hb)
  replace HI := Lib.hid (HI.out.trans (Inc.next hb))
  clear hb
  go_wp2_with (fail)
  go_ret
  exact ⟨rfl, _, _, _, _, _, HT5.out, HS.out, HI.out⟩
set_option maxRecDepth 100000 in
set_option maxHeartbeats 4000000 in
theorem told_none (H : MapOk Pmp) (h : Two Pmp w p b T D G A X A X) (hs : Sml X) (n0 : (q == 0) = false) (n1 : (q == 1) = false) (n2 : (q == 2) = false) (n3 : (q == 3) = false) (n4 : (q == 4) = false) (n5 : (q == 5) = false) :
    Calls Try.prog 14 #[.pointer (some ⟨p, 0, none⟩), .pointer (some ⟨b, 0, none⟩), cl q k n a l c] w (ToldP Pmp w p b T D G) := by
  obtain ⟨wb, g, hwb, hg, HT, HC, HQ, HB⟩ := h.box H q k n a l c
  have HH := Lib.hid H
  have HS := Lib.hid hs
  have HI := Lib.hid (Inc.next (b := b) (T := T) (D := D) (G := G) HB.out)
  clear H h hs HB
  go_enter Try.func14, Try.ntmps14
  go_wp2_with (fail)
  go_ret
  rw [← hwb]
  exact ⟨rfl, _, _, _, _, _, HT.out, HS.out, HI.out⟩
end
end Go.Proofs.Ytgedgkdnjnbijaa
