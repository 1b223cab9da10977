/-
  The law's 'told': a Flush, a Write, an Everywhere, of both banks.
-/
import Derived.Test.YtoiidhpohghiaaaGreatTw0
namespace Go.Proofs.YtoiidhpohghiaaaGreat
open Go.RowKit Go.Maps
set_option linter.unusedVariables false

section
variable {w0 w w' : World} {M : Nat → Prop} {L : Lay} {K : RLay} {b y n : Nat} {R : Rk} {F : Rf} {B : Bn} {i m e sl st : Int} {a : Option Addr} {l c p : Nat} {zs : List Int}
set_option maxRecDepth 100000 in
set_option maxHeartbeats 4000000 in
theorem told_flush (h : Two w0 M L K b y R F B w) (hd : B.d = (n : Int)) (hn : n ≤ 16) :
    Calls Tryz.prog 11 #[.pointer (some ⟨L.p, 0, none⟩), .pointer (some ⟨b, 0, none⟩), .pointer (some ⟨K.p, 0, none⟩), .pointer (some ⟨y, 0, none⟩), cl 2 i m a l c e sl st] w fun en w' => en = .returned (.bool true) ∧ Two w0 M L K b y (flG B R B.num).2.2 (rflG B F B.num).2.2 B w' := by
  obtain ⟨wb, p, hwb, hp, HT, HC, HP, _⟩ := h.box 2 i m a l c e sl st
  have HG := Lib.hid (h.rel.flG h.st.rk.lens B B.num)
  clear h
  go_enter Tryz.func11, Tryz.ntmps11
  go_wp2_with (fail)
  rw [← hwb]
  clear hwb hp
  refine (st_flush HT.out.st hd hn).mono ?_
  rintro e1 w1 hpo
  obtain ⟨rfl, hm1, _⟩ := HT.out.prog (flG_n B R _) hpo
  have HM1 := Lib.hid hm1
  have hrf := rflush_bank n hm1.rf hm1.rb hm1.ky hd hn
  rw [← HG.out.1] at hrf
  clear hpo hm1
  go_wp2_with (fail)
  refine hrf.mono ?_
  clear hrf
  rintro e2 w2 hpo
  obtain ⟨rfl, ht2⟩ := HM1.out.ref hpo HG.out.2
  have HT2 := Lib.hid ht2
  clear hpo ht2
  go_wp2_with (fail)
  go_ret
  exact ⟨rfl, HT2.out⟩


set_option maxRecDepth 100000 in
set_option maxHeartbeats 4000000 in
theorem told_write (h : Two w0 M L K b y R F B w) (hz : Pin w a l c zs) (hzM : l = 0 ∨ ∀ b off, a = some ⟨b, off, none⟩ → ¬ M b) (hl : l ≤ 1000000000000) :
    Calls Tryz.prog 11 #[.pointer (some ⟨L.p, 0, none⟩), .pointer (some ⟨b, 0, none⟩), .pointer (some ⟨K.p, 0, none⟩), .pointer (some ⟨y, 0, none⟩), cl 1 i m a l c e sl st] w fun en w' => en = .returned (.bool true) ∧ Two w0 M L K b y (bw B R i m zs) (rw' B F i m zs) B w' := by
  obtain ⟨wb, p, hwb, hp, HT, HC, HP, HBB⟩ := h.box 1 i m a l c e sl st
  have hzb := hz.next HBB.out
  have hz0 := hzb.drewN 1
  change Pin wb.drew a l c zs at hz0
  have HZ0 := Lib.hid hz0
  have HZM := Lib.hid hzM
  have HL := Lib.hid hl
  clear hz hzb hz0 hzM hl
  have HR := Lib.hid h.rel
  have c1 := HC.out.c1
  have c2 := HC.out.c2
  have c3 := HC.out.c3
  have hTd := HT.out.drew
  have hCd := HC.out.next (below_drewN (Below.refl _ wb) 1)
  change Clb wb.drew _ _ _ _ _ _ _ _ _ _ at hCd
  have HT0 := Lib.hid hTd
  have HC0 := Lib.hid hCd
  clear h hTd hCd
  rw [hwb, hp] at c1 c2 c3
  go_enter Tryz.func11, Tryz.ntmps11
  go_wp2_with (fail)
  rw [← hwb, ← hp]
  rw [← hwb, ← hp] at c1 c2 c3
  clear hwb hp HT HC
  refine wp_region_held_drew (S := fun w' => w'.cell? ⟨p, 1, none⟩ = some (.int .i64 i) ∧ w'.cell? ⟨p, 2, none⟩ = some (.int .i64 m) ∧ w'.cell? ⟨p, 3, none⟩ = some (.slice a l c)) (by kernel_rfl) ?_ (fun hHeld => ?_)
  · exact ⟨c1, c2, c3⟩
  refine wpAnyH_take (i := 0) (v := ?_) rfl (by kernel_rfl) (by kernel_rfl) (by kernel_rfl) (fun _ _ _ h => h) (Or.inl ⟨by rfl, fun w hSw => ?_⟩) (by assumption) ?_
  rotate_left
  · (try dsimp only at hSw); go_simp; try with_reducible rfl
  simp only [Act.put, List.setIfInBounds_toArray, List.set_cons_zero, List.set_cons_succ, List.getElem_toArray, List.getElem_cons_zero]
  refine wpAnyH_take (i := 1) (v := ?_) rfl (by kernel_rfl) (by kernel_rfl) (by kernel_rfl) (fun _ _ _ h => h) (Or.inl ⟨by rfl, fun w hSw => ?_⟩) (by assumption) ?_
  rotate_left
  · (try dsimp only at hSw); go_simp; try with_reducible rfl
  simp only [Act.put, List.setIfInBounds_toArray, List.set_cons_zero, List.set_cons_succ, List.getElem_toArray, List.getElem_cons_succ, List.getElem_cons_zero]
  refine wpAnyH_take (i := 2) (v := ?_) rfl (by kernel_rfl) (by kernel_rfl) (by kernel_rfl) (fun _ _ _ h => h) (Or.inl ⟨by rfl, fun w hSw => ?_⟩) (by assumption) ?_
  rotate_left
  · (try dsimp only at hSw); go_simp; try with_reducible rfl
  simp only [Act.put, List.setIfInBounds_toArray, List.set_cons_zero, List.set_cons_succ, List.getElem_toArray, List.getElem_cons_succ, List.getElem_cons_zero]
  refine wpAnyH_take (i := 3) (v := ?_) rfl (by kernel_rfl) (by kernel_rfl) (by kernel_rfl) (fun _ _ _ h => h) (Or.inl ⟨by rfl, fun w hSw => ?_⟩) (by assumption) ?_
  rotate_left
  · (try dsimp only at hSw); go_simp; try with_reducible rfl
  simp only [Act.put, List.setIfInBounds_toArray, List.set_cons_zero, List.set_cons_succ, List.getElem_toArray, List.getElem_cons_succ, List.getElem_cons_zero]
  refine wpAnyH_take (i := 4) (v := ?_) rfl (by kernel_rfl) (by kernel_rfl) (by kernel_rfl) (fun _ _ _ h => h) (Or.inl ⟨by rfl, fun w hSw => ?_⟩) (by assumption) ?_
  rotate_left
  · (try dsimp only at hSw); go_simp; try with_reducible rfl
  simp only [Act.put, List.setIfInBounds_toArray, List.set_cons_zero, List.set_cons_succ, List.getElem_toArray, List.getElem_cons_succ, List.getElem_cons_zero]
  refine wpAnyH_take (i := 5) (v := ?_) rfl (by kernel_rfl) (by kernel_rfl) (by kernel_rfl) (fun _ _ _ h => h) (Or.inl ⟨by rfl, fun w hSw => ?_⟩) (by assumption) ?_
  rotate_left
  · (try dsimp only at hSw); go_simp; try with_reducible rfl
  simp only [Act.put, List.setIfInBounds_toArray, List.set_cons_zero, List.set_cons_succ, List.getElem_toArray, List.getElem_cons_succ, List.getElem_cons_zero]
  refine wpAnyH_take (i := 6) (v := ?_) rfl (by kernel_rfl) (by kernel_rfl) (by kernel_rfl) (fun _ _ _ h => h) (Or.inl ⟨by rfl, fun w hSw => ?_⟩) (by assumption) ?_
  rotate_left
  · (try dsimp only at hSw); go_simp; try with_reducible rfl
  simp only [Act.put, List.setIfInBounds_toArray, List.set_cons_zero, List.set_cons_succ, List.getElem_toArray, List.getElem_cons_succ, List.getElem_cons_zero]
  refine wpAnyH_take (i := 9) (v := ?_) rfl (by kernel_rfl) (by kernel_rfl) (by kernel_rfl) (fun _ _ _ h => h) (Or.inl ⟨by rfl, fun w hSw => ?_⟩) (by assumption) ?_
  rotate_left
  · (try dsimp only at hSw); go_simp; try with_reducible rfl
  simp only [Act.put, List.setIfInBounds_toArray, List.set_cons_zero, List.set_cons_succ, List.getElem_toArray, List.getElem_cons_succ, List.getElem_cons_zero]
  refine wpAnyH_take (i := 10) (v := ?_) rfl (by kernel_rfl) (by kernel_rfl) (by kernel_rfl) (fun _ _ _ h => h) (Or.inl ⟨by rfl, fun w hSw => ?_⟩) (by assumption) ?_
  rotate_left
  · (try dsimp only at hSw); go_simp; try with_reducible rfl
  simp only [Act.put, List.setIfInBounds_toArray, List.set_cons_zero, List.set_cons_succ, List.getElem_toArray, List.getElem_cons_succ, List.getElem_cons_zero]
  refine wpAnyH_take (i := 11) (v := ?_) rfl (by kernel_rfl) (by kernel_rfl) (by kernel_rfl) (fun _ _ _ h => h) (Or.inl ⟨by rfl, fun w hSw => ?_⟩) (by assumption) ?_
  rotate_left
  · (try dsimp only at hSw); go_simp; try with_reducible rfl
  simp only [Act.put, List.setIfInBounds_toArray, List.set_cons_zero, List.set_cons_succ, List.getElem_toArray, List.getElem_cons_succ, List.getElem_cons_zero]
  refine wpAnyH_take (i := 12) (v := ?_) rfl (by kernel_rfl) (by kernel_rfl) (by kernel_rfl) (fun _ _ _ h => h) (Or.inl ⟨by rfl, fun w hSw => ?_⟩) (by assumption) ?_
  rotate_left
  · (try dsimp only at hSw); go_simp; try with_reducible rfl
  simp only [Act.put, List.setIfInBounds_toArray, List.set_cons_zero, List.set_cons_succ, List.getElem_toArray, List.getElem_cons_succ, List.getElem_cons_zero]
  refine wpAnyH_take (i := 13) (v := ?_) rfl (by kernel_rfl) (by kernel_rfl) (by kernel_rfl) (fun _ _ _ h => h) (Or.inl ⟨by rfl, fun w hSw => ?_⟩) (by assumption) ?_
  rotate_left
  · (try dsimp only at hSw); go_simp; try with_reducible rfl
  simp only [Act.put, List.setIfInBounds_toArray, List.set_cons_zero, List.set_cons_succ, List.getElem_toArray, List.getElem_cons_succ, List.getElem_cons_zero]
  refine wpAnyH_take (i := 14) (v := ?_) rfl (by kernel_rfl) (by kernel_rfl) (by kernel_rfl) (fun _ _ _ h => h) (Or.inl ⟨by rfl, fun w hSw => ?_⟩) (by assumption) ?_
  rotate_left
  · (try dsimp only at hSw); go_simp; try with_reducible rfl
  simp only [Act.put, List.setIfInBounds_toArray, List.set_cons_zero, List.set_cons_succ, List.getElem_toArray, List.getElem_cons_succ, List.getElem_cons_zero]
  refine wpAnyH_take (i := 15) (v := ?_) rfl (by kernel_rfl) (by kernel_rfl) (by kernel_rfl) (fun _ _ _ h => h) (Or.inl ⟨by rfl, fun w hSw => ?_⟩) (by assumption) ?_
  rotate_left
  · (try dsimp only at hSw); go_simp; try with_reducible rfl
  simp only [Act.put, List.setIfInBounds_toArray, List.set_cons_zero, List.set_cons_succ, List.getElem_toArray, List.getElem_cons_succ, List.getElem_cons_zero]
  refine wpAnyH_ready (rs := [7]) (by kernel_rfl) (by simp) ?_
  refine AllReadyH.cons rfl (fun K hK => ?_) AllReadyH.nil
  simp only [List.getElem_toArray, List.getElem_cons_succ, List.getElem_cons_zero]
  go_simp
  refine (copy_any a l c zs _ HZ0.out.bys HZ0.out.nil HL.out).mono ?_
  rintro e1 w1 ⟨v1, rfl, ho1, hb1⟩
  obtain ⟨a5, x5, rfl, hp5, hlo5⟩ := ho1.pin
  have HT1 := Lib.hid (HT0.out.next hb1)
  have HC1 := Lib.hid (HC0.out.next hb1)
  have HZ1 := Lib.hid (HZ0.out.next hb1)
  have HP5 := Lib.hid hp5
  have HA5 : Hid (∀ b off, a5 = some ⟨b, off, none⟩ → ¬ M b) := fun b off e x => by
    have h1 := (hlo5 _ e).1
    have h2 := HT0.out.st.rk.low b x
    exact Nat.lt_irrefl _ (Nat.lt_of_lt_of_le h2 h1)
  clear ho1 hb1 hp5 hlo5
  go_wp2_with (fail)
  refine hK.out _ _ ⟨HC1.out.c1, HC1.out.c2, HC1.out.c3⟩ (fun hHeld => ?_)
  clear hK K
  refine wpAnyH_ready (rs := [8]) (by kernel_rfl) (by simp) ?_
  refine AllReadyH.cons rfl (fun K hK => ?_) AllReadyH.nil
  simp only [List.getElem_toArray, List.getElem_cons_succ, List.getElem_cons_zero]
  go_simp
  refine (st_bwrite i m a5 l x5 zs HT1.out.st HP5.out.bys (.inr HA5.out)).mono ?_
  rintro e2 w2 hpo
  obtain ⟨rfl, hm2, ht2⟩ := HT1.out.prog (bw_n B R i m zs) hpo
  have hns : ∀ k, L.M R.n k → M k := HT1.out.st.rk.sub
  have HC2 := Lib.hid (HC1.out.turn ht2 (fun x => HP.out (hns _ x)))
  have HZ2 := Lib.hid (bys_turn0 HZ1.out.bys ht2 (HZM.out.imp id fun f b off e x => f b off e (hns _ x)))
  have HM2 := Lib.hid hm2
  clear hpo hm2 ht2 hns
  go_wp2_with (fail)
  refine hK.out _ _ ⟨HC2.out.c1, HC2.out.c2, HC2.out.c3⟩ (fun hHeld => ?_)
  clear hK K
  refine wpAnyH_ready (rs := [16]) (by kernel_rfl) (by simp) ?_
  refine AllReadyH.cons rfl (fun K hK => ?_) AllReadyH.nil
  simp only [List.getElem_toArray, List.getElem_cons_succ, List.getElem_cons_zero]
  go_simp
  have hrf := rbwrite_any i m a l c zs HM2.out.rf HM2.out.rb HM2.out.ky HZ2.out HZM.out
  rw [← HR.out.bwE B i m zs] at hrf
  refine hrf.mono ?_
  clear hrf
  rintro e3 w3 hpo
  have HC3 := Lib.hid (HC2.out.turn hpo.2.2 (fun x => HP.out (HM2.out.rf.sub _ x)))
  obtain ⟨rfl, ht3⟩ := HM2.out.ref hpo (HR.out.bw B i m zs)
  have HT3 := Lib.hid ht3
  clear hpo ht3
  go_wp2_with (fail)
  refine hK.out _ _ ⟨HC3.out.c1, HC3.out.c2, HC3.out.c3⟩ (fun hHeld => ?_)
  clear hK K
  refine wpAnyH_take (i := 17) (v := ?_) rfl (by kernel_rfl) (by kernel_rfl) (by kernel_rfl) (fun _ _ _ h => h) (Or.inl ⟨by rfl, fun w hSw => ?_⟩) (by assumption) ?_
  rotate_left
  · (try dsimp only at hSw); go_simp; try with_reducible rfl
  simp only [Act.put, List.setIfInBounds_toArray, List.set_cons_zero, List.set_cons_succ, List.getElem_toArray, List.getElem_cons_succ, List.getElem_cons_zero]
  refine wpAnyH_take (i := 18) (v := ?_) rfl (by kernel_rfl) (by kernel_rfl) (by kernel_rfl) (fun _ _ _ h => h) (Or.inl ⟨by rfl, fun w hSw => ?_⟩) (by assumption) ?_
  rotate_left
  · (try dsimp only at hSw); go_simp; try with_reducible rfl
  simp only [Act.put, List.setIfInBounds_toArray, List.set_cons_zero, List.set_cons_succ, List.getElem_toArray, List.getElem_cons_succ, List.getElem_cons_zero]
  refine wpAnyH_done (by kernel_rfl) ?_ _
  clear hHeld c1 c2 c3
  go_wp2_with (fail)
  go_ret
  exact ⟨rfl, HT3.out⟩


set_option maxRecDepth 100000 in
set_option maxHeartbeats 4000000 in
theorem told_every (h : Two w0 M L K b y R F B w) (hz : Pin w a l c zs) (hzM : l = 0 ∨ ∀ b off, a = some ⟨b, off, none⟩ → ¬ M b) (hl : l ≤ 1000000000000) (hd : B.d = (n : Int)) (hn : n ≤ 16) :
    Calls Tryz.prog 11 #[.pointer (some ⟨L.p, 0, none⟩), .pointer (some ⟨b, 0, none⟩), .pointer (some ⟨K.p, 0, none⟩), .pointer (some ⟨y, 0, none⟩), cl 4 i m a l c e sl st] w fun en w' => en = .returned (.bool true) ∧ Two w0 M L K b y (evG B m zs R B.num).2.2 (revG B m zs F B.num).2.2 B w' := by
  obtain ⟨wb, p, hwb, hp, HT, HC, HP, HBB⟩ := h.box 4 i m a l c e sl st
  have hzb := hz.next HBB.out
  have hz0 := hzb.drewN 1
  change Pin wb.drew a l c zs at hz0
  have HZ0 := Lib.hid hz0
  have HZM := Lib.hid hzM
  have HL := Lib.hid hl
  clear hz hzb hz0 hzM hl
  have HG := Lib.hid (h.rel.evG B m zs B.num)
  have c1 := HC.out.c1
  have c2 := HC.out.c2
  have c3 := HC.out.c3
  have hTd := HT.out.drew
  have hCd := HC.out.next (below_drewN (Below.refl _ wb) 1)
  change Clb wb.drew _ _ _ _ _ _ _ _ _ _ at hCd
  have HT0 := Lib.hid hTd
  have HC0 := Lib.hid hCd
  clear h hTd hCd
  rw [hwb, hp] at c1 c2 c3
  go_enter Tryz.func11, Tryz.ntmps11
  go_wp2_with (fail)
  rw [← hwb, ← hp]
  rw [← hwb, ← hp] at c1 c2 c3
  clear hwb hp HT HC
  refine wp_region_held_drew (S := fun w' => w'.cell? ⟨p, 2, none⟩ = some (.int .i64 m) ∧ w'.cell? ⟨p, 3, none⟩ = some (.slice a l c)) (by kernel_rfl) ?_ (fun hHeld => ?_)
  · exact ⟨c2, c3⟩
  refine wpAnyH_take (i := 0) (v := ?_) rfl (by kernel_rfl) (by kernel_rfl) (by kernel_rfl) (fun _ _ _ h => h) (Or.inl ⟨by rfl, fun w hSw => ?_⟩) (by assumption) ?_
  rotate_left
  · (try dsimp only at hSw); go_simp; try with_reducible rfl
  simp only [Act.put, List.setIfInBounds_toArray, List.set_cons_zero, List.set_cons_succ, List.getElem_toArray, List.getElem_cons_zero]
  refine wpAnyH_take (i := 1) (v := ?_) rfl (by kernel_rfl) (by kernel_rfl) (by kernel_rfl) (fun _ _ _ h => h) (Or.inl ⟨by rfl, fun w hSw => ?_⟩) (by assumption) ?_
  rotate_left
  · (try dsimp only at hSw); go_simp; try with_reducible rfl
  simp only [Act.put, List.setIfInBounds_toArray, List.set_cons_zero, List.set_cons_succ, List.getElem_toArray, List.getElem_cons_succ, List.getElem_cons_zero]
  refine wpAnyH_take (i := 2) (v := ?_) rfl (by kernel_rfl) (by kernel_rfl) (by kernel_rfl) (fun _ _ _ h => h) (Or.inl ⟨by rfl, fun w hSw => ?_⟩) (by assumption) ?_
  rotate_left
  · (try dsimp only at hSw); go_simp; try with_reducible rfl
  simp only [Act.put, List.setIfInBounds_toArray, List.set_cons_zero, List.set_cons_succ, List.getElem_toArray, List.getElem_cons_succ, List.getElem_cons_zero]
  refine wpAnyH_take (i := 3) (v := ?_) rfl (by kernel_rfl) (by kernel_rfl) (by kernel_rfl) (fun _ _ _ h => h) (Or.inl ⟨by rfl, fun w hSw => ?_⟩) (by assumption) ?_
  rotate_left
  · (try dsimp only at hSw); go_simp; try with_reducible rfl
  simp only [Act.put, List.setIfInBounds_toArray, List.set_cons_zero, List.set_cons_succ, List.getElem_toArray, List.getElem_cons_succ, List.getElem_cons_zero]
  refine wpAnyH_take (i := 4) (v := ?_) rfl (by kernel_rfl) (by kernel_rfl) (by kernel_rfl) (fun _ _ _ h => h) (Or.inl ⟨by rfl, fun w hSw => ?_⟩) (by assumption) ?_
  rotate_left
  · (try dsimp only at hSw); go_simp; try with_reducible rfl
  simp only [Act.put, List.setIfInBounds_toArray, List.set_cons_zero, List.set_cons_succ, List.getElem_toArray, List.getElem_cons_succ, List.getElem_cons_zero]
  refine wpAnyH_take (i := 7) (v := ?_) rfl (by kernel_rfl) (by kernel_rfl) (by kernel_rfl) (fun _ _ _ h => h) (Or.inl ⟨by rfl, fun w hSw => ?_⟩) (by assumption) ?_
  rotate_left
  · (try dsimp only at hSw); go_simp; try with_reducible rfl
  simp only [Act.put, List.setIfInBounds_toArray, List.set_cons_zero, List.set_cons_succ, List.getElem_toArray, List.getElem_cons_succ, List.getElem_cons_zero]
  refine wpAnyH_take (i := 8) (v := ?_) rfl (by kernel_rfl) (by kernel_rfl) (by kernel_rfl) (fun _ _ _ h => h) (Or.inl ⟨by rfl, fun w hSw => ?_⟩) (by assumption) ?_
  rotate_left
  · (try dsimp only at hSw); go_simp; try with_reducible rfl
  simp only [Act.put, List.setIfInBounds_toArray, List.set_cons_zero, List.set_cons_succ, List.getElem_toArray, List.getElem_cons_succ, List.getElem_cons_zero]
  refine wpAnyH_take (i := 9) (v := ?_) rfl (by kernel_rfl) (by kernel_rfl) (by kernel_rfl) (fun _ _ _ h => h) (Or.inl ⟨by rfl, fun w hSw => ?_⟩) (by assumption) ?_
  rotate_left
  · (try dsimp only at hSw); go_simp; try with_reducible rfl
  simp only [Act.put, List.setIfInBounds_toArray, List.set_cons_zero, List.set_cons_succ, List.getElem_toArray, List.getElem_cons_succ, List.getElem_cons_zero]
  refine wpAnyH_take (i := 10) (v := ?_) rfl (by kernel_rfl) (by kernel_rfl) (by kernel_rfl) (fun _ _ _ h => h) (Or.inl ⟨by rfl, fun w hSw => ?_⟩) (by assumption) ?_
  rotate_left
  · (try dsimp only at hSw); go_simp; try with_reducible rfl
  simp only [Act.put, List.setIfInBounds_toArray, List.set_cons_zero, List.set_cons_succ, List.getElem_toArray, List.getElem_cons_succ, List.getElem_cons_zero]
  refine wpAnyH_take (i := 11) (v := ?_) rfl (by kernel_rfl) (by kernel_rfl) (by kernel_rfl) (fun _ _ _ h => h) (Or.inl ⟨by rfl, fun w hSw => ?_⟩) (by assumption) ?_
  rotate_left
  · (try dsimp only at hSw); go_simp; try with_reducible rfl
  simp only [Act.put, List.setIfInBounds_toArray, List.set_cons_zero, List.set_cons_succ, List.getElem_toArray, List.getElem_cons_succ, List.getElem_cons_zero]
  refine wpAnyH_ready (rs := [5]) (by kernel_rfl) (by simp) ?_
  refine AllReadyH.cons rfl (fun K hK => ?_) AllReadyH.nil
  simp only [List.getElem_toArray, List.getElem_cons_succ, List.getElem_cons_zero]
  go_simp
  refine (copy_any a l c zs _ HZ0.out.bys HZ0.out.nil HL.out).mono ?_
  rintro e1 w1 ⟨v1, rfl, ho1, hb1⟩
  obtain ⟨a5, x5, rfl, hp5, hlo5⟩ := ho1.pin
  have HT1 := Lib.hid (HT0.out.next hb1)
  have HC1 := Lib.hid (HC0.out.next hb1)
  have HZ1 := Lib.hid (HZ0.out.next hb1)
  have HP5 := Lib.hid hp5
  have HA5 : Hid (∀ b off, a5 = some ⟨b, off, none⟩ → ¬ M b) := fun b off e x => by
    have h1 := (hlo5 _ e).1
    have h2 := HT0.out.st.rk.low b x
    exact Nat.lt_irrefl _ (Nat.lt_of_lt_of_le h2 h1)
  clear ho1 hb1 hp5 hlo5
  go_wp2_with (fail)
  refine hK.out _ _ ⟨HC1.out.c2, HC1.out.c3⟩ (fun hHeld => ?_)
  clear hK K
  refine wpAnyH_ready (rs := [6]) (by kernel_rfl) (by simp) ?_
  refine AllReadyH.cons rfl (fun K hK => ?_) AllReadyH.nil
  simp only [List.getElem_toArray, List.getElem_cons_succ, List.getElem_cons_zero]
  go_simp
  refine (st_every m a5 l x5 zs HT1.out.st hd hn HP5.out.bys (.inr HA5.out)).mono ?_
  rintro e2 w2 hpo
  obtain ⟨rfl, hm2, ht2⟩ := HT1.out.prog (evG_n B m zs R _) hpo
  have hns : ∀ k, L.M R.n k → M k := HT1.out.st.rk.sub
  have HC2 := Lib.hid (HC1.out.turn ht2 (fun x => HP.out (hns _ x)))
  have HZ2 := Lib.hid (bys_turn0 HZ1.out.bys ht2 (HZM.out.imp id fun f b off e x => f b off e (hns _ x)))
  have HM2 := Lib.hid hm2
  clear hpo hm2 ht2 hns
  go_wp2_with (fail)
  refine hK.out _ _ ⟨HC2.out.c2, HC2.out.c3⟩ (fun hHeld => ?_)
  clear hK K
  refine wpAnyH_ready (rs := [12]) (by kernel_rfl) (by simp) ?_
  refine AllReadyH.cons rfl (fun K hK => ?_) AllReadyH.nil
  simp only [List.getElem_toArray, List.getElem_cons_succ, List.getElem_cons_zero]
  go_simp
  have hrf := revery_bank n m a l c zs HM2.out.rf HM2.out.rb HM2.out.ky hd hn HZ2.out HZM.out
  rw [← HG.out.1] at hrf
  refine hrf.mono ?_
  clear hrf
  rintro e3 w3 hpo
  have HC3 := Lib.hid (HC2.out.turn hpo.2.2 (fun x => HP.out (HM2.out.rf.sub _ x)))
  obtain ⟨rfl, ht3⟩ := HM2.out.ref hpo (HG.out.2)
  have HT3 := Lib.hid ht3
  clear hpo ht3
  go_wp2_with (fail)
  refine hK.out _ _ ⟨HC3.out.c2, HC3.out.c3⟩ (fun hHeld => ?_)
  clear hK K
  refine wpAnyH_take (i := 13) (v := ?_) rfl (by kernel_rfl) (by kernel_rfl) (by kernel_rfl) (fun _ _ _ h => h) (Or.inl ⟨by rfl, fun w hSw => ?_⟩) (by assumption) ?_
  rotate_left
  · (try dsimp only at hSw); go_simp; try with_reducible rfl
  simp only [Act.put, List.setIfInBounds_toArray, List.set_cons_zero, List.set_cons_succ, List.getElem_toArray, List.getElem_cons_succ, List.getElem_cons_zero]
  refine wpAnyH_take (i := 14) (v := ?_) rfl (by kernel_rfl) (by kernel_rfl) (by kernel_rfl) (fun _ _ _ h => h) (Or.inl ⟨by rfl, fun w hSw => ?_⟩) (by assumption) ?_
  rotate_left
  · (try dsimp only at hSw); go_simp; try with_reducible rfl
  simp only [Act.put, List.setIfInBounds_toArray, List.set_cons_zero, List.set_cons_succ, List.getElem_toArray, List.getElem_cons_succ, List.getElem_cons_zero]
  refine wpAnyH_done (by kernel_rfl) ?_ _
  clear hHeld c1 c2 c3
  go_wp2_with (fail)
  go_ret
  exact ⟨rfl, HT3.out⟩

end

end Go.Proofs.YtoiidhpohghiaaaGreat
