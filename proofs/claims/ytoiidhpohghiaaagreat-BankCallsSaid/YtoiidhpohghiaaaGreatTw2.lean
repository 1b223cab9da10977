/-
  The law's 'told': a Doom, an All, of both banks.
-/
import Derived.Test.YtoiidhpohghiaaaGreatTw0
namespace Go.Proofs.YtoiidhpohghiaaaGreat
open Go.RowKit Go.Maps
set_option linter.unusedVariables false

section
variable {w0 w w' : World} {M : Nat → Prop} {L : Lay} {K : RLay} {b y n : Nat} {R : Rk} {F : Rf} {B : Bn} {i m e sl st : Int} {a : Option Addr} {l c p : Nat} {zs : List Int}
theorem alL_each (h : RackAt w M L R) (B : Bn) (k : Int) (i j : Nat) : ((alL B k R i).getD j []).length ≤ 64 := by
  induction i with
  | zero => simp [alL]
  | succ i ih =>
    unfold alL
    split
    · rcases Nat.lt_trichotomy j (alL B k R i).length with h1 | h1 | h1
      · rw [show (alL B k R i ++ [R.rdV (B.disk (i : Int)) k]).getD j [] = (alL B k R i).getD j [] by simp [List.getD, List.getElem?_append_left h1]]
        exact ih
      · subst h1
        rw [show (alL B k R i ++ [R.rdV (B.disk (i : Int)) k]).getD (alL B k R i).length [] = R.rdV (B.disk (i : Int)) k by simp [List.getD]]
        exact rdV_len h _ _
      · rw [show (alL B k R i ++ [R.rdV (B.disk (i : Int)) k]).getD j [] = [] by simp [List.getD, List.getElem?_append_right (Nat.le_of_lt h1), List.getElem?_eq_none (show [R.rdV (B.disk (i : Int)) k].length ≤ j - (alL B k R i).length by simp; omega)]]
        exact Nat.zero_le _
    · exact ih
set_option maxRecDepth 100000 in
set_option maxHeartbeats 4000000 in
theorem told_doom (h : Two w0 M L K b y R F B w) (hm : m ≤ 9223372036854775807) :
    Calls Tryz.prog 11 #[.pointer (some ⟨L.p, 0, none⟩), .pointer (some ⟨b, 0, none⟩), .pointer (some ⟨K.p, 0, none⟩), .pointer (some ⟨y, 0, none⟩), cl 8 i m a l c e sl st] w fun en w' => en = .returned (.bool true) ∧ Two w0 M L K b y (R.doom i m) (F.doom i m) B w' := by
  obtain ⟨wb, p, hwb, hp, HT, HC, HP, HBB⟩ := h.box 8 i m a l c e sl st
  have HR := Lib.hid h.rel
  have HMM := Lib.hid hm
  clear hm
  have c1 := HC.out.c1
  have c2 := HC.out.c2
  have c3 := HC.out.c3
  have hTd := HT.out.drew
  have hCd := HC.out.next (below_drewN (Below.refl _ wb) 1)
  change Clb wb.drew _ _ _ _ _ _ _ _ _ _ at hCd
  have HT0 := Lib.hid hTd
  have HC0 := Lib.hid hCd
  clear h hTd hCd
  rw [hwb, hp] at c1 c2 c3
  go_enter Tryz.func11, Tryz.ntmps11
  go_wp2_with (fail)
  rw [← hwb, ← hp]
  rw [← hwb, ← hp] at c1 c2 c3
  clear hwb hp HT HC
  refine wp_region_held_drew (S := fun w' => w'.cell? ⟨p, 1, none⟩ = some (.int .i64 i) ∧ w'.cell? ⟨p, 2, none⟩ = some (.int .i64 m)) (by kernel_rfl) ?_ (fun hHeld => ?_)
  · exact ⟨c1, c2⟩
  refine wpAnyH_take (i := 0) (v := ?_) rfl (by kernel_rfl) (by kernel_rfl) (by kernel_rfl) (fun _ _ _ h => h) (Or.inl ⟨by rfl, fun w hSw => ?_⟩) (by assumption) ?_
  rotate_left
  · (try dsimp only at hSw); go_simp; try with_reducible rfl
  simp only [Act.put, List.setIfInBounds_toArray, List.set_cons_zero, List.set_cons_succ, List.getElem_toArray, List.getElem_cons_zero]
  refine wpAnyH_take (i := 1) (v := ?_) rfl (by kernel_rfl) (by kernel_rfl) (by kernel_rfl) (fun _ _ _ h => h) (Or.inl ⟨by rfl, fun w hSw => ?_⟩) (by assumption) ?_
  rotate_left
  · (try dsimp only at hSw); go_simp; try with_reducible rfl
  simp only [Act.put, List.setIfInBounds_toArray, List.set_cons_zero, List.set_cons_succ, List.getElem_toArray, List.getElem_cons_succ, List.getElem_cons_zero]
  refine wpAnyH_take (i := 2) (v := ?_) rfl (by kernel_rfl) (by kernel_rfl) (by kernel_rfl) (fun _ _ _ h => h) (Or.inl ⟨by rfl, fun w hSw => ?_⟩) (by assumption) ?_
  rotate_left
  · (try dsimp only at hSw); go_simp; try with_reducible rfl
  simp only [Act.put, List.setIfInBounds_toArray, List.set_cons_zero, List.set_cons_succ, List.getElem_toArray, List.getElem_cons_succ, List.getElem_cons_zero]
  refine wpAnyH_take (i := 3) (v := ?_) rfl (by kernel_rfl) (by kernel_rfl) (by kernel_rfl) (fun _ _ _ h => h) (Or.inl ⟨by rfl, fun w hSw => ?_⟩) (by assumption) ?_
  rotate_left
  · (try dsimp only at hSw); go_simp; try with_reducible rfl
  simp only [Act.put, List.setIfInBounds_toArray, List.set_cons_zero, List.set_cons_succ, List.getElem_toArray, List.getElem_cons_succ, List.getElem_cons_zero]
  refine wpAnyH_take (i := 4) (v := ?_) rfl (by kernel_rfl) (by kernel_rfl) (by kernel_rfl) (fun _ _ _ h => h) (Or.inl ⟨by rfl, fun w hSw => ?_⟩) (by assumption) ?_
  rotate_left
  · (try dsimp only at hSw); go_simp; try with_reducible rfl
  simp only [Act.put, List.setIfInBounds_toArray, List.set_cons_zero, List.set_cons_succ, List.getElem_toArray, List.getElem_cons_succ, List.getElem_cons_zero]
  refine wpAnyH_take (i := 6) (v := ?_) rfl (by kernel_rfl) (by kernel_rfl) (by kernel_rfl) (fun _ _ _ h => h) (Or.inl ⟨by rfl, fun w hSw => ?_⟩) (by assumption) ?_
  rotate_left
  · (try dsimp only at hSw); go_simp; try with_reducible rfl
  simp only [Act.put, List.setIfInBounds_toArray, List.set_cons_zero, List.set_cons_succ, List.getElem_toArray, List.getElem_cons_succ, List.getElem_cons_zero]
  refine wpAnyH_take (i := 7) (v := ?_) rfl (by kernel_rfl) (by kernel_rfl) (by kernel_rfl) (fun _ _ _ h => h) (Or.inl ⟨by rfl, fun w hSw => ?_⟩) (by assumption) ?_
  rotate_left
  · (try dsimp only at hSw); go_simp; try with_reducible rfl
  simp only [Act.put, List.setIfInBounds_toArray, List.set_cons_zero, List.set_cons_succ, List.getElem_toArray, List.getElem_cons_succ, List.getElem_cons_zero]
  refine wpAnyH_take (i := 8) (v := ?_) rfl (by kernel_rfl) (by kernel_rfl) (by kernel_rfl) (fun _ _ _ h => h) (Or.inl ⟨by rfl, fun w hSw => ?_⟩) (by assumption) ?_
  rotate_left
  · (try dsimp only at hSw); go_simp; try with_reducible rfl
  simp only [Act.put, List.setIfInBounds_toArray, List.set_cons_zero, List.set_cons_succ, List.getElem_toArray, List.getElem_cons_succ, List.getElem_cons_zero]
  refine wpAnyH_take (i := 9) (v := ?_) rfl (by kernel_rfl) (by kernel_rfl) (by kernel_rfl) (fun _ _ _ h => h) (Or.inl ⟨by rfl, fun w hSw => ?_⟩) (by assumption) ?_
  rotate_left
  · (try dsimp only at hSw); go_simp; try with_reducible rfl
  simp only [Act.put, List.setIfInBounds_toArray, List.set_cons_zero, List.set_cons_succ, List.getElem_toArray, List.getElem_cons_succ, List.getElem_cons_zero]
  refine wpAnyH_take (i := 10) (v := ?_) rfl (by kernel_rfl) (by kernel_rfl) (by kernel_rfl) (fun _ _ _ h => h) (Or.inl ⟨by rfl, fun w hSw => ?_⟩) (by assumption) ?_
  rotate_left
  · (try dsimp only at hSw); go_simp; try with_reducible rfl
  simp only [Act.put, List.setIfInBounds_toArray, List.set_cons_zero, List.set_cons_succ, List.getElem_toArray, List.getElem_cons_succ, List.getElem_cons_zero]
  refine wpAnyH_ready (rs := [5]) (by kernel_rfl) (by simp) ?_
  refine AllReadyH.cons rfl (fun K hK => ?_) AllReadyH.nil
  simp only [List.getElem_toArray, List.getElem_cons_succ, List.getElem_cons_zero]
  go_simp
  refine (st_doom i m HT0.out.st HMM.out).mono ?_
  rintro e1 w1 hpo
  obtain ⟨rfl, hm1, ht1⟩ := HT0.out.prog (Rk.doom_n R i m) hpo
  have hns : ∀ k, L.M R.n k → M k := HT0.out.st.rk.sub
  have HC1 := Lib.hid (HC0.out.turn ht1 (fun x => HP.out (hns _ x)))
  have HM1 := Lib.hid hm1
  clear hpo hm1 ht1 hns
  go_wp2_with (fail)
  refine hK.out _ _ ⟨HC1.out.c1, HC1.out.c2⟩ (fun hHeld => ?_)
  clear hK K
  refine wpAnyH_ready (rs := [11]) (by kernel_rfl) (by simp) ?_
  refine AllReadyH.cons rfl (fun K hK => ?_) AllReadyH.nil
  simp only [List.getElem_toArray, List.getElem_cons_succ, List.getElem_cons_zero]
  go_simp
  have hrf := rdoom_all i m HM1.out.rf HMM.out
  rw [← HR.out.dkE i] at hrf
  refine hrf.mono ?_
  clear hrf
  rintro e2 w2 hpo
  have HC2 := Lib.hid (HC1.out.turn hpo.2.2 (fun x => HP.out (HM1.out.rf.sub _ x)))
  obtain ⟨rfl, ht2⟩ := HM1.out.ref hpo (HR.out.dm i m)
  have HT2 := Lib.hid ht2
  clear hpo ht2
  go_wp2_with (fail)
  refine hK.out _ _ ⟨HC2.out.c1, HC2.out.c2⟩ (fun hHeld => ?_)
  clear hK K
  refine wpAnyH_take (i := 12) (v := ?_) rfl (by kernel_rfl) (by kernel_rfl) (by kernel_rfl) (fun _ _ _ h => h) (Or.inl ⟨by rfl, fun w hSw => ?_⟩) (by assumption) ?_
  rotate_left
  · (try dsimp only at hSw); go_simp; try with_reducible rfl
  simp only [Act.put, List.setIfInBounds_toArray, List.set_cons_zero, List.set_cons_succ, List.getElem_toArray, List.getElem_cons_succ, List.getElem_cons_zero]
  refine wpAnyH_take (i := 13) (v := ?_) rfl (by kernel_rfl) (by kernel_rfl) (by kernel_rfl) (fun _ _ _ h => h) (Or.inl ⟨by rfl, fun w hSw => ?_⟩) (by assumption) ?_
  rotate_left
  · (try dsimp only at hSw); go_simp; try with_reducible rfl
  simp only [Act.put, List.setIfInBounds_toArray, List.set_cons_zero, List.set_cons_succ, List.getElem_toArray, List.getElem_cons_succ, List.getElem_cons_zero]
  refine wpAnyH_done (by kernel_rfl) ?_ _
  clear hHeld c1 c2 c3
  go_wp2_with (fail)
  go_ret
  exact ⟨rfl, HT2.out⟩


set_option maxRecDepth 100000 in
set_option maxHeartbeats 4000000 in
theorem told_rows (h : Two w0 M L K b y R F B w) (hd : B.d = (n : Int)) (hn : n ≤ 16) :
    Calls Tryz.prog 11 #[.pointer (some ⟨L.p, 0, none⟩), .pointer (some ⟨b, 0, none⟩), .pointer (some ⟨K.p, 0, none⟩), .pointer (some ⟨y, 0, none⟩), cl 5 i m a l c e sl st] w fun en w' => en = .returned (.bool true) ∧ Two w0 M L K b y R F B w' := by
  obtain ⟨wb, p, hwb, hp, HT, HC, HP, HBB⟩ := h.box 5 i m a l c e sl st
  have HR := Lib.hid h.rel
  have HLEN : Hid (∀ j, j < (alL B m R B.num).length → ((alL B m R B.num).getD j []).length ≤ 64) := fun j _ => alL_each h.st.rk B m B.num j
  have HN : Hid ((alL B m R B.num).length ≤ 100000000000) := by
    have := alL_len B m R B.num
    have h2 : B.num ≤ 17 := by unfold Bn.num; rw [hd]; split <;> omega
    exact Nat.le_trans this (by omega)
  have c1 := HC.out.c1
  have c2 := HC.out.c2
  have c3 := HC.out.c3
  have hTd := HT.out.drew
  have hCd := HC.out.next (below_drewN (Below.refl _ wb) 1)
  change Clb wb.drew _ _ _ _ _ _ _ _ _ _ at hCd
  have HT0 := Lib.hid hTd
  have HC0 := Lib.hid hCd
  clear h hTd hCd
  rw [hwb, hp] at c1 c2 c3
  go_enter Tryz.func11, Tryz.ntmps11
  go_wp2_with (fail)
  rw [← hwb, ← hp]
  rw [← hwb, ← hp] at c1 c2 c3
  clear hwb hp HT HC
  refine wp_region_held_drew (S := fun w' => w'.cell? ⟨p, 2, none⟩ = some (.int .i64 m)) (by kernel_rfl) ?_ (fun hHeld => ?_)
  · exact c2
  refine wpAnyH_take (i := 0) (v := ?_) rfl (by kernel_rfl) (by kernel_rfl) (by kernel_rfl) (fun _ _ _ h => h) (Or.inl ⟨by rfl, fun w hSw => ?_⟩) (by assumption) ?_
  rotate_left
  · (try dsimp only at hSw); go_simp; try with_reducible rfl
  simp only [Act.put, List.setIfInBounds_toArray, List.set_cons_zero, List.set_cons_succ, List.getElem_toArray, List.getElem_cons_zero]
  refine wpAnyH_take (i := 1) (v := ?_) rfl (by kernel_rfl) (by kernel_rfl) (by kernel_rfl) (fun _ _ _ h => h) (Or.inl ⟨by rfl, fun w hSw => ?_⟩) (by assumption) ?_
  rotate_left
  · (try dsimp only at hSw); go_simp; try with_reducible rfl
  simp only [Act.put, List.setIfInBounds_toArray, List.set_cons_zero, List.set_cons_succ, List.getElem_toArray, List.getElem_cons_succ, List.getElem_cons_zero]
  refine wpAnyH_take (i := 2) (v := ?_) rfl (by kernel_rfl) (by kernel_rfl) (by kernel_rfl) (fun _ _ _ h => h) (Or.inl ⟨by rfl, fun w hSw => ?_⟩) (by assumption) ?_
  rotate_left
  · (try dsimp only at hSw); go_simp; try with_reducible rfl
  simp only [Act.put, List.setIfInBounds_toArray, List.set_cons_zero, List.set_cons_succ, List.getElem_toArray, List.getElem_cons_succ, List.getElem_cons_zero]
  refine wpAnyH_take (i := 4) (v := ?_) rfl (by kernel_rfl) (by kernel_rfl) (by kernel_rfl) (fun _ _ _ h => h) (Or.inl ⟨by rfl, fun w hSw => ?_⟩) (by assumption) ?_
  rotate_left
  · (try dsimp only at hSw); go_simp; try with_reducible rfl
  simp only [Act.put, List.setIfInBounds_toArray, List.set_cons_zero, List.set_cons_succ, List.getElem_toArray, List.getElem_cons_succ, List.getElem_cons_zero]
  refine wpAnyH_take (i := 5) (v := ?_) rfl (by kernel_rfl) (by kernel_rfl) (by kernel_rfl) (fun _ _ _ h => h) (Or.inl ⟨by rfl, fun w hSw => ?_⟩) (by assumption) ?_
  rotate_left
  · (try dsimp only at hSw); go_simp; try with_reducible rfl
  simp only [Act.put, List.setIfInBounds_toArray, List.set_cons_zero, List.set_cons_succ, List.getElem_toArray, List.getElem_cons_succ, List.getElem_cons_zero]
  refine wpAnyH_take (i := 6) (v := ?_) rfl (by kernel_rfl) (by kernel_rfl) (by kernel_rfl) (fun _ _ _ h => h) (Or.inl ⟨by rfl, fun w hSw => ?_⟩) (by assumption) ?_
  rotate_left
  · (try dsimp only at hSw); go_simp; try with_reducible rfl
  simp only [Act.put, List.setIfInBounds_toArray, List.set_cons_zero, List.set_cons_succ, List.getElem_toArray, List.getElem_cons_succ, List.getElem_cons_zero]
  refine wpAnyH_ready (rs := [3]) (by kernel_rfl) (by simp) ?_
  refine AllReadyH.cons rfl (fun K hK => ?_) AllReadyH.nil
  simp only [List.getElem_toArray, List.getElem_cons_succ, List.getElem_cons_zero]
  go_simp
  refine (all_bank M L R wb.drew b n B m HT0.out.st.rk HT0.out.st.bk hd hn).mono ?_
  rintro e1 w1 ⟨v1, f1, rfl, ho1, hs1, hb1⟩
  obtain ⟨a1, x1, rfl, hr1, _, _, _⟩ := ho1.rws
  have HT1 := Lib.hid (HT0.out.next hb1)
  have HC1 := Lib.hid (HC0.out.next hb1)
  have HR1 := Lib.hid hr1
  have HS1 := Lib.hid hs1
  clear ho1 hs1 hb1 hr1
  go_wp2_with (fail)
  refine hK.out _ _ HC1.out.c2 (fun hHeld => ?_)
  clear hK K
  refine wpAnyH_ready (rs := [7]) (by kernel_rfl) (by simp) ?_
  refine AllReadyH.cons rfl (fun K hK => ?_) AllReadyH.nil
  simp only [List.getElem_toArray, List.getElem_cons_succ, List.getElem_cons_zero]
  go_simp
  have hrf := rall_bank n m HT1.out.rf HT1.out.rb hd hn
  rw [← HR.out.alL B m B.num] at hrf
  refine hrf.mono ?_
  clear hrf
  rintro e2 w2 ⟨v2, f2, rfl, ho2, hs2, hb2⟩
  obtain ⟨a2, x2, rfl, hr2, _, _, _⟩ := ho2.rws
  have HT2 := Lib.hid (HT1.out.next hb2)
  have HC2 := Lib.hid (HC1.out.next hb2)
  have HR2 := Lib.hid (HR1.out.next hb2)
  have hzz : SameZ f1 f2 (alL B m R B.num).length := fun j hj => (HS1.out j hj).trans (hs2 j hj).symm
  have hln : ∀ j, j < (alL B m R B.num).length → (f2 j).n ≤ 1000000000000 := fun j hj => by
    obtain ⟨_, hpj⟩ := hr2.at hj
    have h1 := ho2.each j hj
    rw [← h1.len, hs2 j hj]
    exact Nat.le_trans (HLEN.out j hj) (by omega)
  have hsm := sameRows_eq a1 a2 (alL B m R B.num).length x1 x2 f1 f2 w2 HR2.out hr2 HN.out hzz hln
  have HSM := Lib.hid hsm
  clear ho2 hs2 hb2 hr2 hzz hln hsm
  go_wp2_with (fail)
  refine hK.out _ _ HC2.out.c2 (fun hHeld => ?_)
  clear hK K
  refine wpAnyH_ready (rs := [8]) (by kernel_rfl) (by simp) ?_
  refine AllReadyH.cons rfl (fun K hK => ?_) AllReadyH.nil
  simp only [List.getElem_toArray, List.getElem_cons_succ, List.getElem_cons_zero]
  go_simp
  refine HSM.out.mono ?_
  clear HSM
  rintro e3 w3 ⟨rfl, hb3⟩
  have HT3 := Lib.hid (HT2.out.next hb3)
  have HC3 := Lib.hid (HC2.out.next hb3)
  clear hb3
  go_wp2_with (fail)
  refine hK.out _ _ HC3.out.c2 (fun hHeld => ?_)
  clear hK K
  refine wpAnyH_take (i := 9) (v := ?_) rfl (by kernel_rfl) (by kernel_rfl) (by kernel_rfl) (fun _ _ _ h => h) (Or.inl ⟨by rfl, fun w hSw => ?_⟩) (by assumption) ?_
  rotate_left
  · (try dsimp only at hSw); go_simp; try with_reducible rfl
  simp only [Act.put, List.setIfInBounds_toArray, List.set_cons_zero, List.set_cons_succ, List.getElem_toArray, List.getElem_cons_succ, List.getElem_cons_zero]
  refine wpAnyH_done (by kernel_rfl) ?_ _
  clear hHeld c1 c2 c3
  go_wp2_with (fail)
  go_ret
  exact ⟨rfl, HT3.out⟩

end

end Go.Proofs.YtoiidhpohghiaaaGreat
