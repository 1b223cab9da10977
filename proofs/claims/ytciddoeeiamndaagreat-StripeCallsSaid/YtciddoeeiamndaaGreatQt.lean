/-
  The law's 'told': each call on both banks.
-/
import Derived.Test.YtciddoeeiamndaaGreatQk
import Derived.Test.YtciddoeeiamndaaGreatSg
namespace Go.Proofs.YtciddoeeiamndaaGreat
open Go.RowKit Go.Maps
set_option linter.unusedVariables false

/-- A call, as a value. -/
abbrev cl7 (q g k s : Int) (ab : Option Addr) (nb cb : Nat) (ad : Option Addr) (nd cd : Nat) (e sl st : Int) : Value := .agg #[.int .i64 q, .int .i64 g, .int .i64 k, .int .i64 s, .slice ab nb cb, .slice ad nd cd, .int .i64 e, .int .i64 sl, .int .i64 st]
/-- Its cells lie in block p. -/
structure Clb7 (w : World) (p : Nat) (q g k s : Int) (ab : Option Addr) (nb cb : Nat) (ad : Option Addr) (nd cd : Nat) (e sl st : Int) : Prop where
  lt : p < w.heap.size
  c0 : w.cell? ⟨p, 0, none⟩ = some (.int .i64 q)
  c1 : w.cell? ⟨p, 1, none⟩ = some (.int .i64 g)
  c2 : w.cell? ⟨p, 2, none⟩ = some (.int .i64 k)
  c3 : w.cell? ⟨p, 3, none⟩ = some (.int .i64 s)
  c4 : w.cell? ⟨p, 4, none⟩ = some (.slice ab nb cb)
  c5 : w.cell? ⟨p, 5, none⟩ = some (.slice ad nd cd)
  c6 : w.cell? ⟨p, 6, none⟩ = some (.int .i64 e)
  c7 : w.cell? ⟨p, 7, none⟩ = some (.int .i64 sl)
  c8 : w.cell? ⟨p, 8, none⟩ = some (.int .i64 st)
section
variable {w0 w w' : World} {M : Nat → Prop} {L : Lay} {K : RLay} {b y n : Nat} {R : Rk} {F : Rf} {B : Bn} {q g k s e sl st : Int} {ab ad : Option Addr} {nb cb nd cd p : Nat} {fb : Nat → BlP} {zd : List Int}
theorem Clb7.next (h : Clb7 w p q g k s ab nb cb ad nd cd e sl st) (hb : Below w.heap.size w w') : Clb7 w' p q g k s ab nb cb ad nd cd e sl st :=
  have g := fun j => hb.cell (p := ⟨p, j, none⟩) h.lt
  ⟨Nat.lt_of_lt_of_le h.lt hb.size, (g 0).trans h.c0, (g 1).trans h.c1, (g 2).trans h.c2, (g 3).trans h.c3, (g 4).trans h.c4, (g 5).trans h.c5, (g 6).trans h.c6, (g 7).trans h.c7, (g 8).trans h.c8⟩
theorem Clb7.turn {N : Nat → Prop} (h : Clb7 w p q g k s ab nb cb ad nd cd e sl st) (ht : Turn N w w') (hn : ¬ N p) : Clb7 w' p q g k s ab nb cb ad nd cd e sl st :=
  have g := fun j => ht.cell (a := ⟨p, j, none⟩) h.lt hn
  ⟨Nat.lt_of_lt_of_le h.lt ht.size, (g 0).trans h.c0, (g 1).trans h.c1, (g 2).trans h.c2, (g 3).trans h.c3, (g 4).trans h.c4, (g 5).trans h.c5, (g 6).trans h.c6, (g 7).trans h.c7, (g 8).trans h.c8⟩
/-- The beginning: the call's box. -/
theorem Two.box7 (h : Two w0 M L K b y R F B w) (q g k s : Int) (ab : Option Addr) (nb cb : Nat) (ad : Option Addr) (nd cd : Nat) (e sl st : Int) : ∃ wb p, wb = w.alloc (.cells #[.int .i64 q, .int .i64 g, .int .i64 k, .int .i64 s, .slice ab nb cb, .slice ad nd cd, .int .i64 e, .int .i64 sl, .int .i64 st] 51) ∧ p = w.heap.size ∧ Hid (Two w0 M L K b y R F B wb) ∧ Hid (Clb7 wb p q g k s ab nb cb ad nd cd e sl st) ∧ Hid (¬ M p) := by
  have hb : Below w.heap.size w (w.alloc (.cells #[.int .i64 q, .int .i64 g, .int .i64 k, .int .i64 s, .slice ab nb cb, .slice ad nd cd, .int .i64 e, .int .i64 sl, .int .i64 st] 51)) := (Below.refl _ _).alloc (Nat.le_refl _) _
  refine ⟨_, _, rfl, rfl, h.next hb, ⟨by simp, ?_, ?_, ?_, ?_, ?_, ?_, ?_, ?_, ?_⟩, fun x => Nat.lt_irrefl _ (h.st.rk.low _ x)⟩ <;> simp
theorem Two.join1 {B' : Bn} (h : Two w0 M L K b y R F B w) (hs : St w0 M L b R B' w') (ht : Turn (· = b) w w') : Mid w0 M L K b y R F B' B w' :=
  ⟨hs, h.rf.keep ht (fun k x => x ▸ h.st.mb) (fun k hk x => h.kb (x ▸ hk)), h.rb.turn ht (fun x => h.by' x.symm), h.my, h.ny, h.kb, h.ky, h.ne, h.by'⟩
theorem Mid.join2 {C : Bn} (h : Mid w0 M L K b y R F B C w) (hb : RbAt w' y K.p B) (ht : Turn (· = y) w w') (hr : Rel R F) : Two w0 M L K b y R F B w' :=
  ⟨⟨h.st.rk.keep ht (fun k x => x ▸ h.my) (fun k hk x => h.ny (x ▸ hk)), h.st.bk.turn ht (fun x => h.by' x), h.st.mb, h.st.nb, h.st.lo, h.st.bel.trans (ht.below h.st.bel.size (fun k x => x ▸ h.st.lo y h.my))⟩,
    h.rf.keep ht (fun k x => x ▸ h.my) (fun k hk x => h.ky (x ▸ hk)), hb, h.my, h.ny, h.kb, h.ky, h.ne, h.by', hr⟩
theorem decL_le (z : List Int) : (decL z).length ≤ 56 := by
  unfold decL
  split
  · rename_i h
    unfold decO at h
    rw [List.length_drop, of_decide_eq_true h]
    omega
  · exact Nat.zero_le _
theorem join_sml (h : Sml B) (e sl st : Int) : Sml (B.join e sl st) := by
  unfold Bn.join
  split
  · exact ⟨h.d, h.r, h.s⟩
  · exact h
/-- What a call leaves. -/
def ToldQ (w0 : World) (M : Nat → Prop) (L : Lay) (K : RLay) (b y : Nat) (en : Ending) (w' : World) : Prop := en = .returned (.bool true) ∧ ∃ R F B, Two w0 M L K b y R F B w' ∧ Sml B ∧ R.n = 4 ∧ R.S = 41
theorem rq_bwrite (i k : Int) (a : Option Addr) (m c : Nat) (zs : List Int) (hr : RefAt w M K F) (hb : RbAt w y K.p B) (hbM : ¬ K.M y) (hrel : Rel R F) (hz : Bys w a m zs) (hzM : m = 0 ∨ ∀ b off, a = some ⟨b, off, none⟩ → ¬ M b) :
    Calls Tryz.prog 41 #[.pointer (some ⟨y, 0, none⟩), .int .i64 i, .int .i64 k, .slice a m c] w (RqPost M K (bw B R i k zs) w (.int .i64 (bwE B R i k zs))) :=
  (rbwrite_any i k a m c zs hr hb hbM hz hzM).mono fun _ _ h => ⟨_, by rw [hrel.bwE]; exact h, hrel.bw B i k zs⟩
theorem rq_doom (i m : Int) (hr : RefAt w M K F) (hrel : Rel R F) (hm : m ≤ 9223372036854775807) :
    Calls Tryz.prog 44 #[.pointer (some ⟨K.p, 0, none⟩), .int .i64 i, .int .i64 m] w (RqPost M K (R.doom i m) w (.int .i64 (R.dkE i))) :=
  (rdoom_all i m hr hm).mono fun _ _ h => ⟨_, by rw [hrel.dkE]; exact h, hrel.dm i m⟩
theorem Rk.wr_S (R : Rk) (i s : Int) (zs : List Int) : (R.wr i s zs).S = R.S := by
  unfold Rk.wr
  split
  · split
    · exact R.call_S
    · exact R.call_S
  · rfl
theorem bw_S' (B : Bn) (R : Rk) (i k : Int) (zs : List Int) : (bw B R i k zs).S = R.S := by
  unfold bw
  split
  · exact R.wr_S _ _ _
  · rfl
theorem wrC_S (B : Bn) (D : Nat → Int) (z : Int) (F : Nat → List Int) (R : Rk) (c : Nat) : (wrC B D z F R c).2.S = R.S := by
  induction c with
  | zero => rfl
  | succ c ih =>
    rw [wrC]
    split
    · exact ih
    · rw [bw_S']; exact ih
theorem wrG_S (B : Bn) (n : Nat) (g q : Int) (fb : Nat → BlP) (nb : Nat) (R : Rk) (a : Nat) : (wrG B n g q fb nb R a).2.S = R.S := by
  induction a with
  | zero => rfl
  | succ a ih =>
    rw [wrG]
    split
    · exact ih
    · rw [wrC_S]; exact ih
theorem wrR_S (B : Bn) (R : Rk) (n m : Nat) (g q : Int) (fb : Nat → BlP) (nb : Nat) : (wrR B R n m g q fb nb).S = R.S := by
  unfold wrR
  split
  · rfl
  · split
    · rfl
    · split
      · rfl
      · exact wrG_S ..
theorem rfG_S (B : Bn) (R : Rk) (n : Nat) (g q : Int) (i a : Nat) : (rfG B R n g q i a).2.S = R.S := by
  induction a with
  | zero => rfl
  | succ a ih =>
    unfold rfG
    dsimp only
    split
    · exact ih
    · split
      · rw [bw_S']; exact ih
      · exact ih
theorem rfR_S (B : Bn) (R : Rk) (n m : Nat) (g q i : Int) : (rfR B R n m g q i).S = R.S := by
  unfold rfR
  split
  · exact rfG_S ..
  · rfl

set_option maxRecDepth 100000 in
set_option maxHeartbeats 4000000 in
theorem told_write (h : Two w0 M L K b y R F B w) (hS : Sml B) (hRn : R.n = 4) (hRS : R.S = 41) (hbl : Bls w0 ab nb fb) (hbig : BlBig nb fb) (hnb : nb ≤ 1000000000000) :
    Calls Tryz.prog 12 #[.pointer (some ⟨L.p, 0, none⟩), .pointer (some ⟨b, 0, none⟩), .pointer (some ⟨K.p, 0, none⟩), .pointer (some ⟨y, 0, none⟩), cl7 0 g k s ab nb cb ad nd cd e sl st] w (ToldQ w0 M L K b y) := by
  obtain ⟨wb, p, hwb, hp, HT, HC, HP⟩ := h.box7 0 g k s ab nb cb ad nd cd e sl st
  have HR := Lib.hid h.rel
  have HSM := Lib.hid hS
  have HN4 := Lib.hid hRn
  have HS41 := Lib.hid hRS
  have HBL := Lib.hid hbl
  have HBIG := Lib.hid hbig
  have HNB := Lib.hid hnb
  clear hbl hbig hnb
  clear h hS hRn hRS
  have c1 := HC.out.c1
  have c3 := HC.out.c3
  have c4 := HC.out.c4
  have HT0 := Lib.hid HT.out.drew
  have hCd := HC.out.next (below_drewN (Below.refl _ wb) 1)
  change Clb7 wb.drew _ _ _ _ _ _ _ _ _ _ _ _ _ _ at hCd
  have HC0 := Lib.hid hCd
  clear hCd
  rw [hwb, hp] at c1 c3 c4
  go_enter Tryz.func12, Tryz.ntmps12
  go_wp2_with (fail)
  rw [← hwb, ← hp]
  rw [← hwb, ← hp] at c1 c3 c4
  clear hwb hp HT HC
  refine wp_region_held_drew (S := fun w' => w'.cell? ⟨p, 1, none⟩ = some (.int .i64 g) ∧ w'.cell? ⟨p, 3, none⟩ = some (.int .i64 s) ∧ w'.cell? ⟨p, 4, none⟩ = some (.slice ab nb cb)) (by kernel_rfl) ?_ (fun hHeld => ?_)
  · exact ⟨c1, c3, c4⟩
  refine wpAnyH_take (i := 0) (v := ?_) rfl (by kernel_rfl) (by kernel_rfl) (by kernel_rfl) (fun _ _ _ h => h) (Or.inl ⟨by rfl, fun w hSw => ?_⟩) (by assumption) ?_
  rotate_left
  · (try dsimp only at hSw); go_simp; try with_reducible rfl
  simp only [Act.put, List.setIfInBounds_toArray, List.set_cons_zero, List.set_cons_succ, List.getElem_toArray, List.getElem_cons_zero]
  refine wpAnyH_take (i := 1) (v := ?_) rfl (by kernel_rfl) (by kernel_rfl) (by kernel_rfl) (fun _ _ _ h => h) (Or.inl ⟨by rfl, fun w hSw => ?_⟩) (by assumption) ?_
  rotate_left
  · (try dsimp only at hSw); go_simp; try with_reducible rfl
  simp only [Act.put, List.setIfInBounds_toArray, List.set_cons_zero, List.set_cons_succ, List.getElem_toArray, List.getElem_cons_succ, List.getElem_cons_zero]
  refine wpAnyH_take (i := 2) (v := ?_) rfl (by kernel_rfl) (by kernel_rfl) (by kernel_rfl) (fun _ _ _ h => h) (Or.inl ⟨by rfl, fun w hSw => ?_⟩) (by assumption) ?_
  rotate_left
  · (try dsimp only at hSw); go_simp; try with_reducible rfl
  simp only [Act.put, List.setIfInBounds_toArray, List.set_cons_zero, List.set_cons_succ, List.getElem_toArray, List.getElem_cons_succ, List.getElem_cons_zero]
  refine wpAnyH_take (i := 3) (v := ?_) rfl (by kernel_rfl) (by kernel_rfl) (by kernel_rfl) (fun _ _ _ h => h) (Or.inl ⟨by rfl, fun w hSw => ?_⟩) (by assumption) ?_
  rotate_left
  · (try dsimp only at hSw); go_simp; try with_reducible rfl
  simp only [Act.put, List.setIfInBounds_toArray, List.set_cons_zero, List.set_cons_succ, List.getElem_toArray, List.getElem_cons_succ, List.getElem_cons_zero]
  refine wpAnyH_take (i := 4) (v := ?_) rfl (by kernel_rfl) (by kernel_rfl) (by kernel_rfl) (fun _ _ _ h => h) (Or.inl ⟨by rfl, fun w hSw => ?_⟩) (by assumption) ?_
  rotate_left
  · (try dsimp only at hSw); go_simp; try with_reducible rfl
  simp only [Act.put, List.setIfInBounds_toArray, List.set_cons_zero, List.set_cons_succ, List.getElem_toArray, List.getElem_cons_succ, List.getElem_cons_zero]
  refine wpAnyH_take (i := 5) (v := ?_) rfl (by kernel_rfl) (by kernel_rfl) (by kernel_rfl) (fun _ _ _ h => h) (Or.inl ⟨by rfl, fun w hSw => ?_⟩) (by assumption) ?_
  rotate_left
  · (try dsimp only at hSw); go_simp; try with_reducible rfl
  simp only [Act.put, List.setIfInBounds_toArray, List.set_cons_zero, List.set_cons_succ, List.getElem_toArray, List.getElem_cons_succ, List.getElem_cons_zero]
  refine wpAnyH_take (i := 6) (v := ?_) rfl (by kernel_rfl) (by kernel_rfl) (by kernel_rfl) (fun _ _ _ h => h) (Or.inl ⟨by rfl, fun w hSw => ?_⟩) (by assumption) ?_
  rotate_left
  · (try dsimp only at hSw); go_simp; try with_reducible rfl
  simp only [Act.put, List.setIfInBounds_toArray, List.set_cons_zero, List.set_cons_succ, List.getElem_toArray, List.getElem_cons_succ, List.getElem_cons_zero]
  refine wpAnyH_take (i := 8) (v := ?_) rfl (by kernel_rfl) (by kernel_rfl) (by kernel_rfl) (fun _ _ _ h => h) (Or.inl ⟨by rfl, fun w hSw => ?_⟩) (by assumption) ?_
  rotate_left
  · (try dsimp only at hSw); go_simp; try with_reducible rfl
  simp only [Act.put, List.setIfInBounds_toArray, List.set_cons_zero, List.set_cons_succ, List.getElem_toArray, List.getElem_cons_succ, List.getElem_cons_zero]
  refine wpAnyH_take (i := 9) (v := ?_) rfl (by kernel_rfl) (by kernel_rfl) (by kernel_rfl) (fun _ _ _ h => h) (Or.inl ⟨by rfl, fun w hSw => ?_⟩) (by assumption) ?_
  rotate_left
  · (try dsimp only at hSw); go_simp; try with_reducible rfl
  simp only [Act.put, List.setIfInBounds_toArray, List.set_cons_zero, List.set_cons_succ, List.getElem_toArray, List.getElem_cons_succ, List.getElem_cons_zero]
  refine wpAnyH_take (i := 10) (v := ?_) rfl (by kernel_rfl) (by kernel_rfl) (by kernel_rfl) (fun _ _ _ h => h) (Or.inl ⟨by rfl, fun w hSw => ?_⟩) (by assumption) ?_
  rotate_left
  · (try dsimp only at hSw); go_simp; try with_reducible rfl
  simp only [Act.put, List.setIfInBounds_toArray, List.set_cons_zero, List.set_cons_succ, List.getElem_toArray, List.getElem_cons_succ, List.getElem_cons_zero]
  refine wpAnyH_take (i := 11) (v := ?_) rfl (by kernel_rfl) (by kernel_rfl) (by kernel_rfl) (fun _ _ _ h => h) (Or.inl ⟨by rfl, fun w hSw => ?_⟩) (by assumption) ?_
  rotate_left
  · (try dsimp only at hSw); go_simp; try with_reducible rfl
  simp only [Act.put, List.setIfInBounds_toArray, List.set_cons_zero, List.set_cons_succ, List.getElem_toArray, List.getElem_cons_succ, List.getElem_cons_zero]
  refine wpAnyH_take (i := 12) (v := ?_) rfl (by kernel_rfl) (by kernel_rfl) (by kernel_rfl) (fun _ _ _ h => h) (Or.inl ⟨by rfl, fun w hSw => ?_⟩) (by assumption) ?_
  rotate_left
  · (try dsimp only at hSw); go_simp; try with_reducible rfl
  simp only [Act.put, List.setIfInBounds_toArray, List.set_cons_zero, List.set_cons_succ, List.getElem_toArray, List.getElem_cons_succ, List.getElem_cons_zero]
  refine wpAnyH_take (i := 13) (v := ?_) rfl (by kernel_rfl) (by kernel_rfl) (by kernel_rfl) (fun _ _ _ h => h) (Or.inl ⟨by rfl, fun w hSw => ?_⟩) (by assumption) ?_
  rotate_left
  · (try dsimp only at hSw); go_simp; try with_reducible rfl
  simp only [Act.put, List.setIfInBounds_toArray, List.set_cons_zero, List.set_cons_succ, List.getElem_toArray, List.getElem_cons_succ, List.getElem_cons_zero]
  refine wpAnyH_take (i := 14) (v := ?_) rfl (by kernel_rfl) (by kernel_rfl) (by kernel_rfl) (fun _ _ _ h => h) (Or.inl ⟨by rfl, fun w hSw => ?_⟩) (by assumption) ?_
  rotate_left
  · (try dsimp only at hSw); go_simp; try with_reducible rfl
  simp only [Act.put, List.setIfInBounds_toArray, List.set_cons_zero, List.set_cons_succ, List.getElem_toArray, List.getElem_cons_succ, List.getElem_cons_zero]
  refine wpAnyH_ready (rs := [7]) (by kernel_rfl) (by simp) ?_
  refine AllReadyH.cons rfl (fun K hK => ?_) AllReadyH.nil
  simp only [List.getElem_toArray, List.getElem_cons_succ, List.getElem_cons_zero]
  go_simp
  refine (st_write HSM.out g s ab nb cb fb HT0.out.st (HBL.out.next HT0.out.st.bel) (by have := HNB.out; omega)).mono ?_
  rintro e1 w1 hpo
  obtain ⟨rfl, hm1, ht1⟩ := HT0.out.prog (wrR_n B R 3 3 g s fb nb) hpo
  have hns : ∀ k, L.M R.n k → M k := HT0.out.st.rk.sub
  have HC1 := Lib.hid (HC0.out.turn ht1 (fun x => HP.out (hns _ x)))
  have HM1 := Lib.hid hm1
  clear hpo hm1 ht1 hns
  go_wp2_with (fail)
  refine hK.out _ _ ⟨HC1.out.c1, HC1.out.c3, HC1.out.c4⟩ (fun hHeld => ?_)
  clear hK K
  refine wpAnyH_ready (rs := [15]) (by kernel_rfl) (by simp) ?_
  refine AllReadyH.cons rfl (fun K hK => ?_) AllReadyH.nil
  simp only [List.getElem_toArray, List.getElem_cons_succ, List.getElem_cons_zero]
  go_simp
  have hrf := write_ref g s ab nb cb fb HM1.out.rf HM1.out.rb HM1.out.ky HR.out HSM.out (HBL.out.next HM1.out.st.bel) HBIG.out HNB.out
  refine hrf.mono ?_
  clear hrf
  rintro e2 w2 ⟨F', hpo, hrl⟩
  have HC2 := Lib.hid (HC1.out.turn hpo.2.2 (fun x => HP.out (HM1.out.rf.sub _ x)))
  obtain ⟨rfl, ht2⟩ := HM1.out.ref hpo hrl
  have HT2 := Lib.hid ht2
  clear hpo ht2 hrl
  go_wp2_with (fail)
  refine hK.out _ _ ⟨HC2.out.c1, HC2.out.c3, HC2.out.c4⟩ (fun hHeld => ?_)
  clear hK K
  refine wpAnyH_take (i := 16) (v := ?_) rfl (by kernel_rfl) (by kernel_rfl) (by kernel_rfl) (fun _ _ _ h => h) (Or.inl ⟨by rfl, fun w hSw => ?_⟩) (by assumption) ?_
  rotate_left
  · (try dsimp only at hSw); go_simp; try with_reducible rfl
  simp only [Act.put, List.setIfInBounds_toArray, List.set_cons_zero, List.set_cons_succ, List.getElem_toArray, List.getElem_cons_succ, List.getElem_cons_zero]
  refine wpAnyH_take (i := 17) (v := ?_) rfl (by kernel_rfl) (by kernel_rfl) (by kernel_rfl) (fun _ _ _ h => h) (Or.inl ⟨by rfl, fun w hSw => ?_⟩) (by assumption) ?_
  rotate_left
  · (try dsimp only at hSw); go_simp; try with_reducible rfl
  simp only [Act.put, List.setIfInBounds_toArray, List.set_cons_zero, List.set_cons_succ, List.getElem_toArray, List.getElem_cons_succ, List.getElem_cons_zero]
  refine wpAnyH_done (by kernel_rfl) ?_ _
  clear hHeld c1 c3 c4
  go_wp2_with (fail)
  go_ret
  exact ⟨rfl, _, _, _, HT2.out, HSM.out, by rw [wrR_n]; exact HN4.out, by rw [wrR_S]; exact HS41.out⟩

set_option maxRecDepth 100000 in
set_option maxHeartbeats 4000000 in
theorem told_refill (h : Two w0 M L K b y R F B w) (hS : Sml B) (hRn : R.n = 4) (hRS : R.S = 41) :
    Calls Tryz.prog 12 #[.pointer (some ⟨L.p, 0, none⟩), .pointer (some ⟨b, 0, none⟩), .pointer (some ⟨K.p, 0, none⟩), .pointer (some ⟨y, 0, none⟩), cl7 4 g k s ab nb cb ad nd cd e sl st] w (ToldQ w0 M L K b y) := by
  obtain ⟨wb, p, hwb, hp, HT, HC, HP⟩ := h.box7 4 g k s ab nb cb ad nd cd e sl st
  have HR := Lib.hid h.rel
  have HSM := Lib.hid hS
  have HN4 := Lib.hid hRn
  have HS41 := Lib.hid hRS
  clear h hS hRn hRS
  have c1 := HC.out.c1
  have c2 := HC.out.c2
  have c3 := HC.out.c3
  have HT0 := Lib.hid HT.out.drew
  have hCd := HC.out.next (below_drewN (Below.refl _ wb) 1)
  change Clb7 wb.drew _ _ _ _ _ _ _ _ _ _ _ _ _ _ at hCd
  have HC0 := Lib.hid hCd
  clear hCd
  rw [hwb, hp] at c1 c2 c3
  go_enter Tryz.func12, Tryz.ntmps12
  go_wp2_with (fail)
  rw [← hwb, ← hp]
  rw [← hwb, ← hp] at c1 c2 c3
  clear hwb hp HT HC
  refine wp_region_held_drew (S := fun w' => w'.cell? ⟨p, 1, none⟩ = some (.int .i64 g) ∧ w'.cell? ⟨p, 2, none⟩ = some (.int .i64 k) ∧ w'.cell? ⟨p, 3, none⟩ = some (.int .i64 s)) (by kernel_rfl) ?_ (fun hHeld => ?_)
  · exact ⟨c1, c2, c3⟩
  refine wpAnyH_take (i := 0) (v := ?_) rfl (by kernel_rfl) (by kernel_rfl) (by kernel_rfl) (fun _ _ _ h => h) (Or.inl ⟨by rfl, fun w hSw => ?_⟩) (by assumption) ?_
  rotate_left
  · (try dsimp only at hSw); go_simp; try with_reducible rfl
  simp only [Act.put, List.setIfInBounds_toArray, List.set_cons_zero, List.set_cons_succ, List.getElem_toArray, List.getElem_cons_zero]
  refine wpAnyH_take (i := 1) (v := ?_) rfl (by kernel_rfl) (by kernel_rfl) (by kernel_rfl) (fun _ _ _ h => h) (Or.inl ⟨by rfl, fun w hSw => ?_⟩) (by assumption) ?_
  rotate_left
  · (try dsimp only at hSw); go_simp; try with_reducible rfl
  simp only [Act.put, List.setIfInBounds_toArray, List.set_cons_zero, List.set_cons_succ, List.getElem_toArray, List.getElem_cons_succ, List.getElem_cons_zero]
  refine wpAnyH_take (i := 2) (v := ?_) rfl (by kernel_rfl) (by kernel_rfl) (by kernel_rfl) (fun _ _ _ h => h) (Or.inl ⟨by rfl, fun w hSw => ?_⟩) (by assumption) ?_
  rotate_left
  · (try dsimp only at hSw); go_simp; try with_reducible rfl
  simp only [Act.put, List.setIfInBounds_toArray, List.set_cons_zero, List.set_cons_succ, List.getElem_toArray, List.getElem_cons_succ, List.getElem_cons_zero]
  refine wpAnyH_take (i := 3) (v := ?_) rfl (by kernel_rfl) (by kernel_rfl) (by kernel_rfl) (fun _ _ _ h => h) (Or.inl ⟨by rfl, fun w hSw => ?_⟩) (by assumption) ?_
  rotate_left
  · (try dsimp only at hSw); go_simp; try with_reducible rfl
  simp only [Act.put, List.setIfInBounds_toArray, List.set_cons_zero, List.set_cons_succ, List.getElem_toArray, List.getElem_cons_succ, List.getElem_cons_zero]
  refine wpAnyH_take (i := 4) (v := ?_) rfl (by kernel_rfl) (by kernel_rfl) (by kernel_rfl) (fun _ _ _ h => h) (Or.inl ⟨by rfl, fun w hSw => ?_⟩) (by assumption) ?_
  rotate_left
  · (try dsimp only at hSw); go_simp; try with_reducible rfl
  simp only [Act.put, List.setIfInBounds_toArray, List.set_cons_zero, List.set_cons_succ, List.getElem_toArray, List.getElem_cons_succ, List.getElem_cons_zero]
  refine wpAnyH_take (i := 5) (v := ?_) rfl (by kernel_rfl) (by kernel_rfl) (by kernel_rfl) (fun _ _ _ h => h) (Or.inl ⟨by rfl, fun w hSw => ?_⟩) (by assumption) ?_
  rotate_left
  · (try dsimp only at hSw); go_simp; try with_reducible rfl
  simp only [Act.put, List.setIfInBounds_toArray, List.set_cons_zero, List.set_cons_succ, List.getElem_toArray, List.getElem_cons_succ, List.getElem_cons_zero]
  refine wpAnyH_take (i := 6) (v := ?_) rfl (by kernel_rfl) (by kernel_rfl) (by kernel_rfl) (fun _ _ _ h => h) (Or.inl ⟨by rfl, fun w hSw => ?_⟩) (by assumption) ?_
  rotate_left
  · (try dsimp only at hSw); go_simp; try with_reducible rfl
  simp only [Act.put, List.setIfInBounds_toArray, List.set_cons_zero, List.set_cons_succ, List.getElem_toArray, List.getElem_cons_succ, List.getElem_cons_zero]
  refine wpAnyH_take (i := 8) (v := ?_) rfl (by kernel_rfl) (by kernel_rfl) (by kernel_rfl) (fun _ _ _ h => h) (Or.inl ⟨by rfl, fun w hSw => ?_⟩) (by assumption) ?_
  rotate_left
  · (try dsimp only at hSw); go_simp; try with_reducible rfl
  simp only [Act.put, List.setIfInBounds_toArray, List.set_cons_zero, List.set_cons_succ, List.getElem_toArray, List.getElem_cons_succ, List.getElem_cons_zero]
  refine wpAnyH_take (i := 9) (v := ?_) rfl (by kernel_rfl) (by kernel_rfl) (by kernel_rfl) (fun _ _ _ h => h) (Or.inl ⟨by rfl, fun w hSw => ?_⟩) (by assumption) ?_
  rotate_left
  · (try dsimp only at hSw); go_simp; try with_reducible rfl
  simp only [Act.put, List.setIfInBounds_toArray, List.set_cons_zero, List.set_cons_succ, List.getElem_toArray, List.getElem_cons_succ, List.getElem_cons_zero]
  refine wpAnyH_take (i := 10) (v := ?_) rfl (by kernel_rfl) (by kernel_rfl) (by kernel_rfl) (fun _ _ _ h => h) (Or.inl ⟨by rfl, fun w hSw => ?_⟩) (by assumption) ?_
  rotate_left
  · (try dsimp only at hSw); go_simp; try with_reducible rfl
  simp only [Act.put, List.setIfInBounds_toArray, List.set_cons_zero, List.set_cons_succ, List.getElem_toArray, List.getElem_cons_succ, List.getElem_cons_zero]
  refine wpAnyH_take (i := 11) (v := ?_) rfl (by kernel_rfl) (by kernel_rfl) (by kernel_rfl) (fun _ _ _ h => h) (Or.inl ⟨by rfl, fun w hSw => ?_⟩) (by assumption) ?_
  rotate_left
  · (try dsimp only at hSw); go_simp; try with_reducible rfl
  simp only [Act.put, List.setIfInBounds_toArray, List.set_cons_zero, List.set_cons_succ, List.getElem_toArray, List.getElem_cons_succ, List.getElem_cons_zero]
  refine wpAnyH_take (i := 12) (v := ?_) rfl (by kernel_rfl) (by kernel_rfl) (by kernel_rfl) (fun _ _ _ h => h) (Or.inl ⟨by rfl, fun w hSw => ?_⟩) (by assumption) ?_
  rotate_left
  · (try dsimp only at hSw); go_simp; try with_reducible rfl
  simp only [Act.put, List.setIfInBounds_toArray, List.set_cons_zero, List.set_cons_succ, List.getElem_toArray, List.getElem_cons_succ, List.getElem_cons_zero]
  refine wpAnyH_take (i := 13) (v := ?_) rfl (by kernel_rfl) (by kernel_rfl) (by kernel_rfl) (fun _ _ _ h => h) (Or.inl ⟨by rfl, fun w hSw => ?_⟩) (by assumption) ?_
  rotate_left
  · (try dsimp only at hSw); go_simp; try with_reducible rfl
  simp only [Act.put, List.setIfInBounds_toArray, List.set_cons_zero, List.set_cons_succ, List.getElem_toArray, List.getElem_cons_succ, List.getElem_cons_zero]
  refine wpAnyH_take (i := 14) (v := ?_) rfl (by kernel_rfl) (by kernel_rfl) (by kernel_rfl) (fun _ _ _ h => h) (Or.inl ⟨by rfl, fun w hSw => ?_⟩) (by assumption) ?_
  rotate_left
  · (try dsimp only at hSw); go_simp; try with_reducible rfl
  simp only [Act.put, List.setIfInBounds_toArray, List.set_cons_zero, List.set_cons_succ, List.getElem_toArray, List.getElem_cons_succ, List.getElem_cons_zero]
  refine wpAnyH_ready (rs := [7]) (by kernel_rfl) (by simp) ?_
  refine AllReadyH.cons rfl (fun K hK => ?_) AllReadyH.nil
  simp only [List.getElem_toArray, List.getElem_cons_succ, List.getElem_cons_zero]
  go_simp
  refine (st_refill HSM.out g k s HT0.out.st).mono ?_
  rintro e1 w1 hpo
  obtain ⟨rfl, hm1, ht1⟩ := HT0.out.prog (rfR_n B R 3 3 g s k) hpo
  have hns : ∀ k, L.M R.n k → M k := HT0.out.st.rk.sub
  have HC1 := Lib.hid (HC0.out.turn ht1 (fun x => HP.out (hns _ x)))
  have HM1 := Lib.hid hm1
  clear hpo hm1 ht1 hns
  go_wp2_with (fail)
  refine hK.out _ _ ⟨HC1.out.c1, HC1.out.c2, HC1.out.c3⟩ (fun hHeld => ?_)
  clear hK K
  refine wpAnyH_ready (rs := [15]) (by kernel_rfl) (by simp) ?_
  refine AllReadyH.cons rfl (fun K hK => ?_) AllReadyH.nil
  simp only [List.getElem_toArray, List.getElem_cons_succ, List.getElem_cons_zero]
  go_simp
  have hrf := refill_ref g k s HM1.out.rf HM1.out.rb HM1.out.ky HR.out HSM.out
  refine hrf.mono ?_
  clear hrf
  rintro e2 w2 ⟨F', hpo, hrl⟩
  have HC2 := Lib.hid (HC1.out.turn hpo.2.2 (fun x => HP.out (HM1.out.rf.sub _ x)))
  obtain ⟨rfl, ht2⟩ := HM1.out.ref hpo hrl
  have HT2 := Lib.hid ht2
  clear hpo ht2 hrl
  go_wp2_with (fail)
  refine hK.out _ _ ⟨HC2.out.c1, HC2.out.c2, HC2.out.c3⟩ (fun hHeld => ?_)
  clear hK K
  refine wpAnyH_take (i := 16) (v := ?_) rfl (by kernel_rfl) (by kernel_rfl) (by kernel_rfl) (fun _ _ _ h => h) (Or.inl ⟨by rfl, fun w hSw => ?_⟩) (by assumption) ?_
  rotate_left
  · (try dsimp only at hSw); go_simp; try with_reducible rfl
  simp only [Act.put, List.setIfInBounds_toArray, List.set_cons_zero, List.set_cons_succ, List.getElem_toArray, List.getElem_cons_succ, List.getElem_cons_zero]
  refine wpAnyH_take (i := 17) (v := ?_) rfl (by kernel_rfl) (by kernel_rfl) (by kernel_rfl) (fun _ _ _ h => h) (Or.inl ⟨by rfl, fun w hSw => ?_⟩) (by assumption) ?_
  rotate_left
  · (try dsimp only at hSw); go_simp; try with_reducible rfl
  simp only [Act.put, List.setIfInBounds_toArray, List.set_cons_zero, List.set_cons_succ, List.getElem_toArray, List.getElem_cons_succ, List.getElem_cons_zero]
  refine wpAnyH_done (by kernel_rfl) ?_ _
  clear hHeld c1 c2 c3
  go_wp2_with (fail)
  go_ret
  exact ⟨rfl, _, _, _, HT2.out, HSM.out, by rw [rfR_n]; exact HN4.out, by rw [rfR_S]; exact HS41.out⟩

set_option maxRecDepth 100000 in
set_option maxHeartbeats 4000000 in
theorem told_data (h : Two w0 M L K b y R F B w) (hS : Sml B) (hRn : R.n = 4) (hRS : R.S = 41) (hz : Pin w0 ad nd cd zd) :
    Calls Tryz.prog 12 #[.pointer (some ⟨L.p, 0, none⟩), .pointer (some ⟨b, 0, none⟩), .pointer (some ⟨K.p, 0, none⟩), .pointer (some ⟨y, 0, none⟩), cl7 6 g k s ab nb cb ad nd cd e sl st] w (ToldQ w0 M L K b y) := by
  obtain ⟨wb, p, hwb, hp, HT, HC, HP⟩ := h.box7 6 g k s ab nb cb ad nd cd e sl st
  have HR := Lib.hid h.rel
  have HSM := Lib.hid hS
  have HN4 := Lib.hid hRn
  have HS41 := Lib.hid hRS
  have HZ := Lib.hid hz
  have HZM : Hid (∀ w', Two w0 M L K b y R F B w' → nd = 0 ∨ ∀ bb off, ad = some ⟨bb, off, none⟩ → ¬ M bb) := fun w' h' => by
    rcases hz.bys.place with h0 | ⟨b2, off2, e2, hl2, _⟩
    · exact .inl h0
    · exact .inr fun b' off' e' x => by
        rw [e2] at e'
        cases e'
        have := h'.st.lo _ x
        omega
  have hzm0 := HZM.out _ h
  have HZ0 := Lib.hid hzm0
  clear hz hzm0 HZM
  clear h hS hRn hRS
  have c1 := HC.out.c1
  have c2 := HC.out.c2
  have c5 := HC.out.c5
  have HT0 := Lib.hid HT.out.drew
  have hCd := HC.out.next (below_drewN (Below.refl _ wb) 1)
  change Clb7 wb.drew _ _ _ _ _ _ _ _ _ _ _ _ _ _ at hCd
  have HC0 := Lib.hid hCd
  clear hCd
  rw [hwb, hp] at c1 c2 c5
  go_enter Tryz.func12, Tryz.ntmps12
  go_wp2_with (fail)
  rw [← hwb, ← hp]
  rw [← hwb, ← hp] at c1 c2 c5
  clear hwb hp HT HC
  refine wp_region_held_drew (S := fun w' => w'.cell? ⟨p, 1, none⟩ = some (.int .i64 g) ∧ w'.cell? ⟨p, 2, none⟩ = some (.int .i64 k) ∧ w'.cell? ⟨p, 5, none⟩ = some (.slice ad nd cd)) (by kernel_rfl) ?_ (fun hHeld => ?_)
  · exact ⟨c1, c2, c5⟩
  refine wpAnyH_take (i := 0) (v := ?_) rfl (by kernel_rfl) (by kernel_rfl) (by kernel_rfl) (fun _ _ _ h => h) (Or.inl ⟨by rfl, fun w hSw => ?_⟩) (by assumption) ?_
  rotate_left
  · (try dsimp only at hSw); go_simp; try with_reducible rfl
  simp only [Act.put, List.setIfInBounds_toArray, List.set_cons_zero, List.set_cons_succ, List.getElem_toArray, List.getElem_cons_zero]
  refine wpAnyH_take (i := 1) (v := ?_) rfl (by kernel_rfl) (by kernel_rfl) (by kernel_rfl) (fun _ _ _ h => h) (Or.inl ⟨by rfl, fun w hSw => ?_⟩) (by assumption) ?_
  rotate_left
  · (try dsimp only at hSw); go_simp; try with_reducible rfl
  simp only [Act.put, List.setIfInBounds_toArray, List.set_cons_zero, List.set_cons_succ, List.getElem_toArray, List.getElem_cons_succ, List.getElem_cons_zero]
  refine wpAnyH_take (i := 2) (v := ?_) rfl (by kernel_rfl) (by kernel_rfl) (by kernel_rfl) (fun _ _ _ h => h) (Or.inl ⟨by rfl, fun w hSw => ?_⟩) (by assumption) ?_
  rotate_left
  · (try dsimp only at hSw); go_simp; try with_reducible rfl
  simp only [Act.put, List.setIfInBounds_toArray, List.set_cons_zero, List.set_cons_succ, List.getElem_toArray, List.getElem_cons_succ, List.getElem_cons_zero]
  refine wpAnyH_take (i := 3) (v := ?_) rfl (by kernel_rfl) (by kernel_rfl) (by kernel_rfl) (fun _ _ _ h => h) (Or.inl ⟨by rfl, fun w hSw => ?_⟩) (by assumption) ?_
  rotate_left
  · (try dsimp only at hSw); go_simp; try with_reducible rfl
  simp only [Act.put, List.setIfInBounds_toArray, List.set_cons_zero, List.set_cons_succ, List.getElem_toArray, List.getElem_cons_succ, List.getElem_cons_zero]
  refine wpAnyH_take (i := 4) (v := ?_) rfl (by kernel_rfl) (by kernel_rfl) (by kernel_rfl) (fun _ _ _ h => h) (Or.inl ⟨by rfl, fun w hSw => ?_⟩) (by assumption) ?_
  rotate_left
  · (try dsimp only at hSw); go_simp; try with_reducible rfl
  simp only [Act.put, List.setIfInBounds_toArray, List.set_cons_zero, List.set_cons_succ, List.getElem_toArray, List.getElem_cons_succ, List.getElem_cons_zero]
  refine wpAnyH_take (i := 5) (v := ?_) rfl (by kernel_rfl) (by kernel_rfl) (by kernel_rfl) (fun _ _ _ h => h) (Or.inl ⟨by rfl, fun w hSw => ?_⟩) (by assumption) ?_
  rotate_left
  · (try dsimp only at hSw); go_simp; try with_reducible rfl
  simp only [Act.put, List.setIfInBounds_toArray, List.set_cons_zero, List.set_cons_succ, List.getElem_toArray, List.getElem_cons_succ, List.getElem_cons_zero]
  refine wpAnyH_take (i := 6) (v := ?_) rfl (by kernel_rfl) (by kernel_rfl) (by kernel_rfl) (fun _ _ _ h => h) (Or.inl ⟨by rfl, fun w hSw => ?_⟩) (by assumption) ?_
  rotate_left
  · (try dsimp only at hSw); go_simp; try with_reducible rfl
  simp only [Act.put, List.setIfInBounds_toArray, List.set_cons_zero, List.set_cons_succ, List.getElem_toArray, List.getElem_cons_succ, List.getElem_cons_zero]
  refine wpAnyH_take (i := 8) (v := ?_) rfl (by kernel_rfl) (by kernel_rfl) (by kernel_rfl) (fun _ _ _ h => h) (Or.inl ⟨by rfl, fun w hSw => ?_⟩) (by assumption) ?_
  rotate_left
  · (try dsimp only at hSw); go_simp; try with_reducible rfl
  simp only [Act.put, List.setIfInBounds_toArray, List.set_cons_zero, List.set_cons_succ, List.getElem_toArray, List.getElem_cons_succ, List.getElem_cons_zero]
  refine wpAnyH_take (i := 9) (v := ?_) rfl (by kernel_rfl) (by kernel_rfl) (by kernel_rfl) (fun _ _ _ h => h) (Or.inl ⟨by rfl, fun w hSw => ?_⟩) (by assumption) ?_
  rotate_left
  · (try dsimp only at hSw); go_simp; try with_reducible rfl
  simp only [Act.put, List.setIfInBounds_toArray, List.set_cons_zero, List.set_cons_succ, List.getElem_toArray, List.getElem_cons_succ, List.getElem_cons_zero]
  refine wpAnyH_take (i := 10) (v := ?_) rfl (by kernel_rfl) (by kernel_rfl) (by kernel_rfl) (fun _ _ _ h => h) (Or.inl ⟨by rfl, fun w hSw => ?_⟩) (by assumption) ?_
  rotate_left
  · (try dsimp only at hSw); go_simp; try with_reducible rfl
  simp only [Act.put, List.setIfInBounds_toArray, List.set_cons_zero, List.set_cons_succ, List.getElem_toArray, List.getElem_cons_succ, List.getElem_cons_zero]
  refine wpAnyH_take (i := 11) (v := ?_) rfl (by kernel_rfl) (by kernel_rfl) (by kernel_rfl) (fun _ _ _ h => h) (Or.inl ⟨by rfl, fun w hSw => ?_⟩) (by assumption) ?_
  rotate_left
  · (try dsimp only at hSw); go_simp; try with_reducible rfl
  simp only [Act.put, List.setIfInBounds_toArray, List.set_cons_zero, List.set_cons_succ, List.getElem_toArray, List.getElem_cons_succ, List.getElem_cons_zero]
  refine wpAnyH_take (i := 12) (v := ?_) rfl (by kernel_rfl) (by kernel_rfl) (by kernel_rfl) (fun _ _ _ h => h) (Or.inl ⟨by rfl, fun w hSw => ?_⟩) (by assumption) ?_
  rotate_left
  · (try dsimp only at hSw); go_simp; try with_reducible rfl
  simp only [Act.put, List.setIfInBounds_toArray, List.set_cons_zero, List.set_cons_succ, List.getElem_toArray, List.getElem_cons_succ, List.getElem_cons_zero]
  refine wpAnyH_take (i := 13) (v := ?_) rfl (by kernel_rfl) (by kernel_rfl) (by kernel_rfl) (fun _ _ _ h => h) (Or.inl ⟨by rfl, fun w hSw => ?_⟩) (by assumption) ?_
  rotate_left
  · (try dsimp only at hSw); go_simp; try with_reducible rfl
  simp only [Act.put, List.setIfInBounds_toArray, List.set_cons_zero, List.set_cons_succ, List.getElem_toArray, List.getElem_cons_succ, List.getElem_cons_zero]
  refine wpAnyH_take (i := 14) (v := ?_) rfl (by kernel_rfl) (by kernel_rfl) (by kernel_rfl) (fun _ _ _ h => h) (Or.inl ⟨by rfl, fun w hSw => ?_⟩) (by assumption) ?_
  rotate_left
  · (try dsimp only at hSw); go_simp; try with_reducible rfl
  simp only [Act.put, List.setIfInBounds_toArray, List.set_cons_zero, List.set_cons_succ, List.getElem_toArray, List.getElem_cons_succ, List.getElem_cons_zero]
  refine wpAnyH_ready (rs := [7]) (by kernel_rfl) (by simp) ?_
  refine AllReadyH.cons rfl (fun K hK => ?_) AllReadyH.nil
  simp only [List.getElem_toArray, List.getElem_cons_succ, List.getElem_cons_zero]
  go_simp
  refine (st_bwrite k g ad nd cd zd HT0.out.st (HZ.out.next HT0.out.st.bel).bys HZ0.out).mono ?_
  rintro e1 w1 hpo
  obtain ⟨rfl, hm1, ht1⟩ := HT0.out.prog (bw_n B R k g zd) hpo
  have hns : ∀ k, L.M R.n k → M k := HT0.out.st.rk.sub
  have HC1 := Lib.hid (HC0.out.turn ht1 (fun x => HP.out (hns _ x)))
  have HM1 := Lib.hid hm1
  clear hpo hm1 ht1 hns
  go_wp2_with (fail)
  refine hK.out _ _ ⟨HC1.out.c1, HC1.out.c2, HC1.out.c5⟩ (fun hHeld => ?_)
  clear hK K
  refine wpAnyH_ready (rs := [15]) (by kernel_rfl) (by simp) ?_
  refine AllReadyH.cons rfl (fun K hK => ?_) AllReadyH.nil
  simp only [List.getElem_toArray, List.getElem_cons_succ, List.getElem_cons_zero]
  go_simp
  have hrf := rq_bwrite k g ad nd cd zd HM1.out.rf HM1.out.rb HM1.out.ky HR.out (HZ.out.next HM1.out.st.bel).bys HZ0.out
  refine hrf.mono ?_
  clear hrf
  rintro e2 w2 ⟨F', hpo, hrl⟩
  have HC2 := Lib.hid (HC1.out.turn hpo.2.2 (fun x => HP.out (HM1.out.rf.sub _ x)))
  obtain ⟨rfl, ht2⟩ := HM1.out.ref hpo hrl
  have HT2 := Lib.hid ht2
  clear hpo ht2 hrl
  go_wp2_with (fail)
  refine hK.out _ _ ⟨HC2.out.c1, HC2.out.c2, HC2.out.c5⟩ (fun hHeld => ?_)
  clear hK K
  refine wpAnyH_take (i := 16) (v := ?_) rfl (by kernel_rfl) (by kernel_rfl) (by kernel_rfl) (fun _ _ _ h => h) (Or.inl ⟨by rfl, fun w hSw => ?_⟩) (by assumption) ?_
  rotate_left
  · (try dsimp only at hSw); go_simp; try with_reducible rfl
  simp only [Act.put, List.setIfInBounds_toArray, List.set_cons_zero, List.set_cons_succ, List.getElem_toArray, List.getElem_cons_succ, List.getElem_cons_zero]
  refine wpAnyH_take (i := 17) (v := ?_) rfl (by kernel_rfl) (by kernel_rfl) (by kernel_rfl) (fun _ _ _ h => h) (Or.inl ⟨by rfl, fun w hSw => ?_⟩) (by assumption) ?_
  rotate_left
  · (try dsimp only at hSw); go_simp; try with_reducible rfl
  simp only [Act.put, List.setIfInBounds_toArray, List.set_cons_zero, List.set_cons_succ, List.getElem_toArray, List.getElem_cons_succ, List.getElem_cons_zero]
  refine wpAnyH_done (by kernel_rfl) ?_ _
  clear hHeld c1 c2 c5
  go_wp2_with (fail)
  go_ret
  exact ⟨rfl, _, _, _, HT2.out, HSM.out, by rw [bw_n]; exact HN4.out, by rw [bw_S']; exact HS41.out⟩

set_option maxRecDepth 100000 in
set_option maxHeartbeats 4000000 in
theorem told_doom (h : Two w0 M L K b y R F B w) (hS : Sml B) (hRn : R.n = 4) (hRS : R.S = 41) (hs : s ≤ 9223372036854775807) :
    Calls Tryz.prog 12 #[.pointer (some ⟨L.p, 0, none⟩), .pointer (some ⟨b, 0, none⟩), .pointer (some ⟨K.p, 0, none⟩), .pointer (some ⟨y, 0, none⟩), cl7 8 g k s ab nb cb ad nd cd e sl st] w (ToldQ w0 M L K b y) := by
  obtain ⟨wb, p, hwb, hp, HT, HC, HP⟩ := h.box7 8 g k s ab nb cb ad nd cd e sl st
  have HR := Lib.hid h.rel
  have HSM := Lib.hid hS
  have HN4 := Lib.hid hRn
  have HS41 := Lib.hid hRS
  have HMM := Lib.hid hs
  clear hs
  clear h hS hRn hRS
  have c2 := HC.out.c2
  have c3 := HC.out.c3
  have HT0 := Lib.hid HT.out.drew
  have hCd := HC.out.next (below_drewN (Below.refl _ wb) 1)
  change Clb7 wb.drew _ _ _ _ _ _ _ _ _ _ _ _ _ _ at hCd
  have HC0 := Lib.hid hCd
  clear hCd
  rw [hwb, hp] at c2 c3
  go_enter Tryz.func12, Tryz.ntmps12
  go_wp2_with (fail)
  rw [← hwb, ← hp]
  rw [← hwb, ← hp] at c2 c3
  clear hwb hp HT HC
  refine wp_region_held_drew (S := fun w' => w'.cell? ⟨p, 2, none⟩ = some (.int .i64 k) ∧ w'.cell? ⟨p, 3, none⟩ = some (.int .i64 s)) (by kernel_rfl) ?_ (fun hHeld => ?_)
  · exact ⟨c2, c3⟩
  refine wpAnyH_take (i := 0) (v := ?_) rfl (by kernel_rfl) (by kernel_rfl) (by kernel_rfl) (fun _ _ _ h => h) (Or.inl ⟨by rfl, fun w hSw => ?_⟩) (by assumption) ?_
  rotate_left
  · (try dsimp only at hSw); go_simp; try with_reducible rfl
  simp only [Act.put, List.setIfInBounds_toArray, List.set_cons_zero, List.set_cons_succ, List.getElem_toArray, List.getElem_cons_zero]
  refine wpAnyH_take (i := 1) (v := ?_) rfl (by kernel_rfl) (by kernel_rfl) (by kernel_rfl) (fun _ _ _ h => h) (Or.inl ⟨by rfl, fun w hSw => ?_⟩) (by assumption) ?_
  rotate_left
  · (try dsimp only at hSw); go_simp; try with_reducible rfl
  simp only [Act.put, List.setIfInBounds_toArray, List.set_cons_zero, List.set_cons_succ, List.getElem_toArray, List.getElem_cons_succ, List.getElem_cons_zero]
  refine wpAnyH_take (i := 2) (v := ?_) rfl (by kernel_rfl) (by kernel_rfl) (by kernel_rfl) (fun _ _ _ h => h) (Or.inl ⟨by rfl, fun w hSw => ?_⟩) (by assumption) ?_
  rotate_left
  · (try dsimp only at hSw); go_simp; try with_reducible rfl
  simp only [Act.put, List.setIfInBounds_toArray, List.set_cons_zero, List.set_cons_succ, List.getElem_toArray, List.getElem_cons_succ, List.getElem_cons_zero]
  refine wpAnyH_take (i := 3) (v := ?_) rfl (by kernel_rfl) (by kernel_rfl) (by kernel_rfl) (fun _ _ _ h => h) (Or.inl ⟨by rfl, fun w hSw => ?_⟩) (by assumption) ?_
  rotate_left
  · (try dsimp only at hSw); go_simp; try with_reducible rfl
  simp only [Act.put, List.setIfInBounds_toArray, List.set_cons_zero, List.set_cons_succ, List.getElem_toArray, List.getElem_cons_succ, List.getElem_cons_zero]
  refine wpAnyH_take (i := 4) (v := ?_) rfl (by kernel_rfl) (by kernel_rfl) (by kernel_rfl) (fun _ _ _ h => h) (Or.inl ⟨by rfl, fun w hSw => ?_⟩) (by assumption) ?_
  rotate_left
  · (try dsimp only at hSw); go_simp; try with_reducible rfl
  simp only [Act.put, List.setIfInBounds_toArray, List.set_cons_zero, List.set_cons_succ, List.getElem_toArray, List.getElem_cons_succ, List.getElem_cons_zero]
  refine wpAnyH_take (i := 6) (v := ?_) rfl (by kernel_rfl) (by kernel_rfl) (by kernel_rfl) (fun _ _ _ h => h) (Or.inl ⟨by rfl, fun w hSw => ?_⟩) (by assumption) ?_
  rotate_left
  · (try dsimp only at hSw); go_simp; try with_reducible rfl
  simp only [Act.put, List.setIfInBounds_toArray, List.set_cons_zero, List.set_cons_succ, List.getElem_toArray, List.getElem_cons_succ, List.getElem_cons_zero]
  refine wpAnyH_take (i := 7) (v := ?_) rfl (by kernel_rfl) (by kernel_rfl) (by kernel_rfl) (fun _ _ _ h => h) (Or.inl ⟨by rfl, fun w hSw => ?_⟩) (by assumption) ?_
  rotate_left
  · (try dsimp only at hSw); go_simp; try with_reducible rfl
  simp only [Act.put, List.setIfInBounds_toArray, List.set_cons_zero, List.set_cons_succ, List.getElem_toArray, List.getElem_cons_succ, List.getElem_cons_zero]
  refine wpAnyH_take (i := 8) (v := ?_) rfl (by kernel_rfl) (by kernel_rfl) (by kernel_rfl) (fun _ _ _ h => h) (Or.inl ⟨by rfl, fun w hSw => ?_⟩) (by assumption) ?_
  rotate_left
  · (try dsimp only at hSw); go_simp; try with_reducible rfl
  simp only [Act.put, List.setIfInBounds_toArray, List.set_cons_zero, List.set_cons_succ, List.getElem_toArray, List.getElem_cons_succ, List.getElem_cons_zero]
  refine wpAnyH_take (i := 9) (v := ?_) rfl (by kernel_rfl) (by kernel_rfl) (by kernel_rfl) (fun _ _ _ h => h) (Or.inl ⟨by rfl, fun w hSw => ?_⟩) (by assumption) ?_
  rotate_left
  · (try dsimp only at hSw); go_simp; try with_reducible rfl
  simp only [Act.put, List.setIfInBounds_toArray, List.set_cons_zero, List.set_cons_succ, List.getElem_toArray, List.getElem_cons_succ, List.getElem_cons_zero]
  refine wpAnyH_take (i := 10) (v := ?_) rfl (by kernel_rfl) (by kernel_rfl) (by kernel_rfl) (fun _ _ _ h => h) (Or.inl ⟨by rfl, fun w hSw => ?_⟩) (by assumption) ?_
  rotate_left
  · (try dsimp only at hSw); go_simp; try with_reducible rfl
  simp only [Act.put, List.setIfInBounds_toArray, List.set_cons_zero, List.set_cons_succ, List.getElem_toArray, List.getElem_cons_succ, List.getElem_cons_zero]
  refine wpAnyH_ready (rs := [5]) (by kernel_rfl) (by simp) ?_
  refine AllReadyH.cons rfl (fun K hK => ?_) AllReadyH.nil
  simp only [List.getElem_toArray, List.getElem_cons_succ, List.getElem_cons_zero]
  go_simp
  refine (st_doom k s HT0.out.st HMM.out).mono ?_
  rintro e1 w1 hpo
  obtain ⟨rfl, hm1, ht1⟩ := HT0.out.prog (Rk.doom_n R k s) hpo
  have hns : ∀ k, L.M R.n k → M k := HT0.out.st.rk.sub
  have HC1 := Lib.hid (HC0.out.turn ht1 (fun x => HP.out (hns _ x)))
  have HM1 := Lib.hid hm1
  clear hpo hm1 ht1 hns
  go_wp2_with (fail)
  refine hK.out _ _ ⟨HC1.out.c2, HC1.out.c3⟩ (fun hHeld => ?_)
  clear hK K
  refine wpAnyH_ready (rs := [11]) (by kernel_rfl) (by simp) ?_
  refine AllReadyH.cons rfl (fun K hK => ?_) AllReadyH.nil
  simp only [List.getElem_toArray, List.getElem_cons_succ, List.getElem_cons_zero]
  go_simp
  have hrf := rq_doom k s HM1.out.rf HR.out HMM.out
  refine hrf.mono ?_
  clear hrf
  rintro e2 w2 ⟨F', hpo, hrl⟩
  have HC2 := Lib.hid (HC1.out.turn hpo.2.2 (fun x => HP.out (HM1.out.rf.sub _ x)))
  obtain ⟨rfl, ht2⟩ := HM1.out.ref hpo hrl
  have HT2 := Lib.hid ht2
  clear hpo ht2 hrl
  go_wp2_with (fail)
  refine hK.out _ _ ⟨HC2.out.c2, HC2.out.c3⟩ (fun hHeld => ?_)
  clear hK K
  refine wpAnyH_take (i := 12) (v := ?_) rfl (by kernel_rfl) (by kernel_rfl) (by kernel_rfl) (fun _ _ _ h => h) (Or.inl ⟨by rfl, fun w hSw => ?_⟩) (by assumption) ?_
  rotate_left
  · (try dsimp only at hSw); go_simp; try with_reducible rfl
  simp only [Act.put, List.setIfInBounds_toArray, List.set_cons_zero, List.set_cons_succ, List.getElem_toArray, List.getElem_cons_succ, List.getElem_cons_zero]
  refine wpAnyH_take (i := 13) (v := ?_) rfl (by kernel_rfl) (by kernel_rfl) (by kernel_rfl) (fun _ _ _ h => h) (Or.inl ⟨by rfl, fun w hSw => ?_⟩) (by assumption) ?_
  rotate_left
  · (try dsimp only at hSw); go_simp; try with_reducible rfl
  simp only [Act.put, List.setIfInBounds_toArray, List.set_cons_zero, List.set_cons_succ, List.getElem_toArray, List.getElem_cons_succ, List.getElem_cons_zero]
  refine wpAnyH_done (by kernel_rfl) ?_ _
  clear hHeld c2 c3
  go_wp2_with (fail)
  go_ret
  exact ⟨rfl, _, _, _, HT2.out, HSM.out, by rw [Rk.doom_n]; exact HN4.out, by unfold Rk.doom; split <;> exact HS41.out⟩

set_option maxRecDepth 100000 in
set_option maxHeartbeats 4000000 in
theorem told_read (h : Two w0 M L K b y R F B w) (hS : Sml B) (hRn : R.n = 4) (hRS : R.S = 41) :
    Calls Tryz.prog 12 #[.pointer (some ⟨L.p, 0, none⟩), .pointer (some ⟨b, 0, none⟩), .pointer (some ⟨K.p, 0, none⟩), .pointer (some ⟨y, 0, none⟩), cl7 1 g k s ab nb cb ad nd cd e sl st] w (ToldQ w0 M L K b y) := by
  obtain ⟨wb, p, hwb, hp, HT, HC, HP⟩ := h.box7 1 g k s ab nb cb ad nd cd e sl st
  have HR := Lib.hid h.rel
  have HSM := Lib.hid hS
  have HN4 := Lib.hid hRn
  have HS41 := Lib.hid hRS
  clear h hS hRn hRS
  have c1 := HC.out.c1
  have c2 := HC.out.c2
  have c3 := HC.out.c3
  have c6 := HC.out.c6
  have c7 := HC.out.c7
  have c8 := HC.out.c8
  rw [hwb, hp] at c1 c2 c3 c6 c7 c8
  go_enter Tryz.func12, Tryz.ntmps12
  go_wp2_with (fail)
  rw [← hwb, ← hp]
  clear hwb hp c1 c2 c3 c6 c7 c8
  refine (st_sread HSM.out g k s HT.out.st).mono ?_
  rintro e1 w1 ⟨a1, n1, x1, rfl, hp1, _, hb1⟩
  obtain ⟨zs, hzs⟩ : ∃ z, z = rbL B R 3 g k s := ⟨_, rfl⟩
  obtain ⟨er, her⟩ : ∃ z, z = rbE B R 3 g k s := ⟨_, rfl⟩
  obtain ⟨o1, ho1⟩ : ∃ z, z = decN zs 4 2 := ⟨_, rfl⟩
  obtain ⟨o2, ho2⟩ : ∃ z, z = decN zs 6 2 := ⟨_, rfl⟩
  rw [← hzs] at hp1
  rw [← hzs, ← her, ← ho1, ← ho2]
  have HT1 := Lib.hid (HT.out.next (hb1.trans (((Below.refl _ _).alloc (Nat.le_refl _) (.cells #[.int .i64 o1, .int .i64 o2, .slice a1 n1 x1] 65)).mono hb1.size)))
  have hC1 := HC.out.next (hb1.trans (((Below.refl _ _).alloc (Nat.le_refl _) (.cells #[.int .i64 o1, .int .i64 o2, .slice a1 n1 x1] 65)).mono hb1.size))
  have HP1 := Lib.hid (hp1.alloc (.cells #[.int .i64 o1, .int .i64 o2, .slice a1 n1 x1] 65))
  have c1 := hC1.c1
  have c2 := hC1.c2
  have c3 := hC1.c3
  have hrb := read_ref g k s HT1.out.rf HT1.out.rb HR.out HSM.out
  rw [← hzs, ← her] at hrb
  have HO1 := Lib.hid ho1
  have HO2 := Lib.hid ho2
  clear hp1 hb1 hC1 hzs her ho1 ho2
  obtain ⟨p1, hp1⟩ : ∃ q, q = w1.heap.size := ⟨_, rfl⟩
  obtain ⟨W1, hW1⟩ : ∃ W, W = w1.alloc (.cells #[.int .i64 o1, .int .i64 o2, .slice a1 n1 x1] 65) := ⟨_, rfl⟩
  have k0 : W1.cell? ⟨p1, 0, none⟩ = some (.int .i64 o1) := by rw [hW1, hp1]; simp
  have k1 : W1.cell? ⟨p1, 1, none⟩ = some (.int .i64 o2) := by rw [hW1, hp1]; simp
  have k2 : W1.cell? ⟨p1, 2, none⟩ = some (.slice a1 n1 x1) := by rw [hW1, hp1]; simp
  have kl : p1 < W1.heap.size := by rw [hW1, hp1]; simp
  rw [← hW1] at HT1 HP1 hrb
  go_wp2_with (fail)
  rw [← hW1, ← hp1]
  clear hW1 hp1 c1 c2 c3
  refine hrb.mono ?_
  clear hrb
  rintro e2 w2 ⟨a2, n2, x2, rfl, hp2, hb2⟩
  rw [← HO1.out, ← HO2.out]
  have HT2 := Lib.hid (HT1.out.next (hb2.trans (((Below.refl _ _).alloc (Nat.le_refl _) (.cells #[.int .i64 o1, .int .i64 o2, .slice a2 n2 x2] 65)).mono hb2.size)))
  have hp1' := (HP1.out.next hb2).alloc (.cells #[.int .i64 o1, .int .i64 o2, .slice a2 n2 x2] 65)
  have hp2' := hp2.alloc (.cells #[.int .i64 o1, .int .i64 o2, .slice a2 n2 x2] 65)
  have j0 := (hb2.cell (p := ⟨p1, 0, none⟩) kl).trans k0
  have j1 := (hb2.cell (p := ⟨p1, 1, none⟩) kl).trans k1
  have j2 := (hb2.cell (p := ⟨p1, 2, none⟩) kl).trans k2
  have jl := Nat.lt_of_lt_of_le kl hb2.size
  have hsm := same_any a1 a2 n1 x1 n2 x2 _ _ _ hp1'.bys hp2'.bys (by have := decL_le zs; rw [hp1'.len] at this; omega)
  rw [sameB_true rfl] at hsm
  clear hp2 hb2 hp1' hp2' k0 k1 k2 kl
  go_wp2_with (go_at_call 15; refine hsm.mono ?_; clear hsm; rintro e3 w3 ⟨rfl, q, rfl⟩; have HT3 := Lib.hid (HT2.out.drewN q))
  go_ret
  exact ⟨rfl, _, _, _, HT3.out, HSM.out, HN4.out, HS41.out⟩

set_option maxRecDepth 100000 in
set_option maxHeartbeats 4000000 in
theorem told_whole (h : Two w0 M L K b y R F B w) (hS : Sml B) (hRn : R.n = 4) (hRS : R.S = 41) :
    Calls Tryz.prog 12 #[.pointer (some ⟨L.p, 0, none⟩), .pointer (some ⟨b, 0, none⟩), .pointer (some ⟨K.p, 0, none⟩), .pointer (some ⟨y, 0, none⟩), cl7 2 g k s ab nb cb ad nd cd e sl st] w (ToldQ w0 M L K b y) := by
  obtain ⟨wb, p, hwb, hp, HT, HC, HP⟩ := h.box7 2 g k s ab nb cb ad nd cd e sl st
  have HR := Lib.hid h.rel
  have HSM := Lib.hid hS
  have HN4 := Lib.hid hRn
  have HS41 := Lib.hid hRS
  clear h hS hRn hRS
  have c1 := HC.out.c1
  have c2 := HC.out.c2
  have c3 := HC.out.c3
  have c6 := HC.out.c6
  have c7 := HC.out.c7
  have c8 := HC.out.c8
  rw [hwb, hp] at c1 c2 c3 c6 c7 c8
  go_enter Tryz.func12, Tryz.ntmps12
  go_wp2_with (fail)
  rw [← hwb, ← hp]
  clear hwb hp c1 c2 c3 c6 c7 c8
  have hst := st_whole HSM.out g HT.out.st
  refine hst.mono ?_
  rintro e1 w1 ⟨rfl, _, hb1⟩
  have HT1 := Lib.hid (HT.out.next hb1)
  have hC1 := HC.out.next hb1
  have c1 := hC1.c1
  have c2 := hC1.c2
  have c3 := hC1.c3
  have hrb := whole_ref g HT1.out.rf HT1.out.rb HR.out HSM.out
  obtain ⟨v0, hv0⟩ : ∃ z, z = (whR B R 3 3 g).getD 0 := ⟨_, rfl⟩
  obtain ⟨v1, hv1⟩ : ∃ z, z = (whR B R 3 3 g).isSome := ⟨_, rfl⟩
  obtain ⟨v2, hv2⟩ : ∃ z, z = chkE R (segO B g) := ⟨_, rfl⟩
  rw [← hv0, ← hv1, ← hv2] at hrb
  rw [← hv0, ← hv1, ← hv2]
  clear hst hb1 hC1 hv0 hv1 hv2
  go_wp2_with (fail)
  refine hrb.mono ?_
  clear hrb
  rintro e2 w2 ⟨rfl, hb2⟩
  have HT2 := Lib.hid (HT1.out.next hb2)
  clear hb2 c1 c2 c3
  go_wp2_with (fail)
  go_ret
  exact ⟨rfl, _, _, _, HT2.out, HSM.out, HN4.out, HS41.out⟩

set_option maxRecDepth 100000 in
set_option maxHeartbeats 4000000 in
theorem told_missing (h : Two w0 M L K b y R F B w) (hS : Sml B) (hRn : R.n = 4) (hRS : R.S = 41) :
    Calls Tryz.prog 12 #[.pointer (some ⟨L.p, 0, none⟩), .pointer (some ⟨b, 0, none⟩), .pointer (some ⟨K.p, 0, none⟩), .pointer (some ⟨y, 0, none⟩), cl7 3 g k s ab nb cb ad nd cd e sl st] w (ToldQ w0 M L K b y) := by
  obtain ⟨wb, p, hwb, hp, HT, HC, HP⟩ := h.box7 3 g k s ab nb cb ad nd cd e sl st
  have HR := Lib.hid h.rel
  have HSM := Lib.hid hS
  have HN4 := Lib.hid hRn
  have HS41 := Lib.hid hRS
  clear h hS hRn hRS
  have c1 := HC.out.c1
  have c2 := HC.out.c2
  have c3 := HC.out.c3
  have c6 := HC.out.c6
  have c7 := HC.out.c7
  have c8 := HC.out.c8
  rw [hwb, hp] at c1 c2 c3 c6 c7 c8
  go_enter Tryz.func12, Tryz.ntmps12
  go_wp2_with (fail)
  rw [← hwb, ← hp]
  clear hwb hp c1 c2 c3 c6 c7 c8
  have hst := st_miss HSM.out g k s HT.out.st
  refine hst.mono ?_
  rintro e1 w1 ⟨rfl, _, hb1⟩
  have HT1 := Lib.hid (HT.out.next hb1)
  have hC1 := HC.out.next hb1
  have c1 := hC1.c1
  have c2 := hC1.c2
  have c3 := hC1.c3
  have hrb := missing_any g k s HT1.out.rf HT1.out.rb HR.out HSM.out
  obtain ⟨v0, hv0⟩ : ∃ z, z = misV B R 3 g s k := ⟨_, rfl⟩
  obtain ⟨v1, hv1⟩ : ∃ z, z = chkE R (thO B g k) := ⟨_, rfl⟩
  rw [← hv0, ← hv1] at hrb
  rw [← hv0, ← hv1]
  clear hst hb1 hC1 hv0 hv1
  go_wp2_with (fail)
  refine hrb.mono ?_
  clear hrb
  rintro e2 w2 ⟨rfl, hb2⟩
  have HT2 := Lib.hid (HT1.out.next hb2)
  clear hb2 c1 c2 c3
  go_wp2_with (fail)
  go_ret
  exact ⟨rfl, _, _, _, HT2.out, HSM.out, HN4.out, HS41.out⟩

set_option maxRecDepth 100000 in
set_option maxHeartbeats 4000000 in
theorem told_sound (h : Two w0 M L K b y R F B w) (hS : Sml B) (hRn : R.n = 4) (hRS : R.S = 41) :
    Calls Tryz.prog 12 #[.pointer (some ⟨L.p, 0, none⟩), .pointer (some ⟨b, 0, none⟩), .pointer (some ⟨K.p, 0, none⟩), .pointer (some ⟨y, 0, none⟩), cl7 5 g k s ab nb cb ad nd cd e sl st] w (ToldQ w0 M L K b y) := by
  obtain ⟨wb, p, hwb, hp, HT, HC, HP⟩ := h.box7 5 g k s ab nb cb ad nd cd e sl st
  have HR := Lib.hid h.rel
  have HSM := Lib.hid hS
  have HN4 := Lib.hid hRn
  have HS41 := Lib.hid hRS
  clear h hS hRn hRS
  have c1 := HC.out.c1
  have c2 := HC.out.c2
  have c3 := HC.out.c3
  have c6 := HC.out.c6
  have c7 := HC.out.c7
  have c8 := HC.out.c8
  rw [hwb, hp] at c1 c2 c3 c6 c7 c8
  go_enter Tryz.func12, Tryz.ntmps12
  go_wp2_with (fail)
  rw [← hwb, ← hp]
  clear hwb hp c1 c2 c3 c6 c7 c8
  have hst := st_sound HSM.out g s HT.out.st
  refine hst.mono ?_
  rintro e1 w1 ⟨rfl, _, hb1⟩
  have HT1 := Lib.hid (HT.out.next hb1)
  have hC1 := HC.out.next hb1
  have c1 := hC1.c1
  have c2 := hC1.c2
  have c3 := hC1.c3
  have hrb := sound_any g s HT1.out.rf HT1.out.rb HR.out HSM.out
  obtain ⟨v0, hv0⟩ : ∃ z, z = sndV B R 3 3 g s := ⟨_, rfl⟩
  obtain ⟨v1, hv1⟩ : ∃ z, z = chkE R (segO B g) := ⟨_, rfl⟩
  rw [← hv0, ← hv1] at hrb
  rw [← hv0, ← hv1]
  clear hst hb1 hC1 hv0 hv1
  go_wp2_with (fail)
  refine hrb.mono ?_
  clear hrb
  rintro e2 w2 ⟨rfl, hb2⟩
  have HT2 := Lib.hid (HT1.out.next hb2)
  clear hb2 c1 c2 c3
  go_wp2_with (fail)
  go_ret
  exact ⟨rfl, _, _, _, HT2.out, HSM.out, HN4.out, HS41.out⟩

set_option maxRecDepth 100000 in
set_option maxHeartbeats 4000000 in
theorem told_join (h : Two w0 M L K b y R F B w) (hS : Sml B) (hRn : R.n = 4) (hRS : R.S = 41) :
    Calls Tryz.prog 12 #[.pointer (some ⟨L.p, 0, none⟩), .pointer (some ⟨b, 0, none⟩), .pointer (some ⟨K.p, 0, none⟩), .pointer (some ⟨y, 0, none⟩), cl7 7 g k s ab nb cb ad nd cd e sl st] w (ToldQ w0 M L K b y) := by
  obtain ⟨wb, p, hwb, hp, HT, HC, HP⟩ := h.box7 7 g k s ab nb cb ad nd cd e sl st
  have HR := Lib.hid h.rel
  have HSM := Lib.hid hS
  have HN4 := Lib.hid hRn
  have HS41 := Lib.hid hRS
  clear h hS hRn hRS
  have c1 := HC.out.c1
  have c2 := HC.out.c2
  have c3 := HC.out.c3
  have c6 := HC.out.c6
  have c7 := HC.out.c7
  have c8 := HC.out.c8
  rw [hwb, hp] at c1 c2 c3 c6 c7 c8
  go_enter Tryz.func12, Tryz.ntmps12
  go_wp2_with (fail)
  rw [← hwb, ← hp]
  clear hwb hp c1 c2 c3 c6 c7 c8
  refine (st_join e sl st HT.out.st).mono ?_
  rintro e1 w1 ⟨rfl, hs1, ht1⟩
  have hc1 := HC.out.turn ht1 (fun x => HP.out (x ▸ HT.out.st.mb))
  have c6 := hc1.c6
  have c7 := hc1.c7
  have c8 := hc1.c8
  have HM1 := Lib.hid (HT.out.join1 hs1 ht1)
  clear hs1 ht1 hc1
  go_wp2_with (fail)
  refine (rjoin_any e sl st HM1.out.rb).mono ?_
  rintro e2 w2 ⟨rfl, hb2, ht2⟩
  have HT2 := Lib.hid (HM1.out.join2 hb2 ht2 HR.out)
  clear hb2 ht2 c6 c7 c8
  go_wp2_with (fail)
  go_ret
  exact ⟨rfl, _, _, _, HT2.out, join_sml HSM.out e sl st, HN4.out, HS41.out⟩

set_option maxRecDepth 100000 in
set_option maxHeartbeats 4000000 in
theorem told_arm (h : Two w0 M L K b y R F B w) (hS : Sml B) (hRn : R.n = 4) (hRS : R.S = 41) (hs : s ≤ 9223372036854775807) :
    Calls Tryz.prog 12 #[.pointer (some ⟨L.p, 0, none⟩), .pointer (some ⟨b, 0, none⟩), .pointer (some ⟨K.p, 0, none⟩), .pointer (some ⟨y, 0, none⟩), cl7 9 g k s ab nb cb ad nd cd e sl st] w (ToldQ w0 M L K b y) := by
  obtain ⟨wb, p, hwb, hp, HT, HC, HP⟩ := h.box7 9 g k s ab nb cb ad nd cd e sl st
  have HR := Lib.hid h.rel
  have HSM := Lib.hid hS
  have HN4 := Lib.hid hRn
  have HS41 := Lib.hid hRS
  have HMM := Lib.hid hs
  clear hs
  clear h hS hRn hRS
  have c1 := HC.out.c1
  have c2 := HC.out.c2
  have c3 := HC.out.c3
  have c6 := HC.out.c6
  have c7 := HC.out.c7
  have c8 := HC.out.c8
  rw [hwb, hp] at c1 c2 c3 c6 c7 c8
  go_enter Tryz.func12, Tryz.ntmps12
  go_wp2_with (fail)
  rw [← hwb, ← hp]
  clear hwb hp c1 c2 c3 c6 c7 c8
  refine ((arm_rack M L R wb s HT.out.st.rk HMM.out).mono fun _ _ => HT.out.st.post (R' := { R with cnt := s }) rfl).mono ?_
  rintro e1 w1 hpo
  obtain ⟨rfl, hm1, ht1⟩ := HT.out.prog (R' := { R with cnt := s }) rfl hpo
  have hns : ∀ k, L.M R.n k → M k := HT.out.st.rk.sub
  have hc1 := HC.out.turn ht1 (fun x => HP.out (hns _ x))
  have c3 := hc1.c3
  have HM1 := Lib.hid hm1
  have HRR := Lib.hid (HT.out.rel.arm s)
  clear hpo hm1 ht1 hns hc1
  go_wp2_with (fail)
  refine (rarm_any M K F w1 s HM1.out.rf HMM.out).mono ?_
  rintro e2 w2 hpo
  obtain ⟨rfl, ht2⟩ := HM1.out.ref hpo HRR.out
  have HT2 := Lib.hid ht2
  clear hpo ht2 c3
  go_wp2_with (fail)
  go_ret
  exact ⟨rfl, _, _, _, HT2.out, HSM.out, HN4.out, HS41.out⟩

set_option maxRecDepth 100000 in
set_option maxHeartbeats 4000000 in
theorem told_restore (h : Two w0 M L K b y R F B w) (hS : Sml B) (hRn : R.n = 4) (hRS : R.S = 41) :
    Calls Tryz.prog 12 #[.pointer (some ⟨L.p, 0, none⟩), .pointer (some ⟨b, 0, none⟩), .pointer (some ⟨K.p, 0, none⟩), .pointer (some ⟨y, 0, none⟩), cl7 10 g k s ab nb cb ad nd cd e sl st] w (ToldQ w0 M L K b y) := by
  obtain ⟨wb, p, hwb, hp, HT, HC, HP⟩ := h.box7 10 g k s ab nb cb ad nd cd e sl st
  have HR := Lib.hid h.rel
  have HSM := Lib.hid hS
  have HN4 := Lib.hid hRn
  have HS41 := Lib.hid hRS
  clear h hS hRn hRS
  have c1 := HC.out.c1
  have c2 := HC.out.c2
  have c3 := HC.out.c3
  have c6 := HC.out.c6
  have c7 := HC.out.c7
  have c8 := HC.out.c8
  rw [hwb, hp] at c1 c2 c3 c6 c7 c8
  have hsz : wb.heap.size = p + 1 := by rw [hwb, hp]; simp
  go_enter Tryz.func12, Tryz.ntmps12
  go_wp2_with (fail)
  rw [← hwb, ← hp]
  clear hwb hp c1 c2 c3 c6 c7 c8
  have HTa := Lib.hid (HT.out.next ((Below.refl _ wb).alloc (Nat.le_refl _) (.cells #[.int .i64 s, .int .i64 k] 3)))
  have hCa := HC.out.next ((Below.refl _ wb).alloc (Nat.le_refl _) (.cells #[.int .i64 s, .int .i64 k] 3))
  have HCa := Lib.hid hCa
  have HIa : Hid (Ins (wb.alloc (.cells #[.int .i64 s, .int .i64 k] 3)) (some ⟨wb.heap.size, 0, none⟩) 2 [s, k]) := ⟨rfl, .inr ⟨wb.heap.size, 0, rfl, by simp, fun j hj => by rcases (by omega : j = 0 ∨ j = 1) with rfl | rfl <;> simp⟩⟩
  have HNa : Hid (¬ M wb.heap.size) := fun x => Nat.lt_irrefl _ (HT.out.st.rk.low _ x)
  have HRL : Hid (∀ i s', i < R.n → s' < R.S → ((R.d i).rest [s, k] (R.num i) s').length = 64) := fun i s' hi hs => (Dk.rest_len (HT.out.st.rk.drv i hi) [s, k] (R.num i) hs).1
  obtain ⟨gg, hg⟩ : ∃ g, g = p + 1 := ⟨_, rfl⟩
  rw [hsz] at HIa HNa
  obtain ⟨wa, hwa⟩ : ∃ wa, wa = wb.alloc (.cells #[.int .i64 s, .int .i64 k] 3) := ⟨_, rfl⟩
  rw [← hg] at HIa HNa ⊢
  rw [← hwa] at HTa HCa HIa ⊢
  clear hCa hwa hg HT HC hsz
  refine (st_restore (some ⟨gg, 0, none⟩) 2 2 [s, k] HTa.out.st HIa.out (.inr fun b' off' e' => by cases e'; exact HNa.out) (by omega)).mono ?_
  rintro e1 w1 hpo
  obtain ⟨rfl, hm1, ht1⟩ := HTa.out.prog (R' := R.restore [s, k]) rfl hpo
  have hns : ∀ k, L.M R.n k → M k := HTa.out.st.rk.sub
  have hc1 := HCa.out.turn ht1 (fun x => HP.out (hns _ x))
  have c2 := hc1.c2
  have c3 := hc1.c3
  have HM1 := Lib.hid hm1
  have HRR := Lib.hid (HTa.out.rel.restore [s, k] HRL.out)
  have HIb : Hid (Ins (w1.alloc (.cells #[.int .i64 s, .int .i64 k] 3)) (some ⟨w1.heap.size, 0, none⟩) 2 [s, k]) := ⟨rfl, .inr ⟨w1.heap.size, 0, rfl, by simp, fun j hj => by rcases (by omega : j = 0 ∨ j = 1) with rfl | rfl <;> simp⟩⟩
  have HNb : Hid (¬ K.M w1.heap.size) := fun x => Nat.lt_irrefl _ (hm1.rf.low _ (hm1.rf.sub _ x))
  clear hpo hm1 ht1 hns hc1 HTa HCa HIa HNa HRL
  go_wp2_with (fail)
  have HMb := Lib.hid (HM1.out.next ((Below.refl _ w1).alloc (Nat.le_refl _) (.cells #[.int .i64 s, .int .i64 k] 3)))
  refine (rrestore M K F _ 2 2 _ [s, k] HMb.out.rf HIb.out (.inr fun b' off' e' => by cases e'; exact HNb.out) (by omega)).mono ?_
  rintro e2 w2 hpo
  obtain ⟨rfl, ht2⟩ := HMb.out.ref hpo HRR.out
  have HT2 := Lib.hid ht2
  clear hpo ht2 c2 c3 HMb HIb HNb
  go_wp2_with (fail)
  go_ret
  exact ⟨rfl, _, _, _, HT2.out, HSM.out, HN4.out, HS41.out⟩

set_option maxRecDepth 100000 in
set_option maxHeartbeats 4000000 in
theorem told_none (h : Two w0 M L K b y R F B w) (hS : Sml B) (hRn : R.n = 4) (hRS : R.S = 41) (n0 : (q == 0) = false) (n1 : (q == 1) = false) (n2 : (q == 2) = false) (n3 : (q == 3) = false) (n4 : (q == 4) = false) (n5 : (q == 5) = false) (n6 : (q == 6) = false) (n7 : (q == 7) = false) (n8 : (q == 8) = false) (n9 : (q == 9) = false) (n10 : (q == 10) = false) :
    Calls Tryz.prog 12 #[.pointer (some ⟨L.p, 0, none⟩), .pointer (some ⟨b, 0, none⟩), .pointer (some ⟨K.p, 0, none⟩), .pointer (some ⟨y, 0, none⟩), cl7 q g k s ab nb cb ad nd cd e sl st] w (ToldQ w0 M L K b y) := by
  obtain ⟨wb, p, hwb, hp, HT, HC, HP⟩ := h.box7 q g k s ab nb cb ad nd cd e sl st
  have HR := Lib.hid h.rel
  have HSM := Lib.hid hS
  have HN4 := Lib.hid hRn
  have HS41 := Lib.hid hRS
  clear h hS hRn hRS
  go_enter Tryz.func12, Tryz.ntmps12
  have c0 := HC.out.c0
  rw [hwb, hp] at c0
  go_wp2_with (fail)
  rw [← hwb]
  clear hwb hp c0
  go_ret
  exact ⟨rfl, _, _, _, HT.out, HSM.out, HN4.out, HS41.out⟩
end

end Go.Proofs.YtciddoeeiamndaaGreat
