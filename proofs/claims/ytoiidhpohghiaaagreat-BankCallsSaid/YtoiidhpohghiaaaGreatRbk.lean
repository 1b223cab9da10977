/-
  The reference's bank: its disk, disks, Read, Write, Join, by contract.
-/
import Derived.Test.YtoiidhpohghiaaaGreatRop
import Derived.Test.YtoiidhpohghiaaaGreatRfb
import Derived.Test.YtoiidhpohghiaaaGreatBad
namespace Go.Proofs.YtoiidhpohghiaaaGreat
open Go.RowKit Go.Maps
set_option linter.unusedVariables false

section
variable {M : Nat → Prop} {L : RLay} {F : Rf} {w : World}
theorem rreadO_ok (i s : Nat) (h : RefAt w M L F) (hd : F.dead = false) (hi : i < F.n) (hs : s < F.S) (hb : F.bad i = false) :
    Calls Tryz.prog 60 #[.pointer (some ⟨L.p, 0, none⟩), .int .i64 i, .int .i64 s] w (RetP w (F.rd (i * F.S + s)) 0) := by
  have ht := there_yes M L F w i s h (hasB_yes (by omega) (by omega) (by omega) (by omega))
  obtain ⟨fl, fc, h⟩ := h
  have few := h.few
  have fewS := h.fewS
  obtain ⟨k, N, hN, hk, hkN, hkE, m0, m1⟩ := place hi hs few fewS
  have c7 := h.c7
  have c4 := h.c4
  have c1 := h.c1
  have c2 := h.c2
  have c3 := h.c3
  have b0 := h.cb.cell hi
  have l0 := h.cl.cell (k := k) (by rw [← hN.out]; exact hkN)
  have l1 := h.cc.cell (k := k) (by rw [← hN.out]; exact hkN)
  have hL := h.last k (by rw [← hN.out]; exact hkN)
  have hC := h.cach k (by rw [← hN.out]; exact hkN)
  rw [← hk.out]
  rw [← hN.out] at c2 c3
  rw [hd] at c7
  simp only [hb] at b0
  clear hd hb
  rcases hC with ⟨e0, e1⟩ | ⟨zs, e0, g, c, e1, hg, hy⟩
  · obtain ⟨g, c, e2, hg, hy⟩ := hL
    have er : F.rd k = F.L k := by simp [Rf.rd, e0]
    rw [er]
    rw [e1] at l1
    rw [e2] at l0
    have hcp := copy_any (some ⟨g, 0, none⟩) 64 c _ w hy (fun e => by cases e) (by omega)
    clear e0 e1 e2 er hy
    go_enter Tryz.func60, Tryz.ntmps60
    go_wp2_with (first
      | (go_at_call 75; refine ht.mono ?_; rintro e w' ⟨rfl, rfl⟩)
      | (go_at_call 26; refine hcp.mono ?_; rintro e w1 ⟨v1, rfl, ho1, hb1⟩))
    go_ret2
    exact ⟨v1, rfl, own_len ho1, hb1⟩
  · have er : F.rd k = zs := by simp [Rf.rd, e0]
    rw [er]
    rw [e1] at l1
    have hcp := copy_any (some ⟨g, 0, none⟩) 64 c _ w hy (fun e => by cases e) (by omega)
    clear e0 e1 er hy
    go_enter Tryz.func60, Tryz.ntmps60
    go_wp2_with (first
      | (go_at_call 75; refine ht.mono ?_; rintro e w' ⟨rfl, rfl⟩)
      | (go_at_call 26; refine hcp.mono ?_; rintro e w1 ⟨v1, rfl, ho1, hb1⟩))
    go_ret2
    exact ⟨v1, rfl, own_len ho1, hb1⟩

theorem rreadP_all (i s : Int) (h : RefAt w M L F) :
    Calls Tryz.prog 60 #[.pointer (some ⟨L.p, 0, none⟩), .int .i64 i, .int .i64 s] w (RetP w (F.rdV i s) (F.rdE i s)) := by
  unfold Rf.rdV
  cases ho : F.dead with
  | true =>
    refine (rread_dead M L F w i s h ho).mono fun e w' he => ?_
    have : F.rdE i s = 12 := by simp [Rf.rdE, ho]
    rw [this]
    exact RetP.nil w 12 he
  | false =>
    by_cases hb : hasB F.n F.S i s = true
    · obtain ⟨x, y, rfl, rfl, hx, hy⟩ := hasB_nat hb
      cases hbad : F.bad x with
      | true =>
        refine (rread_failed M L F w x y h ho hx hy hbad).mono fun e w' he => ?_
        have : F.rdE x y = 13 := by simp [Rf.rdE, ho, hb, hbad]
        rw [this]
        exact RetP.nil w 13 he
      | false =>
        have : F.rdE x y = 0 := by simp [Rf.rdE, ho, hb, hbad]
        rw [this, if_pos rfl, Int.toNat_natCast, Int.toNat_natCast]
        exact rreadO_ok x y h ho hx hy hbad
    · have hb' : hasB F.n F.S i s = false := by simpa using hb
      refine (rread_bad M L F w i s h ho hb').mono fun e w' he => ?_
      have : F.rdE i s = 11 := by simp [Rf.rdE, ho, hb']
      rw [this]
      exact RetP.nil w 11 he
end

section
variable {w w' : World} {b p : Nat} {B : Bn}
theorem RbAt.lt (h : RbAt w b p B) : b < w.heap.size := lt_of_block h.row
theorem RbAt.c0 (h : RbAt w b p B) : w.cell? ⟨b, 0, none⟩ = some (.pointer (some ⟨p, 0, none⟩)) := by rw [cell_of_row w _ _ _ _ (0, 0) h.row]; rfl
theorem RbAt.c1 (h : RbAt w b p B) : w.cell? ⟨b, 1, none⟩ = some (.int .i64 B.d) := by rw [cell_of_row w _ _ _ _ (0, 0) h.row]; rfl
theorem RbAt.c2 (h : RbAt w b p B) : w.cell? ⟨b, 2, none⟩ = some (.int .i64 B.r) := by rw [cell_of_row w _ _ _ _ (0, 0) h.row]; rfl
theorem RbAt.c3 (h : RbAt w b p B) : w.cell? ⟨b, 3, none⟩ = some (.int .i64 B.s) := by rw [cell_of_row w _ _ _ _ (0, 0) h.row]; rfl
theorem RbAt.c4 (h : RbAt w b p B) : w.cell? ⟨b, 4, none⟩ = some (.int .i64 B.e) := by rw [cell_of_row w _ _ _ _ (0, 0) h.row]; rfl
theorem RbAt.c5 (h : RbAt w b p B) : w.cell? ⟨b, 5, none⟩ = some (.int .i64 B.sl) := by rw [cell_of_row w _ _ _ _ (0, 0) h.row]; rfl
theorem RbAt.c6 (h : RbAt w b p B) : w.cell? ⟨b, 6, none⟩ = some (.int .i64 B.st) := by rw [cell_of_row w _ _ _ _ (0, 0) h.row]; rfl
theorem RbAt.fr (h : RbAt w b p B) (i : Nat) : w.frozen? ⟨b, i, none⟩ = false := frozen_of_row w _ i _ _ h.row
theorem RbAt.turn {N : Nat → Prop} (h : RbAt w b p B) (ht : Turn N w w') (hn : ¬ N b) : RbAt w' b p B := ⟨(ht.block _ h.lt hn).trans h.row⟩
theorem RbAt.next (h : RbAt w b p B) (hb : Below w.heap.size w w') : RbAt w' b p B := ⟨(hb.block _ h.lt).trans h.row⟩
theorem RbAt.drew (h : RbAt w b p B) : RbAt w.drew b p B := ⟨h.row⟩
theorem RbAt.drewN (h : RbAt w b p B) (q : Nat) : RbAt (w.drewN q) b p B := h.next (below_drewN (Below.refl _ _) q)
end

section
variable {w : World} {b p : Nat} {B : Bn}
theorem rdisk_any (i : Int) (h : RbAt w b p B) : Calls Tryz.prog 61 #[.pointer (some ⟨b, 0, none⟩), .int .i64 i] w fun e w' => e = .returned (.int .i64 (B.disk i)) ∧ w' = w := by
  have c1 := h.c1
  have c5 := h.c5
  have c6 := h.c6
  unfold Bn.disk
  by_cases h0 : B.st = 0
  · rw [if_neg (by simp [h0])]
    have h2 : (B.st != 0) = false := by simp [h0]
    clear h0
    go_enter Tryz.func61, Tryz.ntmps61
    go_wp2_with (fail)
    go_ret
    exact ⟨rfl, rfl⟩
  · have h2 : (B.st != 0) = true := by simpa using h0
    by_cases h1 : i = B.sl
    · rw [if_pos ⟨h0, h1⟩]
      have h3 : (B.sl == i) = true := by simp [h1]
      clear h0 h1
      go_enter Tryz.func61, Tryz.ntmps61
      go_wp2_with (fail)
      go_ret
      exact ⟨rfl, rfl⟩
    · rw [if_neg (fun x => h1 x.2)]
      have h3 : (B.sl == i) = false := by simpa using Ne.symm h1
      clear h0 h1
      go_enter Tryz.func61, Tryz.ntmps61
      go_wp2_with (fail)
      go_ret
      exact ⟨rfl, rfl⟩

/-- The disks of the first i slots. -/
def Bn.ds (B : Bn) : Nat → List Int
  | 0 => []
  | i + 1 => B.ds i ++ [B.disk (i : Int)]
theorem ds_len (B : Bn) : ∀ i, (B.ds i).length = i
  | 0 => rfl
  | i + 1 => by unfold Bn.ds; rw [List.length_append, ds_len B i]; rfl
theorem ds_at (B : Bn) {i j : Nat} (h : j < i) : (B.ds i).getD j 0 = B.disk (j : Int) := by
  induction i with
  | zero => omega
  | succ i ih =>
    unfold Bn.ds
    rcases Nat.lt_or_ge j i with h1 | h1
    · rw [← ih h1]
      simp [List.getD, List.getElem?_append_left (show j < (B.ds i).length by rw [ds_len]; exact h1)]
    · obtain rfl : j = i := by omega
      have := ds_len B j
      simp [List.getD, this]
set_option maxHeartbeats 2000000 in
theorem rdisks_any (n : Nat) (hb : RbAt w b p B) (hd : B.d = (n : Int)) (hn : n ≤ 16) :
    Calls Tryz.prog 65 #[.pointer (some ⟨b, 0, none⟩)] w (RetI w (B.ds B.num)) := by
  have HB := Lib.hid hb
  have HD := Lib.hid hd
  have hnum : Hid (B.num = if B.st = 0 then n + 1 else n) := by
    unfold Hid Bn.num
    rw [hd, Int.toNat_natCast]
  have hbl0 : ∀ x : Obj, Below w.heap.size w (w.alloc x) := fun x => (Below.refl _ _).alloc (Nat.le_refl _) _
  have HBL0 := Lib.hid hbl0
  clear hb hd hbl0
  go_enter Tryz.func65, Tryz.ntmps65
  go_wp2_with (fail)
  go_loopw [3, 4] (fun u v wr => ∃ i : Nat, i ≤ n ∧ v = .int .i64 i ∧ OwnI wr w.heap.size u i (B.ds i) ∧ Below w.heap.size w wr) (fun _ v _ => n - (intOf v).toNat)
  case atStart => exact ⟨0, Nat.zero_le _, rfl, ownI_none _ _ (Nat.le_refl _), HBL0.out _⟩
  case round =>
    obtain ⟨i, hi, rfl, ho, hbl⟩ := hrel
    have hbk := HB.out.next hbl
    have c1 := hbk.c1
    rw [HD.out] at c1
    by_cases hlt : i < n
    · have HK := rdisk_any (i : Int) hbk
      obtain ⟨ra, rc, rfl, _, _, _, _⟩ := ho.ins
      have HO1 : Hid (OwnI (wr.alloc (.cells #[.int .i64 (B.disk (i : Int))] 3)) w.heap.size (.slice ra i rc) i (B.ds i)) := ho.alloc _
      have HB1 : Hid (Below w.heap.size w (wr.alloc (.cells #[.int .i64 (B.disk (i : Int))] 3))) := hbl.alloc hbl.size _
      have hsz := hbl.size
      clear ho hbl hbk
      go_wp2_with (first
        | (go_at_call 61; refine HK.mono ?_; clear HK; rintro e w' ⟨rfl, hw⟩; subst w')
        | (at_builtin; go_must (refine wpList_apz rfl (.tmp 15) (.tmp 19) rfl w.heap.size _ i (B.ds i) rfl HO1.out wr.heap.size (B.disk (i : Int)) rfl (by simp) (by omega) (by simp; omega) w HB1.out ?_); intro v2 w2 ho2 hb2))
      go_roundw
      case rel => exact ⟨i + 1, by omega, by go_num, ho2, hb2⟩
      case measure => simp [intOf]; omega
    · obtain rfl : i = n := by omega
      have c6 := hbk.c6
      by_cases hst : B.st = 0
      · have e1 : Hid (B.num = i + 1) := by rw [hnum.out, if_pos hst]; exact rfl
        have ed : Hid (B.disk (i : Int) = (i : Int)) := by unfold Hid Bn.disk; rw [if_neg (fun x => x.1 hst)]
        rw [hst] at c6
        obtain ⟨ra, rc, rfl, _, _, _, _⟩ := ho.ins
        have HO1 : Hid (OwnI (wr.alloc (.cells #[.int .i64 (i : Int)] 3)) w.heap.size (.slice ra i rc) i (B.ds i)) := ho.alloc _
        have HB1 : Hid (Below w.heap.size w (wr.alloc (.cells #[.int .i64 (i : Int)] 3))) := hbl.alloc hbl.size _
        have hsz := hbl.size
        clear ho hbl hbk hst hlt
        go_wp2_with (at_builtin; go_must (refine wpList_apz rfl (.tmp 27) (.tmp 33) rfl w.heap.size _ i (B.ds i) rfl HO1.out wr.heap.size (i : Int) rfl (by simp) (by omega) (by simp; omega) w HB1.out ?_); intro v2 w2 ho2 hb2)
        go_ret
        refine ⟨_, rfl, ?_, hb2⟩
        rw [e1.out]
        unfold Bn.ds
        rw [ed.out, List.length_append, ds_len]
        exact ho2
      · have e1 : Hid (B.num = i) := by rw [hnum.out, if_neg hst]; exact rfl
        have hz : (B.st == 0) = false := by simpa using hst
        have HO1 := Lib.hid ho
        have HB1 := Lib.hid hbl
        clear ho hbl hbk hst hlt
        go_wp2_with (fail)
        go_ret
        refine ⟨_, rfl, ?_, HB1.out⟩
        rw [e1.out, ds_len]
        exact HO1.out
end

def rbV (B : Bn) (F : Rf) (i k : Int) : List Int := if hasSl B.d i then F.rdV (B.disk i) k else []
def rbE (B : Bn) (F : Rf) (i k : Int) : Int := if hasSl B.d i then F.rdE (B.disk i) k else 11
def rwE (B : Bn) (F : Rf) (i k : Int) (zs : List Int) : Int := if hasSl B.d i then F.wrE (B.disk i) k zs else 11
def rw' (B : Bn) (F : Rf) (i k : Int) (zs : List Int) : Rf := if hasSl B.d i then F.wr (B.disk i) k zs else F

section
variable {M : Nat → Prop} {L : RLay} {F : Rf} {w : World} {b : Nat} {B : Bn}
theorem hasSl_cases (d i : Int) : (i < 0 ∧ hasSl d i = false) ∨ (decide (i < 0) = false ∧ d ≤ i ∧ hasSl d i = false) ∨ (decide (i < 0) = false ∧ decide (d ≤ i) = false ∧ hasSl d i = true) := by
  by_cases h0 : i < 0
  · exact .inl ⟨h0, decide_eq_false (by omega)⟩
  · by_cases h1 : d ≤ i
    · exact .inr (.inl ⟨decide_eq_false h0, h1, decide_eq_false (by omega)⟩)
    · exact .inr (.inr ⟨decide_eq_false h0, decide_eq_false h1, decide_eq_true (by omega)⟩)
set_option maxHeartbeats 1000000 in
theorem rbread_any (i k : Int) (hr : RefAt w M L F) (hb : RbAt w b L.p B) :
    Calls Tryz.prog 24 #[.pointer (some ⟨b, 0, none⟩), .int .i64 i, .int .i64 k] w (RetP w (rbV B F i k) (rbE B F i k)) := by
  unfold rbV rbE
  have c1 := hb.c1
  rcases hasSl_cases B.d i with ⟨h0, e⟩ | ⟨h0, h1, e⟩ | ⟨h0, h1, e⟩
  · rw [e]
    clear hr hb e
    go_enter Tryz.func24, Tryz.ntmps24
    go_wp2_with (fail)
    go_ret2
    exact ⟨_, rfl, own_nil _ _, Below.refl _ _⟩
  · rw [e]
    clear hr hb e
    go_enter Tryz.func24, Tryz.ntmps24
    go_wp2_with (fail)
    go_ret2
    exact ⟨_, rfl, own_nil _ _, Below.refl _ _⟩
  · rw [e]
    have hbk1 := hb.drew
    have hrk1 := hr.below (below_drewN (Below.refl _ w) 1)
    change RefAt w.drew M L F at hrk1
    have k0 := hbk1.c0
    clear hr hb e
    go_enter Tryz.func24, Tryz.ntmps24
    go_wp2_with (fail)
    refine wp_region_held_drew (S := fun w' => w'.cell? ⟨b, 0, none⟩ = some (.pointer (some ⟨L.p, 0, none⟩))) (by kernel_rfl) ?_ (fun hHeld => ?_)
    · exact k0
    refine wpAnyH_take (i := 0) (v := ?_) rfl (by kernel_rfl) (by kernel_rfl) (by kernel_rfl) (fun _ _ _ h => h) (Or.inl ⟨by rfl, fun w hSw => ?_⟩) (by assumption) ?_
    rotate_left
    · (try dsimp only at hSw); go_simp; try with_reducible rfl
    simp only [Act.put, List.setIfInBounds_toArray, List.set_cons_zero, List.set_cons_succ, List.getElem_toArray, List.getElem_cons_zero]
    refine wpAnyH_take (i := 1) (v := ?_) rfl (by kernel_rfl) (by kernel_rfl) (by kernel_rfl) (fun _ _ _ h => h) (Or.inl ⟨by rfl, fun w hSw => ?_⟩) (by assumption) ?_
    rotate_left
    · (try dsimp only at hSw); go_simp; try with_reducible rfl
    simp only [Act.put, List.setIfInBounds_toArray, List.set_cons_zero, List.set_cons_succ, List.getElem_toArray, List.getElem_cons_succ, List.getElem_cons_zero]
    refine wpAnyH_take (i := 2) (v := ?_) rfl (by kernel_rfl) (by kernel_rfl) (by kernel_rfl) (fun _ _ _ h => h) (Or.inl ⟨by rfl, fun w hSw => ?_⟩) (by assumption) ?_
    rotate_left
    · (try dsimp only at hSw); go_simp; try with_reducible rfl
    simp only [Act.put, List.setIfInBounds_toArray, List.set_cons_zero, List.set_cons_succ, List.getElem_toArray, List.getElem_cons_succ, List.getElem_cons_zero]
    refine wpAnyH_take (i := 3) (v := ?_) rfl (by kernel_rfl) (by kernel_rfl) (by kernel_rfl) (fun _ _ _ h => h) (Or.inl ⟨by rfl, fun w hSw => ?_⟩) (by assumption) ?_
    rotate_left
    · (try dsimp only at hSw); go_simp; try with_reducible rfl
    simp only [Act.put, List.setIfInBounds_toArray, List.set_cons_zero, List.set_cons_succ, List.getElem_toArray, List.getElem_cons_succ, List.getElem_cons_zero]
    refine wpAnyH_take (i := 4) (v := ?_) rfl (by kernel_rfl) (by kernel_rfl) (by kernel_rfl) (fun _ _ _ h => h) (Or.inl ⟨by rfl, fun w hSw => ?_⟩) (by assumption) ?_
    rotate_left
    · (try dsimp only at hSw); go_simp; try with_reducible rfl
    simp only [Act.put, List.setIfInBounds_toArray, List.set_cons_zero, List.set_cons_succ, List.getElem_toArray, List.getElem_cons_succ, List.getElem_cons_zero]
    refine wpAnyH_take (i := 5) (v := ?_) rfl (by kernel_rfl) (by kernel_rfl) (by kernel_rfl) (fun _ _ _ h => h) (Or.inl ⟨by rfl, fun w hSw => ?_⟩) (by assumption) ?_
    rotate_left
    · (try dsimp only at hSw); go_simp; try with_reducible rfl
    simp only [Act.put, List.setIfInBounds_toArray, List.set_cons_zero, List.set_cons_succ, List.getElem_toArray, List.getElem_cons_succ, List.getElem_cons_zero]
    refine wpAnyH_take (i := 7) (v := ?_) rfl (by kernel_rfl) (by kernel_rfl) (by kernel_rfl) (fun _ _ _ h => h) (Or.inl ⟨by rfl, fun w hSw => ?_⟩) (by assumption) ?_
    rotate_left
    · (try dsimp only at hSw); go_simp; try with_reducible rfl
    simp only [Act.put, List.setIfInBounds_toArray, List.set_cons_zero, List.set_cons_succ, List.getElem_toArray, List.getElem_cons_succ, List.getElem_cons_zero]
    refine wpAnyH_ready (rs := [6]) (by kernel_rfl) (by simp) ?_
    refine AllReadyH.cons rfl (fun K hK => ?_) AllReadyH.nil
    simp only [List.getElem_toArray, List.getElem_cons_succ, List.getElem_cons_zero]
    go_simp
    refine (rdisk_any i hbk1).mono ?_
    rintro e w2 ⟨rfl, rfl⟩
    go_wp2_with (fail)
    refine hK.out _ _ k0 (fun hHeld => ?_)
    clear hK K
    refine wpAnyH_ready (rs := [8]) (by kernel_rfl) (by simp) ?_
    refine AllReadyH.cons rfl (fun K hK => ?_) AllReadyH.nil
    simp only [List.getElem_toArray, List.getElem_cons_succ, List.getElem_cons_zero]
    go_simp
    refine (rreadP_all (B.disk i) k hrk1).mono ?_
    rintro e w3 ⟨v, rfl, hown, hb3⟩
    go_wp2_with (fail)
    refine hK.out _ _ ((hb3.cell (p := ⟨b, 0, none⟩) hbk1.lt).trans k0) (fun hHeld => ?_)
    clear hK K
    refine wpAnyH_take (i := 9) (v := ?_) rfl (by kernel_rfl) (by kernel_rfl) (by kernel_rfl) (fun _ _ _ h => h) (Or.inl ⟨by rfl, fun w hSw => ?_⟩) (by assumption) ?_
    rotate_left
    · (try dsimp only at hSw); go_simp; try with_reducible rfl
    simp only [Act.put, List.setIfInBounds_toArray, List.set_cons_zero, List.set_cons_succ, List.getElem_toArray, List.getElem_cons_succ, List.getElem_cons_zero]
    refine wpAnyH_take (i := 10) (v := ?_) rfl (by kernel_rfl) (by kernel_rfl) (by kernel_rfl) (fun _ _ _ h => h) (Or.inl ⟨by rfl, fun w hSw => ?_⟩) (by assumption) ?_
    rotate_left
    · (try dsimp only at hSw); go_simp; try with_reducible rfl
    simp only [Act.put, List.setIfInBounds_toArray, List.set_cons_zero, List.set_cons_succ, List.getElem_toArray, List.getElem_cons_succ, List.getElem_cons_zero]
    refine wpAnyH_take (i := 11) (v := ?_) rfl (by kernel_rfl) (by kernel_rfl) (by kernel_rfl) (fun _ _ _ h => h) (Or.inl ⟨by rfl, fun w hSw => ?_⟩) (by assumption) ?_
    rotate_left
    · (try dsimp only at hSw); go_simp; try with_reducible rfl
    simp only [Act.put, List.setIfInBounds_toArray, List.set_cons_zero, List.set_cons_succ, List.getElem_toArray, List.getElem_cons_succ, List.getElem_cons_zero]
    refine wpAnyH_take (i := 12) (v := ?_) rfl (by kernel_rfl) (by kernel_rfl) (by kernel_rfl) (fun _ _ _ h => h) (Or.inl ⟨by rfl, fun w hSw => ?_⟩) (by assumption) ?_
    rotate_left
    · (try dsimp only at hSw); go_simp; try with_reducible rfl
    simp only [Act.put, List.setIfInBounds_toArray, List.set_cons_zero, List.set_cons_succ, List.getElem_toArray, List.getElem_cons_succ, List.getElem_cons_zero]
    refine wpAnyH_done (by kernel_rfl) ?_ _
    go_wp2_with (fail)
    go_ret2
    exact ⟨v, rfl, hown.lower (Nat.le_refl _), undrew hb3⟩
set_option maxHeartbeats 1000000 in
theorem rbwrite_any (i k : Int) (a : Option Addr) (m c : Nat) (zs : List Int) (hr : RefAt w M L F) (hb : RbAt w b L.p B) (hbM : ¬ L.M b) (hz : Bys w a m zs) (hzM : m = 0 ∨ ∀ b off, a = some ⟨b, off, none⟩ → ¬ M b) :
    Calls Tryz.prog 27 #[.pointer (some ⟨b, 0, none⟩), .int .i64 i, .int .i64 k, .slice a m c] w (RefPost M L (rw' B F i k zs) w (.int .i64 (rwE B F i k zs))) := by
  unfold rw' rwE
  have c1 := hb.c1
  have HBM := Lib.hid hbM
  have HZM := Lib.hid hzM
  have HR := Lib.hid hr
  rcases hasSl_cases B.d i with ⟨h0, e⟩ | ⟨h0, h1, e⟩ | ⟨h0, h1, e⟩
  · rw [e]
    clear hr hb e hbM hz hzM
    go_enter Tryz.func27, Tryz.ntmps27
    go_wp2_with (fail)
    go_ret
    exact ⟨rfl, HR.out, Turn.refl _ _⟩
  · rw [e]
    clear hr hb e hbM hz hzM
    go_enter Tryz.func27, Tryz.ntmps27
    go_wp2_with (fail)
    go_ret
    exact ⟨rfl, HR.out, Turn.refl _ _⟩
  · rw [e]
    have hbk1 := hb.drew
    have hrk1 := hr.below (below_drewN (Below.refl _ w) 1)
    change RefAt w.drew M L F at hrk1
    have hz1 : Bys w.drew a m zs := hz.below (Nat.le_refl _) (below_drewN (Below.refl _ _) 1)
    have k0 := hbk1.c0
    clear hr hb e hbM hz hzM
    go_enter Tryz.func27, Tryz.ntmps27
    go_wp2_with (fail)
    refine wp_region_held_drew (S := fun w' => w'.cell? ⟨b, 0, none⟩ = some (.pointer (some ⟨L.p, 0, none⟩))) (by kernel_rfl) ?_ (fun hHeld => ?_)
    · exact k0
    refine wpAnyH_take (i := 0) (v := ?_) rfl (by kernel_rfl) (by kernel_rfl) (by kernel_rfl) (fun _ _ _ h => h) (Or.inl ⟨by rfl, fun w hSw => ?_⟩) (by assumption) ?_
    rotate_left
    · (try dsimp only at hSw); go_simp; try with_reducible rfl
    simp only [Act.put, List.setIfInBounds_toArray, List.set_cons_zero, List.set_cons_succ, List.getElem_toArray, List.getElem_cons_zero]
    refine wpAnyH_take (i := 1) (v := ?_) rfl (by kernel_rfl) (by kernel_rfl) (by kernel_rfl) (fun _ _ _ h => h) (Or.inl ⟨by rfl, fun w hSw => ?_⟩) (by assumption) ?_
    rotate_left
    · (try dsimp only at hSw); go_simp; try with_reducible rfl
    simp only [Act.put, List.setIfInBounds_toArray, List.set_cons_zero, List.set_cons_succ, List.getElem_toArray, List.getElem_cons_succ, List.getElem_cons_zero]
    refine wpAnyH_take (i := 2) (v := ?_) rfl (by kernel_rfl) (by kernel_rfl) (by kernel_rfl) (fun _ _ _ h => h) (Or.inl ⟨by rfl, fun w hSw => ?_⟩) (by assumption) ?_
    rotate_left
    · (try dsimp only at hSw); go_simp; try with_reducible rfl
    simp only [Act.put, List.setIfInBounds_toArray, List.set_cons_zero, List.set_cons_succ, List.getElem_toArray, List.getElem_cons_succ, List.getElem_cons_zero]
    refine wpAnyH_take (i := 3) (v := ?_) rfl (by kernel_rfl) (by kernel_rfl) (by kernel_rfl) (fun _ _ _ h => h) (Or.inl ⟨by rfl, fun w hSw => ?_⟩) (by assumption) ?_
    rotate_left
    · (try dsimp only at hSw); go_simp; try with_reducible rfl
    simp only [Act.put, List.setIfInBounds_toArray, List.set_cons_zero, List.set_cons_succ, List.getElem_toArray, List.getElem_cons_succ, List.getElem_cons_zero]
    refine wpAnyH_take (i := 4) (v := ?_) rfl (by kernel_rfl) (by kernel_rfl) (by kernel_rfl) (fun _ _ _ h => h) (Or.inl ⟨by rfl, fun w hSw => ?_⟩) (by assumption) ?_
    rotate_left
    · (try dsimp only at hSw); go_simp; try with_reducible rfl
    simp only [Act.put, List.setIfInBounds_toArray, List.set_cons_zero, List.set_cons_succ, List.getElem_toArray, List.getElem_cons_succ, List.getElem_cons_zero]
    refine wpAnyH_take (i := 5) (v := ?_) rfl (by kernel_rfl) (by kernel_rfl) (by kernel_rfl) (fun _ _ _ h => h) (Or.inl ⟨by rfl, fun w hSw => ?_⟩) (by assumption) ?_
    rotate_left
    · (try dsimp only at hSw); go_simp; try with_reducible rfl
    simp only [Act.put, List.setIfInBounds_toArray, List.set_cons_zero, List.set_cons_succ, List.getElem_toArray, List.getElem_cons_succ, List.getElem_cons_zero]
    refine wpAnyH_take (i := 7) (v := ?_) rfl (by kernel_rfl) (by kernel_rfl) (by kernel_rfl) (fun _ _ _ h => h) (Or.inl ⟨by rfl, fun w hSw => ?_⟩) (by assumption) ?_
    rotate_left
    · (try dsimp only at hSw); go_simp; try with_reducible rfl
    simp only [Act.put, List.setIfInBounds_toArray, List.set_cons_zero, List.set_cons_succ, List.getElem_toArray, List.getElem_cons_succ, List.getElem_cons_zero]
    refine wpAnyH_take (i := 8) (v := ?_) rfl (by kernel_rfl) (by kernel_rfl) (by kernel_rfl) (fun _ _ _ h => h) (Or.inl ⟨by rfl, fun w hSw => ?_⟩) (by assumption) ?_
    rotate_left
    · (try dsimp only at hSw); go_simp; try with_reducible rfl
    simp only [Act.put, List.setIfInBounds_toArray, List.set_cons_zero, List.set_cons_succ, List.getElem_toArray, List.getElem_cons_succ, List.getElem_cons_zero]
    refine wpAnyH_ready (rs := [6]) (by kernel_rfl) (by simp) ?_
    refine AllReadyH.cons rfl (fun K hK => ?_) AllReadyH.nil
    simp only [List.getElem_toArray, List.getElem_cons_succ, List.getElem_cons_zero]
    go_simp
    refine (rdisk_any i hbk1).mono ?_
    rintro e w2 ⟨rfl, rfl⟩
    go_wp2_with (fail)
    refine hK.out _ _ k0 (fun hHeld => ?_)
    clear hK K
    refine wpAnyH_ready (rs := [9]) (by kernel_rfl) (by simp) ?_
    refine AllReadyH.cons rfl (fun K hK => ?_) AllReadyH.nil
    simp only [List.getElem_toArray, List.getElem_cons_succ, List.getElem_cons_zero]
    go_simp
    refine (rwrite_all (B.disk i) k a m c zs hrk1 hz1 HZM.out).mono ?_
    rintro e w3 ⟨rfl, hr3, ht3⟩
    go_wp2_with (fail)
    refine hK.out _ _ ((ht3.cell (a := ⟨b, 0, none⟩) hbk1.lt HBM.out).trans k0) (fun hHeld => ?_)
    clear hK K
    refine wpAnyH_take (i := 10) (v := ?_) rfl (by kernel_rfl) (by kernel_rfl) (by kernel_rfl) (fun _ _ _ h => h) (Or.inl ⟨by rfl, fun w hSw => ?_⟩) (by assumption) ?_
    rotate_left
    · (try dsimp only at hSw); go_simp; try with_reducible rfl
    simp only [Act.put, List.setIfInBounds_toArray, List.set_cons_zero, List.set_cons_succ, List.getElem_toArray, List.getElem_cons_succ, List.getElem_cons_zero]
    refine wpAnyH_done (by kernel_rfl) ?_ _
    go_wp2_with (fail)
    go_ret
    exact ⟨rfl, hr3, ht3.undrw⟩
end

end Go.Proofs.YtoiidhpohghiaaaGreat
