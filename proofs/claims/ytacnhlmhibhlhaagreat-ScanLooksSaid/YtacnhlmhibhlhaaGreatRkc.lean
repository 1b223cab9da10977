/-
  The reference's bank: its disk, disks, Read, Write, Join, by contract.
-/
import Derived.Test.YtacnhlmhibhlhaaGreatRop
import Derived.Test.YtacnhlmhibhlhaaGreatRkb
import Derived.Test.YtacnhlmhibhlhaaGreatBkb
set_option linter.unusedSimpArgs false
set_option linter.unusedVariables false
namespace Go.Proofs.YtacnhlmhibhlhaaGreat
open Go.RowKit Go.Maps
set_option linter.unusedVariables false

section
variable {M : Nat → Prop} {L : RLay} {F : Rf} {w : World}
theorem rreadO_ok (i s : Nat) (h : RefAt w M L F) (hd : F.dead = false) (hi : i < F.n) (hs : s < F.S) (hb : F.bad i = false) :
    Calls Tryz.prog 84 #[.pointer (some ⟨L.p, 0, none⟩), .int .i64 i, .int .i64 s] w (RetP w (F.rd (i * F.S + s)) 0) := by
  have ht := there_yes M L F w i s h (hasB_yes (by omega) (by omega) (by omega) (by omega))
  obtain ⟨fl, fc, h⟩ := h
  have few := h.few
  have fewS := h.fewS
  obtain ⟨k, N, hN, hk, hkN, hkE, m0, m1⟩ := place hi hs few fewS
  have c7 := h.c7
  have c4 := h.c4
  have c1 := h.c1
  have c2 := h.c2
  have c3 := h.c3
  have b0 := h.cb.cell hi
  have l0 := h.cl.cell (k := k) (by rw [← hN.out]; exact hkN)
  have l1 := h.cc.cell (k := k) (by rw [← hN.out]; exact hkN)
  have hL := h.last k (by rw [← hN.out]; exact hkN)
  have hC := h.cach k (by rw [← hN.out]; exact hkN)
  rw [← hk.out]
  rw [← hN.out] at c2 c3
  rw [hd] at c7
  simp only [hb] at b0
  clear hd hb
  rcases hC with ⟨e0, e1⟩ | ⟨zs, e0, g, c, e1, hg, hy⟩
  · obtain ⟨g, c, e2, hg, hy⟩ := hL
    have er : F.rd k = F.L k := by simp [Rf.rd, e0]
    rw [er]
    rw [e1] at l1
    rw [e2] at l0
    have hcp := copy_any (some ⟨g, 0, none⟩) 64 c _ w hy (fun e => by cases e) (by omega)
    clear e0 e1 e2 er hy
    go_enter Tryz.func84, Tryz.ntmps84
    go_wp2_with (first
      | (go_at_call 77; refine ht.mono ?_; rintro e w' ⟨rfl, rfl⟩)
      | (go_at_call 86; refine hcp.mono ?_; rintro e w1 ⟨v1, rfl, ho1, hb1⟩))
    go_ret2
    exact ⟨v1, rfl, own_len ho1, hb1⟩
  · have er : F.rd k = zs := by simp [Rf.rd, e0]
    rw [er]
    rw [e1] at l1
    have hcp := copy_any (some ⟨g, 0, none⟩) 64 c _ w hy (fun e => by cases e) (by omega)
    clear e0 e1 er hy
    go_enter Tryz.func84, Tryz.ntmps84
    go_wp2_with (first
      | (go_at_call 77; refine ht.mono ?_; rintro e w' ⟨rfl, rfl⟩)
      | (go_at_call 86; refine hcp.mono ?_; rintro e w1 ⟨v1, rfl, ho1, hb1⟩))
    go_ret2
    exact ⟨v1, rfl, own_len ho1, hb1⟩

theorem rreadP_all (i s : Int) (h : RefAt w M L F) :
    Calls Tryz.prog 84 #[.pointer (some ⟨L.p, 0, none⟩), .int .i64 i, .int .i64 s] w (RetP w (F.rdV i s) (F.rdE i s)) := by
  unfold Rf.rdV
  cases ho : F.dead with
  | true =>
    refine (rread_dead M L F w i s h ho).mono fun e w' he => ?_
    have : F.rdE i s = 12 := by simp [Rf.rdE, ho]
    rw [this]
    exact RetP.nil w 12 he
  | false =>
    by_cases hb : hasB F.n F.S i s = true
    · obtain ⟨x, y, rfl, rfl, hx, hy⟩ := hasB_nat hb
      cases hbad : F.bad x with
      | true =>
        refine (rread_failed M L F w x y h ho hx hy hbad).mono fun e w' he => ?_
        have : F.rdE x y = 13 := by simp [Rf.rdE, ho, hb, hbad]
        rw [this]
        exact RetP.nil w 13 he
      | false =>
        have : F.rdE x y = 0 := by simp [Rf.rdE, ho, hb, hbad]
        rw [this, if_pos rfl, Int.toNat_natCast, Int.toNat_natCast]
        exact rreadO_ok x y h ho hx hy hbad
    · have hb' : hasB F.n F.S i s = false := by simpa using hb
      refine (rread_bad M L F w i s h ho hb').mono fun e w' he => ?_
      have : F.rdE i s = 11 := by simp [Rf.rdE, ho, hb']
      rw [this]
      exact RetP.nil w 11 he
end

section
variable {w w' : World} {b p : Nat} {B : Bn}
theorem RbAt.lt (h : RbAt w b p B) : b < w.heap.size := lt_of_block h.row
theorem RbAt.c0 (h : RbAt w b p B) : w.cell? ⟨b, 0, none⟩ = some (.pointer (some ⟨p, 0, none⟩)) := by rw [cell_of_row w _ _ _ _ (0, 0) h.row]; rfl
theorem RbAt.c1 (h : RbAt w b p B) : w.cell? ⟨b, 1, none⟩ = some (.int .i64 B.d) := by rw [cell_of_row w _ _ _ _ (0, 0) h.row]; rfl
theorem RbAt.c2 (h : RbAt w b p B) : w.cell? ⟨b, 2, none⟩ = some (.int .i64 B.r) := by rw [cell_of_row w _ _ _ _ (0, 0) h.row]; rfl
theorem RbAt.c3 (h : RbAt w b p B) : w.cell? ⟨b, 3, none⟩ = some (.int .i64 B.s) := by rw [cell_of_row w _ _ _ _ (0, 0) h.row]; rfl
theorem RbAt.c5 (h : RbAt w b p B) : w.cell? ⟨b, 5, none⟩ = some (.int .i64 B.sl) := by rw [cell_of_row w _ _ _ _ (0, 0) h.row]; rfl
theorem RbAt.c6 (h : RbAt w b p B) : w.cell? ⟨b, 6, none⟩ = some (.int .i64 B.st) := by rw [cell_of_row w _ _ _ _ (0, 0) h.row]; rfl
theorem RbAt.turn {N : Nat → Prop} (h : RbAt w b p B) (ht : Turn N w w') (hn : ¬ N b) : RbAt w' b p B := ⟨(ht.block _ h.lt hn).trans h.row⟩
theorem RbAt.next (h : RbAt w b p B) (hb : Below w.heap.size w w') : RbAt w' b p B := ⟨(hb.block _ h.lt).trans h.row⟩
theorem RbAt.drew (h : RbAt w b p B) : RbAt w.drew b p B := ⟨h.row⟩
theorem RbAt.drewN (h : RbAt w b p B) (q : Nat) : RbAt (w.drewN q) b p B := h.next (below_drewN (Below.refl _ _) q)
end

section
variable {w : World} {b p : Nat} {B : Bn}
theorem rdisk_any (i : Int) (h : RbAt w b p B) : Calls Tryz.prog 76 #[.pointer (some ⟨b, 0, none⟩), .int .i64 i] w fun e w' => e = .returned (.int .i64 (B.disk i)) ∧ w' = w := by
  have c1 := h.c1
  have c5 := h.c5
  have c6 := h.c6
  unfold Bn.disk
  by_cases h0 : B.st = 0
  · rw [if_neg (by simp [h0])]
    have h2 : (B.st != 0) = false := by simp [h0]
    clear h0
    go_enter Tryz.func76, Tryz.ntmps76
    go_wp2_with (fail)
    go_ret
    exact ⟨rfl, rfl⟩
  · have h2 : (B.st != 0) = true := by simpa using h0
    by_cases h1 : i = B.sl
    · rw [if_pos ⟨h0, h1⟩]
      have h3 : (B.sl == i) = true := by simp [h1]
      clear h0 h1
      go_enter Tryz.func76, Tryz.ntmps76
      go_wp2_with (fail)
      go_ret
      exact ⟨rfl, rfl⟩
    · rw [if_neg (fun x => h1 x.2)]
      have h3 : (B.sl == i) = false := by simpa using Ne.symm h1
      clear h0 h1
      go_enter Tryz.func76, Tryz.ntmps76
      go_wp2_with (fail)
      go_ret
      exact ⟨rfl, rfl⟩

/-- The disks of the first i slots. -/
def Bn.ds (B : Bn) : Nat → List Int
  | 0 => []
  | i + 1 => B.ds i ++ [B.disk (i : Int)]
theorem ds_len (B : Bn) : ∀ i, (B.ds i).length = i
  | 0 => rfl
  | i + 1 => by unfold Bn.ds; rw [List.length_append, ds_len B i]; rfl
theorem ds_at (B : Bn) {i j : Nat} (h : j < i) : (B.ds i).getD j 0 = B.disk (j : Int) := by
  induction i with
  | zero => omega
  | succ i ih =>
    unfold Bn.ds
    rcases Nat.lt_or_ge j i with h1 | h1
    · rw [← ih h1]
      simp [List.getD, List.getElem?_append_left (show j < (B.ds i).length by rw [ds_len]; exact h1)]
    · obtain rfl : j = i := by omega
      have := ds_len B j
      simp [List.getD, this]
set_option maxHeartbeats 2000000 in
theorem rdisks_any (n : Nat) (hb : RbAt w b p B) (hd : B.d = (n : Int)) (hn : n ≤ 16) :
    Calls Tryz.prog 38 #[.pointer (some ⟨b, 0, none⟩)] w (RetI w (B.ds B.num)) := by
  have HB := Lib.hid hb
  have HD := Lib.hid hd
  have hnum : Hid (B.num = if B.st = 0 then n + 1 else n) := by
    unfold Hid Bn.num
    rw [hd, Int.toNat_natCast]
  have hbl0 : ∀ x : Obj, Below w.heap.size w (w.alloc x) := fun x => (Below.refl _ _).alloc (Nat.le_refl _) _
  have HBL0 := Lib.hid hbl0
  clear hb hd hbl0
  go_enter Tryz.func38, Tryz.ntmps38
  go_wp2_with (fail)
  go_loopw [3, 4] (fun u v wr => ∃ i : Nat, i ≤ n ∧ v = .int .i64 i ∧ OwnI wr w.heap.size u i (B.ds i) ∧ Below w.heap.size w wr) (fun _ v _ => n - (RowKit.intOf v).toNat)
  case atStart => exact ⟨0, Nat.zero_le _, rfl, ownI_none _ _ (Nat.le_refl _), HBL0.out _⟩
  case round =>
    obtain ⟨i, hi, rfl, ho, hbl⟩ := hrel
    have hbk := HB.out.next hbl
    have c1 := hbk.c1
    rw [HD.out] at c1
    by_cases hlt : i < n
    · have HK := rdisk_any (i : Int) hbk
      obtain ⟨ra, rc, rfl, _, _, _, _⟩ := ho.ins
      have HO1 : Hid (OwnI (wr.alloc (.cells #[.int .i64 (B.disk (i : Int))] 3)) w.heap.size (.slice ra i rc) i (B.ds i)) := ho.alloc _
      have HB1 : Hid (Below w.heap.size w (wr.alloc (.cells #[.int .i64 (B.disk (i : Int))] 3))) := hbl.alloc hbl.size _
      have hsz := hbl.size
      clear ho hbl hbk
      go_wp2_with (first
        | (go_at_call 76; refine HK.mono ?_; clear HK; rintro e w' ⟨rfl, hw⟩; subst w')
        | (at_builtin; go_must (refine wpList_apz rfl (.tmp 15) (.tmp 19) rfl w.heap.size _ i (B.ds i) rfl HO1.out wr.heap.size (B.disk (i : Int)) rfl (by simp) (by omega) (by simp; omega) w HB1.out ?_); intro v2 w2 ho2 hb2))
      go_roundw
      case rel => exact ⟨i + 1, by omega, by go_num, ho2, hb2⟩
      case measure => simp [RowKit.intOf]; omega
    · obtain rfl : i = n := by omega
      have c6 := hbk.c6
      by_cases hst : B.st = 0
      · have e1 : Hid (B.num = i + 1) := by rw [hnum.out, if_pos hst]; exact rfl
        have ed : Hid (B.disk (i : Int) = (i : Int)) := by unfold Hid Bn.disk; rw [if_neg (fun x => x.1 hst)]
        rw [hst] at c6
        obtain ⟨ra, rc, rfl, _, _, _, _⟩ := ho.ins
        have HO1 : Hid (OwnI (wr.alloc (.cells #[.int .i64 (i : Int)] 3)) w.heap.size (.slice ra i rc) i (B.ds i)) := ho.alloc _
        have HB1 : Hid (Below w.heap.size w (wr.alloc (.cells #[.int .i64 (i : Int)] 3))) := hbl.alloc hbl.size _
        have hsz := hbl.size
        clear ho hbl hbk hst hlt
        go_wp2_with (at_builtin; go_must (refine wpList_apz rfl (.tmp 27) (.tmp 33) rfl w.heap.size _ i (B.ds i) rfl HO1.out wr.heap.size (i : Int) rfl (by simp) (by omega) (by simp; omega) w HB1.out ?_); intro v2 w2 ho2 hb2)
        go_ret
        refine ⟨_, rfl, ?_, hb2⟩
        rw [e1.out]
        unfold Bn.ds
        rw [ed.out, List.length_append, ds_len]
        exact ho2
      · have e1 : Hid (B.num = i) := by rw [hnum.out, if_neg hst]; exact rfl
        have hz : (B.st == 0) = false := by simpa using hst
        have HO1 := Lib.hid ho
        have HB1 := Lib.hid hbl
        clear ho hbl hbk hst hlt
        go_wp2_with (fail)
        go_ret
        refine ⟨_, rfl, ?_, HB1.out⟩
        rw [e1.out, ds_len]
        exact HO1.out
end

def rcV (B : Bn) (F : Rf) (i k : Int) : List Int := if hasSl B.d i then F.rdV (B.disk i) k else []
def rcE (B : Bn) (F : Rf) (i k : Int) : Int := if hasSl B.d i then F.rdE (B.disk i) k else 11
section
variable {M : Nat → Prop} {L : RLay} {F : Rf} {w : World} {b : Nat} {B : Bn}
theorem hasSl_cases (d i : Int) : (i < 0 ∧ hasSl d i = false) ∨ (decide (i < 0) = false ∧ d ≤ i ∧ hasSl d i = false) ∨ (decide (i < 0) = false ∧ decide (d ≤ i) = false ∧ hasSl d i = true) := by
  by_cases h0 : i < 0
  · exact .inl ⟨h0, decide_eq_false (by omega)⟩
  · by_cases h1 : d ≤ i
    · exact .inr (.inl ⟨decide_eq_false h0, h1, decide_eq_false (by omega)⟩)
    · exact .inr (.inr ⟨decide_eq_false h0, decide_eq_false h1, decide_eq_true (by omega)⟩)
set_option maxHeartbeats 1000000 in
theorem rbread_any (i k : Int) (hr : RefAt w M L F) (hb : RbAt w b L.p B) :
    Calls Tryz.prog 89 #[.pointer (some ⟨b, 0, none⟩), .int .i64 i, .int .i64 k] w (RetP w (rcV B F i k) (rcE B F i k)) := by
  unfold rcV rcE
  have c1 := hb.c1
  rcases hasSl_cases B.d i with ⟨h0, e⟩ | ⟨h0, h1, e⟩ | ⟨h0, h1, e⟩
  · rw [e]
    clear hr hb e
    go_enter Tryz.func89, Tryz.ntmps89
    go_wp2_with (fail)
    go_ret2
    exact ⟨_, rfl, own_nil _ _, Below.refl _ _⟩
  · rw [e]
    clear hr hb e
    go_enter Tryz.func89, Tryz.ntmps89
    go_wp2_with (fail)
    go_ret2
    exact ⟨_, rfl, own_nil _ _, Below.refl _ _⟩
  · rw [e]
    have hbk1 := hb.drew
    have hrk1 := hr.below (below_drewN (Below.refl _ w) 1)
    change RefAt w.drew M L F at hrk1
    have k0 := hbk1.c0
    clear hr hb e
    go_enter Tryz.func89, Tryz.ntmps89
    go_wp2_with (fail)
    refine wp_region_held_drew (S := fun w' => w'.cell? ⟨b, 0, none⟩ = some (.pointer (some ⟨L.p, 0, none⟩))) (by kernel_rfl) ?_ (fun hHeld => ?_)
    · exact k0
    refine rgY 0 ?_ rfl (by kernel_rfl) (fun _ _ _ h => h) (.inl ⟨by rfl, fun w hSw => ?_⟩) (by assumption) ?_
    rotate_left
    · (try dsimp only at hSw); go_simp; try with_reducible rfl
    simp only [Act.put, rg1, rg2, rg3, rg4, rg6]
    refine rgY 1 ?_ rfl (by kernel_rfl) (fun _ _ _ h => h) (.inl ⟨by rfl, fun w hSw => ?_⟩) (by assumption) ?_
    rotate_left
    · (try dsimp only at hSw); go_simp; try with_reducible rfl
    simp only [Act.put, rg1, rg2, rg3, rg4, rg5, rg6]
    refine rgY 2 ?_ rfl (by kernel_rfl) (fun _ _ _ h => h) (.inl ⟨by rfl, fun w hSw => ?_⟩) (by assumption) ?_
    rotate_left
    · (try dsimp only at hSw); go_simp; try with_reducible rfl
    simp only [Act.put, rg1, rg2, rg3, rg4, rg5, rg6]
    refine rgY 3 ?_ rfl (by kernel_rfl) (fun _ _ _ h => h) (.inl ⟨by rfl, fun w hSw => ?_⟩) (by assumption) ?_
    rotate_left
    · (try dsimp only at hSw); go_simp; try with_reducible rfl
    simp only [Act.put, rg1, rg2, rg3, rg4, rg5, rg6]
    refine rgY 4 ?_ rfl (by kernel_rfl) (fun _ _ _ h => h) (.inl ⟨by rfl, fun w hSw => ?_⟩) (by assumption) ?_
    rotate_left
    · (try dsimp only at hSw); go_simp; try with_reducible rfl
    simp only [Act.put, rg1, rg2, rg3, rg4, rg5, rg6]
    refine rgY 5 ?_ rfl (by kernel_rfl) (fun _ _ _ h => h) (.inl ⟨by rfl, fun w hSw => ?_⟩) (by assumption) ?_
    rotate_left
    · (try dsimp only at hSw); go_simp; try with_reducible rfl
    simp only [Act.put, rg1, rg2, rg3, rg4, rg5, rg6]
    refine rgY 7 ?_ rfl (by kernel_rfl) (fun _ _ _ h => h) (.inl ⟨by rfl, fun w hSw => ?_⟩) (by assumption) ?_
    rotate_left
    · (try dsimp only at hSw); go_simp; try with_reducible rfl
    simp only [Act.put, rg1, rg2, rg3, rg4, rg5, rg6]
    refine wpAnyH_ready (rs := [6]) (by kernel_rfl) (by simp) ?_
    refine AllReadyH.cons rfl (fun K hK => ?_) AllReadyH.nil
    simp only [List.getElem_toArray, List.getElem_cons_succ, List.getElem_cons_zero]
    go_simp
    refine (rdisk_any i hbk1).mono ?_
    rintro e w2 ⟨rfl, rfl⟩
    go_wp2_with (fail)
    refine hK.out _ _ k0 (fun hHeld => ?_)
    clear hK K
    refine wpAnyH_ready (rs := [8]) (by kernel_rfl) (by simp) ?_
    refine AllReadyH.cons rfl (fun K hK => ?_) AllReadyH.nil
    simp only [List.getElem_toArray, List.getElem_cons_succ, List.getElem_cons_zero]
    go_simp
    refine (rreadP_all (B.disk i) k hrk1).mono ?_
    rintro e w3 ⟨v, rfl, hown, hb3⟩
    go_wp2_with (fail)
    refine hK.out _ _ ((hb3.cell (p := ⟨b, 0, none⟩) hbk1.lt).trans k0) (fun hHeld => ?_)
    clear hK K
    refine rgY 9 ?_ rfl (by kernel_rfl) (fun _ _ _ h => h) (.inl ⟨by rfl, fun w hSw => ?_⟩) (by assumption) ?_
    rotate_left
    · (try dsimp only at hSw); go_simp; try with_reducible rfl
    simp only [Act.put, rg1, rg2, rg3, rg4, rg5, rg6]
    refine rgY 10 ?_ rfl (by kernel_rfl) (fun _ _ _ h => h) (.inl ⟨by rfl, fun w hSw => ?_⟩) (by assumption) ?_
    rotate_left
    · (try dsimp only at hSw); go_simp; try with_reducible rfl
    simp only [Act.put, rg1, rg2, rg3, rg4, rg5, rg6]
    refine rgY 11 ?_ rfl (by kernel_rfl) (fun _ _ _ h => h) (.inl ⟨by rfl, fun w hSw => ?_⟩) (by assumption) ?_
    rotate_left
    · (try dsimp only at hSw); go_simp; try with_reducible rfl
    simp only [Act.put, rg1, rg2, rg3, rg4, rg5, rg6]
    refine rgY 12 ?_ rfl (by kernel_rfl) (fun _ _ _ h => h) (.inl ⟨by rfl, fun w hSw => ?_⟩) (by assumption) ?_
    rotate_left
    · (try dsimp only at hSw); go_simp; try with_reducible rfl
    simp only [Act.put, rg1, rg2, rg3, rg4, rg5, rg6]
    refine wpAnyH_done (by kernel_rfl) ?_ _
    go_wp2_with (fail)
    go_ret2
    exact ⟨v, rfl, hown.lower (Nat.le_refl _), undrew hb3⟩
end

end Go.Proofs.YtacnhlmhibhlhaaGreat

/-
  The reference's bank: its Bad and Join, by contract.
-/
namespace Go.Proofs.YtacnhlmhibhlhaaGreat
open Go.RowKit Go.Maps
set_option linter.unusedVariables false

def rbadP (B : Bn) (F : Rf) (i : Int) : Bool := decide (B.st = 1 ∧ i = B.sl) || F.failed (B.disk i)
def rbadL (B : Bn) (F : Rf) : Nat → List Int
  | 0 => []
  | i + 1 => if rbadP B F (i : Int) then rbadL B F i ++ [(i : Int)] else rbadL B F i
theorem rbadL_len (B : Bn) (F : Rf) (i : Nat) : (rbadL B F i).length ≤ i := by
  induction i with
  | zero => exact Nat.le_refl _
  | succ i ih =>
    unfold rbadL
    split
    · simp; omega
    · omega

section
variable {M : Nat → Prop} {L : RLay} {F : Rf} {w : World} {b : Nat} {B : Bn}
theorem RefAt.sub (h : RefAt w M L F) : ∀ k, L.M k → M k := by obtain ⟨fl, fc, h⟩ := h; exact h.sub
theorem RefAt.low (h : RefAt w M L F) : ∀ k, M k → k < w.heap.size := by obtain ⟨fl, fc, h⟩ := h; exact h.low
set_option maxHeartbeats 4000000 in
theorem rbad_any (n : Nat) (hr : RefAt w M L F) (hb : RbAt w b L.p B) (hd : B.d = (n : Int)) (hn : n ≤ 16) :
    Calls Tryz.prog 87 #[.pointer (some ⟨b, 0, none⟩)] w (RetI w (rbadL B F n)) := by
  have HR := Lib.hid hr
  have HB := Lib.hid hb
  have HDD := Lib.hid hd
  have hbl0 : ∀ x : Obj, Below w.heap.size w (w.alloc x) := fun x => (Below.refl _ _).alloc (Nat.le_refl _) _
  have HBL0 := Lib.hid hbl0
  clear hr hb hd hbl0
  go_enter Tryz.func87, Tryz.ntmps87
  go_wp2_with (fail)
  go_loopw [3, 4] (fun u v wr => ∃ i : Nat, i ≤ n ∧ v = .int .i64 i ∧ OwnI wr w.heap.size u (rbadL B F i).length (rbadL B F i) ∧ Below w.heap.size w wr) (fun _ v _ => n - (RowKit.intOf v).toNat)
  case atStart => exact ⟨0, Nat.zero_le _, rfl, ownI_none _ _ (Nat.le_refl _), HBL0.out _⟩
  case round =>
    obtain ⟨i, hi, rfl, ho, hbl⟩ := hrel
    have hbk := HB.out.next hbl
    have c1 := hbk.c1
    rw [HDD.out] at c1
    by_cases hlt : i < n
    · have hrk := HR.out.below hbl
      have c0 := hbk.c0
      have c5 := hbk.c5
      have c6 := hbk.c6
      have HD : Hid (∀ q, Calls Tryz.prog 76 #[.pointer (some ⟨b, 0, none⟩), .int .i64 i] (wr.drewN q) fun e w' => e = .returned (.int .i64 (B.disk (i : Int))) ∧ w' = wr.drewN q) := fun q => rdisk_any (i : Int) (hbk.drewN q)
      have HF : Hid (∀ q, Calls Tryz.prog 126 #[.pointer (some ⟨L.p, 0, none⟩), .int .i64 (B.disk (i : Int))] (wr.drewN q) fun e w' => e = .returned (.bool (F.failed (B.disk (i : Int)))) ∧ w' = wr.drewN q) := fun q => (rfailed M L F (wr.drewN q) (B.disk (i : Int)) (hrk.below (below_drewN (Below.refl _ _) q))).mono fun e w' h => ⟨h.1, h.2.symm⟩
      obtain ⟨ra, rc, rfl, hins, hnc, hcm, hrb⟩ := ho.ins
      have HO := Lib.hid ho
      have HBL := Lib.hid hbl
      have hll := rbadL_len B F i
      have hJ : Hid (rbadP B F (i : Int) = (decide (B.st = 1 ∧ (i : Int) = B.sl) || F.failed (B.disk (i : Int)))) := Lib.hid rfl
      have HLL : Hid ((rbadL B F i).length + 1 ≤ 1000000000000) := by unfold Hid; omega
      have hsz := hbl.size
      clear ho hbl hins hnc hcm hrb hll hbk hrk
      cases hf : F.failed (B.disk (i : Int)) with
      | true =>
        rw [hf] at HF
        have HS : Hid (rbadL B F (i + 1) = rbadL B F i ++ [(i : Int)]) := by
          show (if _ then _ else _) = _
          rw [if_pos (by rw [hJ.out]; first | rw [hf, Bool.or_true] | rw [decide_eq_true (⟨e1, e2⟩ : B.st = 1 ∧ (i : Int) = B.sl)]; rfl)]
        clear hJ hf
        go_wp2_with (fail)
        go_quiet (first | (go_at_call 76; exact Calls.quiet_of_same (HD.out _)) | (go_at_call 126; exact Calls.quiet_of_same (HF.out _)))
        obtain ⟨W1, hW1⟩ : ∃ W1, W1 = wr.drewN nq := ⟨_, rfl⟩
        have HO1 : Hid (OwnI (W1.alloc (.cells #[.int .i64 (i : Int)] 3)) w.heap.size (.slice ra (rbadL B F i).length rc) (rbadL B F i).length (rbadL B F i)) := by rw [hW1]; exact (HO.out.next (below_drewN (Below.refl _ _) nq)).alloc _
        have HB1 : Hid (Below w.heap.size w (W1.alloc (.cells #[.int .i64 (i : Int)] 3))) := by rw [hW1]; exact (below_drewN HBL.out nq).alloc (by simpa using hsz) _
        have hsz1 : w.heap.size ≤ W1.heap.size := by rw [hW1]; simpa using hsz
        rw [← hW1]
        clear hW1
        go_wp2_with (at_builtin; go_must (refine wpList_apz rfl (.tmp 40) (.tmp 42) rfl w.heap.size _ (rbadL B F i).length (rbadL B F i) rfl HO1.out W1.heap.size (i : Int) rfl (by simp) HLL.out (by simp; omega) w HB1.out ?_); intro v2 w2 ho2 hb2)
        go_roundw
        case rel => exact ⟨i + 1, by omega, by go_num, by rw [HS.out, List.length_append, List.length_singleton]; exact ho2, hb2⟩
        case measure => simp [RowKit.intOf]; omega
      | false =>
        rw [hf] at HF
        by_cases e1 : B.st = 1
        · have g1 : (B.st == 1) = true := by simpa using e1
          by_cases e2 : (i : Int) = B.sl
          · have g2 : (B.sl == (i : Int)) = true := by simp [e2]
            have HS : Hid (rbadL B F (i + 1) = rbadL B F i ++ [(i : Int)]) := by
              show (if _ then _ else _) = _
              rw [if_pos (by rw [hJ.out]; first | rw [hf, Bool.or_true] | rw [decide_eq_true (⟨e1, e2⟩ : B.st = 1 ∧ (i : Int) = B.sl)]; rfl)]
            clear hJ hf e1 e2
            go_wp2_with (fail)
            go_quiet (first | (go_at_call 76; exact Calls.quiet_of_same (HD.out _)) | (go_at_call 126; exact Calls.quiet_of_same (HF.out _)))
            obtain ⟨W1, hW1⟩ : ∃ W1, W1 = wr.drewN nq := ⟨_, rfl⟩
            have HO1 : Hid (OwnI (W1.alloc (.cells #[.int .i64 (i : Int)] 3)) w.heap.size (.slice ra (rbadL B F i).length rc) (rbadL B F i).length (rbadL B F i)) := by rw [hW1]; exact (HO.out.next (below_drewN (Below.refl _ _) nq)).alloc _
            have HB1 : Hid (Below w.heap.size w (W1.alloc (.cells #[.int .i64 (i : Int)] 3))) := by rw [hW1]; exact (below_drewN HBL.out nq).alloc (by simpa using hsz) _
            have hsz1 : w.heap.size ≤ W1.heap.size := by rw [hW1]; simpa using hsz
            rw [← hW1]
            clear hW1
            go_wp2_with (at_builtin; go_must (refine wpList_apz rfl (.tmp 40) (.tmp 42) rfl w.heap.size _ (rbadL B F i).length (rbadL B F i) rfl HO1.out W1.heap.size (i : Int) rfl (by simp) HLL.out (by simp; omega) w HB1.out ?_); intro v2 w2 ho2 hb2)
            go_roundw
            case rel => exact ⟨i + 1, by omega, by go_num, by rw [HS.out, List.length_append, List.length_singleton]; exact ho2, hb2⟩
            case measure => simp [RowKit.intOf]; omega
          · have g2 : (B.sl == (i : Int)) = false := by simpa using Ne.symm e2
            have HS : Hid (rbadL B F (i + 1) = rbadL B F i) := by
              show (if _ then _ else _) = _
              rw [if_neg (by rw [hJ.out, hf, Bool.or_false]; simp only [decide_eq_true_eq]; first | exact fun x => e1 x.1 | exact fun x => e2 x.2)]
            clear hJ hf e1 e2
            go_wp2_with (fail)
            go_quiet (first | (go_at_call 76; exact Calls.quiet_of_same (HD.out _)) | (go_at_call 126; exact Calls.quiet_of_same (HF.out _)))
            go_wp2_with (fail)
            go_roundw
            case rel => exact ⟨i + 1, by omega, by go_num, by rw [HS.out]; exact HO.out.next (below_drewN (Below.refl _ _) nq), below_drewN HBL.out nq⟩
            case measure => simp [RowKit.intOf]; omega
        · have g1 : (B.st == 1) = false := by simpa using e1
          have HS : Hid (rbadL B F (i + 1) = rbadL B F i) := by
            show (if _ then _ else _) = _
            rw [if_neg (by rw [hJ.out, hf, Bool.or_false]; simp only [decide_eq_true_eq]; first | exact fun x => e1 x.1 | exact fun x => e2 x.2)]
          clear hJ hf e1
          go_wp2_with (fail)
          go_quiet (first | (go_at_call 76; exact Calls.quiet_of_same (HD.out _)) | (go_at_call 126; exact Calls.quiet_of_same (HF.out _)))
          go_wp2_with (fail)
          go_roundw
          case rel => exact ⟨i + 1, by omega, by go_num, by rw [HS.out]; exact HO.out.next (below_drewN (Below.refl _ _) nq), below_drewN HBL.out nq⟩
          case measure => simp [RowKit.intOf]; omega
    · obtain rfl : i = n := by omega
      have HO := Lib.hid ho
      have HBL := Lib.hid hbl
      clear ho hbl
      go_wp2_with (fail)
      go_ret
      exact ⟨_, rfl, HO.out, HBL.out⟩
end

end Go.Proofs.YtacnhlmhibhlhaaGreat

/-
  The reference's bank: its Flush and Everywhere, by contract.
-/
namespace Go.Proofs.YtacnhlmhibhlhaaGreat
open Go.RowKit Go.Maps
set_option linter.unusedVariables false

def Rf.flT (F : Rf) (d : Int) : Int := if F.flE d = 12 then 12 else 0
theorem Rf.flT_12 {F : Rf} {d : Int} : F.flT d = 12 ↔ F.flE d = 12 := by unfold Rf.flT; split <;> simp_all
theorem Rf.flT_11 {F : Rf} {d : Int} : F.flT d ≠ 11 := by unfold Rf.flT; split <;> omega
/-- The reference's rack flushed, disk by disk. -/
def rflG (B : Bn) (F : Rf) (i : Nat) : Bool × Int × Rf := goN Rf.fl Rf.flT (fun i => B.disk (i : Int)) F i
theorem rflG_go {B : Bn} {F : Rf} {i : Nat} (h : (rflG B F i).1 = false) (h2 : (rflG B F i).2.2.flE (B.disk (i : Int)) ≠ 12) : rflG B F (i + 1) = (false, (rflG B F i).2.1, (rflG B F i).2.2.fl (B.disk (i : Int))) := by
  have e : rflG B F (i + 1) = _ := goN_go h (fun x => h2 (Rf.flT_12.1 x))
  rw [if_neg Rf.flT_11] at e
  exact e
theorem rflG_stop {B : Bn} {F : Rf} {i : Nat} (h : (rflG B F i).1 = false) (h2 : (rflG B F i).2.2.flE (B.disk (i : Int)) = 12) : rflG B F (i + 1) = (true, 12, (rflG B F i).2.2.fl (B.disk (i : Int))) := goN_stop h (Rf.flT_12.2 h2)
theorem rflG_0 (B : Bn) (F : Rf) (i : Nat) (h : (rflG B F i).1 = false) : (rflG B F i).2.1 = 0 := by
  induction i with
  | zero => rfl
  | succ i ih =>
    cases h1 : (rflG B F i).1 with
    | true =>
      have e : rflG B F (i + 1) = rflG B F i := goN_on h1
      rw [e, h1] at h; cases h
    | false =>
      by_cases h2 : (rflG B F i).2.2.flE (B.disk (i : Int)) = 12
      · rw [rflG_stop h1 h2] at h; cases h
      · rw [rflG_go h1 h2]
        exact ih h1
theorem Ins.turn2 {w w' : World} {a : Option Addr} {n : Nat} {ks : List Int} {N : Nat → Prop} (h : Ins w a n ks) (ht : Turn N w w') (hN : ∀ x, a = some x → ¬ N x.block) : Ins w' a n ks := by
  refine ⟨h.1, ?_⟩
  rcases h.2 with h0 | ⟨b, off, e, hl, hc⟩
  · exact .inl h0
  · have hb := hN _ e
    exact .inr ⟨b, off, e, Nat.lt_of_lt_of_le hl ht.size, fun i hi => (ht.cell (a := ⟨b, off + i, none⟩) hl hb).trans (hc i hi)⟩

section
variable {M : Nat → Prop} {L : RLay} {F : Rf} {w : World} {b : Nat} {B : Bn}
set_option maxRecDepth 100000 in
set_option maxHeartbeats 4000000 in
theorem rflush_bank (n : Nat) (hr : RefAt w M L F) (hb : RbAt w b L.p B) (hbM : ¬ L.M b) (hd : B.d = (n : Int)) (hn : n ≤ 16) :
    Calls Tryz.prog 18 #[.pointer (some ⟨b, 0, none⟩)] w (RefPost M L (rflG B F B.num).2.2 w (.int .i64 (rflG B F B.num).2.1)) := by
  have HR := Lib.hid hr
  have HB := Lib.hid hb
  have HBM := Lib.hid hbM
  have HML : Hid (∀ k, L.M k → k < w.heap.size) := fun k hk => hr.low k (hr.sub k hk)
  have hdd := rdisks_any n hb hd hn
  have hnum : B.num ≤ 17 := by unfold Bn.num; rw [hd]; split <;> omega
  obtain ⟨N, hN⟩ : ∃ N, N = B.num := ⟨_, rfl⟩
  rw [← hN] at hdd hnum ⊢
  clear hr hb hbM hd hN
  go_enter Tryz.func18, Tryz.ntmps18
  go_wp2_with (fail)
  refine hdd.mono ?_
  rintro e w1 ⟨v, rfl, ho, hbl1⟩
  obtain ⟨ra, rc, rfl, hins, _, _, hrb⟩ := ho.ins
  rw [ds_len] at hins ⊢
  have HA : Hid (∀ x, ra = some x → ¬ L.M x.block) := fun x hx hm => by
    have h1 := (hrb x hx).1
    have h2 := HML.out _ hm
    omega
  have HR1 := Lib.hid (HR.out.below hbl1)
  have HB1 := Lib.hid (HB.out.next hbl1)
  have HI1 := Lib.hid hins
  have HT1 : Hid (Turn L.M w w1) := Turn.of_below hbl1
  clear hdd ho hins hrb hbl1 HR HB HML
  go_wp2_with (fail)
  go_loopw [4] (fun v wr => ∃ i : Nat, i ≤ N ∧ v = .int .i64 i ∧ (rflG B F i).1 = false ∧ RefAt wr M L (rflG B F i).2.2 ∧ RbAt wr b L.p B ∧ Ins wr ra N (B.ds N) ∧ Turn L.M w wr) (fun v _ => N - (RowKit.intOf v).toNat)
  case atStart => exact ⟨0, Nat.zero_le _, rfl, rfl, HR1.out, HB1.out, HI1.out, HT1.out⟩
  case round =>
    obtain ⟨i, hi, rfl, hon, hr, hb, hins, ht⟩ := hrel
    have HON := Lib.hid hon
    have HT := Lib.hid ht
    by_cases hlt : i < N
    · rcases hins.2 with h0 | ⟨g, off, rfl, hg, hc⟩
      · omega
      have k1 := hc i hlt
      rw [ds_at B hlt] at k1
      have k0 := hb.c0
      have HI := Lib.hid hins
      have hbd := hb.drew
      have hrd : RefAt wr.drew M L (rflG B F i).2.2 := hr.below (below_drewN (Below.refl _ wr) 1)
      have HR2 := Lib.hid hrd
      have HB2 := Lib.hid hbd
      have i0 : (0 : Int) ≤ (i : Int) := by omega
      have i2 : (i : Int) < (N : Int) := by omega
      have HGL := Lib.hid hg
      have HNG := Lib.hid (HA.out _ rfl)
      clear hon ht hins hc hr hb hbd hrd hg HR1 HB1 HI1 HT1
      go_wp2_with (fail)
      refine wp_region_held_drew (S := fun w' => w'.cell? ⟨b, 0, none⟩ = some (.pointer (some ⟨L.p, 0, none⟩)) ∧ w'.cell? ⟨g, off + i, none⟩ = some (.int .i64 (B.disk (i : Int)))) (by kernel_rfl) ?_ (fun hHeld => ?_)
      · exact ⟨k0, k1⟩
      refine rgY 0 ?_ rfl (by kernel_rfl) (fun _ _ _ h => h) (.inl ⟨by rfl, fun w hSw => ?_⟩) (by assumption) ?_
      rotate_left
      · (try dsimp only at hSw); go_simp; try with_reducible rfl
      simp only [Act.put, rg1, rg2, rg3, rg4, rg6]
      refine rgY 1 ?_ rfl (by kernel_rfl) (fun _ _ _ h => h) (.inl ⟨by rfl, fun w hSw => ?_⟩) (by assumption) ?_
      rotate_left
      · (try dsimp only at hSw); go_simp; try with_reducible rfl
      simp only [Act.put, rg1, rg2, rg3, rg4, rg5, rg6]
      refine rgY 2 ?_ rfl (by kernel_rfl) (fun _ _ _ h => h) (.inl ⟨by rfl, fun w hSw => ?_⟩) (by assumption) ?_
      rotate_left
      · (try dsimp only at hSw); go_simp; try with_reducible rfl
      simp only [Act.put, rg1, rg2, rg3, rg4, rg5, rg6]
      refine rgY 3 ?_ rfl (by kernel_rfl) (fun _ _ _ h => h) (.inl ⟨by rfl, fun w hSw => ?_⟩) (by assumption) ?_
      rotate_left
      · (try dsimp only at hSw); go_simp; try with_reducible rfl
      simp only [Act.put, rg1, rg2, rg3, rg4, rg5, rg6]
      refine rgY 4 ?_ rfl (by kernel_rfl) (fun _ _ _ h => h) (.inl ⟨by rfl, fun w hSw => ?_⟩) (by assumption) ?_
      rotate_left
      · (try dsimp only at hSw); go_simp; try with_reducible rfl
      simp only [Act.put, rg1, rg2, rg3, rg4, rg5, rg6]
      refine rgY 5 ?_ rfl (by kernel_rfl) (fun _ _ _ h => h) (.inl ⟨by rfl, fun w hSw => ?_⟩) (by assumption) ?_
      rotate_left
      · (try dsimp only at hSw); go_simp; try with_reducible rfl
      simp only [Act.put, rg1, rg2, rg3, rg4, rg5, rg6]
      refine rgY 6 ?_ rfl (by kernel_rfl) (fun _ _ _ h => h) (.inl ⟨by rfl, fun w hSw => ?_⟩) (by assumption) ?_
      rotate_left
      · (try dsimp only at hSw); go_simp; try with_reducible rfl
      simp only [Act.put, rg1, rg2, rg3, rg4, rg5, rg6]
      refine rgY 7 ?_ rfl (by kernel_rfl) (fun _ _ _ h => h) (.inl ⟨by rfl, fun w hSw => ?_⟩) (by assumption) ?_
      rotate_left
      · (try dsimp only at hSw); go_simp; try with_reducible rfl
      simp only [Act.put, rg1, rg2, rg3, rg4, rg5, rg6]
      refine wpAnyH_ready (rs := [8]) (by kernel_rfl) (by simp) ?_
      refine AllReadyH.cons rfl (fun K hK => ?_) AllReadyH.nil
      simp only [List.getElem_toArray, List.getElem_cons_succ, List.getElem_cons_zero]
      go_simp
      refine (rflush_all (B.disk (i : Int)) HR2.out).mono ?_
      rintro e w3 ⟨rfl, hr3, ht3⟩
      have q0 := (ht3.cell (a := ⟨b, 0, none⟩) HB2.out.lt HBM.out).trans k0
      have q1 := (ht3.cell (a := ⟨g, off + i, none⟩) HGL.out HNG.out).trans k1
      have HR3 := Lib.hid hr3
      have HB3 := Lib.hid (HB2.out.turn ht3 HBM.out)
      have HI3 := Lib.hid (HI.out.turn2 ht3.undrw (by rintro x hx; cases hx; exact HNG.out))
      have HT3 := Lib.hid (HT.out.trans ht3.undrw)
      clear k0 k1 hHeld hr3 ht3
      go_wp2_with (fail)
      refine hK.out _ _ ⟨q0, q1⟩ (fun hHeld => ?_)
      clear hK K
      cases he : ((rflG B F i).2.2.flE (B.disk (i : Int)) == 12) with
      | true =>
        have HS : Hid (rflG B F N = (true, 12, (rflG B F i).2.2.fl (B.disk (i : Int)))) := by
          have e1 := rflG_stop HON.out (by simpa using he)
          exact (goN_end (by show (rflG B F (i + 1)).1 = true; rw [e1]) N hlt).trans e1
        refine rgY 9 ?_ rfl (by kernel_rfl) (fun _ _ _ h => h) (.inl ⟨by rfl, fun w hSw => ?_⟩) (by assumption) ?_
        rotate_left
        · (try dsimp only at hSw); go_simp; try with_reducible rfl
        simp only [Act.put, rg1, rg2, rg3, rg4, rg5, rg6]
        refine wpAnyH_done (by kernel_rfl) ?_ _
        clear hHeld q0 q1
        go_wp2_with (fail)
        go_ret
        rw [HS.out]
        exact ⟨rfl, HR3.out, HT3.out⟩
      | false =>
        have HS : Hid (rflG B F (i + 1) = (false, (rflG B F i).2.1, (rflG B F i).2.2.fl (B.disk (i : Int)))) := rflG_go HON.out (by simpa using he)
        refine rgY 9 ?_ rfl (by kernel_rfl) (fun _ _ _ h => h) (.inl ⟨by rfl, fun w hSw => ?_⟩) (by assumption) ?_
        rotate_left
        · (try dsimp only at hSw); go_simp; try with_reducible rfl
        simp only [Act.put, rg1, rg2, rg3, rg4, rg5, rg6]
        refine wpAnyH_done (by kernel_rfl) ?_ _
        clear hHeld q0 q1
        go_wp2_with (fail)
        go_roundw
        case rel => exact ⟨i + 1, by omega, by go_num, by rw [HS.out], by rw [HS.out]; exact HR3.out, HB3.out, HI3.out, HT3.out⟩
        case measure => simp [RowKit.intOf]; omega
    · obtain rfl : i = N := by omega
      have HR2 := Lib.hid hr
      clear hon hr hb hins ht
      go_wp2_with (fail)
      go_ret
      rw [rflG_0 B F i HON.out]
      exact ⟨rfl, HR2.out, HT.out⟩
end

end Go.Proofs.YtacnhlmhibhlhaaGreat
