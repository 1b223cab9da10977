/-
  The reference's bank: its Bad and Join, by contract.
-/
import Derived.Test.YtoiidhpohghiaaaGreatRbk
namespace Go.Proofs.YtoiidhpohghiaaaGreat
open Go.RowKit Go.Maps
set_option linter.unusedVariables false

def rbadP (B : Bn) (F : Rf) (i : Int) : Bool := decide (B.st = 1 ∧ i = B.sl) || F.failed (B.disk i)
def rbadL (B : Bn) (F : Rf) : Nat → List Int
  | 0 => []
  | i + 1 => if rbadP B F (i : Int) then rbadL B F i ++ [(i : Int)] else rbadL B F i
theorem rbadL_len (B : Bn) (F : Rf) (i : Nat) : (rbadL B F i).length ≤ i := by
  induction i with
  | zero => exact Nat.le_refl _
  | succ i ih =>
    unfold rbadL
    split
    · simp; omega
    · omega

section
variable {M : Nat → Prop} {L : RLay} {F : Rf} {w : World} {b : Nat} {B : Bn}
theorem RefAt.sub (h : RefAt w M L F) : ∀ k, L.M k → M k := by obtain ⟨fl, fc, h⟩ := h; exact h.sub
theorem RefAt.low (h : RefAt w M L F) : ∀ k, M k → k < w.heap.size := by obtain ⟨fl, fc, h⟩ := h; exact h.low
set_option maxHeartbeats 4000000 in
theorem rbad_any (n : Nat) (hr : RefAt w M L F) (hb : RbAt w b L.p B) (hd : B.d = (n : Int)) (hn : n ≤ 16) :
    Calls Tryz.prog 44 #[.pointer (some ⟨b, 0, none⟩)] w (RetI w (rbadL B F n)) := by
  have HR := Lib.hid hr
  have HB := Lib.hid hb
  have HDD := Lib.hid hd
  have hbl0 : ∀ x : Obj, Below w.heap.size w (w.alloc x) := fun x => (Below.refl _ _).alloc (Nat.le_refl _) _
  have HBL0 := Lib.hid hbl0
  clear hr hb hd hbl0
  go_enter Tryz.func44, Tryz.ntmps44
  go_wp2_with (fail)
  go_loopw [3, 4] (fun u v wr => ∃ i : Nat, i ≤ n ∧ v = .int .i64 i ∧ OwnI wr w.heap.size u (rbadL B F i).length (rbadL B F i) ∧ Below w.heap.size w wr) (fun _ v _ => n - (intOf v).toNat)
  case atStart => exact ⟨0, Nat.zero_le _, rfl, ownI_none _ _ (Nat.le_refl _), HBL0.out _⟩
  case round =>
    obtain ⟨i, hi, rfl, ho, hbl⟩ := hrel
    have hbk := HB.out.next hbl
    have c1 := hbk.c1
    rw [HDD.out] at c1
    by_cases hlt : i < n
    · have hrk := HR.out.below hbl
      have c0 := hbk.c0
      have c5 := hbk.c5
      have c6 := hbk.c6
      have HD : Hid (∀ q, Calls Tryz.prog 61 #[.pointer (some ⟨b, 0, none⟩), .int .i64 i] (wr.drewN q) fun e w' => e = .returned (.int .i64 (B.disk (i : Int))) ∧ w' = wr.drewN q) := fun q => rdisk_any (i : Int) (hbk.drewN q)
      have HF : Hid (∀ q, Calls Tryz.prog 48 #[.pointer (some ⟨L.p, 0, none⟩), .int .i64 (B.disk (i : Int))] (wr.drewN q) fun e w' => e = .returned (.bool (F.failed (B.disk (i : Int)))) ∧ w' = wr.drewN q) := fun q => (rfailed M L F (wr.drewN q) (B.disk (i : Int)) (hrk.below (below_drewN (Below.refl _ _) q))).mono fun e w' h => ⟨h.1, h.2.symm⟩
      obtain ⟨ra, rc, rfl, hins, hnc, hcm, hrb⟩ := ho.ins
      have HO := Lib.hid ho
      have HBL := Lib.hid hbl
      have hll := rbadL_len B F i
      have hJ : Hid (rbadP B F (i : Int) = (decide (B.st = 1 ∧ (i : Int) = B.sl) || F.failed (B.disk (i : Int)))) := Lib.hid rfl
      have HLL : Hid ((rbadL B F i).length + 1 ≤ 1000000000000) := by unfold Hid; omega
      have hsz := hbl.size
      clear ho hbl hins hnc hcm hrb hll hbk hrk
      cases hf : F.failed (B.disk (i : Int)) with
      | true =>
        rw [hf] at HF
        have HS : Hid (rbadL B F (i + 1) = rbadL B F i ++ [(i : Int)]) := by
          show (if _ then _ else _) = _
          rw [if_pos (by rw [hJ.out]; first | rw [hf, Bool.or_true] | rw [decide_eq_true (⟨e1, e2⟩ : B.st = 1 ∧ (i : Int) = B.sl)]; rfl)]
        clear hJ hf
        go_wp2_with (fail)
        go_quiet (first | (go_at_call 61; exact Calls.quiet_of_same (HD.out _)) | (go_at_call 48; exact Calls.quiet_of_same (HF.out _)))
        obtain ⟨W1, hW1⟩ : ∃ W1, W1 = wr.drewN nq := ⟨_, rfl⟩
        have HO1 : Hid (OwnI (W1.alloc (.cells #[.int .i64 (i : Int)] 3)) w.heap.size (.slice ra (rbadL B F i).length rc) (rbadL B F i).length (rbadL B F i)) := by rw [hW1]; exact (HO.out.next (below_drewN (Below.refl _ _) nq)).alloc _
        have HB1 : Hid (Below w.heap.size w (W1.alloc (.cells #[.int .i64 (i : Int)] 3))) := by rw [hW1]; exact (below_drewN HBL.out nq).alloc (by simpa using hsz) _
        have hsz1 : w.heap.size ≤ W1.heap.size := by rw [hW1]; simpa using hsz
        rw [← hW1]
        clear hW1
        go_wp2_with (at_builtin; go_must (refine wpList_apz rfl (.tmp 40) (.tmp 42) rfl w.heap.size _ (rbadL B F i).length (rbadL B F i) rfl HO1.out W1.heap.size (i : Int) rfl (by simp) HLL.out (by simp; omega) w HB1.out ?_); intro v2 w2 ho2 hb2)
        go_roundw
        case rel => exact ⟨i + 1, by omega, by go_num, by rw [HS.out, List.length_append, List.length_singleton]; exact ho2, hb2⟩
        case measure => simp [intOf]; omega
      | false =>
        rw [hf] at HF
        by_cases e1 : B.st = 1
        · have g1 : (B.st == 1) = true := by simpa using e1
          by_cases e2 : (i : Int) = B.sl
          · have g2 : (B.sl == (i : Int)) = true := by simp [e2]
            have HS : Hid (rbadL B F (i + 1) = rbadL B F i ++ [(i : Int)]) := by
              show (if _ then _ else _) = _
              rw [if_pos (by rw [hJ.out]; first | rw [hf, Bool.or_true] | rw [decide_eq_true (⟨e1, e2⟩ : B.st = 1 ∧ (i : Int) = B.sl)]; rfl)]
            clear hJ hf e1 e2
            go_wp2_with (fail)
            go_quiet (first | (go_at_call 61; exact Calls.quiet_of_same (HD.out _)) | (go_at_call 48; exact Calls.quiet_of_same (HF.out _)))
            obtain ⟨W1, hW1⟩ : ∃ W1, W1 = wr.drewN nq := ⟨_, rfl⟩
            have HO1 : Hid (OwnI (W1.alloc (.cells #[.int .i64 (i : Int)] 3)) w.heap.size (.slice ra (rbadL B F i).length rc) (rbadL B F i).length (rbadL B F i)) := by rw [hW1]; exact (HO.out.next (below_drewN (Below.refl _ _) nq)).alloc _
            have HB1 : Hid (Below w.heap.size w (W1.alloc (.cells #[.int .i64 (i : Int)] 3))) := by rw [hW1]; exact (below_drewN HBL.out nq).alloc (by simpa using hsz) _
            have hsz1 : w.heap.size ≤ W1.heap.size := by rw [hW1]; simpa using hsz
            rw [← hW1]
            clear hW1
            go_wp2_with (at_builtin; go_must (refine wpList_apz rfl (.tmp 40) (.tmp 42) rfl w.heap.size _ (rbadL B F i).length (rbadL B F i) rfl HO1.out W1.heap.size (i : Int) rfl (by simp) HLL.out (by simp; omega) w HB1.out ?_); intro v2 w2 ho2 hb2)
            go_roundw
            case rel => exact ⟨i + 1, by omega, by go_num, by rw [HS.out, List.length_append, List.length_singleton]; exact ho2, hb2⟩
            case measure => simp [intOf]; omega
          · have g2 : (B.sl == (i : Int)) = false := by simpa using Ne.symm e2
            have HS : Hid (rbadL B F (i + 1) = rbadL B F i) := by
              show (if _ then _ else _) = _
              rw [if_neg (by rw [hJ.out, hf, Bool.or_false]; simp only [decide_eq_true_eq]; first | exact fun x => e1 x.1 | exact fun x => e2 x.2)]
            clear hJ hf e1 e2
            go_wp2_with (fail)
            go_quiet (first | (go_at_call 61; exact Calls.quiet_of_same (HD.out _)) | (go_at_call 48; exact Calls.quiet_of_same (HF.out _)))
            go_wp2_with (fail)
            go_roundw
            case rel => exact ⟨i + 1, by omega, by go_num, by rw [HS.out]; exact HO.out.next (below_drewN (Below.refl _ _) nq), below_drewN HBL.out nq⟩
            case measure => simp [intOf]; omega
        · have g1 : (B.st == 1) = false := by simpa using e1
          have HS : Hid (rbadL B F (i + 1) = rbadL B F i) := by
            show (if _ then _ else _) = _
            rw [if_neg (by rw [hJ.out, hf, Bool.or_false]; simp only [decide_eq_true_eq]; first | exact fun x => e1 x.1 | exact fun x => e2 x.2)]
          clear hJ hf e1
          go_wp2_with (fail)
          go_quiet (first | (go_at_call 61; exact Calls.quiet_of_same (HD.out _)) | (go_at_call 48; exact Calls.quiet_of_same (HF.out _)))
          go_wp2_with (fail)
          go_roundw
          case rel => exact ⟨i + 1, by omega, by go_num, by rw [HS.out]; exact HO.out.next (below_drewN (Below.refl _ _) nq), below_drewN HBL.out nq⟩
          case measure => simp [intOf]; omega
    · obtain rfl : i = n := by omega
      have HO := Lib.hid ho
      have HBL := Lib.hid hbl
      clear ho hbl
      go_wp2_with (fail)
      go_ret
      exact ⟨_, rfl, HO.out, HBL.out⟩
end

set_option maxHeartbeats 1000000 in
theorem rjoin_any {w : World} {L : RLay} {b : Nat} {B : Bn} (e sl st : Int) (hb : RbAt w b L.p B) :
    Calls Tryz.prog 36 #[.pointer (some ⟨b, 0, none⟩), mb e sl st] w fun en w' => en = .returned (.tuple #[]) ∧ RbAt w' b L.p (B.join e sl st) ∧ Turn (· = b) w w' := by
  have HB := Lib.hid hb
  have hbl : ∀ o : Obj, Below w.heap.size w (w.alloc o) := fun o => (Below.refl _ _).alloc (Nat.le_refl _) _
  have hbk := fun o : Obj => ((hb.next (hbl o)).drew)
  have HBK := Lib.hid hbk
  have HBL := Lib.hid hbl
  have HM : Hid (∀ w, Calls Tryz.prog 22 #[gv B.d B.r B.s, mb e sl st] w fun e w' => e = .returned (.bool (memOk B.d sl st)) ∧ Below w.heap.size w w') := fun w => rfits_any B.d B.r B.s e sl st w
  clear hb hbl hbk
  cases hm : memOk B.d sl st with
  | false =>
    rw [hm] at HM
    have HJ : Hid (B.join e sl st = B) := by unfold Hid Bn.join; rw [hm]; rfl
    clear hm
    go_enter Tryz.func36, Tryz.ntmps36
    go_wp2_with (fail)
    obtain ⟨W0, hW0⟩ : ∃ W0, W0 = w.alloc (.cells #[.int .i64 e, .int .i64 sl, .int .i64 st] 23) := ⟨_, rfl⟩
    have x0 : W0.cell? ⟨w.heap.size, 0, none⟩ = some (.int .i64 e) := by rw [hW0]; simp
    have x1 : W0.cell? ⟨w.heap.size, 1, none⟩ = some (.int .i64 sl) := by rw [hW0]; simp
    have x2 : W0.cell? ⟨w.heap.size, 2, none⟩ = some (.int .i64 st) := by rw [hW0]; simp
    have hlt : w.heap.size < W0.heap.size := by rw [hW0]; simp
    have hB0 : Below w.heap.size w W0 := by rw [hW0]; exact HBL.out _
    have hbk : RbAt W0.drew b L.p B := by rw [hW0]; exact HBK.out _
    rw [← hW0]
    clear hW0
    have k1 := hbk.c1
    have k2 := hbk.c2
    have k3 := hbk.c3
    refine wp_region_held_drew (S := fun w' => w'.cell? ⟨w.heap.size, 0, none⟩ = some (.int .i64 e) ∧ w'.cell? ⟨w.heap.size, 1, none⟩ = some (.int .i64 sl) ∧ w'.cell? ⟨w.heap.size, 2, none⟩ = some (.int .i64 st) ∧ w'.cell? ⟨b, 1, none⟩ = some (.int .i64 B.d) ∧ w'.cell? ⟨b, 2, none⟩ = some (.int .i64 B.r) ∧ w'.cell? ⟨b, 3, none⟩ = some (.int .i64 B.s)) (by kernel_rfl) ?_ (fun hHeld => ?_)
    · exact ⟨x0, x1, x2, k1, k2, k3⟩
    refine wpAnyH_take (i := 0) (v := ?_) rfl (by kernel_rfl) (by kernel_rfl) (by kernel_rfl) (fun _ _ _ h => h) (Or.inl ⟨by rfl, fun w hSw => ?_⟩) (by assumption) ?_
    rotate_left
    · (try dsimp only at hSw); go_simp; try with_reducible rfl
    simp only [Act.put, List.setIfInBounds_toArray, List.set_cons_zero, List.set_cons_succ, List.getElem_toArray, List.getElem_cons_zero]
    refine wpAnyH_take (i := 1) (v := ?_) rfl (by kernel_rfl) (by kernel_rfl) (by kernel_rfl) (fun _ _ _ h => h) (Or.inl ⟨by rfl, fun w hSw => ?_⟩) (by assumption) ?_
    rotate_left
    · (try dsimp only at hSw); go_simp; try with_reducible rfl
    simp only [Act.put, List.setIfInBounds_toArray, List.set_cons_zero, List.set_cons_succ, List.getElem_toArray, List.getElem_cons_succ, List.getElem_cons_zero]
    refine wpAnyH_take (i := 2) (v := ?_) rfl (by kernel_rfl) (by kernel_rfl) (by kernel_rfl) (fun _ _ _ h => h) (Or.inl ⟨by rfl, fun w hSw => ?_⟩) (by assumption) ?_
    rotate_left
    · (try dsimp only at hSw); go_simp; try with_reducible rfl
    simp only [Act.put, List.setIfInBounds_toArray, List.set_cons_zero, List.set_cons_succ, List.getElem_toArray, List.getElem_cons_succ, List.getElem_cons_zero]
    refine wpAnyH_take (i := 3) (v := ?_) rfl (by kernel_rfl) (by kernel_rfl) (by kernel_rfl) (fun _ _ _ h => h) (Or.inl ⟨by rfl, fun w hSw => ?_⟩) (by assumption) ?_
    rotate_left
    · (try dsimp only at hSw); go_simp; try with_reducible rfl
    simp only [Act.put, List.setIfInBounds_toArray, List.set_cons_zero, List.set_cons_succ, List.getElem_toArray, List.getElem_cons_succ, List.getElem_cons_zero]
    refine wpAnyH_take (i := 4) (v := ?_) rfl (by kernel_rfl) (by kernel_rfl) (by kernel_rfl) (fun _ _ _ h => h) (Or.inl ⟨by rfl, fun w hSw => ?_⟩) (by assumption) ?_
    rotate_left
    · (try dsimp only at hSw); go_simp; try with_reducible rfl
    simp only [Act.put, List.setIfInBounds_toArray, List.set_cons_zero, List.set_cons_succ, List.getElem_toArray, List.getElem_cons_succ, List.getElem_cons_zero]
    refine wpAnyH_ready (rs := [5]) (by kernel_rfl) (by simp) ?_
    refine AllReadyH.cons rfl (fun K hK => ?_) AllReadyH.nil
    simp only [List.getElem_toArray, List.getElem_cons_succ, List.getElem_cons_zero]
    go_simp
    refine (HM.out _).mono ?_
    rintro e1 w1 ⟨rfl, hb1⟩
    have hbk1 := hbk.next hb1
    have y0 := (hb1.cell (p := ⟨w.heap.size, 0, none⟩) hlt).trans x0
    have y1 := (hb1.cell (p := ⟨w.heap.size, 1, none⟩) hlt).trans x1
    have y2 := (hb1.cell (p := ⟨w.heap.size, 2, none⟩) hlt).trans x2
    go_wp2_with (fail)
    refine hK.out _ _ ⟨y0, y1, y2, hbk1.c1, hbk1.c2, hbk1.c3⟩ (fun hHeld => ?_)
    clear hK K
    refine wpAnyH_done (by kernel_rfl) ?_ _
    have hB1 : Below w.heap.size w w1 := hB0.trans ((undrew hb1).mono hB0.size)
    clear x0 x1 x2 k1 k2 k3 hHeld hb1 hlt hB0 hbk
    go_wp2_with (fail)
    go_end0
    exact ⟨rfl, by rw [HJ.out]; exact hbk1, Turn.of_below hB1⟩
  | true =>
    rw [hm] at HM
    have HJ : Hid (B.join e sl st = ⟨B.d, B.r, B.s, e, sl, st⟩) := by unfold Hid Bn.join; rw [hm]; rfl
    clear hm
    go_enter Tryz.func36, Tryz.ntmps36
    go_wp2_with (fail)
    obtain ⟨W0, hW0⟩ : ∃ W0, W0 = w.alloc (.cells #[.int .i64 e, .int .i64 sl, .int .i64 st] 23) := ⟨_, rfl⟩
    have x0 : W0.cell? ⟨w.heap.size, 0, none⟩ = some (.int .i64 e) := by rw [hW0]; simp
    have x1 : W0.cell? ⟨w.heap.size, 1, none⟩ = some (.int .i64 sl) := by rw [hW0]; simp
    have x2 : W0.cell? ⟨w.heap.size, 2, none⟩ = some (.int .i64 st) := by rw [hW0]; simp
    have hlt : w.heap.size < W0.heap.size := by rw [hW0]; simp
    have hB0 : Below w.heap.size w W0 := by rw [hW0]; exact HBL.out _
    have hbk : RbAt W0.drew b L.p B := by rw [hW0]; exact HBK.out _
    rw [← hW0]
    clear hW0
    have k1 := hbk.c1
    have k2 := hbk.c2
    have k3 := hbk.c3
    refine wp_region_held_drew (S := fun w' => w'.cell? ⟨w.heap.size, 0, none⟩ = some (.int .i64 e) ∧ w'.cell? ⟨w.heap.size, 1, none⟩ = some (.int .i64 sl) ∧ w'.cell? ⟨w.heap.size, 2, none⟩ = some (.int .i64 st) ∧ w'.cell? ⟨b, 1, none⟩ = some (.int .i64 B.d) ∧ w'.cell? ⟨b, 2, none⟩ = some (.int .i64 B.r) ∧ w'.cell? ⟨b, 3, none⟩ = some (.int .i64 B.s)) (by kernel_rfl) ?_ (fun hHeld => ?_)
    · exact ⟨x0, x1, x2, k1, k2, k3⟩
    refine wpAnyH_take (i := 0) (v := ?_) rfl (by kernel_rfl) (by kernel_rfl) (by kernel_rfl) (fun _ _ _ h => h) (Or.inl ⟨by rfl, fun w hSw => ?_⟩) (by assumption) ?_
    rotate_left
    · (try dsimp only at hSw); go_simp; try with_reducible rfl
    simp only [Act.put, List.setIfInBounds_toArray, List.set_cons_zero, List.set_cons_succ, List.getElem_toArray, List.getElem_cons_zero]
    refine wpAnyH_take (i := 1) (v := ?_) rfl (by kernel_rfl) (by kernel_rfl) (by kernel_rfl) (fun _ _ _ h => h) (Or.inl ⟨by rfl, fun w hSw => ?_⟩) (by assumption) ?_
    rotate_left
    · (try dsimp only at hSw); go_simp; try with_reducible rfl
    simp only [Act.put, List.setIfInBounds_toArray, List.set_cons_zero, List.set_cons_succ, List.getElem_toArray, List.getElem_cons_succ, List.getElem_cons_zero]
    refine wpAnyH_take (i := 2) (v := ?_) rfl (by kernel_rfl) (by kernel_rfl) (by kernel_rfl) (fun _ _ _ h => h) (Or.inl ⟨by rfl, fun w hSw => ?_⟩) (by assumption) ?_
    rotate_left
    · (try dsimp only at hSw); go_simp; try with_reducible rfl
    simp only [Act.put, List.setIfInBounds_toArray, List.set_cons_zero, List.set_cons_succ, List.getElem_toArray, List.getElem_cons_succ, List.getElem_cons_zero]
    refine wpAnyH_take (i := 3) (v := ?_) rfl (by kernel_rfl) (by kernel_rfl) (by kernel_rfl) (fun _ _ _ h => h) (Or.inl ⟨by rfl, fun w hSw => ?_⟩) (by assumption) ?_
    rotate_left
    · (try dsimp only at hSw); go_simp; try with_reducible rfl
    simp only [Act.put, List.setIfInBounds_toArray, List.set_cons_zero, List.set_cons_succ, List.getElem_toArray, List.getElem_cons_succ, List.getElem_cons_zero]
    refine wpAnyH_take (i := 4) (v := ?_) rfl (by kernel_rfl) (by kernel_rfl) (by kernel_rfl) (fun _ _ _ h => h) (Or.inl ⟨by rfl, fun w hSw => ?_⟩) (by assumption) ?_
    rotate_left
    · (try dsimp only at hSw); go_simp; try with_reducible rfl
    simp only [Act.put, List.setIfInBounds_toArray, List.set_cons_zero, List.set_cons_succ, List.getElem_toArray, List.getElem_cons_succ, List.getElem_cons_zero]
    refine wpAnyH_ready (rs := [5]) (by kernel_rfl) (by simp) ?_
    refine AllReadyH.cons rfl (fun K hK => ?_) AllReadyH.nil
    simp only [List.getElem_toArray, List.getElem_cons_succ, List.getElem_cons_zero]
    go_simp
    refine (HM.out _).mono ?_
    rintro e1 w1 ⟨rfl, hb1⟩
    have hbk1 := hbk.next hb1
    have y0 := (hb1.cell (p := ⟨w.heap.size, 0, none⟩) hlt).trans x0
    have y1 := (hb1.cell (p := ⟨w.heap.size, 1, none⟩) hlt).trans x1
    have y2 := (hb1.cell (p := ⟨w.heap.size, 2, none⟩) hlt).trans x2
    go_wp2_with (fail)
    refine hK.out _ _ ⟨y0, y1, y2, hbk1.c1, hbk1.c2, hbk1.c3⟩ (fun hHeld => ?_)
    clear hK K
    refine wpAnyH_done (by kernel_rfl) ?_ _
    have hB1 : Below w.heap.size w w1 := hB0.trans ((undrew hb1).mono hB0.size)
    clear x0 x1 x2 k1 k2 k3 hHeld hb1 hlt hB0 hbk
    have k4 := hbk1.c4
    have k5 := hbk1.c5
    have k6 := hbk1.c6
    have f4 := hbk1.fr 4
    have f5 := hbk1.fr 5
    have f6 := hbk1.fr 6
    have hltb := hbk1.lt
    go_wp2_with (fail)
    go_end0
    refine ⟨rfl, ⟨?_⟩, (Turn.of_below hB1).trans (((turn_set _ b 4 _).trans (turn_set _ b 5 _)).trans (turn_set _ b 6 _))⟩
    rw [HJ.out]
    exact cells_set (cells_set (cells_set hbk1.row))

end Go.Proofs.YtoiidhpohghiaaaGreat

/-
  The reference's bank: its Flush and Everywhere, by contract.
-/
namespace Go.Proofs.YtoiidhpohghiaaaGreat
open Go.RowKit Go.Maps
set_option linter.unusedVariables false

def Rf.flT (F : Rf) (d : Int) : Int := if F.flE d = 12 then 12 else 0
theorem Rf.flT_12 {F : Rf} {d : Int} : F.flT d = 12 ↔ F.flE d = 12 := by unfold Rf.flT; split <;> simp_all
theorem Rf.flT_11 {F : Rf} {d : Int} : F.flT d ≠ 11 := by unfold Rf.flT; split <;> omega
/-- The reference's rack flushed, disk by disk. -/
def rflG (B : Bn) (F : Rf) (i : Nat) : Bool × Int × Rf := goN Rf.fl Rf.flT (fun i => B.disk (i : Int)) F i
theorem rflG_go {B : Bn} {F : Rf} {i : Nat} (h : (rflG B F i).1 = false) (h2 : (rflG B F i).2.2.flE (B.disk (i : Int)) ≠ 12) : rflG B F (i + 1) = (false, (rflG B F i).2.1, (rflG B F i).2.2.fl (B.disk (i : Int))) := by
  have e : rflG B F (i + 1) = _ := goN_go h (fun x => h2 (Rf.flT_12.1 x))
  rw [if_neg Rf.flT_11] at e
  exact e
theorem rflG_stop {B : Bn} {F : Rf} {i : Nat} (h : (rflG B F i).1 = false) (h2 : (rflG B F i).2.2.flE (B.disk (i : Int)) = 12) : rflG B F (i + 1) = (true, 12, (rflG B F i).2.2.fl (B.disk (i : Int))) := goN_stop h (Rf.flT_12.2 h2)
theorem rflG_0 (B : Bn) (F : Rf) (i : Nat) (h : (rflG B F i).1 = false) : (rflG B F i).2.1 = 0 := by
  induction i with
  | zero => rfl
  | succ i ih =>
    cases h1 : (rflG B F i).1 with
    | true =>
      have e : rflG B F (i + 1) = rflG B F i := goN_on h1
      rw [e, h1] at h; cases h
    | false =>
      by_cases h2 : (rflG B F i).2.2.flE (B.disk (i : Int)) = 12
      · rw [rflG_stop h1 h2] at h; cases h
      · rw [rflG_go h1 h2]
        exact ih h1
/-- The reference's rack written everywhere. -/
def revG (B : Bn) (k : Int) (zs : List Int) (F : Rf) (i : Nat) : Bool × Int × Rf := goN (fun F d => F.wr d k zs) (fun F d => F.wrE d k zs) (fun i => B.disk (i : Int)) F i
theorem revG_go {B : Bn} {k : Int} {zs : List Int} {F : Rf} {i : Nat} (h : (revG B k zs F i).1 = false) (h2 : (revG B k zs F i).2.2.wrE (B.disk (i : Int)) k zs ≠ 12) :
    revG B k zs F (i + 1) = (false, if (revG B k zs F i).2.2.wrE (B.disk (i : Int)) k zs = 11 then 11 else (revG B k zs F i).2.1, (revG B k zs F i).2.2.wr (B.disk (i : Int)) k zs) := goN_go h h2
theorem revG_stop {B : Bn} {k : Int} {zs : List Int} {F : Rf} {i : Nat} (h : (revG B k zs F i).1 = false) (h2 : (revG B k zs F i).2.2.wrE (B.disk (i : Int)) k zs = 12) :
    revG B k zs F (i + 1) = (true, 12, (revG B k zs F i).2.2.wr (B.disk (i : Int)) k zs) := goN_stop h h2

theorem RbAt.turnM {w w' : World} {b p : Nat} {B : Bn} {N : Nat → Prop} (h : RbAt w b p B) (ht : Turn N w w') (hn : ¬ N b) : RbAt w' b p B := h.turn ht hn
theorem Ins.turn2 {w w' : World} {a : Option Addr} {n : Nat} {ks : List Int} {N : Nat → Prop} (h : Ins w a n ks) (ht : Turn N w w') (hN : ∀ x, a = some x → ¬ N x.block) : Ins w' a n ks := by
  refine ⟨h.1, ?_⟩
  rcases h.2 with h0 | ⟨b, off, e, hl, hc⟩
  · exact .inl h0
  · have hb := hN _ e
    exact .inr ⟨b, off, e, Nat.lt_of_lt_of_le hl ht.size, fun i hi => (ht.cell (a := ⟨b, off + i, none⟩) hl hb).trans (hc i hi)⟩

section
variable {M : Nat → Prop} {L : RLay} {F : Rf} {w : World} {b : Nat} {B : Bn}
set_option maxRecDepth 100000 in
set_option maxHeartbeats 4000000 in
theorem rflush_bank (n : Nat) (hr : RefAt w M L F) (hb : RbAt w b L.p B) (hbM : ¬ L.M b) (hd : B.d = (n : Int)) (hn : n ≤ 16) :
    Calls Tryz.prog 29 #[.pointer (some ⟨b, 0, none⟩)] w (RefPost M L (rflG B F B.num).2.2 w (.int .i64 (rflG B F B.num).2.1)) := by
  have HR := Lib.hid hr
  have HB := Lib.hid hb
  have HBM := Lib.hid hbM
  have HML : Hid (∀ k, L.M k → k < w.heap.size) := fun k hk => hr.low k (hr.sub k hk)
  have hdd := rdisks_any n hb hd hn
  have hnum : B.num ≤ 17 := by unfold Bn.num; rw [hd]; split <;> omega
  obtain ⟨N, hN⟩ : ∃ N, N = B.num := ⟨_, rfl⟩
  rw [← hN] at hdd hnum ⊢
  clear hr hb hbM hd hN
  go_enter Tryz.func29, Tryz.ntmps29
  go_wp2_with (fail)
  refine hdd.mono ?_
  rintro e w1 ⟨v, rfl, ho, hbl1⟩
  obtain ⟨ra, rc, rfl, hins, _, _, hrb⟩ := ho.ins
  rw [ds_len] at hins ⊢
  have HA : Hid (∀ x, ra = some x → ¬ L.M x.block) := fun x hx hm => by
    have h1 := (hrb x hx).1
    have h2 := HML.out _ hm
    omega
  have HR1 := Lib.hid (HR.out.below hbl1)
  have HB1 := Lib.hid (HB.out.next hbl1)
  have HI1 := Lib.hid hins
  have HT1 : Hid (Turn L.M w w1) := Turn.of_below hbl1
  clear hdd ho hins hrb hbl1 HR HB HML
  go_wp2_with (fail)
  go_loopw [4] (fun v wr => ∃ i : Nat, i ≤ N ∧ v = .int .i64 i ∧ (rflG B F i).1 = false ∧ RefAt wr M L (rflG B F i).2.2 ∧ RbAt wr b L.p B ∧ Ins wr ra N (B.ds N) ∧ Turn L.M w wr) (fun v _ => N - (intOf v).toNat)
  case atStart => exact ⟨0, Nat.zero_le _, rfl, rfl, HR1.out, HB1.out, HI1.out, HT1.out⟩
  case round =>
    obtain ⟨i, hi, rfl, hon, hr, hb, hins, ht⟩ := hrel
    have HON := Lib.hid hon
    have HT := Lib.hid ht
    by_cases hlt : i < N
    · rcases hins.2 with h0 | ⟨g, off, rfl, hg, hc⟩
      · omega
      have k1 := hc i hlt
      rw [ds_at B hlt] at k1
      have k0 := hb.c0
      have HI := Lib.hid hins
      have hbd := hb.drew
      have hrd : RefAt wr.drew M L (rflG B F i).2.2 := hr.below (below_drewN (Below.refl _ wr) 1)
      have HR2 := Lib.hid hrd
      have HB2 := Lib.hid hbd
      have i0 : (0 : Int) ≤ (i : Int) := by omega
      have i2 : (i : Int) < (N : Int) := by omega
      have HGL := Lib.hid hg
      have HNG := Lib.hid (HA.out _ rfl)
      clear hon ht hins hc hr hb hbd hrd hg HR1 HB1 HI1 HT1
      go_wp2_with (fail)
      refine wp_region_held_drew (S := fun w' => w'.cell? ⟨b, 0, none⟩ = some (.pointer (some ⟨L.p, 0, none⟩)) ∧ w'.cell? ⟨g, off + i, none⟩ = some (.int .i64 (B.disk (i : Int)))) (by kernel_rfl) ?_ (fun hHeld => ?_)
      · exact ⟨k0, k1⟩
      refine wpAnyH_take (i := 0) (v := ?_) rfl (by kernel_rfl) (by kernel_rfl) (by kernel_rfl) (fun _ _ _ h => h) (Or.inl ⟨by rfl, fun w hSw => ?_⟩) (by assumption) ?_
      rotate_left
      · (try dsimp only at hSw); go_simp; try with_reducible rfl
      simp only [Act.put, List.setIfInBounds_toArray, List.set_cons_zero, List.set_cons_succ, List.getElem_toArray, List.getElem_cons_zero]
      refine wpAnyH_take (i := 1) (v := ?_) rfl (by kernel_rfl) (by kernel_rfl) (by kernel_rfl) (fun _ _ _ h => h) (Or.inl ⟨by rfl, fun w hSw => ?_⟩) (by assumption) ?_
      rotate_left
      · (try dsimp only at hSw); go_simp; try with_reducible rfl
      simp only [Act.put, List.setIfInBounds_toArray, List.set_cons_zero, List.set_cons_succ, List.getElem_toArray, List.getElem_cons_succ, List.getElem_cons_zero]
      refine wpAnyH_take (i := 2) (v := ?_) rfl (by kernel_rfl) (by kernel_rfl) (by kernel_rfl) (fun _ _ _ h => h) (Or.inl ⟨by rfl, fun w hSw => ?_⟩) (by assumption) ?_
      rotate_left
      · (try dsimp only at hSw); go_simp; try with_reducible rfl
      simp only [Act.put, List.setIfInBounds_toArray, List.set_cons_zero, List.set_cons_succ, List.getElem_toArray, List.getElem_cons_succ, List.getElem_cons_zero]
      refine wpAnyH_take (i := 3) (v := ?_) rfl (by kernel_rfl) (by kernel_rfl) (by kernel_rfl) (fun _ _ _ h => h) (Or.inl ⟨by rfl, fun w hSw => ?_⟩) (by assumption) ?_
      rotate_left
      · (try dsimp only at hSw); go_simp; try with_reducible rfl
      simp only [Act.put, List.setIfInBounds_toArray, List.set_cons_zero, List.set_cons_succ, List.getElem_toArray, List.getElem_cons_succ, List.getElem_cons_zero]
      refine wpAnyH_take (i := 4) (v := ?_) rfl (by kernel_rfl) (by kernel_rfl) (by kernel_rfl) (fun _ _ _ h => h) (Or.inl ⟨by rfl, fun w hSw => ?_⟩) (by assumption) ?_
      rotate_left
      · (try dsimp only at hSw); go_simp; try with_reducible rfl
      simp only [Act.put, List.setIfInBounds_toArray, List.set_cons_zero, List.set_cons_succ, List.getElem_toArray, List.getElem_cons_succ, List.getElem_cons_zero]
      refine wpAnyH_take (i := 5) (v := ?_) rfl (by kernel_rfl) (by kernel_rfl) (by kernel_rfl) (fun _ _ _ h => h) (Or.inl ⟨by rfl, fun w hSw => ?_⟩) (by assumption) ?_
      rotate_left
      · (try dsimp only at hSw); go_simp; try with_reducible rfl
      simp only [Act.put, List.setIfInBounds_toArray, List.set_cons_zero, List.set_cons_succ, List.getElem_toArray, List.getElem_cons_succ, List.getElem_cons_zero]
      refine wpAnyH_take (i := 6) (v := ?_) rfl (by kernel_rfl) (by kernel_rfl) (by kernel_rfl) (fun _ _ _ h => h) (Or.inl ⟨by rfl, fun w hSw => ?_⟩) (by assumption) ?_
      rotate_left
      · (try dsimp only at hSw); go_simp; try with_reducible rfl
      simp only [Act.put, List.setIfInBounds_toArray, List.set_cons_zero, List.set_cons_succ, List.getElem_toArray, List.getElem_cons_succ, List.getElem_cons_zero]
      refine wpAnyH_take (i := 7) (v := ?_) rfl (by kernel_rfl) (by kernel_rfl) (by kernel_rfl) (fun _ _ _ h => h) (Or.inl ⟨by rfl, fun w hSw => ?_⟩) (by assumption) ?_
      rotate_left
      · (try dsimp only at hSw); go_simp; try with_reducible rfl
      simp only [Act.put, List.setIfInBounds_toArray, List.set_cons_zero, List.set_cons_succ, List.getElem_toArray, List.getElem_cons_succ, List.getElem_cons_zero]
      refine wpAnyH_ready (rs := [8]) (by kernel_rfl) (by simp) ?_
      refine AllReadyH.cons rfl (fun K hK => ?_) AllReadyH.nil
      simp only [List.getElem_toArray, List.getElem_cons_succ, List.getElem_cons_zero]
      go_simp
      refine (rflush_all (B.disk (i : Int)) HR2.out).mono ?_
      rintro e w3 ⟨rfl, hr3, ht3⟩
      have q0 := (ht3.cell (a := ⟨b, 0, none⟩) HB2.out.lt HBM.out).trans k0
      have q1 := (ht3.cell (a := ⟨g, off + i, none⟩) HGL.out HNG.out).trans k1
      have HR3 := Lib.hid hr3
      have HB3 := Lib.hid (HB2.out.turn ht3 HBM.out)
      have HI3 := Lib.hid (HI.out.turn2 ht3.undrw (by rintro x hx; cases hx; exact HNG.out))
      have HT3 := Lib.hid (HT.out.trans ht3.undrw)
      clear k0 k1 hHeld hr3 ht3
      go_wp2_with (fail)
      refine hK.out _ _ ⟨q0, q1⟩ (fun hHeld => ?_)
      clear hK K
      cases he : ((rflG B F i).2.2.flE (B.disk (i : Int)) == 12) with
      | true =>
        have HS : Hid (rflG B F N = (true, 12, (rflG B F i).2.2.fl (B.disk (i : Int)))) := by
          have e1 := rflG_stop HON.out (by simpa using he)
          exact (goN_end (by show (rflG B F (i + 1)).1 = true; rw [e1]) N hlt).trans e1
        refine wpAnyH_take (i := 9) (v := ?_) rfl (by kernel_rfl) (by kernel_rfl) (by kernel_rfl) (fun _ _ _ h => h) (Or.inl ⟨by rfl, fun w hSw => ?_⟩) (by assumption) ?_
        rotate_left
        · (try dsimp only at hSw); go_simp; try with_reducible rfl
        simp only [Act.put, List.setIfInBounds_toArray, List.set_cons_zero, List.set_cons_succ, List.getElem_toArray, List.getElem_cons_succ, List.getElem_cons_zero]
        refine wpAnyH_done (by kernel_rfl) ?_ _
        clear hHeld q0 q1
        go_wp2_with (fail)
        go_ret
        rw [HS.out]
        exact ⟨rfl, HR3.out, HT3.out⟩
      | false =>
        have HS : Hid (rflG B F (i + 1) = (false, (rflG B F i).2.1, (rflG B F i).2.2.fl (B.disk (i : Int)))) := rflG_go HON.out (by simpa using he)
        refine wpAnyH_take (i := 9) (v := ?_) rfl (by kernel_rfl) (by kernel_rfl) (by kernel_rfl) (fun _ _ _ h => h) (Or.inl ⟨by rfl, fun w hSw => ?_⟩) (by assumption) ?_
        rotate_left
        · (try dsimp only at hSw); go_simp; try with_reducible rfl
        simp only [Act.put, List.setIfInBounds_toArray, List.set_cons_zero, List.set_cons_succ, List.getElem_toArray, List.getElem_cons_succ, List.getElem_cons_zero]
        refine wpAnyH_done (by kernel_rfl) ?_ _
        clear hHeld q0 q1
        go_wp2_with (fail)
        go_roundw
        case rel => exact ⟨i + 1, by omega, by go_num, by rw [HS.out], by rw [HS.out]; exact HR3.out, HB3.out, HI3.out, HT3.out⟩
        case measure => simp [intOf]; omega
    · obtain rfl : i = N := by omega
      have HR2 := Lib.hid hr
      clear hon hr hb hins ht
      go_wp2_with (fail)
      go_ret
      rw [rflG_0 B F i HON.out]
      exact ⟨rfl, HR2.out, HT.out⟩
end

end Go.Proofs.YtoiidhpohghiaaaGreat

/-
  The reference's bank: its Everywhere, by contract.
-/
namespace Go.Proofs.YtoiidhpohghiaaaGreat
open Go.RowKit Go.Maps
set_option linter.unusedVariables false

section
variable {M : Nat → Prop} {L : RLay} {F : Rf} {w : World} {b : Nat} {B : Bn}
set_option maxRecDepth 100000 in
set_option maxHeartbeats 4000000 in
theorem revery_bank (n : Nat) (k : Int) (a : Option Addr) (m c : Nat) (zs : List Int) (hr : RefAt w M L F) (hb : RbAt w b L.p B) (hbM : ¬ L.M b) (hd : B.d = (n : Int)) (hn : n ≤ 16) (hz : Bys w a m zs) (hzM : m = 0 ∨ ∀ b off, a = some ⟨b, off, none⟩ → ¬ M b) :
    Calls Tryz.prog 31 #[.pointer (some ⟨b, 0, none⟩), .int .i64 k, .slice a m c] w (RefPost M L (revG B k zs F B.num).2.2 w (.int .i64 (revG B k zs F B.num).2.1)) := by
  have HR := Lib.hid hr
  have HB := Lib.hid hb
  have HBM := Lib.hid hbM
  have HML : Hid (∀ k, L.M k → k < w.heap.size) := fun k hk => hr.low k (hr.sub k hk)
  have hdd := rdisks_any n hb hd hn
  have hnum : B.num ≤ 17 := by unfold Bn.num; rw [hd]; split <;> omega
  obtain ⟨N, hN⟩ : ∃ N, N = B.num := ⟨_, rfl⟩
  rw [← hN] at hdd hnum ⊢
  have HZ := Lib.hid hz
  have HZM := Lib.hid hzM
  have HSUB : Hid (∀ k, L.M k → M k) := hr.sub
  clear hr hb hbM hd hN hz hzM
  go_enter Tryz.func31, Tryz.ntmps31
  go_wp2_with (fail)
  refine hdd.mono ?_
  rintro e w1 ⟨v, rfl, ho, hbl1⟩
  obtain ⟨ra, rc, rfl, hins, _, _, hrb⟩ := ho.ins
  rw [ds_len] at hins ⊢
  have HA : Hid (∀ x, ra = some x → ¬ L.M x.block) := fun x hx hm => by
    have h1 := (hrb x hx).1
    have h2 := HML.out _ hm
    omega
  have HR1 := Lib.hid (HR.out.below hbl1)
  have HB1 := Lib.hid (HB.out.next hbl1)
  have HI1 := Lib.hid hins
  have HZ1 := Lib.hid (HZ.out.below (Nat.le_refl _) hbl1)
  have HT1 : Hid (Turn L.M w w1) := Turn.of_below hbl1
  clear hdd ho hins hrb hbl1 HR HB HML HZ
  go_wp2_with (fail)
  go_loopw [8, 9, 10] (fun u v _ wr => ∃ i : Nat, i ≤ N ∧ v = .int .i64 i ∧ u = .int .i64 (revG B k zs F i).2.1 ∧ Bys wr a m zs ∧ (revG B k zs F i).1 = false ∧ RefAt wr M L (revG B k zs F i).2.2 ∧ RbAt wr b L.p B ∧ Ins wr ra N (B.ds N) ∧ Turn L.M w wr) (fun _ v _ _ => N - (intOf v).toNat)
  case atStart => exact ⟨0, Nat.zero_le _, rfl, rfl, HZ1.out, rfl, HR1.out, HB1.out, HI1.out, HT1.out⟩
  case round =>
    obtain ⟨i, hi, rfl, rfl, hz, hon, hr, hb, hins, ht⟩ := hrel
    have HON := Lib.hid hon
    have HT := Lib.hid ht
    by_cases hlt : i < N
    · rcases hins.2 with h0 | ⟨g, off, rfl, hg, hc⟩
      · omega
      have k1 := hc i hlt
      rw [ds_at B hlt] at k1
      have k0 := hb.c0
      have HI := Lib.hid hins
      have hzd : Bys wr.drew a m zs := hz.below (Nat.le_refl _) (below_drewN (Below.refl _ _) 1)
      have HZD := Lib.hid hzd
      have hbd := hb.drew
      have hrd : RefAt wr.drew M L (revG B k zs F i).2.2 := hr.below (below_drewN (Below.refl _ wr) 1)
      have HR2 := Lib.hid hrd
      have HB2 := Lib.hid hbd
      have i0 : (0 : Int) ≤ (i : Int) := by omega
      have i2 : (i : Int) < (N : Int) := by omega
      have HGL := Lib.hid hg
      have HNG := Lib.hid (HA.out _ rfl)
      clear hon ht hins hc hr hb hbd hrd hg hz hzd HZ1 HR1 HB1 HI1 HT1
      go_wp2_with (fail)
      refine wp_region_held_drew (S := fun w' => w'.cell? ⟨b, 0, none⟩ = some (.pointer (some ⟨L.p, 0, none⟩)) ∧ w'.cell? ⟨g, off + i, none⟩ = some (.int .i64 (B.disk (i : Int)))) (by kernel_rfl) ?_ (fun hHeld => ?_)
      · exact ⟨k0, k1⟩
      refine wpAnyH_take (i := 0) (v := ?_) rfl (by kernel_rfl) (by kernel_rfl) (by kernel_rfl) (fun _ _ _ h => h) (Or.inl ⟨by rfl, fun w hSw => ?_⟩) (by assumption) ?_
      rotate_left
      · (try dsimp only at hSw); go_simp; try with_reducible rfl
      simp only [Act.put, List.setIfInBounds_toArray, List.set_cons_zero, List.set_cons_succ, List.getElem_toArray, List.getElem_cons_zero]
      refine wpAnyH_take (i := 1) (v := ?_) rfl (by kernel_rfl) (by kernel_rfl) (by kernel_rfl) (fun _ _ _ h => h) (Or.inl ⟨by rfl, fun w hSw => ?_⟩) (by assumption) ?_
      rotate_left
      · (try dsimp only at hSw); go_simp; try with_reducible rfl
      simp only [Act.put, List.setIfInBounds_toArray, List.set_cons_zero, List.set_cons_succ, List.getElem_toArray, List.getElem_cons_succ, List.getElem_cons_zero]
      refine wpAnyH_take (i := 2) (v := ?_) rfl (by kernel_rfl) (by kernel_rfl) (by kernel_rfl) (fun _ _ _ h => h) (Or.inl ⟨by rfl, fun w hSw => ?_⟩) (by assumption) ?_
      rotate_left
      · (try dsimp only at hSw); go_simp; try with_reducible rfl
      simp only [Act.put, List.setIfInBounds_toArray, List.set_cons_zero, List.set_cons_succ, List.getElem_toArray, List.getElem_cons_succ, List.getElem_cons_zero]
      refine wpAnyH_take (i := 3) (v := ?_) rfl (by kernel_rfl) (by kernel_rfl) (by kernel_rfl) (fun _ _ _ h => h) (Or.inl ⟨by rfl, fun w hSw => ?_⟩) (by assumption) ?_
      rotate_left
      · (try dsimp only at hSw); go_simp; try with_reducible rfl
      simp only [Act.put, List.setIfInBounds_toArray, List.set_cons_zero, List.set_cons_succ, List.getElem_toArray, List.getElem_cons_succ, List.getElem_cons_zero]
      refine wpAnyH_take (i := 4) (v := ?_) rfl (by kernel_rfl) (by kernel_rfl) (by kernel_rfl) (fun _ _ _ h => h) (Or.inl ⟨by rfl, fun w hSw => ?_⟩) (by assumption) ?_
      rotate_left
      · (try dsimp only at hSw); go_simp; try with_reducible rfl
      simp only [Act.put, List.setIfInBounds_toArray, List.set_cons_zero, List.set_cons_succ, List.getElem_toArray, List.getElem_cons_succ, List.getElem_cons_zero]
      refine wpAnyH_take (i := 5) (v := ?_) rfl (by kernel_rfl) (by kernel_rfl) (by kernel_rfl) (fun _ _ _ h => h) (Or.inl ⟨by rfl, fun w hSw => ?_⟩) (by assumption) ?_
      rotate_left
      · (try dsimp only at hSw); go_simp; try with_reducible rfl
      simp only [Act.put, List.setIfInBounds_toArray, List.set_cons_zero, List.set_cons_succ, List.getElem_toArray, List.getElem_cons_succ, List.getElem_cons_zero]
      refine wpAnyH_take (i := 6) (v := ?_) rfl (by kernel_rfl) (by kernel_rfl) (by kernel_rfl) (fun _ _ _ h => h) (Or.inl ⟨by rfl, fun w hSw => ?_⟩) (by assumption) ?_
      rotate_left
      · (try dsimp only at hSw); go_simp; try with_reducible rfl
      simp only [Act.put, List.setIfInBounds_toArray, List.set_cons_zero, List.set_cons_succ, List.getElem_toArray, List.getElem_cons_succ, List.getElem_cons_zero]
      refine wpAnyH_take (i := 7) (v := ?_) rfl (by kernel_rfl) (by kernel_rfl) (by kernel_rfl) (fun _ _ _ h => h) (Or.inl ⟨by rfl, fun w hSw => ?_⟩) (by assumption) ?_
      rotate_left
      · (try dsimp only at hSw); go_simp; try with_reducible rfl
      simp only [Act.put, List.setIfInBounds_toArray, List.set_cons_zero, List.set_cons_succ, List.getElem_toArray, List.getElem_cons_succ, List.getElem_cons_zero]
      refine wpAnyH_take (i := 8) (v := ?_) rfl (by kernel_rfl) (by kernel_rfl) (by kernel_rfl) (fun _ _ _ h => h) (Or.inl ⟨by rfl, fun w hSw => ?_⟩) (by assumption) ?_
      rotate_left
      · (try dsimp only at hSw); go_simp; try with_reducible rfl
      simp only [Act.put, List.setIfInBounds_toArray, List.set_cons_zero, List.set_cons_succ, List.getElem_toArray, List.getElem_cons_succ, List.getElem_cons_zero]
      refine wpAnyH_take (i := 9) (v := ?_) rfl (by kernel_rfl) (by kernel_rfl) (by kernel_rfl) (fun _ _ _ h => h) (Or.inl ⟨by rfl, fun w hSw => ?_⟩) (by assumption) ?_
      rotate_left
      · (try dsimp only at hSw); go_simp; try with_reducible rfl
      simp only [Act.put, List.setIfInBounds_toArray, List.set_cons_zero, List.set_cons_succ, List.getElem_toArray, List.getElem_cons_succ, List.getElem_cons_zero]
      refine wpAnyH_ready (rs := [10]) (by kernel_rfl) (by simp) ?_
      refine AllReadyH.cons rfl (fun K hK => ?_) AllReadyH.nil
      simp only [List.getElem_toArray, List.getElem_cons_succ, List.getElem_cons_zero]
      go_simp
      refine (rwrite_all (B.disk (i : Int)) k a m c zs HR2.out HZD.out HZM.out).mono ?_
      rintro e w3 ⟨rfl, hr3, ht3⟩
      have q0 := (ht3.cell (a := ⟨b, 0, none⟩) HB2.out.lt HBM.out).trans k0
      have q1 := (ht3.cell (a := ⟨g, off + i, none⟩) HGL.out HNG.out).trans k1
      have HR3 := Lib.hid hr3
      have HB3 := Lib.hid (HB2.out.turn ht3 HBM.out)
      have HI3 := Lib.hid (HI.out.turn2 ht3.undrw (by rintro x hx; cases hx; exact HNG.out))
      have HT3 := Lib.hid (HT.out.trans ht3.undrw)
      have HZ3 := Lib.hid (bys_turn0 HZD.out ht3 (HZM.out.imp id fun h b off e x => h b off e (HSUB.out _ x)))
      clear k0 k1 hHeld hr3 ht3
      go_wp2_with (fail)
      refine hK.out _ _ ⟨q0, q1⟩ (fun hHeld => ?_)
      clear hK K
      refine wpAnyH_take (i := 11) (v := ?_) rfl (by kernel_rfl) (by kernel_rfl) (by kernel_rfl) (fun _ _ _ h => h) (Or.inl ⟨by rfl, fun w hSw => ?_⟩) (by assumption) ?_
      rotate_left
      · (try dsimp only at hSw); go_simp; try with_reducible rfl
      simp only [Act.put, List.setIfInBounds_toArray, List.set_cons_zero, List.set_cons_succ, List.getElem_toArray, List.getElem_cons_succ, List.getElem_cons_zero]
      refine wpAnyH_done (by kernel_rfl) ?_ _
      obtain ⟨E, hE⟩ : ∃ E, E = (revG B k zs F i).2.2.wrE (B.disk (i : Int)) k zs := ⟨_, rfl⟩
      rw [← hE]
      have HE := Lib.hid hE
      clear hHeld q0 q1 hE
      cases he : (E == 12) with
      | true =>
        have HS : Hid (revG B k zs F N = (true, 12, (revG B k zs F i).2.2.wr (B.disk (i : Int)) k zs)) := by
          have e1 := revG_stop HON.out (by rw [← HE.out]; simpa using he)
          exact (goN_end (by show (revG B k zs F (i + 1)).1 = true; rw [e1]) N hlt).trans e1
        have h12 : E = 12 := by simpa using he
        go_wp2_with (fail)
        go_ret
        rw [HS.out, h12]
        exact ⟨rfl, HR3.out, HT3.out⟩
      | false =>
        have HS : Hid (revG B k zs F (i + 1) = (false, if E = 11 then 11 else (revG B k zs F i).2.1, (revG B k zs F i).2.2.wr (B.disk (i : Int)) k zs)) := by
          have h := revG_go HON.out (show (revG B k zs F i).2.2.wrE (B.disk (i : Int)) k zs ≠ 12 by rw [← HE.out]; simpa using he)
          rw [← HE.out] at h
          exact h
        cases he2 : (E == 11) with
        | true =>
          have h11 : E = 11 := by simpa using he2
          go_wp2_with (fail)
          go_roundw
          case rel => exact ⟨i + 1, by omega, by go_num, by rw [HS.out, if_pos h11, h11], HZ3.out, by rw [HS.out], by rw [HS.out]; exact HR3.out, HB3.out, HI3.out, HT3.out⟩
          case measure => simp [intOf]; omega
        | false =>
          have h11 : E ≠ 11 := by simpa using he2
          go_wp2_with (fail)
          go_roundw
          case rel => exact ⟨i + 1, by omega, by go_num, by rw [HS.out, if_neg h11], HZ3.out, by rw [HS.out], by rw [HS.out]; exact HR3.out, HB3.out, HI3.out, HT3.out⟩
          case measure => simp [intOf]; omega
    · obtain rfl : i = N := by omega
      have HR2 := Lib.hid hr
      clear hon hr hb hins ht
      go_wp2_with (fail)
      go_ret
      exact ⟨rfl, HR2.out, HT.out⟩
end

end Go.Proofs.YtoiidhpohghiaaaGreat
