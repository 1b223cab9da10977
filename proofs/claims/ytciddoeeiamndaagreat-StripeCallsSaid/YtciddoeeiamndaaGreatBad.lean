/-
  The bank's Bad, by contract.
-/
import Derived.Test.YtciddoeeiamndaaGreatBop
import Derived.Test.YtciddoeeiamndaaGreatNumz
namespace Go.Proofs.YtciddoeeiamndaaGreat
open Go.RowKit Go.Maps
set_option linter.unusedVariables false

/-- Is slot i bad? -/
def badP (B : Bn) (R : Rk) (i : Int) : Bool := decide (B.st = 1 ∧ i = B.sl) || R.failed (B.disk i)
/-- The bad ones of the first i slots. -/
def badL (B : Bn) (R : Rk) : Nat → List Int
  | 0 => []
  | i + 1 => if badP B R (i : Int) then badL B R i ++ [(i : Int)] else badL B R i
theorem badL_len (B : Bn) (R : Rk) (i : Nat) : (badL B R i).length ≤ i := by
  induction i with
  | zero => exact Nat.le_refl _
  | succ i ih =>
    unfold badL
    split
    · simp; omega
    · omega

set_option maxHeartbeats 2000000 in
theorem bad_any (M : Nat → Prop) (L : Lay) (R : Rk) (w : World) (b n : Nat) (B : Bn) (hr : RackAt w M L R) (hb : BnAt w b L.p B) (hd : B.d = (n : Int)) (hn : n ≤ 16) :
    Calls Tryz.prog 63 #[.pointer (some ⟨b, 0, none⟩)] w (RetI w (badL B R n)) := by
  have HR := Lib.hid hr
  have HB := Lib.hid hb
  have c1 := hb.c1
  rw [hd] at c1
  clear hr hb hd
  go_enter Tryz.func63, Tryz.ntmps63
  go_wp2_with (fail)
  go_loopw [3, 4, 10] (fun u _ v wr => ∃ i : Nat, i ≤ n ∧ v = .int .i64 i ∧ OwnI wr w.heap.size u (badL B R i).length (badL B R i) ∧ Below w.heap.size w wr) (fun _ _ v _ => n - (RowKit.intOf v).toNat)
  case atStart => exact ⟨0, Nat.zero_le _, rfl, ownI_nil _ _, Below.refl _ _⟩
  case round =>
    obtain ⟨i, hi, rfl, ho, hbl⟩ := hrel
    clear c1
    by_cases hlt : i < n
    · have hbk := HB.out.next hbl
      have hrk := HR.out.below hbl
      have c0 := hbk.c0
      have HJ : Hid (∀ q, Calls Tryz.prog 108 #[.pointer (some ⟨b, 0, none⟩), .int .i64 i] (wr.drewN q) fun e w' => e = .returned (.bool (decide (B.st = 1 ∧ (i : Int) = B.sl))) ∧ w' = wr.drewN q) := fun q => joining_any (i : Int) (hbk.drewN q)
      have HD : Hid (∀ q, Calls Tryz.prog 92 #[.pointer (some ⟨b, 0, none⟩), .int .i64 i] (wr.drewN q) fun e w' => e = .returned (.int .i64 (B.disk (i : Int))) ∧ w' = wr.drewN q) := fun q => disk_any (i : Int) (hbk.drewN q)
      have HF : Hid (∀ q, Calls Tryz.prog 109 #[.pointer (some ⟨L.p, 0, none⟩), .int .i64 (B.disk (i : Int))] (wr.drewN q) fun e w' => e = .returned (.bool (R.failed (B.disk (i : Int)))) ∧ w' = wr.drewN q) := fun q => (failed_rack M L R (wr.drewN q) (B.disk (i : Int)) (hrk.below (below_drewN (Below.refl _ _) q))).mono fun e w' h => ⟨h.1, h.2.symm⟩
      obtain ⟨ra, rc, rfl, hins, hnc, hcm, hrb⟩ := ho.ins
      have HO := Lib.hid ho
      have HBL := Lib.hid hbl
      have hll := badL_len B R i
      have hJ : Hid (badP B R (i : Int) = (decide (B.st = 1 ∧ (i : Int) = B.sl) || R.failed (B.disk (i : Int)))) := Lib.hid rfl
      have HLL : Hid ((badL B R i).length + 1 ≤ 1000000000000) := by unfold Hid; omega
      have hsz := hbl.size
      clear ho hbl hins hnc hcm hrb hll hbk hrk
      by_cases hj : B.st = 1 ∧ (i : Int) = B.sl
      · have HS : Hid (badL B R (i + 1) = badL B R i ++ [(i : Int)]) := by
          show (if _ then _ else _) = _
          rw [if_pos (by rw [hJ.out, decide_eq_true hj]; rfl)]
        rw [decide_eq_true hj] at HJ
        clear hj hJ HD HF
        go_wp2_with (fail)
        go_quiet ((go_at_call 108; exact Calls.quiet_of_same (HJ.out _)))
        obtain ⟨W1, hW1⟩ : ∃ W1, W1 = wr.drewN nq := ⟨_, rfl⟩
        have HO1 : Hid (OwnI (W1.alloc (.cells #[.int .i64 (i : Int)] 3)) w.heap.size (.slice ra (badL B R i).length rc) (badL B R i).length (badL B R i)) := by rw [hW1]; exact (HO.out.next (below_drewN (Below.refl _ _) nq)).alloc _
        have HB1 : Hid (Below w.heap.size w (W1.alloc (.cells #[.int .i64 (i : Int)] 3))) := by rw [hW1]; exact (below_drewN HBL.out nq).alloc (by simpa using hsz) _
        have hsz1 : w.heap.size ≤ W1.heap.size := by rw [hW1]; simpa using hsz
        rw [← hW1]
        clear hW1
        go_wp2_with (at_builtin; go_must (refine wpList_apz rfl (.tmp 26) (.tmp 28) rfl w.heap.size _ (badL B R i).length (badL B R i) rfl HO1.out W1.heap.size (i : Int) rfl (by simp) HLL.out (by simp; omega) w HB1.out ?_); intro v2 w2 ho2 hb2)
        go_roundw
        case rel => exact ⟨i + 1, by omega, by go_num, by rw [HS.out, List.length_append, List.length_singleton]; exact ho2, hb2⟩
        case measure => simp [RowKit.intOf]; omega
      · rw [decide_eq_false hj] at HJ
        cases hf : R.failed (B.disk (i : Int)) with
        | true =>
          have HS : Hid (badL B R (i + 1) = badL B R i ++ [(i : Int)]) := by
            show (if _ then _ else _) = _
            rw [if_pos (by rw [hJ.out, hf, Bool.or_true])]
          rw [hf] at HF
          clear hj hJ hf
          go_wp2_with (fail)
          go_quiet (first | (go_at_call 108; exact Calls.quiet_of_same (HJ.out _)) | (go_at_call 92; exact Calls.quiet_of_same (HD.out _)) | (go_at_call 109; exact Calls.quiet_of_same (HF.out _)))
          obtain ⟨W1, hW1⟩ : ∃ W1, W1 = wr.drewN nq := ⟨_, rfl⟩
          have HO1 : Hid (OwnI (W1.alloc (.cells #[.int .i64 (i : Int)] 3)) w.heap.size (.slice ra (badL B R i).length rc) (badL B R i).length (badL B R i)) := by rw [hW1]; exact (HO.out.next (below_drewN (Below.refl _ _) nq)).alloc _
          have HB1 : Hid (Below w.heap.size w (W1.alloc (.cells #[.int .i64 (i : Int)] 3))) := by rw [hW1]; exact (below_drewN HBL.out nq).alloc (by simpa using hsz) _
          have hsz1 : w.heap.size ≤ W1.heap.size := by rw [hW1]; simpa using hsz
          rw [← hW1]
          clear hW1
          go_wp2_with (at_builtin; go_must (refine wpList_apz rfl (.tmp 26) (.tmp 28) rfl w.heap.size _ (badL B R i).length (badL B R i) rfl HO1.out W1.heap.size (i : Int) rfl (by simp) HLL.out (by simp; omega) w HB1.out ?_); intro v2 w2 ho2 hb2)
          go_roundw
          case rel => exact ⟨i + 1, by omega, by go_num, by rw [HS.out, List.length_append, List.length_singleton]; exact ho2, hb2⟩
          case measure => simp [RowKit.intOf]; omega
        | false =>
          have HS : Hid (badL B R (i + 1) = badL B R i) := by
            show (if _ then _ else _) = _
            rw [if_neg (by rw [hJ.out, hf, decide_eq_false hj]; simp)]
          rw [hf] at HF
          clear hj hJ hf
          go_wp2_with (fail)
          go_quiet (first | (go_at_call 108; exact Calls.quiet_of_same (HJ.out _)) | (go_at_call 92; exact Calls.quiet_of_same (HD.out _)) | (go_at_call 109; exact Calls.quiet_of_same (HF.out _)))
          go_wp2_with (fail)
          go_roundw
          case rel => exact ⟨i + 1, by omega, by go_num, by rw [HS.out]; exact HO.out.next (below_drewN (Below.refl _ _) nq), below_drewN HBL.out nq⟩
          case measure => simp [RowKit.intOf]; omega
    · obtain rfl : i = n := by omega
      have HO := Lib.hid ho
      have HBL := Lib.hid hbl
      clear ho hbl
      go_wp2_with (fail)
      go_ret
      exact ⟨_, rfl, HO.out, HBL.out⟩

end Go.Proofs.YtciddoeeiamndaaGreat
