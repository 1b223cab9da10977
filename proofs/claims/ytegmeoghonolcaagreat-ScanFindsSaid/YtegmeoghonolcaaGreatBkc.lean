/-
  The bank's Read, Write, SpareFailed, Geo, by contract.
-/
import Derived.Test.YtegmeoghonolcaaGreatBkb
import Derived.Test.YtegmeoghonolcaaGreatBka
import Derived.Deep.RegionHeld3
import Derived.Test.YtegmeoghonolcaaGreatDva
import Derived.Test.YtegmeoghonolcaaGreatAl
set_option linter.unusedSimpArgs false
set_option linter.unusedVariables false
namespace Go.Proofs.YtegmeoghonolcaaGreat
open Go.RowKit Go.Maps
set_option linter.unusedVariables false

theorem Turn.undrw {N : Nat → Prop} {w w' : World} (h : Turn N w.drew w') : Turn N w w' := ⟨h.os, h.tape, h.output, h.size, h.block⟩
theorem Own.lower {w : World} {B C n : Nat} {v : Value} {zs : List Int} (h : Own w B v n zs) (hC : C ≤ B) : Own w C v n zs := by
  refine ⟨⟨h.row.1, ?_⟩, h.small⟩
  rcases h.row.2 with h1 | ⟨g, cap, cur, e, hb, r⟩
  · exact .inl h1
  · exact .inr ⟨g, cap, cur, e, Nat.le_trans hC hb, r⟩
def brV (B : Bn) (R : Rk) (i k : Int) : List Int := if hasSl B.d i then R.rdV (B.disk i) k else []
def brE (B : Bn) (R : Rk) (i k : Int) : Int := if hasSl B.d i then R.rdE (B.disk i) k else 11
def bwE (B : Bn) (R : Rk) (i k : Int) (zs : List Int) : Int := if hasSl B.d i then R.wrE (B.disk i) k zs else 11
def bw (B : Bn) (R : Rk) (i k : Int) (zs : List Int) : Rk := if hasSl B.d i then R.wr (B.disk i) k zs else R

section
variable {M : Nat → Prop} {L : Lay} {R : Rk} {w : World} {b : Nat} {B : Bn}
set_option maxHeartbeats 1000000 in
theorem bread_any (i k : Int) (hr : RackAt w M L R) (hb : BnAt w b L.p B) :
    Calls Tryz.prog 163 #[.pointer (some ⟨b, 0, none⟩), .int .i64 i, .int .i64 k] w (RetP w (brV B R i k) (brE B R i k)) := by
  unfold brV brE
  have c1 := hb.c1
  have c2 := hb.c2
  have c3 := hb.c3
  have HR := Lib.hid hr
  have HB := Lib.hid hb
  cases hs : hasSl B.d i with
  | false =>
    have h0 := hasSlot_any B.d B.r B.s i w
    rw [hs] at h0
    clear hr hb hs
    go_enter Tryz.func163, Tryz.ntmps163
    go_wp2_with (go_at_call 71; refine h0.mono ?_; rintro e w1 ⟨rfl, hb1⟩)
    go_ret2
    exact ⟨_, rfl, own_nil _ _, hb1⟩
  | true =>
    have h0 := hasSlot_any B.d B.r B.s i w
    rw [hs] at h0
    clear hr hb hs
    go_enter Tryz.func163, Tryz.ntmps163
    go_wp2_with (go_at_call 71; refine h0.mono ?_; rintro e w1 ⟨rfl, hb1⟩)
    have hbk1 := (HB.out.next hb1).drew
    have hrk1 := (HR.out.below hb1).drew
    have k0 := hbk1.c0
    refine wp_region_held_drew (S := fun w' => w'.cell? ⟨b, 0, none⟩ = some (.pointer (some ⟨L.p, 0, none⟩))) (by kernel_rfl) ?_ (fun hHeld => ?_)
    · exact k0
    refine rgY 0 ?_ rfl (by kernel_rfl) (fun _ _ _ h => h) (.inl ⟨by rfl, fun w hSw => ?_⟩) (by assumption) ?_
    rotate_left
    · (try dsimp only at hSw); go_simp; try with_reducible rfl
    simp only [Act.put, rg1, rg2, rg3, rg4, rg6]
    refine rgY 1 ?_ rfl (by kernel_rfl) (fun _ _ _ h => h) (.inl ⟨by rfl, fun w hSw => ?_⟩) (by assumption) ?_
    rotate_left
    · (try dsimp only at hSw); go_simp; try with_reducible rfl
    simp only [Act.put, rg1, rg2, rg3, rg4, rg5, rg6]
    refine rgY 2 ?_ rfl (by kernel_rfl) (fun _ _ _ h => h) (.inl ⟨by rfl, fun w hSw => ?_⟩) (by assumption) ?_
    rotate_left
    · (try dsimp only at hSw); go_simp; try with_reducible rfl
    simp only [Act.put, rg1, rg2, rg3, rg4, rg5, rg6]
    refine rgY 3 ?_ rfl (by kernel_rfl) (fun _ _ _ h => h) (.inl ⟨by rfl, fun w hSw => ?_⟩) (by assumption) ?_
    rotate_left
    · (try dsimp only at hSw); go_simp; try with_reducible rfl
    simp only [Act.put, rg1, rg2, rg3, rg4, rg5, rg6]
    refine rgY 4 ?_ rfl (by kernel_rfl) (fun _ _ _ h => h) (.inl ⟨by rfl, fun w hSw => ?_⟩) (by assumption) ?_
    rotate_left
    · (try dsimp only at hSw); go_simp; try with_reducible rfl
    simp only [Act.put, rg1, rg2, rg3, rg4, rg5, rg6]
    refine rgY 5 ?_ rfl (by kernel_rfl) (fun _ _ _ h => h) (.inl ⟨by rfl, fun w hSw => ?_⟩) (by assumption) ?_
    rotate_left
    · (try dsimp only at hSw); go_simp; try with_reducible rfl
    simp only [Act.put, rg1, rg2, rg3, rg4, rg5, rg6]
    refine rgY 7 ?_ rfl (by kernel_rfl) (fun _ _ _ h => h) (.inl ⟨by rfl, fun w hSw => ?_⟩) (by assumption) ?_
    rotate_left
    · (try dsimp only at hSw); go_simp; try with_reducible rfl
    simp only [Act.put, rg1, rg2, rg3, rg4, rg5, rg6]
    refine wpAnyH_ready (rs := [6]) (by kernel_rfl) (by simp) ?_
    refine AllReadyH.cons rfl (fun K hK => ?_) AllReadyH.nil
    simp only [List.getElem_toArray, List.getElem_cons_succ, List.getElem_cons_zero]
    go_simp
    refine (disk_any i hbk1).mono ?_
    rintro e w2 ⟨rfl, rfl⟩
    go_wp2_with (fail)
    refine hK.out _ _ k0 (fun hHeld => ?_)
    clear hK K
    refine wpAnyH_ready (rs := [8]) (by kernel_rfl) (by simp) ?_
    refine AllReadyH.cons rfl (fun K hK => ?_) AllReadyH.nil
    simp only [List.getElem_toArray, List.getElem_cons_succ, List.getElem_cons_zero]
    go_simp
    refine (readP_all (B.disk i) k hrk1).mono ?_
    rintro e w3 ⟨v, rfl, hown, hb3⟩
    go_wp2_with (fail)
    refine hK.out _ _ ((hb3.cell (p := ⟨b, 0, none⟩) hbk1.lt).trans k0) (fun hHeld => ?_)
    clear hK K
    refine rgY 9 ?_ rfl (by kernel_rfl) (fun _ _ _ h => h) (.inl ⟨by rfl, fun w hSw => ?_⟩) (by assumption) ?_
    rotate_left
    · (try dsimp only at hSw); go_simp; try with_reducible rfl
    simp only [Act.put, rg1, rg2, rg3, rg4, rg5, rg6]
    refine rgY 10 ?_ rfl (by kernel_rfl) (fun _ _ _ h => h) (.inl ⟨by rfl, fun w hSw => ?_⟩) (by assumption) ?_
    rotate_left
    · (try dsimp only at hSw); go_simp; try with_reducible rfl
    simp only [Act.put, rg1, rg2, rg3, rg4, rg5, rg6]
    refine rgY 11 ?_ rfl (by kernel_rfl) (fun _ _ _ h => h) (.inl ⟨by rfl, fun w hSw => ?_⟩) (by assumption) ?_
    rotate_left
    · (try dsimp only at hSw); go_simp; try with_reducible rfl
    simp only [Act.put, rg1, rg2, rg3, rg4, rg5, rg6]
    refine rgY 12 ?_ rfl (by kernel_rfl) (fun _ _ _ h => h) (.inl ⟨by rfl, fun w hSw => ?_⟩) (by assumption) ?_
    rotate_left
    · (try dsimp only at hSw); go_simp; try with_reducible rfl
    simp only [Act.put, rg1, rg2, rg3, rg4, rg5, rg6]
    refine wpAnyH_done (by kernel_rfl) ?_ _
    go_wp2_with (fail)
    go_ret2
    exact ⟨v, rfl, hown.lower hb1.size, hb1.trans ((undrew hb3).mono hb1.size)⟩
set_option maxHeartbeats 1000000 in
theorem bwrite_any (i k : Int) (a : Option Addr) (m c : Nat) (zs : List Int) (hr : RackAt w M L R) (hb : BnAt w b L.p B) (hbM : ¬ L.M R.n b) (hz : Bys w a m zs) (hzM : m = 0 ∨ ∀ b off, a = some ⟨b, off, none⟩ → ¬ M b) :
    Calls Tryz.prog 106 #[.pointer (some ⟨b, 0, none⟩), .int .i64 i, .int .i64 k, .slice a m c] w (CallPost M L R (bw B R i k zs) w (.int .i64 (bwE B R i k zs))) := by
  unfold bw bwE
  have c1 := hb.c1
  have c2 := hb.c2
  have c3 := hb.c3
  have HR := Lib.hid hr
  have HB := Lib.hid hb
  have HBM := Lib.hid hbM
  have HZ := Lib.hid hz
  have HZM := Lib.hid hzM
  cases hs : hasSl B.d i with
  | false =>
    have h0 := hasSlot_any B.d B.r B.s i w
    rw [hs] at h0
    clear hr hb hs hbM hz hzM
    go_enter Tryz.func106, Tryz.ntmps106
    go_wp2_with (go_at_call 71; refine h0.mono ?_; rintro e w1 ⟨rfl, hb1⟩)
    go_ret
    exact ⟨rfl, HR.out.below hb1, Turn.of_below hb1⟩
  | true =>
    have h0 := hasSlot_any B.d B.r B.s i w
    rw [hs] at h0
    clear hr hb hs hbM hz hzM
    go_enter Tryz.func106, Tryz.ntmps106
    go_wp2_with (go_at_call 71; refine h0.mono ?_; rintro e w1 ⟨rfl, hb1⟩)
    have hbk1 := (HB.out.next hb1).drew
    have hrk1 := (HR.out.below hb1).drew
    have hz1 : Bys w1.drew a m zs := (HZ.out.below (Nat.le_refl _) hb1).below (Nat.le_refl _) (below_drewN (Below.refl _ _) 1)
    have k0 := hbk1.c0
    refine wp_region_held_drew (S := fun w' => w'.cell? ⟨b, 0, none⟩ = some (.pointer (some ⟨L.p, 0, none⟩))) (by kernel_rfl) ?_ (fun hHeld => ?_)
    · exact k0
    refine rgY 0 ?_ rfl (by kernel_rfl) (fun _ _ _ h => h) (.inl ⟨by rfl, fun w hSw => ?_⟩) (by assumption) ?_
    rotate_left
    · (try dsimp only at hSw); go_simp; try with_reducible rfl
    simp only [Act.put, rg1, rg2, rg3, rg4, rg6]
    refine rgY 1 ?_ rfl (by kernel_rfl) (fun _ _ _ h => h) (.inl ⟨by rfl, fun w hSw => ?_⟩) (by assumption) ?_
    rotate_left
    · (try dsimp only at hSw); go_simp; try with_reducible rfl
    simp only [Act.put, rg1, rg2, rg3, rg4, rg5, rg6]
    refine rgY 2 ?_ rfl (by kernel_rfl) (fun _ _ _ h => h) (.inl ⟨by rfl, fun w hSw => ?_⟩) (by assumption) ?_
    rotate_left
    · (try dsimp only at hSw); go_simp; try with_reducible rfl
    simp only [Act.put, rg1, rg2, rg3, rg4, rg5, rg6]
    refine rgY 3 ?_ rfl (by kernel_rfl) (fun _ _ _ h => h) (.inl ⟨by rfl, fun w hSw => ?_⟩) (by assumption) ?_
    rotate_left
    · (try dsimp only at hSw); go_simp; try with_reducible rfl
    simp only [Act.put, rg1, rg2, rg3, rg4, rg5, rg6]
    refine rgY 4 ?_ rfl (by kernel_rfl) (fun _ _ _ h => h) (.inl ⟨by rfl, fun w hSw => ?_⟩) (by assumption) ?_
    rotate_left
    · (try dsimp only at hSw); go_simp; try with_reducible rfl
    simp only [Act.put, rg1, rg2, rg3, rg4, rg5, rg6]
    refine rgY 5 ?_ rfl (by kernel_rfl) (fun _ _ _ h => h) (.inl ⟨by rfl, fun w hSw => ?_⟩) (by assumption) ?_
    rotate_left
    · (try dsimp only at hSw); go_simp; try with_reducible rfl
    simp only [Act.put, rg1, rg2, rg3, rg4, rg5, rg6]
    refine rgY 7 ?_ rfl (by kernel_rfl) (fun _ _ _ h => h) (.inl ⟨by rfl, fun w hSw => ?_⟩) (by assumption) ?_
    rotate_left
    · (try dsimp only at hSw); go_simp; try with_reducible rfl
    simp only [Act.put, rg1, rg2, rg3, rg4, rg5, rg6]
    refine rgY 8 ?_ rfl (by kernel_rfl) (fun _ _ _ h => h) (.inl ⟨by rfl, fun w hSw => ?_⟩) (by assumption) ?_
    rotate_left
    · (try dsimp only at hSw); go_simp; try with_reducible rfl
    simp only [Act.put, rg1, rg2, rg3, rg4, rg5, rg6]
    refine wpAnyH_ready (rs := [6]) (by kernel_rfl) (by simp) ?_
    refine AllReadyH.cons rfl (fun K hK => ?_) AllReadyH.nil
    simp only [List.getElem_toArray, List.getElem_cons_succ, List.getElem_cons_zero]
    go_simp
    refine (disk_any i hbk1).mono ?_
    rintro e w2 ⟨rfl, rfl⟩
    go_wp2_with (fail)
    refine hK.out _ _ k0 (fun hHeld => ?_)
    clear hK K
    refine wpAnyH_ready (rs := [9]) (by kernel_rfl) (by simp) ?_
    refine AllReadyH.cons rfl (fun K hK => ?_) AllReadyH.nil
    simp only [List.getElem_toArray, List.getElem_cons_succ, List.getElem_cons_zero]
    go_simp
    refine (write_all (B.disk i) k a m c zs hrk1 hz1 HZM.out).mono ?_
    rintro e w3 ⟨rfl, hr3, ht3⟩
    go_wp2_with (fail)
    refine hK.out _ _ ((ht3.cell (a := ⟨b, 0, none⟩) hbk1.lt HBM.out).trans k0) (fun hHeld => ?_)
    clear hK K
    refine rgY 10 ?_ rfl (by kernel_rfl) (fun _ _ _ h => h) (.inl ⟨by rfl, fun w hSw => ?_⟩) (by assumption) ?_
    rotate_left
    · (try dsimp only at hSw); go_simp; try with_reducible rfl
    simp only [Act.put, rg1, rg2, rg3, rg4, rg5, rg6]
    refine wpAnyH_done (by kernel_rfl) ?_ _
    go_wp2_with (fail)
    go_ret
    exact ⟨rfl, hr3, (Turn.of_below hb1).trans ht3.undrw⟩
theorem geo_any (hb : BnAt w b L.p B) :
    Calls Tryz.prog 41 #[.pointer (some ⟨b, 0, none⟩)] w fun e w' => e = .returned (gv B.d B.r B.s) ∧ Below w.heap.size w w' := by
  have c1 := hb.c1
  have c2 := hb.c2
  have c3 := hb.c3
  have hlt := hb.lt
  go_enter Tryz.func41, Tryz.ntmps41
  go_wp2_with (fail)
  exact bodyPost_ret (v := gv B.d B.r B.s) (by simp [results, Tryz.results41, go_sem]) rfl ⟨rfl, (Below.refl _ _).alloc (Nat.le_refl _) _⟩
end

end Go.Proofs.YtegmeoghonolcaaGreat

/-
  The bank's Bad, by contract.
-/
namespace Go.Proofs.YtegmeoghonolcaaGreat
open Go.RowKit Go.Maps
set_option linter.unusedVariables false

/-- Is slot i bad? -/
def badP (B : Bn) (R : Rk) (i : Int) : Bool := decide (B.st = 1 ∧ i = B.sl) || R.failed (B.disk i)
/-- The bad ones of the first i slots. -/
def badL (B : Bn) (R : Rk) : Nat → List Int
  | 0 => []
  | i + 1 => if badP B R (i : Int) then badL B R i ++ [(i : Int)] else badL B R i
theorem badL_len (B : Bn) (R : Rk) (i : Nat) : (badL B R i).length ≤ i := by
  induction i with
  | zero => exact Nat.le_refl _
  | succ i ih =>
    unfold badL
    split
    · simp; omega
    · omega

set_option maxHeartbeats 2000000 in
theorem bad_any (M : Nat → Prop) (L : Lay) (R : Rk) (w : World) (b n : Nat) (B : Bn) (hr : RackAt w M L R) (hb : BnAt w b L.p B) (hd : B.d = (n : Int)) (hn : n ≤ 16) :
    Calls Tryz.prog 101 #[.pointer (some ⟨b, 0, none⟩)] w (RetI w (badL B R n)) := by
  have HR := Lib.hid hr
  have HB := Lib.hid hb
  have c1 := hb.c1
  rw [hd] at c1
  clear hr hb hd
  go_enter Tryz.func101, Tryz.ntmps101
  go_wp2_with (fail)
  go_loopw [3, 4, 10] (fun u _ v wr => ∃ i : Nat, i ≤ n ∧ v = .int .i64 i ∧ OwnI wr w.heap.size u (badL B R i).length (badL B R i) ∧ Below w.heap.size w wr) (fun _ _ v _ => n - (RowKit.intOf v).toNat)
  case atStart => exact ⟨0, Nat.zero_le _, rfl, ownI_nil _ _, Below.refl _ _⟩
  case round =>
    obtain ⟨i, hi, rfl, ho, hbl⟩ := hrel
    clear c1
    by_cases hlt : i < n
    · have hbk := HB.out.next hbl
      have hrk := HR.out.below hbl
      have c0 := hbk.c0
      have HJ : Hid (∀ q, Calls Tryz.prog 135 #[.pointer (some ⟨b, 0, none⟩), .int .i64 i] (wr.drewN q) fun e w' => e = .returned (.bool (decide (B.st = 1 ∧ (i : Int) = B.sl))) ∧ w' = wr.drewN q) := fun q => joining_any (i : Int) (hbk.drewN q)
      have HD : Hid (∀ q, Calls Tryz.prog 72 #[.pointer (some ⟨b, 0, none⟩), .int .i64 i] (wr.drewN q) fun e w' => e = .returned (.int .i64 (B.disk (i : Int))) ∧ w' = wr.drewN q) := fun q => disk_any (i : Int) (hbk.drewN q)
      have HF : Hid (∀ q, Calls Tryz.prog 136 #[.pointer (some ⟨L.p, 0, none⟩), .int .i64 (B.disk (i : Int))] (wr.drewN q) fun e w' => e = .returned (.bool (R.failed (B.disk (i : Int)))) ∧ w' = wr.drewN q) := fun q => (failed_rack M L R (wr.drewN q) (B.disk (i : Int)) (hrk.below (below_drewN (Below.refl _ _) q))).mono fun e w' h => ⟨h.1, h.2.symm⟩
      obtain ⟨ra, rc, rfl, hins, hnc, hcm, hrb⟩ := ho.ins
      have HO := Lib.hid ho
      have HBL := Lib.hid hbl
      have hll := badL_len B R i
      have hJ : Hid (badP B R (i : Int) = (decide (B.st = 1 ∧ (i : Int) = B.sl) || R.failed (B.disk (i : Int)))) := Lib.hid rfl
      have HLL : Hid ((badL B R i).length + 1 ≤ 1000000000000) := by unfold Hid; omega
      have hsz := hbl.size
      clear ho hbl hins hnc hcm hrb hll hbk hrk
      by_cases hj : B.st = 1 ∧ (i : Int) = B.sl
      · have HS : Hid (badL B R (i + 1) = badL B R i ++ [(i : Int)]) := by
          show (if _ then _ else _) = _
          rw [if_pos (by rw [hJ.out, decide_eq_true hj]; rfl)]
        rw [decide_eq_true hj] at HJ
        clear hj hJ HD HF
        go_wp2_with (fail)
        go_quiet ((go_at_call 135; exact Calls.quiet_of_same (HJ.out _)))
        obtain ⟨W1, hW1⟩ : ∃ W1, W1 = wr.drewN nq := ⟨_, rfl⟩
        have HO1 : Hid (OwnI (W1.alloc (.cells #[.int .i64 (i : Int)] 3)) w.heap.size (.slice ra (badL B R i).length rc) (badL B R i).length (badL B R i)) := by rw [hW1]; exact (HO.out.next (below_drewN (Below.refl _ _) nq)).alloc _
        have HB1 : Hid (Below w.heap.size w (W1.alloc (.cells #[.int .i64 (i : Int)] 3))) := by rw [hW1]; exact (below_drewN HBL.out nq).alloc (by simpa using hsz) _
        have hsz1 : w.heap.size ≤ W1.heap.size := by rw [hW1]; simpa using hsz
        rw [← hW1]
        clear hW1
        go_wp2_with (at_builtin; go_must (refine wpList_apz rfl (.tmp 26) (.tmp 28) rfl w.heap.size _ (badL B R i).length (badL B R i) rfl HO1.out W1.heap.size (i : Int) rfl (by simp) HLL.out (by simp; omega) w HB1.out ?_); intro v2 w2 ho2 hb2)
        go_roundw
        case rel => exact ⟨i + 1, by omega, by go_num, by rw [HS.out, List.length_append, List.length_singleton]; exact ho2, hb2⟩
        case measure => simp [RowKit.intOf]; omega
      · rw [decide_eq_false hj] at HJ
        cases hf : R.failed (B.disk (i : Int)) with
        | true =>
          have HS : Hid (badL B R (i + 1) = badL B R i ++ [(i : Int)]) := by
            show (if _ then _ else _) = _
            rw [if_pos (by rw [hJ.out, hf, Bool.or_true])]
          rw [hf] at HF
          clear hj hJ hf
          go_wp2_with (fail)
          go_quiet (first | (go_at_call 135; exact Calls.quiet_of_same (HJ.out _)) | (go_at_call 72; exact Calls.quiet_of_same (HD.out _)) | (go_at_call 136; exact Calls.quiet_of_same (HF.out _)))
          obtain ⟨W1, hW1⟩ : ∃ W1, W1 = wr.drewN nq := ⟨_, rfl⟩
          have HO1 : Hid (OwnI (W1.alloc (.cells #[.int .i64 (i : Int)] 3)) w.heap.size (.slice ra (badL B R i).length rc) (badL B R i).length (badL B R i)) := by rw [hW1]; exact (HO.out.next (below_drewN (Below.refl _ _) nq)).alloc _
          have HB1 : Hid (Below w.heap.size w (W1.alloc (.cells #[.int .i64 (i : Int)] 3))) := by rw [hW1]; exact (below_drewN HBL.out nq).alloc (by simpa using hsz) _
          have hsz1 : w.heap.size ≤ W1.heap.size := by rw [hW1]; simpa using hsz
          rw [← hW1]
          clear hW1
          go_wp2_with (at_builtin; go_must (refine wpList_apz rfl (.tmp 26) (.tmp 28) rfl w.heap.size _ (badL B R i).length (badL B R i) rfl HO1.out W1.heap.size (i : Int) rfl (by simp) HLL.out (by simp; omega) w HB1.out ?_); intro v2 w2 ho2 hb2)
          go_roundw
          case rel => exact ⟨i + 1, by omega, by go_num, by rw [HS.out, List.length_append, List.length_singleton]; exact ho2, hb2⟩
          case measure => simp [RowKit.intOf]; omega
        | false =>
          have HS : Hid (badL B R (i + 1) = badL B R i) := by
            show (if _ then _ else _) = _
            rw [if_neg (by rw [hJ.out, hf, decide_eq_false hj]; simp)]
          rw [hf] at HF
          clear hj hJ hf
          go_wp2_with (fail)
          go_quiet (first | (go_at_call 135; exact Calls.quiet_of_same (HJ.out _)) | (go_at_call 72; exact Calls.quiet_of_same (HD.out _)) | (go_at_call 136; exact Calls.quiet_of_same (HF.out _)))
          go_wp2_with (fail)
          go_roundw
          case rel => exact ⟨i + 1, by omega, by go_num, by rw [HS.out]; exact HO.out.next (below_drewN (Below.refl _ _) nq), below_drewN HBL.out nq⟩
          case measure => simp [RowKit.intOf]; omega
    · obtain rfl : i = n := by omega
      have HO := Lib.hid ho
      have HBL := Lib.hid hbl
      clear ho hbl
      go_wp2_with (fail)
      go_ret
      exact ⟨_, rfl, HO.out, HBL.out⟩

end Go.Proofs.YtegmeoghonolcaaGreat

/-
  The bank's Open and Join, by contract.
-/
namespace Go.Proofs.YtegmeoghonolcaaGreat
open Go.RowKit Go.Maps
set_option linter.unusedVariables false

instance (d r s : Int) : Decidable (Rt d r s) := decidable_of_iff ((3 ≤ d ∧ d ≤ 16) ∧ (1 ≤ r ∧ r ≤ 4) ∧ (12 ≤ s ∧ s ≤ 64) ∧ 8 ≤ QC s * PL d r)
  ⟨fun h => ⟨⟨h.1.1, h.1.2, h.2.1.1, h.2.1.2, h.2.2.1.1, h.2.2.1.2⟩, h.2.2.2⟩, fun h => ⟨⟨h.d1, h.d2⟩, ⟨h.r1, h.r2⟩, ⟨h.s1, h.s2⟩, h.q⟩⟩
/-- Is the rack one for this geometry? -/
noncomputable def rackOk (R : Rk) (d r s : Int) : Bool := ((R.n : Int) == d + 1) && ((R.S : Int) == sect d r s)

section
variable {M : Nat → Prop} {L : Lay} {R : Rk} {w : World}
set_option maxHeartbeats 1000000 in
theorem rackOf_any (d r s : Int) (h1 : 3 ≤ d) (h2 : d ≤ 16) (hr : RackAt w M L R) :
    Calls Tryz.prog 31 #[.pointer (some ⟨L.p, 0, none⟩), gv d r s] w fun e w' => e = .returned (.bool (rackOk R d r s)) ∧ Below w.heap.size w w' := by
  have hb : ∀ x : Obj, Below w.heap.size w (w.alloc x) := fun x => (Below.refl _ _).alloc (Nat.le_refl _) _
  have HB := Lib.hid hb
  have hS := fun o : Obj => size_rack M L R (w.alloc o) (hr.below (hb o))
  have HS := Lib.hid hS
  have HT : Hid (∀ w, Calls Tryz.prog 8 #[gv d r s] w fun e w' => e = .returned (.int .i64 (sect d r s)) ∧ Below w.heap.size w w') := fun w => sectors_all d r s w
  have ed : IntKind.i64.wrap (d + 1) = d + 1 := IntWalk.i64_in _ (by omega)
  clear hr hb hS
  unfold rackOk
  by_cases hn : (R.n : Int) = d + 1
  · have hz : ((R.n : Int) == d + 1) = true := by simpa using hn
    rw [hz, Bool.true_and]
    clear hn
    go_enter Tryz.func31, Tryz.ntmps31
    go_wp2_with (fail)
    refine (HS.out _).mono ?_
    rintro e w1 ⟨rfl, hb1⟩
    have hB1 := (HB.out _).trans (hb1.mono (HB.out (.cells #[.int .i64 d, .int .i64 r, .int .i64 s] 33)).size)
    have c0 := (hb1.cell (p := ⟨w.heap.size, 0, none⟩) (by simp)).trans (show _ = some (.int .i64 d) by simp)
    have c1 := (hb1.cell (p := ⟨w.heap.size, 1, none⟩) (by simp)).trans (show _ = some (.int .i64 r) by simp)
    have c2 := (hb1.cell (p := ⟨w.heap.size, 2, none⟩) (by simp)).trans (show _ = some (.int .i64 s) by simp)
    go_wp2_with (fail)
    refine (HT.out _).mono ?_
    rintro e w2 ⟨rfl, hb2⟩
    go_wp2_with (fail)
    go_ret
    exact ⟨rfl, hB1.trans (hb2.mono hB1.size)⟩
  · have hz : ((R.n : Int) == d + 1) = false := by simpa using hn
    rw [hz, Bool.false_and]
    clear hn
    go_enter Tryz.func31, Tryz.ntmps31
    go_wp2_with (fail)
    refine (HS.out _).mono ?_
    rintro e w1 ⟨rfl, hb1⟩
    have hB1 := (HB.out _).trans (hb1.mono (HB.out (.cells #[.int .i64 d, .int .i64 r, .int .i64 s] 33)).size)
    have c0 := (hb1.cell (p := ⟨w.heap.size, 0, none⟩) (by simp)).trans (show _ = some (.int .i64 d) by simp)
    go_wp2_with (fail)
    go_ret
    exact ⟨rfl, hB1⟩
/-- A geometry's box at p, a member's behind it. -/
structure Bx6 (w : World) (p : Nat) (d r s e sl st : Int) : Prop where
  lt : p + 1 < w.heap.size
  g0 : w.cell? ⟨p, 0, none⟩ = some (.int .i64 d)
  g1 : w.cell? ⟨p, 1, none⟩ = some (.int .i64 r)
  g2 : w.cell? ⟨p, 2, none⟩ = some (.int .i64 s)
  m0 : w.cell? ⟨p + 1, 0, none⟩ = some (.int .i64 e)
  m1 : w.cell? ⟨p + 1, 1, none⟩ = some (.int .i64 sl)
  m2 : w.cell? ⟨p + 1, 2, none⟩ = some (.int .i64 st)
theorem Bx6.new (w : World) (d r s e sl st : Int) (t u : TypeId) : Bx6 ((w.alloc (.cells #[.int .i64 d, .int .i64 r, .int .i64 s] t)).alloc (.cells #[.int .i64 e, .int .i64 sl, .int .i64 st] u)) w.heap.size d r s e sl st := by
  refine ⟨by simp, ?_, ?_, ?_, ?_, ?_, ?_⟩ <;> simp
theorem Bx6.next {w w' : World} {p : Nat} {d r s e sl st : Int} (h : Bx6 w p d r s e sl st) (hb : Below w.heap.size w w') : Bx6 w' p d r s e sl st := by
  have hl := h.lt
  have hp : p < w.heap.size := by omega
  exact ⟨Nat.lt_of_lt_of_le hl hb.size, (hb.cell (p := ⟨p, 0, none⟩) hp).trans h.g0, (hb.cell (p := ⟨p, 1, none⟩) hp).trans h.g1, (hb.cell (p := ⟨p, 2, none⟩) hp).trans h.g2, (hb.cell (p := ⟨p + 1, 0, none⟩) hl).trans h.m0, (hb.cell (p := ⟨p + 1, 1, none⟩) hl).trans h.m1, (hb.cell (p := ⟨p + 1, 2, none⟩) hl).trans h.m2⟩

/-- What Open asks. -/
noncomputable def openOk (R : Rk) (d r s sl st : Int) : Bool := decide (Rt d r s) && (rackOk R d r s && memOk d sl st)
/-- What Open answers. -/
noncomputable def OpenPost (p : Nat) (R : Rk) (d r s e sl st : Int) (w : World) (en : Ending) (w' : World) : Prop :=
  Below w.heap.size w w' ∧ if openOk R d r s sl st then ∃ b, en = .returned (.tuple #[.pointer (some ⟨b, 0, none⟩), .int .i64 0]) ∧ w.heap.size ≤ b ∧ BnAt w' b p ⟨d, r, s, e, sl, st⟩
    else en = .returned (.tuple #[.pointer none, .int .i64 10])
theorem OpenPost.no {p : Nat} {d r s e sl st : Int} {w' : World} (hb : Below w.heap.size w w') (h : openOk R d r s sl st = false) : OpenPost p R d r s e sl st w (.returned (.tuple #[.pointer none, .int .i64 10])) w' :=
  ⟨hb, by rw [h]; rfl⟩
theorem OpenPost.yes {p b : Nat} {d r s e sl st : Int} {w' : World} (hb : Below w.heap.size w w') (h : openOk R d r s sl st = true) (hlt : w.heap.size ≤ b) (hB : BnAt w' b p ⟨d, r, s, e, sl, st⟩) : OpenPost p R d r s e sl st w (.returned (.tuple #[.pointer (some ⟨b, 0, none⟩), .int .i64 0])) w' :=
  ⟨hb, by rw [h]; exact ⟨b, rfl, hlt, hB⟩⟩
set_option maxHeartbeats 2000000 in
theorem open_any (d r s e sl st : Int) (hr : RackAt w M L R) :
    Calls Tryz.prog 15 #[.pointer (some ⟨L.p, 0, none⟩), gv d r s, mb e sl st] w (OpenPost L.p R d r s e sl st w) := by
  have HR := Lib.hid hr
  have hb2 : Hid (∀ x y : Obj, Below w.heap.size w ((w.alloc x).alloc y)) := fun x y => ((Below.refl _ _).alloc (Nat.le_refl _) _).alloc (by simp) _
  clear hr
  by_cases hR : Rt d r s
  · have HOK : Hid (openOk R d r s sl st = (rackOk R d r s && memOk d sl st)) := by unfold Hid openOk; rw [decide_eq_true hR, Bool.true_and]
    have hg := hR.d1
    have hg2 := hR.d2
    have HG : Hid (∀ w, Calls Tryz.prog 28 #[gv d r s] w fun e w' => e = .returned (.bool true) ∧ Below w.heap.size w w') := fun w => right_yes d r s w hR
    clear hR
    go_enter Tryz.func15, Tryz.ntmps15
    go_wp2_with (fail)
    refine (HG.out _).mono ?_
    rintro e1 w1 ⟨rfl, hb1⟩
    have hx1 := (Bx6.new w d r s e sl st 33 23).next hb1
    have hB1 := (hb2.out (.cells #[.int .i64 d, .int .i64 r, .int .i64 s] 33) (.cells #[.int .i64 e, .int .i64 sl, .int .i64 st] 23)).trans (hb1.mono (hb2.out _ _).size)
    obtain ⟨p, hp⟩ : ∃ p, p = w.heap.size := ⟨_, rfl⟩
    rw [← hp] at hx1
    have HP := Lib.hid hp
    have hro := rackOf_any (w := w1) d r s hg hg2 (HR.out.below hB1)
    have HM : Hid (∀ w, Calls Tryz.prog 32 #[mb e sl st, gv d r s] w fun e w' => e = .returned (.bool (memOk d sl st)) ∧ Below w.heap.size w w') := fun w => memberOf_any d r s e sl st w
    have HRO := Lib.hid hro
    have HX1 := Lib.hid hx1
    have g0 := hx1.g0
    have g1 := hx1.g1
    have g2 := hx1.g2
    have HB1 := Lib.hid hB1
    clear hro hx1 hB1 hb1 hg hg2
    cases hrk : rackOk R d r s with
    | false =>
      rw [hrk] at HRO HOK
      clear hrk
      rw [← hp]
      clear hp
      go_wp2_with (fail)
      refine HRO.out.mono ?_
      rintro e2 w2 ⟨rfl, hb22⟩
      go_wp2_with (fail)
      go_ret2
      exact OpenPost.no (HB1.out.trans (hb22.mono HB1.out.size)) (HOK.out.trans (Bool.false_and _))
    | true =>
      rw [hrk] at HRO HOK
      clear hrk
      rw [← hp]
      clear hp
      go_wp2_with (fail)
      refine HRO.out.mono ?_
      rintro e2 w2 ⟨rfl, hb22⟩
      have HB2 := Lib.hid (HB1.out.trans (hb22.mono HB1.out.size))
      have hx2 := HX1.out.next hb22
      have HX2 := Lib.hid hx2
      clear g0 g1 g2
      have g0 := hx2.g0
      have g1 := hx2.g1
      have g2 := hx2.g2
      have m0 := hx2.m0
      have m1 := hx2.m1
      have m2 := hx2.m2
      clear hx2 HX1 hb22
      cases hm : memOk d sl st with
      | false =>
        rw [hm] at HM HOK
        clear hm
        go_wp2_with (fail)
        refine (HM.out _).mono ?_
        rintro e3 w3 ⟨rfl, hb33⟩
        go_wp2_with (fail)
        go_ret2
        exact OpenPost.no (HB2.out.trans (hb33.mono HB2.out.size)) (HOK.out.trans rfl)
      | true =>
        rw [hm] at HM HOK
        clear hm
        go_wp2_with (fail)
        refine (HM.out _).mono ?_
        rintro e3 w3 ⟨rfl, hb33⟩
        have HB3 := Lib.hid (HB2.out.trans (hb33.mono HB2.out.size))
        have hx3 := HX2.out.next hb33
        clear g0 g1 g2 m0 m1 m2
        have g0 := hx3.g0
        have g1 := hx3.g1
        have g2 := hx3.g2
        have m0 := hx3.m0
        have m1 := hx3.m1
        have m2 := hx3.m2
        clear hx3 HX2 hb33
        go_wp2_with (fail)
        go_ret2
        exact OpenPost.yes (HB3.out.alloc HB3.out.size _) (HOK.out.trans rfl) HB3.out.size ⟨heap_alloc_new w3 _⟩
  · have HOK : Hid (openOk R d r s sl st = false) := by unfold Hid openOk; rw [decide_eq_false hR, Bool.false_and]
    have HG : Hid (∀ w, Calls Tryz.prog 28 #[gv d r s] w fun e w' => e = .returned (.bool false) ∧ Below w.heap.size w w') := fun w => right_no d r s w hR
    clear hR
    go_enter Tryz.func15, Tryz.ntmps15
    go_wp2_with (fail)
    refine (HG.out _).mono ?_
    rintro e1 w1 ⟨rfl, hb1⟩
    go_wp2_with (fail)
    go_ret2
    exact OpenPost.no ((hb2.out _ _).trans (hb1.mono (hb2.out (.cells #[.int .i64 d, .int .i64 r, .int .i64 s] 33) (.cells #[.int .i64 e, .int .i64 sl, .int .i64 st] 23)).size)) HOK.out
end

end Go.Proofs.YtegmeoghonolcaaGreat

/-
  A rack of which nothing fails: what its sectors read.
-/
namespace Go.Proofs.YtegmeoghonolcaaGreat
open Go.RowKit Go.Maps
set_option linter.unusedVariables false

/-- Power and disks are there, and stay. -/
structure Gd (R : Rk) (n S : Nat) : Prop where
  hn : R.n = n
  hS : R.S = S
  off : R.off = false
  cnt : R.cnt = -1
  good : ∀ i, (R.d i).bad = false ∧ (R.d i).cnt = -1
section
variable {R : Rk} {n S : Nat}
end

/-- .. and its sectors read C. -/
structure Hd (R : Rk) (n S : Nat) (C : Nat → Nat → List Int) : Prop extends Gd R n S where
  rd : ∀ i k, i < n → k < S → (R.d i).read k = C i k
  len : ∀ i k, i < n → k < S → (C i k).length = 64
/-- One sector more was written. -/
def setC (C : Nat → Nat → List Int) (i k : Nat) (zs : List Int) : Nat → Nat → List Int := fun j t => if j = i ∧ t = k then zs else C j t
section
variable {R : Rk} {n S : Nat} {C : Nat → Nat → List Int}
theorem Hd.start (n S : Nat) : Hd (newRk n S) n S (fun _ _ => List.replicate 64 0) := by
  refine ⟨⟨rfl, rfl, rfl, rfl, fun _ => ⟨rfl, rfl⟩⟩, fun i k _ hk => ?_, fun _ _ _ _ => rfl⟩
  show sec (List.replicate (S * 64) 0) k = List.replicate 64 0
  unfold sec
  rw [List.drop_replicate, List.take_replicate]
  congr 1
  have : (k + 1) * 64 ≤ S * 64 := Nat.mul_le_mul_right _ hk
  omega
/-- The number of the disk of place i. -/
def Bn.dk (B : Bn) (i : Nat) : Nat := (B.disk (i : Int)).toNat
theorem Bn.dk_eq {B : Bn} {m : Nat} (hd : B.d = (m : Int)) (i : Nat) : B.disk (i : Int) = (B.dk i : Int) := by
  unfold Bn.dk Bn.disk
  split
  · rw [hd, Int.toNat_natCast]
  · rw [Int.toNat_natCast]
theorem Bn.dk_lt {B : Bn} {m : Nat} (hd : B.d = (m : Int)) {i : Nat} (hi : i < B.num) : B.dk i < m + 1 := by
  unfold Bn.num at hi
  unfold Bn.dk Bn.disk
  rw [hd, Int.toNat_natCast] at hi
  split
  · rw [hd, Int.toNat_natCast]; omega
  · rw [Int.toNat_natCast]
    split at hi <;> omega

end

end Go.Proofs.YtegmeoghonolcaaGreat
