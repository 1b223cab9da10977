/-
  The reference's bank: its All, by contract.
-/
import Derived.Test.YtacnhlmhibhlhaaGreatRkc
import Derived.Test.YtacnhlmhibhlhaaGreatAl
set_option linter.unusedSimpArgs false
set_option linter.unusedVariables false
namespace Go.Proofs.YtacnhlmhibhlhaaGreat
open Go.RowKit Go.Maps
set_option linter.unusedVariables false

def ralL (B : Bn) (k : Int) (F : Rf) : Nat → List (List Int)
  | 0 => []
  | i + 1 => if F.rdE (B.disk (i : Int)) k = 0 then ralL B k F i ++ [F.rdV (B.disk (i : Int)) k] else ralL B k F i
theorem ralL_len (B : Bn) (k : Int) (F : Rf) (i : Nat) : (ralL B k F i).length ≤ i := by
  induction i with
  | zero => exact Nat.le_refl _
  | succ i ih =>
    unfold ralL
    split
    · simp; omega
    · omega

section
variable {M : Nat → Prop} {L : RLay} {F : Rf} {w : World} {b : Nat} {B : Bn}
set_option maxRecDepth 100000 in
set_option maxHeartbeats 4000000 in
theorem rall_bank (n : Nat) (k : Int) (hr : RefAt w M L F) (hb : RbAt w b L.p B) (hd : B.d = (n : Int)) (hn : n ≤ 16) :
    Calls Tryz.prog 44 #[.pointer (some ⟨b, 0, none⟩), .int .i64 k] w (RetL w (ralL B k F B.num)) := by
  have hbl0 : ∀ x : Obj, Below w.heap.size w (w.alloc x) := fun x => (Below.refl _ _).alloc (Nat.le_refl _) _
  have HBL0 := Lib.hid hbl0
  have HR := Lib.hid hr
  have HB := Lib.hid hb
  have HD := Lib.hid hd
  have hnum : B.num ≤ 17 := by unfold Bn.num; rw [hd]; split <;> omega
  obtain ⟨N, hN⟩ : ∃ N, N = B.num := ⟨_, rfl⟩
  have HDD : Hid (∀ w' (_ : RbAt w' b L.p B), Calls Tryz.prog 38 #[.pointer (some ⟨b, 0, none⟩)] w' (RetI w' (B.ds N))) := fun w' h => by rw [hN]; exact rdisks_any n h hd hn
  rw [← hN] at hnum ⊢
  clear hr hb hd hN hbl0
  go_enter Tryz.func44, Tryz.ntmps44
  go_wp2_with (fail)
  refine (HDD.out _ (HB.out.next (HBL0.out _))).mono ?_
  rintro e w1 ⟨v, rfl, ho, hbl1⟩
  obtain ⟨ra, rc, rfl, hins, _, _, hrb⟩ := ho.ins
  rw [ds_len] at hins ⊢
  have hB1 := (HBL0.out (.cells #[] 42)).trans (hbl1.mono (HBL0.out (.cells #[] 42)).size)
  have HB1 := Lib.hid hB1
  have HO1 : Hid (OwnR w1 w.heap.size (.slice (some ⟨w.heap.size, 0, none⟩) 0 0) 0 (fun _ => ⟨none, 0, 0, []⟩)) := (ownR_none w w.heap.size (Nat.le_refl _) _).next hbl1
  have HI1 := Lib.hid hins
  have HX1 : Hid (∀ x, ra = some x → some x.block ≠ (Value.slice (some ⟨w.heap.size, 0, none⟩) 0 0).ownBlock) := fun x hx e => by
    have h1 := (hrb x hx).1
    have h2 : x.block = w.heap.size := by simpa [Value.ownBlock] using e
    rw [h2] at h1
    simp at h1
    omega
  clear ho hins hrb hbl1 hB1 HDD
  go_wp2_with (fail)
  go_loopw [5, 7, 8, 9] (fun u v _ _ wr => ∃ (i : Nat) (f : Nat → Pc), i ≤ N ∧ v = .int .i64 i ∧ OwnR wr w.heap.size u (ralL B k F i).length f ∧ RowsAre f (ralL B k F i) ∧ Ins wr ra N (B.ds N) ∧ Below w.heap.size w wr ∧ (∀ x, ra = some x → some x.block ≠ u.ownBlock)) (fun _ v _ _ _ => N - (RowKit.intOf v).toNat)
  case atStart => exact ⟨0, _, Nat.zero_le _, rfl, HO1.out, fun j hj => absurd hj (Nat.not_lt_zero _), HI1.out, HB1.out, HX1.out⟩
  case round =>
    obtain ⟨i, f, hi, rfl, ho, hrs, hins, hbl, hx⟩ := hrel
    have HX := Lib.hid hx
    clear HB1 HO1 HI1 HX1 hx
    by_cases hlt : i < N
    · rcases hins.2 with h0 | ⟨g, off, rfl, hg, hc⟩
      · omega
      have k1 := hc i hlt
      rw [ds_at B hlt] at k1
      have hb := HB.out.next hbl
      have k0 := hb.c0
      have HBK := Lib.hid hb.drew
      have hrd := HR.out.below hbl
      have hrd2 : RefAt wr.drew M L F := hrd.below (below_drewN (Below.refl _ wr) 1)
      have HR2 := Lib.hid hrd2
      have HGL := Lib.hid hg
      have HI := Lib.hid hins
      have HBL := Lib.hid hbl
      have HRS := Lib.hid hrs
      have i0 : (0 : Int) ≤ (i : Int) := by omega
      have i2 : (i : Int) < (N : Int) := by omega
      have hsz := hbl.size
      have hll := ralL_len B k F i
      have HLL : Hid ((ralL B k F i).length + 1 ≤ 1000000000000) := by unfold Hid; omega
      obtain ⟨rb, rd, rfl, _, _, _, hrx⟩ := ho.rws
      have HRX := Lib.hid hrx
      have HO := Lib.hid ho
      clear ho hrs hins hc hbl hb hrd hrd2 hg hll hrx
      go_wp2_with (fail)
      refine wp_region_held_drew (S := fun w' => w'.cell? ⟨b, 0, none⟩ = some (.pointer (some ⟨L.p, 0, none⟩)) ∧ w'.cell? ⟨g, off + i, none⟩ = some (.int .i64 (B.disk (i : Int)))) (by kernel_rfl) ?_ (fun hHeld => ?_)
      · exact ⟨k0, k1⟩
      refine rgY 0 ?_ rfl (by kernel_rfl) (fun _ _ _ h => h) (.inl ⟨by rfl, fun w hSw => ?_⟩) (by assumption) ?_
      rotate_left
      · (try dsimp only at hSw); go_simp; try with_reducible rfl
      simp only [Act.put, rg1, rg2, rg3, rg4, rg6]
      refine rgY 1 ?_ rfl (by kernel_rfl) (fun _ _ _ h => h) (.inl ⟨by rfl, fun w hSw => ?_⟩) (by assumption) ?_
      rotate_left
      · (try dsimp only at hSw); go_simp; try with_reducible rfl
      simp only [Act.put, rg1, rg2, rg3, rg4, rg5, rg6]
      refine rgY 2 ?_ rfl (by kernel_rfl) (fun _ _ _ h => h) (.inl ⟨by rfl, fun w hSw => ?_⟩) (by assumption) ?_
      rotate_left
      · (try dsimp only at hSw); go_simp; try with_reducible rfl
      simp only [Act.put, rg1, rg2, rg3, rg4, rg5, rg6]
      refine rgY 3 ?_ rfl (by kernel_rfl) (fun _ _ _ h => h) (.inl ⟨by rfl, fun w hSw => ?_⟩) (by assumption) ?_
      rotate_left
      · (try dsimp only at hSw); go_simp; try with_reducible rfl
      simp only [Act.put, rg1, rg2, rg3, rg4, rg5, rg6]
      refine rgY 4 ?_ rfl (by kernel_rfl) (fun _ _ _ h => h) (.inl ⟨by rfl, fun w hSw => ?_⟩) (by assumption) ?_
      rotate_left
      · (try dsimp only at hSw); go_simp; try with_reducible rfl
      simp only [Act.put, rg1, rg2, rg3, rg4, rg5, rg6]
      refine rgY 5 ?_ rfl (by kernel_rfl) (fun _ _ _ h => h) (.inl ⟨by rfl, fun w hSw => ?_⟩) (by assumption) ?_
      rotate_left
      · (try dsimp only at hSw); go_simp; try with_reducible rfl
      simp only [Act.put, rg1, rg2, rg3, rg4, rg5, rg6]
      refine rgY 6 ?_ rfl (by kernel_rfl) (fun _ _ _ h => h) (.inl ⟨by rfl, fun w hSw => ?_⟩) (by assumption) ?_
      rotate_left
      · (try dsimp only at hSw); go_simp; try with_reducible rfl
      simp only [Act.put, rg1, rg2, rg3, rg4, rg5, rg6]
      refine rgY 7 ?_ rfl (by kernel_rfl) (fun _ _ _ h => h) (.inl ⟨by rfl, fun w hSw => ?_⟩) (by assumption) ?_
      rotate_left
      · (try dsimp only at hSw); go_simp; try with_reducible rfl
      simp only [Act.put, rg1, rg2, rg3, rg4, rg5, rg6]
      refine rgY 8 ?_ rfl (by kernel_rfl) (fun _ _ _ h => h) (.inl ⟨by rfl, fun w hSw => ?_⟩) (by assumption) ?_
      rotate_left
      · (try dsimp only at hSw); go_simp; try with_reducible rfl
      simp only [Act.put, rg1, rg2, rg3, rg4, rg5, rg6]
      refine wpAnyH_ready (rs := [9]) (by kernel_rfl) (by simp) ?_
      refine AllReadyH.cons rfl (fun K hK => ?_) AllReadyH.nil
      simp only [List.getElem_toArray, List.getElem_cons_succ, List.getElem_cons_zero]
      go_simp
      refine (rreadP_all (B.disk (i : Int)) k HR2.out).mono ?_
      rintro e w3 ⟨v3, rfl, ho3, hb3⟩
      have q0 := (hb3.cell (p := ⟨b, 0, none⟩) HBK.out.lt).trans k0
      have q1 := (hb3.cell (p := ⟨g, off + i, none⟩) HGL.out).trans k1
      have HB3 := Lib.hid (undrew hb3)
      have HO3 := Lib.hid ho3
      clear k0 k1 hHeld hb3 ho3
      go_wp2_with (fail)
      refine hK.out _ _ ⟨q0, q1⟩ (fun hHeld => ?_)
      clear hK K
      refine rgY 10 ?_ rfl (by kernel_rfl) (fun _ _ _ h => h) (.inl ⟨by rfl, fun w hSw => ?_⟩) (by assumption) ?_
      rotate_left
      · (try dsimp only at hSw); go_simp; try with_reducible rfl
      simp only [Act.put, rg1, rg2, rg3, rg4, rg5, rg6]
      refine rgY 11 ?_ rfl (by kernel_rfl) (fun _ _ _ h => h) (.inl ⟨by rfl, fun w hSw => ?_⟩) (by assumption) ?_
      rotate_left
      · (try dsimp only at hSw); go_simp; try with_reducible rfl
      simp only [Act.put, rg1, rg2, rg3, rg4, rg5, rg6]
      refine rgY 12 ?_ rfl (by kernel_rfl) (fun _ _ _ h => h) (.inl ⟨by rfl, fun w hSw => ?_⟩) (by assumption) ?_
      rotate_left
      · (try dsimp only at hSw); go_simp; try with_reducible rfl
      simp only [Act.put, rg1, rg2, rg3, rg4, rg5, rg6]
      refine rgY 13 ?_ rfl (by kernel_rfl) (fun _ _ _ h => h) (.inl ⟨by rfl, fun w hSw => ?_⟩) (by assumption) ?_
      rotate_left
      · (try dsimp only at hSw); go_simp; try with_reducible rfl
      simp only [Act.put, rg1, rg2, rg3, rg4, rg5, rg6]
      refine rgY 14 ?_ rfl (by kernel_rfl) (fun _ _ _ h => h) (.inl ⟨by rfl, fun w hSw => ?_⟩) (by assumption) ?_
      rotate_left
      · (try dsimp only at hSw); go_simp; try with_reducible rfl
      simp only [Act.put, rg1, rg2, rg3, rg4, rg5, rg6]
      refine wpAnyH_done (by kernel_rfl) ?_ _
      clear hHeld q0 q1
      obtain ⟨E, hE⟩ : ∃ E, E = F.rdE (B.disk (i : Int)) k := ⟨_, rfl⟩
      rw [← hE]
      have HE := Lib.hid hE
      clear hE
      obtain ⟨zs, hzs⟩ : ∃ zs, zs = F.rdV (B.disk (i : Int)) k := ⟨_, rfl⟩
      rw [← hzs] at HO3
      have HZS := Lib.hid hzs
      clear hzs
      have HBW := Lib.hid (HBL.out.trans (HB3.out.mono HBL.out.size))
      have HOW := Lib.hid (HO.out.next HB3.out)
      have HIW := HI.out
      have HINS : Hid (Ins w3 (some ⟨g, off, none⟩) N (B.ds N)) := by
        refine ⟨HIW.1, ?_⟩
        rcases HIW.2 with h0 | ⟨g', off', e, hl, hc⟩
        · exact .inl h0
        · exact .inr ⟨g', off', e, Nat.lt_of_lt_of_le hl HB3.out.size, fun j hj => (HB3.out.cell (p := ⟨g', off' + j, none⟩) hl).trans (hc j hj)⟩
      clear HI HIW
      cases he : (E == 0) with
      | true =>
        have HS : Hid (ralL B k F (i + 1) = ralL B k F i ++ [zs]) := by
          have h0 : E = 0 := by simpa using he
          show (if _ then _ else _) = _
          rw [if_pos (HE.out.symm.trans h0), HZS.out]
        obtain ⟨a3, c3, rfl, hp3, hlo3⟩ := HO3.out.pin
        have hp4 := hp3.alloc (.cells #[.slice a3 zs.length c3] 42)
        have HP4 := Lib.hid hp4
        have HAP : Hid (zs.length = 0 ∨ ∀ y, a3 = some y → some y.block ≠ (Value.slice rb (ralL B k F i).length rd).ownBlock) := .inr fun y hy e2 => by
          cases hrb : rb with
          | none => rw [hrb] at e2; cases e2
          | some r =>
            rw [hrb] at e2
            have h3 := (HRX.out r hrb).2
            have h4 : wr.heap.size ≤ y.block := (hlo3 y hy).1
            have h5 : y.block = r.block := by simpa [Value.ownBlock] using e2
            omega
        have HO4 : Hid (OwnR (w3.alloc (.cells #[.slice a3 zs.length c3] 42)) w.heap.size (.slice rb (ralL B k F i).length rd) (ralL B k F i).length f) := HOW.out.next ((Below.refl _ _).alloc (Nat.le_refl _) _)
        have HB4 : Hid (Below w.heap.size w (w3.alloc (.cells #[.slice a3 zs.length c3] 42))) := HBW.out.alloc HBW.out.size _
        have hsw := HBW.out.size
        clear hp3 hlo3 hp4 HO3 HOW HBW HRX
        obtain ⟨m, hm⟩ : ∃ m, m = (ralL B k F i).length := ⟨_, rfl⟩
        rw [← hm] at HO4 HLL HX HAP ⊢
        have HM := Lib.hid hm
        clear hm
        go_wp2_with (at_builtin; go_must (refine wpList_apR rfl (.tmp 34) (.tmp 36) rfl w.heap.size _ m f rfl HO4.out w3.heap.size rfl a3 zs.length c3 zs (by simp) HP4.out HAP.out HLL.out (by simp; omega) w HB4.out ?_); intro v4 w4 ho4 hb4 hg4 hv4)
        have HO5 := Lib.hid ho4
        have HB5 := Lib.hid hb4
        have HG5 := Lib.hid hg4
        have HV5 := Lib.hid hv4
        clear ho4 hb4 hg4 hv4
        go_roundw
        case rel =>
          refine ⟨i + 1, _, by omega, by go_num, by rw [HS.out, List.length_append, List.length_singleton, ← HM.out]; exact HO5.out, by rw [HS.out, HM.out]; exact HRS.out.snoc _, ?_, HB5.out, fun x hx => ?_⟩
          · refine ⟨HINS.out.1, ?_⟩
            rcases HINS.out.2 with h0 | ⟨g', off', e, hl, hc⟩
            · exact .inl h0
            · have hl' : g' < (w3.alloc (.cells #[.slice a3 zs.length c3] 42)).heap.size := by simp; omega
              have hne := HX.out _ e
              refine .inr ⟨g', off', e, Nat.lt_of_lt_of_le hl' HG5.out.size, fun j hj => ?_⟩
              have h1 := World.cell?_of_block (a := ⟨g', off' + j, none⟩) (HG5.out.block g' hl' (fun e2 => hne e2))
              exact h1.trans (cell_alloc_l _ (hc j hj))
          · rcases HV5.out with h1 | h1
            · rw [h1]; exact HX.out x hx
            · rw [h1]
              cases hx
              intro e2
              have h3 : g = (w3.alloc (.cells #[.slice a3 zs.length c3] 42)).heap.size := by simpa using e2
              have h4 := HGL.out
              have h5 := HB3.out.size
              have h6 : g < wr.heap.size := h4
              simp at h3
              omega
        case measure => simp [RowKit.intOf]; omega
      | false =>
        have HS : Hid (ralL B k F (i + 1) = ralL B k F i) := by
          have h0 : E ≠ 0 := by simpa using he
          show (if _ then _ else _) = _
          rw [if_neg (fun x => h0 (HE.out.trans x))]
        go_wp2_with (fail)
        go_roundw
        case rel => exact ⟨i + 1, f, by omega, by go_num, by rw [HS.out]; exact HOW.out, by rw [HS.out]; exact HRS.out, HINS.out, HBW.out, HX.out⟩
        case measure => simp [RowKit.intOf]; omega
    · obtain rfl : i = N := by omega
      have HO := Lib.hid ho
      have HRS := Lib.hid hrs
      have HBL := Lib.hid hbl
      clear ho hrs hins hbl
      go_wp2_with (fail)
      go_ret
      exact ⟨_, f, rfl, HO.out, HRS.out, HBL.out⟩
end

end Go.Proofs.YtacnhlmhibhlhaaGreat
