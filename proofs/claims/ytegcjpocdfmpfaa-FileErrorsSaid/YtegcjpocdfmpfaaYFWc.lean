/-
  FileErrors, by contract.
-/
import Derived.Test.YtegcjpocdfmpfaaYaj
set_option linter.unusedVariables false
set_option linter.unusedSimpArgs false
set_option maxRecDepth 100000
set_option maxHeartbeats 16000000
namespace Go.Proofs.Ytegcjpocdfmpfaa
open Go.RowKit

/-- What a call that may fail leaves. -/
def ErP (w : World) (b : Nat) (T : Nat → Prop) (e : Ending) (w' : World) : Prop :=
  ∃ er, e = .returned (.int .i64 er) ∧ (er = 0 ∨ er = 28 ∨ er = 14) ∧ (er ≠ 0 → Below w.heap.size w w') ∧ Turn (fun j => T j ∨ j = b ∨ w.heap.size ≤ j) w w'
theorem fwrite_gen {w : World} {b s p : Nat} {fr : Value} {T D : Nat → Prop} {A : Nat → Int} {X : Nat → List Int} (h : FlAt w b s p fr T D A X) (hs : Src w fr A) (at' : Int) (a : Option Addr) (n cc : Nat) (zs : List Int) (hz : Pin w a n cc zs) (hnl : n ≤ 140737488355328) :
    Calls Try.prog 32 #[.pointer (some ⟨b, 0, none⟩), .int .i64 at', .slice a n cc] w (ErP w b T) := by
  by_cases h1 : at' < 0
  · clear h hs hz
    go_enter Try.func32, Try.ntmps32
    go_wp2_with (fail)
    go_ret
    exact ⟨28, rfl, .inr (.inl rfl), fun _ => Below.refl _ _, Turn.refl _ _⟩
  by_cases h2 : 46368 - (n : Int) < at'
  · have y4 : IntKind.i64.wrap ((46368 : Int) - (n : Int)) = (46368 : Int) - (n : Int) := IntWalk.i64_in _ (by omega)
    clear h hs hz
    go_enter Try.func32, Try.ntmps32
    go_wp2_with (fail)
    go_ret
    exact ⟨28, rfl, .inr (.inl rfl), fun _ => Below.refl _ _, Turn.refl _ _⟩
  obtain ⟨m, rfl⟩ := Int.eq_ofNat_of_zero_le (by omega : 0 ≤ at')
  by_cases h3 : n = 0
  · subst h3
    have y2 : ¬ (46368 : Int) < (m : Int) := by omega
    clear h hs hz h2
    go_enter Try.func32, Try.ntmps32
    go_wp2_with (fail)
    go_ret
    exact ⟨0, rfl, .inl rfl, fun h => absurd rfl h, Turn.refl _ _⟩
  · refine (fwrite_main h hs m a n cc zs hz (by omega) (by omega)).mono ?_
    rintro e' w' ⟨er, rfl, her, _, hbad, hok⟩
    rcases her with rfl | rfl
    · obtain ⟨T', D', A', X', _, _, _, ht, _⟩ := hok rfl
      exact ⟨0, rfl, .inl rfl, fun h => absurd rfl h, ht⟩
    · exact ⟨14, rfl, .inr (.inr rfl), fun _ => hbad rfl, Turn.of_below (hbad rfl)⟩
theorem ftrunc_gen {w : World} {b s p : Nat} {fr : Value} {T D : Nat → Prop} {A : Nat → Int} {X : Nat → List Int} (h : FlAt w b s p fr T D A X) (hs : Src w fr A) (n : Int) :
    Calls Try.prog 33 #[.pointer (some ⟨b, 0, none⟩), .int .i64 n] w (ErP w b T) := by
  by_cases h1 : 0 ≤ n ∧ n ≤ 46368
  · obtain ⟨m, rfl⟩ := Int.eq_ofNat_of_zero_le h1.1
    refine (ftrunc_main h hs m (by omega)).mono ?_
    rintro e' w' ⟨er, rfl, her, _, hbad, hok⟩
    rcases her with rfl | rfl
    · obtain ⟨T', D', A', X', _, _, _, ht, _⟩ := hok rfl
      exact ⟨0, rfl, .inl rfl, fun h => absurd rfl h, ht⟩
    · exact ⟨14, rfl, .inr (.inr rfl), fun _ => hbad rfl, Turn.of_below (hbad rfl)⟩
  · have hc := fisSize_any n w
    have hd : (decide (0 ≤ n) && decide (n ≤ 46368)) = false := by
      by_cases h2 : 0 ≤ n
      · rw [decide_eq_false (p := n ≤ 46368) (by omega), Bool.and_false]
      · rw [decide_eq_false h2]; rfl
    rw [hd] at hc
    have HC := Lib.hid hc
    clear h hs hc hd h1
    go_enter Try.func33, Try.ntmps33
    go_wp2_with (fail)
    refine HC.out.mono ?_
    rintro e w2 ⟨rfl, rfl⟩
    go_wp2_with (fail)
    go_ret
    exact ⟨28, rfl, .inr (.inl rfl), fun _ => Below.refl _ _, Turn.refl _ _⟩
theorem fre_none : selL (freP (fun _ : Nat => ([] : List Int))) 828 = [] := by
  generalize 828 = n
  induction n with
  | zero => rfl
  | succ n ih => rw [selL, ih]; rfl
theorem fileErrors_any (s0 : Int) (aA : Option Addr) (nA cA : Nat) (ks : List Int) (rA : Option Addr) (rn rc : Nat) (fr : Nat → Pc) (q k m : Int) (aD : Option Addr) (nD cD : Nat) (zD : List Int) (w : World)
    (hi : Ins w aA nA ks) (hin : aA = none → nA = 0 ∧ cA = 0) (hr : Rws w rA rn fr) (hrn : rn ≤ 9223372036854775807) (hrb : ∀ i, i < rn → (fr i).n ≤ reachBytes) (hd : Pin w aD nD cD zD) (hdr : nD ≤ reachBytes) (hkw : (Lit.int .i64 k).wf = true) :
    Calls Try.prog 8 #[.int .i64 s0, .slice aA nA cA, .slice rA rn rc, .agg #[.int .i64 q, .int .i64 k, .int .i64 m, .slice aD nD cD]] w fun e w' => e = .returned (.bool true) ∧ Below w.heap.size w w' := by
  obtain ⟨w1, hw1⟩ : ∃ w1, w1 = w.alloc (.cells #[.int .i64 q, .int .i64 k, .int .i64 m, .slice aD nD cD] 62 (0, 0)) := ⟨_, rfl⟩
  have hb1 : Below w.heap.size w w1 := by rw [hw1]; exact (Below.refl _ _).alloc (Nat.le_refl _) _
  have hr1 : w1.heap[w.heap.size]? = some (.cells #[.int .i64 q, .int .i64 k, .int .i64 m, .slice aD nD cD] 62 (0, 0)) := by rw [hw1]; exact heap_alloc_new w _
  have HB1 := Lib.hid hb1
  have HBX := Lib.hid (show ∀ w', Below w1.heap.size w1 w' → w'.cell? ⟨w.heap.size, 0, none⟩ = some (.int .i64 q) ∧ w'.cell? ⟨w.heap.size, 1, none⟩ = some (.int .i64 k) ∧ w'.cell? ⟨w.heap.size, 2, none⟩ = some (.int .i64 m) ∧ w'.cell? ⟨w.heap.size, 3, none⟩ = some (.slice aD nD cD) from fun w' hb =>
    have hr := (hb.block _ (lt_of_block hr1)).trans hr1
    have c := fun i => cell_of_row w' w.heap.size i _ _ (0, 0) hr
    ⟨c 0, c 1, c 2, c 3⟩)
  have HI := Lib.hid (And.intro hi hin)
  have HR := Lib.hid (And.intro hr (And.intro hrn hrb))
  have HDA := Lib.hid (And.intro hd (And.intro hdr hkw))
  have HW1 := Lib.hid hw1
  clear hb1 hr1 hi hin hr hrn hrb hd hdr hkw hw1
  go_enter Try.func8, Try.ntmps8
  go_wp2_with (fail)
  rw [← HW1.out]
  obtain ⟨g, hg⟩ : ∃ g, g = w.heap.size := ⟨_, rfl⟩
  have HG := Lib.hid hg
  rw [← hg] at HBX ⊢
  clear hg
  refine (falive_any w1).mono ?_
  rintro e w2 ⟨rfl, hb2⟩
  have HB2 := Lib.hid (HB1.out.trans (hb2.mono HB1.out.size))
  have HC2 := Lib.hid hb2
  clear hb2
  obtain ⟨c0, c1, c2, c3⟩ := HBX.out _ HC2.out
  obtain ⟨w3, hw3⟩ : ∃ w3, w3 = w2.alloc (.cells #[.int .i64 q, .int .i64 k, .int .i64 m, .slice aD nD cD] 62 (0, 0)) := ⟨_, rfl⟩
  have hb3 : Below w2.heap.size w2 w3 := by rw [hw3]; exact (Below.refl _ _).alloc (Nat.le_refl _) _
  have hr3 : w3.heap[w2.heap.size]? = some (.cells #[.int .i64 q, .int .i64 k, .int .i64 m, .slice aD nD cD] 62 (0, 0)) := by rw [hw3]; exact heap_alloc_new w2 _
  have HB3 := Lib.hid (HB2.out.trans (hb3.mono HB2.out.size))
  have HC3 := Lib.hid (HC2.out.trans (hb3.mono HC2.out.size))
  have HCB := Lib.hid (show CbsAt w3 (some ⟨w2.heap.size, 0, none⟩) 1 (fun _ => ⟨q, k, m, aD, nD, cD, zD⟩) from .inr ⟨w2.heap.size, 0, rfl, lt_of_block hr3, fun i hi => by
    obtain rfl : i = 0 := by omega
    have c := fun j => cell_of_row w3 w2.heap.size j _ _ (0, 0) hr3
    exact ⟨c 0, c 1, c 2, c 3, HDA.out.2.2, HDA.out.1.next (HB2.out.trans (hb3.mono HB2.out.size)), HDA.out.2.1⟩⟩)
  have HW3 := Lib.hid hw3
  clear hb3 hr3 hw3
  go_wp2_with (fail)
  rw [← HW3.out]
  refine (fgreat_any rA rn rc fr (some ⟨w2.heap.size, 0, none⟩) 1 1 _ w3 (HR.out.1.next HB3.out) HR.out.2.1 HR.out.2.2 HCB.out).mono ?_
  rintro e w4 ⟨gb, rfl, hgb, hb4⟩
  have HB4 := Lib.hid (HB3.out.trans (hb4.mono HB3.out.size))
  have HC4 := Lib.hid (HC3.out.trans (hb4.mono HC3.out.size))
  clear hb4 c0 c1 c2 c3
  obtain ⟨c0, c1, c2, c3⟩ := HBX.out _ HC4.out
  cases gb with
  | true =>
    go_wp2_with (fail)
    go_ret
    exact ⟨rfl, HB4.out⟩
  | false =>
    have HGR := Lib.hid (hgb rfl)
    clear hgb
    by_cases ha : 1000 < nA
    · have k0 : (1000 : Int) < (nA : Int) := by omega
      go_wp2_with (fail)
      go_ret
      exact ⟨rfl, HB4.out⟩
    have k0 : ¬ (1000 : Int) < (nA : Int) := by omega
    by_cases hq0 : q < 1
    · go_wp2_with (fail)
      go_ret
      exact ⟨rfl, HB4.out⟩
    by_cases hq1 : 2 < q
    · go_wp2_with (fail)
      go_ret
      exact ⟨rfl, HB4.out⟩
    have HQ := Lib.hid (show q = 1 ∨ q = 2 by omega)
    have HNA := Lib.hid (show nA ≤ 1000 by omega)
    go_wp2_with (fail)
    refine (fsource_any rA rn rc fr w4 (HR.out.1.next HB4.out) HGR.out.1 HGR.out.2.1).mono ?_
    rintro e w5 ⟨pS, A', nA', cA', Dt, nD', cD', ks', f', rfl, hsto, hb5⟩
    have HSTO := Lib.hid hsto
    have HB5 := Lib.hid (HB4.out.trans (hb5.mono HB4.out.size))
    have HC5 := Lib.hid (HC4.out.trans (hb5.mono HC4.out.size))
    clear hsto hb5 c0 c1 c2 c3 k0 ha hq0 hq1
    go_wp2_with (fail)
    refine (fnew_any s0 aA nA cA ks pS w5 (HI.out.1.next HB5.out) HI.out.2 (by have := HNA.out; omega)).mono ?_
    rintro e w6 ⟨hb6, ⟨rfl, _⟩ | ⟨hs0, hs1, hk8, b, p, T, D, rfl, hf, hbl, hD⟩⟩
    · have HB6 := Lib.hid (HB5.out.trans (hb6.mono HB5.out.size))
      clear hb6
      go_wp2_with (fail)
      go_ret
      exact ⟨rfl, HB6.out⟩
    obtain ⟨s, rfl⟩ := Int.eq_ofNat_of_zero_le hs0
    rw [Int.toNat_natCast] at hf
    have HF := Lib.hid hf
    have HB6 := Lib.hid (HB5.out.trans (hb6.mono HB5.out.size))
    have HC6 := Lib.hid (HC5.out.trans (hb6.mono HC5.out.size))
    have HS6 := Lib.hid (show Src w6 (srcV pS) (num ks) from .inr ⟨pS, A', nA', cA', Dt, nD', cD', ks', f', rfl, HSTO.out.next hb6⟩)
    have HL := Lib.hid (show w.heap.size ≤ b ∧ (∀ j, D j → w.heap.size ≤ j) ∧ ks.length ≤ 828 from ⟨Nat.le_trans HB5.out.size hbl, fun j hj => Nat.le_trans HB5.out.size (hD j hj), hk8⟩)
    clear hf hb6 hbl hD hk8 hs0 hs1
    obtain ⟨c0, c1, c2, c3⟩ := HBX.out _ HC6.out
    have hcall : ∀ w' e, ErP w6 b T e w' → ∃ er, e = .returned (.int .i64 er) ∧ (er = 0 ∨ er = 28 ∨ er = 14) ∧ Below w.heap.size w w' ∧ (er ≠ 0 → Below w6.heap.size w6 w') := by
      rintro w' e ⟨er, he, h1, h2, ht⟩
      refine ⟨er, he, h1, HB6.out.trans (ht.below HB6.out.size fun j hj => ?_), h2⟩
      rcases hj with h3 | rfl | h3
      · exact HL.out.2.1 j (pmp_ok.td HF.out.mp j h3)
      · exact HL.out.1
      · exact Nat.le_trans HB6.out.size h3
    have HCALL := Lib.hid hcall
    clear hcall
    rcases HQ.out with rfl | rfl
    · go_wp2_with (fail)
      refine (fwrite_gen HF.out HS6.out k aD nD cD zD (HDA.out.1.next HB6.out) (by have := HDA.out.2.1; unfold reachBytes at this; omega)).mono ?_
      intro e w7 hep
      obtain ⟨er, rfl, her, hB7, hbad⟩ := HCALL.out _ _ hep
      clear hep
      rcases her with rfl | rfl | rfl
      · clear c0 c1 c2 c3
        go_wp2_with (fail)
        go_ret
        exact ⟨rfl, hB7⟩
      · have hb7 := hbad (by decide)
        have HF7 := Lib.hid (HF.out.next hb7)
        have HB7 := Lib.hid hB7
        clear hb7 hbad hB7 c0 c1 c2 c3
        go_wp2_with (fail)
        refine (fsize_any HF7.out).mono ?_
        rintro e w8 ⟨rfl, rfl⟩
        go_wp2_with (fail)
        refine (fmap_any HF7.out).mono ?_
        rintro e w8 ⟨rfl, rfl⟩
        go_wp2_with (fail)
        have hfr := pmp_ok.fresh HF7.out.mp
        rw [fre_none] at hfr
        refine hfr.mono ?_
        rintro e w8 ⟨a8, c8, rfl, _, _, hb8⟩
        have HF8 := Lib.hid (HF7.out.next hb8)
        have HB8 := Lib.hid (HB7.out.trans (hb8.mono HB7.out.size))
        clear hfr hb8
        go_wp2_with (fail)
        go_loopw [12] (fun v wr => ∃ i : Nat, i ≤ nA ∧ v = .int .i64 i ∧ Below w8.heap.size w8 wr) (fun v _ => nA - (RowKit.intOf v).toNat)
        case atStart => exact ⟨0, by omega, rfl, Below.refl _ _⟩
        case round =>
          obtain ⟨i, hi, rfl, hb⟩ := hrel
          have HBR := Lib.hid hb
          clear hb
          by_cases hlt : i < nA
          · have HBW := Lib.hid (HB8.out.trans (HBR.out.mono HB8.out.size))
            obtain ⟨ba, oa, rfl, hba, hca⟩ := (HI.out.1.next HBW.out).at (by omega : 0 < nA)
            have x5 := hca i hlt
            obtain ⟨z, hz⟩ : ∃ z, z = num ks i := ⟨_, rfl⟩
            rw [← hz] at x5
            have HZ := Lib.hid hz
            have hkl := HI.out.1.len
            have HK8 := Lib.hid (show i < 828 by have := HL.out.2.2; omega)
            have k0 : (0 : Int) ≤ (i : Int) := by omega
            have k1 : (i : Int) < (nA : Int) := by omega
            clear hba hca hz hkl
            go_upto_region 19 with fail
            refine wp_region_held_drew (S := (fun w' => w'.cell? ⟨ba, oa + i, none⟩ = some (.int .i64 z))) (by kernel_rfl) x5 (fun hHeld => ?_)
            refine wpAnyH_take (i := 0) (v := ?_) rfl (by kernel_rfl) (by kernel_rfl) (by kernel_rfl) (fun _ _ _ h => h) (Or.inl ⟨by rfl, fun w hSw => ?_⟩) (by assumption) ?_
            rotate_left
            · (try dsimp only at hSw); go_simp; try with_reducible rfl
            simp only [Act.put, List.setIfInBounds_toArray, List.set_cons_zero, List.set_cons_succ, List.getElem_toArray, List.getElem_cons_zero]
            refine wpAnyH_take (i := 2) (v := ?_) rfl (by kernel_rfl) (by kernel_rfl) (by kernel_rfl) (fun _ _ _ h => h) (Or.inl ⟨by rfl, fun w hSw => ?_⟩) (by assumption) ?_
            rotate_left
            · (try dsimp only at hSw); go_simp; try with_reducible rfl
            simp only [Act.put, List.setIfInBounds_toArray, List.set_cons_zero, List.set_cons_succ, List.getElem_toArray, List.getElem_cons_succ, List.getElem_cons_zero]
            refine wpAnyH_take (i := 4) (v := ?_) rfl (by kernel_rfl) (by kernel_rfl) (by kernel_rfl) (fun _ _ _ h => h) (Or.inl ⟨by rfl, fun w hSw => ?_⟩) (by assumption) ?_
            rotate_left
            · (try dsimp only at hSw); go_simp; try with_reducible rfl
            simp only [Act.put, List.setIfInBounds_toArray, List.set_cons_zero, List.set_cons_succ, List.getElem_toArray, List.getElem_cons_succ, List.getElem_cons_zero]
            refine wpAnyH_take (i := 5) (v := ?_) rfl (by kernel_rfl) (by kernel_rfl) (by kernel_rfl) (fun _ _ _ h => h) (Or.inl ⟨by rfl, fun w hSw => ?_⟩) (by assumption) ?_
            rotate_left
            · (try dsimp only at hSw); go_simp; try with_reducible rfl
            simp only [Act.put, List.setIfInBounds_toArray, List.set_cons_zero, List.set_cons_succ, List.getElem_toArray, List.getElem_cons_succ, List.getElem_cons_zero]
            refine wpAnyH_take (i := 6) (v := ?_) rfl (by kernel_rfl) (by kernel_rfl) (by kernel_rfl) (fun _ _ _ h => h) (Or.inl ⟨by rfl, fun w hSw => ?_⟩) (by assumption) ?_
            rotate_left
            · (try dsimp only at hSw); go_simp; try with_reducible rfl
            simp only [Act.put, List.setIfInBounds_toArray, List.set_cons_zero, List.set_cons_succ, List.getElem_toArray, List.getElem_cons_succ, List.getElem_cons_zero]
            refine wpAnyH_take (i := 7) (v := ?_) rfl (by kernel_rfl) (by kernel_rfl) (by kernel_rfl) (fun _ _ _ h => h) (Or.inl ⟨by rfl, fun w hSw => ?_⟩) (by assumption) ?_
            rotate_left
            · (try dsimp only at hSw); go_simp; try with_reducible rfl
            simp only [Act.put, List.setIfInBounds_toArray, List.set_cons_zero, List.set_cons_succ, List.getElem_toArray, List.getElem_cons_succ, List.getElem_cons_zero]
            refine wpAnyH_ready (rs := [1]) (by kernel_rfl) (by simp) ?_
            refine AllReadyH.cons rfl (fun K hK => ?_) AllReadyH.nil
            simp only [List.getElem_toArray, List.getElem_cons_succ, List.getElem_cons_zero]
            go_simp
            have hdr : Below w8.heap.size w8 wr.drew := HBR.out.trans ((below_drewN (Below.refl wr.heap.size wr) 1).mono HBR.out.size)
            have HF9 := Lib.hid (HF8.out.next hdr)
            clear hdr
            refine (fmap_any HF9.out).mono ?_
            rintro e w9 ⟨rfl, rfl⟩
            go_wp2_with (fail)
            refine hK.out _ _ x5 (fun hHeld => ?_)
            clear hK K
            refine wpAnyH_ready (rs := [3]) (by kernel_rfl) (by simp) ?_
            refine AllReadyH.cons rfl (fun K hK => ?_) AllReadyH.nil
            simp only [List.getElem_toArray, List.getElem_cons_succ, List.getElem_cons_zero]
            go_simp
            have had := pmp_ok.ad HF9.out.mp (i : Int)
            rw [adO_yes _ HK8.out, ← HZ.out] at had
            refine had.mono ?_
            rintro e w9 ⟨rfl, hb9⟩
            have x6 : w9.cell? ⟨ba, oa + i, none⟩ = some (.int .i64 z) := (hb9.cell (p := ⟨ba, oa + i, none⟩) (World.block_lt_of_cell? wr.drew _ x5)).trans x5
            have HB9 := Lib.hid (show Below w8.heap.size w8 w9 from (HBR.out.trans ((below_drewN (Below.refl wr.heap.size wr) 1).mono HBR.out.size)).trans (hb9.mono (Nat.le_trans HBR.out.size (below_drewN (Below.refl wr.heap.size wr) 1).size)))
            clear had hb9
            go_wp2_with (fail)
            refine hK.out _ _ x6 (fun hHeld => ?_)
            clear hK K
            refine wpAnyH_take (i := 8) (v := ?_) rfl (by kernel_rfl) (by kernel_rfl) (by kernel_rfl) (fun _ _ _ h => h) (Or.inl ⟨by rfl, fun w hSw => ?_⟩) (by assumption) ?_
            rotate_left
            · (try dsimp only at hSw); go_simp; try with_reducible rfl
            simp only [Act.put, List.setIfInBounds_toArray, List.set_cons_zero, List.set_cons_succ, List.getElem_toArray, List.getElem_cons_succ, List.getElem_cons_zero]
            refine wpAnyH_done (by kernel_rfl) ?_ _
            clear hHeld x5 x6
            go_wp2_with (fail)
            go_roundw
            case rel => exact ⟨i + 1, by omega, by go_num, HB9.out⟩
            case measure => simp [RowKit.intOf]; omega
          · obtain rfl : i = nA := by omega
            go_wp2_with (fail)
            go_ret
            exact ⟨rfl, HB8.out.trans (HBR.out.mono HB8.out.size)⟩
      · have hb7 := hbad (by decide)
        have HF7 := Lib.hid (HF.out.next hb7)
        have HB7 := Lib.hid hB7
        clear hb7 hbad hB7 c0 c1 c2 c3
        go_wp2_with (fail)
        refine (fsize_any HF7.out).mono ?_
        rintro e w8 ⟨rfl, rfl⟩
        go_wp2_with (fail)
        refine (fmap_any HF7.out).mono ?_
        rintro e w8 ⟨rfl, rfl⟩
        go_wp2_with (fail)
        have hfr := pmp_ok.fresh HF7.out.mp
        rw [fre_none] at hfr
        refine hfr.mono ?_
        rintro e w8 ⟨a8, c8, rfl, _, _, hb8⟩
        have HF8 := Lib.hid (HF7.out.next hb8)
        have HB8 := Lib.hid (HB7.out.trans (hb8.mono HB7.out.size))
        clear hfr hb8
        go_wp2_with (fail)
        go_loopw [12] (fun v wr => ∃ i : Nat, i ≤ nA ∧ v = .int .i64 i ∧ Below w8.heap.size w8 wr) (fun v _ => nA - (RowKit.intOf v).toNat)
        case atStart => exact ⟨0, by omega, rfl, Below.refl _ _⟩
        case round =>
          obtain ⟨i, hi, rfl, hb⟩ := hrel
          have HBR := Lib.hid hb
          clear hb
          by_cases hlt : i < nA
          · have HBW := Lib.hid (HB8.out.trans (HBR.out.mono HB8.out.size))
            obtain ⟨ba, oa, rfl, hba, hca⟩ := (HI.out.1.next HBW.out).at (by omega : 0 < nA)
            have x5 := hca i hlt
            obtain ⟨z, hz⟩ : ∃ z, z = num ks i := ⟨_, rfl⟩
            rw [← hz] at x5
            have HZ := Lib.hid hz
            have hkl := HI.out.1.len
            have HK8 := Lib.hid (show i < 828 by have := HL.out.2.2; omega)
            have k0 : (0 : Int) ≤ (i : Int) := by omega
            have k1 : (i : Int) < (nA : Int) := by omega
            clear hba hca hz hkl
            go_upto_region 19 with fail
            refine wp_region_held_drew (S := (fun w' => w'.cell? ⟨ba, oa + i, none⟩ = some (.int .i64 z))) (by kernel_rfl) x5 (fun hHeld => ?_)
            refine wpAnyH_take (i := 0) (v := ?_) rfl (by kernel_rfl) (by kernel_rfl) (by kernel_rfl) (fun _ _ _ h => h) (Or.inl ⟨by rfl, fun w hSw => ?_⟩) (by assumption) ?_
            rotate_left
            · (try dsimp only at hSw); go_simp; try with_reducible rfl
            simp only [Act.put, List.setIfInBounds_toArray, List.set_cons_zero, List.set_cons_succ, List.getElem_toArray, List.getElem_cons_zero]
            refine wpAnyH_take (i := 2) (v := ?_) rfl (by kernel_rfl) (by kernel_rfl) (by kernel_rfl) (fun _ _ _ h => h) (Or.inl ⟨by rfl, fun w hSw => ?_⟩) (by assumption) ?_
            rotate_left
            · (try dsimp only at hSw); go_simp; try with_reducible rfl
            simp only [Act.put, List.setIfInBounds_toArray, List.set_cons_zero, List.set_cons_succ, List.getElem_toArray, List.getElem_cons_succ, List.getElem_cons_zero]
            refine wpAnyH_take (i := 4) (v := ?_) rfl (by kernel_rfl) (by kernel_rfl) (by kernel_rfl) (fun _ _ _ h => h) (Or.inl ⟨by rfl, fun w hSw => ?_⟩) (by assumption) ?_
            rotate_left
            · (try dsimp only at hSw); go_simp; try with_reducible rfl
            simp only [Act.put, List.setIfInBounds_toArray, List.set_cons_zero, List.set_cons_succ, List.getElem_toArray, List.getElem_cons_succ, List.getElem_cons_zero]
            refine wpAnyH_take (i := 5) (v := ?_) rfl (by kernel_rfl) (by kernel_rfl) (by kernel_rfl) (fun _ _ _ h => h) (Or.inl ⟨by rfl, fun w hSw => ?_⟩) (by assumption) ?_
            rotate_left
            · (try dsimp only at hSw); go_simp; try with_reducible rfl
            simp only [Act.put, List.setIfInBounds_toArray, List.set_cons_zero, List.set_cons_succ, List.getElem_toArray, List.getElem_cons_succ, List.getElem_cons_zero]
            refine wpAnyH_take (i := 6) (v := ?_) rfl (by kernel_rfl) (by kernel_rfl) (by kernel_rfl) (fun _ _ _ h => h) (Or.inl ⟨by rfl, fun w hSw => ?_⟩) (by assumption) ?_
            rotate_left
            · (try dsimp only at hSw); go_simp; try with_reducible rfl
            simp only [Act.put, List.setIfInBounds_toArray, List.set_cons_zero, List.set_cons_succ, List.getElem_toArray, List.getElem_cons_succ, List.getElem_cons_zero]
            refine wpAnyH_take (i := 7) (v := ?_) rfl (by kernel_rfl) (by kernel_rfl) (by kernel_rfl) (fun _ _ _ h => h) (Or.inl ⟨by rfl, fun w hSw => ?_⟩) (by assumption) ?_
            rotate_left
            · (try dsimp only at hSw); go_simp; try with_reducible rfl
            simp only [Act.put, List.setIfInBounds_toArray, List.set_cons_zero, List.set_cons_succ, List.getElem_toArray, List.getElem_cons_succ, List.getElem_cons_zero]
            refine wpAnyH_ready (rs := [1]) (by kernel_rfl) (by simp) ?_
            refine AllReadyH.cons rfl (fun K hK => ?_) AllReadyH.nil
            simp only [List.getElem_toArray, List.getElem_cons_succ, List.getElem_cons_zero]
            go_simp
            have hdr : Below w8.heap.size w8 wr.drew := HBR.out.trans ((below_drewN (Below.refl wr.heap.size wr) 1).mono HBR.out.size)
            have HF9 := Lib.hid (HF8.out.next hdr)
            clear hdr
            refine (fmap_any HF9.out).mono ?_
            rintro e w9 ⟨rfl, rfl⟩
            go_wp2_with (fail)
            refine hK.out _ _ x5 (fun hHeld => ?_)
            clear hK K
            refine wpAnyH_ready (rs := [3]) (by kernel_rfl) (by simp) ?_
            refine AllReadyH.cons rfl (fun K hK => ?_) AllReadyH.nil
            simp only [List.getElem_toArray, List.getElem_cons_succ, List.getElem_cons_zero]
            go_simp
            have had := pmp_ok.ad HF9.out.mp (i : Int)
            rw [adO_yes _ HK8.out, ← HZ.out] at had
            refine had.mono ?_
            rintro e w9 ⟨rfl, hb9⟩
            have x6 : w9.cell? ⟨ba, oa + i, none⟩ = some (.int .i64 z) := (hb9.cell (p := ⟨ba, oa + i, none⟩) (World.block_lt_of_cell? wr.drew _ x5)).trans x5
            have HB9 := Lib.hid (show Below w8.heap.size w8 w9 from (HBR.out.trans ((below_drewN (Below.refl wr.heap.size wr) 1).mono HBR.out.size)).trans (hb9.mono (Nat.le_trans HBR.out.size (below_drewN (Below.refl wr.heap.size wr) 1).size)))
            clear had hb9
            go_wp2_with (fail)
            refine hK.out _ _ x6 (fun hHeld => ?_)
            clear hK K
            refine wpAnyH_take (i := 8) (v := ?_) rfl (by kernel_rfl) (by kernel_rfl) (by kernel_rfl) (fun _ _ _ h => h) (Or.inl ⟨by rfl, fun w hSw => ?_⟩) (by assumption) ?_
            rotate_left
            · (try dsimp only at hSw); go_simp; try with_reducible rfl
            simp only [Act.put, List.setIfInBounds_toArray, List.set_cons_zero, List.set_cons_succ, List.getElem_toArray, List.getElem_cons_succ, List.getElem_cons_zero]
            refine wpAnyH_done (by kernel_rfl) ?_ _
            clear hHeld x5 x6
            go_wp2_with (fail)
            go_roundw
            case rel => exact ⟨i + 1, by omega, by go_num, HB9.out⟩
            case measure => simp [RowKit.intOf]; omega
          · obtain rfl : i = nA := by omega
            go_wp2_with (fail)
            go_ret
            exact ⟨rfl, HB8.out.trans (HBR.out.mono HB8.out.size)⟩
    · go_wp2_with (fail)
      refine (ftrunc_gen HF.out HS6.out m).mono ?_
      intro e w7 hep
      obtain ⟨er, rfl, her, hB7, hbad⟩ := HCALL.out _ _ hep
      clear hep
      rcases her with rfl | rfl | rfl
      · clear c0 c1 c2 c3
        go_wp2_with (fail)
        go_ret
        exact ⟨rfl, hB7⟩
      · have hb7 := hbad (by decide)
        have HF7 := Lib.hid (HF.out.next hb7)
        have HB7 := Lib.hid hB7
        clear hb7 hbad hB7 c0 c1 c2 c3
        go_wp2_with (fail)
        refine (fsize_any HF7.out).mono ?_
        rintro e w8 ⟨rfl, rfl⟩
        go_wp2_with (fail)
        refine (fmap_any HF7.out).mono ?_
        rintro e w8 ⟨rfl, rfl⟩
        go_wp2_with (fail)
        have hfr := pmp_ok.fresh HF7.out.mp
        rw [fre_none] at hfr
        refine hfr.mono ?_
        rintro e w8 ⟨a8, c8, rfl, _, _, hb8⟩
        have HF8 := Lib.hid (HF7.out.next hb8)
        have HB8 := Lib.hid (HB7.out.trans (hb8.mono HB7.out.size))
        clear hfr hb8
        go_wp2_with (fail)
        go_loopw [12] (fun v wr => ∃ i : Nat, i ≤ nA ∧ v = .int .i64 i ∧ Below w8.heap.size w8 wr) (fun v _ => nA - (RowKit.intOf v).toNat)
        case atStart => exact ⟨0, by omega, rfl, Below.refl _ _⟩
        case round =>
          obtain ⟨i, hi, rfl, hb⟩ := hrel
          have HBR := Lib.hid hb
          clear hb
          by_cases hlt : i < nA
          · have HBW := Lib.hid (HB8.out.trans (HBR.out.mono HB8.out.size))
            obtain ⟨ba, oa, rfl, hba, hca⟩ := (HI.out.1.next HBW.out).at (by omega : 0 < nA)
            have x5 := hca i hlt
            obtain ⟨z, hz⟩ : ∃ z, z = num ks i := ⟨_, rfl⟩
            rw [← hz] at x5
            have HZ := Lib.hid hz
            have hkl := HI.out.1.len
            have HK8 := Lib.hid (show i < 828 by have := HL.out.2.2; omega)
            have k0 : (0 : Int) ≤ (i : Int) := by omega
            have k1 : (i : Int) < (nA : Int) := by omega
            clear hba hca hz hkl
            go_upto_region 19 with fail
            refine wp_region_held_drew (S := (fun w' => w'.cell? ⟨ba, oa + i, none⟩ = some (.int .i64 z))) (by kernel_rfl) x5 (fun hHeld => ?_)
            refine wpAnyH_take (i := 0) (v := ?_) rfl (by kernel_rfl) (by kernel_rfl) (by kernel_rfl) (fun _ _ _ h => h) (Or.inl ⟨by rfl, fun w hSw => ?_⟩) (by assumption) ?_
            rotate_left
            · (try dsimp only at hSw); go_simp; try with_reducible rfl
            simp only [Act.put, List.setIfInBounds_toArray, List.set_cons_zero, List.set_cons_succ, List.getElem_toArray, List.getElem_cons_zero]
            refine wpAnyH_take (i := 2) (v := ?_) rfl (by kernel_rfl) (by kernel_rfl) (by kernel_rfl) (fun _ _ _ h => h) (Or.inl ⟨by rfl, fun w hSw => ?_⟩) (by assumption) ?_
            rotate_left
            · (try dsimp only at hSw); go_simp; try with_reducible rfl
            simp only [Act.put, List.setIfInBounds_toArray, List.set_cons_zero, List.set_cons_succ, List.getElem_toArray, List.getElem_cons_succ, List.getElem_cons_zero]
            refine wpAnyH_take (i := 4) (v := ?_) rfl (by kernel_rfl) (by kernel_rfl) (by kernel_rfl) (fun _ _ _ h => h) (Or.inl ⟨by rfl, fun w hSw => ?_⟩) (by assumption) ?_
            rotate_left
            · (try dsimp only at hSw); go_simp; try with_reducible rfl
            simp only [Act.put, List.setIfInBounds_toArray, List.set_cons_zero, List.set_cons_succ, List.getElem_toArray, List.getElem_cons_succ, List.getElem_cons_zero]
            refine wpAnyH_take (i := 5) (v := ?_) rfl (by kernel_rfl) (by kernel_rfl) (by kernel_rfl) (fun _ _ _ h => h) (Or.inl ⟨by rfl, fun w hSw => ?_⟩) (by assumption) ?_
            rotate_left
            · (try dsimp only at hSw); go_simp; try with_reducible rfl
            simp only [Act.put, List.setIfInBounds_toArray, List.set_cons_zero, List.set_cons_succ, List.getElem_toArray, List.getElem_cons_succ, List.getElem_cons_zero]
            refine wpAnyH_take (i := 6) (v := ?_) rfl (by kernel_rfl) (by kernel_rfl) (by kernel_rfl) (fun _ _ _ h => h) (Or.inl ⟨by rfl, fun w hSw => ?_⟩) (by assumption) ?_
            rotate_left
            · (try dsimp only at hSw); go_simp; try with_reducible rfl
            simp only [Act.put, List.setIfInBounds_toArray, List.set_cons_zero, List.set_cons_succ, List.getElem_toArray, List.getElem_cons_succ, List.getElem_cons_zero]
            refine wpAnyH_take (i := 7) (v := ?_) rfl (by kernel_rfl) (by kernel_rfl) (by kernel_rfl) (fun _ _ _ h => h) (Or.inl ⟨by rfl, fun w hSw => ?_⟩) (by assumption) ?_
            rotate_left
            · (try dsimp only at hSw); go_simp; try with_reducible rfl
            simp only [Act.put, List.setIfInBounds_toArray, List.set_cons_zero, List.set_cons_succ, List.getElem_toArray, List.getElem_cons_succ, List.getElem_cons_zero]
            refine wpAnyH_ready (rs := [1]) (by kernel_rfl) (by simp) ?_
            refine AllReadyH.cons rfl (fun K hK => ?_) AllReadyH.nil
            simp only [List.getElem_toArray, List.getElem_cons_succ, List.getElem_cons_zero]
            go_simp
            have hdr : Below w8.heap.size w8 wr.drew := HBR.out.trans ((below_drewN (Below.refl wr.heap.size wr) 1).mono HBR.out.size)
            have HF9 := Lib.hid (HF8.out.next hdr)
            clear hdr
            refine (fmap_any HF9.out).mono ?_
            rintro e w9 ⟨rfl, rfl⟩
            go_wp2_with (fail)
            refine hK.out _ _ x5 (fun hHeld => ?_)
            clear hK K
            refine wpAnyH_ready (rs := [3]) (by kernel_rfl) (by simp) ?_
            refine AllReadyH.cons rfl (fun K hK => ?_) AllReadyH.nil
            simp only [List.getElem_toArray, List.getElem_cons_succ, List.getElem_cons_zero]
            go_simp
            have had := pmp_ok.ad HF9.out.mp (i : Int)
            rw [adO_yes _ HK8.out, ← HZ.out] at had
            refine had.mono ?_
            rintro e w9 ⟨rfl, hb9⟩
            have x6 : w9.cell? ⟨ba, oa + i, none⟩ = some (.int .i64 z) := (hb9.cell (p := ⟨ba, oa + i, none⟩) (World.block_lt_of_cell? wr.drew _ x5)).trans x5
            have HB9 := Lib.hid (show Below w8.heap.size w8 w9 from (HBR.out.trans ((below_drewN (Below.refl wr.heap.size wr) 1).mono HBR.out.size)).trans (hb9.mono (Nat.le_trans HBR.out.size (below_drewN (Below.refl wr.heap.size wr) 1).size)))
            clear had hb9
            go_wp2_with (fail)
            refine hK.out _ _ x6 (fun hHeld => ?_)
            clear hK K
            refine wpAnyH_take (i := 8) (v := ?_) rfl (by kernel_rfl) (by kernel_rfl) (by kernel_rfl) (fun _ _ _ h => h) (Or.inl ⟨by rfl, fun w hSw => ?_⟩) (by assumption) ?_
            rotate_left
            · (try dsimp only at hSw); go_simp; try with_reducible rfl
            simp only [Act.put, List.setIfInBounds_toArray, List.set_cons_zero, List.set_cons_succ, List.getElem_toArray, List.getElem_cons_succ, List.getElem_cons_zero]
            refine wpAnyH_done (by kernel_rfl) ?_ _
            clear hHeld x5 x6
            go_wp2_with (fail)
            go_roundw
            case rel => exact ⟨i + 1, by omega, by go_num, HB9.out⟩
            case measure => simp [RowKit.intOf]; omega
          · obtain rfl : i = nA := by omega
            go_wp2_with (fail)
            go_ret
            exact ⟨rfl, HB8.out.trans (HBR.out.mono HB8.out.size)⟩
      · have hb7 := hbad (by decide)
        have HF7 := Lib.hid (HF.out.next hb7)
        have HB7 := Lib.hid hB7
        clear hb7 hbad hB7 c0 c1 c2 c3
        go_wp2_with (fail)
        refine (fsize_any HF7.out).mono ?_
        rintro e w8 ⟨rfl, rfl⟩
        go_wp2_with (fail)
        refine (fmap_any HF7.out).mono ?_
        rintro e w8 ⟨rfl, rfl⟩
        go_wp2_with (fail)
        have hfr := pmp_ok.fresh HF7.out.mp
        rw [fre_none] at hfr
        refine hfr.mono ?_
        rintro e w8 ⟨a8, c8, rfl, _, _, hb8⟩
        have HF8 := Lib.hid (HF7.out.next hb8)
        have HB8 := Lib.hid (HB7.out.trans (hb8.mono HB7.out.size))
        clear hfr hb8
        go_wp2_with (fail)
        go_loopw [12] (fun v wr => ∃ i : Nat, i ≤ nA ∧ v = .int .i64 i ∧ Below w8.heap.size w8 wr) (fun v _ => nA - (RowKit.intOf v).toNat)
        case atStart => exact ⟨0, by omega, rfl, Below.refl _ _⟩
        case round =>
          obtain ⟨i, hi, rfl, hb⟩ := hrel
          have HBR := Lib.hid hb
          clear hb
          by_cases hlt : i < nA
          · have HBW := Lib.hid (HB8.out.trans (HBR.out.mono HB8.out.size))
            obtain ⟨ba, oa, rfl, hba, hca⟩ := (HI.out.1.next HBW.out).at (by omega : 0 < nA)
            have x5 := hca i hlt
            obtain ⟨z, hz⟩ : ∃ z, z = num ks i := ⟨_, rfl⟩
            rw [← hz] at x5
            have HZ := Lib.hid hz
            have hkl := HI.out.1.len
            have HK8 := Lib.hid (show i < 828 by have := HL.out.2.2; omega)
            have k0 : (0 : Int) ≤ (i : Int) := by omega
            have k1 : (i : Int) < (nA : Int) := by omega
            clear hba hca hz hkl
            go_upto_region 19 with fail
            refine wp_region_held_drew (S := (fun w' => w'.cell? ⟨ba, oa + i, none⟩ = some (.int .i64 z))) (by kernel_rfl) x5 (fun hHeld => ?_)
            refine wpAnyH_take (i := 0) (v := ?_) rfl (by kernel_rfl) (by kernel_rfl) (by kernel_rfl) (fun _ _ _ h => h) (Or.inl ⟨by rfl, fun w hSw => ?_⟩) (by assumption) ?_
            rotate_left
            · (try dsimp only at hSw); go_simp; try with_reducible rfl
            simp only [Act.put, List.setIfInBounds_toArray, List.set_cons_zero, List.set_cons_succ, List.getElem_toArray, List.getElem_cons_zero]
            refine wpAnyH_take (i := 2) (v := ?_) rfl (by kernel_rfl) (by kernel_rfl) (by kernel_rfl) (fun _ _ _ h => h) (Or.inl ⟨by rfl, fun w hSw => ?_⟩) (by assumption) ?_
            rotate_left
            · (try dsimp only at hSw); go_simp; try with_reducible rfl
            simp only [Act.put, List.setIfInBounds_toArray, List.set_cons_zero, List.set_cons_succ, List.getElem_toArray, List.getElem_cons_succ, List.getElem_cons_zero]
            refine wpAnyH_take (i := 4) (v := ?_) rfl (by kernel_rfl) (by kernel_rfl) (by kernel_rfl) (fun _ _ _ h => h) (Or.inl ⟨by rfl, fun w hSw => ?_⟩) (by assumption) ?_
            rotate_left
            · (try dsimp only at hSw); go_simp; try with_reducible rfl
            simp only [Act.put, List.setIfInBounds_toArray, List.set_cons_zero, List.set_cons_succ, List.getElem_toArray, List.getElem_cons_succ, List.getElem_cons_zero]
            refine wpAnyH_take (i := 5) (v := ?_) rfl (by kernel_rfl) (by kernel_rfl) (by kernel_rfl) (fun _ _ _ h => h) (Or.inl ⟨by rfl, fun w hSw => ?_⟩) (by assumption) ?_
            rotate_left
            · (try dsimp only at hSw); go_simp; try with_reducible rfl
            simp only [Act.put, List.setIfInBounds_toArray, List.set_cons_zero, List.set_cons_succ, List.getElem_toArray, List.getElem_cons_succ, List.getElem_cons_zero]
            refine wpAnyH_take (i := 6) (v := ?_) rfl (by kernel_rfl) (by kernel_rfl) (by kernel_rfl) (fun _ _ _ h => h) (Or.inl ⟨by rfl, fun w hSw => ?_⟩) (by assumption) ?_
            rotate_left
            · (try dsimp only at hSw); go_simp; try with_reducible rfl
            simp only [Act.put, List.setIfInBounds_toArray, List.set_cons_zero, List.set_cons_succ, List.getElem_toArray, List.getElem_cons_succ, List.getElem_cons_zero]
            refine wpAnyH_take (i := 7) (v := ?_) rfl (by kernel_rfl) (by kernel_rfl) (by kernel_rfl) (fun _ _ _ h => h) (Or.inl ⟨by rfl, fun w hSw => ?_⟩) (by assumption) ?_
            rotate_left
            · (try dsimp only at hSw); go_simp; try with_reducible rfl
            simp only [Act.put, List.setIfInBounds_toArray, List.set_cons_zero, List.set_cons_succ, List.getElem_toArray, List.getElem_cons_succ, List.getElem_cons_zero]
            refine wpAnyH_ready (rs := [1]) (by kernel_rfl) (by simp) ?_
            refine AllReadyH.cons rfl (fun K hK => ?_) AllReadyH.nil
            simp only [List.getElem_toArray, List.getElem_cons_succ, List.getElem_cons_zero]
            go_simp
            have hdr : Below w8.heap.size w8 wr.drew := HBR.out.trans ((below_drewN (Below.refl wr.heap.size wr) 1).mono HBR.out.size)
            have HF9 := Lib.hid (HF8.out.next hdr)
            clear hdr
            refine (fmap_any HF9.out).mono ?_
            rintro e w9 ⟨rfl, rfl⟩
            go_wp2_with (fail)
            refine hK.out _ _ x5 (fun hHeld => ?_)
            clear hK K
            refine wpAnyH_ready (rs := [3]) (by kernel_rfl) (by simp) ?_
            refine AllReadyH.cons rfl (fun K hK => ?_) AllReadyH.nil
            simp only [List.getElem_toArray, List.getElem_cons_succ, List.getElem_cons_zero]
            go_simp
            have had := pmp_ok.ad HF9.out.mp (i : Int)
            rw [adO_yes _ HK8.out, ← HZ.out] at had
            refine had.mono ?_
            rintro e w9 ⟨rfl, hb9⟩
            have x6 : w9.cell? ⟨ba, oa + i, none⟩ = some (.int .i64 z) := (hb9.cell (p := ⟨ba, oa + i, none⟩) (World.block_lt_of_cell? wr.drew _ x5)).trans x5
            have HB9 := Lib.hid (show Below w8.heap.size w8 w9 from (HBR.out.trans ((below_drewN (Below.refl wr.heap.size wr) 1).mono HBR.out.size)).trans (hb9.mono (Nat.le_trans HBR.out.size (below_drewN (Below.refl wr.heap.size wr) 1).size)))
            clear had hb9
            go_wp2_with (fail)
            refine hK.out _ _ x6 (fun hHeld => ?_)
            clear hK K
            refine wpAnyH_take (i := 8) (v := ?_) rfl (by kernel_rfl) (by kernel_rfl) (by kernel_rfl) (fun _ _ _ h => h) (Or.inl ⟨by rfl, fun w hSw => ?_⟩) (by assumption) ?_
            rotate_left
            · (try dsimp only at hSw); go_simp; try with_reducible rfl
            simp only [Act.put, List.setIfInBounds_toArray, List.set_cons_zero, List.set_cons_succ, List.getElem_toArray, List.getElem_cons_succ, List.getElem_cons_zero]
            refine wpAnyH_done (by kernel_rfl) ?_ _
            clear hHeld x5 x6
            go_wp2_with (fail)
            go_roundw
            case rel => exact ⟨i + 1, by omega, by go_num, HB9.out⟩
            case measure => simp [RowKit.intOf]; omega
          · obtain rfl : i = nA := by omega
            go_wp2_with (fail)
            go_ret
            exact ⟨rfl, HB8.out.trans (HBR.out.mono HB8.out.size)⟩
end Go.Proofs.Ytegcjpocdfmpfaa
