/-
  MetaLost, by contract.
-/
import Derived.Test.YtpmgagifpdamkaaVav
import Derived.Test.YtpmgagifpdamkaaVam
import Derived.Test.YtpmgagifpdamkaaVan
import Derived.Test.YtpmgagifpdamkaaVat
import Derived.Test.YtpmgagifpdamkaaVaw
import Derived.Test.YtpmgagifpdamkaaVad
set_option linter.unusedVariables false
set_option linter.unusedSimpArgs false
set_option maxRecDepth 100000
set_option maxHeartbeats 16000000
namespace Go.Proofs.Ytpmgagifpdamkaa
open Go.RowKit

theorem metaLost_any (d r s : Int) (a : Option Addr) (n c : Nat) (f : Nat → Nw) (p : Int) (w : World) (hl : NwsAt w a n f) :
    Calls Try.prog 6 #[gv d r s, .slice a n c, .int .i64 p] w fun e w' => e = .returned (.bool true) ∧ Below w.heap.size w w' := by
  have hx := Bx.mk' w d r s 23
  have hB : Below w.heap.size w (w.alloc (.cells #[.int .i64 d, .int .i64 r, .int .i64 s] 23 (0, 0))) := (Below.refl _ _).alloc (Nat.le_refl _) _
  obtain ⟨w1, hw1⟩ : ∃ w1, w1 = w.alloc (.cells #[.int .i64 d, .int .i64 r, .int .i64 s] 23 (0, 0)) := ⟨_, rfl⟩
  rw [← hw1] at hx hB
  have HX := Lib.hid hx
  have HB := Lib.hid hB
  have HL := Lib.hid hl
  have HW := Lib.hid hw1
  clear hx hB hl hw1
  go_enter Try.func6, Try.ntmps6
  go_wp2_with (fail)
  rw [← HW.out]
  obtain ⟨g, hg⟩ : ∃ g, g = w.heap.size := ⟨_, rfl⟩
  rw [← hg] at HX
  have HG := Lib.hid hg
  rw [← hg]
  clear hg
  refine (alive_any w1).mono ?_
  rintro e w2 ⟨rfl, hb2⟩
  go_wp2_with (fail)
  refine (great_any a n c f w2 (HL.out.next (HB.out.trans (hb2.mono HB.out.size)))).mono ?_
  rintro e w3 ⟨gb, rfl, hgb, hb3⟩
  have h23 := hb2.trans (hb3.mono hb2.size)
  have HX3 := Lib.hid (HX.out.next h23)
  have HB3 := Lib.hid (HB.out.trans (h23.mono HB.out.size))
  have HL3 := Lib.hid (HL.out.next HB3.out)
  clear h23 hb2 hb3 HX HB
  cases gb with
  | true =>
    go_wp2_with (fail)
    go_ret
    exact ⟨rfl, HB3.out⟩
  | false =>
    have hn := hgb rfl
    clear hgb
    have c0 := HX3.out.c0
    have c1 := HX3.out.c1
    have c2 := HX3.out.c2
    go_wp2_with (fail)
    refine (pmr_any d r s a n c f w3 HL3.out (by omega)).mono ?_
    rintro e w4 ⟨rfl, hb4⟩
    have HX4 := Lib.hid (HX3.out.next hb4)
    have HB4 := Lib.hid (HB3.out.trans (hb4.mono HB3.out.size))
    have HL4 := Lib.hid (HL.out.next HB4.out)
    clear hb4 HX3 HB3 HL3 c0 c1 c2
    have c0 := HX4.out.c0
    have c1 := HX4.out.c1
    have c2 := HX4.out.c2
    cases hr : mrO d r s (lnL f n) with
    | false =>
      go_wp2_with (fail)
      go_ret
      exact ⟨rfl, HB4.out⟩
    | true =>
      by_cases hp0 : p < 0
      · go_wp2_with (fail)
        go_ret
        exact ⟨rfl, HB4.out⟩
      have HR := Lib.hid hr
      clear hr
      have hrt := (mr_few HR.out).1
      have hbd := adN_bd hrt
      have hfew := (mr_few HR.out).2.2
      have hnl : needN (ndF' f) n ≤ 1656 * n := need_le fun i hi => hfew i hi
      have hcn := cnt_is HR.out
      obtain ⟨C, hC⟩ : ∃ C : Nat, C = n + 3 + needN (ndF' f) n := ⟨_, rfl⟩
      rw [← hC] at hcn
      have HC := Lib.hid hC
      have HCN := Lib.hid hcn
      have HRT := Lib.hid hrt
      have HBD := Lib.hid hbd
      have hC6 : C ≤ 200000 := by omega
      clear hfew hnl hrt hbd hC hcn
      go_wp2_with (fail)
      refine (pcount_any d r s a n c f w4 HL4.out (by omega)).mono ?_
      rintro e w5 ⟨rfl, hb5⟩
      rw [HCN.out]
      have HX5 := Lib.hid (HX4.out.next hb5)
      have HB5 := Lib.hid (HB4.out.trans (hb5.mono HB4.out.size))
      have HL5 := Lib.hid (HL.out.next HB5.out)
      clear hb5 HX4 HB4 HL4 c0 c1 c2
      have c0 := HX5.out.c0
      have c1 := HX5.out.c1
      have c2 := HX5.out.c2
      obtain ⟨N, hNe⟩ : ∃ N, N = adN d r s := ⟨_, rfl⟩
      have hm : IntKind.i64.wrap (s * PL d r) = N := by rw [hNe]; exact IntWalk.i64_in _ (by have := HBD.out; unfold adN at this; omega)
      have HNE := Lib.hid hNe
      have HM := Lib.hid hm
      have HNB : Hid (12 ≤ N ∧ N ≤ 3776) := Lib.hid (by rw [hNe]; exact HBD.out)
      clear hNe hm
      go_upto_region 6 with fail
      refine wp_region_held_drew (S := (fun w' => w'.cell? ⟨g, 0, none⟩ = some (.int .i64 d) ∧ w'.cell? ⟨g, 1, none⟩ = some (.int .i64 r) ∧ w'.cell? ⟨g, 2, none⟩ = some (.int .i64 s))) (by kernel_rfl) ?_ (fun hHeld => ?_)
      · exact ⟨c0, c1, c2⟩
      refine wpAnyH_take (i := 0) (v := ?_) rfl (by kernel_rfl) (by kernel_rfl) (by kernel_rfl) (fun _ _ _ h => h) (Or.inl ⟨by rfl, fun w hSw => ?_⟩) (by assumption) ?_
      rotate_left
      · (try dsimp only at hSw); go_simp; try with_reducible rfl
      simp only [Act.put, List.setIfInBounds_toArray, List.set_cons_zero, List.set_cons_succ, List.getElem_toArray, List.getElem_cons_zero]
      refine wpAnyH_take (i := 1) (v := ?_) rfl (by kernel_rfl) (by kernel_rfl) (by kernel_rfl) (fun _ _ _ h => h) (Or.inl ⟨by rfl, fun w hSw => ?_⟩) (by assumption) ?_
      rotate_left
      · (try dsimp only at hSw); go_simp; try with_reducible rfl
      simp only [Act.put, List.setIfInBounds_toArray, List.set_cons_zero, List.set_cons_succ, List.getElem_toArray, List.getElem_cons_succ, List.getElem_cons_zero]
      refine wpAnyH_take (i := 2) (v := ?_) rfl (by kernel_rfl) (by kernel_rfl) (by kernel_rfl) (fun _ _ _ h => h) (Or.inl ⟨by rfl, fun w hSw => ?_⟩) (by assumption) ?_
      rotate_left
      · (try dsimp only at hSw); go_simp; try with_reducible rfl
      simp only [Act.put, List.setIfInBounds_toArray, List.set_cons_zero, List.set_cons_succ, List.getElem_toArray, List.getElem_cons_succ, List.getElem_cons_zero]
      refine wpAnyH_take (i := 3) (v := ?_) rfl (by kernel_rfl) (by kernel_rfl) (by kernel_rfl) (fun _ _ _ h => h) (Or.inl ⟨by rfl, fun w hSw => ?_⟩) (by assumption) ?_
      rotate_left
      · (try dsimp only at hSw); go_simp; try with_reducible rfl
      simp only [Act.put, List.setIfInBounds_toArray, List.set_cons_zero, List.set_cons_succ, List.getElem_toArray, List.getElem_cons_succ, List.getElem_cons_zero]
      refine wpAnyH_ready (rs := [4]) (by kernel_rfl) (by simp) ?_
      refine AllReadyH.cons rfl (fun K hK => ?_) AllReadyH.nil
      simp only [List.getElem_toArray, List.getElem_cons_succ, List.getElem_cons_zero]
      go_simp
      refine (places_yes d r s _ HRT.out).mono ?_
      rintro e w6 ⟨rfl, hb6⟩
      have HX6 := Lib.hid (HX5.out.drew.next hb6)
      have HB6 := Lib.hid (HB5.out.trans ((below_drewN (Below.refl _ _) 1).trans (hb6.mono (Nat.le_refl _)) |>.mono HB5.out.size))
      have w3 := HM.out
      clear hb6
      go_wp2_with (fail)
      refine hK.out _ _ ⟨HX6.out.c0, HX6.out.c1, HX6.out.c2⟩ (fun hHeld => ?_)
      clear hK K
      refine wpAnyH_take (i := 5) (v := ?_) rfl (by kernel_rfl) (by kernel_rfl) (by kernel_rfl) (fun _ _ _ h => h) (Or.inl ⟨by rfl, fun w hSw => ?_⟩) (by assumption) ?_
      rotate_left
      · (try dsimp only at hSw); go_simp; try with_reducible rfl
      simp only [Act.put, List.setIfInBounds_toArray, List.set_cons_zero, List.set_cons_succ, List.getElem_toArray, List.getElem_cons_succ, List.getElem_cons_zero]
      by_cases hCN : N < (C : Int)
      · have d0 : decide (N < (C : Int)) = true := decide_eq_true hCN
        refine wpAnyH_take (i := 6) (v := ?_) rfl (by kernel_rfl) (by kernel_rfl) (by kernel_rfl) (fun _ _ _ h => h) (Or.inl ⟨by rfl, fun w hSw => ?_⟩) (by assumption) ?_
        rotate_left
        · (try dsimp only at hSw); go_simp; try with_reducible rfl
        simp only [Act.put, List.setIfInBounds_toArray, List.set_cons_zero, List.set_cons_succ, List.getElem_toArray, List.getElem_cons_succ, List.getElem_cons_zero]
        refine wpAnyH_take (i := 7) (v := ?_) rfl (by kernel_rfl) (by kernel_rfl) (by kernel_rfl) (fun _ _ _ h => h) (Or.inl ⟨by rfl, fun w hSw => ?_⟩) (by assumption) ?_
        rotate_left
        · (try dsimp only at hSw); go_simp; try with_reducible rfl
        simp only [Act.put, List.setIfInBounds_toArray, List.set_cons_zero, List.set_cons_succ, List.getElem_toArray, List.getElem_cons_succ, List.getElem_cons_zero]
        refine wpAnyH_take (i := 8) (v := undef) rfl (by kernel_rfl) (by kernel_rfl) (by kernel_rfl) (fun _ _ _ h => h) (Or.inr ⟨by rfl, rfl⟩) (by assumption) ?_
        simp only [Act.put, List.setIfInBounds_toArray, List.set_cons_zero, List.set_cons_succ, List.getElem_toArray, List.getElem_cons_succ, List.getElem_cons_zero]
        refine wpAnyH_take (i := 9) (v := undef) rfl (by kernel_rfl) (by kernel_rfl) (by kernel_rfl) (fun _ _ _ h => h) (Or.inr ⟨by rfl, rfl⟩) (by assumption) ?_
        simp only [Act.put, List.setIfInBounds_toArray, List.set_cons_zero, List.set_cons_succ, List.getElem_toArray, List.getElem_cons_succ, List.getElem_cons_zero]
        refine wpAnyH_take (i := 10) (v := undef) rfl (by kernel_rfl) (by kernel_rfl) (by kernel_rfl) (fun _ _ _ h => h) (Or.inr ⟨by rfl, rfl⟩) (by assumption) ?_
        simp only [Act.put, List.setIfInBounds_toArray, List.set_cons_zero, List.set_cons_succ, List.getElem_toArray, List.getElem_cons_succ, List.getElem_cons_zero]
        refine wpAnyH_take (i := 11) (v := ?_) rfl (by kernel_rfl) (by kernel_rfl) (by kernel_rfl) (fun _ _ _ h => h) (Or.inl ⟨by rfl, fun w hSw => ?_⟩) (by assumption) ?_
        rotate_left
        · (try dsimp only at hSw); go_simp; try with_reducible rfl
        simp only [Act.put, List.setIfInBounds_toArray, List.set_cons_zero, List.set_cons_succ, List.getElem_toArray, List.getElem_cons_succ, List.getElem_cons_zero]
        refine wpAnyH_done (by kernel_rfl) ?_ _
        go_wp2_with (fail)
        go_ret
        exact ⟨rfl, HB6.out⟩
      have d0 : decide (N < (C : Int)) = false := decide_eq_false hCN
      refine wpAnyH_take (i := 6) (v := ?_) rfl (by kernel_rfl) (by kernel_rfl) (by kernel_rfl) (fun _ _ _ h => h) (Or.inl ⟨by rfl, fun w hSw => ?_⟩) (by assumption) ?_
      rotate_left
      · (try dsimp only at hSw); go_simp; try with_reducible rfl
      simp only [Act.put, List.setIfInBounds_toArray, List.set_cons_zero, List.set_cons_succ, List.getElem_toArray, List.getElem_cons_succ, List.getElem_cons_zero]
      refine wpAnyH_take (i := 7) (v := ?_) rfl (by kernel_rfl) (by kernel_rfl) (by kernel_rfl) (fun _ _ _ h => h) (Or.inl ⟨by rfl, fun w hSw => ?_⟩) (by assumption) ?_
      rotate_left
      · (try dsimp only at hSw); go_simp; try with_reducible rfl
      simp only [Act.put, List.setIfInBounds_toArray, List.set_cons_zero, List.set_cons_succ, List.getElem_toArray, List.getElem_cons_succ, List.getElem_cons_zero]
      refine wpAnyH_take (i := 8) (v := ?_) rfl (by kernel_rfl) (by kernel_rfl) (by kernel_rfl) (fun _ _ _ h => h) (Or.inl ⟨by rfl, fun w hSw => ?_⟩) (by assumption) ?_
      rotate_left
      · (try dsimp only at hSw); go_simp; try with_reducible rfl
      simp only [Act.put, List.setIfInBounds_toArray, List.set_cons_zero, List.set_cons_succ, List.getElem_toArray, List.getElem_cons_succ, List.getElem_cons_zero]
      refine wpAnyH_take (i := 9) (v := ?_) rfl (by kernel_rfl) (by kernel_rfl) (by kernel_rfl) (fun _ _ _ h => h) (Or.inl ⟨by rfl, fun w hSw => ?_⟩) (by assumption) ?_
      rotate_left
      · (try dsimp only at hSw); go_simp; try with_reducible rfl
      simp only [Act.put, List.setIfInBounds_toArray, List.set_cons_zero, List.set_cons_succ, List.getElem_toArray, List.getElem_cons_succ, List.getElem_cons_zero]
      refine wpAnyH_take (i := 10) (v := ?_) rfl (by kernel_rfl) (by kernel_rfl) (by kernel_rfl) (fun _ _ _ h => h) (Or.inl ⟨by rfl, fun w hSw => ?_⟩) (by assumption) ?_
      rotate_left
      · (try dsimp only at hSw); go_simp; try with_reducible rfl
      simp only [Act.put, List.setIfInBounds_toArray, List.set_cons_zero, List.set_cons_succ, List.getElem_toArray, List.getElem_cons_succ, List.getElem_cons_zero]
      refine wpAnyH_take (i := 11) (v := ?_) rfl (by kernel_rfl) (by kernel_rfl) (by kernel_rfl) (fun _ _ _ h => h) (Or.inl ⟨by rfl, fun w hSw => ?_⟩) (by assumption) ?_
      rotate_left
      · (try dsimp only at hSw); go_simp; try with_reducible rfl
      simp only [Act.put, List.setIfInBounds_toArray, List.set_cons_zero, List.set_cons_succ, List.getElem_toArray, List.getElem_cons_succ, List.getElem_cons_zero]
      refine wpAnyH_done (by kernel_rfl) ?_ _
      have HL6 := Lib.hid (HL.out.next HB6.out)
      clear HX5 HB5 HL5 c0 c1 c2 w3 hHeld d0
      by_cases hpC : (C : Int) ≤ p
      · go_wp2_with (fail)
        go_ret
        exact ⟨rfl, HB6.out⟩
      obtain ⟨lost, rfl⟩ : ∃ lost : Nat, p = (lost : Int) := ⟨p.toNat, by omega⟩
      have hlostC : lost < C := by omega
      obtain ⟨fa, hfa⟩ : ∃ fa : Nat → Int, fa = fun i : Nat => (i : Int) + 1 := ⟨_, rfl⟩
      have HFA := Lib.hid hfa
      clear hfa hpC
      have HO1 := Lib.hid ((ownI_none w6 w6.heap.size (Nat.le_refl _)).alloc (.cells #[.slice none 0 0, .slice none 0 0] 43))
      have HR1 : Hid (((w6.alloc (.cells #[] 3)).alloc (.cells #[.slice none 0 0, .slice none 0 0] 43)).heap[w6.heap.size + 1]? = some (.cells #[.slice none 0 0, .slice none 0 0] 43 (0, 0))) := Lib.hid (by
        have := heap_alloc_new (w6.alloc (.cells #[] 3)) (.cells #[.slice none 0 0, .slice none 0 0] 43)
        rw [show (w6.alloc (.cells #[] 3)).heap.size = w6.heap.size + 1 from by simp] at this
        exact this)
      have HBS := Lib.hid (((Below.refl w6.heap.size w6).alloc (Nat.le_refl _) (.cells #[] 3)).alloc (by simp) (.cells #[.slice none 0 0, .slice none 0 0] 43))
      go_wp2_with (fail)
      go_loopw [8, 10] (fun v8 v wr => ∃ i : Nat, i ≤ C ∧ v = .int .i64 i ∧ OwnI wr w6.heap.size v8 i (sq fa i) ∧ v8.ownBlock ≠ some (w6.heap.size + 1) ∧ wr.heap[w6.heap.size + 1]? = some (.cells #[.slice none 0 0, .slice none 0 0] 43 (0, 0)) ∧ Below w6.heap.size w6 wr) (fun _ v _ => C - (RowKit.intOf v).toNat)
      case atStart => exact ⟨0, by omega, rfl, HO1.out, (by simp [Value.ownBlock]), HR1.out, HBS.out⟩
      case round =>
        obtain ⟨i, hi, rfl, ho1, hne, hrow, hbr⟩ := hrel
        have HO1 := Lib.hid ho1
        have HNE2 := Lib.hid hne
        have HROW := Lib.hid hrow
        have HBR := Lib.hid hbr
        clear ho1 hne hbr hrow
        by_cases hlt : i < C
        · have HSA : Hid (sq fa (i + 1) = sq fa i ++ [(i : Int) + 1]) := Lib.hid (by rw [sq_succ, HFA.out])
          go_wp2_with (at_builtin; go_must (refine wpList_apG rfl (.tmp 54) (.tmp 57) rfl w6.heap.size u8 i (sq fa i) rfl (HO1.out.alloc _) wr.heap.size ((i : Int) + 1) rfl (by simp) (by omega) (by have := HBR.out.size; simp; omega) w6 (HBR.out.alloc HBR.out.size _) ?_; intro v1 w7 ho1 hg1 hne1 hb1; have HP1 := Lib.hid ho1; have HP2 := Lib.hid hg1; have HP3 := Lib.hid hne1; have HP4 := Lib.hid hb1; clear ho1 hg1 hne1 hb1))
          go_roundw
          case rel =>
            have hgl := lt_of_block HROW.out
            refine ⟨i + 1, by omega, by go_num, by rw [HSA.out]; exact HP1.out, fun e => ?_, ?_, HP4.out⟩
            · rcases HP3.out _ e with e2 | e2
              · exact HNE2.out e2
              · simp at e2; omega
            · rw [HP2.out.block _ (by simp; omega) fun e => HNE2.out e.symm]
              exact (((Below.refl wr.heap.size wr).alloc (Nat.le_refl _) _).block _ hgl).trans HROW.out
          case measure => simp [RowKit.intOf]; omega
        · obtain rfl : i = C := by omega
          obtain ⟨a1, k1, rfl, hi1, _, _, hlo1⟩ := HO1.out.ins
          have HI1 := Lib.hid hi1
          have hx7 := HX6.out.next HBR.out
          have c0 := hx7.c0
          have c1 := hx7.c1
          have c2 := hx7.c2
          have HX7 := Lib.hid hx7
          have HB7 := Lib.hid (HB6.out.trans (HBR.out.mono HB6.out.size))
          have HL7 := Lib.hid (HL.out.next HB7.out)
          have hfab : ∀ j, j < i → 1 ≤ fa j ∧ fa j ≤ N := by
            intro j hj
            rw [HFA.out]
            simp only
            omega
          have hbo : bldO d r s f n (sq fa i) = true := by
            rw [bldO, HR.out, sq_len, HCN.out, decide_eq_true rfl, adO_yes HRT.out, ← HNE.out, sq_any fa fun j hj => hfab j hj]
            rfl
          have HBA := Lib.hid hbo
          have hlb : ∀ at' : Nat → Int, i = off at' (ndF' f) n + 3 := by
            intro at'
            rw [off_need fun j hj => (mr_few HR.out).2.2 j hj, HC.out]
            omega
          have HLB := Lib.hid hlb
          have HFAB := Lib.hid hfab
          clear hi1 hx7 hfab hbo hlb HO1
          go_wp2_with (fail)
          refine (pbuild_any d r s a a1 n c i k1 f (sq fa i) wr HL7.out (by omega) HI1.out (by omega)).mono ?_
          rintro e w9 ⟨hb9, hv⟩
          rw [HBA.out, if_pos rfl] at hv
          obtain ⟨ao, co, gs, rfl, hbls, hgs⟩ := hv
          have hgl : gs.length = i := by
            have := congrArg List.length hgs
            rw [List.length_map, layB_len, ← HLB.out] at this
            exact this
          have HG1 := Lib.hid hgs
          have HGL1 := Lib.hid hgl
          have HBL1 := Lib.hid hbls
          rw [hgl]
          have HX9 := Lib.hid (HX7.out.next hb9)
          have HI9 := Lib.hid (HI1.out.next hb9)
          have HB9 := Lib.hid (HB7.out.trans (hb9.mono HB7.out.size))
          have HL9 := Lib.hid (HL.out.next HB9.out)
          have HROW9 := Lib.hid ((hb9.block _ (lt_of_block HROW.out)).trans HROW.out)
          clear hb9 hgs hgl hbls c0 c1 c2 HX7 HB7 HL7 hlo1
          have hzn : ∀ x, x ∈ gs → x.n = 56 := by
            intro x hx
            obtain ⟨j, hj, rfl⟩ := List.getElem_of_mem hx
            rcases HBL1.out with h0 | ⟨b, off, e, hlt2, hc⟩
            · omega
            have h1 := (hc j hj).pin.len
            have h2 : gs[j].bk ∈ layB (num (sq fa i)) (ndF' f) n := by rw [← HG1.out]; exact List.mem_map.2 ⟨_, hx, rfl⟩
            have h3 : gs[j].z.length = 56 := layB_z _ _ _ _ h2
            omega
          obtain ⟨B2, hB2⟩ : ∃ B2, B2 = w9.heap.size := ⟨_, rfl⟩
          obtain ⟨gS, hgS⟩ : ∃ gS, gS = w6.heap.size + 1 := ⟨_, rfl⟩
          have hfar := bls_far (g := gS) HBL1.out (by rw [hgS]; exact HROW9.out) (fun x hx => by rw [hzn x hx]; decide)
          rcases hfar with h0 | ⟨bb, bo, rfl, hbb, hbg, hbc⟩
          · have := HGL1.out
            have := HLB.out (num [])
            omega
          have HZN := Lib.hid hzn
          have HBC := Lib.hid hbc
          have HBB := Lib.hid (And.intro hbb hbg)
          have hst : StH w9 B2 gS (.slice none 0 0) (.slice none 0 0) ((ixB lost 0).map fa) ((ixB lost 0).map fun j => blP (gs.getD j default)) :=
            ⟨by rw [hgS]; exact HROW9.out, ownI_nil _ _, World.ownsRow_nil _ _ _ _, by simp [Value.ownBlock], by simp [Value.ownBlock], by simp [Value.ownBlock]⟩
          have HST := Lib.hid hst
          have HB2 := Lib.hid hB2
          have HGS := Lib.hid hgS
          rcases HI9.out.at (show 0 < i by have := HLB.out (num []); omega) with ⟨ba, oa, rfl, hba, hca⟩
          have HCA := Lib.hid hca
          have hbag : ba ≠ gS := by
            intro e
            apply HNE2.out
            rw [← hgS, ← e]
            simp [Value.ownBlock]
          have HBA2 := Lib.hid (And.intro hba hbag)
          clear hzn hst hbb hbg hbc hca hba hbag
          go_wp2_with (fail)
          rw [← hgS]
          clear hgS
          go_loopw [13] (fun v wk => ∃ k : Nat, k ≤ i ∧ v = .int .i64 k ∧ (∃ vA vD, StH wk B2 gS vA vD ((ixB lost k).map fa) ((ixB lost k).map fun j => blP (gs.getD j default))) ∧ Turn (Tg2 gS B2) w9 wk) (fun v _ => i - (RowKit.intOf v).toNat)
          case atStart => exact ⟨0, by omega, rfl, ⟨_, _, HST.out⟩, Turn.refl _ _⟩
          case round =>
            obtain ⟨k, hk, rfl, ⟨vA, vD, hst⟩, hbk⟩ := hrel
            have HS := Lib.hid hst
            have HT := Lib.hid hbk
            clear hst hbk
            by_cases hkl : k < i
            · by_cases hkx : k = lost
              · subst hkx
                go_wp2_with (fail)
                go_roundw
                case rel => exact ⟨k + 1, by omega, by go_num, ⟨vA, vD, by rw [ixB_succ, if_pos rfl]; exact HS.out⟩, HT.out⟩
                case measure => simp [RowKit.intOf]; omega
              · have hB2k : B2 ≤ wr.heap.size := by rw [HB2.out]; exact HT.out.size
                obtain ⟨l1, c0, c1, f0, f1⟩ := HS.out.cells
                obtain ⟨i0, hi0, hz0, hz1, hz2⟩ := info_parts info3
                obtain ⟨z, hz⟩ : ∃ z, z = fa k := ⟨_, rfl⟩
                have x5 : wr.cell? ⟨ba, oa + k, none⟩ = some (.int .i64 z) := by
                  rw [HT.out.cell (a := ⟨ba, oa + k, none⟩) HBA2.out.1 (by rintro (e | e); exact HBA2.out.2 e; have := HBA2.out.1; rw [HB2.out] at e; simp only at e; omega), HCA.out k hkl, sq_num fa hkl, hz]
                have HZ := Lib.hid hz
                obtain ⟨m, hm⟩ : ∃ m, m = (ixB lost k).length := ⟨_, rfl⟩
                have hmk : m ≤ k := by rw [hm]; exact ixB_len lost k
                have hlenA : ((ixB lost k).map fa).length = m := by rw [List.length_map, hm]
                have hlenD : ((ixB lost k).map fun j => blP (gs.getD j default)).length = m := by rw [List.length_map, hm]
                have HO := Lib.hid HS.out.oa
                rw [hlenA] at HO
                have HLA := Lib.hid hlenA
                have HLD := Lib.hid hlenD
                have HBK := Lib.hid hB2k
                have k1 : (k : Int) < (i : Int) := by omega
                have k0 : (0 : Int) ≤ (k : Int) := by omega
                clear hz hm hlenA hlenD hB2k
                go_wp2_with (fail)
                go_upto_region 21 with fail
                go_region_law (refine step_append_lies _ rfl (.tmp 80) (.tmp 85) 25 rfl B2 3 i0 (.int .i64 0) 1 8 Try.underlying25 hi0 hz0 hz1 hz2 rfl (by decide) vA m _ (by simp [Act.eval, Act.put]) (by exact own1 HO.out) ⟨wr.heap.size, 0, none⟩ 1 1 [.int .i64 z] (by simp [Act.eval, Act.put]) rfl (by exact new1 wr _ _) (by simp; rfl) (by decide) (by unfold maxLen; omega) (by omega) (by have := HBK.out; simp [World.drew]; omega) (wr.heap.size + 1) (by simp [World.drew]) ?_; intro g1 cap1 w12 ho8 hg8 ha8 hl8; have HG8 := Lib.hid hg8; have HO8 := Lib.hid ho8; have HA8 := Lib.hid ha8; obtain ⟨m1, m2, m3, m4, m5⟩ := HS.out.far (bl1 wr _) hg8 HS.out.na; clear hg8 ho8 ha8)
                all_goals (
                  obtain ⟨hS9, hT9⟩ := HS.out.putA HT.out HBK.out (bl1 wr _) HLA.out HO8.out HG8.out HA8.out (by simp [World.drew])
                  obtain ⟨w13, hw13⟩ : ∃ w13, w13 = w12.setCell ⟨gS, 0, none⟩ (.slice (some ⟨g1, 0, none⟩) (m + 1) cap1) := ⟨_, rfl⟩
                  rw [← hw13] at hS9 hT9 ⊢
                  have HS9 := Lib.hid hS9
                  have HT9 := Lib.hid hT9
                  have hsz9 : B2 ≤ w13.heap.size := by rw [HB2.out]; exact hT9.size
                  have HSZ := Lib.hid hsz9
                  clear hw13 hS9 hT9 HO8 HG8 HA8 HO m1 m2 m3 m4 m5 hl8 c0 c1 f0 f1 x5 hsz9
                  obtain ⟨l1, c0, c1, f0, f1⟩ := HS9.out.cells
                  have hgi : k < gs.length := by rw [HGL1.out]; exact hkl
                  obtain ⟨x, hxe⟩ : ∃ x, x = gs[k] := ⟨_, rfl⟩
                  obtain ⟨hbl, hbp⟩ := HBC.out k hgi
                  have hbx := bls_turn HT9.out HBB.out.1 (by rintro (e | e); exact HBB.out.2 e; have := HBB.out.1; rw [HB2.out] at e; omega) hbl (fun y ey => by
                    obtain ⟨h1, h2⟩ := hbp y ey
                    rintro (e | e)
                    · exact h1 e
                    · rw [HB2.out] at e; omega)
                  have c2 := hbx.c2
                  have HGX := Lib.hid (show gs.getD k default = gs[k] by simp [List.getD, hgi])
                  rw [← hxe] at c2 HGX
                  have HXE := Lib.hid hxe
                  have HD := Lib.hid HS9.out.od
                  rw [HLD.out] at HD
                  obtain ⟨i1, hi1, hy0, hy1, hy2⟩ := info_parts infoS
                  clear hbl hbp hbx hxe
                  go_upto_region 22 with fail
                  go_region_law (refine step_append_lies _ rfl (.tmp 93) (.tmp 99) 39 rfl B2 50 i1 (.slice none 0 0) 1 24 Try.underlying39 hi1 hy0 hy1 hy2 rfl (by decide) vD m _ (by simp [Act.eval, Act.put]) (by exact own1 HD.out) ⟨w13.heap.size, 0, none⟩ 1 1 [.slice x.a x.n x.c] (by simp [Act.eval, Act.put]) rfl (by exact new1 w13 _ _) (by simp; rfl) (by decide) (by unfold maxLen; omega) (by omega) (by have := HSZ.out; simp [World.drew]; omega) (w13.heap.size + 1) (by simp [World.drew]) ?_; intro g2 cap2 w14 ho8 hg8 ha8 hl8; have HG8 := Lib.hid hg8; have HO8 := Lib.hid ho8; have HA8 := Lib.hid ha8; obtain ⟨m1, m2, m3, m4, m5⟩ := HS9.out.far (bl1 w13 _) hg8 HS9.out.nd; clear hg8 ho8 ha8)
                  all_goals (
                    obtain ⟨hS9, hT9⟩ := HS9.out.putD HT9.out HSZ.out (bl1 w13 _) (p := blP x) HLD.out HO8.out HG8.out HA8.out (by simp [World.drew])
                    have htd : ((ixB lost (k + 1)).map fun j => blP (gs.getD j default)) = ((ixB lost k).map fun j => blP (gs.getD j default)) ++ [blP x] := by
                      rw [ixB_succ, if_neg hkx, List.map_append, List.map_cons, List.map_nil, HGX.out]
                    have hta : (ixB lost (k + 1)).map fa = (ixB lost k).map fa ++ [z] := by
                      rw [ixB_succ, if_neg hkx, List.map_append, List.map_cons, List.map_nil, HZ.out]
                    rw [← hta, ← htd] at hS9
                    have HS10 := Lib.hid hS9
                    have HT10 := Lib.hid hT9
                    clear hS9 hT9 HO8 HG8 HA8 m1 m2 m3 m4 m5 hl8 c0 c1 c2 f0 f1 hta htd
                    go_wp2_with (fail)
                    go_roundw
                    case rel => exact ⟨k + 1, by omega, by go_num, ⟨_, _, HS10.out⟩, HT10.out⟩
                    case measure => simp [RowKit.intOf]; omega))
            · obtain rfl : k = i := by omega
              have hx9 : Bx wr g d r s := by
                have hg1 : g < w9.heap.size := HX9.out.lt
                have hgn : g ≠ gS := by
                  have h1 := HX6.out.lt
                  rw [HGS.out]; omega
                have hk9 : ∀ o, wr.cell? ⟨g, o, none⟩ = w9.cell? ⟨g, o, none⟩ := fun o => HT.out.cell (a := ⟨g, o, none⟩) hg1 (by
                  rintro (e | e)
                  · exact hgn e
                  · rw [HB2.out] at e; simp only at e; omega)
                exact ⟨Nat.lt_of_lt_of_le hg1 HT.out.size, (hk9 0).trans HX9.out.c0, (hk9 1).trans HX9.out.c1, (hk9 2).trans HX9.out.c2⟩
              have c0 := hx9.c0
              have c1 := hx9.c1
              have c2 := hx9.c2
              have hk3 : 3 ≤ k := by have := HLB.out (num []); omega
              have x5 : wr.cell? ⟨ba, oa + (k - 1), none⟩ = some (.int .i64 (k : Int)) := by
                rw [HT.out.cell (a := ⟨ba, oa + (k - 1), none⟩) HBA2.out.1 (by rintro (e | e); exact HBA2.out.2 e; have := HBA2.out.1; rw [HB2.out] at e; simp only at e; omega), HCA.out (k - 1) (by omega), sq_num fa (by omega), HFA.out]
                congr 2
                simp only
                omega
              -- what lies there
              have hpin : ∀ p, p ∈ ((ixB lost k).map fun j => blP (gs.getD j default)) → Pin wr p.a p.n p.c p.zs ∧ p.n ≤ 1000000000000 := by
                intro p hp
                obtain ⟨j, hj, rfl⟩ := List.mem_map.1 hp
                have hjk := (ixB_mem.1 hj).1
                have hjg : j < gs.length := by rw [HGL1.out]; exact hjk
                obtain ⟨hbl, hbp⟩ := HBC.out j hjg
                have hbx := bls_turn HT.out HBB.out.1 (by rintro (e | e); exact HBB.out.2 e; have := HBB.out.1; rw [HB2.out] at e; omega) hbl (fun y ey => by
                  obtain ⟨h1, h2⟩ := hbp y ey
                  rintro (e | e)
                  · exact h1 e
                  · rw [HB2.out] at e; omega)
                rw [show gs.getD j default = gs[j] by simp [List.getD, hjg]]
                refine ⟨hbx.pin, ?_⟩
                show gs[j].n ≤ 1000000000000
                rw [HZN.out _ (List.getElem_mem hjg)]
                decide
              obtain ⟨A, cA, Dt, cD, hsto⟩ := HS.out.sto hpin (by rw [List.length_map, List.length_map]) (by rw [List.length_map]; have := ixB_len lost k; omega)
              have hat : ∀ j, j < k → num (sq fa k) j = fa j := fun j hj => sq_num fa hj
              have hrun : ldR (adO d r s) (blkF ((ixB lost k).map fa) (fun i => ((ixB lost k).map fun j => blP (gs.getD j default)).getD i default)) (k : Int) = .error 14 := by
                have hinj : ∀ a, a ∈ ixB lost k → ∀ b, b ∈ ixB lost k → fa a = fa b → a = b := by
                  intro a ha b hb e
                  rw [HFA.out] at e
                  simp only at e
                  omega
                have hko : off (num (sq fa k)) (ndF' f) n + 3 = k := (HLB.out _).symm
                have hroot : (k : Int) = num (sq fa k) (off (num (sq fa k)) (ndF' f) n + 2) := by
                  have hfx : ∀ x : Nat, fa x = (x : Int) + 1 := fun x => by rw [HFA.out]
                  rw [hat _ (by omega), hfx]
                  omega
                rw [hroot, adO_yes HRT.out]
                refine load_lost (at' := num (sq fa k)) (f := ndF' f) (K := n) (N := adN d r s) (j := lost) (blk := fun q => if q = fa lost then some (gs.getD lost default).z else blkF ((ixB lost k).map fa) (fun i => ((ixB lost k).map fun j => blP (gs.getD j default)).getD i default) q) (mr_few HR.out).2.1 (by have := HBD.out; omega) ⟨?_, ?_⟩ (by omega) ?_ ?_
                · intro j x hx
                  have hjk : j < k := by
                    have := (List.getElem?_eq_some_iff.1 hx).1
                    rw [layB_len] at this
                    omega
                  have hjg : j < gs.length := by rw [HGL1.out]; exact hjk
                  rw [← HG1.out, List.getElem?_map, List.getElem?_eq_getElem hjg] at hx
                  simp only [Option.map_some, Option.some.injEq] at hx
                  rw [hat j hjk]
                  by_cases e : j = lost
                  · subst e
                    rw [if_pos rfl, show gs.getD j default = gs[j] by simp [List.getD, hjg], ← hx]
                    rfl
                  · rw [if_neg (by rw [HFA.out]; simp only; omega), blk_ix hinj (ixB_mem.2 ⟨hjk, e⟩), show gs.getD j default = gs[j] by simp [List.getD, hjg], ← hx]
                    rfl
                · intro j hj
                  rw [hat j (by omega), ← HNE.out]
                  exact HFAB.out j (by omega)
                · intro q hq
                  rw [hat _ hlostC] at hq
                  rw [if_neg hq]
                · rw [hat _ hlostC]
                  refine blk_ixno fun a ha e => ?_
                  have := (ixB_mem.1 ha).2
                  rw [HFA.out] at e
                  simp only at e
                  omega
              have HSTO := Lib.hid hsto
              have HRUN := Lib.hid hrun
              have k2 : (k : Int) - 1 = ((k - 1 : Nat) : Int) := by omega
              have k3 : ((k - 1 : Nat) : Int) < (k : Int) := by omega
              obtain ⟨m, hm⟩ : ∃ m : Nat, m = k - 1 := ⟨_, rfl⟩
              rw [← hm] at x5 k2 k3
              have k4 : (0 : Int) ≤ (m : Int) := by omega
              have hwm : IntKind.i64.wrap (m : Int) = (m : Int) := IntWalk.i64_in _ (by omega)
              have hgl9 := hx9.lt
              clear hpin hat hrun hsto hx9 hm
              go_wp2_with (fail)
              go_upto_region 23 with fail
              refine wp_region_held_drew (S := (fun w' => w'.cell? ⟨g, 0, none⟩ = some (.int .i64 d) ∧ w'.cell? ⟨g, 1, none⟩ = some (.int .i64 r) ∧ w'.cell? ⟨g, 2, none⟩ = some (.int .i64 s) ∧ w'.cell? ⟨ba, oa + m, none⟩ = some (.int .i64 (k : Int)))) (by kernel_rfl) ?_ (fun hHeld => ?_)
              · exact ⟨c0, c1, c2, x5⟩
              refine wpAnyH_take (i := 0) (v := ?_) rfl (by kernel_rfl) (by kernel_rfl) (by kernel_rfl) (fun _ _ _ h => h) (Or.inl ⟨by rfl, fun w hSw => ?_⟩) (by assumption) ?_
              rotate_left
              · (try dsimp only at hSw); go_simp; try with_reducible rfl
              simp only [Act.put, List.setIfInBounds_toArray, List.set_cons_zero, List.set_cons_succ, List.getElem_toArray, List.getElem_cons_zero]
              refine wpAnyH_take (i := 1) (v := ?_) rfl (by kernel_rfl) (by kernel_rfl) (by kernel_rfl) (fun _ _ _ h => h) (Or.inl ⟨by rfl, fun w hSw => ?_⟩) (by assumption) ?_
              rotate_left
              · (try dsimp only at hSw); go_simp; try with_reducible rfl
              simp only [Act.put, List.setIfInBounds_toArray, List.set_cons_zero, List.set_cons_succ, List.getElem_toArray, List.getElem_cons_succ, List.getElem_cons_zero]
              refine wpAnyH_take (i := 2) (v := ?_) rfl (by kernel_rfl) (by kernel_rfl) (by kernel_rfl) (fun _ _ _ h => h) (Or.inl ⟨by rfl, fun w hSw => ?_⟩) (by assumption) ?_
              rotate_left
              · (try dsimp only at hSw); go_simp; try with_reducible rfl
              simp only [Act.put, List.setIfInBounds_toArray, List.set_cons_zero, List.set_cons_succ, List.getElem_toArray, List.getElem_cons_succ, List.getElem_cons_zero]
              refine wpAnyH_take (i := 3) (v := ?_) rfl (by kernel_rfl) (by kernel_rfl) (by kernel_rfl) (fun _ _ _ h => h) (Or.inl ⟨by rfl, fun w hSw => ?_⟩) (by assumption) ?_
              rotate_left
              · (try dsimp only at hSw); go_simp; try with_reducible rfl
              simp only [Act.put, List.setIfInBounds_toArray, List.set_cons_zero, List.set_cons_succ, List.getElem_toArray, List.getElem_cons_succ, List.getElem_cons_zero]
              refine wpAnyH_take (i := 4) (v := ?_) rfl (by kernel_rfl) (by kernel_rfl) (by kernel_rfl) (fun _ _ _ h => h) (Or.inl ⟨by rfl, fun w hSw => ?_⟩) (by assumption) ?_
              rotate_left
              · (try dsimp only at hSw); go_simp; try with_reducible rfl
              simp only [Act.put, List.setIfInBounds_toArray, List.set_cons_zero, List.set_cons_succ, List.getElem_toArray, List.getElem_cons_succ, List.getElem_cons_zero]
              refine wpAnyH_take (i := 5) (v := ?_) rfl (by kernel_rfl) (by kernel_rfl) (by kernel_rfl) (fun _ _ _ h => h) (Or.inl ⟨by rfl, fun w hSw => ?_⟩) (by assumption) ?_
              rotate_left
              · (try dsimp only at hSw); go_simp; try with_reducible rfl
              simp only [Act.put, List.setIfInBounds_toArray, List.set_cons_zero, List.set_cons_succ, List.getElem_toArray, List.getElem_cons_succ, List.getElem_cons_zero]
              refine wpAnyH_take (i := 6) (v := ?_) rfl (by kernel_rfl) (by kernel_rfl) (by kernel_rfl) (fun _ _ _ h => h) (Or.inl ⟨by rfl, fun w hSw => ?_⟩) (by assumption) ?_
              rotate_left
              · (try dsimp only at hSw); go_simp; try with_reducible rfl
              simp only [Act.put, List.setIfInBounds_toArray, List.set_cons_zero, List.set_cons_succ, List.getElem_toArray, List.getElem_cons_succ, List.getElem_cons_zero]
              refine wpAnyH_take (i := 7) (v := ?_) rfl (by kernel_rfl) (by kernel_rfl) (by kernel_rfl) (fun _ _ _ h => h) (Or.inl ⟨by rfl, fun w hSw => ?_⟩) (by assumption) ?_
              rotate_left
              · (try dsimp only at hSw); go_simp; try with_reducible rfl
              simp only [Act.put, List.setIfInBounds_toArray, List.set_cons_zero, List.set_cons_succ, List.getElem_toArray, List.getElem_cons_succ, List.getElem_cons_zero]
              refine wpAnyH_ready (rs := [8]) (by kernel_rfl) (by simp) ?_
              refine AllReadyH.cons rfl (fun K hK => ?_) AllReadyH.nil
              simp only [List.getElem_toArray, List.getElem_cons_succ, List.getElem_cons_zero]
              go_simp
              refine (pload_any d r s gS A _ cA Dt _ cD _ _ (k : Int) _ (HSTO.out.next (below_drewN (Below.refl _ _) 1))).mono ?_
              rintro e w15 ⟨hb15, hv⟩
              rw [HRUN.out] at hv
              subst hv
              have HB15 := Lib.hid hb15
              have hy := Bx.next (w := wr.drew) (w' := w15) (b := g) (d := d) (r := r) (s := s) ⟨hgl9, c0, c1, c2⟩ hb15
              have x6 : w15.cell? ⟨ba, oa + m, none⟩ = some (.int .i64 (k : Int)) := (hb15.cell (p := ⟨ba, oa + m, none⟩) (Nat.lt_of_lt_of_le HBA2.out.1 HT.out.size)).trans x5
              have HY := Lib.hid hy
              clear hb15 hy c0 c1 c2 x5
              go_wp2_with (fail)
              refine hK.out _ _ ⟨HY.out.c0, HY.out.c1, HY.out.c2, x6⟩ (fun hHeld => ?_)
              clear hK K
              refine wpAnyH_take (i := 9) (v := ?_) rfl (by kernel_rfl) (by kernel_rfl) (by kernel_rfl) (fun _ _ _ h => h) (Or.inl ⟨by rfl, fun w hSw => ?_⟩) (by assumption) ?_
              rotate_left
              · (try dsimp only at hSw); go_simp; try with_reducible rfl
              simp only [Act.put, List.setIfInBounds_toArray, List.set_cons_zero, List.set_cons_succ, List.getElem_toArray, List.getElem_cons_succ, List.getElem_cons_zero]
              refine wpAnyH_take (i := 10) (v := ?_) rfl (by kernel_rfl) (by kernel_rfl) (by kernel_rfl) (fun _ _ _ h => h) (Or.inl ⟨by rfl, fun w hSw => ?_⟩) (by assumption) ?_
              rotate_left
              · (try dsimp only at hSw); go_simp; try with_reducible rfl
              simp only [Act.put, List.setIfInBounds_toArray, List.set_cons_zero, List.set_cons_succ, List.getElem_toArray, List.getElem_cons_succ, List.getElem_cons_zero]
              refine wpAnyH_take (i := 11) (v := ?_) rfl (by kernel_rfl) (by kernel_rfl) (by kernel_rfl) (fun _ _ _ h => h) (Or.inl ⟨by rfl, fun w hSw => ?_⟩) (by assumption) ?_
              rotate_left
              · (try dsimp only at hSw); go_simp; try with_reducible rfl
              simp only [Act.put, List.setIfInBounds_toArray, List.set_cons_zero, List.set_cons_succ, List.getElem_toArray, List.getElem_cons_succ, List.getElem_cons_zero]
              refine wpAnyH_take (i := 12) (v := ?_) rfl (by kernel_rfl) (by kernel_rfl) (by kernel_rfl) (fun _ _ _ h => h) (Or.inl ⟨by rfl, fun w hSw => ?_⟩) (by assumption) ?_
              rotate_left
              · (try dsimp only at hSw); go_simp; try with_reducible rfl
              simp only [Act.put, List.setIfInBounds_toArray, List.set_cons_zero, List.set_cons_succ, List.getElem_toArray, List.getElem_cons_succ, List.getElem_cons_zero]
              refine wpAnyH_take (i := 13) (v := ?_) rfl (by kernel_rfl) (by kernel_rfl) (by kernel_rfl) (fun _ _ _ h => h) (Or.inl ⟨by rfl, fun w hSw => ?_⟩) (by assumption) ?_
              rotate_left
              · (try dsimp only at hSw); go_simp; try with_reducible rfl
              simp only [Act.put, List.setIfInBounds_toArray, List.set_cons_zero, List.set_cons_succ, List.getElem_toArray, List.getElem_cons_succ, List.getElem_cons_zero]
              refine wpAnyH_take (i := 14) (v := ?_) rfl (by kernel_rfl) (by kernel_rfl) (by kernel_rfl) (fun _ _ _ h => h) (Or.inl ⟨by rfl, fun w hSw => ?_⟩) (by assumption) ?_
              rotate_left
              · (try dsimp only at hSw); go_simp; try with_reducible rfl
              simp only [Act.put, List.setIfInBounds_toArray, List.set_cons_zero, List.set_cons_succ, List.getElem_toArray, List.getElem_cons_succ, List.getElem_cons_zero]
              refine wpAnyH_take (i := 15) (v := ?_) rfl (by kernel_rfl) (by kernel_rfl) (by kernel_rfl) (fun _ _ _ h => h) (Or.inl ⟨by rfl, fun w hSw => ?_⟩) (by assumption) ?_
              rotate_left
              · (try dsimp only at hSw); go_simp; try with_reducible rfl
              simp only [Act.put, List.setIfInBounds_toArray, List.set_cons_zero, List.set_cons_succ, List.getElem_toArray, List.getElem_cons_succ, List.getElem_cons_zero]
              refine wpAnyH_done (by kernel_rfl) ?_ _
              go_wp2_with (fail)
              go_ret
              refine ⟨rfl, (HB9.out.trans (HT.out.below HB9.out.size ?_)).trans ((below_drewN (Below.refl wr.heap.size wr) 1).mono ?_ |>.trans (HB15.out.mono ?_))⟩
              · rintro j (e | e)
                · have := HB6.out.size
                  have := HGS.out
                  omega
                · have := HB9.out.size
                  have := HB2.out
                  omega
              · exact Nat.le_trans HB9.out.size HT.out.size
              · exact Nat.le_trans HB9.out.size HT.out.size
end Go.Proofs.Ytpmgagifpdamkaa
