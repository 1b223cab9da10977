/-
  MetaPlaces, by contract.
-/
import Derived.Test.YtpmgagifpdamkaaYat
import Derived.Test.YtpmgagifpdamkaaYak
import Derived.Test.YtpmgagifpdamkaaYal
import Derived.Test.YtpmgagifpdamkaaYas
import Derived.Test.YtpmgagifpdamkaaYav
import Derived.Test.YtpmgagifpdamkaaYac
set_option linter.unusedVariables false
set_option linter.unusedSimpArgs false
set_option maxRecDepth 100000
set_option maxHeartbeats 16000000
namespace Go.Proofs.Ytpmgagifpdamkaa
open Go.RowKit

theorem metaPlaces_any (d r s : Int) (a : Option Addr) (n c : Nat) (f : Nat → Nw) (p q : Int) (w : World) (hl : NwsAt w a n f) (hp : p ≤ 9223372036854775807) (hq : q ≤ 9223372036854775807) :
    Calls Try.prog 8 #[gv d r s, .slice a n c, .int .i64 p, .int .i64 q] w fun e w' => e = .returned (.bool true) ∧ Below w.heap.size w w' := by
  have hx := Bx.mk' w d r s 23
  have hB : Below w.heap.size w (w.alloc (.cells #[.int .i64 d, .int .i64 r, .int .i64 s] 23 (0, 0))) := (Below.refl _ _).alloc (Nat.le_refl _) _
  obtain ⟨w1, hw1⟩ : ∃ w1, w1 = w.alloc (.cells #[.int .i64 d, .int .i64 r, .int .i64 s] 23 (0, 0)) := ⟨_, rfl⟩
  rw [← hw1] at hx hB
  have HX := Lib.hid hx
  have HB := Lib.hid hB
  have HL := Lib.hid hl
  have HW := Lib.hid hw1
  have HPQ := Lib.hid (And.intro hp hq)
  clear hx hB hl hw1 hp hq
  go_enter Try.func8, Try.ntmps8
  go_wp2_with (fail)
  rw [← HW.out]
  obtain ⟨g, hg⟩ : ∃ g, g = w.heap.size := ⟨_, rfl⟩
  rw [← hg] at HX
  have HG := Lib.hid hg
  rw [← hg]
  clear hg
  refine (alive_any w1).mono ?_
  rintro e w2 ⟨rfl, hb2⟩
  go_wp2_with (fail)
  refine (great_any a n c f w2 (HL.out.next (HB.out.trans (hb2.mono HB.out.size)))).mono ?_
  rintro e w3 ⟨gb, rfl, hgb, hb3⟩
  have h23 := hb2.trans (hb3.mono hb2.size)
  have HX3 := Lib.hid (HX.out.next h23)
  have HB3 := Lib.hid (HB.out.trans (h23.mono HB.out.size))
  have HL3 := Lib.hid (HL.out.next HB3.out)
  clear h23 hb2 hb3 HX HB
  cases gb with
  | true =>
    go_wp2_with (fail)
    go_ret
    exact ⟨rfl, HB3.out⟩
  | false =>
    have hn := hgb rfl
    clear hgb
    have c0 := HX3.out.c0
    have c1 := HX3.out.c1
    have c2 := HX3.out.c2
    go_wp2_with (fail)
    refine (pmr_any d r s a n c f w3 HL3.out (by omega)).mono ?_
    rintro e w4 ⟨rfl, hb4⟩
    have HX4 := Lib.hid (HX3.out.next hb4)
    have HB4 := Lib.hid (HB3.out.trans (hb4.mono HB3.out.size))
    have HL4 := Lib.hid (HL.out.next HB4.out)
    clear hb4 HX3 HB3 HL3 c0 c1 c2
    have c0 := HX4.out.c0
    have c1 := HX4.out.c1
    have c2 := HX4.out.c2
    cases hr : mrO d r s (lnL f n) with
    | false =>
      go_wp2_with (fail)
      go_ret
      exact ⟨rfl, HB4.out⟩
    | true =>
      by_cases hp0 : p < 0
      · go_wp2_with (fail)
        go_ret
        exact ⟨rfl, HB4.out⟩
      by_cases hq0 : q < 0
      · go_wp2_with (fail)
        go_ret
        exact ⟨rfl, HB4.out⟩
      have HR := Lib.hid hr
      clear hr
      have hrt := (mr_few HR.out).1
      have hbd := adN_bd hrt
      have hfew := (mr_few HR.out).2.2
      have hnl : needN (ndF' f) n ≤ 1656 * n := need_le fun i hi => hfew i hi
      have hcn := cnt_is HR.out
      obtain ⟨C, hC⟩ : ∃ C : Nat, C = n + 3 + needN (ndF' f) n := ⟨_, rfl⟩
      rw [← hC] at hcn
      have HC := Lib.hid hC
      have HCN := Lib.hid hcn
      have HRT := Lib.hid hrt
      have HBD := Lib.hid hbd
      have hC6 : C ≤ 200000 := by omega
      clear hfew hnl hrt hbd hC hcn
      go_wp2_with (fail)
      refine (pcount_any d r s a n c f w4 HL4.out (by omega)).mono ?_
      rintro e w5 ⟨rfl, hb5⟩
      rw [HCN.out]
      have HX5 := Lib.hid (HX4.out.next hb5)
      have HB5 := Lib.hid (HB4.out.trans (hb5.mono HB4.out.size))
      have HL5 := Lib.hid (HL.out.next HB5.out)
      clear hb5 HX4 HB4 HL4 c0 c1 c2
      have c0 := HX5.out.c0
      have c1 := HX5.out.c1
      have c2 := HX5.out.c2
      obtain ⟨N, hNe⟩ : ∃ N, N = adN d r s := ⟨_, rfl⟩
      have hm : IntKind.i64.wrap (s * PL d r) = N := by rw [hNe]; exact IntWalk.i64_in _ (by have := HBD.out; unfold adN at this; omega)
      have HNE := Lib.hid hNe
      have HM := Lib.hid hm
      have HNB : Hid (12 ≤ N ∧ N ≤ 3776) := Lib.hid (by rw [hNe]; exact HBD.out)
      clear hNe hm
      go_upto_region 6 with fail
      refine wp_region_held_drew (S := (fun w' => w'.cell? ⟨g, 0, none⟩ = some (.int .i64 d) ∧ w'.cell? ⟨g, 1, none⟩ = some (.int .i64 r) ∧ w'.cell? ⟨g, 2, none⟩ = some (.int .i64 s))) (by kernel_rfl) ?_ (fun hHeld => ?_)
      · exact ⟨c0, c1, c2⟩
      refine wpAnyH_take (i := 0) (v := ?_) rfl (by kernel_rfl) (by kernel_rfl) (by kernel_rfl) (fun _ _ _ h => h) (Or.inl ⟨by rfl, fun w hSw => ?_⟩) (by assumption) ?_
      rotate_left
      · (try dsimp only at hSw); go_simp; try with_reducible rfl
      simp only [Act.put, List.setIfInBounds_toArray, List.set_cons_zero, List.set_cons_succ, List.getElem_toArray, List.getElem_cons_zero]
      refine wpAnyH_take (i := 1) (v := ?_) rfl (by kernel_rfl) (by kernel_rfl) (by kernel_rfl) (fun _ _ _ h => h) (Or.inl ⟨by rfl, fun w hSw => ?_⟩) (by assumption) ?_
      rotate_left
      · (try dsimp only at hSw); go_simp; try with_reducible rfl
      simp only [Act.put, List.setIfInBounds_toArray, List.set_cons_zero, List.set_cons_succ, List.getElem_toArray, List.getElem_cons_succ, List.getElem_cons_zero]
      refine wpAnyH_take (i := 2) (v := ?_) rfl (by kernel_rfl) (by kernel_rfl) (by kernel_rfl) (fun _ _ _ h => h) (Or.inl ⟨by rfl, fun w hSw => ?_⟩) (by assumption) ?_
      rotate_left
      · (try dsimp only at hSw); go_simp; try with_reducible rfl
      simp only [Act.put, List.setIfInBounds_toArray, List.set_cons_zero, List.set_cons_succ, List.getElem_toArray, List.getElem_cons_succ, List.getElem_cons_zero]
      refine wpAnyH_ready (rs := [3]) (by kernel_rfl) (by simp) ?_
      refine AllReadyH.cons rfl (fun K hK => ?_) AllReadyH.nil
      simp only [List.getElem_toArray, List.getElem_cons_succ, List.getElem_cons_zero]
      go_simp
      refine (places_yes d r s _ HRT.out).mono ?_
      rintro e w6 ⟨rfl, hb6⟩
      have HX6 := Lib.hid (HX5.out.drew.next hb6)
      have HB6 := Lib.hid (HB5.out.trans ((below_drewN (Below.refl _ _) 1).trans (hb6.mono (Nat.le_refl _)) |>.mono HB5.out.size))
      have w3 := HM.out
      clear hb6
      go_wp2_with (fail)
      refine hK.out _ _ ⟨HX6.out.c0, HX6.out.c1, HX6.out.c2⟩ (fun hHeld => ?_)
      clear hK K
      refine wpAnyH_take (i := 4) (v := ?_) rfl (by kernel_rfl) (by kernel_rfl) (by kernel_rfl) (fun _ _ _ h => h) (Or.inl ⟨by rfl, fun w hSw => ?_⟩) (by assumption) ?_
      rotate_left
      · (try dsimp only at hSw); go_simp; try with_reducible rfl
      simp only [Act.put, List.setIfInBounds_toArray, List.set_cons_zero, List.set_cons_succ, List.getElem_toArray, List.getElem_cons_succ, List.getElem_cons_zero]
      refine wpAnyH_take (i := 5) (v := ?_) rfl (by kernel_rfl) (by kernel_rfl) (by kernel_rfl) (fun _ _ _ h => h) (Or.inl ⟨by rfl, fun w hSw => ?_⟩) (by assumption) ?_
      rotate_left
      · (try dsimp only at hSw); go_simp; try with_reducible rfl
      simp only [Act.put, List.setIfInBounds_toArray, List.set_cons_zero, List.set_cons_succ, List.getElem_toArray, List.getElem_cons_succ, List.getElem_cons_zero]
      refine wpAnyH_done (by kernel_rfl) ?_ _
      have HL6 := Lib.hid (HL.out.next HB6.out)
      clear HX5 HB5 HL5 c0 c1 c2 w3 hHeld
      by_cases hCN : N < (C : Int)
      · go_wp2_with (fail)
        go_ret
        exact ⟨rfl, HB6.out⟩
      obtain ⟨fa, hfa⟩ : ∃ fa : Nat → Int, fa = fun i : Nat => Int.tmod (Int.tmod p N + (i : Int)) N + 1 := ⟨_, rfl⟩
      obtain ⟨fb, hfb⟩ : ∃ fb : Nat → Int, fb = fun i : Nat => Int.tmod (Int.tmod q N + (i : Int)) N + 1 := ⟨_, rfl⟩
      have HFA := Lib.hid hfa
      have HFB := Lib.hid hfb
      clear hfa hfb
      have HO1 := Lib.hid ((ownI_none w6 w6.heap.size (Nat.le_refl _)).alloc (.cells #[] 3))
      have HO2 : Hid (OwnI ((w6.alloc (.cells #[] 3)).alloc (.cells #[] 3)) w6.heap.size (.slice (some ⟨w6.heap.size + 1, 0, none⟩) 0 0) 0 []) := Lib.hid (by
        have := ownI_none (w6.alloc (.cells #[] 3)) w6.heap.size (by simp)
        rw [show (w6.alloc (.cells #[] 3)).heap.size = w6.heap.size + 1 from by simp] at this
        exact this)
      have HBS := Lib.hid (((Below.refl w6.heap.size w6).alloc (Nat.le_refl _) (.cells #[] 3)).alloc (by simp) (.cells #[] 3))
      go_wp2_with (fail)
      go_loopw [11, 12, 13] (fun v11 v12 v wr => ∃ i : Nat, i ≤ C ∧ v = .int .i64 i ∧ OwnI wr w6.heap.size v11 i (sq fa i) ∧ OwnI wr w6.heap.size v12 i (sq fb i) ∧ (∀ j, v11.ownBlock = some j → v12.ownBlock ≠ some j) ∧ Below w6.heap.size w6 wr) (fun _ _ v _ => C - (RowKit.intOf v).toNat)
      case atStart => exact ⟨0, by omega, rfl, HO1.out, HO2.out, (fun j e => by simp [Value.ownBlock] at e ⊢; omega), HBS.out⟩
      case round =>
        obtain ⟨i, hi, rfl, ho1, ho2, hne, hbr⟩ := hrel
        have HO1 := Lib.hid ho1
        have HO2 := Lib.hid ho2
        have HNE2 := Lib.hid hne
        have HBR := Lib.hid hbr
        clear ho1 ho2 hne hbr
        by_cases hlt : i < C
        · obtain ⟨hN1, hN2⟩ := HNB.out
          have hN0 : N ≠ 0 := by omega
          obtain ⟨p0, hp0e⟩ : ∃ p0, p0 = Int.tmod p N := ⟨_, rfl⟩
          obtain ⟨q0, hq0e⟩ : ∃ q0, q0 = Int.tmod q N := ⟨_, rfl⟩
          have t1 := hp0e.symm
          have t2 := hq0e.symm
          have b1 : 0 ≤ p0 ∧ p0 < N := by rw [hp0e]; exact ⟨Int.tmod_nonneg _ hp0, Int.tmod_lt_of_pos _ (by omega)⟩
          have b2 : 0 ≤ q0 ∧ q0 < N := by rw [hq0e]; exact ⟨Int.tmod_nonneg _ hq0, Int.tmod_lt_of_pos _ (by omega)⟩
          obtain ⟨p1, hp1e⟩ : ∃ p1, p1 = Int.tmod (p0 + (i : Int)) N := ⟨_, rfl⟩
          obtain ⟨q1, hq1e⟩ : ∃ q1, q1 = Int.tmod (q0 + (i : Int)) N := ⟨_, rfl⟩
          have t3 := hp1e.symm
          have t4 := hq1e.symm
          have b3 : 0 ≤ p1 ∧ p1 < N := by rw [hp1e]; exact ⟨Int.tmod_nonneg _ (by omega), Int.tmod_lt_of_pos _ (by omega)⟩
          have b4 : 0 ≤ q1 ∧ q1 < N := by rw [hq1e]; exact ⟨Int.tmod_nonneg _ (by omega), Int.tmod_lt_of_pos _ (by omega)⟩
          have HSA : Hid (sq fa (i + 1) = sq fa i ++ [p1 + 1]) := Lib.hid (by rw [sq_succ, HFA.out]; simp only [t1, t3])
          have HSB : Hid (sq fb (i + 1) = sq fb i ++ [q1 + 1]) := Lib.hid (by rw [sq_succ, HFB.out]; simp only [t2, t4])
          obtain ⟨b1l, b1h⟩ := b1
          obtain ⟨b2l, b2h⟩ := b2
          obtain ⟨b3l, b3h⟩ := b3
          obtain ⟨b4l, b4h⟩ := b4
          clear hp0e hq0e hp1e hq1e
          go_wp2_with (at_builtin; go_must (first
            | (refine wpList_apTw rfl (.tmp 55) (.tmp 64) rfl w6.heap.size u11 u12 i i (sq fa i) (sq fb i) rfl (HO1.out.alloc _) (HO2.out.alloc _) HNE2.out wr.heap.size (p1 + 1) rfl (by simp) (by omega) (by have := HBR.out.size; simp; omega) w6 (HBR.out.alloc HBR.out.size _) ?_; intro v1 w7 ho1 ho2 hne1 hb1; have HP1 := Lib.hid ho1; have HP2 := Lib.hid ho2; have HP3 := Lib.hid hne1; have HP4 := Lib.hid hb1; clear ho1 ho2 hne1 hb1)
            | (refine wpList_apTw rfl (.tmp 66) (.tmp 75) rfl w6.heap.size u12 v1 i (i + 1) (sq fb i) (sq fa i ++ [p1 + 1]) rfl (HP2.out.alloc _) (HP1.out.alloc _) (fun j e e2 => HP3.out j e2 e) w7.heap.size (q1 + 1) rfl (by simp) (by omega) (by have := HP4.out.size; simp; omega) w6 (HP4.out.alloc HP4.out.size _) ?_; intro v2 w8 ho1 ho2 hne1 hb1; have HR1 := Lib.hid ho1; have HR2 := Lib.hid ho2; have HR3 := Lib.hid hne1; have HR4 := Lib.hid hb1; clear ho1 ho2 hne1 hb1)))
          go_roundw
          case rel => exact ⟨i + 1, by omega, by go_num, by rw [HSA.out]; exact HR2.out, by rw [HSB.out]; exact HR1.out, (fun j e e2 => HR3.out j e2 e), HR4.out⟩
          case measure => simp [RowKit.intOf]; omega
        · obtain rfl : i = C := by omega
          obtain ⟨a1, k1, rfl, hi1, _⟩ := HO1.out.ins
          obtain ⟨a2, k2, rfl, hi2, _⟩ := HO2.out.ins
          have HI1 := Lib.hid hi1
          have HI2 := Lib.hid hi2
          have hx7 := HX6.out.next HBR.out
          have c0 := hx7.c0
          have c1 := hx7.c1
          have c2 := hx7.c2
          have HX7 := Lib.hid hx7
          have HB7 := Lib.hid (HB6.out.trans (HBR.out.mono HB6.out.size))
          have HL7 := Lib.hid (HL.out.next HB7.out)
          have hfab : ∀ (x : Int), 0 ≤ x → ∀ j : Nat, 1 ≤ Int.tmod (Int.tmod x N + (j : Int)) N + 1 ∧ Int.tmod (Int.tmod x N + (j : Int)) N + 1 ≤ N := by
            intro x hx j
            obtain ⟨hN1, hN2⟩ := HNB.out
            have h1 := Int.tmod_nonneg N hx
            have h2 := Int.tmod_nonneg N (show (0 : Int) ≤ Int.tmod x N + (j : Int) by omega)
            have h3 := Int.tmod_lt_of_pos (Int.tmod x N + (j : Int)) (show (0 : Int) < N by omega)
            omega
          have hbo : ∀ ff : Nat → Int, (∀ j, 1 ≤ ff j ∧ ff j ≤ N) → bldO d r s f n (sq ff i) = true := by
            intro ff hff
            rw [bldO, HR.out, sq_len, HCN.out, decide_eq_true rfl, adO_yes HRT.out, ← HNE.out, sq_any ff fun j _ => hff j]
            rfl
          have HBA := Lib.hid (hbo fa (by rw [HFA.out]; exact hfab p hp0))
          have HBB := Lib.hid (hbo fb (by rw [HFB.out]; exact hfab q hq0))
          have hlb : ∀ at' : Nat → Int, i = off at' (ndF' f) n + 3 := by
            intro at'
            rw [off_need fun j hj => (mr_few HR.out).2.2 j hj, HC.out]
            omega
          have HLB := Lib.hid hlb
          clear hi1 hi2 hx7 hfab hbo hlb HO1 HO2 HNE2 HBR
          go_wp2_with (fail)
          refine (pbuild_any d r s a a1 n c i k1 f (sq fa i) wr HL7.out (by omega) HI1.out (by omega)).mono ?_
          rintro e w9 ⟨hb9, hv⟩
          rw [HBA.out, if_pos rfl] at hv
          obtain ⟨ao, co, gs, rfl, hbls, hgs⟩ := hv
          have hgl : gs.length = i := by
            have := congrArg List.length hgs
            rw [List.length_map, layB_len, ← HLB.out] at this
            exact this
          have HG1 := Lib.hid hgs
          have HGL1 := Lib.hid hgl
          have HBL1 := Lib.hid hbls
          rw [hgl]
          have HX9 := Lib.hid (HX7.out.next hb9)
          have HI9 := Lib.hid (HI2.out.next hb9)
          have HB9 := Lib.hid (HB7.out.trans (hb9.mono HB7.out.size))
          have HL9 := Lib.hid (HL.out.next HB9.out)
          clear hb9 hgs hgl hbls c0 c1 c2 HX7 HB7 HL7
          have c0 := HX9.out.c0
          have c1 := HX9.out.c1
          have c2 := HX9.out.c2
          go_wp2_with (fail)
          refine (pbuild_any d r s a a2 n c i k2 f (sq fb i) w9 HL9.out (by omega) HI9.out (by omega)).mono ?_
          rintro e w10 ⟨hb10, hv⟩
          rw [HBB.out, if_pos rfl] at hv
          obtain ⟨bo, cb, hs, rfl, hbls, hgs⟩ := hv
          have hgl : hs.length = i := by
            have := congrArg List.length hgs
            rw [List.length_map, layB_len, ← HLB.out] at this
            exact this
          have HG2 := Lib.hid hgs
          have HGL2 := Lib.hid hgl
          have HBL2 := Lib.hid hbls
          rw [hgl]
          have HBL1' := Lib.hid (HBL1.out.next hb10)
          have HB10 := Lib.hid (HB9.out.trans (hb10.mono HB9.out.size))
          clear hb10 hgs hgl hbls c0 c1 c2 HX9 HB9 HL9
          go_wp2_with (fail)
          go_loopw [18] (fun v wk => ∃ k : Nat, k ≤ i ∧ v = .int .i64 k ∧ Below w10.heap.size w10 wk) (fun v _ => i - (RowKit.intOf v).toNat)
          case atStart => exact ⟨0, by omega, rfl, Below.refl _ _⟩
          case round =>
            obtain ⟨k, hk, rfl, hbk⟩ := hrel
            have HBK := Lib.hid hbk
            have hi3 : 3 ≤ i := by have := HLB.out (num []); omega
            rcases HBL1'.out.next hbk with h0 | ⟨b1, o1, rfl, l1, r1⟩
            · have := HGL1.out; omega
            rcases HBL2.out.next hbk with h0 | ⟨b2, o2, rfl, l2, r2⟩
            · have := HGL2.out; omega
            clear hbk
            by_cases hkl : k < i
            · have hg1 : k < gs.length := by rw [HGL1.out]; exact hkl
              have hg2 : k < hs.length := by rw [HGL2.out]; exact hkl
              obtain ⟨e1, e2⟩ := bls_heads HG1.out HG2.out hg1 hg2
              have x0 := (r1 k hg1).c0
              have x1 := (r1 k hg1).c1
              have y0 := (r2 k hg2).c0
              have y1 := (r2 k hg2).c1
              rw [← e1] at y0
              rw [← e2] at y1
              obtain ⟨u, hu⟩ : ∃ u, u = gs[k].own := ⟨_, rfl⟩
              obtain ⟨v, hv⟩ : ∃ v, v = gs[k].ind := ⟨_, rfl⟩
              rw [← hu] at x0 y0
              rw [← hv] at x1 y1
              clear hu hv e1 e2 hg1 hg2 r1 r2
              have k0 : (0 : Int) ≤ (k : Int) := by omega
              have k1 : (k : Int) < (i : Int) := by omega
              go_wp2_with (fail)
              go_quiet (fail)
              go_wp2_with (fail)
              go_roundw
              case rel => exact ⟨k + 1, by omega, by go_num, below_drewN HBK.out _⟩
              case measure => simp [RowKit.intOf]; omega
            · obtain rfl : k = i := by omega
              have hg1 : k - 1 < gs.length := by rw [HGL1.out]; omega
              have x0 := (r1 (k - 1) hg1).c0
              have x1 := (r1 (k - 1) hg1).c1
              have hlast := layB_last (num (sq fa k)) (ndF' f) n (HLB.out (num (sq fa k)))
              rw [← HG1.out] at hlast
              simp only [List.getD, List.getElem?_map, List.getElem?_eq_getElem hg1, Option.map_some, Option.getD_some, Bl.bk] at hlast
              rw [hlast.1] at x0
              rw [hlast.2] at x1
              clear r1 r2 hlast hg1
              have k2 : (k : Int) - 1 = ((k - 1 : Nat) : Int) := by omega
              obtain ⟨m, hm⟩ : ∃ m : Nat, m = k - 1 := ⟨_, rfl⟩
              rw [← hm] at x0 x1 k2
              have k3 : (m : Int) < (k : Int) := by omega
              have k4 : (0 : Int) ≤ (m : Int) := by omega
              clear hm
              go_wp2_with (fail)
              go_ret
              exact ⟨rfl, HB10.out.trans (HBK.out.mono HB10.out.size)⟩
end Go.Proofs.Ytpmgagifpdamkaa
