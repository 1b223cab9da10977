/-
  MetaBack, by contract.
-/
import Derived.Test.YtegcjpocdfmpfaaUav
import Derived.Test.YtegcjpocdfmpfaaUaw
import Derived.Test.YtegcjpocdfmpfaaUau
import Derived.Test.YtegcjpocdfmpfaaUam
import Derived.Test.YtegcjpocdfmpfaaUan
import Derived.Test.YtegcjpocdfmpfaaUat
import Derived.Test.YtegcjpocdfmpfaaUad
set_option linter.unusedVariables false
set_option linter.unusedSimpArgs false
set_option maxRecDepth 100000
set_option maxHeartbeats 16000000
namespace Go.Proofs.Ytegcjpocdfmpfaa
open Go.RowKit Go.Maps

theorem zBool (w : World) : (zeroValue 4).run Try.prog w = .ok (.bool false) w := by kernel_rfl
/-- A number that isn't there. -/
theorem KpAt.no {w : World} {b N : Nat} {m : List Int} (h : KpAt w b m N) {a : Int} (hb : -9223372036854775808 ≤ a ∧ a ≤ 9223372036854775807) (hn : a ∉ m) :
    (Instr.lookup 53 (.map (some b)) (.int .i64 a) false).run Try.prog w = .ok (.bool false) w := by
  obtain ⟨D, h1, h2⟩ := h
  have hh := h2.has a
  rw [decide_eq_false hn] at hh
  obtain ⟨es, clock, hb', F, _, rfl⟩ := h1
  rcases Maps.fit_look false lawN Try.underlying53 (zBool w) hb' F (zI_of hb) with ⟨hrun, _, _⟩ | ⟨e0, y, hm0, hk0, _, _, _, _⟩
  · exact hrun
  · obtain ⟨y2, hy⟩ := F.reads e0 hm0
    have hkk := WideElems.rd_key hy
    rw [hk0, zI_of hb] at hkk
    have hin : Maps.has (DataW.map ((es.toList.map (WideElems.rg Try.prog 3 (plainElem Try.prog 4))).foldr DataW.insert [])) (zI a) = true :=
      List.any_eq_true.2 ⟨WideElems.rg Try.prog 3 (plainElem Try.prog 4) e0, Go.mem_sorted.2 (List.mem_map.2 ⟨e0, hm0, rfl⟩), by rw [WideElems.rg_of hy, ← Option.some.inj hkk]; exact WideAt.sameKey_self (lawN.key (zI_of hb))⟩
    rw [hin] at hh
    cases hh
theorem mem_insK {x y : Int} {l : List Int} : y ∈ insK x l ↔ y = x ∨ y ∈ l := by
  unfold insK
  split
  · rename_i h
    constructor
    · exact .inr
    · rintro (rfl | h2)
      · simpa using h
      · exact h2
  · rw [List.mem_append, List.mem_singleton, or_comm]
theorem tmod_two {x N : Int} (hN : 0 < N) (h0 : 0 ≤ x) (h2 : x < N + N) : Int.tmod x N = if x < N then x else x - N := by
  rw [Int.tmod_eq_emod_of_nonneg h0]
  by_cases h : x < N
  · rw [if_pos h, Int.emod_eq_of_lt h0 h]
  · rw [if_neg h, show x = (x - N) + N by omega, Int.add_emod_right, Int.emod_eq_of_lt (by omega) (by omega)]
    omega
theorem lnL_tl {g : Nat → Nw} {F : Nat → Nd} {n K : Nat} (h : lnL g n = tl F K) : n = K ∧ ∀ i, i < n → (g i).nd = trn (F i) := by
  have hl := congrArg List.length h
  rw [lnL_len, tl_len] at hl
  subst hl
  refine ⟨rfl, fun i hi => ?_⟩
  have : (lnL g n).getD i default = (tl F n).getD i default := by rw [h]
  rw [lnL_get g hi, tl_get F hi] at this
  exact this
theorem metaBack_any (d r s : Int) (a : Option Addr) (n c : Nat) (f : Nat → Nw) (p : Int) (w : World) (hl : NwsAt w a n f) (hp : p ≤ 9223372036854775807) :
    Calls Try.prog 5 #[gv d r s, .slice a n c, .int .i64 p] w fun e w' => e = .returned (.bool true) ∧ Below w.heap.size w w' := by
  have hmm := @run_makeMap Try.prog
  have hx := Bx.mk' w d r s 23
  have hB : Below w.heap.size w (w.alloc (.cells #[.int .i64 d, .int .i64 r, .int .i64 s] 23 (0, 0))) := (Below.refl _ _).alloc (Nat.le_refl _) _
  obtain ⟨w1, hw1⟩ : ∃ w1, w1 = w.alloc (.cells #[.int .i64 d, .int .i64 r, .int .i64 s] 23 (0, 0)) := ⟨_, rfl⟩
  rw [← hw1] at hx hB
  have HX := Lib.hid hx
  have HB := Lib.hid hB
  have HL := Lib.hid hl
  have HW := Lib.hid hw1
  have HPQ := Lib.hid hp
  clear hx hB hl hw1 hp
  go_enter Try.func5, Try.ntmps5
  go_wp2_with (fail)
  rw [← HW.out]
  obtain ⟨g, hg⟩ : ∃ g, g = w.heap.size := ⟨_, rfl⟩
  rw [← hg] at HX
  have HG := Lib.hid hg
  rw [← hg]
  clear hg
  refine (alive_any w1).mono ?_
  rintro e w2 ⟨rfl, hb2⟩
  go_wp2_with (fail)
  refine (great_any a n c f w2 (HL.out.next (HB.out.trans (hb2.mono HB.out.size)))).mono ?_
  rintro e w3 ⟨gb, rfl, hgb, hb3⟩
  have h23 := hb2.trans (hb3.mono hb2.size)
  have HX3 := Lib.hid (HX.out.next h23)
  have HB3 := Lib.hid (HB.out.trans (h23.mono HB.out.size))
  have HL3 := Lib.hid (HL.out.next HB3.out)
  clear h23 hb2 hb3 HX HB
  cases gb with
  | true =>
    go_wp2_with (fail)
    go_ret
    exact ⟨rfl, HB3.out⟩
  | false =>
    have hn := hgb rfl
    clear hgb
    have c0 := HX3.out.c0
    have c1 := HX3.out.c1
    have c2 := HX3.out.c2
    go_wp2_with (fail)
    refine (pmr_any d r s a n c f w3 HL3.out (by omega)).mono ?_
    rintro e w4 ⟨rfl, hb4⟩
    have HX4 := Lib.hid (HX3.out.next hb4)
    have HB4 := Lib.hid (HB3.out.trans (hb4.mono HB3.out.size))
    have HL4 := Lib.hid (HL.out.next HB4.out)
    clear hb4 HX3 HB3 HL3 c0 c1 c2
    have c0 := HX4.out.c0
    have c1 := HX4.out.c1
    have c2 := HX4.out.c2
    cases hr : mrO d r s (lnL f n) with
    | false =>
      go_wp2_with (fail)
      go_ret
      exact ⟨rfl, HB4.out⟩
    | true =>
      by_cases hp0 : p < 0
      · go_wp2_with (fail)
        go_ret
        exact ⟨rfl, HB4.out⟩
      have HR := Lib.hid hr
      clear hr
      have hrt := (mr_few HR.out).1
      have hbd := adN_bd hrt
      have hfew := (mr_few HR.out).2.2
      have hnl : needN (ndF' f) n ≤ 1656 * n := need_le fun i hi => hfew i hi
      have hcn := cnt_is HR.out
      obtain ⟨C, hC⟩ : ∃ C : Nat, C = n + 3 + needN (ndF' f) n := ⟨_, rfl⟩
      rw [← hC] at hcn
      have HC := Lib.hid hC
      have HCN := Lib.hid hcn
      have HRT := Lib.hid hrt
      have HBD := Lib.hid hbd
      have hC6 : C ≤ 200000 := by omega
      clear hfew hnl hrt hbd hC hcn
      go_wp2_with (fail)
      refine (pcount_any d r s a n c f w4 HL4.out (by omega)).mono ?_
      rintro e w5 ⟨rfl, hb5⟩
      rw [HCN.out]
      have HX5 := Lib.hid (HX4.out.next hb5)
      have HB5 := Lib.hid (HB4.out.trans (hb5.mono HB4.out.size))
      have HL5 := Lib.hid (HL.out.next HB5.out)
      clear hb5 HX4 HB4 HL4 c0 c1 c2
      have c0 := HX5.out.c0
      have c1 := HX5.out.c1
      have c2 := HX5.out.c2
      obtain ⟨N, hNe⟩ : ∃ N, N = adN d r s := ⟨_, rfl⟩
      have hm : IntKind.i64.wrap (s * PL d r) = N := by rw [hNe]; exact IntWalk.i64_in _ (by have := HBD.out; unfold adN at this; omega)
      have HNE := Lib.hid hNe
      have HM := Lib.hid hm
      have HNB : Hid (12 ≤ N ∧ N ≤ 3776) := Lib.hid (by rw [hNe]; exact HBD.out)
      clear hNe hm
      go_upto_region 6 with fail
      refine wp_region_held_drew (S := (fun w' => w'.cell? ⟨g, 0, none⟩ = some (.int .i64 d) ∧ w'.cell? ⟨g, 1, none⟩ = some (.int .i64 r) ∧ w'.cell? ⟨g, 2, none⟩ = some (.int .i64 s))) (by kernel_rfl) ?_ (fun hHeld => ?_)
      · exact ⟨c0, c1, c2⟩
      refine wpAnyH_take (i := 0) (v := ?_) rfl (by kernel_rfl) (by kernel_rfl) (by kernel_rfl) (fun _ _ _ h => h) (Or.inl ⟨by rfl, fun w hSw => ?_⟩) (by assumption) ?_
      rotate_left
      · (try dsimp only at hSw); go_simp; try with_reducible rfl
      simp only [Act.put, List.setIfInBounds_toArray, List.set_cons_zero, List.set_cons_succ, List.getElem_toArray, List.getElem_cons_zero]
      refine wpAnyH_take (i := 1) (v := ?_) rfl (by kernel_rfl) (by kernel_rfl) (by kernel_rfl) (fun _ _ _ h => h) (Or.inl ⟨by rfl, fun w hSw => ?_⟩) (by assumption) ?_
      rotate_left
      · (try dsimp only at hSw); go_simp; try with_reducible rfl
      simp only [Act.put, List.setIfInBounds_toArray, List.set_cons_zero, List.set_cons_succ, List.getElem_toArray, List.getElem_cons_succ, List.getElem_cons_zero]
      refine wpAnyH_take (i := 2) (v := ?_) rfl (by kernel_rfl) (by kernel_rfl) (by kernel_rfl) (fun _ _ _ h => h) (Or.inl ⟨by rfl, fun w hSw => ?_⟩) (by assumption) ?_
      rotate_left
      · (try dsimp only at hSw); go_simp; try with_reducible rfl
      simp only [Act.put, List.setIfInBounds_toArray, List.set_cons_zero, List.set_cons_succ, List.getElem_toArray, List.getElem_cons_succ, List.getElem_cons_zero]
      refine wpAnyH_ready (rs := [3]) (by kernel_rfl) (by simp) ?_
      refine AllReadyH.cons rfl (fun K hK => ?_) AllReadyH.nil
      simp only [List.getElem_toArray, List.getElem_cons_succ, List.getElem_cons_zero]
      go_simp
      refine (places_yes d r s _ HRT.out).mono ?_
      rintro e w6 ⟨rfl, hb6⟩
      have HX6 := Lib.hid (HX5.out.drew.next hb6)
      have HB6 := Lib.hid (HB5.out.trans ((below_drewN (Below.refl _ _) 1).trans (hb6.mono (Nat.le_refl _)) |>.mono HB5.out.size))
      have w3 := HM.out
      clear hb6
      go_wp2_with (fail)
      refine hK.out _ _ ⟨HX6.out.c0, HX6.out.c1, HX6.out.c2⟩ (fun hHeld => ?_)
      clear hK K
      refine wpAnyH_take (i := 4) (v := ?_) rfl (by kernel_rfl) (by kernel_rfl) (by kernel_rfl) (fun _ _ _ h => h) (Or.inl ⟨by rfl, fun w hSw => ?_⟩) (by assumption) ?_
      rotate_left
      · (try dsimp only at hSw); go_simp; try with_reducible rfl
      simp only [Act.put, List.setIfInBounds_toArray, List.set_cons_zero, List.set_cons_succ, List.getElem_toArray, List.getElem_cons_succ, List.getElem_cons_zero]
      refine wpAnyH_take (i := 5) (v := ?_) rfl (by kernel_rfl) (by kernel_rfl) (by kernel_rfl) (fun _ _ _ h => h) (Or.inl ⟨by rfl, fun w hSw => ?_⟩) (by assumption) ?_
      rotate_left
      · (try dsimp only at hSw); go_simp; try with_reducible rfl
      simp only [Act.put, List.setIfInBounds_toArray, List.set_cons_zero, List.set_cons_succ, List.getElem_toArray, List.getElem_cons_succ, List.getElem_cons_zero]
      refine wpAnyH_done (by kernel_rfl) ?_ _
      have HL6 := Lib.hid (HL.out.next HB6.out)
      clear HX5 HB5 HL5 c0 c1 c2 w3 hHeld
      by_cases hCN : N < (C : Int)
      · go_wp2_with (fail)
        go_ret
        exact ⟨rfl, HB6.out⟩
      obtain ⟨fa, hfa⟩ : ∃ fa : Nat → Int, fa = fun i : Nat => Int.tmod (Int.tmod p N + (i : Int)) N + 1 := ⟨_, rfl⟩
      have HFA := Lib.hid hfa
      clear hfa
      have HO1 := Lib.hid ((ownI_none w6 w6.heap.size (Nat.le_refl _)).alloc (.cells #[.slice none 0 0, .slice none 0 0] 43))
      have HR1 : Hid (((w6.alloc (.cells #[] 3)).alloc (.cells #[.slice none 0 0, .slice none 0 0] 43)).heap[w6.heap.size + 1]? = some (.cells #[.slice none 0 0, .slice none 0 0] 43 (0, 0))) := Lib.hid (by
        have := heap_alloc_new (w6.alloc (.cells #[] 3)) (.cells #[.slice none 0 0, .slice none 0 0] 43)
        rw [show (w6.alloc (.cells #[] 3)).heap.size = w6.heap.size + 1 from by simp] at this
        exact this)
      have HBS := Lib.hid (((Below.refl w6.heap.size w6).alloc (Nat.le_refl _) (.cells #[] 3)).alloc (by simp) (.cells #[.slice none 0 0, .slice none 0 0] 43))
      go_wp2_with (fail)
      go_loopw [9, 11] (fun v8 v wr => ∃ i : Nat, i ≤ C ∧ v = .int .i64 i ∧ OwnI wr w6.heap.size v8 i (sq fa i) ∧ v8.ownBlock ≠ some (w6.heap.size + 1) ∧ wr.heap[w6.heap.size + 1]? = some (.cells #[.slice none 0 0, .slice none 0 0] 43 (0, 0)) ∧ Below w6.heap.size w6 wr) (fun _ v _ => C - (RowKit.intOf v).toNat)
      case atStart => exact ⟨0, by omega, rfl, HO1.out, (by simp [Value.ownBlock]), HR1.out, HBS.out⟩
      case round =>
        obtain ⟨i, hi, rfl, ho1, hne, hrow, hbr⟩ := hrel
        have HO1 := Lib.hid ho1
        have HNE2 := Lib.hid hne
        have HROW := Lib.hid hrow
        have HBR := Lib.hid hbr
        clear ho1 hne hbr hrow
        by_cases hlt : i < C
        · obtain ⟨hN1, hN2⟩ := HNB.out
          have hN0 : N ≠ 0 := by omega
          obtain ⟨p0, hp0e⟩ : ∃ p0, p0 = Int.tmod p N := ⟨_, rfl⟩
          have t1 := hp0e.symm
          have b1 : 0 ≤ p0 ∧ p0 < N := by rw [hp0e]; exact ⟨Int.tmod_nonneg _ (by omega), Int.tmod_lt_of_pos _ (by omega)⟩
          obtain ⟨p1, hp1e⟩ : ∃ p1, p1 = Int.tmod (p0 + (i : Int)) N := ⟨_, rfl⟩
          have t3 := hp1e.symm
          have b3 : 0 ≤ p1 ∧ p1 < N := by rw [hp1e]; exact ⟨Int.tmod_nonneg _ (by omega), Int.tmod_lt_of_pos _ (by omega)⟩
          have HSA : Hid (sq fa (i + 1) = sq fa i ++ [p1 + 1]) := Lib.hid (by rw [sq_succ, HFA.out]; simp only [t1, t3])
          obtain ⟨b1l, b1h⟩ := b1
          obtain ⟨b3l, b3h⟩ := b3
          clear hp0e hp1e
          go_wp2_with (at_builtin; go_must (refine wpList_apG rfl (.tmp 53) (.tmp 62) rfl w6.heap.size u9 i (sq fa i) rfl (HO1.out.alloc _) wr.heap.size (p1 + 1) rfl (by simp) (by omega) (by have := HBR.out.size; simp; omega) w6 (HBR.out.alloc HBR.out.size _) ?_; intro v1 w7 ho1 hg1 hne1 hb1; have HP1 := Lib.hid ho1; have HP2 := Lib.hid hg1; have HP3 := Lib.hid hne1; have HP4 := Lib.hid hb1; clear ho1 hg1 hne1 hb1))
          go_roundw
          case rel =>
            have hgl := lt_of_block HROW.out
            refine ⟨i + 1, by omega, by go_num, by rw [HSA.out]; exact HP1.out, fun e => ?_, ?_, HP4.out⟩
            · rcases HP3.out _ e with e2 | e2
              · exact HNE2.out e2
              · simp at e2; omega
            · rw [HP2.out.block _ (by simp; omega) fun e => HNE2.out e.symm]
              exact (((Below.refl wr.heap.size wr).alloc (Nat.le_refl _) _).block _ hgl).trans HROW.out
          case measure => simp [RowKit.intOf]; omega
        · obtain rfl : i = C := by omega
          obtain ⟨a1, k1, rfl, hi1, _, _, hlo1⟩ := HO1.out.ins
          have HI1 := Lib.hid hi1
          have hx7 := HX6.out.next HBR.out
          have c0 := hx7.c0
          have c1 := hx7.c1
          have c2 := hx7.c2
          have HX7 := Lib.hid hx7
          have HB7 := Lib.hid (HB6.out.trans (HBR.out.mono HB6.out.size))
          have HL7 := Lib.hid (HL.out.next HB7.out)
          have hfab : ∀ j, 1 ≤ fa j ∧ fa j ≤ N := by
            intro j
            rw [HFA.out]
            obtain ⟨hN1, hN2⟩ := HNB.out
            have h1 := Int.tmod_nonneg N (show 0 ≤ p by omega)
            have h2 := Int.tmod_nonneg N (show (0 : Int) ≤ Int.tmod p N + (j : Int) by omega)
            have h3 := Int.tmod_lt_of_pos (Int.tmod p N + (j : Int)) (show (0 : Int) < N by omega)
            simp only
            omega
          have hinj : ∀ i' j', i' < i → j' < i → fa i' = fa j' → i' = j' := by
            intro i' j' hi' hj' e
            rw [HFA.out] at e
            simp only at e
            obtain ⟨hN1, hN2⟩ := HNB.out
            have h1 := Int.tmod_nonneg N (show 0 ≤ p by omega)
            have h2 := Int.tmod_lt_of_pos p (show (0 : Int) < N by omega)
            rw [tmod_two (x := Int.tmod p N + (i' : Int)) (N := N) (by omega) (by omega) (by omega), tmod_two (x := Int.tmod p N + (j' : Int)) (N := N) (by omega) (by omega) (by omega)] at e
            split at e <;> split at e <;> omega
          have hbo : bldO d r s f n (sq fa i) = true := by
            rw [bldO, HR.out, sq_len, HCN.out, decide_eq_true rfl, adO_yes HRT.out, ← HNE.out, sq_any fa fun j hj => hfab j]
            rfl
          have HBA := Lib.hid hbo
          have hlb : ∀ at' : Nat → Int, i = off at' (ndF' f) n + 3 := by
            intro at'
            rw [off_need fun j hj => (mr_few HR.out).2.2 j hj, HC.out]
            omega
          have HLB := Lib.hid hlb
          have HFAB := Lib.hid hfab
          have HINJ := Lib.hid hinj
          clear hi1 hx7 hfab hbo hlb hinj HO1
          go_wp2_with (fail)
          refine (pbuild_any d r s a a1 n c i k1 f (sq fa i) wr HL7.out (by omega) HI1.out (by omega)).mono ?_
          rintro e w10 ⟨hb9, hv⟩
          rw [HBA.out, if_pos rfl] at hv
          obtain ⟨ao, co, gs, rfl, hbls, hgs⟩ := hv
          have hgl : gs.length = i := by
            have := congrArg List.length hgs
            rw [List.length_map, layB_len, ← HLB.out] at this
            exact this
          have hi3 : 3 ≤ i := by have := HLB.out (num []); omega
          have HG1 := Lib.hid hgs
          have HGL1 := Lib.hid hgl
          have HBL1 := Lib.hid hbls
          rw [hgl]
          have HX10 := Lib.hid (HX7.out.next hb9)
          have HI9 := Lib.hid (HI1.out.next hb9)
          have HB10 := Lib.hid (HB7.out.trans (hb9.mono HB7.out.size))
          have HROW9 := Lib.hid ((hb9.block _ (lt_of_block HROW.out)).trans HROW.out)
          clear hb9 hgs hgl hbls c0 c1 c2 HX7 HB7 HL7 hlo1
          have hzn : ∀ x, x ∈ gs → x.n = 56 := by
            intro x hx
            obtain ⟨j, hj, rfl⟩ := List.getElem_of_mem hx
            rcases HBL1.out with h0 | ⟨b, off, e, hlt2, hc⟩
            · omega
            have h1 := (hc j hj).pin.len
            have h2 : gs[j].bk ∈ layB (num (sq fa i)) (ndF' f) n := by rw [← HG1.out]; exact List.mem_map.2 ⟨_, hx, rfl⟩
            have h3 : gs[j].z.length = 56 := layB_z _ _ _ _ h2
            omega
          obtain ⟨gS, hgS⟩ : ∃ gS, gS = w6.heap.size + 1 := ⟨_, rfl⟩
          have hfar := bls_far (g := gS) HBL1.out (by rw [hgS]; exact HROW9.out) (fun x hx => by rw [hzn x hx]; decide)
          rcases hfar with h0 | ⟨bb, bo, rfl, hbb, hbg, hbc⟩
          · have := HGL1.out; omega
          obtain ⟨P, hPe⟩ : ∃ P : Nat → Pc, P = fun j => blP (gs.getD j default) := ⟨_, rfl⟩
          have hPj : ∀ j (hj : j < gs.length), P j = blP gs[j] := fun j hj => by rw [hPe]; simp [List.getD, hj]
          have hc2 : ∀ j (hj : j < gs.length), w10.cell? ⟨bb, bo + j * 3 + 2, none⟩ = some (.slice (P j).a 56 (P j).c) := fun j hj => by
            rw [hPj j hj]
            have h1 := (hbc j hj).1.c2
            rw [hzn _ (List.getElem_mem hj)] at h1
            exact h1
          have hP : ∀ j (hj : j < gs.length), Pin w10 (P j).a (P j).n (P j).c (P j).zs ∧ (P j).n = 56 ∧ ∀ y, (P j).a = some y → y.block ≠ gS ∧ y.block < w10.heap.size := fun j hj => by
            rw [hPj j hj]
            exact ⟨(hbc j hj).1.pin, hzn _ (List.getElem_mem hj), (hbc j hj).2⟩
          rcases HI9.out.at (show 0 < i by omega) with ⟨ba, oa, rfl, hba, hca⟩
          have hbag : ba ≠ gS := by
            intro e
            apply HNE2.out
            rw [← hgS, ← e]
            simp [Value.ownBlock]
          obtain ⟨B2, hB2⟩ : ∃ B2, B2 = w10.heap.size := ⟨_, rfl⟩
          have hst : StH w10 B2 gS (.slice none 0 0) (.slice none 0 0) ((List.range 0).map fa) ((List.range 0).map P) :=
            ⟨by rw [hgS]; exact HROW9.out, ownI_nil _ _, World.ownsRow_nil _ _ _ _, by simp [Value.ownBlock], by simp [Value.ownBlock], by simp [Value.ownBlock]⟩
          have HPJ := Lib.hid hPj
          have HPW := Lib.hid hP
          have HST := Lib.hid hst
          have HB2 := Lib.hid hB2
          have HGS := Lib.hid hgS
          have HC2 := Lib.hid hc2
          have HCA := Lib.hid hca
          have HBA2 := Lib.hid (And.intro hba hbag)
          have HBB := Lib.hid (And.intro hbb hbg)
          clear hzn hst hbb hbg hbc hca hba hbag hP hPj hPe hc2 hB2 HROW9 HROW
          go_wp2_with (fail)
          rw [← hgS]
          clear hgS
          go_loopw [14] (fun v wk => ∃ k : Nat, k ≤ i ∧ v = .int .i64 k ∧ (∃ vA vD, StH wk B2 gS vA vD ((List.range k).map fa) ((List.range k).map P)) ∧ Turn (Tg2 gS B2) w10 wk) (fun v _ => i - (RowKit.intOf v).toNat)
          case atStart => exact ⟨0, by omega, rfl, ⟨_, _, HST.out⟩, Turn.refl _ _⟩
          case round =>
            obtain ⟨k, hk, rfl, ⟨vA, vD, hst⟩, hbk⟩ := hrel
            have HS := Lib.hid hst
            have HT := Lib.hid hbk
            clear hst hbk
            by_cases hkl : k < i
            · have hB2k : B2 ≤ wr.heap.size := by rw [HB2.out]; exact HT.out.size
              obtain ⟨l1, c0, c1, f0, f1⟩ := HS.out.cells
              obtain ⟨i0, hi0, hz0, hz1, hz2⟩ := info_parts info3
              obtain ⟨z, hz⟩ : ∃ z, z = fa k := ⟨_, rfl⟩
              have x5 : wr.cell? ⟨ba, oa + k, none⟩ = some (.int .i64 z) := by
                rw [HT.out.cell (a := ⟨ba, oa + k, none⟩) HBA2.out.1 (by rintro (e | e); exact HBA2.out.2 e; have := HBA2.out.1; rw [HB2.out] at e; simp only at e; omega), HCA.out k hkl, sq_num fa hkl, hz]
              have HZ := Lib.hid hz
              have hlenA : ((List.range k).map fa).length = k := by simp
              have hlenD : ((List.range k).map P).length = k := by simp
              have HO := Lib.hid HS.out.oa
              rw [hlenA] at HO
              have HLA := Lib.hid hlenA
              have HLD := Lib.hid hlenD
              have HBK := Lib.hid hB2k
              have k1 : (k : Int) < (i : Int) := by omega
              have k0 : (0 : Int) ≤ (k : Int) := by omega
              clear hz hlenA hlenD hB2k
              have hgi0 : k < gs.length := by rw [HGL1.out]; exact hkl
              obtain ⟨xa, xc, hxa, hxc⟩ : ∃ xa xc, xa = (P k).a ∧ xc = (P k).c := ⟨_, _, rfl, rfl⟩
              have c2 : wr.cell? ⟨bb, bo + k * 3 + 2, none⟩ = some (.slice xa 56 xc) := by
                rw [HT.out.cell (a := ⟨bb, bo + k * 3 + 2, none⟩) HBB.out.1 (by rintro (e | e); exact HBB.out.2 e; have := HBB.out.1; rw [HB2.out] at e; simp only at e; omega), hxa, hxc]
                exact HC2.out k hgi0
              clear hgi0 hxa hxc
              go_wp2_with (fail)
              clear c2
              go_upto_region 23 with fail
              go_region_law (refine step_append_lies _ rfl (.tmp 95) (.tmp 100) 25 rfl B2 3 i0 (.int .i64 0) 1 8 Try.underlying25 hi0 hz0 hz1 hz2 rfl (by decide) vA k _ (by simp [Act.eval, Act.put]) (by exact own1 HO.out) ⟨wr.heap.size, 0, none⟩ 1 1 [.int .i64 z] (by simp [Act.eval, Act.put]) rfl (by exact new1 wr _ _) (by simp; rfl) (by decide) (by unfold maxLen; omega) (by omega) (by have := HBK.out; simp [World.drew]; omega) (wr.heap.size + 1) (by simp [World.drew]) ?_; intro g1 cap1 w12 ho8 hg8 ha8 hl8; have HG8 := Lib.hid hg8; have HO8 := Lib.hid ho8; have HA8 := Lib.hid ha8; obtain ⟨m1, m2, m3, m4, m5⟩ := HS.out.far (bl1 wr _) hg8 HS.out.na; clear hg8 ho8 ha8)
              all_goals (
                obtain ⟨hS9, hT9⟩ := HS.out.putA HT.out HBK.out (bl1 wr _) HLA.out HO8.out HG8.out HA8.out (by simp [World.drew])
                obtain ⟨w13, hw13⟩ : ∃ w13, w13 = w12.setCell ⟨gS, 0, none⟩ (.slice (some ⟨g1, 0, none⟩) (k + 1) cap1) := ⟨_, rfl⟩
                rw [← hw13] at hS9 hT9 ⊢
                have HS9 := Lib.hid hS9
                have HT9 := Lib.hid hT9
                have hsz9 : B2 ≤ w13.heap.size := by rw [HB2.out]; exact hT9.size
                have HSZ := Lib.hid hsz9
                clear hw13 hS9 hT9 HO8 HG8 HA8 HO m1 m2 m3 m4 m5 hl8 c0 c1 f0 f1 x5 hsz9
                obtain ⟨l1, c0, c1, f0, f1⟩ := HS9.out.cells
                have hgi : k < gs.length := by rw [HGL1.out]; exact hkl
                obtain ⟨x, hxe⟩ : ∃ x, x = P k := ⟨_, rfl⟩
                have c2 : w13.cell? ⟨bb, bo + k * 3 + 2, none⟩ = some (.slice x.a 56 x.c) := by
                  rw [HT9.out.cell (a := ⟨bb, bo + k * 3 + 2, none⟩) HBB.out.1 (by rintro (e | e); exact HBB.out.2 e; have := HBB.out.1; rw [HB2.out] at e; simp only at e; omega), hxe]
                  exact HC2.out k hgi
                have HXE := Lib.hid hxe
                have HD := Lib.hid HS9.out.od
                rw [HLD.out] at HD
                obtain ⟨i1, hi1, hy0, hy1, hy2⟩ := info_parts infoS
                clear hxe
                go_upto_region 24 with fail
                go_region_law (refine step_append_lies _ rfl (.tmp 108) (.tmp 114) 39 rfl B2 50 i1 (.slice none 0 0) 1 24 Try.underlying39 hi1 hy0 hy1 hy2 rfl (by decide) vD k _ (by simp [Act.eval, Act.put]) (by exact own1 HD.out) ⟨w13.heap.size, 0, none⟩ 1 1 [.slice x.a 56 x.c] (by simp [Act.eval, Act.put]) rfl (by exact new1 w13 _ _) (by simp; rfl) (by decide) (by unfold maxLen; omega) (by omega) (by have := HSZ.out; simp [World.drew]; omega) (w13.heap.size + 1) (by simp [World.drew]) ?_; intro g2 cap2 w14 ho8 hg8 ha8 hl8; have HG8 := Lib.hid hg8; have HO8 := Lib.hid ho8; have HA8 := Lib.hid ha8; obtain ⟨m1, m2, m3, m4, m5⟩ := HS9.out.far (bl1 w13 _) hg8 HS9.out.nd; clear hg8 ho8 ha8)
                all_goals (
                  have HPV : Hid (pcV x = .slice x.a 56 x.c) := Lib.hid (by rw [show pcV x = .slice x.a x.n x.c from rfl, HXE.out, (HPW.out k hgi).2.1])
                  have hO8 := HO8.out
                  rw [← HPV.out] at hO8
                  obtain ⟨hS9, hT9⟩ := HS9.out.putD HT9.out HSZ.out (bl1 w13 _) (p := x) HLD.out hO8 HG8.out HA8.out (by simp [World.drew])
                  have hxn : x.n = 56 := by rw [HXE.out]; exact (HPW.out k hgi).2.1
                  have htd : ((List.range (k + 1)).map P) = ((List.range k).map P) ++ [x] := by
                    rw [List.range_succ, List.map_append, List.map_cons, List.map_nil, HXE.out]
                  have hta : (List.range (k + 1)).map fa = (List.range k).map fa ++ [z] := by
                    rw [List.range_succ, List.map_append, List.map_cons, List.map_nil, HZ.out]
                  rw [← hta, ← htd] at hS9
                  have HS10 := Lib.hid hS9
                  have HT10 := Lib.hid hT9
                  clear hO8 hxn hS9 hT9 HO8 HG8 HA8 m1 m2 m3 m4 m5 hl8 c0 c1 c2 f0 f1 hta htd
                  go_wp2_with (fail)
                  go_roundw
                  case rel => exact ⟨k + 1, by omega, by go_num, ⟨_, _, HS10.out⟩, HT10.out⟩
                  case measure => simp [RowKit.intOf]; omega))
            · obtain rfl : k = i := by omega
              have hx9 : Bx wr g d r s := by
                have hg1 : g < w10.heap.size := HX10.out.lt
                have hgn : g ≠ gS := by
                  have h1 := HX6.out.lt
                  rw [HGS.out]; omega
                have hk9 : ∀ o, wr.cell? ⟨g, o, none⟩ = w10.cell? ⟨g, o, none⟩ := fun o => HT.out.cell (a := ⟨g, o, none⟩) hg1 (by
                  rintro (e | e)
                  · exact hgn e
                  · rw [HB2.out] at e; simp only at e; omega)
                exact ⟨Nat.lt_of_lt_of_le hg1 HT.out.size, (hk9 0).trans HX10.out.c0, (hk9 1).trans HX10.out.c1, (hk9 2).trans HX10.out.c2⟩
              have c0 := hx9.c0
              have c1 := hx9.c1
              have c2 := hx9.c2
              have hk3 : 3 ≤ k := by have := HLB.out (num []); omega
              have x5 : wr.cell? ⟨ba, oa + (k - 1), none⟩ = some (.int .i64 (fa (k - 1))) := by
                rw [HT.out.cell (a := ⟨ba, oa + (k - 1), none⟩) HBA2.out.1 (by rintro (e | e); exact HBA2.out.2 e; have := HBA2.out.1; rw [HB2.out] at e; simp only at e; omega), HCA.out (k - 1) (by omega), sq_num fa (by omega)]
              -- what lies there
              have hpin : ∀ p, p ∈ ((List.range k).map P) → Pin wr p.a p.n p.c p.zs ∧ p.n ≤ 1000000000000 := by
                intro p hp
                obtain ⟨j, hj, rfl⟩ := List.mem_map.1 hp
                have hjk := List.mem_range.1 hj
                have hjg : j < gs.length := by rw [HGL1.out]; exact hjk
                obtain ⟨h1, h2, h3⟩ := HPW.out j hjg
                refine ⟨h1.turn HT.out fun y ey => ?_, by rw [h2]; decide⟩
                have h4 := h3 y ey
                rintro (e | e)
                · exact h4.1 e
                · rw [HB2.out] at e; omega
              obtain ⟨A, cA, Dt, cD, hsto⟩ := HS.out.sto hpin (by rw [List.length_map, List.length_map]) (by rw [List.length_map, List.length_range]; omega)
              have hat : ∀ j, j < k → num (sq fa k) j = fa j := fun j hj => sq_num fa hj
              obtain ⟨RL, hRL⟩ : ∃ RL, RL = allR (num (sq fa k)) (ndF' f) n := ⟨_, rfl⟩
              have hrun : ldR (adO d r s) (blkF ((List.range k).map fa) (fun i => ((List.range k).map P).getD i default)) (fa (k - 1)) = .ok (tl (ndF' f) n, RL) := by
                have hinj : ∀ a, a ∈ List.range k → ∀ b, b ∈ List.range k → fa a = fa b → a = b := fun a ha b hb e => HINJ.out a b (List.mem_range.1 ha) (List.mem_range.1 hb) e
                have hko : off (num (sq fa k)) (ndF' f) n + 3 = k := (HLB.out _).symm
                have hroot : fa (k - 1) = num (sq fa k) (off (num (sq fa k)) (ndF' f) n + 2) := by
                  rw [hat _ (by omega)]
                  congr 1
                  omega
                rw [hroot, adO_yes HRT.out, hRL]
                refine load_all (mr_few HR.out).2.1 (by have := HBD.out; omega) ⟨?_, ?_⟩
                · intro j x hx
                  have hjk : j < k := by
                    have := (List.getElem?_eq_some_iff.1 hx).1
                    rw [layB_len] at this
                    omega
                  have hjg : j < gs.length := by rw [HGL1.out]; exact hjk
                  rw [← HG1.out, List.getElem?_map, List.getElem?_eq_getElem hjg] at hx
                  simp only [Option.map_some, Option.some.injEq] at hx
                  rw [hat j hjk, blk_ix hinj (List.mem_range.2 hjk), HPJ.out j hjg, ← hx]
                  rfl
                · intro j hj
                  rw [hat j (by omega), ← HNE.out]
                  exact HFAB.out j
              have hRLlen : RL.length = k := by rw [hRL, allR_len]; exact (HLB.out _).symm
              have hRLd : RL.Nodup := by
                rw [hRL]
                refine allR_once fun i' j' h1 h2 e => ?_
                rw [← HLB.out] at h1 h2
                rw [hat _ h1, hat _ h2] at e
                exact HINJ.out _ _ h1 h2 e
              have hRLb : ∀ z, z ∈ RL → 1 ≤ z ∧ z ≤ N := by
                intro z hz
                rw [hRL, allR] at hz
                obtain ⟨j, hj, rfl⟩ := List.mem_map.1 hz
                have h1 := ((ax_bd _ _ _).1 j).1 hj
                rw [← HLB.out] at h1
                rw [hat j h1]
                exact HFAB.out j
              have HRD := Lib.hid (And.intro hRLlen (And.intro hRLd hRLb))
              have HSTO := Lib.hid hsto
              have HRUN := Lib.hid hrun
              have k2 : (k : Int) - 1 = ((k - 1 : Nat) : Int) := by omega
              have k3 : ((k - 1 : Nat) : Int) < (k : Int) := by omega
              obtain ⟨m, hm⟩ : ∃ m : Nat, m = k - 1 := ⟨_, rfl⟩
              rw [← hm] at x5 k2 k3
              obtain ⟨zr, hzr⟩ : ∃ zr, zr = fa m := ⟨_, rfl⟩
              rw [← hzr] at x5
              have HZR := Lib.hid (show fa (k - 1) = zr by rw [hzr, hm])
              have k4 : (0 : Int) ≤ (m : Int) := by omega
              have hwm : IntKind.i64.wrap (m : Int) = (m : Int) := IntWalk.i64_in _ (by omega)
              have hgl9 := hx9.lt
              have HBW := Lib.hid (show Below w.heap.size w wr from HB10.out.trans (HT.out.below HB10.out.size (by
                rintro j (e | e)
                · have := HB6.out.size
                  have := HGS.out
                  omega
                · have := HB10.out.size
                  have := HB2.out
                  omega)))
              clear hpin hat hrun hsto hx9 hm hzr hRLlen hRLd hRLb hRL
              go_wp2_with (fail)
              go_upto_region 25 with fail
              refine wp_region_held_drew (S := (fun w' => w'.cell? ⟨g, 0, none⟩ = some (.int .i64 d) ∧ w'.cell? ⟨g, 1, none⟩ = some (.int .i64 r) ∧ w'.cell? ⟨g, 2, none⟩ = some (.int .i64 s) ∧ w'.cell? ⟨ba, oa + m, none⟩ = some (.int .i64 zr))) (by kernel_rfl) ?_ (fun hHeld => ?_)
              · exact ⟨c0, c1, c2, x5⟩
              refine wpAnyH_take (i := 0) (v := ?_) rfl (by kernel_rfl) (by kernel_rfl) (by kernel_rfl) (fun _ _ _ h => h) (Or.inl ⟨by rfl, fun w hSw => ?_⟩) (by assumption) ?_
              rotate_left
              · (try dsimp only at hSw); go_simp; try with_reducible rfl
              simp only [Act.put, List.setIfInBounds_toArray, List.set_cons_zero, List.set_cons_succ, List.getElem_toArray, List.getElem_cons_zero]
              refine wpAnyH_take (i := 1) (v := ?_) rfl (by kernel_rfl) (by kernel_rfl) (by kernel_rfl) (fun _ _ _ h => h) (Or.inl ⟨by rfl, fun w hSw => ?_⟩) (by assumption) ?_
              rotate_left
              · (try dsimp only at hSw); go_simp; try with_reducible rfl
              simp only [Act.put, List.setIfInBounds_toArray, List.set_cons_zero, List.set_cons_succ, List.getElem_toArray, List.getElem_cons_succ, List.getElem_cons_zero]
              refine wpAnyH_take (i := 2) (v := ?_) rfl (by kernel_rfl) (by kernel_rfl) (by kernel_rfl) (fun _ _ _ h => h) (Or.inl ⟨by rfl, fun w hSw => ?_⟩) (by assumption) ?_
              rotate_left
              · (try dsimp only at hSw); go_simp; try with_reducible rfl
              simp only [Act.put, List.setIfInBounds_toArray, List.set_cons_zero, List.set_cons_succ, List.getElem_toArray, List.getElem_cons_succ, List.getElem_cons_zero]
              refine wpAnyH_take (i := 3) (v := ?_) rfl (by kernel_rfl) (by kernel_rfl) (by kernel_rfl) (fun _ _ _ h => h) (Or.inl ⟨by rfl, fun w hSw => ?_⟩) (by assumption) ?_
              rotate_left
              · (try dsimp only at hSw); go_simp; try with_reducible rfl
              simp only [Act.put, List.setIfInBounds_toArray, List.set_cons_zero, List.set_cons_succ, List.getElem_toArray, List.getElem_cons_succ, List.getElem_cons_zero]
              refine wpAnyH_take (i := 4) (v := ?_) rfl (by kernel_rfl) (by kernel_rfl) (by kernel_rfl) (fun _ _ _ h => h) (Or.inl ⟨by rfl, fun w hSw => ?_⟩) (by assumption) ?_
              rotate_left
              · (try dsimp only at hSw); go_simp; try with_reducible rfl
              simp only [Act.put, List.setIfInBounds_toArray, List.set_cons_zero, List.set_cons_succ, List.getElem_toArray, List.getElem_cons_succ, List.getElem_cons_zero]
              refine wpAnyH_take (i := 5) (v := ?_) rfl (by kernel_rfl) (by kernel_rfl) (by kernel_rfl) (fun _ _ _ h => h) (Or.inl ⟨by rfl, fun w hSw => ?_⟩) (by assumption) ?_
              rotate_left
              · (try dsimp only at hSw); go_simp; try with_reducible rfl
              simp only [Act.put, List.setIfInBounds_toArray, List.set_cons_zero, List.set_cons_succ, List.getElem_toArray, List.getElem_cons_succ, List.getElem_cons_zero]
              refine wpAnyH_take (i := 6) (v := ?_) rfl (by kernel_rfl) (by kernel_rfl) (by kernel_rfl) (fun _ _ _ h => h) (Or.inl ⟨by rfl, fun w hSw => ?_⟩) (by assumption) ?_
              rotate_left
              · (try dsimp only at hSw); go_simp; try with_reducible rfl
              simp only [Act.put, List.setIfInBounds_toArray, List.set_cons_zero, List.set_cons_succ, List.getElem_toArray, List.getElem_cons_succ, List.getElem_cons_zero]
              refine wpAnyH_take (i := 7) (v := ?_) rfl (by kernel_rfl) (by kernel_rfl) (by kernel_rfl) (fun _ _ _ h => h) (Or.inl ⟨by rfl, fun w hSw => ?_⟩) (by assumption) ?_
              rotate_left
              · (try dsimp only at hSw); go_simp; try with_reducible rfl
              simp only [Act.put, List.setIfInBounds_toArray, List.set_cons_zero, List.set_cons_succ, List.getElem_toArray, List.getElem_cons_succ, List.getElem_cons_zero]
              refine wpAnyH_ready (rs := [8]) (by kernel_rfl) (by simp) ?_
              refine AllReadyH.cons rfl (fun K hK => ?_) AllReadyH.nil
              simp only [List.getElem_toArray, List.getElem_cons_succ, List.getElem_cons_zero]
              go_simp
              refine (pload_any d r s gS A _ cA Dt _ cD _ _ zr _ (HSTO.out.next (below_drewN (Below.refl _ _) 1))).mono ?_
              rintro e w15 ⟨hb15, hv⟩
              rw [← HZR.out, HRUN.out] at hv
              obtain ⟨al, nl, cl, a2, c2', fl, rfl, hnw, hok, hln, hins⟩ := hv
              have hy := Bx.next (w := wr.drew) (w' := w15) (b := g) (d := d) (r := r) (s := s) ⟨hgl9, c0, c1, c2⟩ hb15
              have x6 : w15.cell? ⟨ba, oa + m, none⟩ = some (.int .i64 zr) := (hb15.cell (p := ⟨ba, oa + m, none⟩) (Nat.lt_of_lt_of_le HBA2.out.1 HT.out.size)).trans x5
              have HY := Lib.hid hy
              have HB15 := Lib.hid (show Below w.heap.size w w15 from HBW.out.trans ((below_drewN (Below.refl wr.heap.size wr) 1).mono HBW.out.size |>.trans (hb15.mono HBW.out.size)))
              have HNW := Lib.hid hnw
              have HLN := Lib.hid hln
              have HINS := Lib.hid hins
              clear hb15 hy c0 c1 c2 x5 hnw hok hln hins
              go_wp2_with (fail)
              refine hK.out _ _ ⟨HY.out.c0, HY.out.c1, HY.out.c2, x6⟩ (fun hHeld => ?_)
              clear hK K
              refine wpAnyH_take (i := 9) (v := ?_) rfl (by kernel_rfl) (by kernel_rfl) (by kernel_rfl) (fun _ _ _ h => h) (Or.inl ⟨by rfl, fun w hSw => ?_⟩) (by assumption) ?_
              rotate_left
              · (try dsimp only at hSw); go_simp; try with_reducible rfl
              simp only [Act.put, List.setIfInBounds_toArray, List.set_cons_zero, List.set_cons_succ, List.getElem_toArray, List.getElem_cons_succ, List.getElem_cons_zero]
              refine wpAnyH_take (i := 10) (v := ?_) rfl (by kernel_rfl) (by kernel_rfl) (by kernel_rfl) (fun _ _ _ h => h) (Or.inl ⟨by rfl, fun w hSw => ?_⟩) (by assumption) ?_
              rotate_left
              · (try dsimp only at hSw); go_simp; try with_reducible rfl
              simp only [Act.put, List.setIfInBounds_toArray, List.set_cons_zero, List.set_cons_succ, List.getElem_toArray, List.getElem_cons_succ, List.getElem_cons_zero]
              refine wpAnyH_take (i := 11) (v := ?_) rfl (by kernel_rfl) (by kernel_rfl) (by kernel_rfl) (fun _ _ _ h => h) (Or.inl ⟨by rfl, fun w hSw => ?_⟩) (by assumption) ?_
              rotate_left
              · (try dsimp only at hSw); go_simp; try with_reducible rfl
              simp only [Act.put, List.setIfInBounds_toArray, List.set_cons_zero, List.set_cons_succ, List.getElem_toArray, List.getElem_cons_succ, List.getElem_cons_zero]
              refine wpAnyH_take (i := 12) (v := ?_) rfl (by kernel_rfl) (by kernel_rfl) (by kernel_rfl) (fun _ _ _ h => h) (Or.inl ⟨by rfl, fun w hSw => ?_⟩) (by assumption) ?_
              rotate_left
              · (try dsimp only at hSw); go_simp; try with_reducible rfl
              simp only [Act.put, List.setIfInBounds_toArray, List.set_cons_zero, List.set_cons_succ, List.getElem_toArray, List.getElem_cons_succ, List.getElem_cons_zero]
              refine wpAnyH_take (i := 13) (v := ?_) rfl (by kernel_rfl) (by kernel_rfl) (by kernel_rfl) (fun _ _ _ h => h) (Or.inl ⟨by rfl, fun w hSw => ?_⟩) (by assumption) ?_
              rotate_left
              · (try dsimp only at hSw); go_simp; try with_reducible rfl
              simp only [Act.put, List.setIfInBounds_toArray, List.set_cons_zero, List.set_cons_succ, List.getElem_toArray, List.getElem_cons_succ, List.getElem_cons_zero]
              refine wpAnyH_take (i := 14) (v := ?_) rfl (by kernel_rfl) (by kernel_rfl) (by kernel_rfl) (fun _ _ _ h => h) (Or.inl ⟨by rfl, fun w hSw => ?_⟩) (by assumption) ?_
              rotate_left
              · (try dsimp only at hSw); go_simp; try with_reducible rfl
              simp only [Act.put, List.setIfInBounds_toArray, List.set_cons_zero, List.set_cons_succ, List.getElem_toArray, List.getElem_cons_succ, List.getElem_cons_zero]
              refine wpAnyH_take (i := 15) (v := ?_) rfl (by kernel_rfl) (by kernel_rfl) (by kernel_rfl) (fun _ _ _ h => h) (Or.inl ⟨by rfl, fun w hSw => ?_⟩) (by assumption) ?_
              rotate_left
              · (try dsimp only at hSw); go_simp; try with_reducible rfl
              simp only [Act.put, List.setIfInBounds_toArray, List.set_cons_zero, List.set_cons_succ, List.getElem_toArray, List.getElem_cons_succ, List.getElem_cons_zero]
              refine wpAnyH_done (by kernel_rfl) ?_ _
              clear hHeld x6
              have HL15 := Lib.hid (HL.out.next HB15.out)
              have HFN := Lib.hid (show ∀ i, i < n → (f i).n ≤ 1000000000000 from fun i hi => by
                have h1 := (mr_few HR.out).2.2 i hi
                rcases HL15.out with h0 | ⟨b', o', e', _, hc'⟩
                · omega
                · have := (hc' i hi).ins.len
                  omega)
              go_wp2_with (fail)
              refine (trimmed_any a n c f w15 HL15.out (by omega) HFN.out).mono ?_
              rintro e w16 ⟨a3, c3, g3, rfl, hn3, hg3, hb16⟩
              obtain ⟨hnl, hnd⟩ := lnL_tl HLN.out
              subst hnl
              have HN3 := Lib.hid hn3
              have HG3 := Lib.hid hg3
              have HND := Lib.hid hnd
              have HB16 := Lib.hid (HB15.out.trans (hb16.mono HB15.out.size))
              have HNW16 := Lib.hid (HNW.out.next hb16)
              have HINS16 := Lib.hid (HINS.out.next hb16)
              clear hn3 hg3 hb16 hnd HNW HINS
              go_wp2_with (fail)
              refine (sameList_yes al a3 nl cl c3 fl g3 w16 HNW16.out HN3.out (by omega) (fun i hi => ⟨by rw [HND.out i hi, (HG3.out i hi).1], ?_⟩)).mono ?_
              · have h1 := (HND.out i hi)
                have h2 : (fl i).ks.length ≤ 828 := by
                  have h3 : (fl i).nd.ads = (trn (ndF' f i)).ads := by rw [h1]
                  have h4 : (fl i).ks = trm (f i).ks := h3
                  have h5 := (mr_few HR.out).2.2 i hi
                  rw [h4, trm, List.length_take]
                  omega
                rcases HNW16.out with h0 | ⟨b', o', e', _, hc'⟩
                · omega
                · have := (hc' i hi).ins.len
                  omega
              rintro e w17 ⟨rfl, hb17⟩
              have HB17 := Lib.hid (HB16.out.trans (hb17.mono HB16.out.size))
              have HINS17 := Lib.hid (HINS16.out.next hb17)
              have hrl := HRD.out.1
              clear hb17 HN3 HG3 HND HNW16 HINS16
              have HK0 := Lib.hid (KpAt.new w17)
              have HBN := Lib.hid ((Below.refl w17.heap.size w17).alloc (Nat.le_refl _) (.map #[] 0))
              obtain ⟨bm, hbm⟩ : ∃ bm, bm = w17.heap.size := ⟨_, rfl⟩
              have HBM := Lib.hid hbm
              go_wp2_with (fail)
              rw [← hbm] at HK0
              rw [← hbm]
              clear hbm hrl
              go_loopw [19] (fun v wi => ∃ (q : Nat) (m : List Int), q ≤ k ∧ v = .int .i64 q ∧ KpAt wi bm m q ∧ (∀ z, z ∈ m ↔ ∃ j, j < q ∧ num RL j = z) ∧ Below w17.heap.size w17 wi) (fun v _ => k - (RowKit.intOf v).toNat)
              case atStart => exact ⟨0, [], by omega, rfl, HK0.out, (fun z => ⟨(fun h => (by cases h)), (fun h => (by obtain ⟨j, hj, _⟩ := h; omega))⟩), HBN.out⟩
              case round =>
                obtain ⟨q, ms, hq, rfl, hka, hmem, hbi⟩ := hrel
                have HKA := Lib.hid hka
                have HMEM := Lib.hid hmem
                have HBI := Lib.hid hbi
                clear hka hmem hbi
                by_cases hqk : q < k
                · have hqr : q < RL.length := by rw [HRD.out.1]; exact hqk
                  obtain ⟨b2, o2, rfl, hl2, hc2⟩ := (HINS17.out.next HBI.out).at (by omega : 0 < RL.length)
                  have hc := hc2 q hqr
                  obtain ⟨z, hz⟩ : ∃ z, z = num RL q := ⟨_, rfl⟩
                  rw [← hz] at hc
                  have hzm : z ∈ RL := by rw [hz]; simp [num, List.getD, hqr]
                  have hzb := HRD.out.2.2 z hzm
                  have hnb := HNB.out
                  have hzn : z ∉ ms := by
                    rw [HMEM.out]
                    rintro ⟨j, hj, e⟩
                    rw [hz] at e
                    have hjr : j < RL.length := by omega
                    simp only [num, List.getD, List.getElem?_eq_getElem hjr, List.getElem?_eq_getElem hqr, Option.getD_some] at e
                    exact List.pairwise_iff_getElem.1 HRD.out.2.1 j q hjr hqr hj e
                  have hlk := HKA.out.no (a := z) (by omega) hzn
                  obtain ⟨w7, hup, hs7, ht7⟩ := HKA.out.put (a := z) (by omega) (by omega)
                  have HB7 := Lib.hid ((HBI.out).grown ht7.grown HBI.out.size (fun j hj => by cases hj; exact Nat.le_of_eq HBM.out.symm))
                  have HS7 := Lib.hid hs7
                  have HZ := Lib.hid hz
                  have q0 : (0 : Int) ≤ (q : Int) := by omega
                  have q1 : (q : Int) < (k : Int) := by omega
                  have q2 : (q : Int) < (RL.length : Int) := by omega
                  clear hs7 ht7 hz hzm hzb hzn hc2 hnb
                  go_wp2_with (fail)
                  go_roundw
                  case rel =>
                    refine ⟨q + 1, _, by omega, by go_num, HS7.out, fun y => ?_, HB7.out⟩
                    rw [mem_insK, HMEM.out]
                    constructor
                    · rintro (rfl | ⟨j, hj, e⟩)
                      · exact ⟨q, by omega, HZ.out.symm⟩
                      · exact ⟨j, by omega, e⟩
                    · rintro ⟨j, hj, e⟩
                      by_cases e2 : j = q
                      · subst e2; exact .inl (by rw [← e, HZ.out])
                      · exact .inr ⟨j, by omega, e⟩
                  case measure => simp [RowKit.intOf]; omega
                · obtain rfl : q = k := by omega
                  go_wp2_with (fail)
                  go_ret
                  exact ⟨rfl, HB17.out.trans (HBI.out.mono HB17.out.size)⟩
end Go.Proofs.Ytegcjpocdfmpfaa
