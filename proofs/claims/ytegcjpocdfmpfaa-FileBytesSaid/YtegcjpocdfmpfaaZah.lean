/-
  Write, by contract: the walk.
-/
import Derived.Test.YtegcjpocdfmpfaaZag
set_option linter.unusedVariables false
set_option linter.unusedSimpArgs false
set_option maxRecDepth 100000
set_option maxHeartbeats 16000000
namespace Go.Proofs.Ytegcjpocdfmpfaa
open Go.RowKit

/-- The first i numbers from K on are told anew. -/
def putF {α : Type} (f : Nat → α) (K i : Nat) (g : Nat → α) : Nat → α := fun k => if K ≤ k ∧ k < K + i then g (k - K) else f k
theorem putF_zero {α : Type} (f : Nat → α) (K : Nat) (g : Nat → α) : putF f K 0 g = f := by funext k; unfold putF; rw [if_neg (by omega)]
theorem putF_succ {α : Type} (f : Nat → α) (K i : Nat) (g : Nat → α) : upd (putF f K i g) (K + i) (g i) = putF f K (i + 1) g := by
  funext k
  unfold upd putF
  by_cases h : k = K + i
  · rw [if_pos h, if_pos (by omega), show k - K = i by omega]
  · rw [if_neg h]
    by_cases h2 : K ≤ k ∧ k < K + i
    · rw [if_pos h2, if_pos (by omega)]
    · rw [if_neg h2, if_neg (by omega)]
/-- A file's new blocks behind a Write. -/
def wrX (X : Nat → List Int) (at' : Nat) (zs : List Int) : Nat → List Int := fun k => if at' / 56 ≤ k ∧ k * 56 < at' + zs.length then bnO (nbL X at' zs k) else X k
theorem wrX_put {X : Nat → List Int} {at' pn : Nat} {zs : List Int} {M : Nat → List Int} (hn : 0 < zs.length) (hall : ∀ i, i < pn → psN at' (at' + zs.length) i < at' + zs.length) (hend : ¬ psN at' (at' + zs.length) pn < at' + zs.length) (hM : ∀ i, i < pn → M i = nbL X at' zs (ptK at' i)) :
    putF X (at' / 56) pn (fun j => bnO (M j)) = wrX X at' zs := by
  have hp : 0 < pn := by
    rcases Nat.eq_zero_or_pos pn with h | h
    · subst h; rw [psN_zero] at hend; omega
    · exact h
  obtain ⟨m, rfl⟩ : ∃ m, pn = m + 1 := ⟨pn - 1, by omega⟩
  obtain ⟨q1, q2, q3, q4, q5, q6, q7, q8⟩ := pt_ok (hall m (by omega))
  funext k
  unfold putF wrX
  unfold ptK at q4 q5
  by_cases h : at' / 56 ≤ k ∧ k < at' / 56 + (m + 1)
  · rw [if_pos h, if_pos (by omega)]
    dsimp only
    rw [hM _ (by omega)]
    unfold ptK
    rw [show at' / 56 + (k - at' / 56) = k by omega]
  · rw [if_neg h, if_neg (by omega)]
theorem fit_put {X : Nat → List Int} {K i : Nat} {M : Nat → List Int} (hf : ∀ k, X k = [] ∨ ((X k).length = 56 ∧ AllB (X k))) (hM : ∀ j, j < i → (M j).length = 56 ∧ AllB (M j)) (k : Nat) :
    putF X K i (fun j => bnO (M j)) k = [] ∨ ((putF X K i (fun j => bnO (M j)) k).length = 56 ∧ AllB (putF X K i (fun j => bnO (M j)) k)) := by
  unfold putF
  by_cases h : K ≤ k ∧ k < K + i
  · rw [if_pos h]
    dsimp only
    unfold bnO
    split
    · exact .inl rfl
    · exact .inr (hM _ (by omega))
  · rw [if_neg h]
    exact hf k
/-- What Write leaves. -/
def WrP (w : World) (b s p : Nat) (fr : Value) (T D : Nat → Prop) (A : Nat → Int) (X : Nat → List Int) (at' : Nat) (zs : List Int) (e : Ending) (w' : World) : Prop :=
  ∃ er, e = .returned (.int .i64 er) ∧ (er = 0 ∨ er = 14) ∧ ((∀ k, A k = 0) → er = 0) ∧ (er = 14 → Below w.heap.size w w') ∧
    (er = 0 → ∃ T' D' A' X', FlAt w' b (Nat.max s (at' + zs.length)) p fr T' D' A' X' ∧ (∀ j, T' j → T j ∨ w.heap.size ≤ j) ∧ (∀ j, D' j → D j ∨ w.heap.size ≤ j) ∧ Turn (fun j => T j ∨ j = b ∨ w.heap.size ≤ j) w w' ∧ ((∀ k, A k = 0) → (∀ k, A' k = 0) ∧ X' = wrX X at' zs))
theorem fwrite_main {w : World} {b s p : Nat} {fr : Value} {T D : Nat → Prop} {A : Nat → Int} {X : Nat → List Int} (h : FlAt w b s p fr T D A X) (hs : Src w fr A) (at' : Nat) (a : Option Addr) (n c : Nat) (zs : List Int) (hz : Pin w a n c zs) (hn : 0 < n) (hat : at' + n ≤ 46368) :
    Calls Try.prog 32 #[.pointer (some ⟨b, 0, none⟩), .int .i64 (at' : Int), .slice a n c] w (WrP w b s p fr T D A X at' zs) := by
  have hlz := hz.len
  have y1 : ¬ (at' : Int) < 0 := by omega
  have y2 : ¬ (46368 : Int) - (n : Int) < (at' : Int) := by omega
  have y3 : ((n : Int) == 0) = false := by simp; omega
  have y4 : IntKind.i64.wrap ((46368 : Int) - (n : Int)) = (46368 : Int) - (n : Int) := IntWalk.i64_in _ (by omega)
  obtain ⟨en, hen⟩ : ∃ en, en = at' + n := ⟨_, rfl⟩
  have y5 : IntKind.i64.wrap ((at' : Int) + (n : Int)) = (en : Int) := by rw [IntWalk.i64_in _ (by omega)]; omega
  have HF := Lib.hid h
  have HS := Lib.hid hs
  have HZ := Lib.hid hz
  have HEN := Lib.hid (show en = at' + zs.length ∧ en = at' + n ∧ en ≤ 46368 ∧ 0 < n by omega)
  have HN0 := Lib.hid hn
  clear h hs hz hlz hen hat hn
  go_enter Try.func32, Try.ntmps32
  go_wp2_with (fail)
  refine (parts_some at' en HEN.out.2.2.1 w).mono ?_
  rintro e w2 ⟨pa, pn, pc, rfl, hpts, hall, hend, hp829, hb⟩
  have HP := Lib.hid hpts
  have HALL := Lib.hid hall
  have HEND := Lib.hid hend
  have HB := Lib.hid hb
  have HZ2 := Lib.hid (HZ.out.next hb)
  clear hpts hall hend hb y1 y2 y3 y4 y5
  have HO := Lib.hid (show w2.ownsRow w2.heap.size 132 56 (.slice none 0 0) 0 (pyL (fun _ => []) 0) from ⟨rfl, .inl ⟨rfl, rfl⟩⟩)
  go_wp2_with (fail)
  go_loopw [2, 8, 10, 11, 12, 35] (fun v2 v8 _ _ _ v35 wr => ∃ (i : Nat) (M : Nat → List Int) (a2 : Option Addr) (c2 : Nat), i ≤ pn ∧ v35 = .int .i64 i ∧ v2 = .slice a2 (en - psN at' en i) c2 ∧ Pin w2 a2 (en - psN at' en i) c2 (zs.drop (psN at' en i - at')) ∧ wr.ownsRow w2.heap.size 132 56 v8 i (pyL M i) ∧ (∀ j, j < i → (M j).length = 56 ∧ AllB (M j) ∧ ((∀ k, A k = 0) → M j = nbL X at' zs (ptK at' j))) ∧ Below w2.heap.size w2 wr) (fun _ _ _ _ _ v35 _ => pn - (RowKit.intOf v35).toNat)
  case atStart => exact ⟨0, fun _ => [], a, c, by omega, rfl, by rw [psN_zero, show en - at' = n by have := HEN.out; omega], by rw [psN_zero, Nat.sub_self, List.drop_zero, show en - at' = n by have := HEN.out; omega]; exact HZ2.out, HO.out, (fun j hj => by omega), Below.refl _ _⟩
  case round =>
    obtain ⟨i, M, a2, c2, hi, rfl, rfl, hpin, ho, hM, hb⟩ := hrel
    have HPI := Lib.hid hpin
    have HO2 := Lib.hid ho
    have HM := Lib.hid hM
    have HB2 := Lib.hid hb
    clear hpin ho hM hb
    by_cases hlt : i < pn
    · have hpi := HALL.out i hlt
      obtain ⟨q1, q2, q3, q4, q5, q6, q7, q8⟩ := pt_ok hpi
      have hge := ps_ge (at' := at') (en := en) (i := i) fun k hk => HALL.out k (by omega)
      have hnb := fun z => nb_part (X := X) (at' := at') (en := en) (i := i) (zs := zs) (z := z) HEN.out.1 fun k hk => HALL.out k (by omega)
      rcases HP.out.next HB2.out with h0 | ⟨pb, po, rfl, hpl, hpc⟩
      · omega
      obtain ⟨d0, d1, d2⟩ := hpc i hlt
      obtain ⟨g2, o2, rfl, hgl2, _⟩ := HPI.out.at (by omega)
      have HG2 := Lib.hid hgl2
      obtain ⟨kk, hkk⟩ : ∃ kk, kk = ptK at' i := ⟨_, rfl⟩
      obtain ⟨ff, hff⟩ : ∃ ff, ff = ptF at' en i := ⟨_, rfl⟩
      obtain ⟨tt, htt⟩ : ∃ tt, tt = ptT at' en i := ⟨_, rfl⟩
      obtain ⟨xx, hxx⟩ : ∃ xx, xx = psN at' en i := ⟨_, rfl⟩
      obtain ⟨yy, hyy⟩ : ∃ yy, yy = psN at' en (i + 1) := ⟨_, rfl⟩
      rw [← hkk] at q4 q5 d0 hnb
      rw [← hff] at q2 q4 d1 hnb
      rw [← htt] at q2 q3 q5 d2 hnb
      rw [← hxx] at q4 q8 hnb hge hpi HPI ⊢
      rw [← hyy] at q5 q7 q8
      have hE := HEN.out
      have hk8 : kk < 828 := by omega
      have HK8 := Lib.hid hk8
      obtain ⟨mm, hmm⟩ : ∃ mm, mm = tt - ff := ⟨_, rfl⟩
      rw [← hmm] at hnb
      have HQ := Lib.hid (show ff < tt ∧ tt ≤ 56 ∧ xx = kk * 56 + ff ∧ yy = kk * 56 + tt ∧ xx < yy ∧ yy ≤ en ∧ at' ≤ xx ∧ mm = tt - ff ∧ mm ≤ en - xx by omega)
      have HNB := Lib.hid hnb
      have HYY := Lib.hid (And.intro hkk (And.intro hxx hyy))
      have k0 : (0 : Int) ≤ (i : Int) := by omega
      have k1 : (i : Int) < (pn : Int) := by omega
      have hsl0 := fun (g : Nat) (w : World) => run_slY_lh g ff mm (by omega) (by omega) w
      rw [show ff + mm = tt by omega] at hsl0
      have hsb := run_slB g2 o2 (en - xx) c2 mm (by omega)
      have hrest := HPI.out.rest mm
      obtain ⟨o3, ho3⟩ : ∃ o3, o3 = if c2 = mm then o2 else o2 + mm := ⟨_, rfl⟩
      rw [← ho3] at hsb
      have hpin3 : Pin w2 (some ⟨g2, o3, none⟩) (en - yy) (c2 - mm) (zs.drop (yy - at')) := by
        have e1 : en - xx - mm = en - yy := by omega
        have e2 : (zs.drop (xx - at')).drop mm = zs.drop (yy - at') := by rw [List.drop_drop]; congr 1; omega
        rw [e1, e2] at hrest
        by_cases hcm : c2 = mm
        · have hc2 := HPI.out.cap
          have e3 : en - yy = 0 := by omega
          rw [e3] at hrest ⊢
          refine ⟨⟨hrest.bys.len, hrest.bys.small, .inl rfl⟩, (fun e => by cases e), Nat.zero_le _, hrest.max⟩
        · rw [ho3, if_neg hcm]
          exact hrest
      rw [show en - xx - mm = en - yy by omega] at hsb
      have HP3 := Lib.hid hpin3
      clear hkk hff htt hxx hyy q1 q2 q3 q4 q5 q6 q7 q8 hge hpi hk8 hE hmm hpc hnb hrest hpin3 ho3 hgl2
      go_upto_region 10 with fail
      obtain ⟨w3, hw3⟩ : ∃ w3, w3 = wr.alloc (.cells #[.int .i64 (kk : Int), .int .i64 (ff : Int), .int .i64 (tt : Int)] 130) := ⟨_, rfl⟩
      have hb3 : Below wr.heap.size wr w3 := by rw [hw3]; exact (Below.refl _ _).alloc (Nat.le_refl _) _
      have hr3 : w3.heap[wr.heap.size]? = some (.cells #[.int .i64 (kk : Int), .int .i64 (ff : Int), .int .i64 (tt : Int)] 130 (0, 0)) := by rw [hw3]; exact heap_alloc_new wr _
      rw [← hw3]
      obtain ⟨bp, hbp⟩ : ∃ b, b = wr.heap.size := ⟨_, rfl⟩
      rw [← hbp] at hr3 ⊢
      have HR3 := Lib.hid hr3
      have HB3 := Lib.hid (HB2.out.trans (hb3.mono HB2.out.size))
      have HO3 := Lib.hid (HO2.out.kept (row := none) ⟨hb3.os, hb3.tape, hb3.output, hb3.size, fun k hk _ => hb3.block k hk⟩ (by cases u8.ownBlock <;> simp))
      clear hw3 hb3 hr3 hbp d0 d1 d2
      have c0 := cell_of_row w3 bp 0 _ _ (0, 0) HR3.out
      have c1 := cell_of_row w3 bp 1 _ _ (0, 0) HR3.out
      have c2' := cell_of_row w3 bp 2 _ _ (0, 0) HR3.out
      simp only [List.getElem?_toArray, List.getElem?_cons_zero, List.getElem?_cons_succ] at c0 c1 c2'
      go_wp2_with (fail)
      have HB3w := Lib.hid (HB.out.trans (HB3.out.mono HB.out.size))
      refine (fkept_any (HF.out.next HB3w.out) (HS.out.next HB3w.out) kk ff tt HK8.out (by have := HQ.out; omega) HQ.out.2.1).mono ?_
      rintro e w4 ⟨er, z, rfl, hl, hsm, her, hns, hb⟩
      have HB4 := Lib.hid (HB3.out.trans (hb.mono HB3.out.size))
      have HO4 := Lib.hid (HO3.out.kept (row := none) ⟨hb.os, hb.tape, hb.output, hb.size, fun k hk _ => hb.block k hk⟩ (by cases u8.ownBlock <;> simp))
      have HR4 := Lib.hid ((hb.block _ (lt_of_block HR3.out)).trans HR3.out)
      have HL := Lib.hid (And.intro hl (And.intro hsm hns))
      clear hb hl hsm hns c0 c1 c2'
      go_upto_region 11 with (first
        | (refine wpList_alY (by rfl) rfl ?_; intro w5 hw5 hy5 hb5; clear hw5)
        | (refine wpList_stY (by rfl) (.tmp 11) (.tmp 43) rfl w4.heap.size rfl no56 z rfl hy5 HL.out.1 HL.out.2.1 ?_; intro w6 hy6 ht6)
        | fail)
      have hb6 : Below w4.heap.size w4 w6 := below_of_turn hb5 (Nat.le_refl _) ht6
      have HY6 := Lib.hid hy6
      have HB6 := Lib.hid (HB4.out.trans (hb6.mono HB4.out.size))
      have HO6 := Lib.hid (HO4.out.kept (row := none) ⟨hb6.os, hb6.tape, hb6.output, hb6.size, fun k hk _ => hb6.block k hk⟩ (by cases u8.ownBlock <;> simp))
      have HR6 := Lib.hid ((hb6.block _ (lt_of_block HR4.out)).trans HR4.out)
      have HPA6 := Lib.hid (HPI.out.next HB6.out)
      obtain ⟨bz, hbz⟩ : ∃ b, b = w4.heap.size := ⟨_, rfl⟩
      have HBZ := Lib.hid (show w2.heap.size ≤ bz ∧ bp < bz ∧ g2 < bz by rw [hbz]; exact ⟨HB4.out.size, lt_of_block HR4.out, Nat.lt_of_lt_of_le HG2.out HB4.out.size⟩)
      have hv8 : ∀ j, u8.ownBlock = some j → j < bz := fun j e => by rw [hbz]; exact (World.ownsRow.lt HO4.out j e).2
      have HV8 := Lib.hid hv8
      rw [← hbz] at HY6 ⊢
      clear hy5 hb5 hy6 ht6 hb6 hbz hv8
      have hsl := hsl0 bz
      rcases her with rfl | rfl
      case inr =>
        clear hsl hsl0 hsb
        go_wp2_with (fail)
        go_ret
        exact ⟨14, rfl, .inr rfl, fun h => absurd (HL.out.2.2 h).1 (by decide), fun _ => HB.out.trans (HB6.out.mono HB.out.size), fun h => absurd h (by decide)⟩
      have c1 := cell_of_row w6 bp 1 _ _ (0, 0) HR6.out
      have c2' := cell_of_row w6 bp 2 _ _ (0, 0) HR6.out
      simp only [List.getElem?_toArray, List.getElem?_cons_zero, List.getElem?_cons_succ] at c1 c2'
      clear hsl0
      have HMIN := Lib.hid (show mm = Nat.min (en - xx) mm from (Nat.min_eq_right HQ.out.2.2.2.2.2.2.2.2).symm)
      go_upto_region 14 with (first
        | (refine wpList_cpY rfl (.tmp 53) (.tmp 54) rfl bz ff mm (56 - ff) (some ⟨g2, o2, none⟩) (en - xx) c2 z (zs.drop (xx - at')) mm rfl rfl HY6.out HPA6.out.bys HMIN.out (by have := HQ.out; omega) ?_; intro w7 hy7 ht7; clear c1 c2')
        | fail)
      have hb7 : Below w2.heap.size w2 w7 := HB6.out.trans (ht7.below HB6.out.size fun k e => by rw [e]; exact HBZ.out.1)
      have HY7 := Lib.hid hy7
      have HB7 := Lib.hid hb7
      have HO7 := Lib.hid (show w7.ownsRow w2.heap.size 132 56 u8 i (pyL M i) from ⟨HO6.out.1, by
        rcases HO6.out.2 with h1 | ⟨g, cap, cur, e, hb', hg, r⟩
        · exact .inl h1
        · have := HV8.out g (by rw [e]; rfl)
          exact .inr ⟨g, cap, cur, e, hb', (ht7.block g (lt_of_block hg) (by omega)).trans hg, r⟩⟩)
      obtain ⟨zz, hzz⟩ : ∃ zz, zz = cpY z ff mm (zs.drop (xx - at')) := ⟨_, rfl⟩
      have HZZ := Lib.hid (show (∀ k, A k = 0) → zz = nbL X at' zs kk from fun h => by
        obtain ⟨h1, h2⟩ := HL.out.2.2 h
        rw [hzz]
        exact HNB.out z (by rw [h2, HQ.out.2.2.2.2.2.2.2.1]) HL.out.1)
      rw [← hzz] at HY7
      clear hb7 hy7 ht7 hzz hsl
      have hzl := HY7.out.len
      go_wp2_with (first
        | (at_builtin; go_must (refine wpList_apY rfl (.tmp 57) (.tmp 59) rfl w2.heap.size u8 i M zz rfl (HO7.out.alloc _) (fun j hj => (HM.out j hj).1) hzl w7.heap.size rfl (heap_alloc_new w7 _) (by omega) (by have := HB7.out.size; simp; omega) w2 (HB7.out.alloc HB7.out.size _) ?_; intro v9 w9 ho9 hb9; have HO9 := Lib.hid ho9; have HB9 := Lib.hid hb9; clear ho9 hb9))
        | (refine wpList_ldY (by rfl) (.tmp 11) rfl bz rfl zz HY7.out ?_)
        | (refine wpList_bsY (by rfl) (.tmp 58) rfl zz rfl hzl ?_)
        | fail)
      go_roundw
      case rel =>
        refine ⟨i + 1, upM M i zz, some ⟨g2, o3, none⟩, c2 - mm, by omega, by go_num, by rw [← HYY.out.2.2], ?_, HO9.out, fun j hj => ?_, HB9.out⟩
        · rw [← HYY.out.2.2]
          exact HP3.out
        · unfold upM
          by_cases e : j = i
          · subst e
            rw [if_pos rfl, ← HYY.out.1]
            exact ⟨HY7.out.len, HY7.out.small, HZZ.out⟩
          · rw [if_neg e]
            exact HM.out j (by omega)
      case measure => simp [RowKit.intOf]; omega
    · obtain rfl : i = pn := by omega
      obtain ⟨w3, hw3⟩ : ∃ w3, w3 = wr := ⟨_, rfl⟩
      subst hw3
      obtain ⟨a8, c8, rfl, hpy, _, hlo8⟩ := pys_own HO2.out (fun j hj => (HM.out j hj).1)
      have HPY := Lib.hid hpy
      have HLO8 := Lib.hid hlo8
      have HWX := Lib.hid (show (∀ k, A k = 0) → putF X (at' / 56) i (fun j => bnO (M j)) = wrX X at' zs from fun h => wrX_put (by have := HEN.out; omega) (by rw [← HEN.out.1]; exact HALL.out) (by rw [← HEN.out.1]; exact HEND.out) fun j hj => (HM.out j hj).2.2 h)
      have HB3 := Lib.hid (HB.out.trans (HB2.out.mono HB.out.size))
      have HF3 := Lib.hid (HF.out.next HB3.out)
      have hTD : ∀ j, T j → D j := pmp_ok.td HF.out.mp
      have hDL : ∀ j, D j → j < w.heap.size := pmp_ok.lt HF.out.mp
      have HTD := Lib.hid (And.intro hTD hDL)
      have hkb : ∀ q, q < i → at' / 56 + q < 828 := by
        intro q hq
        have h1 := HALL.out q hq
        obtain ⟨h2, _, _, h3, _⟩ := pt_ok h1
        unfold ptK at h3
        have := HEN.out
        omega
      have HKB := Lib.hid hkb
      obtain ⟨K0, hK0⟩ : ∃ K0, K0 = at' / 56 := ⟨_, rfl⟩
      rw [← hK0] at HKB HWX
      have hq1 : (at' : Int).tdiv 56 = (K0 : Int) := by rw [Int.tdiv_eq_ediv_of_nonneg (by omega)]; omega
      have HQ1 := Lib.hid hq1
      have HA2 := Lib.hid (show at' ≤ 46368 by have := HEN.out; omega)
      clear hpy hlo8 hTD hDL hkb hK0 hq1 HO2 HPI
      go_wp2_with (fail)
      go_loopw [13, 14, 64] (fun v13 v14 v64 wk => ∃ (q : Nat) (T' D' : Nat → Prop), q ≤ i ∧ v64 = .int .i64 q ∧ wk.heap[b]? = some (.cells #[.int .i64 (s : Int), .pointer (some ⟨p, 0, none⟩), fr] 125 (0, 0)) ∧ Pmp wk p T' D' (putF A K0 q fun _ => 0) (putF X K0 q fun j => bnO (M j)) ∧ (∀ j, T' j → T j ∨ w3.heap.size ≤ j) ∧ (∀ j, D' j → D j ∨ w3.heap.size ≤ j) ∧ Turn (fun j => T j ∨ w3.heap.size ≤ j) w3 wk) (fun _ _ v64 _ => i - (RowKit.intOf v64).toNat)
      case atStart => exact ⟨0, T, D, by omega, rfl, HF3.out.row, by rw [putF_zero, putF_zero]; exact HF3.out.mp, (fun j h => .inl h), (fun j h => .inl h), Turn.refl _ _⟩
      case round =>
        obtain ⟨q, T', D', hqi, rfl, hrow, hP, hT', hD', htn⟩ := hrel
        have HROW := Lib.hid hrow
        have HPM := Lib.hid hP
        have HT' := Lib.hid hT'
        have HD' := Lib.hid hD'
        have HTN := Lib.hid htn
        have HBD := Lib.hid (show b < w.heap.size ∧ ¬ D b ∧ w.heap.size ≤ w3.heap.size from ⟨lt_of_block HF.out.row, HF.out.nb, HB3.out.size⟩)
        clear hrow hP hT' hD' htn
        by_cases hlq : q < i
        · have hpw : Pys wr a8 i M := HPY.out.turn HTN.out fun y e => by
            have h1 := HLO8.out y e
            have h2 := HB.out.size
            rintro (h3 | h3)
            · have := HTD.out.2 _ (HTD.out.1 _ h3); omega
            · omega
          rcases hpw with h0 | ⟨g8, o8, rfl, hgl8, hc8⟩
          · omega
          have hcq := hc8 q hlq
          have hmq := HM.out q hlq
          obtain ⟨zq, hzq⟩ : ∃ zq, zq = M q := ⟨_, rfl⟩
          rw [← hzq] at hcq hmq
          have HZQ := Lib.hid hzq
          have HMQ := Lib.hid (And.intro hmq.1 hmq.2.1)
          have HCQ := Lib.hid hcq
          have k0 : (0 : Int) ≤ (q : Int) := by omega
          have k1 : (q : Int) < (i : Int) := by omega
          clear hc8 hzq hmq hcq hgl8
          go_upto_region 19 with (first
            | (refine wpList_ldYm (by rfl) (.tmp 67) rfl g8 (o8 + q * 56) rfl zq HMQ.out.1 HCQ.out ?_)
            | (refine wpList_alY (by rfl) rfl ?_; intro w5 hw5 hy5 hb5; clear hw5)
            | (refine wpList_stY (by rfl) (.tmp 14) (.tmp 68) rfl wr.heap.size rfl no56 zq rfl hy5 HMQ.out.1 HMQ.out.2 ?_; intro w6 hy6 ht6)
            | fail)
          have hb6 : Below wr.heap.size wr w6 := below_of_turn hb5 (Nat.le_refl _) ht6
          have hsl := run_slY wr.heap.size
          have hr6 := (hb6.block _ (lt_of_block HROW.out)).trans HROW.out
          have c1 := cell_of_row w6 b 1 _ _ (0, 0) hr6
          simp only [List.getElem?_toArray, List.getElem?_cons_zero, List.getElem?_cons_succ] at c1
          have HR6 := Lib.hid hr6
          have HY6 := Lib.hid hy6
          have HB6 := Lib.hid hb6
          have HP6 := Lib.hid (pmp_ok.next HPM.out hb6)
          have hq1 := HQ1.out
          have hk8 := HKB.out q hlq
          have z2 : IntKind.i64.wrap (K0 : Int) = (K0 : Int) := IntWalk.i64_in _ (by omega)
          have z3 : IntKind.i64.wrap ((K0 : Int) + (q : Int)) = ((K0 + q : Nat) : Int) := by rw [IntWalk.i64_in _ (by omega)]; omega
          clear hr6 hy5 hb5 hy6 ht6 hb6 hk8 k0 k1
          refine wp_region_held_drew (S := (fun w' => w'.cell? ⟨b, 1, none⟩ = some (.pointer (some ⟨p, 0, none⟩)))) (by kernel_rfl) c1 (fun hHeld => ?_)
          refine wpAnyH_take (i := 0) (v := ?_) rfl (by kernel_rfl) (by kernel_rfl) (by kernel_rfl) (fun _ _ _ h => h) (Or.inl ⟨by rfl, fun w hSw => ?_⟩) (by assumption) ?_
          rotate_left
          · (try dsimp only at hSw); go_simp; try with_reducible rfl
          simp only [Act.put, List.setIfInBounds_toArray, List.set_cons_zero, List.set_cons_succ, List.getElem_toArray, List.getElem_cons_zero]
          refine wpAnyH_take (i := 1) (v := ?_) rfl (by kernel_rfl) (by kernel_rfl) (by kernel_rfl) (fun _ _ _ h => h) (Or.inl ⟨by rfl, fun w hSw => ?_⟩) (by assumption) ?_
          rotate_left
          · (try dsimp only at hSw); go_simp; try with_reducible rfl
          simp only [Act.put, List.setIfInBounds_toArray, List.set_cons_zero, List.set_cons_succ, List.getElem_toArray, List.getElem_cons_succ, List.getElem_cons_zero]
          refine wpAnyH_take (i := 2) (v := ?_) rfl (by kernel_rfl) (by kernel_rfl) (by kernel_rfl) (fun _ _ _ h => h) (Or.inl ⟨by rfl, fun w hSw => ?_⟩) (by assumption) ?_
          rotate_left
          · (try dsimp only at hSw); go_simp; try with_reducible rfl
          simp only [Act.put, List.setIfInBounds_toArray, List.set_cons_zero, List.set_cons_succ, List.getElem_toArray, List.getElem_cons_succ, List.getElem_cons_zero]
          refine wpAnyH_take (i := 3) (v := ?_) rfl (by kernel_rfl) (by kernel_rfl) (by kernel_rfl) (fun _ _ _ h => h) (Or.inl ⟨by rfl, fun w hSw => ?_⟩) (by assumption) ?_
          rotate_left
          · (try dsimp only at hSw); go_simp; try with_reducible rfl
          simp only [Act.put, List.setIfInBounds_toArray, List.set_cons_zero, List.set_cons_succ, List.getElem_toArray, List.getElem_cons_succ, List.getElem_cons_zero]
          refine wpAnyH_take (i := 4) (v := ?_) rfl (by kernel_rfl) (by kernel_rfl) (by kernel_rfl) (fun _ _ _ h => h) (Or.inl ⟨by rfl, fun w hSw => ?_⟩) (by assumption) ?_
          rotate_left
          · (try dsimp only at hSw); go_simp; try with_reducible rfl
          simp only [Act.put, List.setIfInBounds_toArray, List.set_cons_zero, List.set_cons_succ, List.getElem_toArray, List.getElem_cons_succ, List.getElem_cons_zero]
          refine wpAnyH_take (i := 5) (v := ?_) rfl (by kernel_rfl) (by kernel_rfl) (by kernel_rfl) (fun _ _ _ h => h) (Or.inl ⟨by rfl, fun w hSw => ?_⟩) (by assumption) ?_
          rotate_left
          · (try dsimp only at hSw); go_simp; try with_reducible rfl
          simp only [Act.put, List.setIfInBounds_toArray, List.set_cons_zero, List.set_cons_succ, List.getElem_toArray, List.getElem_cons_succ, List.getElem_cons_zero]
          refine wpAnyH_take (i := 6) (v := ?_) rfl (by kernel_rfl) (by kernel_rfl) (by kernel_rfl) (fun _ _ _ h => h) (Or.inl ⟨by rfl, fun w hSw => ?_⟩) (by assumption) ?_
          rotate_left
          · (try dsimp only at hSw); go_simp; try with_reducible rfl
          simp only [Act.put, List.setIfInBounds_toArray, List.set_cons_zero, List.set_cons_succ, List.getElem_toArray, List.getElem_cons_succ, List.getElem_cons_zero]
          refine wpAnyH_take (i := 7) (v := ?_) rfl (by kernel_rfl) (by kernel_rfl) (by kernel_rfl) (fun _ _ _ h => h) (Or.inl ⟨by rfl, fun w hSw => ?_⟩) (by assumption) ?_
          rotate_left
          · (try dsimp only at hSw); go_simp; try with_reducible rfl
          simp only [Act.put, List.setIfInBounds_toArray, List.set_cons_zero, List.set_cons_succ, List.getElem_toArray, List.getElem_cons_succ, List.getElem_cons_zero]
          refine wpAnyH_take (i := 8) (v := ?_) rfl (by kernel_rfl) (by kernel_rfl) (by kernel_rfl) (fun _ _ _ h => h) (Or.inl ⟨by rfl, fun w hSw => ?_⟩) (by assumption) ?_
          rotate_left
          · (try dsimp only at hSw); go_simp; try with_reducible rfl
          simp only [Act.put, List.setIfInBounds_toArray, List.set_cons_zero, List.set_cons_succ, List.getElem_toArray, List.getElem_cons_succ, List.getElem_cons_zero]
          refine wpAnyH_ready (rs := [9]) (by kernel_rfl) (by simp) ?_
          refine AllReadyH.cons rfl (fun K hK => ?_) AllReadyH.nil
          simp only [List.getElem_toArray, List.getElem_cons_succ, List.getElem_cons_zero]
          go_simp
          have hpo : puO ((K0 + q : Nat) : Int) zq = true := by
            unfold puO
            rw [inK_iff.2 (by have := HKB.out q hlq; omega), decide_eq_true HMQ.out.1]
            rfl
          have HPO := Lib.hid hpo
          have hdr : Below w6.heap.size w6 w6.drew := below_drewN (Below.refl _ _) 1
          refine (pmp_ok.put (pmp_ok.next HP6.out hdr) ((K0 + q : Nat) : Int) (some ⟨wr.heap.size, 0, none⟩) 56 56 zq (HY6.out.next hdr).all (fun _ y e ht => ?_)).mono ?_
          · cases e
            have h1 : wr.heap.size < w6.heap.size := HY6.out.lt
            have h2 := pmp_ok.td HPM.out _ ht
            have h3 := pmp_ok.lt HPM.out _ h2
            exact Nat.lt_irrefl _ h3
          rintro e w7 ⟨rfl, ht7, T2, D2, hP7, hT7, hD7⟩
          rw [HPO.out, if_pos rfl, if_pos rfl, Int.toNat_natCast] at hP7
          have hA := putF_succ A K0 q fun _ => (0 : Int)
          have hX := putF_succ X K0 q fun j => bnO (M j)
          rw [hA] at hP7
          rw [show bnO zq = bnO (M q) by rw [HZQ.out], hX] at hP7
          have hnb : ¬ T' b := fun h => by
            rcases HT'.out b h with h1 | h1
            · exact HBD.out.2.1 (HTD.out.1 _ h1)
            · have := HBD.out; omega
          have hdr2 : w6.drew.heap[b]? = some (.cells #[.int .i64 (s : Int), .pointer (some ⟨p, 0, none⟩), fr] 125 (0, 0)) := HR6.out
          have hr7 := (ht7.block b (lt_of_block hdr2) hnb).trans hdr2
          have hsz6 : w3.heap.size ≤ wr.heap.size := HTN.out.size
          have hT7' : ∀ j, T2 j → T j ∨ w3.heap.size ≤ j := fun j h => by
            rcases hT7 j h with h1 | h1
            · exact HT'.out j h1
            · have h2 : w6.heap.size ≤ j := h1
              have := HB6.out.size
              exact .inr (by omega)
          have hD7' : ∀ j, D2 j → D j ∨ w3.heap.size ≤ j := fun j h => by
            rcases hD7 j h with h1 | h1
            · exact HD'.out j h1
            · have h2 : w6.heap.size ≤ j := h1
              have := HB6.out.size
              exact .inr (by omega)
          have htt : Turn (fun j => T j ∨ w3.heap.size ≤ j) w3 w7 := (HTN.out.trans ((Turn.of_below HB6.out).trans (Turn.of_below hdr))).trans (ht7.mono fun j h => HT'.out j h)
          have HR7 := Lib.hid hr7
          have HP7 := Lib.hid hP7
          have HT7 := Lib.hid hT7'
          have HD7 := Lib.hid hD7'
          have HTT := Lib.hid htt
          have c1' := cell_of_row w7 b 1 _ _ (0, 0) hr7
          simp only [List.getElem?_toArray, List.getElem?_cons_zero, List.getElem?_cons_succ] at c1'
          clear ht7 hP7 hT7 hD7 hA hX hnb hdr2 hr7 hsz6 hT7' hD7' htt hpo hdr hsl hq1 z2 z3
          rw [HPO.out, if_pos rfl]
          go_wp2_with (fail)
          refine hK.out _ _ c1' (fun hHeld => ?_)
          clear hK K
          refine wpAnyH_done (by kernel_rfl) ?_ _
          clear hHeld c1 c1'
          go_wp2_with (fail)
          go_roundw
          case rel => exact ⟨q + 1, T2, D2, by omega, by go_num, HR7.out, HP7.out, HT7.out, HD7.out, HTT.out⟩
          case measure => simp [RowKit.intOf]; omega
        · obtain rfl : q = i := by omega
          have c0 := cell_of_row wr b 0 _ _ (0, 0) HROW.out
          have f0 := frozen_of_row wr b 0 _ _ HROW.out
          have l0 := lt_of_block HROW.out
          simp only [List.getElem?_toArray, List.getElem?_cons_zero, List.getElem?_cons_succ] at c0
          have hmx : max (s : Int) (en : Int) = ((Nat.max s en : Nat) : Int) := by
            have := Nat.max_def (n := s) (m := en)
            show _ = ((max s en : Nat) : Int)
            omega
          have hnb : ¬ D' b := fun h => by
            rcases HD'.out b h with h1 | h1
            · exact HBD.out.2.1 h1
            · have := HBD.out; omega
          have HNB := Lib.hid hnb
          clear hnb
          go_wp2_with (fail)
          go_ret
          have ht : Turn (fun j => j = b) wr (wr.setCell ⟨b, 0, none⟩ (.int .i64 ((Nat.max s en : Nat) : Int))) := Turn.setCell (M := fun j => j = b) wr (a := ⟨b, 0, none⟩) rfl _
          have hmx2 : Nat.max s en ≤ 46368 := Nat.max_le.2 ⟨HF.out.sz, HEN.out.2.2.1⟩
          refine ⟨0, rfl, .inl rfl, fun _ => rfl, fun h => absurd h (by decide), fun _ => ⟨T', D', _, _, ⟨?_, pmp_ok.turn HPM.out ht (fun j hj e => HNB.out (e ▸ hj)), HNB.out, ?_, fit_put HF.out.fit fun j hj => ⟨(HM.out j hj).1, (HM.out j hj).2.1⟩⟩, fun j hj => ?_, fun j hj => ?_, ?_, fun h => ⟨fun k => ?_, HWX.out h⟩⟩⟩
          · rw [heap_setCell_same wr b 0 _ _ _ HROW.out, ← HEN.out.1]
            rfl
          · rw [← HEN.out.1]
            exact hmx2
          · rcases HT'.out j hj with h1 | h1
            · exact .inl h1
            · have := HBD.out; exact .inr (by omega)
          · rcases HD'.out j hj with h1 | h1
            · exact .inl h1
            · have := HBD.out; exact .inr (by omega)
          · refine (Turn.of_below HB3.out).trans ((HTN.out.mono fun j hj => ?_).trans (ht.mono fun j hj => .inr (.inl hj)))
            rcases hj with h1 | h1
            · exact .inl h1
            · have := HBD.out; exact .inr (.inr (by omega))
          · unfold putF
            split
            · rfl
            · exact h k
end Go.Proofs.Ytegcjpocdfmpfaa
