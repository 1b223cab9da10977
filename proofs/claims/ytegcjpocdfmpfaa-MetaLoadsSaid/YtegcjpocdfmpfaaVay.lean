/-
  The program's Build, by contract: the walk.
-/
import Derived.Test.YtegcjpocdfmpfaaVax
import Derived.Test.YtegcjpocdfmpfaaVae
import Derived.Test.YtegcjpocdfmpfaaVaj
import Derived.Test.YtegcjpocdfmpfaaVah
set_option linter.unusedVariables false
set_option linter.unusedSimpArgs false
set_option maxRecDepth 100000
set_option maxHeartbeats 16000000
namespace Go.Proofs.Ytegcjpocdfmpfaa
open Go.RowKit

theorem pbuild_fr (d r s : Int) (a aa : Option Addr) (n c na ca : Nat) (f : Nat → Nw) (ks : List Int) (w : World) (hl : NwsAt w a n f) (hn6 : n ≤ 1000000) (hi : Ins w aa na ks) (hna : na ≤ 1000000) :
    Calls Try.prog 15 #[gv d r s, .slice a n c, .slice aa na ca] w (BldF w (bldO d r s f n ks) (layB (num ks) (ndF' f) n)) := by
  have hmf := hmf
  have hx := Bx.mk' w d r s 23
  have hB : Below w.heap.size w (w.alloc (.cells #[.int .i64 d, .int .i64 r, .int .i64 s] 23 (0, 0))) := (Below.refl _ _).alloc (Nat.le_refl _) _
  obtain ⟨w1, hw1⟩ : ∃ w1, w1 = w.alloc (.cells #[.int .i64 d, .int .i64 r, .int .i64 s] 23 (0, 0)) := ⟨_, rfl⟩
  rw [← hw1] at hx hB
  have HB := Lib.hid hB
  have HX := Lib.hid hx
  have HL := Lib.hid (hl.next hB)
  have HI := Lib.hid (hi.next hB)
  have HKL := Lib.hid hi.len
  have HW := Lib.hid hw1
  have HN6 := Lib.hid hn6
  have HNA := Lib.hid hna
  obtain ⟨mr, hmr⟩ : ∃ z, z = mrO d r s (lnL f n) := ⟨_, rfl⟩
  have HM := Lib.hid hmr
  clear hx hB hl hw1 hmr hn6 hi hna
  cases mr with
  | false =>
    have HZ := Lib.hid (show bldO d r s f n ks = false by rw [bldO, ← HM.out]; rfl)
    go_enter Try.func15, Try.ntmps15
    go_wp2_with (fail)
    rw [← HW.out]
    have hcall := pmr_any d r s a n c f w1 HL.out HN6.out
    rw [← HM.out] at hcall
    refine hcall.mono ?_
    rintro e w2 ⟨rfl, hb⟩
    have HB2 := Lib.hid (HB.out.trans (hb.mono HB.out.size))
    clear hb hcall
    go_wp2_with (fail)
    go_ret2
    exact BldF.no HZ.out HB2.out
  | true =>
    obtain ⟨cn, hcn⟩ : ∃ z, z = cntO d r s f n := ⟨_, rfl⟩
    have HCN := Lib.hid hcn
    clear hcn
    by_cases hc : (na : Int) = cn
    case neg =>
      have d1 : ((na : Int) != cn) = true := by simp [hc]
      have HZ := Lib.hid (show bldO d r s f n ks = false by rw [bldO, ← HM.out, HKL.out, ← HCN.out, decide_eq_false hc]; rfl)
      clear hc
      go_enter Try.func15, Try.ntmps15
      go_wp2_with (fail)
      rw [← HW.out]
      have hcall := pmr_any d r s a n c f w1 HL.out HN6.out
      rw [← HM.out] at hcall
      refine hcall.mono ?_
      rintro e w2 ⟨rfl, hb⟩
      have HB2 := Lib.hid (HB.out.trans (hb.mono HB.out.size))
      have HX2 := Lib.hid (HX.out.next hb)
      have hcall2 := pcount_any d r s a n c f w2 (HL.out.next hb) HN6.out
      rw [← HCN.out] at hcall2
      have x0 := HX2.out.c0
      have x1 := HX2.out.c1
      have x2 := HX2.out.c2
      clear hb hcall
      go_wp2_with (fail)
      refine hcall2.mono ?_
      rintro e w3 ⟨rfl, hb⟩
      have HB3 := Lib.hid (HB2.out.trans (hb.mono HB2.out.size))
      clear hb hcall2 x0 x1 x2
      go_wp2_with (fail)
      go_ret2
      exact BldF.no HZ.out HB3.out
    case pos =>
      have d1 : ((na : Int) != cn) = false := by simp [hc]
      have HC := Lib.hid hc
      obtain ⟨an, han⟩ : ∃ z, z = ks.any fun a => !isA (adO d r s) a := ⟨_, rfl⟩
      have HAN := Lib.hid han
      clear hc han
      cases an with
      | true =>
        have HZ := Lib.hid (show bldO d r s f n ks = false by rw [bldO, ← HAN.out]; simp)
        go_enter Try.func15, Try.ntmps15
        go_wp2_with (fail)
        rw [← HW.out]
        have hcall := pmr_any d r s a n c f w1 HL.out HN6.out
        rw [← HM.out] at hcall
        refine hcall.mono ?_
        rintro e w2 ⟨rfl, hb⟩
        have HB2 := Lib.hid (HB.out.trans (hb.mono HB.out.size))
        have HX2 := Lib.hid (HX.out.next hb)
        have HI2 := Lib.hid (HI.out.next hb)
        have hcall2 := pcount_any d r s a n c f w2 (HL.out.next hb) HN6.out
        rw [← HCN.out] at hcall2
        have x0 := HX2.out.c0
        have x1 := HX2.out.c1
        have x2 := HX2.out.c2
        clear hb hcall
        go_wp2_with (fail)
        refine hcall2.mono ?_
        rintro e w3 ⟨rfl, hb⟩
        have HB3 := Lib.hid (HB2.out.trans (hb.mono HB2.out.size))
        have HX3 := Lib.hid (HX2.out.next hb)
        have HI3 := Lib.hid (HI2.out.next hb)
        clear hb hcall2 x0 x1 x2
        go_wp2_with (fail)
        have hcall3 := containsI_any 46 _ enters_b1 _ w3 (gives_no d r s w.heap.size w3 HX3.out) aa na ca ks HI3.out (by have := HNA.out; omega)
        rw [← HAN.out] at hcall3
        refine hcall3.mono ?_
        rintro e w4 ⟨rfl, hb⟩
        have HB4 := Lib.hid (HB3.out.trans (hb.mono HB3.out.size))
        clear hb hcall3
        go_wp2_with (fail)
        go_ret2
        exact BldF.no HZ.out HB4.out
      | false =>
        have HZ := Lib.hid (show bldO d r s f n ks = true by rw [bldO, ← HM.out, HKL.out, ← HCN.out, decide_eq_true HC.out, ← HAN.out]; rfl)
        obtain ⟨hr, hlr, h828⟩ := mr_few HM.out.symm
        have HRT := Lib.hid hr
        have HLR := Lib.hid hlr
        have H828 := Lib.hid h828
        have HOFF := Lib.hid (show na = off (num ks) (ndF' f) n + 3 by
          have h1 := HC.out
          rw [HCN.out, cntO, if_pos HM.out.symm, layB_len] at h1
          have h2 := off_same (num ks) (fun _ => 0) (ndF' f) n
          omega)
        have HK := Lib.hid (show ∀ i, i < na → 1 ≤ num ks i ∧ num ks i ≤ 65535 from fun i hi => by
          have h1 : (ks.any fun a => !isA (adO d r s) a) = false := HAN.out.symm
          rw [List.any_eq_false] at h1
          have hik : i < ks.length := by rw [HKL.out]; exact hi
          have h2 := h1 _ (List.getElem_mem hik)
          rw [show ks[i] = num ks i by simp [num, List.getD, hik]] at h2
          simp only [Bool.not_eq_true', Bool.not_eq_false] at h2
          have h3 := isA_iff.1 (by simpa using h2 : isA (adO d r s) (num ks i) = true)
          have h4 := adO_le d r s
          omega)
        clear hr hlr h828
        go_enter Try.func15, Try.ntmps15
        go_wp2_with (fail)
        rw [← HW.out]
        have hcall := pmr_any d r s a n c f w1 HL.out HN6.out
        rw [← HM.out] at hcall
        refine hcall.mono ?_
        rintro e w2 ⟨rfl, hb⟩
        have HB2 := Lib.hid (HB.out.trans (hb.mono HB.out.size))
        have HX2 := Lib.hid (HX.out.next hb)
        have HI2 := Lib.hid (HI.out.next hb)
        have HL2 := Lib.hid (HL.out.next hb)
        have hcall2 := pcount_any d r s a n c f w2 (HL.out.next hb) HN6.out
        rw [← HCN.out] at hcall2
        have x0 := HX2.out.c0
        have x1 := HX2.out.c1
        have x2 := HX2.out.c2
        clear hb hcall
        go_wp2_with (fail)
        refine hcall2.mono ?_
        rintro e w3 ⟨rfl, hb⟩
        have HB3 := Lib.hid (HB2.out.trans (hb.mono HB2.out.size))
        have HX3 := Lib.hid (HX2.out.next hb)
        have HI3 := Lib.hid (HI2.out.next hb)
        have HL3 := Lib.hid (HL2.out.next hb)
        clear hb hcall2 x0 x1 x2
        go_wp2_with (fail)
        have hcall3 := containsI_any 46 _ enters_b1 _ w3 (gives_no d r s w.heap.size w3 HX3.out) aa na ca ks HI3.out (by have := HNA.out; omega)
        rw [← HAN.out] at hcall3
        refine hcall3.mono ?_
        rintro e w4 ⟨rfl, hb⟩
        have HB4 := Lib.hid (HB3.out.trans (hb.mono HB3.out.size))
        have HI4 := Lib.hid (HI3.out.next hb)
        have HL4 := Lib.hid (HL3.out.next hb)
        clear hb hcall3 HX HX2 HX3 HB HB2 HB3 HI HI2 HI3 HL HL2 HL3 HM HC HCN HAN HW d1 hmf
        have n56 := HLR.out.l2
        obtain ⟨wl, hwl⟩ : ∃ wl, wl = w4.alloc (.cells #[.slice aa na ca, .slice none 0 0] 89 (0, 0)) := ⟨_, rfl⟩
        obtain ⟨wq, hwq⟩ : ∃ wq, wq = wl.alloc (.cells (arr 56 noA) 92 (0, 0)) := ⟨_, rfl⟩
        have hbl : Below w4.heap.size w4 wl := by rw [hwl]; exact (Below.refl _ _).alloc (Nat.le_refl _) _
        have hbq : Below wl.heap.size wl wq := by rw [hwq]; exact (Below.refl _ _).alloc (Nat.le_refl _) _
        have hzl : wl.heap.size = w4.heap.size + 1 := by rw [hwl]; simp
        have hrl : wl.heap[w4.heap.size]? = some (.cells #[.slice aa na ca, .slice none 0 0] 89 (0, 0)) := by rw [hwl]; exact heap_alloc_new w4 _
        have hrq : wq.heap[wl.heap.size]? = some (.cells (arr 56 noA) 92 (0, 0)) := by rw [hwq]; exact heap_alloc_new wl _
        obtain ⟨bl, hbl0⟩ : ∃ b, b = w4.heap.size := ⟨_, rfl⟩
        obtain ⟨bR, hbR⟩ : ∃ b, b = wl.heap.size := ⟨_, rfl⟩
        have HPl := Lib.hid (show PlO w4 wl (fun j => j = bl) bl aa na ca ks (.slice none 0 0) [] from
          ⟨⟨ownB_nil _ _, (fun j e => by rw [e]; omega), (fun j e => by cases e), (fun x hx => by simp at hx), hbl⟩, rfl, by rw [hbl0]; exact hrl, HI4.out⟩)
        have HPq := Lib.hid (show PlO w4 wq (fun j => j = bl ∨ j = bR) bl aa na ca ks (.slice none 0 0) [] from HPl.out.box hbq (j := bR) (by omega) (by rw [hbR]; exact lt_of_block hrq) (fun i e => e) (.inl rfl))
        rw [← hbR] at hrq
        have HRq := Lib.hid hrq
        have HLQ := Lib.hid (show w4.heap.size ≤ bl ∧ bl < bR by omega)
        have HWL := Lib.hid hwl
        have HWQ := Lib.hid hwq
        have HBL0 := Lib.hid hbl0
        have HBR := Lib.hid hbR
        clear hwl hwq hbl hbq hzl hrl hrq hbl0 hbR
        go_wp2_with (first | (refine wpList_alA ar56 (by rfl) rfl ?_; rw [← HWL.out, ← HWQ.out, ← HBL0.out, ← HBR.out]) | fail)
        go_loopw [12, 13, 40] (fun v12 v13 v40 wr => ∃ (i : Nat) (u : Value) (gs : List Bl), i ≤ n ∧ v40 = .int .i64 i ∧ gs.map Bl.bk = lB (num ks) (ndF' f) i ∧ PlO w4 wr (fun j => j = bl ∨ j = bR) bl aa na ca ks u gs ∧ wr.heap[bR]? = some (.cells (arr 56 (chP (num ks) (ndF' f) i)) 92 (0, 0))) (fun _ _ v40 _ => n - (RowKit.intOf v40).toNat)
        case atStart => exact ⟨0, _, [], by omega, rfl, rfl, HPq.out, HRq.out⟩
        case round =>
          obtain ⟨i, u, gs, hi, rfl, hg, hP, hR⟩ := hrel
          have HG := Lib.hid hg
          have HP := Lib.hid hP
          have HR := Lib.hid hR
          have HGL := Lib.hid (show gs.length = off (num ks) (ndF' f) i by
            have := congrArg List.length hg
            rw [List.length_map] at this
            exact this)
          have HGS := Lib.hid (show gs.length ≤ 31 * 56 by
            have h1 := lB_le (num ks) (ndF' f) i
            have h2 := HGL.out
            rw [off] at h2
            omega)
          clear hg hP hR HPq HRq
          by_cases hlt : i < n
          · have k1 : (i : Int) < (n : Int) := by omega
            obtain ⟨b, o0, rfl, hbl, hcs⟩ : ∃ b off, a = some ⟨b, off, none⟩ ∧ b < wr.heap.size ∧ ∀ i, i < n → NwIn wr b (off + i * 5) (f i) := by
              rcases HL4.out.next HP.out.o.bel with h0 | h0
              · omega
              · exact h0
            have hx := hcs i hlt
            have hndr := HLR.out.nd i hlt
            have hino := HLR.out.pos hlt
            have hino2 := HLR.out.top i hlt
            have hx8 := H828.out i hlt
            have hOS := off_succ (num ks) (ndF' f) i
            have hOU := off_up (num ks) (ndF' f) (show i + 1 ≤ n by omega)
            have hLS : lB (num ks) (ndF' f) (i + 1) = lB (num ks) (ndF' f) i ++ ndB (num ks) (f i).nd (lB (num ks) (ndF' f) i).length := rfl
            have hCS : chP (num ks) (ndF' f) (i + 1) = upd (chP (num ks) (ndF' f) i) ((f i).ino - 1).toNat (num ks (off (num ks) (ndF' f) (i + 1) - 1)) := by
              funext j
              rw [chP]
              rfl
            rw [hOS] at hCS hOU
            obtain ⟨x, hxe⟩ : ∃ x, x = f i := ⟨_, rfl⟩
            have e0 : ndF' f i = x.nd := by rw [hxe]
            rw [← hxe] at hx hx8 hLS hCS
            rw [e0] at hndr hino hino2 hOU hCS
            rw [show off (num ks) (ndF' f) i + ((bod (num ks) x.nd (off (num ks) (ndF' f) i)).length + 1) - 1 = off (num ks) (ndF' f) i + (bod (num ks) x.nd (off (num ks) (ndF' f) i)).length by omega] at hCS
            obtain ⟨q, hq⟩ : ∃ q : Nat, x.ino = (q : Int) + 1 := ⟨(x.ino - 1).toNat, by have : 1 ≤ x.ino := hino; omega⟩
            have hq56 : q < 56 := by have : x.ino ≤ 56 := hino2; omega
            have hcq : (x.ino - 1).toNat = q := by omega
            rw [hcq] at hCS
            have HNDR := Lib.hid hndr
            have HX8 := Lib.hid (show x.n ≤ 828 by rw [← hx.ins.len]; exact hx8)
            have HLS := Lib.hid hLS
            have HCS := Lib.hid hCS
            have HOU := Lib.hid hOU
            have HQ := Lib.hid hq
            have HQ5 := Lib.hid hq56
            have c0 := hx.c0
            have c1 := hx.c1
            have c2 := hx.c2
            have c3 := hx.c3
            have c4 := hx.c4
            have v1 : IntKind.i64.wrap (x.ino - 1) = (q : Int) := by rw [hq, show (q : Int) + 1 - 1 = (q : Int) by omega]; exact IntWalk.i64_in _ (by omega)
            obtain ⟨w5, hw5⟩ : ∃ w5, w5 = wr.alloc (.cells #[.int .i64 x.ino, .int .i64 x.kind, .int .i64 x.links, .int .i64 x.size, .slice x.a x.n x.c] 83 (0, 0)) := ⟨_, rfl⟩
            have hb5 : Below wr.heap.size wr w5 := by rw [hw5]; exact (Below.refl _ _).alloc (Nat.le_refl _) _
            have hr5 : w5.heap[wr.heap.size]? = some (.cells (nwC x) 83 (0, 0)) := by rw [hw5]; exact heap_alloc_new wr _
            have HINS := Lib.hid (hx.ins.next hb5)
            obtain ⟨b12, hb12⟩ : ∃ b, b = wr.heap.size := ⟨_, rfl⟩
            have HP5 := Lib.hid (show PlO w4 w5 (fun j => (j = bl ∨ j = bR) ∨ j = b12) bl aa na ca ks u gs from HP.out.box hb5 (j := b12) (by omega) (by rw [hb12]; exact lt_of_block hr5) (fun i e => e) (.inl (.inl rfl)))
            have HR5 := Lib.hid ((hb5.block _ (lt_of_block HR.out)).trans HR.out)
            rw [← hb12] at hr5
            have HND := Lib.hid hr5
            have HB12 := Lib.hid (show bl < b12 ∧ bR < b12 by
              have h1 := lt_of_block HP.out.row
              have h2 := lt_of_block HR.out
              omega)
            have HW5 := Lib.hid hw5
            have HBE := Lib.hid hb12
            clear hx hx8 hxe e0 hndr hino hino2 hOS hOU hLS hCS hcs hq hq56 hcq hw5 hb5 hr5 hb12 HP HR
            go_upto_region 10 with fail
            rw [← HW5.out, ← HBE.out]
            have cN := fun i => cell_of_row w5 b12 i (nwC x) _ (0, 0) HND.out
            have m0 := cN 0
            have m1 := cN 1
            have m2 := cN 2
            have m3 := cN 3
            have m4 := cN 4
            simp only [nwC, List.getElem?_toArray, List.getElem?_cons_zero, List.getElem?_cons_succ] at m0 m1 m2 m3 m4
            have HSV := Lib.hid (show ∀ w' : World, w'.heap[b12]? = some (.cells (nwC x) 83 (0, 0)) → w'.cell? ⟨b12, 0, none⟩ = some (.int .i64 x.ino) ∧ w'.cell? ⟨b12, 1, none⟩ = some (.int .i64 x.kind) ∧ w'.cell? ⟨b12, 2, none⟩ = some (.int .i64 x.links) ∧ w'.cell? ⟨b12, 3, none⟩ = some (.int .i64 x.size) ∧ w'.cell? ⟨b12, 4, none⟩ = some (.slice x.a x.n x.c) from fun w' h =>
              have c := fun i => cell_of_row w' b12 i (nwC x) _ (0, 0) h
              ⟨c 0, c 1, c 2, c 3, c 4⟩)
            clear cN c0 c1 c2 c3 c4 v1 HW5 HBE
            obtain ⟨qd, hqd⟩ : ∃ qd : Nat, qd = q / 28 := ⟨_, rfl⟩
            obtain ⟨qm, hqm⟩ : ∃ qm : Nat, qm = q % 28 := ⟨_, rfl⟩
            have v2 : (q : Int).tdiv 28 = (qd : Int) := by rw [Int.tdiv_eq_ediv_of_nonneg (by omega), hqd]; omega
            have v3 : (q : Int).tmod 28 = (qm : Int) := by rw [Int.tmod_eq_emod_of_nonneg (by omega), hqm]; omega
            have v4 : (q : Int) % 28 = (qm : Int) := by omega
            have v5 : (q : Int) / 28 = (qd : Int) := by omega
            have v6 : IntKind.i64.wrap (qd : Int) = (qd : Int) := IntWalk.i64_in _ (by have := HQ5.out; omega)
            have u2 : (qd : Int) < 2 := by have := HQ5.out; omega
            have u3 : (qm : Int) < 28 := by omega
            have HQQ := Lib.hid (show q = qd * 28 + qm by omega)
            clear hqd hqm
            refine wp_region_held_drew (S := (fun w' => w'.cell? ⟨b12, 0, none⟩ = some (.int .i64 x.ino) ∧ w'.cell? ⟨b12, 1, none⟩ = some (.int .i64 x.kind) ∧ w'.cell? ⟨b12, 2, none⟩ = some (.int .i64 x.links) ∧ w'.cell? ⟨b12, 3, none⟩ = some (.int .i64 x.size) ∧ w'.cell? ⟨b12, 4, none⟩ = some (.slice x.a x.n x.c))) (by kernel_rfl) ⟨m0, m1, m2, m3, m4⟩ (fun hHeld => ?_)
            have HP6 := Lib.hid (show PlO w4 w5.drew (fun j => (j = bl ∨ j = bR) ∨ j = b12) bl aa na ca ks u gs from HP5.out.drew)
            have HND6 := Lib.hid (show w5.drew.heap[b12]? = some (.cells (nwC x) 83 (0, 0)) from HND.out)
            have HR6 := Lib.hid (show w5.drew.heap[bR]? = some (.cells (arr 56 (chP (num ks) (ndF' f) i)) 92 (0, 0)) from HR5.out)
            have HINS6 := Lib.hid (show Ins w5.drew x.a x.n x.ks from HINS.out.next (below_drewN (Below.refl _ _) 1))
            clear m0 m1 m2 m3 m4 HP5 HND HR5 HINS
            generalize hw6 : w5.drew = w6 at *
            clear hw6
            refine wpAnyH_take (i := 0) (v := ?_) rfl (by kernel_rfl) (by kernel_rfl) (by kernel_rfl) (fun _ _ _ h => h) (Or.inl ⟨by rfl, fun w hSw => ?_⟩) (by assumption) ?_
            rotate_left
            · (try dsimp only at hSw); go_simp; try with_reducible rfl
            simp only [Act.put, List.setIfInBounds_toArray, List.set_cons_zero, List.set_cons_succ, List.getElem_toArray, List.getElem_cons_zero]
            refine wpAnyH_take (i := 1) (v := ?_) rfl (by kernel_rfl) (by kernel_rfl) (by kernel_rfl) (fun _ _ _ h => h) (Or.inl ⟨by rfl, fun w hSw => ?_⟩) (by assumption) ?_
            rotate_left
            · (try dsimp only at hSw); go_simp; try with_reducible rfl
            simp only [Act.put, List.setIfInBounds_toArray, List.set_cons_zero, List.set_cons_succ, List.getElem_toArray, List.getElem_cons_succ, List.getElem_cons_zero]
            refine wpAnyH_take (i := 2) (v := ?_) rfl (by kernel_rfl) (by kernel_rfl) (by kernel_rfl) (fun _ _ _ h => h) (Or.inl ⟨by rfl, fun w hSw => ?_⟩) (by assumption) ?_
            rotate_left
            · (try dsimp only at hSw); go_simp; try with_reducible rfl
            simp only [Act.put, List.setIfInBounds_toArray, List.set_cons_zero, List.set_cons_succ, List.getElem_toArray, List.getElem_cons_succ, List.getElem_cons_zero]
            refine wpAnyH_take (i := 3) (v := ?_) rfl (by kernel_rfl) (by kernel_rfl) (by kernel_rfl) (fun _ _ _ h => h) (Or.inl ⟨by rfl, fun w hSw => ?_⟩) (by assumption) ?_
            rotate_left
            · (try dsimp only at hSw); go_simp; try with_reducible rfl
            simp only [Act.put, List.setIfInBounds_toArray, List.set_cons_zero, List.set_cons_succ, List.getElem_toArray, List.getElem_cons_succ, List.getElem_cons_zero]
            refine wpAnyH_take (i := 4) (v := ?_) rfl (by kernel_rfl) (by kernel_rfl) (by kernel_rfl) (fun _ _ _ h => h) (Or.inl ⟨by rfl, fun w hSw => ?_⟩) (by assumption) ?_
            rotate_left
            · (try dsimp only at hSw); go_simp; try with_reducible rfl
            simp only [Act.put, List.setIfInBounds_toArray, List.set_cons_zero, List.set_cons_succ, List.getElem_toArray, List.getElem_cons_succ, List.getElem_cons_zero]
            refine wpAnyH_take (i := 5) (v := ?_) rfl (by kernel_rfl) (by kernel_rfl) (by kernel_rfl) (fun _ _ _ h => h) (Or.inl ⟨by rfl, fun w hSw => ?_⟩) (by assumption) ?_
            rotate_left
            · (try dsimp only at hSw); go_simp; try with_reducible rfl
            simp only [Act.put, List.setIfInBounds_toArray, List.set_cons_zero, List.set_cons_succ, List.getElem_toArray, List.getElem_cons_succ, List.getElem_cons_zero]
            refine wpAnyH_take (i := 7) (v := ?_) rfl (by kernel_rfl) (by kernel_rfl) (by kernel_rfl) (fun _ _ _ h => h) (Or.inl ⟨by rfl, fun w hSw => ?_⟩) (by assumption) ?_
            rotate_left
            · (try dsimp only at hSw); go_simp; try with_reducible rfl
            simp only [Act.put, List.setIfInBounds_toArray, List.set_cons_zero, List.set_cons_succ, List.getElem_toArray, List.getElem_cons_succ, List.getElem_cons_zero]
            refine wpAnyH_ready (rs := [6]) (by kernel_rfl) (by simp) ?_
            refine AllReadyH.cons rfl (fun K hK => ?_) AllReadyH.nil
            simp only [List.getElem_toArray, List.getElem_cons_succ, List.getElem_cons_zero]
            go_simp
            refine (playN_any HP6.out x (adN d r s) (by have := (adN_bd HRT.out).2; omega) HNDR.out HINS6.out HX8.out HK.out (by have := HOU.out; have := HOFF.out; have := HGL.out; rw [HGL.out]; omega) (by have := HGS.out; omega)).mono ?_
            rintro e w7 ⟨u1, gs1, rfl, hp1, hg1, ht1, hu1⟩
            have HP7 := Lib.hid hp1
            have HND7 := Lib.hid (HP6.out.keep ht1 (.inr rfl) (by have := HB12.out; omega) HND6.out)
            have HR7 := Lib.hid (HP6.out.keep ht1 (.inl (.inr rfl)) (by have := HLQ.out; omega) HR6.out)
            have HG7 := Lib.hid (show gs1.map Bl.bk = lB (num ks) (ndF' f) (i + 1) by
              rw [hg1, HG.out, HLS.out, HGL.out]; rfl)
            obtain ⟨z, hz⟩ : ∃ z, z = num ks (gs.length + (bod (num ks) x.nd gs.length).length) := ⟨_, rfl⟩
            rw [← hz]
            have HZ' := Lib.hid hz
            clear hp1 hg1 ht1 hu1 hz HP6 HND6 HR6 HINS6
            go_wp2_with (fail)
            refine hK.out _ _ (HSV.out _ HND7.out) (fun hHeld => ?_)
            clear hK K
            refine wpAnyH_take (i := 8) (v := ?_) rfl (by kernel_rfl) (by kernel_rfl) (by kernel_rfl) (fun _ _ _ h => h) (Or.inl ⟨by rfl, fun w hSw => ?_⟩) (by assumption) ?_
            rotate_left
            · (try dsimp only at hSw); go_simp; try with_reducible rfl
            simp only [Act.put, List.setIfInBounds_toArray, List.set_cons_zero, List.set_cons_succ, List.getElem_toArray, List.getElem_cons_succ, List.getElem_cons_zero]
            have r0 := cell_of_row w7 bR (qd * 28 + qm) _ _ (0, 0) HR7.out
            rw [arr_at _ (by have := HQQ.out; have := HQ5.out; omega)] at r0
            have r1 := frozen_of_row w7 bR (qd * 28 + qm) _ _ HR7.out
            have r2 := lt_of_block HR7.out
            refine wpAnyH_ready (rs := [9]) (by kernel_rfl) (by simp) ?_
            refine AllReadyH.cons rfl (fun K hK => ?_) AllReadyH.nil
            simp only [List.getElem_toArray, List.getElem_cons_succ, List.getElem_cons_zero]
            go_simp
            obtain ⟨wE, hwE⟩ : ∃ wE, wE = w7.setCell ⟨bR, qd * 28 + qm, none⟩ (.int .i64 z) := ⟨_, rfl⟩
            rw [← hwE]
            have ht : Turn (fun j => j = bR) w7 wE := by rw [hwE]; exact Turn.setCell (M := fun j => j = bR) w7 (a := ⟨bR, qd * 28 + qm, none⟩) rfl _
            have HPE := Lib.hid (show PlO w4 wE (fun j => (j = bl ∨ j = bR) ∨ j = b12) bl aa na ca ks u1 gs1 from HP7.out.set ht (.inl (.inr rfl)) (by have := HLQ.out; omega))
            have HNDE := Lib.hid ((ht.block b12 (lt_of_block HND7.out) (by show ¬ b12 = bR; have := HB12.out; omega)).trans HND7.out)
            have HRE := Lib.hid (show wE.heap[bR]? = some (.cells (arr 56 (chP (num ks) (ndF' f) (i + 1))) 92 (0, 0)) by
              have h1 := HZ'.out
              rw [HGL.out] at h1
              rw [hwE, heap_setCell_same w7 bR (qd * 28 + qm) _ _ _ HR7.out, arr_set, HCS.out, ← HQQ.out, ← h1])
            refine hK _ _ (HSV.out _ HNDE.out) (fun hHeld => ?_)
            refine wpAnyH_done (by kernel_rfl) ?_ _
            clear hK K hwE ht r0 r1 r2 HP7 HND7 HR7
            go_wp2_with (fail)
            go_roundw
            case rel => exact ⟨i + 1, u1, gs1, by omega, by go_num, HG7.out, HPE.out.sub (fun j e => .inl e) (.inl rfl), HRE.out⟩
            case measure => simp [RowKit.intOf]; omega
          · have hin : i = n := by omega
            have k1 : ¬ (i : Int) < (n : Int) := by omega
            rw [hin] at HG HR HGL
            have HIN := Lib.hid hin
            clear hin hlt hi
            obtain ⟨wt, hwt⟩ : ∃ wt, wt = wr.alloc (.cells (arr 2 noA) 94 (0, 0)) := ⟨_, rfl⟩
            obtain ⟨bT, hbT⟩ : ∃ b, b = wr.heap.size := ⟨_, rfl⟩
            have hbt : Below wr.heap.size wr wt := by rw [hwt]; exact (Below.refl _ _).alloc (Nat.le_refl _) _
            have hrt : wt.heap[bT]? = some (.cells (arr 2 noA) 94 (0, 0)) := by rw [hwt, hbT]; exact heap_alloc_new wr _
            have HPt := Lib.hid (show PlO w4 wt (fun j => (j = bl ∨ j = bR) ∨ j = bT) bl aa na ca ks u gs from HP.out.box hbt (j := bT) (by omega) (lt_of_block hrt) (fun i e => e) (.inl (.inl rfl)))
            have HRt := Lib.hid ((hbt.block _ (lt_of_block HR.out)).trans HR.out)
            have HTt := Lib.hid hrt
            have HBTn := Lib.hid (show bl < bT ∧ bR < bT by
              have h1 := lt_of_block HP.out.row
              have h2 := lt_of_block HR.out
              omega)
            have HWT := Lib.hid hwt
            have HBT := Lib.hid hbT
            clear hwt hbT hbt hrt HP HR
            go_wp2_with (first
              | (refine wpList_alA ar2 (by rfl) rfl ?_; rw [← HWT.out, ← HBT.out])
              | (refine wpList_ldA ar56 (by rfl) (.tmp 10) rfl bR rfl (chP (num ks) (ndF' f) n) HRt.out ?_)
              | fail)
            go_loopw [15, 16, 58] (fun v15 v16 v58 wr => ∃ (i : Nat) (u : Value) (gs : List Bl), i ≤ 2 ∧ v58 = .int .i64 i ∧ gs.map Bl.bk = lB (num ks) (ndF' f) n ++ chB (chP (num ks) (ndF' f) n) i ∧ PlO w4 wr (fun j => (j = bl ∨ j = bR) ∨ j = bT) bl aa na ca ks u gs ∧ wr.heap[bT]? = some (.cells (arr 2 (rtF (num ks) (off (num ks) (ndF' f) n) i)) 94 (0, 0))) (fun _ _ v58 _ => 2 - (RowKit.intOf v58).toNat)
            case atStart => exact ⟨0, u, gs, by omega, rfl, by rw [chB, List.append_nil]; exact HG.out, HPt.out, by rw [rtF_zero]; exact HTt.out⟩
            case round =>
              obtain ⟨i2, u2, gs2, hi2, rfl, hg2, hP2, hT2⟩ := hrel
              have HG2 := Lib.hid hg2
              have HP2 := Lib.hid hP2
              have HT2 := Lib.hid hT2
              have HGL2 := Lib.hid (show gs2.length = off (num ks) (ndF' f) n + i2 by
                have := congrArg List.length hg2
                rw [List.length_map, List.length_append, chB_len] at this
                exact this)
              have HGS2 := Lib.hid (show gs2.length ≤ 2000 by
                have h1 := lB_le (num ks) (ndF' f) n
                have h2 := HGL2.out
                rw [off] at h2
                omega)
              have HCHB := Lib.hid (show ∀ j, 0 ≤ chP (num ks) (ndF' f) n j ∧ chP (num ks) (ndF' f) n j ≤ 65535 from by
                intro j
                have hk0 : ∀ i, 0 ≤ num ks i ∧ num ks i ≤ 65535 := fun i => by
                  by_cases hi : i < na
                  · have := HK.out i hi; omega
                  · rw [num_out (by rw [HKL.out]; omega)]; omega
                generalize n = n'
                induction n' with
                | zero => exact ⟨Int.le_refl _, by show (0 : Int) ≤ 65535; omega⟩
                | succ n' ih =>
                  rw [chP]
                  dsimp only
                  split
                  · exact hk0 _
                  · exact ih)
              clear hg2 hP2 hT2 HPt HTt HG HGL HGS HRt
              by_cases hlt : i2 < 2
              · have k2 : (i2 : Int) < 2 := by omega
                have HI2 := Lib.hid hlt
                obtain ⟨ch, hch⟩ : ∃ ch : Nat → Int, ch = fun j => chP (num ks) (ndF' f) n (28 * i2 + j) := ⟨_, rfl⟩
                have hix := fun w => run_idxB (chP (num ks) (ndF' f) n) i2 hlt w
                rw [← hch] at hix
                have HCH := Lib.hid hch
                obtain ⟨wv, hwv⟩ : ∃ wv, wv = wr.alloc (.cells (arr 28 noA) 91 (0, 0)) := ⟨_, rfl⟩
                have hbv : Below wr.heap.size wr wv := by rw [hwv]; exact (Below.refl _ _).alloc (Nat.le_refl _) _
                have hrv : wv.heap[wr.heap.size]? = some (.cells (arr 28 noA) 91 (0, 0)) := by rw [hwv]; exact heap_alloc_new wr _
                have HBV := Lib.hid hbv
                have HRV := Lib.hid hrv
                have HWV := Lib.hid hwv
                have v1 : IntKind.i64.wrap (1 + (i2 : Int)) = 1 + (i2 : Int) := IntWalk.i64_in _ (by omega)
                clear hlt hch hwv hbv hrv
                go_upto_region 16 with (first
                  | (refine wpList_alA ar28 (by rfl) rfl ?_; rw [← HWV.out])
                  | (refine wpList_stA ar28 (by rfl) (.tmp 16) (.tmp 61) rfl wr.heap.size rfl ch noA rfl HRV.out ?_; intro w5 h5 ho5 hb5)
                  | fail)
                have HBW := Lib.hid (show Below wr.heap.size wr w5 from hb5 _ _ (Nat.le_refl _) HBV.out)
                have HPW := Lib.hid (HP2.out.next HBW.out)
                have HTW := Lib.hid ((HBW.out.block _ (lt_of_block HT2.out)).trans HT2.out)
                have H5 := Lib.hid h5
                have hcall := playP_any HPW.out 0 (1 + (i2 : Int)) ch (fun j _ => by rw [HCH.out]; exact HCHB.out _) (by have := HGL2.out; have := HOFF.out; have := HI2.out; omega) (by have := HGS2.out; omega)
                have HCALL := Lib.hid hcall
                clear h5 ho5 hb5 hcall HBV HRV HWV hix
                go_wp2_with (first | (refine wpList_ldA ar28 (by rfl) (.tmp 16) rfl wr.heap.size rfl ch H5.out ?_) | fail)
                refine HCALL.out.mono ?_
                rintro e w7 ⟨u3, gs3, rfl, hp3, hg3, ht3, hu3⟩
                have HP3 := Lib.hid hp3
                have HT3 := Lib.hid (HPW.out.keep ht3 (.inr rfl) (by have := HBTn.out; omega) HTW.out)
                have HG3 := Lib.hid (show gs3.map Bl.bk = lB (num ks) (ndF' f) n ++ chB (chP (num ks) (ndF' f) n) (i2 + 1) by
                  rw [hg3, HG2.out, chB, List.append_assoc, HCH.out])
                obtain ⟨z, hz⟩ : ∃ z, z = num ks gs2.length := ⟨_, rfl⟩
                rw [← hz]
                have HZ' := Lib.hid hz
                have r0 := cell_of_row w7 bT i2 _ _ (0, 0) HT3.out
                rw [arr_at _ HI2.out] at r0
                have r1 := frozen_of_row w7 bT i2 _ _ HT3.out
                have r2 := lt_of_block HT3.out
                clear hp3 hg3 ht3 hu3 hz HPW HTW HP2 HT2 HCALL
                go_wp2_with (fail)
                go_roundw
                case rel =>
                  have ht : Turn (fun j => j = bT) w7 (w7.setCell ⟨bT, i2, none⟩ (.int .i64 z)) := Turn.setCell (M := fun j => j = bT) w7 (a := ⟨bT, i2, none⟩) rfl _
                  exact ⟨i2 + 1, u3, gs3, by omega, by go_num, HG3.out, HP3.out.set ht (.inr rfl) (by have := HBTn.out; omega), by
                    rw [heap_setCell_same w7 bT i2 _ _ _ HT3.out, arr_set, HZ'.out, HGL2.out, rtF_succ]⟩
                case measure => simp [RowKit.intOf]; omega
              · have hi2' : i2 = 2 := by omega
                have k2 : ¬ (i2 : Int) < 2 := by omega
                rw [hi2'] at HG2 HT2 HGL2
                clear hi2' hlt hi2
                obtain ⟨rt, hrt⟩ : ∃ rt, rt = rtF (num ks) (off (num ks) (ndF' f) n) 2 := ⟨_, rfl⟩
                rw [← hrt] at HT2
                have HRT2 := Lib.hid hrt
                have hcall := prootB_any rt (fun i hi => by
                  have h1 := HK.out (off (num ks) (ndF' f) n + i) (by have := HOFF.out; omega)
                  rw [hrt, rtF, if_pos hi]
                  omega) wr
                have HCALL := Lib.hid hcall
                clear hcall hrt
                go_wp2_with (first | (refine wpList_ldA ar2 (by rfl) (.tmp 14) rfl bT rfl rt HT2.out ?_) | fail)
                refine HCALL.out.mono ?_
                rintro e w7 ⟨gb, rfl, hgb, hpb, hb, hfb⟩
                have HFB := Lib.hid hfb
                have HGB := Lib.hid (show wr.heap.size ≤ gb ∧ gb < w7.heap.size ∧ ¬ Lv bl u2 gb by
                  have h1 : gb < w7.heap.size := by
                    obtain ⟨b', o', e', hlt', _⟩ := hpb.at (by omega)
                    cases e'
                    exact hlt'
                  refine ⟨hgb, h1, ?_⟩
                  rintro (e2 | e2)
                  · have := lt_of_block HP2.out.row; omega
                  · have : gb < wr.heap.size := (World.ownsRow.lt HP2.out.o.out.row gb e2).2; omega)
                clear hfb
                have HP7 := Lib.hid (HP2.out.next hb)
                obtain ⟨zb, hzb⟩ : ∃ z : Bl, z = ⟨0, 0, some ⟨gb, 0, none⟩, 56, 56, rtB (rt 0) (rt 1)⟩ := ⟨_, rfl⟩
                have hcall := play_eq HP7.out zb (by rw [hzb]; exact hpb) (fun y e => by
                  rw [hzb] at e
                  cases e
                  have h1 : gb < w7.heap.size := by
                    obtain ⟨b', o', e', hlt', _⟩ := hpb.at (by omega)
                    cases e'
                    exact hlt'
                  refine ⟨fun e2 => ?_, h1, fun e2 => ?_⟩
                  · have : gb < wr.heap.size := (World.ownsRow.lt HP2.out.o.out.row gb e2).2; omega
                  · have : gb < wr.heap.size := (HP2.out.o.lt gb e2).2; omega) (by have := HGL2.out; have := HOFF.out; omega) (by have := HGS2.out; omega)
                rw [hzb] at hcall
                have HCALL2 := Lib.hid hcall
                clear hzb hcall hgb hpb hb HCALL
                go_wp2_with (fail)
                refine HCALL2.out.mono ?_
                rintro e w8 ⟨u3, rfl, hp3, ht3, hu3⟩
                have HFB8 := Lib.hid (show ∀ o, w8.frozen? ⟨gb, o, none⟩ = false from fun o => (ht3.frozen (a := ⟨gb, o, none⟩) HGB.out.2.1 HGB.out.2.2).trans (HFB.out o))
                obtain ⟨gs3, hgs3⟩ : ∃ g3, g3 = gs2 ++ [(⟨0, 0, some ⟨gb, 0, none⟩, 56, 56, rtB (rt 0) (rt 1)⟩ : Bl)] := ⟨_, rfl⟩
                have hg3 : gs3.map Bl.bk = gs2.map Bl.bk ++ [⟨0, 0, rtB (rt 0) (rt 1)⟩] := by rw [hgs3, List.map_append]; rfl
                rw [← hgs3] at hp3
                have HGS3 := Lib.hid hgs3
                clear hgs3
                obtain ⟨a3, c3, rfl⟩ := hp3.form
                have HP3 := Lib.hid hp3
                have HG3 := Lib.hid (show gs3.map Bl.bk = layB (num ks) (ndF' f) n by
                  rw [hg3, HG2.out, layB_ch, HRT2.out])
                have x1 := hp3.cells.2.1
                have x2 := hp3.cells.2.2.2
                clear hp3 hg3 ht3 hu3 HCALL2
                go_wp2_with (fail)
                go_ret2
                refine ⟨HB4.out.trans (HP3.out.o.bel.mono HB4.out.size), ?_⟩
                rw [HZ.out, if_pos rfl]
                obtain ⟨a4, c4, e4, hbs, _⟩ := HP3.out.o.out.bls
                cases e4
                exact ⟨_, _, gs3, rfl, hbs, HG3.out, gs2, _, _, HGS3.out, rfl, by have := HGB.out.1; have := HP2.out.o.bel.size; have := HB4.out.size; show w.heap.size ≤ gb; omega, HFB8.out⟩
theorem pbuild_any (d r s : Int) (a aa : Option Addr) (n c na ca : Nat) (f : Nat → Nw) (ks : List Int) (w : World) (hl : NwsAt w a n f) (hn6 : n ≤ 1000000) (hi : Ins w aa na ks) (hna : na ≤ 1000000) :
    Calls Try.prog 15 #[gv d r s, .slice a n c, .slice aa na ca] w (BldP w (bldO d r s f n ks) (layB (num ks) (ndF' f) n)) :=
  (pbuild_fr d r s a aa n c na ca f ks w hl hn6 hi hna).mono fun e w' h => h.bld

theorem small_any (w : World) : Calls Try.prog 44 #[] w fun e w' => e = .returned (gv 3 3 12) ∧ Below w.heap.size w w' := by
  go_enter Try.func44, Try.ntmps44
  go_wp2_with (fail)
  refine bodyPost_ret (v := gv 3 3 12) ?_ rfl ⟨rfl, (Below.refl _ _).alloc (Nat.le_refl _) _⟩
  have h0 := heap_alloc_new w (.cells #[.int .i64 3, .int .i64 3, .int .i64 12] 23)
  simp [results, Try.results44, go_sem, h0]
def rootN : Nw := ⟨1, 2, 2, 0, none, 0, 0, []⟩
theorem root_any (w : World) : Calls Try.prog 45 #[] w fun e w' => ∃ b, e = .returned (.slice (some ⟨b, 0, none⟩) 1 1) ∧ NwsAt w' (some ⟨b, 0, none⟩) 1 (fun _ => rootN) ∧ w.heap.size ≤ b ∧ Below w.heap.size w w' := by
  have h0 := heap_alloc_new w (.cells #[.int .i64 1, .int .i64 2, .int .i64 2, .int .i64 0, .slice none 0 0] 83)
  have hB : Below w.heap.size w (w.alloc (.cells #[.int .i64 1, .int .i64 2, .int .i64 2, .int .i64 0, .slice none 0 0] 83)) := (Below.refl _ _).alloc (Nat.le_refl _) _
  go_enter Try.func45, Try.ntmps45
  go_wp2_with (fail)
  go_ret
  refine ⟨_, rfl, .inr ⟨_, 0, rfl, lt_of_block h0, fun i hi => ?_⟩, Nat.le_refl _, hB⟩
  obtain rfl : i = 0 := by omega
  exact ⟨cell_of_row _ _ 0 _ _ (0, 0) h0, cell_of_row _ _ 1 _ _ (0, 0) h0, cell_of_row _ _ 2 _ _ (0, 0) h0, cell_of_row _ _ 3 _ _ (0, 0) h0, cell_of_row _ _ 4 _ _ (0, 0) h0, ⟨rfl, .inl rfl⟩, fun _ => ⟨rfl, rfl⟩, by decide⟩
end Go.Proofs.Ytegcjpocdfmpfaa
