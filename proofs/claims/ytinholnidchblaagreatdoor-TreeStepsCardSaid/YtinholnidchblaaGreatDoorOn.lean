import Derived.Test.YtinholnidchblaaGreatDoorQak
set_option linter.unusedVariables false
set_option linter.unusedSimpArgs false
set_option maxRecDepth 100000
set_option maxHeartbeats 16000000
namespace Go.Proofs.YtinholnidchblaaGreatDoor
open Go.RowKit
theorem text_same (s t : ByteArray) : (s.toList == t.toList) = decide (s = t) := by
 by_cases h : s = t
 ·subst h; simp
 ·rw [decide_eq_false h, beq_eq_false_iff_ne]
  intro e
  rw [Lib.toList_data, Lib.toList_data] at e
  exact h (by rw [← tx_data s, ← tx_data t, e])
theorem ChE.good2 {w w' : World} {wb g n c i : Nat} {f : Nat → Nc} {E : List En} (h : ChE w wb g n c i f E w') (hi : i < n) :
  ∃ f', Wo w' wb g n c f' ∧ ndL f' n = setE (ndL f n) i E ∧ Turn (WM g wb) w w' ∧ ∀ j, (f' j).e = if j = i then E else (f j).e := by
 obtain ⟨a, m, k, h1, h2⟩ := h
 refine ⟨_, h1, ?_, h2, fun j => ?_⟩
 ·rw [ndL_upd, setE, nat_ndL hi]
  rfl
 ·unfold updN
  split <;> rfl
theorem fit_cut {E : List En} (h : Fit E) (s : ByteArray) : Fit (ecut E s) := fun x hx => h x ((mem_cut.1 hx).1)
def renT (L : List Nd) (k a b : Nat) (o : Option Nat) (ns ms : List ByteArray) : List Nd × Rv :=
 match o with
 | none => if b ≠ a ∧ 64 ≤ (nat L b).e.length then (L, .bad 27) else (putE (cutE L a (lstN ns)) b (lstN ms) k, .ok)
 | some j =>
  if j = k then (L, .ok) else
  if isD (nat L k) = true ∧ isD (nat L j) = false then (L, .bad 22) else
  if isD (nat L k) = false ∧ isD (nat L j) = true then (L, .bad 23) else
  if (nat L j).e ≠ [] then (L, .bad 25) else
  (putE (cutE L a (lstN ns)) b (lstN ms) k, .ok)
theorem oRen_t {L : List Nd} {ns ms : List ByteArray} {k a b : Nat} {o o' : Option Nat} (h1 : ns ≠ []) (h2 : ms ≠ []) (hw : wlk L 0 ns = .ok k) (hl : ¬ (isD (nat L k) = true ∧ ms ≠ ns ∧ witN ms ns = true)) (ht : toB L ms = .ok (b, o)) (hs : toB L ns = .ok (a, o')) :
  oRen L (some ns) (some ms) = renT L k a b o ns ms := by
 unfold oRen
 simp only
 rw [if_neg (fun e => e.elim h1 h2), hw]
 simp only
 rw [if_neg hl, ht]
 simp only
 rw [hs]
 rfl
theorem oRen_e {L : List Nd} {ns ms : List ByteArray} {k : Nat} {x : Int} (h1 : ns ≠ []) (h2 : ms ≠ []) (hw : wlk L 0 ns = .ok k) (hl : ¬ (isD (nat L k) = true ∧ ms ≠ ns ∧ witN ms ns = true)) (ht : toB L ms = .error x) : oRen L (some ns) (some ms) = (L, .bad x) := by
 unfold oRen
 simp only
 rw [if_neg (fun e => e.elim h1 h2), hw]
 simp only
 rw [if_neg hl, ht]
theorem oRen_l {L : List Nd} {ns ms : List ByteArray} {k : Nat} (h1 : ns ≠ []) (h2 : ms ≠ []) (hw : wlk L 0 ns = .ok k) (hl : isD (nat L k) = true ∧ ms ≠ ns ∧ witN ms ns = true) : oRen L (some ns) (some ms) = (L, .bad 29) := by
 unfold oRen
 simp only
 rw [if_neg (fun e => e.elim h1 h2), hw]
 simp only
 rw [if_pos hl]
theorem oRen_w {L : List Nd} {ns ms : List ByteArray} {x : Int} (h1 : ns ≠ []) (h2 : ms ≠ []) (hw : wlk L 0 ns = .error x) : oRen L (some ns) (some ms) = (L, .bad x) := by
 unfold oRen
 simp only
 rw [if_neg (fun e => e.elim h1 h2), hw]
theorem oRen_r {L : List Nd} {ns ms : List ByteArray} (h : ns = [] ∨ ms = []) : oRen L (some ns) (some ms) = (L, .bad 29) := by
 unfold oRen
 simp only
 rw [if_pos h]
section
variable {w : World} {wb g n c : Nat} {f : Nat → Nc}
theorem rename_any (h : Wo w wb g n c f) (ht : Rgt (ndL f n)) (s t : ByteArray) (hs : s.size < 4294967281) (ht' : t.size < 4294967281) :
  Calls Tryz.prog 67 #[.pointer (some ⟨wb, 0, none⟩), .string s, .string t] w (OpU w wb g (oRen (ndL f n) (nms s) (nms t))) := by
 have hw0 : Below w.heap.size w (w.alloc (.cells #[.string s, .string t] 9 (0, 0))) := (Below.refl _ _).alloc (Nat.le_refl _) _
 have hmb := mustBe_any (w.alloc (.cells #[.string s, .string t] 9 (0, 0))) (some ⟨w.heap.size, 0, none⟩) 2 2 _ (sts_two w s t _ rfl) (by omega) (by
  intro x hx
  simp only [List.mem_cons, List.not_mem_nil, or_false] at hx
  rcases hx with rfl | rfl
  ·rw [← Lib.size_eq]; exact hs
  ·rw [← Lib.size_eq]; exact ht')
 have hat := qH fun (w' : World) (h' : Wo w' wb g n c f) => at_any h'.wr ht s hs
 have htt := qH fun (w' : World) (h' : Wo w' wb g n c f) (hne : nms t ≠ some []) => toBe_any h'.wr ht t ht' hne
 have hts := qH fun (w' : World) (h' : Wo w' wb g n c f) (hne : nms s ≠ some []) => toBe_any h'.wr ht s hs hne
 have hcu := qH fun (w' : World) (h' : Wo w' wb g n c f) (ns : List ByteArray) (hP : nms s = some ns) (hns : ns ≠ []) (i : Nat) (o : Option Nat) (hto : toB (ndL f n) ns = .ok (i, o)) => tcut_any h' ht s hs hP hns hto
 have hwi := qH fun (w' : World) => within_any t s w' ht' hs
 have hst := text_same s t
 have hts' := text_same t s
 obtain ⟨R, hR⟩ : ∃ R, R = oRen (ndL f n) (nms s) (nms t) := ⟨_, rfl⟩
 rw [← hR]
 have HR := qH hR
 have H := qH h
 have HT := qH ht
 have HB := qH hw0
 have HST := qH hst
 clear h ht hw0 hR hst hts'
 cases hbb : ((nms s).isSome && (nms t).isSome) with
 | false =>
  have HBB := qH hbb
  have HR2 : Hid (R = (ndL f n, .bad 20)) := qH (by
   rw [HR.out]
   cases h1 : nms s with
   | none => rfl
   | some ns =>
    cases h2 : nms t with
    | none => rfl
    | some ms => rw [h1, h2] at hbb; cases hbb)
  clear hbb
  go_enter Tryz.func67, Tryz.ntmps67
  go_wp2_with fail
  refine hmb.mono ?_
  rintro e w1 ⟨h1, hb1⟩
  obtain rfl := mbV_no h1 HBB.out
  have HB1 := qH (HB.out.trans (hb1.mono HB.out.size))
  clear hmb h1 hb1
  go_wp2_with fail
  exact ⟨rfl, .bad' HR2.out (by decide) (.belowW HB1.out)⟩
 | true =>
  have HBB := qH hbb
  rw [Bool.and_eq_true] at hbb
  obtain ⟨ns, hns⟩ := Option.isSome_iff_exists.1 hbb.1
  obtain ⟨ms, hms⟩ := Option.isSome_iff_exists.1 hbb.2
  have HR2 : Hid (R = oRen (ndL f n) (some ns) (some ms)) := qH (by rw [HR.out, hns, hms])
  have HNS := qH hns
  have HMS := qH hms
  clear hbb hns hms HR
  by_cases hn0 : ns = []
  ·have hq := root_yes (s := s) (by rw [HNS.out, hn0])
   have HR3 : Hid (R = (ndL f n, .bad 29)) := qH (by rw [HR2.out, oRen_r (.inl hn0)]); clear hn0
   go_enter Tryz.func67, Tryz.ntmps67
   go_wp2_with fail; refine hmb.mono ?_; rintro e w1 ⟨h1, hb1⟩; obtain rfl := mbV_yes h1 HBB.out; have HB1 := qH (HB.out.trans (hb1.mono HB.out.size)); clear hmb h1 hb1; go_wp2_with fail; refine (refuse_yes 29 _).mono ?_; rintro e w2 ⟨rfl, rfl⟩; go_wp2_with fail
   exact ⟨rfl, .bad' HR3.out (by decide) (.belowW HB1.out)⟩
  ·have hqs := root_no (s := s) (by rw [HNS.out]; intro e; exact hn0 (Option.some.inj e))
   by_cases hm0 : ms = []
   ·have hqt := root_yes (s := t) (by rw [HMS.out, hm0])
    have HR3 : Hid (R = (ndL f n, .bad 29)) := qH (by rw [HR2.out, oRen_r (.inr hm0)]); clear hn0 hm0
    go_enter Tryz.func67, Tryz.ntmps67
    go_wp2_with fail; refine hmb.mono ?_; rintro e w1 ⟨h1, hb1⟩; obtain rfl := mbV_yes h1 HBB.out; have HB1 := qH (HB.out.trans (hb1.mono HB.out.size)); clear hmb h1 hb1; go_wp2_with fail; refine (refuse_yes 29 _).mono ?_; rintro e w2 ⟨rfl, rfl⟩; go_wp2_with fail
    exact ⟨rfl, .bad' HR3.out (by decide) (.belowW HB1.out)⟩
   ·have hqt := root_no (s := t) (by rw [HMS.out]; intro e; exact hm0 (Option.some.inj e))
    have HN0 := qH hn0; have HM0 := qH hm0; clear hn0 hm0
    go_enter Tryz.func67, Tryz.ntmps67
    go_wp2_with fail; refine hmb.mono ?_; rintro e w1 ⟨h1, hb1⟩; obtain rfl := mbV_yes h1 HBB.out; have HB1 := qH (HB.out.trans (hb1.mono HB.out.size)); have hat1 := hat.out _ (H.out.next HB1.out); rw [HNS.out] at hat1; clear hmb h1 hb1; go_wp2_with fail; refine (refuse_no 29 _).mono ?_; rintro e w2 ⟨rfl, rfl⟩; clear hqs hqt; go_wp2_with fail; refine hat1.mono ?_; rintro e w3 ⟨h3, hb3⟩; have HB3 := qH (HB1.out.trans (hb3.mono HB1.out.size)); clear hat1 hb3
    cases hw : wlk (ndL f n) 0 ns with
    | error x =>
     obtain rfl : e = .panicked [pe x] := by rw [h3]; show ThrE (wlk (ndL f n) 0 ns) = _; rw [hw]; rfl
     have HR3 : Hid (R = (ndL f n, .bad x)) := qH (by rw [HR2.out, oRen_w HN0.out HM0.out hw]); have hx := qH (wlk_err0 hw); clear hw h3; go_wp2_with fail
     exact ⟨rfl, .bad' HR3.out hx.out (.belowW HB3.out)⟩
    | ok k =>
     obtain rfl : e = .returned (.int .i64 (k : Int)) := by rw [h3]; show ThrE (wlk (ndL f n) 0 ns) = _; rw [hw]; rfl
     have hk : k < n := by
      have := HT.out.snd.wlklt hw; rw [ndL_len] at this
      exact this
     obtain ⟨a, hta⟩ := wlk_toB hw HN0.out; have HW := qH hw; have HK := qH hk; have HA := qH hta; have hid3 := isDir_any (H.out.next HB3.out).wr hk (by have := HT.out.le; omega); clear hw h3 hk hta
     cases hd : isD (f k).nd with
     | false =>
      have HD := qH hd; have HL29 : Hid (¬ (isD (nat (ndL f n) k) = true ∧ ms ≠ ns ∧ witN ms ns = true)) := qH (by rw [nat_ndL HK.out, HD.out]; simp); rw [hd] at hid3; clear hd; go_wp2_with fail; refine hid3.mono ?_; rintro e w4 ⟨rfl, hb4⟩; have HB4 := qH (HB3.out.trans (hb4.mono HB3.out.size)); clear hid3 hb4; go_wp2_with fail; refine (refuse_no 29 _).mono ?_; rintro e w5 ⟨rfl, rfl⟩; have htt3 := htt.out _ (H.out.next HB4.out) (by rw [HMS.out]; intro e; exact HM0.out (Option.some.inj e)); rw [HMS.out] at htt3; simp only at htt3; go_wp2_with fail; refine htt3.mono ?_; rintro e w7 ⟨h7, hb7⟩; have HB7 := qH (HB4.out.trans (hb7.mono HB4.out.size)); clear htt3 hb7
      cases hto : toB (ndL f n) ms with
      | error x =>
       rw [hto] at h7; obtain rfl : e = .panicked [pe x] := h7; have hx := qH (toB_err hto); have HR4 : Hid (R = (ndL f n, .bad x)) := qH (by rw [HR2.out, oRen_e HN0.out HM0.out HW.out HL29.out hto]); clear hto; go_wp2_with fail
       exact ⟨rfl, .bad' HR4.out hx.out (.belowW HB7.out)⟩
      | ok y =>
       obtain ⟨b, o⟩ := y; rw [hto] at h7; obtain rfl : e = .returned (.tuple #[.int .i64 (b : Int), .string (lstN ms)]) := h7; obtain ⟨t1, t2, t3⟩ := toB_ok hto
       have hbn : b < n := by
        have := HT.out.snd.wlklt t1; rw [ndL_len] at this
        exact this
       replace t3 : o = fnd (f b).e (lstN ms) := by rw [nat_ndL hbn] at t3; exact t3
       have HBI := qH hbn; have hen := entry_any (H.out.next HB7.out).wr hbn (by have := HT.out.le; omega) (lstN ms) (by have := (HT.out.ents hbn).1; omega); have HR4 : Hid (R = renT (ndL f n) k a b o ns ms) := qH (by rw [HR2.out, oRen_t HN0.out HM0.out HW.out HL29.out hto HA.out]); clear t1 t2 hto hbn
       cases o with
       | none =>
        rw [entV_none t3.symm] at hen; clear t3; go_wp2_with fail; refine hen.mono ?_; rintro e w8 ⟨rfl, hb8⟩; have HB8 := qH (HB7.out.trans (hb8.mono HB7.out.size)); have hts8 := hts.out _ (H.out.next HB8.out) (by rw [HNS.out]; intro e; exact HN0.out (Option.some.inj e)); rw [HNS.out] at hts8; simp only at hts8; rw [HA.out] at hts8; clear hen hb8; go_wp2_with fail; refine hts8.mono ?_; rintro e w9 ⟨h9, hb9⟩; obtain rfl : e = .returned (.tuple #[.int .i64 (a : Int), .string (lstN ns)]) := h9; have HB9 := qH (HB8.out.trans (hb9.mono HB8.out.size)); clear hts8 hb9
        by_cases hba : b = a
        ·have HR5 : Hid (R = (putE (cutE (ndL f n) a (lstN ns)) b (lstN ms) k, .ok)) := qH (by rw [HR4.out, renT, if_neg (fun e => e.1 hba)])
         subst hba; go_wp2_with fail; refine (refuse_no 27 _).mono ?_; rintro e w10 ⟨rfl, rfl⟩; have hc := hcu.out _ (H.out.next HB9.out) ns HNS.out HN0.out b _ HA.out; go_wp2_with fail; refine hc.mono ?_; rintro e u1 ⟨rfl, hch⟩; obtain ⟨f', hW, hL, hT, hF⟩ := hch.good2 (toB_kid HT.out HA.out).1
         have hlenb : (f' b).e.length ≤ 64 ∧ Fit (f' b).e := by
          rw [hF b]
          split
          ·exact ⟨Nat.le_trans (List.length_filter_le _ _) (HT.out.ents (toB_kid HT.out HA.out).1).1, fit_cut (HT.out.fit (toB_kid HT.out HA.out).1) _⟩
          ·exact ⟨(HT.out.ents HBI.out).1, HT.out.fit HBI.out⟩
         have hp := tput_any hW HBI.out (by have := HT.out.le; omega) (lstN ms) k (by omega) hlenb.2 (size_ok HMS.out (lst_mem HM0.out)); have HL := qH hL; have HT1 := qH ((Turn.belowW HB9.out).trans hT); clear hc hch hW hL hT hF hlenb; go_wp2_with fail; refine hp.mono ?_; rintro e u2 ⟨rfl, hch⟩; obtain ⟨f2, hW, hL, hT⟩ := hch.good HBI.out
         have HG : Hid (OpU w wb g R (.returned (.tuple #[])) u2) := qH (by
          rw [HR5.out]
          exact .good rfl hW (by rw [hL, putE_at HBI.out, HL.out, cutE_at (toB_kid HT.out HA.out).1]) (HT1.out.trans hT) (.inl rfl))
         clear hp hch hW hL hT; go_wp2_with fail
         go_end0
         exact HG.out
        ·have kba : ¬ (b : Int) = (a : Int) := by omega
         have kne : ((b : Int) != (a : Int)) = true := by simp [kba]
         have hfl := isFull_any (H.out.next HB9.out).wr HBI.out (by have := HT.out.le; omega); have HBA := qH hba; clear hba; go_wp2_with fail; refine hfl.mono ?_; rintro e w10 ⟨h10, hb10⟩; have HB10 := qH (HB9.out.trans (hb10.mono HB9.out.size)); clear hfl hb10
         by_cases h64 : 64 ≤ (f b).e.length
         ·rw [decide_eq_true h64] at h10
          subst h10; have HR5 : Hid (R = (ndL f n, .bad 27)) := qH (by rw [HR4.out, renT, if_pos ⟨HBA.out, by rw [nat_ndL HBI.out]; exact h64⟩]); clear h64; go_wp2_with fail; refine (refuse_yes 27 _).mono ?_; rintro e w11 ⟨rfl, rfl⟩; go_wp2_with fail
          exact ⟨rfl, .bad' HR5.out (by decide) (.belowW HB10.out)⟩
         ·rw [decide_eq_false h64] at h10
          subst h10; have HR5 : Hid (R = (putE (cutE (ndL f n) a (lstN ns)) b (lstN ms) k, .ok)) := qH (by rw [HR4.out, renT, if_neg (fun e => h64 (by have := e.2; rw [nat_ndL HBI.out] at this; exact this))]); clear h64; go_wp2_with fail; refine (refuse_no 27 _).mono ?_; rintro e w11 ⟨rfl, rfl⟩; clear kba; have hc := hcu.out _ (H.out.next HB10.out) ns HNS.out HN0.out a _ HA.out; go_wp2_with fail; refine hc.mono ?_; rintro e u1 ⟨rfl, hch⟩; obtain ⟨f', hW, hL, hT, hF⟩ := hch.good2 (toB_kid HT.out HA.out).1
          have hlenb : (f' b).e.length ≤ 64 ∧ Fit (f' b).e := by
           rw [hF b]
           split
           ·exact ⟨Nat.le_trans (List.length_filter_le _ _) (HT.out.ents (toB_kid HT.out HA.out).1).1, fit_cut (HT.out.fit (toB_kid HT.out HA.out).1) _⟩
           ·exact ⟨(HT.out.ents HBI.out).1, HT.out.fit HBI.out⟩
          have hp := tput_any hW HBI.out (by have := HT.out.le; omega) (lstN ms) k (by omega) hlenb.2 (size_ok HMS.out (lst_mem HM0.out)); have HL := qH hL; have HT1 := qH ((Turn.belowW HB10.out).trans hT); clear hc hch hW hL hT hF hlenb; go_wp2_with fail; refine hp.mono ?_; rintro e u2 ⟨rfl, hch⟩; obtain ⟨f2, hW, hL, hT⟩ := hch.good HBI.out
          have HG : Hid (OpU w wb g R (.returned (.tuple #[])) u2) := qH (by
           rw [HR5.out]
           exact .good rfl hW (by rw [hL, putE_at HBI.out, HL.out, cutE_at (toB_kid HT.out HA.out).1]) (HT1.out.trans hT) (.inl rfl))
          clear hp hch hW hL hT; go_wp2_with fail
          go_end0
          exact HG.out
       | some j =>
        have hp1 := fun y hy => ((HT.out.ents HBI.out).2 y hy).1
        rw [entV_some t3.symm hp1] at hen; have hj := HT.out.kid HBI.out t3.symm; have HJ := qH hj; clear t3 hp1; go_wp2_with fail; refine hen.mono ?_; rintro e w8 ⟨rfl, hb8⟩; have HB8 := qH (HB7.out.trans (hb8.mono HB7.out.size)); clear hen hb8
        by_cases hjk : j = k
        ·have HR5 : Hid (R = (ndL f n, .ok)) := qH (by rw [HR4.out, renT, if_pos hjk])
         have kjk : (j : Int) = (k : Int) := by rw [hjk]
         have HG : Hid (OpU w wb g R (.returned (.tuple #[])) w8) := qH (by
          rw [HR5.out]
          exact .good rfl (H.out.next HB8.out) rfl (.belowW HB8.out) (.inl rfl))
         clear hjk hj; go_wp2_with fail
         first | go_end0 | refine bodyPost_ret (results_none rfl _ _ _) rfl ?_
         exact HG.out
        ·have kjk : ¬ (j : Int) = (k : Int) := by omega
         have hgw := giveWay_any (H.out.next HB8.out).wr hj.2 HK.out (by have := HT.out.le; omega); have HJK := qH hjk; clear hjk hj; go_wp2_with fail; refine hgw.mono ?_; rintro e w9 ⟨h9, hb9⟩; have HB9 := qH (HB8.out.trans (hb9.mono HB8.out.size))
         have HR5' : Hid (R = if isD (f k).nd = true ∧ isD (f j).nd = false then (ndL f n, .bad 22) else
           if isD (f k).nd = false ∧ isD (f j).nd = true then (ndL f n, .bad 23) else
           if (f j).e ≠ [] then (ndL f n, .bad 25) else (putE (cutE (ndL f n) a (lstN ns)) b (lstN ms) k, .ok)) := qH (by
          rw [HR4.out, renT, if_neg HJK.out, nat_ndL HK.out, nat_ndL HJ.out.2]
          rfl)
         clear hgw hb9 kjk; rw [HD.out] at h9
         cases hdj : isD (f j).nd with
         | true =>
          rw [hdj] at h9; obtain rfl : e = .panicked [pe 23] := h9; have HR5 : Hid (R = (ndL f n, .bad 23)) := qH (by rw [HR5'.out, hdj, HD.out]; rfl); clear hdj; go_wp2_with fail
          exact ⟨rfl, .bad' HR5.out (by decide) (.belowW HB9.out)⟩
         | false =>
          rw [hdj] at h9
          by_cases he : 0 < (f j).e.length
          ·rw [decide_eq_true he] at h9
           obtain rfl : e = .panicked [pe 25] := h9; have HR5 : Hid (R = (ndL f n, .bad 25)) := qH (by rw [HR5'.out, hdj, HD.out, if_neg (by simp), if_neg (by simp), if_pos (List.ne_nil_of_length_pos he)]); clear hdj he; go_wp2_with fail
           exact ⟨rfl, .bad' HR5.out (by decide) (.belowW HB9.out)⟩
          ·rw [decide_eq_false he] at h9
           obtain rfl : e = .returned (.tuple #[]) := h9; have HR5 : Hid (R = (putE (cutE (ndL f n) a (lstN ns)) b (lstN ms) k, .ok)) := qH (by rw [HR5'.out, hdj, HD.out, if_neg (by simp), if_neg (by simp), if_neg (by simpa using he)]); clear hdj he; have hc := hcu.out _ (H.out.next HB9.out) ns HNS.out HN0.out a _ HA.out; go_wp2_with fail; refine hc.mono ?_; rintro e u1 ⟨rfl, hch⟩; obtain ⟨f', hW, hL, hT, hF⟩ := hch.good2 (toB_kid HT.out HA.out).1
           have hlenb : (f' b).e.length ≤ 64 ∧ Fit (f' b).e := by
            rw [hF b]
            split
            ·exact ⟨Nat.le_trans (List.length_filter_le _ _) (HT.out.ents (toB_kid HT.out HA.out).1).1, fit_cut (HT.out.fit (toB_kid HT.out HA.out).1) _⟩
            ·exact ⟨(HT.out.ents HBI.out).1, HT.out.fit HBI.out⟩
           have hp := tput_any hW HBI.out (by have := HT.out.le; omega) (lstN ms) k (by omega) hlenb.2 (size_ok HMS.out (lst_mem HM0.out)); have HL := qH hL; have HT1 := qH ((Turn.belowW HB9.out).trans hT); clear hc hch hW hL hT hF hlenb; go_wp2_with fail; refine hp.mono ?_; rintro e u2 ⟨rfl, hch⟩; obtain ⟨f2, hW, hL, hT⟩ := hch.good HBI.out
           have HG : Hid (OpU w wb g R (.returned (.tuple #[])) u2) := qH (by
            rw [HR5.out]
            exact .good rfl hW (by rw [hL, putE_at HBI.out, HL.out, cutE_at (toB_kid HT.out HA.out).1]) (HT1.out.trans hT) (.inl rfl))
           clear hp hch hW hL hT; go_wp2_with fail
           go_end0
           exact HG.out
     | true =>
      have HD := qH hd; rw [hd] at hid3; clear hd
      by_cases hst : s = t
      ·have HL29 : Hid (¬ (isD (nat (ndL f n) k) = true ∧ ms ≠ ns ∧ witN ms ns = true)) := qH (by
        rintro ⟨_, e, _⟩
        apply e
        have h1 := HNS.out; rw [hst, HMS.out] at h1
        exact Option.some.inj h1)
       have qst : (s.toList == t.toList) = true := by rw [HST.out, decide_eq_true hst]
       clear hst; go_wp2_with fail; refine hid3.mono ?_; rintro e w4 ⟨rfl, hb4⟩; have HB4 := qH (HB3.out.trans (hb4.mono HB3.out.size)); clear hid3 hb4; go_wp2_with fail; refine (refuse_no 29 _).mono ?_; rintro e w5 ⟨rfl, rfl⟩; clear qst; have htt3 := htt.out _ (H.out.next HB4.out) (by rw [HMS.out]; intro e; exact HM0.out (Option.some.inj e)); rw [HMS.out] at htt3; simp only at htt3; go_wp2_with fail; refine htt3.mono ?_; rintro e w7 ⟨h7, hb7⟩; have HB7 := qH (HB4.out.trans (hb7.mono HB4.out.size)); clear htt3 hb7
       cases hto : toB (ndL f n) ms with
       | error x =>
        rw [hto] at h7; obtain rfl : e = .panicked [pe x] := h7; have hx := qH (toB_err hto); have HR4 : Hid (R = (ndL f n, .bad x)) := qH (by rw [HR2.out, oRen_e HN0.out HM0.out HW.out HL29.out hto]); clear hto; go_wp2_with fail
        exact ⟨rfl, .bad' HR4.out hx.out (.belowW HB7.out)⟩
       | ok y =>
        obtain ⟨b, o⟩ := y; rw [hto] at h7; obtain rfl : e = .returned (.tuple #[.int .i64 (b : Int), .string (lstN ms)]) := h7; obtain ⟨t1, t2, t3⟩ := toB_ok hto
        have hbn : b < n := by
         have := HT.out.snd.wlklt t1; rw [ndL_len] at this
         exact this
        replace t3 : o = fnd (f b).e (lstN ms) := by rw [nat_ndL hbn] at t3; exact t3
        have HBI := qH hbn; have hen := entry_any (H.out.next HB7.out).wr hbn (by have := HT.out.le; omega) (lstN ms) (by have := (HT.out.ents hbn).1; omega); have HR4 : Hid (R = renT (ndL f n) k a b o ns ms) := qH (by rw [HR2.out, oRen_t HN0.out HM0.out HW.out HL29.out hto HA.out]); clear t1 t2 hto hbn
        cases o with
        | none =>
         rw [entV_none t3.symm] at hen; clear t3; go_wp2_with fail; refine hen.mono ?_; rintro e w8 ⟨rfl, hb8⟩; have HB8 := qH (HB7.out.trans (hb8.mono HB7.out.size)); have hts8 := hts.out _ (H.out.next HB8.out) (by rw [HNS.out]; intro e; exact HN0.out (Option.some.inj e)); rw [HNS.out] at hts8; simp only at hts8; rw [HA.out] at hts8; clear hen hb8; go_wp2_with fail; refine hts8.mono ?_; rintro e w9 ⟨h9, hb9⟩; obtain rfl : e = .returned (.tuple #[.int .i64 (a : Int), .string (lstN ns)]) := h9; have HB9 := qH (HB8.out.trans (hb9.mono HB8.out.size)); clear hts8 hb9
         by_cases hba : b = a
         ·have HR5 : Hid (R = (putE (cutE (ndL f n) a (lstN ns)) b (lstN ms) k, .ok)) := qH (by rw [HR4.out, renT, if_neg (fun e => e.1 hba)])
          subst hba; go_wp2_with fail; refine (refuse_no 27 _).mono ?_; rintro e w10 ⟨rfl, rfl⟩; have hc := hcu.out _ (H.out.next HB9.out) ns HNS.out HN0.out b _ HA.out; go_wp2_with fail; refine hc.mono ?_; rintro e u1 ⟨rfl, hch⟩; obtain ⟨f', hW, hL, hT, hF⟩ := hch.good2 (toB_kid HT.out HA.out).1
          have hlenb : (f' b).e.length ≤ 64 ∧ Fit (f' b).e := by
           rw [hF b]
           split
           ·exact ⟨Nat.le_trans (List.length_filter_le _ _) (HT.out.ents (toB_kid HT.out HA.out).1).1, fit_cut (HT.out.fit (toB_kid HT.out HA.out).1) _⟩
           ·exact ⟨(HT.out.ents HBI.out).1, HT.out.fit HBI.out⟩
          have hp := tput_any hW HBI.out (by have := HT.out.le; omega) (lstN ms) k (by omega) hlenb.2 (size_ok HMS.out (lst_mem HM0.out)); have HL := qH hL; have HT1 := qH ((Turn.belowW HB9.out).trans hT); clear hc hch hW hL hT hF hlenb; go_wp2_with fail; refine hp.mono ?_; rintro e u2 ⟨rfl, hch⟩; obtain ⟨f2, hW, hL, hT⟩ := hch.good HBI.out
          have HG : Hid (OpU w wb g R (.returned (.tuple #[])) u2) := qH (by
           rw [HR5.out]
           exact .good rfl hW (by rw [hL, putE_at HBI.out, HL.out, cutE_at (toB_kid HT.out HA.out).1]) (HT1.out.trans hT) (.inl rfl))
          clear hp hch hW hL hT; go_wp2_with fail
          go_end0
          exact HG.out
         ·have kba : ¬ (b : Int) = (a : Int) := by omega
          have kne : ((b : Int) != (a : Int)) = true := by simp [kba]
          have hfl := isFull_any (H.out.next HB9.out).wr HBI.out (by have := HT.out.le; omega); have HBA := qH hba; clear hba; go_wp2_with fail; refine hfl.mono ?_; rintro e w10 ⟨h10, hb10⟩; have HB10 := qH (HB9.out.trans (hb10.mono HB9.out.size)); clear hfl hb10
          by_cases h64 : 64 ≤ (f b).e.length
          ·rw [decide_eq_true h64] at h10
           subst h10; have HR5 : Hid (R = (ndL f n, .bad 27)) := qH (by rw [HR4.out, renT, if_pos ⟨HBA.out, by rw [nat_ndL HBI.out]; exact h64⟩]); clear h64; go_wp2_with fail; refine (refuse_yes 27 _).mono ?_; rintro e w11 ⟨rfl, rfl⟩; go_wp2_with fail
           exact ⟨rfl, .bad' HR5.out (by decide) (.belowW HB10.out)⟩
          ·rw [decide_eq_false h64] at h10
           subst h10; have HR5 : Hid (R = (putE (cutE (ndL f n) a (lstN ns)) b (lstN ms) k, .ok)) := qH (by rw [HR4.out, renT, if_neg (fun e => h64 (by have := e.2; rw [nat_ndL HBI.out] at this; exact this))]); clear h64; go_wp2_with fail; refine (refuse_no 27 _).mono ?_; rintro e w11 ⟨rfl, rfl⟩; clear kba; have hc := hcu.out _ (H.out.next HB10.out) ns HNS.out HN0.out a _ HA.out; go_wp2_with fail; refine hc.mono ?_; rintro e u1 ⟨rfl, hch⟩; obtain ⟨f', hW, hL, hT, hF⟩ := hch.good2 (toB_kid HT.out HA.out).1
           have hlenb : (f' b).e.length ≤ 64 ∧ Fit (f' b).e := by
            rw [hF b]
            split
            ·exact ⟨Nat.le_trans (List.length_filter_le _ _) (HT.out.ents (toB_kid HT.out HA.out).1).1, fit_cut (HT.out.fit (toB_kid HT.out HA.out).1) _⟩
            ·exact ⟨(HT.out.ents HBI.out).1, HT.out.fit HBI.out⟩
           have hp := tput_any hW HBI.out (by have := HT.out.le; omega) (lstN ms) k (by omega) hlenb.2 (size_ok HMS.out (lst_mem HM0.out)); have HL := qH hL; have HT1 := qH ((Turn.belowW HB10.out).trans hT); clear hc hch hW hL hT hF hlenb; go_wp2_with fail; refine hp.mono ?_; rintro e u2 ⟨rfl, hch⟩; obtain ⟨f2, hW, hL, hT⟩ := hch.good HBI.out
           have HG : Hid (OpU w wb g R (.returned (.tuple #[])) u2) := qH (by
            rw [HR5.out]
            exact .good rfl hW (by rw [hL, putE_at HBI.out, HL.out, cutE_at (toB_kid HT.out HA.out).1]) (HT1.out.trans hT) (.inl rfl))
           clear hp hch hW hL hT; go_wp2_with fail
           go_end0
           exact HG.out
        | some j =>
         have hp1 := fun y hy => ((HT.out.ents HBI.out).2 y hy).1
         rw [entV_some t3.symm hp1] at hen; have hj := HT.out.kid HBI.out t3.symm; have HJ := qH hj; clear t3 hp1; go_wp2_with fail; refine hen.mono ?_; rintro e w8 ⟨rfl, hb8⟩; have HB8 := qH (HB7.out.trans (hb8.mono HB7.out.size)); clear hen hb8
         by_cases hjk : j = k
         ·have HR5 : Hid (R = (ndL f n, .ok)) := qH (by rw [HR4.out, renT, if_pos hjk])
          have kjk : (j : Int) = (k : Int) := by rw [hjk]
          have HG : Hid (OpU w wb g R (.returned (.tuple #[])) w8) := qH (by
           rw [HR5.out]
           exact .good rfl (H.out.next HB8.out) rfl (.belowW HB8.out) (.inl rfl))
          clear hjk hj; go_wp2_with fail
          first | go_end0 | refine bodyPost_ret (results_none rfl _ _ _) rfl ?_
          exact HG.out
         ·have kjk : ¬ (j : Int) = (k : Int) := by omega
          have hgw := giveWay_any (H.out.next HB8.out).wr hj.2 HK.out (by have := HT.out.le; omega); have HJK := qH hjk; clear hjk hj; go_wp2_with fail; refine hgw.mono ?_; rintro e w9 ⟨h9, hb9⟩; have HB9 := qH (HB8.out.trans (hb9.mono HB8.out.size))
          have HR5' : Hid (R = if isD (f k).nd = true ∧ isD (f j).nd = false then (ndL f n, .bad 22) else
            if isD (f k).nd = false ∧ isD (f j).nd = true then (ndL f n, .bad 23) else
            if (f j).e ≠ [] then (ndL f n, .bad 25) else (putE (cutE (ndL f n) a (lstN ns)) b (lstN ms) k, .ok)) := qH (by
           rw [HR4.out, renT, if_neg HJK.out, nat_ndL HK.out, nat_ndL HJ.out.2]
           rfl)
          clear hgw hb9 kjk; rw [HD.out] at h9
          cases hdj : isD (f j).nd with
          | false =>
           rw [hdj] at h9; obtain rfl : e = .panicked [pe 22] := h9; have HR5 : Hid (R = (ndL f n, .bad 22)) := qH (by rw [HR5'.out, hdj, HD.out]; rfl); clear hdj; go_wp2_with fail
           exact ⟨rfl, .bad' HR5.out (by decide) (.belowW HB9.out)⟩
          | true =>
           rw [hdj] at h9
           by_cases he : 0 < (f j).e.length
           ·rw [decide_eq_true he] at h9
            obtain rfl : e = .panicked [pe 25] := h9; have HR5 : Hid (R = (ndL f n, .bad 25)) := qH (by rw [HR5'.out, hdj, HD.out, if_neg (by simp), if_neg (by simp), if_pos (List.ne_nil_of_length_pos he)]); clear hdj he; go_wp2_with fail
            exact ⟨rfl, .bad' HR5.out (by decide) (.belowW HB9.out)⟩
           ·rw [decide_eq_false he] at h9
            obtain rfl : e = .returned (.tuple #[]) := h9; have HR5 : Hid (R = (putE (cutE (ndL f n) a (lstN ns)) b (lstN ms) k, .ok)) := qH (by rw [HR5'.out, hdj, HD.out, if_neg (by simp), if_neg (by simp), if_neg (by simpa using he)]); clear hdj he; have hc := hcu.out _ (H.out.next HB9.out) ns HNS.out HN0.out a _ HA.out; go_wp2_with fail; refine hc.mono ?_; rintro e u1 ⟨rfl, hch⟩; obtain ⟨f', hW, hL, hT, hF⟩ := hch.good2 (toB_kid HT.out HA.out).1
            have hlenb : (f' b).e.length ≤ 64 ∧ Fit (f' b).e := by
             rw [hF b]
             split
             ·exact ⟨Nat.le_trans (List.length_filter_le _ _) (HT.out.ents (toB_kid HT.out HA.out).1).1, fit_cut (HT.out.fit (toB_kid HT.out HA.out).1) _⟩
             ·exact ⟨(HT.out.ents HBI.out).1, HT.out.fit HBI.out⟩
            have hp := tput_any hW HBI.out (by have := HT.out.le; omega) (lstN ms) k (by omega) hlenb.2 (size_ok HMS.out (lst_mem HM0.out)); have HL := qH hL; have HT1 := qH ((Turn.belowW HB9.out).trans hT); clear hc hch hW hL hT hF hlenb; go_wp2_with fail; refine hp.mono ?_; rintro e u2 ⟨rfl, hch⟩; obtain ⟨f2, hW, hL, hT⟩ := hch.good HBI.out
            have HG : Hid (OpU w wb g R (.returned (.tuple #[])) u2) := qH (by
             rw [HR5.out]
             exact .good rfl hW (by rw [hL, putE_at HBI.out, HL.out, cutE_at (toB_kid HT.out HA.out).1]) (HT1.out.trans hT) (.inl rfl))
            clear hp hch hW hL hT; go_wp2_with fail
            go_end0
            exact HG.out
      ·have qst : (s.toList == t.toList) = false := by rw [HST.out, decide_eq_false hst]
       have hnm : ms ≠ ns := fun e => hst (nms_inj HNS.out (by rw [HMS.out, e]))
       have hwn := wit_names HMS.out HNS.out; have HNM := qH hnm; clear hst hnm; go_wp2_with fail; refine hid3.mono ?_; rintro e w4 ⟨rfl, hb4⟩; have HB4 := qH (HB3.out.trans (hb4.mono HB3.out.size)); have hwi4 := hwi.out w4; rw [hwn] at hwi4; clear hid3 hb4 hwn; go_wp2_with fail; refine hwi4.mono ?_; rintro e w5 ⟨h5, hb5⟩; have HB5 := qH (HB4.out.trans (hb5.mono HB4.out.size)); clear hwi4 hb5
       cases hwt : witN ms ns with
       | true =>
        rw [hwt] at h5; subst h5; have HR3 : Hid (R = (ndL f n, .bad 29)) := qH (by rw [HR2.out, oRen_l HN0.out HM0.out HW.out ⟨by rw [nat_ndL HK.out]; exact HD.out, HNM.out, hwt⟩]); clear hwt; go_wp2_with fail; refine (refuse_yes 29 _).mono ?_; rintro e w6 ⟨rfl, rfl⟩; go_wp2_with fail
        exact ⟨rfl, .bad' HR3.out (by decide) (.belowW HB5.out)⟩
       | false =>
        rw [hwt] at h5; subst h5; have HL29 : Hid (¬ (isD (nat (ndL f n) k) = true ∧ ms ≠ ns ∧ witN ms ns = true)) := qH (fun e => by rw [hwt] at e; exact absurd e.2.2 (by decide)); clear hwt; go_wp2_with fail; refine (refuse_no 29 _).mono ?_; rintro e w6 ⟨rfl, rfl⟩; clear qst; have htt3 := htt.out _ (H.out.next HB5.out) (by rw [HMS.out]; intro e; exact HM0.out (Option.some.inj e)); rw [HMS.out] at htt3; simp only at htt3; go_wp2_with fail; refine htt3.mono ?_; rintro e w7 ⟨h7, hb7⟩; have HB7 := qH (HB5.out.trans (hb7.mono HB5.out.size)); clear htt3 hb7
        cases hto : toB (ndL f n) ms with
        | error x =>
         rw [hto] at h7; obtain rfl : e = .panicked [pe x] := h7; have hx := qH (toB_err hto); have HR4 : Hid (R = (ndL f n, .bad x)) := qH (by rw [HR2.out, oRen_e HN0.out HM0.out HW.out HL29.out hto]); clear hto; go_wp2_with fail
         exact ⟨rfl, .bad' HR4.out hx.out (.belowW HB7.out)⟩
        | ok y =>
         obtain ⟨b, o⟩ := y; rw [hto] at h7; obtain rfl : e = .returned (.tuple #[.int .i64 (b : Int), .string (lstN ms)]) := h7; obtain ⟨t1, t2, t3⟩ := toB_ok hto
         have hbn : b < n := by
          have := HT.out.snd.wlklt t1; rw [ndL_len] at this
          exact this
         replace t3 : o = fnd (f b).e (lstN ms) := by rw [nat_ndL hbn] at t3; exact t3
         have HBI := qH hbn; have hen := entry_any (H.out.next HB7.out).wr hbn (by have := HT.out.le; omega) (lstN ms) (by have := (HT.out.ents hbn).1; omega); have HR4 : Hid (R = renT (ndL f n) k a b o ns ms) := qH (by rw [HR2.out, oRen_t HN0.out HM0.out HW.out HL29.out hto HA.out]); clear t1 t2 hto hbn
         cases o with
         | none =>
          rw [entV_none t3.symm] at hen; clear t3; go_wp2_with fail; refine hen.mono ?_; rintro e w8 ⟨rfl, hb8⟩; have HB8 := qH (HB7.out.trans (hb8.mono HB7.out.size)); have hts8 := hts.out _ (H.out.next HB8.out) (by rw [HNS.out]; intro e; exact HN0.out (Option.some.inj e)); rw [HNS.out] at hts8; simp only at hts8; rw [HA.out] at hts8; clear hen hb8; go_wp2_with fail; refine hts8.mono ?_; rintro e w9 ⟨h9, hb9⟩; obtain rfl : e = .returned (.tuple #[.int .i64 (a : Int), .string (lstN ns)]) := h9; have HB9 := qH (HB8.out.trans (hb9.mono HB8.out.size)); clear hts8 hb9
          by_cases hba : b = a
          ·have HR5 : Hid (R = (putE (cutE (ndL f n) a (lstN ns)) b (lstN ms) k, .ok)) := qH (by rw [HR4.out, renT, if_neg (fun e => e.1 hba)])
           subst hba; go_wp2_with fail; refine (refuse_no 27 _).mono ?_; rintro e w10 ⟨rfl, rfl⟩; have hc := hcu.out _ (H.out.next HB9.out) ns HNS.out HN0.out b _ HA.out; go_wp2_with fail; refine hc.mono ?_; rintro e u1 ⟨rfl, hch⟩; obtain ⟨f', hW, hL, hT, hF⟩ := hch.good2 (toB_kid HT.out HA.out).1
           have hlenb : (f' b).e.length ≤ 64 ∧ Fit (f' b).e := by
            rw [hF b]
            split
            ·exact ⟨Nat.le_trans (List.length_filter_le _ _) (HT.out.ents (toB_kid HT.out HA.out).1).1, fit_cut (HT.out.fit (toB_kid HT.out HA.out).1) _⟩
            ·exact ⟨(HT.out.ents HBI.out).1, HT.out.fit HBI.out⟩
           have hp := tput_any hW HBI.out (by have := HT.out.le; omega) (lstN ms) k (by omega) hlenb.2 (size_ok HMS.out (lst_mem HM0.out)); have HL := qH hL; have HT1 := qH ((Turn.belowW HB9.out).trans hT); clear hc hch hW hL hT hF hlenb; go_wp2_with fail; refine hp.mono ?_; rintro e u2 ⟨rfl, hch⟩; obtain ⟨f2, hW, hL, hT⟩ := hch.good HBI.out
           have HG : Hid (OpU w wb g R (.returned (.tuple #[])) u2) := qH (by
            rw [HR5.out]
            exact .good rfl hW (by rw [hL, putE_at HBI.out, HL.out, cutE_at (toB_kid HT.out HA.out).1]) (HT1.out.trans hT) (.inl rfl))
           clear hp hch hW hL hT; go_wp2_with fail
           go_end0
           exact HG.out
          ·have kba : ¬ (b : Int) = (a : Int) := by omega
           have kne : ((b : Int) != (a : Int)) = true := by simp [kba]
           have hfl := isFull_any (H.out.next HB9.out).wr HBI.out (by have := HT.out.le; omega); have HBA := qH hba; clear hba; go_wp2_with fail; refine hfl.mono ?_; rintro e w10 ⟨h10, hb10⟩; have HB10 := qH (HB9.out.trans (hb10.mono HB9.out.size)); clear hfl hb10
           by_cases h64 : 64 ≤ (f b).e.length
           ·rw [decide_eq_true h64] at h10
            subst h10; have HR5 : Hid (R = (ndL f n, .bad 27)) := qH (by rw [HR4.out, renT, if_pos ⟨HBA.out, by rw [nat_ndL HBI.out]; exact h64⟩]); clear h64; go_wp2_with fail; refine (refuse_yes 27 _).mono ?_; rintro e w11 ⟨rfl, rfl⟩; go_wp2_with fail
            exact ⟨rfl, .bad' HR5.out (by decide) (.belowW HB10.out)⟩
           ·rw [decide_eq_false h64] at h10
            subst h10; have HR5 : Hid (R = (putE (cutE (ndL f n) a (lstN ns)) b (lstN ms) k, .ok)) := qH (by rw [HR4.out, renT, if_neg (fun e => h64 (by have := e.2; rw [nat_ndL HBI.out] at this; exact this))]); clear h64; go_wp2_with fail; refine (refuse_no 27 _).mono ?_; rintro e w11 ⟨rfl, rfl⟩; clear kba; have hc := hcu.out _ (H.out.next HB10.out) ns HNS.out HN0.out a _ HA.out; go_wp2_with fail; refine hc.mono ?_; rintro e u1 ⟨rfl, hch⟩; obtain ⟨f', hW, hL, hT, hF⟩ := hch.good2 (toB_kid HT.out HA.out).1
            have hlenb : (f' b).e.length ≤ 64 ∧ Fit (f' b).e := by
             rw [hF b]
             split
             ·exact ⟨Nat.le_trans (List.length_filter_le _ _) (HT.out.ents (toB_kid HT.out HA.out).1).1, fit_cut (HT.out.fit (toB_kid HT.out HA.out).1) _⟩
             ·exact ⟨(HT.out.ents HBI.out).1, HT.out.fit HBI.out⟩
            have hp := tput_any hW HBI.out (by have := HT.out.le; omega) (lstN ms) k (by omega) hlenb.2 (size_ok HMS.out (lst_mem HM0.out)); have HL := qH hL; have HT1 := qH ((Turn.belowW HB10.out).trans hT); clear hc hch hW hL hT hF hlenb; go_wp2_with fail; refine hp.mono ?_; rintro e u2 ⟨rfl, hch⟩; obtain ⟨f2, hW, hL, hT⟩ := hch.good HBI.out
            have HG : Hid (OpU w wb g R (.returned (.tuple #[])) u2) := qH (by
             rw [HR5.out]
             exact .good rfl hW (by rw [hL, putE_at HBI.out, HL.out, cutE_at (toB_kid HT.out HA.out).1]) (HT1.out.trans hT) (.inl rfl))
            clear hp hch hW hL hT; go_wp2_with fail
            go_end0
            exact HG.out
         | some j =>
          have hp1 := fun y hy => ((HT.out.ents HBI.out).2 y hy).1
          rw [entV_some t3.symm hp1] at hen; have hj := HT.out.kid HBI.out t3.symm; have HJ := qH hj; clear t3 hp1; go_wp2_with fail; refine hen.mono ?_; rintro e w8 ⟨rfl, hb8⟩; have HB8 := qH (HB7.out.trans (hb8.mono HB7.out.size)); clear hen hb8
          by_cases hjk : j = k
          ·have HR5 : Hid (R = (ndL f n, .ok)) := qH (by rw [HR4.out, renT, if_pos hjk])
           have kjk : (j : Int) = (k : Int) := by rw [hjk]
           have HG : Hid (OpU w wb g R (.returned (.tuple #[])) w8) := qH (by
            rw [HR5.out]
            exact .good rfl (H.out.next HB8.out) rfl (.belowW HB8.out) (.inl rfl))
           clear hjk hj; go_wp2_with fail
           first | go_end0 | refine bodyPost_ret (results_none rfl _ _ _) rfl ?_
           exact HG.out
          ·have kjk : ¬ (j : Int) = (k : Int) := by omega
           have hgw := giveWay_any (H.out.next HB8.out).wr hj.2 HK.out (by have := HT.out.le; omega); have HJK := qH hjk; clear hjk hj; go_wp2_with fail; refine hgw.mono ?_; rintro e w9 ⟨h9, hb9⟩; have HB9 := qH (HB8.out.trans (hb9.mono HB8.out.size))
           have HR5' : Hid (R = if isD (f k).nd = true ∧ isD (f j).nd = false then (ndL f n, .bad 22) else
             if isD (f k).nd = false ∧ isD (f j).nd = true then (ndL f n, .bad 23) else
             if (f j).e ≠ [] then (ndL f n, .bad 25) else (putE (cutE (ndL f n) a (lstN ns)) b (lstN ms) k, .ok)) := qH (by
            rw [HR4.out, renT, if_neg HJK.out, nat_ndL HK.out, nat_ndL HJ.out.2]
            rfl)
           clear hgw hb9 kjk; rw [HD.out] at h9
           cases hdj : isD (f j).nd with
           | false =>
            rw [hdj] at h9; obtain rfl : e = .panicked [pe 22] := h9; have HR5 : Hid (R = (ndL f n, .bad 22)) := qH (by rw [HR5'.out, hdj, HD.out]; rfl); clear hdj; go_wp2_with fail
            exact ⟨rfl, .bad' HR5.out (by decide) (.belowW HB9.out)⟩
           | true =>
            rw [hdj] at h9
            by_cases he : 0 < (f j).e.length
            ·rw [decide_eq_true he] at h9
             obtain rfl : e = .panicked [pe 25] := h9; have HR5 : Hid (R = (ndL f n, .bad 25)) := qH (by rw [HR5'.out, hdj, HD.out, if_neg (by simp), if_neg (by simp), if_pos (List.ne_nil_of_length_pos he)]); clear hdj he; go_wp2_with fail
             exact ⟨rfl, .bad' HR5.out (by decide) (.belowW HB9.out)⟩
            ·rw [decide_eq_false he] at h9
             obtain rfl : e = .returned (.tuple #[]) := h9; have HR5 : Hid (R = (putE (cutE (ndL f n) a (lstN ns)) b (lstN ms) k, .ok)) := qH (by rw [HR5'.out, hdj, HD.out, if_neg (by simp), if_neg (by simp), if_neg (by simpa using he)]); clear hdj he; have hc := hcu.out _ (H.out.next HB9.out) ns HNS.out HN0.out a _ HA.out; go_wp2_with fail; refine hc.mono ?_; rintro e u1 ⟨rfl, hch⟩; obtain ⟨f', hW, hL, hT, hF⟩ := hch.good2 (toB_kid HT.out HA.out).1
             have hlenb : (f' b).e.length ≤ 64 ∧ Fit (f' b).e := by
              rw [hF b]
              split
              ·exact ⟨Nat.le_trans (List.length_filter_le _ _) (HT.out.ents (toB_kid HT.out HA.out).1).1, fit_cut (HT.out.fit (toB_kid HT.out HA.out).1) _⟩
              ·exact ⟨(HT.out.ents HBI.out).1, HT.out.fit HBI.out⟩
             have hp := tput_any hW HBI.out (by have := HT.out.le; omega) (lstN ms) k (by omega) hlenb.2 (size_ok HMS.out (lst_mem HM0.out)); have HL := qH hL; have HT1 := qH ((Turn.belowW HB9.out).trans hT); clear hc hch hW hL hT hF hlenb; go_wp2_with fail; refine hp.mono ?_; rintro e u2 ⟨rfl, hch⟩; obtain ⟨f2, hW, hL, hT⟩ := hch.good HBI.out
             have HG : Hid (OpU w wb g R (.returned (.tuple #[])) u2) := qH (by
              rw [HR5.out]
              exact .good rfl hW (by rw [hL, putE_at HBI.out, HL.out, cutE_at (toB_kid HT.out HA.out).1]) (HT1.out.trans hT) (.inl rfl))
             clear hp hch hW hL hT; go_wp2_with fail
             go_end0
             exact HG.out
end
end Go.Proofs.YtinholnidchblaaGreatDoor
