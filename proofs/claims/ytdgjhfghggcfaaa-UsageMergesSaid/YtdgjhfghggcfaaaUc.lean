/-
  The counts: the program's.
-/
import Derived.Test.YtdgjhfghggcfaaaRu4
import Derived.Maps.OwnSet
import Derived.Maps.Ext
import Derived.MapViews
namespace Go.Proofs.Ytdgjhfghggcfaaa
open Go.RowKit Go.Maps
set_option linter.unusedVariables false

theorem lawN : Keyed Try.prog 3 := int_keyed Try.underlying3
theorem zeroN (w : World) : (zeroValue 3).run Try.prog w = .ok (.int .i64 0) w := by kernel_rfl
abbrev lit64 (n : Int) : DataW Unit := .lit (.int .i64 n)
/-- The map in block mb: how often each of L is there. -/
structure TmD (w : World) (mb : Nat) (L : List Int) (D : DataW Unit) : Prop where
  own : w.ownsMap Try.prog 3 (plainElem Try.prog 3) mb L.length D
  at' : ∀ a c, D.atKey (.int .i64 a) (lit64 0) = lit64 c → 0 ≤ c ∧ c ≤ L.length ∧ (c = 0 ↔ ¬ a ∈ L)
theorem lit64_inj {a b : Int} (h : lit64 a = lit64 b) : a = b := by
  injection h with h
  injection h
theorem TmD.start (w : World) : TmD (w.alloc (.map #[] 0)) w.heap.size [] (.map []) :=
  ⟨World.ownsMap_made w _ _ _, fun a c h => by
    have : (0 : Int) = c := lit64_inj h
    subst this
    simp⟩
theorem TmD.row {w w' : World} {mb : Nat} {L : List Int} {D : DataW Unit} (h : TmD w mb L D) (e : w'.heap[mb]? = w.heap[mb]?) : TmD w' mb L D := by
  obtain ⟨es, clock, hb, r⟩ := h.own
  exact ⟨⟨es, clock, e.trans hb, r⟩, h.at'⟩
theorem TmD.lt {w : World} {mb : Nat} {L : List Int} {D : DataW Unit} (h : TmD w mb L D) : mb < w.heap.size := h.own.lt
theorem TmD.next {w w' : World} {mb : Nat} {L : List Int} {D : DataW Unit} (h : TmD w mb L D) (hb : Below w.heap.size w w') : TmD w' mb L D := h.row (hb.block _ h.lt)
theorem TmD.put {w w' : World} {mb : Nat} {L : List Int} {D : DataW Unit} {a c : Int} (h : TmD w mb L D) (ha : (Lit.int .i64 a).wf = true) (hc : D.atKey (.int .i64 a) (lit64 0) = lit64 c)
    (ho : w'.ownsMap Try.prog 3 (plainElem Try.prog 3) mb (L.length + 1) (D.put (.int .i64 a) (lit64 (c + 1)))) : TmD w' mb (L ++ [a]) (D.put (.int .i64 a) (lit64 (c + 1))) := by
  obtain ⟨c0, c1, c2⟩ := h.at' a c hc
  refine ⟨by rw [List.length_append]; exact ho, fun b e hb => ?_⟩
  have hm := h.own.isMap
  have hk : WideAt.IsKeyLit (.int .i64 a) := lawN.key (keyOf_int_mk Try.underlying3 ha)
  by_cases e1 : b = a
  · subst e1
    rw [atKey_put_same hm hk] at hb
    have := lit64_inj hb
    subst this
    simp
    omega
  · rw [atKey_put_other (fun x => e1 (by injection x))] at hb
    obtain ⟨d0, d1, d2⟩ := h.at' b e hb
    refine ⟨d0, by rw [List.length_append]; simp; omega, d2.trans ?_⟩
    simp [e1]
theorem TmD.again {w : World} {mb : Nat} {L : List Int} {D : DataW Unit} {a c e : Int} (h : TmD w mb L D) (ha : (Lit.int .i64 a).wf = true) (he : (D.put (.int .i64 a) (lit64 (c + 1))).atKey (.int .i64 a) (lit64 0) = lit64 e) : e = c + 1 := by
  rw [atKey_put_same h.own.isMap (lawN.key (keyOf_int_mk Try.underlying3 ha))] at he
  exact (lit64_inj he).symm
theorem Blq.turned {w w' : World} {g mb : Nat} {ty : TypeId} {vs : List Value} (h : Blq w g ty vs) (ht : w.mapTurned w' mb) (hne : g ≠ mb) : Blq w' g ty vs :=
  ⟨(ht.grown.block g h.lt (fun e => hne (by cases e; rfl))).trans h.row⟩
theorem below_turned {w w1 w' : World} {B mb : Nat} (h : Below B w w1) (ht : w1.mapTurned w' mb) (hB : B ≤ mb) (hs : B ≤ w1.heap.size) : Below B w w' := h.grown ht.grown hs fun j hj => by cases hj; exact hB
set_option maxHeartbeats 2000000 in
theorem count_out (d r s : Int) (a : Option Addr) (n c : Nat) (w : World) (h : ¬ Rt d r s) :
    Calls Try.prog 12 #[gv d r s, .slice a n c] w (RetC w [] false) := by
  have x1 := Bx.mk' w d r s 23
  go_enter Try.func12, Try.ntmps12
  go_wp2_with (fail)
  refine (right_no d r s _ h).mono ?_
  rintro e w2 ⟨rfl, hb⟩
  have hB := bel_box' _ (by simp) hb
  clear x1 hb
  go_wp2_with (fail)
  go_ret2
  exact RetC.nil _ hB
set_option maxRecDepth 100000 in
set_option maxHeartbeats 8000000 in
theorem count_in (d r s : Int) (a : Option Addr) (n c : Nat) (L : List Int) (w : World) (h : Rt d r s) (hk : Ins w a n L) (hn : n ≤ 1000000000000) (hwf : ∀ z ∈ L, (Lit.int .i64 z).wf = true) :
    Calls Try.prog 12 #[gv d r s, .slice a n c] w fun e w' => ∃ l ok, RetC w l ok e w' ∧ CntR d r s L l ok := by
  have x1 := Bx.mk' w d r s 23
  obtain ⟨p1, p2, _, _⟩ := PL_bd h.d1 h.d2 h.r1 h.r2
  have s1 := h.s1
  have s2 := h.s2
  obtain ⟨S, rfl⟩ := Int.eq_ofNat_of_zero_le (show 0 ≤ s by omega)
  obtain ⟨D, hD⟩ := Int.eq_ofNat_of_zero_le (show 0 ≤ PL d r by omega)
  have hC1 : Hid (AdOk (S * D) L → CntR d r S L (cL S D L) true) := Lib.hid fun hA => by
    unfold CntR
    rw [hD, Int.toNat_natCast, Int.toNat_natCast]
    exact ⟨fun _ _ => ⟨rfl, rfl⟩, fun hh => absurd ⟨h, hA⟩ hh⟩
  have hC2 : Hid (¬ AdOk (S * D) L → CntR d r S L [] false) := Lib.hid fun hA => by
    unfold CntR
    rw [hD, Int.toNat_natCast, Int.toNat_natCast]
    exact ⟨fun _ hh => absurd hh hA, fun _ => ⟨rfl, rfl⟩⟩
  rw [hD] at p1 p2
  have hl := hk.len
  have hTm : S * D ≤ 64 * 59 := Nat.mul_le_mul (by omega) (by omega)
  obtain ⟨T, hT⟩ : ∃ T, T = S * D := ⟨_, rfl⟩
  have HWy : Hid (∀ (k : Nat) w, k < T → Calls Try.prog 24 #[gv d r S, .int .i64 ((k : Int) + 1)] w fun e w' => e = .returned (.tuple #[.int .i64 ((k / D : Nat) : Int), .int .i64 ((k % D : Nat) + 1), .bool true]) ∧ Below w.heap.size w w') := Lib.hid fun k w hk => by
    have := where_ok d r S ((k : Int) + 1) w ⟨h, by omega, by rw [hD, ← Int.natCast_mul, ← hT]; omega⟩
    rw [hD, show (k : Int) + 1 - 1 = k by omega] at this
    exact this
  have HWn : Hid (∀ (z : Int) w, z < 1 ∨ (T : Int) < z → Calls Try.prog 24 #[gv d r S, .int .i64 z] w fun e w' => e = .returned (.tuple #[.int .i64 0, .int .i64 0, .bool false]) ∧ Below w.heap.size w w') := Lib.hid fun z w hz =>
    where_no d r S z w fun x => by
      have x0 := x.n0
      have x1 := x.n1
      rw [hD, ← Int.natCast_mul, ← hT] at x1
      omega
  have HT := Lib.hid hT
  have HTd : Hid (∀ t, t < T → t / D < S) := Lib.hid fun t ht => Nat.div_lt_of_lt_mul (by rw [Nat.mul_comm, ← hT]; exact ht)
  rw [← hT] at hC1 hC2 hTm
  have HK := Lib.hid hk
  have HWF := Lib.hid hwf
  have hmm := @run_makeMap Try.prog
  clear hk hD hT hwf
  go_enter Try.func12, Try.ntmps12
  go_wp2_with (fail)
  refine (right_yes d r S _ h).mono ?_
  rintro e w2 ⟨rfl, hb⟩
  have hB := bel_box' _ (by simp) hb
  have x2 := x1.next hb
  have y0 := x2.c0
  have y1 := x2.c1
  have y2 := x2.c2
  have hl2 : w.heap.size < w2.heap.size := x2.lt
  have HX := Lib.hid x2
  have HB := Lib.hid hB
  clear x1 hb x2 hB
  go_wp2_with (at_make; go_must (refine wpList_mki rfl (.tmp 17) (.tmp 17) rfl S rfl rfl (by omega) ?_); intro w4 hq4 hb4)
  rw [← cuL_zero S D L] at hq4
  obtain ⟨g, hg⟩ : ∃ g, g = w2.heap.size := ⟨_, rfl⟩
  rw [← hg] at hq4 hb4 hl2 ⊢
  have hq5 := hq4.below (B := w4.heap.size) hq4.lt ((Below.refl _ w4).alloc (Nat.le_refl _) (.map #[] 0))
  have hb5 : Below g w2 (w4.alloc (.map #[] 0)) := hb4.alloc (Nat.le_of_lt hq4.lt) _
  have hm5 := TmD.start w4
  have hgm : g < w4.heap.size := hq4.lt
  obtain ⟨mb, hmb⟩ : ∃ mb, mb = w4.heap.size := ⟨_, rfl⟩
  rw [← hmb] at hm5 hgm ⊢
  have he0 : cuL S D L 0 = cuL S D (L.take 0) T := by
    refine cuL_same fun j _ => ?_
    rw [List.take_zero, cU_nil]
    rfl
  rw [he0] at hq5
  have HX2 : Hid (∀ X, Below g w2 X → X.cell? ⟨w.heap.size, 0, none⟩ = some (.int .i64 d) ∧ X.cell? ⟨w.heap.size, 1, none⟩ = some (.int .i64 r) ∧ X.cell? ⟨w.heap.size, 2, none⟩ = some (.int .i64 (S : Int))) := Lib.hid fun X hX =>
    ⟨(hX.cell (p := ⟨w.heap.size, 0, none⟩) (by exact hl2)).trans HX.out.c0, (hX.cell (p := ⟨w.heap.size, 1, none⟩) (by exact hl2)).trans HX.out.c1, (hX.cell (p := ⟨w.heap.size, 2, none⟩) (by exact hl2)).trans HX.out.c2⟩
  have HBB : Hid (∀ X, Below g w2 X → Below w.heap.size w X) := Lib.hid fun X hX => HB.out.trans (hX.mono (by omega))
  have HG := Lib.hid hg
  have HQ5 := Lib.hid hq5
  have HM5 := Lib.hid hm5
  have HB5 := Lib.hid hb5
  clear hq5 hb5 hm5 hq4 hb4 he0 hg hmb y0 y1 y2
  go_loopw [9, 10, 11, 12, 22] (fun _ _ _ _ v wr => ∃ k : Nat, k ≤ n ∧ v = .int .i64 k ∧ AdOk T (L.take k) ∧ Blq wr g 3 ((cuL S D (L.take k) T).map (Value.int .i64)) ∧ (∃ M, TmD wr mb (L.take k |>.filter fun z => decide (z ≠ 0)) M) ∧ Below g w2 wr) (fun _ _ _ _ v _ => n - (RowKit.intOf v).toNat)
  case atStart => exact ⟨0, by omega, rfl, (fun z hz => by simp at hz), HQ5.out, ⟨_, HM5.out⟩, HB5.out⟩
  case round =>
    obtain ⟨k, hkn, rfl, hA, hq, ⟨M, hM⟩, hb⟩ := hrel
    have HA := Lib.hid hA
    have HQ := Lib.hid hq
    have HM := Lib.hid hM
    have HBk := Lib.hid hb
    have k0 : (0 : Int) ≤ (k : Int) := by omega
    obtain ⟨y0, y1, y2⟩ := HX2.out _ hb
    have hBw := HBB.out _ hb
    have hmw : mb < wr.heap.size := hM.lt
    by_cases hlt : k < n
    · have k1 : (k : Int) < (n : Int) := by omega
      obtain ⟨b, off, rfl, hbl, hc⟩ := (HK.out.below (Nat.le_refl _) hBw).at (by omega)
      have y := hc k hlt
      have hmem : Hid (num L k ∈ L) := Lib.hid (num_mem (by omega))
      have HTk := Lib.hid (take_num (ks := L) (k := k) (by omega))
      have hkl : Hid (k < L.length) := Lib.hid (by omega)
      clear hA hq hb hc hBw hM
      by_cases z0 : num L k = 0
      · have hz : (num L k == 0) = true := by simp [z0]
        have HA2 : Hid (AdOk T (L.take (k + 1))) := Lib.hid (adOk_take hkl.out HA.out (by omega) (by omega))
        have HE : Hid (cuL S D (L.take (k + 1)) T = cuL S D (L.take k) T) := Lib.hid (by
          rw [HTk.out, z0]
          exact cuL_same fun j _ => cU_cg fun i => has1_zero _ _)
        have HF : Hid ((L.take (k + 1)).filter (fun z => decide (z ≠ 0)) = (L.take k).filter fun z => decide (z ≠ 0)) := Lib.hid (by rw [HTk.out, z0, List.filter_append]; simp)
        clear z0
        go_wp2_with (fail)
        go_roundw
        case rel => exact ⟨k + 1, by omega, by go_num, HA2.out, by rw [HE.out]; exact HQ.out, ⟨_, by rw [HF.out]; exact HM.out⟩, HBk.out⟩
        case measure => simp [RowKit.intOf]; omega
      · have hz : (num L k == 0) = false := by simp [z0]
        by_cases z1 : num L k < 1 ∨ (T : Int) < num L k
        · have HN : Hid (¬ AdOk T L) := Lib.hid fun hh => by have := hh _ hmem.out; omega
          have HWk := HWn.out (num L k) wr z1
          clear z0 z1
          go_wp2_with (fail)
          refine HWk.mono ?_
          clear HWk
          rintro e w6 ⟨rfl, hb6⟩
          have HR : Hid (RetC w [] false (.returned (.tuple #[.slice none 0 0, .bool false])) w6) := Lib.hid (RetC.nil _ ((HBB.out _ HBk.out).trans (hb6.mono (HBB.out _ HBk.out).size)))
          clear hb6
          go_wp2_with (fail)
          go_ret2
          exact ⟨_, _, HR.out, hC2.out HN.out⟩
        · obtain ⟨m, hm⟩ : ∃ m : Nat, num L k = (m : Int) + 1 := ⟨(num L k - 1).toNat, by omega⟩
          have hmT : m < T := by omega
          have HWk := HWy.out m wr hmT
          have hds := HTd.out m hmT
          have HA2 : Hid (AdOk T (L.take (k + 1))) := Lib.hid (adOk_take hkl.out HA.out (by omega) (by omega))
          have hwm : Hid ((Lit.int .i64 ((m : Int) + 1)).wf = true) := Lib.hid (by rw [← hm]; exact HWF.out _ hmem.out)
          have HF : Hid ((L.take (k + 1)).filter (fun z => decide (z ≠ 0)) = ((L.take k).filter fun z => decide (z ≠ 0)) ++ [(m : Int) + 1]) := Lib.hid (by
            rw [HTk.out, List.filter_append, hm]
            rw [List.filter_cons, if_pos (decide_eq_true (by omega)), List.filter_nil])
          have HIn : Hid ((m : Int) + 1 ∈ (L.take k).filter (fun z => decide (z ≠ 0)) ↔ (m : Int) + 1 ∈ L.take k) := Lib.hid (by
            rw [List.mem_filter]
            exact ⟨fun x => x.1, fun x => ⟨x, by simp; omega⟩⟩)
          have hlenf : ((L.take k).filter fun z => decide (z ≠ 0)).length ≤ k := Nat.le_trans (List.length_filter_le _ _) (by rw [List.length_take]; omega)
          rw [hm] at y hz HTk
          obtain ⟨Lf, hLf⟩ : ∃ Lf, Lf = (L.take k).filter fun z => decide (z ≠ 0) := ⟨_, rfl⟩
          rw [← hLf] at HM HF HIn hlenf
          obtain ⟨sg, hsg⟩ : ∃ sg, sg = m / D := ⟨_, rfl⟩
          rw [← hsg] at HWk hds
          obtain ⟨rm, hrm⟩ : ∃ rm, rm = m % D := ⟨_, rfl⟩
          rw [← hrm] at HWk
          have HSG := Lib.hid hsg
          clear z0 z1 hm hLf hsg hrm
          go_wp2_with (fail)
          refine HWk.mono ?_
          clear HWk
          rintro e w6 ⟨rfl, hb6⟩
          have HM6 := Lib.hid (HM.out.next hb6)
          have HQ6 := Lib.hid (HQ.out.below HQ.out.lt hb6)
          have HB6 := Lib.hid (HBk.out.trans (hb6.mono (by have := HQ.out.lt; omega)))
          clear hb6 y0 y1 y2
          by_cases hin : (m : Int) + 1 ∈ L.take k
          · have HIN := Lib.hid hin
            have HE : Hid (cuL S D (L.take (k + 1)) T = cuL S D (L.take k) T) := Lib.hid (by
              rw [HTk.out]
              exact cuL_same fun j _ => cU_cg fun i => has1_old hin _)
            clear hin
            go_wp2_with (first | (at_lookup; refine wpList_lookup_own_int _ rfl _ _ 40 rfl 3 3 .i64 lawN Try.underlying40 Try.underlying3 (zeroN _) mb Lf.length M rfl HM6.out.own _ _ rfl (keyOf_int_mk Try.underlying3 hwm.out) ?_; intro c hat hwc; have HAT := Lib.hid hat; obtain ⟨c0, c1, c2⟩ := HM6.out.at' _ _ hat; have c3 : 1 ≤ c := (by have := mt c2.1 (fun x => x (HIn.out.2 HIN.out)); omega); clear c2 hat) | (at_mapUpdate; refine wpList_mapUpdate_in _ rfl _ _ _ 40 rfl 3 3 lawN Try.underlying40 _ mb Lf.length M rfl HM6.out.own (by unfold maxLen; omega) _ _ _ rfl rfl (keyOf_int_mk Try.underlying3 hwm.out) _ [] (plainElem_int Try.underlying3 (WalkArith.wf_i64 (by omega))) ?_; intro w7 hown7 hturn7; have HO7 := Lib.hid hown7; have HT7 := Lib.hid hturn7; clear hown7 hturn7) | (at_lookup; refine wpList_lookup_own_int _ rfl _ _ 40 rfl 3 3 .i64 lawN Try.underlying40 Try.underlying3 (zeroN _) mb (Lf.length + 1) _ rfl HO7.out _ _ rfl (keyOf_int_mk Try.underlying3 hwm.out) ?_; intro e hate hwe; have he := HM6.out.again hwm.out hate; clear hate; have he1 : (e == 1) = false := (by simp; omega); clear he) | go_in)
            go_roundw
            case rel => exact ⟨k + 1, by omega, by go_num, HA2.out, by rw [HE.out]; exact HQ6.out.turned HT7.out (by omega), ⟨_, by rw [HF.out]; exact HM6.out.put hwm.out HAT.out HO7.out⟩, below_turned HB6.out HT7.out (by omega) (by have := HQ6.out.lt; omega)⟩
            case measure => simp [RowKit.intOf]; omega
          · have HIN := Lib.hid hin
            have hcu := cU_le (D := D) (by omega) (L.take k) sg T
            have hset := cuL_set (S := S) (D := D) (t := T) (u := T) (L := L.take k) (M := L.take (k + 1)) hds (fun j _ => by
              rw [HTk.out]
              have := cU_new (D := D) (s := j) (t := T) (k := m) (L := L.take k) hmT hin
              rw [Int.natCast_add, show ((1 : Nat) : Int) = 1 from rfl] at this
              rw [this, HSG.out]
              by_cases e : j = m / D
              · rw [if_pos e.symm, if_pos e]
              · rw [if_neg (fun x => e x.symm), if_neg e])
            have HS := Lib.hid hset
            clear hin hset
            go_wp2_with (first | (at_lookup; refine wpList_lookup_own_int _ rfl _ _ 40 rfl 3 3 .i64 lawN Try.underlying40 Try.underlying3 (zeroN _) mb Lf.length M rfl HM6.out.own _ _ rfl (keyOf_int_mk Try.underlying3 hwm.out) ?_; intro c hat hwc; have HAT := Lib.hid hat; obtain ⟨c0, c1, c2⟩ := HM6.out.at' _ _ hat; have c3 : Hid (c = 0) := Lib.hid (c2.2 (fun x => HIN.out (HIn.out.1 x))); clear c2 hat) | (at_mapUpdate; refine wpList_mapUpdate_in _ rfl _ _ _ 40 rfl 3 3 lawN Try.underlying40 _ mb Lf.length M rfl HM6.out.own (by unfold maxLen; omega) _ _ _ rfl rfl (keyOf_int_mk Try.underlying3 hwm.out) _ [] (plainElem_int Try.underlying3 (WalkArith.wf_i64 (by omega))) ?_; intro w7 hown7 hturn7; have HO7 := Lib.hid hown7; have HT7 := Lib.hid hturn7; clear hown7 hturn7) | (at_lookup; refine wpList_lookup_own_int _ rfl _ _ 40 rfl 3 3 .i64 lawN Try.underlying40 Try.underlying3 (zeroN _) mb (Lf.length + 1) _ rfl HO7.out _ _ rfl (keyOf_int_mk Try.underlying3 hwm.out) ?_; intro e hate hwe; have he := HM6.out.again hwm.out hate; clear hate; have he1 : (e == 1) = true := (by have := c3.out; simp; omega); clear he; have hq7 := HQ6.out.turned HT7.out (by omega); have q1 := hq7.cell (cuL_at (D := D) (t := T) (L := L.take k) hds); have q2 := hq7.free sg; have HQ7 := Lib.hid hq7; clear hq7) | go_in)
            go_roundw
            case rel => exact ⟨k + 1, by omega, by go_num, HA2.out, by rw [← HS.out]; exact HQ7.out.set _ _, ⟨_, by rw [HF.out]; exact (HM6.out.put hwm.out HAT.out HO7.out).row (heap_setCell_other _ _ _ _ (by show mb ≠ g; omega))⟩, below_setq (below_turned HB6.out HT7.out (by omega) (by have := HQ6.out.lt; omega)) (Nat.le_refl g) _ _⟩
            case measure => simp [RowKit.intOf]; omega
    · obtain rfl : k = n := by omega
      have k1 : decide ((k : Int) < (k : Int)) = false := decide_eq_false (by omega)
      have hfull : L.take k = L := List.take_of_length_le (by omega)
      have HR : Hid (RetC w (cL S D L) true (.returned (.tuple #[.slice (some ⟨g, 0, none⟩) S S, .bool true])) wr) := Lib.hid (by
        rw [hfull] at hq
        have e : cuL S D L T = cL S D L := by unfold cuL cL; rw [HT.out]
        rw [e] at hq
        have hi := hq.ins
        rw [cL_len] at hi
        exact ⟨some ⟨g, 0, none⟩, S, by rw [cL_len], by rw [cL_len]; exact hi, (fun x hx => by cases hx; show w.heap.size ≤ g; omega), hBw⟩)
      rw [hfull] at HA
      clear hA hq hM hb hfull hBw
      go_wp2_with (fail)
      go_ret2
      exact ⟨_, _, HR.out, hC1.out HA.out⟩
theorem count_any (d r s : Int) (a : Option Addr) (n c : Nat) (L : List Int) (w : World) (hk : Ins w a n L) (hn : n ≤ 1000000000000) (hwf : ∀ z ∈ L, (Lit.int .i64 z).wf = true) :
    Calls Try.prog 12 #[gv d r s, .slice a n c] w fun e w' => ∃ l ok, RetC w l ok e w' ∧ CntR d r s L l ok := by
  by_cases h : Rt d r s
  · exact count_in d r s a n c L w h hk hn hwf
  · exact (count_out d r s a n c w h).mono fun e w' hr => ⟨_, _, hr, (fun x => absurd x h), fun _ => ⟨rfl, rfl⟩⟩
end Go.Proofs.Ytdgjhfghggcfaaa
