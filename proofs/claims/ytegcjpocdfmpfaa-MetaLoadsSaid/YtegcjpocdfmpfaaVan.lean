/-
  The document's reader: node, by contract.
-/
import Derived.Test.YtegcjpocdfmpfaaVam
set_option linter.unusedVariables false
set_option linter.unusedSimpArgs false
set_option maxRecDepth 100000
set_option maxHeartbeats 16000000
namespace Go.Proofs.Ytegcjpocdfmpfaa
open Go.RowKit

/-- A node that a call answers. -/
structure NwOk (w : World) (x : Nw) : Prop where
  ins : Ins w x.a x.n x.ks
  nil : x.a = none → x.n = 0 ∧ x.c = 0
  max : x.n ≤ 9223372036854775807
def NdP (w : World) (S : Sv) (g : Nat) (v : Value) (m : Nat) (q : St × Nd × Bool) (e : Ending) (w' : World) : Prop :=
  ∃ x h v', e = .returned (.tuple #[nwV x, .bool h]) ∧ Left w S g v m q.1 w' v' ∧ NwOk w' x ∧ (∀ y, x.a = some y → w.heap.size ≤ y.block ∧ y.block < w'.heap.size ∧ ¬ Tv g v' y.block) ∧ (∀ l, q.1 = .ok l → x.nd = q.2.1 ∧ h = q.2.2)
theorem NdP.bad {w w' : World} {S : Sv} {g : Nat} {v v' : Value} {m : Nat} {q : St × Nd × Bool} {e : Int} (h : Left w S g v m q.1 w' v') (he : q.1 = .error e) : NdP w S g v m q (.returned (.tuple #[.agg #[.int .i64 0, .int .i64 0, .int .i64 0, .int .i64 0, .slice none 0 0], .bool false])) w' :=
  ⟨⟨0, 0, 0, 0, none, 0, 0, []⟩, false, v', rfl, h, ⟨⟨rfl, .inl rfl⟩, (fun _ => ⟨rfl, rfl⟩), by decide⟩, (fun y e => by cases e), fun l e => by rw [he] at e; cases e⟩
theorem RdS.cOk {w : World} {S : Sv} {g m : Nat} {v : Value} {l : List Int} (h : RdS w S g v m (.ok l)) : w.cell? ⟨g, 5, none⟩ = some (.int .i64 0) ∧ g < w.heap.size ∧ w.frozen? ⟨g, 5, none⟩ = false := by
  obtain ⟨l2, bad, hR, _, rfl, rfl⟩ := h
  exact ⟨hR.c5, hR.lt, hR.fr 5⟩
theorem RdS.cErr {w : World} {S : Sv} {g m : Nat} {v : Value} {e : Int} (h : RdS w S g v m (.error e)) : w.cell? ⟨g, 5, none⟩ = some (.int .i64 e) ∧ g < w.heap.size ∧ e ≠ 0 := by
  obtain ⟨l2, bad, hR, _, rfl, h0⟩ := h
  exact ⟨hR.c5, hR.lt, h0⟩
theorem RdS.geo {w : World} {S : Sv} {g m : Nat} {v : Value} {st : St} (h : RdS w S g v m st) : Rt S.d S.r S.s ∧ w.cell? ⟨g, 0, none⟩ = some (.int .i64 S.d) ∧ w.cell? ⟨g, 1, none⟩ = some (.int .i64 S.r) ∧ w.cell? ⟨g, 2, none⟩ = some (.int .i64 S.s) := by
  obtain ⟨l2, bad, hR, _⟩ := h
  exact ⟨hR.rt, hR.c0, hR.c1, hR.c2⟩
theorem wrA_succ (N nb : Int) (A : List Int) (k : Nat) : wrA N nb A (k + 1) = (wrA N nb A k || (num A k != 0 && (!isA N (num A k) || decide (nb ≤ (k : Int))))) := rfl
theorem lst_succ (A : List Int) (k : Nat) : lst A (k + 1) = if num A k = 0 then lst A k else k + 1 := rfl
theorem Left.setBad {w w' : World} {S : Sv} {g m : Nat} {v v' : Value} {l : List Int} (h : Left w S g v m (.ok l) w' v') {e : Int} (he : e ≠ 0) : Left w S g v m (.error e) (w'.setCell ⟨g, 5, none⟩ (.int .i64 e)) v' := by
  obtain ⟨h1, ⟨l2, bad, hR, hl, rfl, rfl⟩, h3⟩ := h
  refine ⟨h1.trans2 (Turn.setCell (M := (· = g)) (a := ⟨g, 5, none⟩) w' rfl _) (fun j e => .inl (.inl e)), ⟨l2, e, hR.setBad e, hl, rfl, he⟩, h3⟩
theorem Left.turnNew {w w' w2 : World} {S : Sv} {g m : Nat} {v v' : Value} {st : St} {M : Nat → Prop} (h : Left w S g v m st w' v') (ht : Turn M w' w2) (hM : ∀ j, M j → w.heap.size ≤ j ∧ ¬ Tv g v' j) (hs : S.w0.heap.size ≤ w.heap.size) : Left w S g v m st w2 v' :=
  ⟨h.1.trans2 ht fun j e => .inr (hM j e).1, h.2.1.turn ht fun j e => ⟨(hM j e).2, Nat.le_trans hs (hM j e).1⟩, h.2.2⟩
theorem Left.more {w w' : World} {S : Sv} {g m m' : Nat} {v v' : Value} {st : St} (h : Left w S g v m st w' v') (hm : m ≤ m') : Left w S g v m' st w' v' := ⟨h.1, h.2.1.more hm, h.2.2⟩
theorem rnode_any (S : Sv) (g : Nat) (v : Value) (m : Nat) (st : St) (ino p : Int) (w : World) (h : RdS w S g v m st) (hm : m ≤ 100000) :
    Calls Try.prog 68 #[.pointer (some ⟨g, 0, none⟩), .int .i64 ino, .int .i64 p] w (NdP w S g v (m + 31) (ndF S.N S.blk st ino p)) := by
  obtain ⟨wa, hwa⟩ : ∃ wa, wa = w.alloc (.cells #[.int .i64 0, .int .i64 0, .int .i64 0, .int .i64 0, .slice none 0 0] 83) := ⟨_, rfl⟩
  have hBa : Below w.heap.size w wa := by rw [hwa]; exact (Below.refl _ _).alloc (Nat.le_refl _) _
  have hbk : wa.heap[w.heap.size]? = some (.cells #[.int .i64 0, .int .i64 0, .int .i64 0, .int .i64 0, .slice none 0 0] 83 (0, 0)) := by rw [hwa]; exact heap_alloc_new w _
  have HBA := Lib.hid hBa
  have HBK := Lib.hid hbk
  have HW := Lib.hid hwa
  have HS := Lib.hid h
  have HC := Lib.hid (rblock_any S g v m st p wa (h.next hBa) (by omega))
  clear h hwa hBa hbk
  go_enter Try.func68, Try.ntmps68
  go_upto_region 1 with fail
  rw [← HW.out]
  go_wp2_with (fail)
  refine HC.out.mono ?_
  rintro e w2 ⟨a, n, c, v2, rfl, hp, hn, hL⟩
  have HL2 := Lib.hid (show Left w S g v (m + 1) (stp S.N S.blk st p) w2 v2 from ⟨(Turn.of_below HBA.out).trans hL.1, hL.2.1, fun j e => (hL.2.2 j e).imp id (fun h => Nat.le_trans HBA.out.size h)⟩)
  have HBK2 := Lib.hid ((hL.1.block _ (lt_of_block HBK.out) (HS.out.old (Nat.le_refl _))).trans HBK.out)
  have HN6 := Lib.hid (show ¬ Tv g v2 w.heap.size from hL.vnew (lt_of_block HBK.out) (HS.out.old (Nat.le_refl _)))
  have HGT := Lib.hid (rgetR_any a n c (dat S.N S.blk st p) w2 hp.bys (by
    have := hp.len
    cases hs : stp S.N S.blk st p with
    | ok l => rw [dat_len hs] at this; omega
    | error e => unfold dat at this; rw [hs] at this; simp at this; omega) hp.cap)
  clear hp hn hL
  go_wp2_with (fail)
  refine HGT.out.mono ?_
  rintro e w3 ⟨rfl, hb3⟩
  have HL3 := Lib.hid (HL2.out.next hb3)
  have HBK3 := Lib.hid ((hb3.block _ (lt_of_block HBK2.out)).trans HBK2.out)
  clear hb3
  obtain ⟨D, hD⟩ : ∃ D, D = dat S.N S.blk st p := ⟨_, rfl⟩
  rw [← hD]
  obtain ⟨F, hF⟩ : ∃ F, F = gR D := ⟨_, rfl⟩
  rw [← hF]
  obtain ⟨ok, hok⟩ : ∃ ok, ok = okG D := ⟨_, rfl⟩
  rw [← hok]
  have HD := Lib.hid hD
  have HF := Lib.hid hF
  have HOK := Lib.hid hok
  clear hD hF hok
  go_upto_region 2 with (refine wpList_stR (by rfl) (.tmp 8) (.tmp 25) rfl w3.heap.size rfl F rfl noR (Rcb.mk' w3 noR) ?_; intro wd hPd hOd hBd)
  have hbd : Below w3.heap.size w3 wd := hBd _ _ (Nat.le_refl _) ((Below.refl _ _).alloc (Nat.le_refl _) _)
  have HL4 := Lib.hid (HL3.out.next hbd)
  have HBK4 := Lib.hid ((hbd.block _ (lt_of_block HBK3.out)).trans HBK3.out)
  have HR4 := Lib.hid hPd
  have HLT := Lib.hid (show w.heap.size < w3.heap.size from lt_of_block HBK3.out)
  clear hPd hOd hBd hbd
  cases hs : stp S.N S.blk st p with
  | error e =>
    obtain ⟨c5, lt5, he⟩ := (show RdS wd S g v2 (m + 1) (.error e) by rw [← hs]; exact HL4.out.2.1).cErr
    have d1 : (e == 0) = false := by simp [he]
    have d2 : (e != 0) = true := by simp [he]
    have HQ := Lib.hid (show ndF S.N S.blk st ino p = (.error e, default, false) by unfold ndF; rw [hs])
    have HSS := Lib.hid hs
    clear he hs
    go_wp2_with (refine wpList_stN (by rfl) (.tmp 6) (.tmp 44) rfl w.heap.size rfl noN noN rfl HBK4.out ?_; intro we hBe hTe)
    have hL5 : Left w S g v (m + 31) (ndF S.N S.blk st ino p).1 we v2 := by
      rw [HQ.out]
      have h0 := HL4.out
      rw [HSS.out] at h0
      exact (h0.turnNew hTe (fun j e => by rw [e]; exact ⟨Nat.le_refl _, by
        have h1 := HN6.out
        exact h1⟩) HS.out.size).more (by omega)
    refine bodyPost_ret (v := .tuple #[nwV noN, .bool false]) ?_ rfl (NdP.bad hL5 (by rw [HQ.out]))
    exact res_ct rfl _ _ ⟨w.heap.size, 0, none⟩ _ _ rfl rfl (load_nw hBe)
  | ok l1 =>
    have HSS := Lib.hid hs
    obtain ⟨c5, lt5, fr5⟩ := (show RdS wd S g v2 (m + 1) (.ok l1) by rw [← hs]; exact HL4.out.2.1).cOk
    cases ok with
    | false =>
      have HQ := Lib.hid (show ndF S.N S.blk st ino p = (.error 15, default, false) by unfold ndF; rw [hs]; simp only; rw [← HD.out, ← HOK.out]; rfl)
      have h0 := HL4.out
      rw [hs] at h0
      have HL5 := Lib.hid (h0.setBad (e := 15) (by decide))
      have HBK5 := Lib.hid (show (wd.setCell ⟨g, 5, none⟩ (.int .i64 15)).heap[w.heap.size]? = _ from (heap_setCell_other wd ⟨g, 5, none⟩ w.heap.size _ (fun e => HN6.out (.inl e))).trans HBK4.out)
      clear hs h0
      go_wp2_with (refine wpList_stN (by rfl) (.tmp 6) (.tmp 44) rfl w.heap.size rfl noN noN rfl HBK5.out ?_; intro we hBe hTe)
      have hL6 : Left w S g v (m + 31) (ndF S.N S.blk st ino p).1 we v2 := by
        rw [HQ.out]
        exact (HL5.out.turnNew hTe (fun j e => by rw [e]; exact ⟨Nat.le_refl _, HN6.out⟩) HS.out.size).more (by omega)
      refine bodyPost_ret (v := .tuple #[nwV noN, .bool false]) ?_ rfl (NdP.bad hL6 (by rw [HQ.out]))
      exact res_ct rfl _ _ ⟨w.heap.size, 0, none⟩ _ _ rfl rfl (load_nw hBe)
    | true =>
      have HG1 := Lib.hid (show gR D = tld D by funext i; unfold gR; rw [← HOK.out]; rfl)
      have HQ := Lib.hid (show ndF S.N S.blk st ino p = ((ndT S.N S.blk (.ok l1) D).1, ⟨ino, tld D 0, tld D 1, tld D 2, trm (ndT S.N S.blk (.ok l1) D).2.1⟩, (ndT S.N S.blk (.ok l1) D).2.2) by unfold ndF; rw [hs]; simp only; rw [← HD.out, ← HOK.out]; rfl)
      have HN8 := Lib.hid (show ¬ Tv g v2 w3.heap.size from HL3.out.2.1.old (Nat.le_refl _))
      have hW : NdW wd w S g v v2 (m + 1) (.ok l1) w.heap.size w3.heap.size F (.slice none 0 0) [] := by
        have h0 := HL4.out
        rw [hs] at h0
        exact ⟨h0, HR4.out, HBK4.out, ownI_nil _ _, Nat.le_refl _, Nat.le_of_lt HLT.out, HN6.out, HN8.out, (fun j e => by cases e), (by have := HLT.out; omega), HS.out.size⟩
      have HNW := Lib.hid hW
      have y2 := HR4.out.cell (i := 2) (by decide)
      obtain ⟨sz, hsz⟩ : ∃ sz, sz = F 2 := ⟨_, rfl⟩
      rw [← hsz] at y2
      obtain ⟨nb, hnb⟩ : ∃ nb, nb = blkN sz := ⟨_, rfl⟩
      have hbn := rblocks_any sz wd
      rw [← hnb] at hbn
      have HSZ := Lib.hid hsz
      have HNB := Lib.hid hnb
      have lt8 := HR4.out.lt
      clear hs hW hsz hnb
      go_wp2_with (fail)
      refine hbn.mono ?_
      rintro e w5 ⟨rfl, rfl⟩
      clear c5 y2 fr5 lt8 hbn
      have hbx : Below wd.heap.size wd (wd.alloc (.cells #[] 3)) := (Below.refl _ _).alloc (Nat.le_refl _) _
      have HA1 := Lib.hid (((HNW.out.next hbx).setU (u' := .slice (some ⟨wd.heap.size, 0, none⟩) 0 0) (ys := []) (ownI_none wd w.heap.size (HNW.out.lf.1.size)) (fun j e => by
        simp only [Value.ownBlock, Option.some.injEq] at e
        subst e
        exact ⟨HNW.out.lf.2.1.old (Nat.le_refl _), fun e => by have := HNW.out.l6lt; omega, fun e => by have := HNW.out.rc.lt; omega⟩)))
      clear hbx
      go_upto_region 9 with (at_builtin; go_must (refine wpList_apq rfl (.tmp 49) (.tmp 51) rfl w.heap.size _ 0 [] rfl HA1.out.own (some ⟨w3.heap.size, 3, none⟩) 16 16 (dir F) rfl HA1.out.rc.dir (fun h => by cases h) (by omega) HA1.out.lf.1.size ?_); intro u6 w6 hO6 hG6 hu6; have hA6 := HA1.out.app hO6 hG6 hu6; have HA6 := Lib.hid hA6; clear hO6 hG6 hu6 hA6)
      go_upto_region 13 with (at_make; go_must (first
        | (refine wpList_mki rfl _ _ rfl _ _ _ _ 28 rfl rfl rfl rfl (by omega) w6.heap.size (Nat.le_refl _) ?_; intro w7 o7 b7; obtain ⟨hA7, hS7⟩ := HA6.out.mk28 o7 b7; have HA7 := Lib.hid hA7; have HS7 := Lib.hid hS7; clear o7 b7 hA7 hS7)
        | (refine wpList_mki rfl _ _ rfl _ _ _ _ 28 rfl rfl rfl rfl (by omega) w7.heap.size (Nat.le_refl _) ?_; intro w8 o8 b8; obtain ⟨hA8, hD8⟩ := HA7.out.mk28 o8 b8; have HS8 := Lib.hid (HS7.out.next b8); have HA8 := Lib.hid hA8; have HD8 := Lib.hid hD8; clear o8 b8 hA8 hD8)))
      have c19 := HA8.out.rc.cell (i := 19) (by decide)
      have lt8 := HA8.out.rc.lt
      obtain ⟨z, hz⟩ : ∃ z, z = F 19 := ⟨_, rfl⟩
      rw [← hz] at c19
      obtain ⟨q1, hq1⟩ : ∃ q, q = one S.N S.blk (.ok l1) z := ⟨_, rfl⟩
      have HZ := Lib.hid hz
      have HQ1 := Lib.hid hq1
      clear hz hq1 HA1 HA6 HA7 HS7 HNW
      go_upto_if 57 with fail
      clear c19 lt8
      go_cut [12, 14] (fun s12 s14 wx => ∃ (v' : Value) (b c : Nat), s12 = .slice (some ⟨b, 0, none⟩) 28 c ∧ s14 = .bool q1.2.2 ∧ NdW wx w S g v v' (m + 2) q1.1 w.heap.size w3.heap.size F u6 ([] ++ dir F) ∧ Slc wx w g v' u6 w.heap.size b q1.2.1 ∧ Slc wx w g v' u6 w.heap.size w7.heap.size (List.replicate 28 0))
      case first =>
        by_cases hz0 : z = 0
        · have d1 : (z != 0) = false := by simp [hz0]
          have HE := Lib.hid (show q1 = (.ok l1, zer, false) by rw [HQ1.out, one, if_pos hz0])
          clear hz0
          go_wp2_with fail
          go_meet
          rw [HE.out]
          exact ⟨v2, w6.heap.size, 28, rfl, rfl, HA8.out.more (by omega), HS8.out, HD8.out⟩
        · have d1 : (z != 0) = true := by simp [hz0]
          have HE := Lib.hid (show q1 = (stp S.N S.blk (.ok l1) z, pS S.N S.blk (.ok l1) z, !som (pS S.N S.blk (.ok l1) z)) by rw [HQ1.out, one, if_neg hz0])
          have c19 := HA8.out.rc.cell (i := 19) (by decide)
          rw [← HZ.out] at c19
          have lt8 := HA8.out.rc.lt
          clear hz0
          go_wp2_with fail
          refine (rpointed_any S g v2 (m + 1) (.ok l1) z w8 HA8.out.lf.2.1 (by omega)).mono ?_
          intro e wp hp
          obtain ⟨b, cc, v9, rfl, hA9, hS9, hL9⟩ := HA8.out.pt28 hp
          have HA9 := Lib.hid hA9
          have HS9 := Lib.hid hS9
          have HD9 := Lib.hid (HD8.out.call hL9)
          have HNN := Lib.hid (rnone_any (some ⟨b, 0, none⟩) 28 cc _ wp hS9.ins (by omega))
          clear hp hA9 hS9 hL9 c19 lt8
          go_wp2_with fail
          refine HNN.out.mono ?_
          rintro e wq ⟨rfl, hb⟩
          have HA10 := Lib.hid (HA9.out.next hb)
          have HS10 := Lib.hid (HS9.out.next hb)
          have HD10 := Lib.hid (HD9.out.next hb)
          clear hb
          go_wp2_with fail
          go_meet
          rw [HE.out]
          exact ⟨v9, b, cc, rfl, rfl, HA10.out, HS10.out, HD10.out⟩
      case rest =>
      obtain ⟨v3, bs, cs, e12, e14, hA, hS, hD⟩ := hcut
      subst e12 e14
      have HA3 := Lib.hid hA
      have HS3 := Lib.hid hS
      have HD3 := Lib.hid hD
      clear hA hS hD HA8 HS8 HD8
      have c20 := HA3.out.rc.cell (i := 20) (by decide)
      have lt8 := HA3.out.rc.lt
      obtain ⟨z2, hz2⟩ : ∃ z, z = F 20 := ⟨_, rfl⟩
      rw [← hz2] at c20
      obtain ⟨q2, hq2⟩ : ∃ q, q = one S.N S.blk q1.1 z2 := ⟨_, rfl⟩
      obtain ⟨h1, hh1⟩ : ∃ h, h = q1.2.2 := ⟨_, rfl⟩
      rw [← hh1]
      have HZ2 := Lib.hid hz2
      have HQ2 := Lib.hid hq2
      have HH1 := Lib.hid hh1
      clear hz2 hq2 hh1
      go_upto_if 69 with fail
      clear c20 lt8
      go_cut [13, 14] (fun s13 s14 wx => ∃ (v' : Value) (b c : Nat), s13 = .slice (some ⟨b, 0, none⟩) 28 c ∧ s14 = .bool (h1 || q2.2.2) ∧ NdW wx w S g v v' (m + 3) q2.1 w.heap.size w3.heap.size F u6 ([] ++ dir F) ∧ Slc wx w g v' u6 w.heap.size bs q1.2.1 ∧ Slc wx w g v' u6 w.heap.size b q2.2.1)
      case first =>
        by_cases hz0 : z2 = 0
        · have d1 : (z2 != 0) = false := by simp [hz0]
          have HE := Lib.hid (show q2 = (q1.1, zer, false) by rw [HQ2.out, one, if_pos hz0])
          clear hz0
          go_wp2_with fail
          go_meet
          rw [HE.out]
          exact ⟨v3, w7.heap.size, 28, rfl, by rw [Bool.or_false], HA3.out.more (by omega), HS3.out, HD3.out⟩
        · have d1 : (z2 != 0) = true := by simp [hz0]
          have HE := Lib.hid (show q2 = (stp S.N S.blk q1.1 z2, pS S.N S.blk q1.1 z2, !som (pS S.N S.blk q1.1 z2)) by rw [HQ2.out, one, if_neg hz0])
          have c20 := HA3.out.rc.cell (i := 20) (by decide)
          rw [← HZ2.out] at c20
          have lt8 := HA3.out.rc.lt
          clear hz0
          go_wp2_with fail
          refine (rpointed_any S g v3 (m + 2) q1.1 z2 wc HA3.out.lf.2.1 (by omega)).mono ?_
          intro e wp hp
          obtain ⟨b, cc, v9, rfl, hA9, hS9, hL9⟩ := HA3.out.pt28 hp
          have HA9 := Lib.hid hA9
          have HS9 := Lib.hid hS9
          have HD9 := Lib.hid (HS3.out.call hL9)
          have HNN := Lib.hid (rnone_any (some ⟨b, 0, none⟩) 28 cc _ wp hS9.ins (by omega))
          clear hp hA9 hS9 hL9 c20 lt8
          cases h1 with
          | true =>
            go_wp2_with fail
            go_meet
            rw [HE.out]
            exact ⟨v9, b, cc, rfl, rfl, HA9.out, HD9.out, HS9.out⟩
          | false =>
            go_wp2_with fail
            refine HNN.out.mono ?_
            rintro e wq ⟨rfl, hb⟩
            have HA10 := Lib.hid (HA9.out.next hb)
            have HS10 := Lib.hid (HS9.out.next hb)
            have HD10 := Lib.hid (HD9.out.next hb)
            clear hb
            go_wp2_with fail
            go_meet
            rw [HE.out]
            exact ⟨v9, b, cc, rfl, rfl, HA10.out, HD10.out, HS10.out⟩
      case rest =>
      obtain ⟨v4, bd, cd, e13, e14, hA, hS, hD⟩ := hcut
      subst e13 e14
      have HA4 := Lib.hid hA
      have HS4 := Lib.hid hS
      have HD4 := Lib.hid hD
      obtain ⟨h2, hh2⟩ : ∃ h, h = (h1 || q2.2.2) := ⟨_, rfl⟩
      rw [← hh2]
      have HH2 := Lib.hid hh2
      clear hA hS hD HA3 HS3 HD3 hh2
      go_upto_region 20 with (at_builtin; go_must (refine wpList_apq rfl (.tmp 79) (.tmp 80) rfl w.heap.size _ _ _ rfl HA4.out.own (some ⟨bs, 0, none⟩) 28 cs q1.2.1 rfl HS4.out.ins (fun h => by cases h) (by simp [dir]) HA4.out.lf.1.size ?_); intro u7 w9 hO9 hG9 hu9; have hA9 := HA4.out.app hO9 hG9 hu9; have hD9 := HD4.out.app hG9 hu9; have HA9 := Lib.hid hA9; have HD9 := Lib.hid hD9; clear hO9 hG9 hu9 hA9 hD9)
      obtain ⟨RES, hRES⟩ : ∃ R, R = ptS S.N S.blk q2.2.1 nb 28 0 q2.1 [] h2 false := ⟨_, rfl⟩
      have HRES := Lib.hid hRES
      obtain ⟨BASE, hBASE⟩ : ∃ B, B = [] ++ dir F ++ q1.2.1 := ⟨_, rfl⟩
      rw [← hBASE] at HA9
      have HBASE := Lib.hid hBASE
      have HBL := Lib.hid (show BASE.length = 44 by
        rw [hBASE, HQ1.out]
        unfold one
        split
        · simp [dir, zer_len]
        · simp [dir, pS_len])
      have HDL := Lib.hid (show q2.2.1.length = 28 by
        rw [HQ2.out]
        unfold one
        split
        · rfl
        · exact pS_len _ _ _ _)
      clear hRES hBASE HA4 HS4 HD4
      go_wp2_with (fail)
      go_loopw [11, 14, 15, 16, 17] (fun s11 s14 s15 s16 _p wr => ∃ (i : Nat) (v' u' : Value) (st' : St) (acc : List Int) (hh wv : Bool), i ≤ 28 ∧ s16 = .int .i64 i ∧ u' = s11 ∧ s14 = .bool hh ∧ s15 = .bool wv ∧ acc.length = 28 * i ∧ ptS S.N S.blk q2.2.1 nb (28 - i) i st' acc hh wv = RES ∧ NdW wr w S g v v' (m + 3 + i) st' w.heap.size w3.heap.size F u' (BASE ++ acc) ∧ Slc wr w g v' u' w.heap.size bd q2.2.1) (fun _ _ _ s16 _ _ => 28 - (RowKit.intOf s16).toNat)
      case atStart => exact ⟨0, v4, u7, q2.1, [], h2, false, by omega, rfl, rfl, rfl, rfl, rfl, HRES.out.symm, by rw [List.append_nil]; exact HA9.out, HD9.out⟩
      case round =>
        obtain ⟨i, v5, u5, st5, acc, hh, wv, hi, rfl, rfl, rfl, rfl, hal, hpt, hA, hD⟩ := hrel
        have HA5 := Lib.hid hA
        have HD5 := Lib.hid hD
        have HPT := Lib.hid hpt
        have HAL := Lib.hid hal
        clear hA hD hpt hal HA9 HD9
        by_cases hlt : i < 28
        · have HPT2 := Lib.hid (show ptS S.N S.blk q2.2.1 nb (28 - (i + 1)) (i + 1) (one S.N S.blk st5 (num q2.2.1 i)).1 (acc ++ (one S.N S.blk st5 (num q2.2.1 i)).2.1) (hh || (one S.N S.blk st5 (num q2.2.1 i)).2.2) (wv || (num q2.2.1 i != 0 && decide (nb ≤ 44 + 28 * (i : Int)))) = RES by
            have := HPT.out
            rw [show 28 - i = (28 - (i + 1)) + 1 by omega, ptS] at this
            exact this)
          obtain ⟨z, hz⟩ : ∃ z, z = num q2.2.1 i := ⟨_, rfl⟩
          rw [← hz] at HPT2
          have HZ5 := Lib.hid hz
          obtain ⟨q5, hq5⟩ : ∃ q, q = one S.N S.blk st5 z := ⟨_, rfl⟩
          rw [← hq5] at HPT2
          have HQ5 := Lib.hid hq5
          clear hz hq5 HPT
          go_upto_region 24 with (at_make; go_must (refine wpList_mki rfl _ _ rfl _ _ _ _ 28 rfl rfl rfl rfl (by omega) wr.heap.size (Nat.le_refl _) ?_; intro w6' o6 b6'; obtain ⟨hA6, hP6⟩ := HA5.out.mk28 o6 b6'; have HA6 := Lib.hid hA6; have HP6 := Lib.hid hP6; have HD6 := Lib.hid (HD5.out.next b6'); clear o6 b6' hA6 hP6))
          have cz : w6'.cell? ⟨bd, i, none⟩ = some (.int .i64 z) := by
            obtain ⟨b', off', e, _, hc⟩ := HD6.out.ins.at (by omega)
            cases e
            have := hc i hlt
            rw [Nat.zero_add] at this
            rw [this, ← HZ5.out]
          have ltd := HD6.out.lt
          have i1 : (i : Int) < 28 := by omega
          go_upto_if 91 with fail
          clear cz
          obtain ⟨gw, hgw⟩ : ∃ gw, gw = (wv || (z != 0 && decide (nb ≤ 44 + 28 * (i : Int)))) := ⟨_, rfl⟩
          rw [← hgw] at HPT2
          have HGW := Lib.hid hgw
          obtain ⟨gh, hgh⟩ : ∃ gh, gh = (hh || q5.2.2) := ⟨_, rfl⟩
          rw [← hgh] at HPT2
          have HGH := Lib.hid hgh
          clear hgw hgh
          go_cut [14, 15, 17] (fun s14 s15 s17 wx => ∃ (v' : Value) (b c : Nat), s17 = .slice (some ⟨b, 0, none⟩) 28 c ∧ s14 = .bool gh ∧ s15 = .bool gw ∧ NdW wx w S g v v' (m + 3 + (i + 1)) q5.1 w.heap.size w3.heap.size F u5 (BASE ++ acc) ∧ Slc wx w g v' u5 w.heap.size bd q2.2.1 ∧ Slc wx w g v' u5 w.heap.size b q5.2.1)
          case first =>
            by_cases hz0 : z = 0
            · have d1 : (z != 0) = false := by simp [hz0]
              have HE := Lib.hid (show q5 = (st5, zer, false) by rw [HQ5.out, one, if_pos hz0])
              have HEW := Lib.hid (show wv = gw by rw [HGW.out, d1]; simp)
              have HEH := Lib.hid (show hh = gh by rw [HGH.out, HE.out]; simp)
              clear hz0
              go_wp2_with fail
              go_meet
              rw [HE.out, ← HEW.out, ← HEH.out]
              exact ⟨v5, wr.heap.size, 28, rfl, rfl, rfl, HA6.out.more (by omega), HD6.out, HP6.out⟩
            · have d1 : (z != 0) = true := by simp [hz0]
              have HE := Lib.hid (show q5 = (stp S.N S.blk st5 z, pS S.N S.blk st5 z, !som (pS S.N S.blk st5 z)) by rw [HQ5.out, one, if_neg hz0])
              have HEW := Lib.hid (show gw = (wv || decide (nb ≤ 44 + 28 * (i : Int))) by rw [HGW.out, d1, Bool.true_and])
              have HEH := Lib.hid (show gh = (hh || !som (pS S.N S.blk st5 z)) by rw [HGH.out, HE.out])
              have cz : w6'.cell? ⟨bd, i, none⟩ = some (.int .i64 z) := by
                obtain ⟨b', off', e, _, hc⟩ := HD6.out.ins.at (by omega)
                cases e
                have := hc i hlt
                rw [Nat.zero_add] at this
                rw [this, ← HZ5.out]
              have ltd := HD6.out.lt
              clear hz0
              go_wp2_with fail
              refine (rpointed_any S g v5 (m + 3 + i) st5 z w6' HA6.out.lf.2.1 (by omega)).mono ?_
              intro e wp hp
              obtain ⟨b, cc, v9, rfl, hA9, hS9, hL9⟩ := HA6.out.pt28 hp
              have HA9 := Lib.hid hA9
              have HS9 := Lib.hid hS9
              have HD9 := Lib.hid (HD6.out.call hL9)
              have HNN := Lib.hid (rnone_any (some ⟨b, 0, none⟩) 28 cc _ wp hS9.ins (by omega))
              have m1 : IntKind.i64.wrap (28 * (i : Int)) = 28 * (i : Int) := IntWalk.i64_in _ (by omega)
              have m2 : IntKind.i64.wrap (44 + 28 * (i : Int)) = 44 + 28 * (i : Int) := IntWalk.i64_in _ (by omega)
              clear hp hA9 hS9 hL9 cz
              cases hh with
              | true =>
                cases wv with
                | true =>
                  go_wp2_with fail
                  go_meet
                  rw [HE.out, HEH.out, HEW.out]
                  exact ⟨v9, b, cc, rfl, rfl, rfl, HA9.out.more (by omega), HD9.out, HS9.out⟩
                | false =>
                  go_wp2_with fail
                  go_meet
                  rw [HE.out, HEH.out, HEW.out]
                  exact ⟨v9, b, cc, rfl, rfl, rfl, HA9.out.more (by omega), HD9.out, HS9.out⟩
              | false =>
                cases wv with
                | true =>
                  go_wp2_with fail
                  refine HNN.out.mono ?_
                  rintro e wq ⟨rfl, hb⟩
                  have HA10 := Lib.hid (HA9.out.next hb)
                  have HS10 := Lib.hid (HS9.out.next hb)
                  have HD10 := Lib.hid (HD9.out.next hb)
                  clear hb
                  go_wp2_with fail
                  go_meet
                  rw [HE.out, HEH.out, HEW.out]
                  exact ⟨v9, b, cc, rfl, rfl, rfl, HA10.out.more (by omega), HD10.out, HS10.out⟩
                | false =>
                  go_wp2_with fail
                  refine HNN.out.mono ?_
                  rintro e wq ⟨rfl, hb⟩
                  have HA10 := Lib.hid (HA9.out.next hb)
                  have HS10 := Lib.hid (HS9.out.next hb)
                  have HD10 := Lib.hid (HD9.out.next hb)
                  clear hb
                  go_wp2_with fail
                  go_meet
                  rw [HE.out, HEH.out, HEW.out]
                  exact ⟨v9, b, cc, rfl, rfl, rfl, HA10.out.more (by omega), HD10.out, HS10.out⟩
          case rest =>
          obtain ⟨v6, bp, cp, e17, e14, e15, hA, hD, hP⟩ := hcut
          subst e17 e14 e15
          have HA7 := Lib.hid hA
          have HD7 := Lib.hid hD
          have HP7 := Lib.hid hP
          have HPL := Lib.hid (show q5.2.1.length = 28 by
            rw [HQ5.out]
            unfold one
            split
            · rfl
            · exact pS_len _ _ _ _)
          clear hA hD hP HA6 HD6 HP6
          go_wp2_with (at_builtin; go_must (refine wpList_apq rfl (.tmp 111) (.tmp 112) rfl w.heap.size _ _ _ rfl HA7.out.own (some ⟨bp, 0, none⟩) 28 cp q5.2.1 rfl HP7.out.ins (fun h => by cases h) (by have := HBL.out; have := HAL.out; simp only [List.length_append]; omega) HA7.out.lf.1.size ?_); intro u8 w8' hO8 hG8 hu8; have hA8 := HA7.out.app hO8 hG8 hu8; have hD8 := HD7.out.app hG8 hu8; have HA8' := Lib.hid hA8; have HD8' := Lib.hid hD8; clear hO8 hG8 hu8 hA8 hD8)
          go_roundw
          case rel => exact ⟨i + 1, v6, u8, q5.1, acc ++ q5.2.1, gh, gw, by omega, by go_num, rfl, rfl, rfl, by rw [List.length_append, HAL.out, HPL.out]; omega, HPT2.out, by rw [← List.append_assoc]; exact HA8'.out, HD8'.out⟩
          case measure => simp [RowKit.intOf]; omega
        · have hi28 : i = 28 := by omega
          have i1 : ¬ (i : Int) < 28 := by omega
          have HI28 := Lib.hid hi28
          have HR0 := Lib.hid (show RES = (st5, acc, hh, wv) by
            have := HPT.out
            rw [hi28] at this
            exact this.symm)
          obtain ⟨A, hA⟩ : ∃ A, A = BASE ++ acc := ⟨_, rfl⟩
          rw [← hA] at HA5
          have HLN := Lib.hid (show A.length = 828 by rw [hA, List.length_append, HBL.out, HAL.out, hi28])
          have HAE := Lib.hid hA
          obtain ⟨au, cu, eu, hiu, hcu, hmu, hnu⟩ := HA5.out.own.ins
          subst eu
          obtain ⟨bu, off, rfl, hbl, hcs⟩ := hiu.at (by rw [HLN.out]; omega)
          have HCS := Lib.hid hcs
          have HBU := Lib.hid hbl
          have HCU := Lib.hid hcu
          have HIU := Lib.hid hiu
          obtain ⟨nA, hnA⟩ : ∃ n, n = A.length := ⟨_, rfl⟩
          rw [← hnA] at HA5 HCS HCU HLN HIU ⊢
          have HNA := Lib.hid hnA
          have HNU := Lib.hid hnu
          have n1 : nA ≤ 1000 := by have := HLN.out; omega
          have hFT : F = tld D := HF.out.trans HG1.out
          have e1 : one S.N S.blk (.ok l1) (tld D 19) = q1 := by rw [HQ1.out, HZ.out, hFT]
          have e2 : one S.N S.blk q1.1 (tld D 20) = q2 := by rw [HQ2.out, HZ2.out, hFT]
          have e3 : blkN (tld D 2) = nb := by rw [HNB.out, HSZ.out, hFT]
          have e4 : ptS S.N S.blk q2.2.1 nb 28 0 q2.1 [] (q1.2.2 || q2.2.2) false = (st5, acc, hh, wv) := by
            rw [← HR0.out, HRES.out, HH2.out, HH1.out]
          have e5 : ndT S.N S.blk (.ok l1) D = (endS st5 (wv || wrA S.N nb A A.length), A, hh) := by
            unfold ndT
            simp only [e1, e2, e3, e4]
            rw [hA, HBASE.out, hFT, List.nil_append]
          have HFIN := Lib.hid (show ndF S.N S.blk st ino p = (endS st5 (wv || wrA S.N nb A nA), ⟨ino, F 0, F 1, F 2, trm A⟩, hh) by
            rw [HQ.out, e5, hFT, hnA])
          clear hA hcs hbl hcu hmu hnu hiu hnA HPT HD5 hlt hi hi28 hFT e1 e2 e3 e4 e5 HQ HRES HR0 HH1 HH2 HQ1 HQ2 HZ HZ2 HSZ HG1 HF HD HOK HBASE HBL HDL HAL HAE HBA HBK HW HC HL2 HBK2 HN6 HGT HL3 HBK3 HL4 HBK4 HR4 HLT HSS HN8
          obtain ⟨wo, hwo⟩ : ∃ wo, wo = wr := ⟨_, rfl⟩
          rw [← hwo] at HA5 HCS HBU HIU HNU ⊢
          clear hwo
          go_wp2_with (fail)
          go_loopw [15, 18, 19] (fun s15 s18 s19 wr => ∃ (k : Nat), k ≤ nA ∧ s19 = .int .i64 k ∧ s18 = .int .i64 (lst A k : Nat) ∧ s15 = .bool (wv || wrA S.N nb A k) ∧ Below wo.heap.size wo wr) (fun _ _ s19 _ => nA - (RowKit.intOf s19).toNat)
          case atStart => exact ⟨0, by omega, rfl, rfl, by rw [show wrA S.N nb A 0 = false from rfl, Bool.or_false], Below.refl _ _⟩
          case round =>
            obtain ⟨k, hk, rfl, rfl, rfl, hb⟩ := hrel
            have HB := Lib.hid hb
            have HA6 := Lib.hid (HA5.out.next hb)
            clear hb
            by_cases hlt : k < nA
            · have cz := (HB.out.cell (p := ⟨bu, off + k, none⟩) HBU.out).trans (HCS.out k hlt)
              obtain ⟨z, hz⟩ : ∃ z, z = num A k := ⟨_, rfl⟩
              rw [← hz] at cz
              obtain ⟨s, hs⟩ : ∃ s, s = (wv || wrA S.N nb A k) := ⟨_, rfl⟩
              rw [← hs]
              have HZ6 := Lib.hid hz
              have HS6 := Lib.hid hs
              have i1 : (k : Int) < (nA : Int) := by omega
              clear hz hs
              by_cases hz0 : z = 0
              · have d1 : (z != 0) = false := by simp [hz0]
                have HE := Lib.hid (show lst A k = lst A (k + 1) by rw [lst_succ, ← HZ6.out, if_pos hz0])
                have HE2 := Lib.hid (show s = (wv || wrA S.N nb A (k + 1)) by rw [wrA_succ, ← HZ6.out, d1, Bool.false_and, Bool.or_false, HS6.out])
                clear hz0
                go_wp2_with (fail)
                go_roundw
                case rel => exact ⟨k + 1, by omega, by go_num, by rw [HE.out], by rw [HE2.out], HB.out⟩
                case measure => simp [RowKit.intOf]; omega
              · have d1 : (z != 0) = true := by simp [hz0]
                have HE := Lib.hid (show k + 1 = lst A (k + 1) by rw [lst_succ, ← HZ6.out, if_neg hz0])
                have HE2 := Lib.hid (show (s || (!isA S.N z || decide (nb ≤ (k : Int)))) = (wv || wrA S.N nb A (k + 1)) by rw [wrA_succ, ← HZ6.out, d1, Bool.true_and, HS6.out, Bool.or_assoc])
                obtain ⟨rt, y1, y2, y3⟩ := HA6.out.lf.2.1.geo
                have HRT := Lib.hid rt
                have w1k : IntKind.i64.wrap ((k : Int) + 1) = (k : Int) + 1 := IntWalk.i64_in _ (by omega)
                clear hz0 rt
                go_upto_region 35 with fail
                cases s with
                | true =>
                  refine wp_region_held_drew (S := (fun _ => True)) (by kernel_rfl) ?_ (fun hHeld => ?_)
                  · exact trivial
                  refine wpAnyH_take (i := 0) (v := ?_) rfl (by kernel_rfl) (by kernel_rfl) (by kernel_rfl) (fun _ _ _ h => h) (Or.inl ⟨by rfl, fun w hSw => ?_⟩) (by assumption) ?_
                  rotate_left
                  · (try dsimp only at hSw); go_simp; try with_reducible rfl
                  simp only [Act.put, List.setIfInBounds_toArray, List.set_cons_zero, List.set_cons_succ, List.getElem_toArray, List.getElem_cons_zero]
                  refine wpAnyH_take (i := 1) (v := ?_) rfl (by kernel_rfl) (by kernel_rfl) (by kernel_rfl) (fun _ _ _ h => h) (Or.inl ⟨by rfl, fun w hSw => ?_⟩) (by assumption) ?_
                  rotate_left
                  · (try dsimp only at hSw); go_simp; try with_reducible rfl
                  simp only [Act.put, List.setIfInBounds_toArray, List.set_cons_zero, List.set_cons_succ, List.getElem_toArray, List.getElem_cons_succ, List.getElem_cons_zero]
                  refine wpAnyH_take (i := 2) (v := undef) rfl (by kernel_rfl) (by kernel_rfl) (by kernel_rfl) (fun _ _ _ h => h) (Or.inr ⟨by rfl, rfl⟩) (by assumption) ?_
                  simp only [Act.put, List.setIfInBounds_toArray, List.set_cons_zero, List.set_cons_succ, List.getElem_toArray, List.getElem_cons_succ, List.getElem_cons_zero]
                  refine wpAnyH_take (i := 3) (v := undef) rfl (by kernel_rfl) (by kernel_rfl) (by kernel_rfl) (fun _ _ _ h => h) (Or.inr ⟨by rfl, rfl⟩) (by assumption) ?_
                  simp only [Act.put, List.setIfInBounds_toArray, List.set_cons_zero, List.set_cons_succ, List.getElem_toArray, List.getElem_cons_succ, List.getElem_cons_zero]
                  refine wpAnyH_take (i := 4) (v := undef) rfl (by kernel_rfl) (by kernel_rfl) (by kernel_rfl) (fun _ _ _ h => h) (Or.inr ⟨by rfl, rfl⟩) (by assumption) ?_
                  simp only [Act.put, List.setIfInBounds_toArray, List.set_cons_zero, List.set_cons_succ, List.getElem_toArray, List.getElem_cons_succ, List.getElem_cons_zero]
                  refine wpAnyH_take (i := 5) (v := undef) rfl (by kernel_rfl) (by kernel_rfl) (by kernel_rfl) (fun _ _ _ h => h) (Or.inr ⟨by rfl, rfl⟩) (by assumption) ?_
                  simp only [Act.put, List.setIfInBounds_toArray, List.set_cons_zero, List.set_cons_succ, List.getElem_toArray, List.getElem_cons_succ, List.getElem_cons_zero]
                  refine wpAnyH_take (i := 6) (v := undef) rfl (by kernel_rfl) (by kernel_rfl) (by kernel_rfl) (fun _ _ _ h => h) (Or.inr ⟨by rfl, rfl⟩) (by assumption) ?_
                  simp only [Act.put, List.setIfInBounds_toArray, List.set_cons_zero, List.set_cons_succ, List.getElem_toArray, List.getElem_cons_succ, List.getElem_cons_zero]
                  refine wpAnyH_take (i := 7) (v := undef) rfl (by kernel_rfl) (by kernel_rfl) (by kernel_rfl) (fun _ _ _ h => h) (Or.inr ⟨by rfl, rfl⟩) (by assumption) ?_
                  simp only [Act.put, List.setIfInBounds_toArray, List.set_cons_zero, List.set_cons_succ, List.getElem_toArray, List.getElem_cons_succ, List.getElem_cons_zero]
                  refine wpAnyH_take (i := 8) (v := undef) rfl (by kernel_rfl) (by kernel_rfl) (by kernel_rfl) (fun _ _ _ h => h) (Or.inr ⟨by rfl, rfl⟩) (by assumption) ?_
                  simp only [Act.put, List.setIfInBounds_toArray, List.set_cons_zero, List.set_cons_succ, List.getElem_toArray, List.getElem_cons_succ, List.getElem_cons_zero]
                  refine wpAnyH_take (i := 9) (v := undef) rfl (by kernel_rfl) (by kernel_rfl) (by kernel_rfl) (fun _ _ _ h => h) (Or.inr ⟨by rfl, rfl⟩) (by assumption) ?_
                  simp only [Act.put, List.setIfInBounds_toArray, List.set_cons_zero, List.set_cons_succ, List.getElem_toArray, List.getElem_cons_succ, List.getElem_cons_zero]
                  refine wpAnyH_take (i := 10) (v := undef) rfl (by kernel_rfl) (by kernel_rfl) (by kernel_rfl) (fun _ _ _ h => h) (Or.inr ⟨by rfl, rfl⟩) (by assumption) ?_
                  simp only [Act.put, List.setIfInBounds_toArray, List.set_cons_zero, List.set_cons_succ, List.getElem_toArray, List.getElem_cons_succ, List.getElem_cons_zero]
                  refine wpAnyH_take (i := 11) (v := undef) rfl (by kernel_rfl) (by kernel_rfl) (by kernel_rfl) (fun _ _ _ h => h) (Or.inr ⟨by rfl, rfl⟩) (by assumption) ?_
                  simp only [Act.put, List.setIfInBounds_toArray, List.set_cons_zero, List.set_cons_succ, List.getElem_toArray, List.getElem_cons_succ, List.getElem_cons_zero]
                  refine wpAnyH_take (i := 12) (v := ?_) rfl (by kernel_rfl) (by kernel_rfl) (by kernel_rfl) (fun _ _ _ h => h) (Or.inl ⟨by rfl, fun w hSw => ?_⟩) (by assumption) ?_
                  rotate_left
                  · (try dsimp only at hSw); go_simp; try with_reducible rfl
                  simp only [Act.put, List.setIfInBounds_toArray, List.set_cons_zero, List.set_cons_succ, List.getElem_toArray, List.getElem_cons_succ, List.getElem_cons_zero]
                  refine wpAnyH_take (i := 13) (v := ?_) rfl (by kernel_rfl) (by kernel_rfl) (by kernel_rfl) (fun _ _ _ h => h) (Or.inl ⟨by rfl, fun w hSw => ?_⟩) (by assumption) ?_
                  rotate_left
                  · (try dsimp only at hSw); go_simp; try with_reducible rfl
                  simp only [Act.put, List.setIfInBounds_toArray, List.set_cons_zero, List.set_cons_succ, List.getElem_toArray, List.getElem_cons_succ, List.getElem_cons_zero]
                  refine wpAnyH_take (i := 14) (v := undef) rfl (by kernel_rfl) (by kernel_rfl) (by kernel_rfl) (fun _ _ _ h => h) (Or.inr ⟨by rfl, rfl⟩) (by assumption) ?_
                  simp only [Act.put, List.setIfInBounds_toArray, List.set_cons_zero, List.set_cons_succ, List.getElem_toArray, List.getElem_cons_succ, List.getElem_cons_zero]
                  refine wpAnyH_take (i := 15) (v := undef) rfl (by kernel_rfl) (by kernel_rfl) (by kernel_rfl) (fun _ _ _ h => h) (Or.inr ⟨by rfl, rfl⟩) (by assumption) ?_
                  simp only [Act.put, List.setIfInBounds_toArray, List.set_cons_zero, List.set_cons_succ, List.getElem_toArray, List.getElem_cons_succ, List.getElem_cons_zero]
                  refine wpAnyH_take (i := 16) (v := undef) rfl (by kernel_rfl) (by kernel_rfl) (by kernel_rfl) (fun _ _ _ h => h) (Or.inr ⟨by rfl, rfl⟩) (by assumption) ?_
                  simp only [Act.put, List.setIfInBounds_toArray, List.set_cons_zero, List.set_cons_succ, List.getElem_toArray, List.getElem_cons_succ, List.getElem_cons_zero]
                  refine wpAnyH_take (i := 17) (v := ?_) rfl (by kernel_rfl) (by kernel_rfl) (by kernel_rfl) (fun _ _ _ h => h) (Or.inl ⟨by rfl, fun w hSw => ?_⟩) (by assumption) ?_
                  rotate_left
                  · (try dsimp only at hSw); go_simp; try with_reducible rfl
                  simp only [Act.put, List.setIfInBounds_toArray, List.set_cons_zero, List.set_cons_succ, List.getElem_toArray, List.getElem_cons_succ, List.getElem_cons_zero]
                  refine wpAnyH_take (i := 18) (v := ?_) rfl (by kernel_rfl) (by kernel_rfl) (by kernel_rfl) (fun _ _ _ h => h) (Or.inl ⟨by rfl, fun w hSw => ?_⟩) (by assumption) ?_
                  rotate_left
                  · (try dsimp only at hSw); go_simp; try with_reducible rfl
                  simp only [Act.put, List.setIfInBounds_toArray, List.set_cons_zero, List.set_cons_succ, List.getElem_toArray, List.getElem_cons_succ, List.getElem_cons_zero]
                  refine wpAnyH_done (by kernel_rfl) ?_ _
                  clear cz y1 y2 y3
                  go_wp2_with (fail)
                  exact ⟨⟨k + 1, by omega, by go_num, by rw [← HE.out]; rfl, by rw [← HE2.out]; rfl, below_drewN HB.out 1⟩, by simp [RowKit.intOf]; omega⟩
                | false =>
                  have HAA := Lib.hid (raddr_any S.d S.r S.s z wr.drew HRT.out)
                  obtain ⟨t, ht⟩ : ∃ t, t = isA (adN S.d S.r S.s) z := ⟨_, rfl⟩
                  rw [← ht] at HAA
                  have HE3 := Lib.hid (show (!t || decide (nb ≤ (k : Int))) = (wv || wrA S.N nb A (k + 1)) by rw [ht]; exact HE2.out)
                  have HLT9 := Lib.hid (HA6.out.lf.2.1.lt.1)
                  have HBU9 := Lib.hid (Nat.lt_of_lt_of_le HBU.out HB.out.size)
                  clear ht
                  refine wp_region_held_drew (S := (fun w' => w'.cell? ⟨bu, off + k, none⟩ = some (.int .i64 z) ∧ w'.cell? ⟨g, 0, none⟩ = some (.int .i64 S.d) ∧ w'.cell? ⟨g, 1, none⟩ = some (.int .i64 S.r) ∧ w'.cell? ⟨g, 2, none⟩ = some (.int .i64 S.s))) (by kernel_rfl) ?_ (fun hHeld => ?_)
                  · exact ⟨cz, y1, y2, y3⟩
                  refine wpAnyH_take (i := 0) (v := ?_) rfl (by kernel_rfl) (by kernel_rfl) (by kernel_rfl) (fun _ _ _ h => h) (Or.inl ⟨by rfl, fun w hSw => ?_⟩) (by assumption) ?_
                  rotate_left
                  · (try dsimp only at hSw); go_simp; try with_reducible rfl
                  simp only [Act.put, List.setIfInBounds_toArray, List.set_cons_zero, List.set_cons_succ, List.getElem_toArray, List.getElem_cons_zero]
                  refine wpAnyH_take (i := 1) (v := ?_) rfl (by kernel_rfl) (by kernel_rfl) (by kernel_rfl) (fun _ _ _ h => h) (Or.inl ⟨by rfl, fun w hSw => ?_⟩) (by assumption) ?_
                  rotate_left
                  · (try dsimp only at hSw); go_simp; try with_reducible rfl
                  simp only [Act.put, List.setIfInBounds_toArray, List.set_cons_zero, List.set_cons_succ, List.getElem_toArray, List.getElem_cons_succ, List.getElem_cons_zero]
                  refine wpAnyH_take (i := 2) (v := ?_) rfl (by kernel_rfl) (by kernel_rfl) (by kernel_rfl) (fun _ _ _ h => h) (Or.inl ⟨by rfl, fun w hSw => ?_⟩) (by assumption) ?_
                  rotate_left
                  · (try dsimp only at hSw); go_simp; try with_reducible rfl
                  simp only [Act.put, List.setIfInBounds_toArray, List.set_cons_zero, List.set_cons_succ, List.getElem_toArray, List.getElem_cons_succ, List.getElem_cons_zero]
                  refine wpAnyH_take (i := 3) (v := ?_) rfl (by kernel_rfl) (by kernel_rfl) (by kernel_rfl) (fun _ _ _ h => h) (Or.inl ⟨by rfl, fun w hSw => ?_⟩) (by assumption) ?_
                  rotate_left
                  · (try dsimp only at hSw); go_simp; try with_reducible rfl
                  simp only [Act.put, List.setIfInBounds_toArray, List.set_cons_zero, List.set_cons_succ, List.getElem_toArray, List.getElem_cons_succ, List.getElem_cons_zero]
                  refine wpAnyH_take (i := 4) (v := ?_) rfl (by kernel_rfl) (by kernel_rfl) (by kernel_rfl) (fun _ _ _ h => h) (Or.inl ⟨by rfl, fun w hSw => ?_⟩) (by assumption) ?_
                  rotate_left
                  · (try dsimp only at hSw); go_simp; try with_reducible rfl
                  simp only [Act.put, List.setIfInBounds_toArray, List.set_cons_zero, List.set_cons_succ, List.getElem_toArray, List.getElem_cons_succ, List.getElem_cons_zero]
                  refine wpAnyH_take (i := 5) (v := ?_) rfl (by kernel_rfl) (by kernel_rfl) (by kernel_rfl) (fun _ _ _ h => h) (Or.inl ⟨by rfl, fun w hSw => ?_⟩) (by assumption) ?_
                  rotate_left
                  · (try dsimp only at hSw); go_simp; try with_reducible rfl
                  simp only [Act.put, List.setIfInBounds_toArray, List.set_cons_zero, List.set_cons_succ, List.getElem_toArray, List.getElem_cons_succ, List.getElem_cons_zero]
                  refine wpAnyH_take (i := 6) (v := ?_) rfl (by kernel_rfl) (by kernel_rfl) (by kernel_rfl) (fun _ _ _ h => h) (Or.inl ⟨by rfl, fun w hSw => ?_⟩) (by assumption) ?_
                  rotate_left
                  · (try dsimp only at hSw); go_simp; try with_reducible rfl
                  simp only [Act.put, List.setIfInBounds_toArray, List.set_cons_zero, List.set_cons_succ, List.getElem_toArray, List.getElem_cons_succ, List.getElem_cons_zero]
                  refine wpAnyH_take (i := 7) (v := ?_) rfl (by kernel_rfl) (by kernel_rfl) (by kernel_rfl) (fun _ _ _ h => h) (Or.inl ⟨by rfl, fun w hSw => ?_⟩) (by assumption) ?_
                  rotate_left
                  · (try dsimp only at hSw); go_simp; try with_reducible rfl
                  simp only [Act.put, List.setIfInBounds_toArray, List.set_cons_zero, List.set_cons_succ, List.getElem_toArray, List.getElem_cons_succ, List.getElem_cons_zero]
                  refine wpAnyH_take (i := 8) (v := ?_) rfl (by kernel_rfl) (by kernel_rfl) (by kernel_rfl) (fun _ _ _ h => h) (Or.inl ⟨by rfl, fun w hSw => ?_⟩) (by assumption) ?_
                  rotate_left
                  · (try dsimp only at hSw); go_simp; try with_reducible rfl
                  simp only [Act.put, List.setIfInBounds_toArray, List.set_cons_zero, List.set_cons_succ, List.getElem_toArray, List.getElem_cons_succ, List.getElem_cons_zero]
                  refine wpAnyH_take (i := 9) (v := ?_) rfl (by kernel_rfl) (by kernel_rfl) (by kernel_rfl) (fun _ _ _ h => h) (Or.inl ⟨by rfl, fun w hSw => ?_⟩) (by assumption) ?_
                  rotate_left
                  · (try dsimp only at hSw); go_simp; try with_reducible rfl
                  simp only [Act.put, List.setIfInBounds_toArray, List.set_cons_zero, List.set_cons_succ, List.getElem_toArray, List.getElem_cons_succ, List.getElem_cons_zero]
                  refine wpAnyH_ready (rs := [10]) (by kernel_rfl) (by simp) ?_
                  refine AllReadyH.cons rfl (fun K hK => ?_) AllReadyH.nil
                  simp only [List.getElem_toArray, List.getElem_cons_succ, List.getElem_cons_zero]
                  go_simp
                  refine HAA.out.mono ?_
                  rintro e w8' ⟨rfl, hb⟩
                  have cze := (hb.cell (p := ⟨bu, off + k, none⟩) HBU9.out).trans cz
                  have y1e := (hb.cell (p := ⟨g, 0, none⟩) HLT9.out).trans y1
                  have y2e := (hb.cell (p := ⟨g, 1, none⟩) HLT9.out).trans y2
                  have y3e := (hb.cell (p := ⟨g, 2, none⟩) HLT9.out).trans y3
                  have HB8 := Lib.hid ((below_drewN HB.out 1).trans (hb.mono (below_drewN HB.out 1).size))
                  clear hb cz y1 y2 y3
                  go_wp2_with (fail)
                  refine hK.out _ _ ⟨cze, y1e, y2e, y3e⟩ (fun hHeld => ?_)
                  clear hK K
                  cases t with
                  | false =>
                    refine wpAnyH_take (i := 11) (v := ?_) rfl (by kernel_rfl) (by kernel_rfl) (by kernel_rfl) (fun _ _ _ h => h) (Or.inl ⟨by rfl, fun w hSw => ?_⟩) (by assumption) ?_
                    rotate_left
                    · (try dsimp only at hSw); go_simp; try with_reducible rfl
                    simp only [Act.put, List.setIfInBounds_toArray, List.set_cons_zero, List.set_cons_succ, List.getElem_toArray, List.getElem_cons_succ, List.getElem_cons_zero]
                    refine wpAnyH_take (i := 12) (v := ?_) rfl (by kernel_rfl) (by kernel_rfl) (by kernel_rfl) (fun _ _ _ h => h) (Or.inl ⟨by rfl, fun w hSw => ?_⟩) (by assumption) ?_
                    rotate_left
                    · (try dsimp only at hSw); go_simp; try with_reducible rfl
                    simp only [Act.put, List.setIfInBounds_toArray, List.set_cons_zero, List.set_cons_succ, List.getElem_toArray, List.getElem_cons_succ, List.getElem_cons_zero]
                    refine wpAnyH_take (i := 13) (v := ?_) rfl (by kernel_rfl) (by kernel_rfl) (by kernel_rfl) (fun _ _ _ h => h) (Or.inl ⟨by rfl, fun w hSw => ?_⟩) (by assumption) ?_
                    rotate_left
                    · (try dsimp only at hSw); go_simp; try with_reducible rfl
                    simp only [Act.put, List.setIfInBounds_toArray, List.set_cons_zero, List.set_cons_succ, List.getElem_toArray, List.getElem_cons_succ, List.getElem_cons_zero]
                    refine wpAnyH_take (i := 14) (v := undef) rfl (by kernel_rfl) (by kernel_rfl) (by kernel_rfl) (fun _ _ _ h => h) (Or.inr ⟨by rfl, rfl⟩) (by assumption) ?_
                    simp only [Act.put, List.setIfInBounds_toArray, List.set_cons_zero, List.set_cons_succ, List.getElem_toArray, List.getElem_cons_succ, List.getElem_cons_zero]
                    refine wpAnyH_take (i := 15) (v := undef) rfl (by kernel_rfl) (by kernel_rfl) (by kernel_rfl) (fun _ _ _ h => h) (Or.inr ⟨by rfl, rfl⟩) (by assumption) ?_
                    simp only [Act.put, List.setIfInBounds_toArray, List.set_cons_zero, List.set_cons_succ, List.getElem_toArray, List.getElem_cons_succ, List.getElem_cons_zero]
                    refine wpAnyH_take (i := 16) (v := undef) rfl (by kernel_rfl) (by kernel_rfl) (by kernel_rfl) (fun _ _ _ h => h) (Or.inr ⟨by rfl, rfl⟩) (by assumption) ?_
                    simp only [Act.put, List.setIfInBounds_toArray, List.set_cons_zero, List.set_cons_succ, List.getElem_toArray, List.getElem_cons_succ, List.getElem_cons_zero]
                    refine wpAnyH_take (i := 17) (v := ?_) rfl (by kernel_rfl) (by kernel_rfl) (by kernel_rfl) (fun _ _ _ h => h) (Or.inl ⟨by rfl, fun w hSw => ?_⟩) (by assumption) ?_
                    rotate_left
                    · (try dsimp only at hSw); go_simp; try with_reducible rfl
                    simp only [Act.put, List.setIfInBounds_toArray, List.set_cons_zero, List.set_cons_succ, List.getElem_toArray, List.getElem_cons_succ, List.getElem_cons_zero]
                    refine wpAnyH_take (i := 18) (v := ?_) rfl (by kernel_rfl) (by kernel_rfl) (by kernel_rfl) (fun _ _ _ h => h) (Or.inl ⟨by rfl, fun w hSw => ?_⟩) (by assumption) ?_
                    rotate_left
                    · (try dsimp only at hSw); go_simp; try with_reducible rfl
                    simp only [Act.put, List.setIfInBounds_toArray, List.set_cons_zero, List.set_cons_succ, List.getElem_toArray, List.getElem_cons_succ, List.getElem_cons_zero]
                    refine wpAnyH_done (by kernel_rfl) ?_ _
                    clear cze y1e y2e y3e
                    go_wp2_with (fail)
                    go_roundw
                    case rel => exact ⟨k + 1, by omega, by go_num, by rw [← HE.out]; rfl, by rw [← HE3.out]; rfl, HB8.out⟩
                    case measure => simp [RowKit.intOf]; omega
                  | true =>
                    refine wpAnyH_take (i := 11) (v := ?_) rfl (by kernel_rfl) (by kernel_rfl) (by kernel_rfl) (fun _ _ _ h => h) (Or.inl ⟨by rfl, fun w hSw => ?_⟩) (by assumption) ?_
                    rotate_left
                    · (try dsimp only at hSw); go_simp; try with_reducible rfl
                    simp only [Act.put, List.setIfInBounds_toArray, List.set_cons_zero, List.set_cons_succ, List.getElem_toArray, List.getElem_cons_succ, List.getElem_cons_zero]
                    refine wpAnyH_take (i := 12) (v := ?_) rfl (by kernel_rfl) (by kernel_rfl) (by kernel_rfl) (fun _ _ _ h => h) (Or.inl ⟨by rfl, fun w hSw => ?_⟩) (by assumption) ?_
                    rotate_left
                    · (try dsimp only at hSw); go_simp; try with_reducible rfl
                    simp only [Act.put, List.setIfInBounds_toArray, List.set_cons_zero, List.set_cons_succ, List.getElem_toArray, List.getElem_cons_succ, List.getElem_cons_zero]
                    refine wpAnyH_take (i := 13) (v := ?_) rfl (by kernel_rfl) (by kernel_rfl) (by kernel_rfl) (fun _ _ _ h => h) (Or.inl ⟨by rfl, fun w hSw => ?_⟩) (by assumption) ?_
                    rotate_left
                    · (try dsimp only at hSw); go_simp; try with_reducible rfl
                    simp only [Act.put, List.setIfInBounds_toArray, List.set_cons_zero, List.set_cons_succ, List.getElem_toArray, List.getElem_cons_succ, List.getElem_cons_zero]
                    refine wpAnyH_take (i := 14) (v := ?_) rfl (by kernel_rfl) (by kernel_rfl) (by kernel_rfl) (fun _ _ _ h => h) (Or.inl ⟨by rfl, fun w hSw => ?_⟩) (by assumption) ?_
                    rotate_left
                    · (try dsimp only at hSw); go_simp; try with_reducible rfl
                    simp only [Act.put, List.setIfInBounds_toArray, List.set_cons_zero, List.set_cons_succ, List.getElem_toArray, List.getElem_cons_succ, List.getElem_cons_zero]
                    refine wpAnyH_take (i := 15) (v := ?_) rfl (by kernel_rfl) (by kernel_rfl) (by kernel_rfl) (fun _ _ _ h => h) (Or.inl ⟨by rfl, fun w hSw => ?_⟩) (by assumption) ?_
                    rotate_left
                    · (try dsimp only at hSw); go_simp; try with_reducible rfl
                    simp only [Act.put, List.setIfInBounds_toArray, List.set_cons_zero, List.set_cons_succ, List.getElem_toArray, List.getElem_cons_succ, List.getElem_cons_zero]
                    refine wpAnyH_take (i := 16) (v := ?_) rfl (by kernel_rfl) (by kernel_rfl) (by kernel_rfl) (fun _ _ _ h => h) (Or.inl ⟨by rfl, fun w hSw => ?_⟩) (by assumption) ?_
                    rotate_left
                    · (try dsimp only at hSw); go_simp; try with_reducible rfl
                    simp only [Act.put, List.setIfInBounds_toArray, List.set_cons_zero, List.set_cons_succ, List.getElem_toArray, List.getElem_cons_succ, List.getElem_cons_zero]
                    refine wpAnyH_take (i := 17) (v := ?_) rfl (by kernel_rfl) (by kernel_rfl) (by kernel_rfl) (fun _ _ _ h => h) (Or.inl ⟨by rfl, fun w hSw => ?_⟩) (by assumption) ?_
                    rotate_left
                    · (try dsimp only at hSw); go_simp; try with_reducible rfl
                    simp only [Act.put, List.setIfInBounds_toArray, List.set_cons_zero, List.set_cons_succ, List.getElem_toArray, List.getElem_cons_succ, List.getElem_cons_zero]
                    refine wpAnyH_take (i := 18) (v := ?_) rfl (by kernel_rfl) (by kernel_rfl) (by kernel_rfl) (fun _ _ _ h => h) (Or.inl ⟨by rfl, fun w hSw => ?_⟩) (by assumption) ?_
                    rotate_left
                    · (try dsimp only at hSw); go_simp; try with_reducible rfl
                    simp only [Act.put, List.setIfInBounds_toArray, List.set_cons_zero, List.set_cons_succ, List.getElem_toArray, List.getElem_cons_succ, List.getElem_cons_zero]
                    refine wpAnyH_done (by kernel_rfl) ?_ _
                    clear cze y1e y2e y3e
                    go_wp2_with (fail)
                    go_roundw
                    case rel => exact ⟨k + 1, by omega, by go_num, by rw [← HE.out]; rfl, by rw [← HE3.out]; rfl, HB8.out⟩
                    case measure => simp [RowKit.intOf]; omega
            · obtain rfl : k = nA := by omega
              obtain ⟨la, hla⟩ : ∃ la, la = lst A k := ⟨_, rfl⟩
              rw [← hla]
              obtain ⟨wf, hwf⟩ : ∃ s, s = (wv || wrA S.N nb A k) := ⟨_, rfl⟩
              rw [← hwf]
              rw [← hwf] at HFIN
              have HLA := Lib.hid hla
              have hla2 : (la : Int) ≤ (cu : Int) := by have := lst_le A k; have := HCU.out; omega
              have HA7 := Lib.hid (HA6.out.more (m' := m + 31) (by have := HI28.out; omega))
              clear hla hwf HA6 HA5 hk hlt
              have HLA2 := Lib.hid hla2
              clear hla2
              obtain ⟨bad, hbad⟩ : ∃ bad : Int, bad = (match st5 with | .ok _ => 0 | .error e => e) := ⟨_, rfl⟩
              have hb5 : wr.cell? ⟨g, 5, none⟩ = some (.int .i64 bad) ∧ g < wr.heap.size ∧ wr.frozen? ⟨g, 5, none⟩ = false ∧ ((bad == 0) = true ∧ (∃ l, st5 = .ok l) ∨ (bad == 0) = false ∧ (∃ e, st5 = .error e)) := by
                have h0 := HA7.out.lf.2.1
                obtain ⟨l9, b9, hR9, _, hst9⟩ := h0
                cases st5 with
                | ok l => exact ⟨by rw [hR9.c5, hst9.1, hbad], hR9.lt, hR9.fr 5, .inl ⟨by rw [hbad]; rfl, l, rfl⟩⟩
                | error e => exact ⟨by rw [hR9.c5, hst9.1, hbad], hR9.lt, hR9.fr 5, .inr ⟨by rw [hbad]; simp [hst9.2], e, rfl⟩⟩
              obtain ⟨c5, lt5, fr5, hy⟩ := hb5
              obtain ⟨y, hyy⟩ : ∃ y, y = (bad == 0) := ⟨_, rfl⟩
              have d5 := hyy.symm
              rw [d5] at hy
              have HY := Lib.hid hy
              have HC5 := Lib.hid (And.intro c5 (And.intro lt5 fr5))
              clear hbad hyy hy
              go_upto_region 36 with fail
              go_cut [152] (fun s152 wx => s152 = .bool (y && wf) ∧ wx = wr)
              case first =>
                cases y with
                | true =>
                  go_wp2_with fail
                  go_meet
                  exact ⟨rfl, rfl⟩
                | false =>
                  go_wp2_with fail
                  go_meet
                  exact ⟨rfl, rfl⟩
              case rest =>
              obtain ⟨e152, hwc⟩ := hcut
              subst e152
              rw [hwc]
              clear hwc d5
              go_upto_if 152 with fail
              go_cut [18] (fun s18 wx => s18 = .int .i64 (la : Nat) ∧ NdW wx w S g v v5 (m + 31) (endS st5 wf) w.heap.size w3.heap.size F (.slice (some ⟨bu, off, none⟩) k cu) A)
              case first =>
                cases y with
                | true =>
                  cases wf with
                  | true =>
                    obtain ⟨c5, lt5, fr5⟩ := HC5.out
                    go_wp2_with fail
                    go_meet
                    obtain ⟨l9, hl9⟩ : ∃ l, st5 = .ok l := by
                      rcases HY.out with h | h
                      · exact h.2
                      · cases h.1
                    have h0 := HA7.out
                    rw [hl9] at h0
                    rw [hl9]
                    exact ⟨rfl, h0.setBad (by decide)⟩
                  | false =>
                    go_wp2_with fail
                    go_meet
                    obtain ⟨l9, hl9⟩ : ∃ l, st5 = .ok l := by
                      rcases HY.out with h | h
                      · exact h.2
                      · cases h.1
                    have h0 := HA7.out
                    rw [hl9] at h0
                    rw [hl9]
                    exact ⟨rfl, h0⟩
                | false =>
                  cases wf with
                  | true =>
                    go_wp2_with fail
                    go_meet
                    obtain ⟨l9, hl9⟩ : ∃ l, st5 = .error l := by
                      rcases HY.out with h | h
                      · cases h.1
                      · exact h.2
                    have h0 := HA7.out
                    rw [hl9] at h0
                    rw [hl9]
                    exact ⟨rfl, h0⟩
                  | false =>
                    go_wp2_with fail
                    go_meet
                    obtain ⟨l9, hl9⟩ : ∃ l, st5 = .error l := by
                      rcases HY.out with h | h
                      · cases h.1
                      · exact h.2
                    have h0 := HA7.out
                    rw [hl9] at h0
                    rw [hl9]
                    exact ⟨rfl, h0⟩
              case rest =>
              obtain ⟨e18, hA8⟩ := hcut
              subst e18
              have HA8 := Lib.hid hA8
              clear hA8 HA7 HY HC5
              have hA9 := HA8.out.next (below_drewN (Below.refl _ _) 1)
              have HA9 := Lib.hid (show NdW wc.drew w S g v v5 (m + 31) (endS st5 wf) w.heap.size w3.heap.size F (.slice (some ⟨bu, off, none⟩) k cu) A from hA9)
              have hla3 := HLA2.out
              clear hA9
              go_upto_region 38 with fail
              refine wp_region_held_drew (S := (fun w' => w'.cell? ⟨w3.heap.size, 0, none⟩ = some (.int .i64 (F 0)) ∧ w'.cell? ⟨w3.heap.size, 1, none⟩ = some (.int .i64 (F 1)) ∧ w'.cell? ⟨w3.heap.size, 2, none⟩ = some (.int .i64 (F 2)))) (by kernel_rfl) ?_ (fun hHeld => ?_)
              · exact ⟨HA9.out.rc.cell (by decide), HA9.out.rc.cell (by decide), HA9.out.rc.cell (by decide)⟩
              refine wpAnyH_take (i := 0) (v := ?_) rfl (by kernel_rfl) (by kernel_rfl) (by kernel_rfl) (fun _ _ _ h => h) (Or.inl ⟨by rfl, fun w hSw => ?_⟩) (by assumption) ?_
              rotate_left
              · (try dsimp only at hSw); go_simp; try with_reducible rfl
              simp only [Act.put, List.setIfInBounds_toArray, List.set_cons_zero, List.set_cons_succ, List.getElem_toArray, List.getElem_cons_zero]
              refine wpAnyH_take (i := 1) (v := ?_) rfl (by kernel_rfl) (by kernel_rfl) (by kernel_rfl) (fun _ _ _ h => h) (Or.inl ⟨by rfl, fun w hSw => ?_⟩) (by assumption) ?_
              rotate_left
              · (try dsimp only at hSw); go_simp; try with_reducible rfl
              simp only [Act.put, List.setIfInBounds_toArray, List.set_cons_zero, List.set_cons_succ, List.getElem_toArray, List.getElem_cons_succ, List.getElem_cons_zero]
              refine wpAnyH_take (i := 2) (v := ?_) rfl (by kernel_rfl) (by kernel_rfl) (by kernel_rfl) (fun _ _ _ h => h) (Or.inl ⟨by rfl, fun w hSw => ?_⟩) (by assumption) ?_
              rotate_left
              · (try dsimp only at hSw); go_simp; try with_reducible rfl
              simp only [Act.put, List.setIfInBounds_toArray, List.set_cons_zero, List.set_cons_succ, List.getElem_toArray, List.getElem_cons_succ, List.getElem_cons_zero]
              refine wpAnyH_take (i := 3) (v := ?_) rfl (by kernel_rfl) (by kernel_rfl) (by kernel_rfl) (fun _ _ _ h => h) (Or.inl ⟨by rfl, fun w hSw => ?_⟩) (by assumption) ?_
              rotate_left
              · (try dsimp only at hSw); go_simp; try with_reducible rfl
              simp only [Act.put, List.setIfInBounds_toArray, List.set_cons_zero, List.set_cons_succ, List.getElem_toArray, List.getElem_cons_succ, List.getElem_cons_zero]
              refine wpAnyH_take (i := 4) (v := ?_) rfl (by kernel_rfl) (by kernel_rfl) (by kernel_rfl) (fun _ _ _ h => h) (Or.inl ⟨by rfl, fun w hSw => ?_⟩) (by assumption) ?_
              rotate_left
              · (try dsimp only at hSw); go_simp; try with_reducible rfl
              simp only [Act.put, List.setIfInBounds_toArray, List.set_cons_zero, List.set_cons_succ, List.getElem_toArray, List.getElem_cons_succ, List.getElem_cons_zero]
              refine wpAnyH_take (i := 5) (v := ?_) rfl (by kernel_rfl) (by kernel_rfl) (by kernel_rfl) (fun _ _ _ h => h) (Or.inl ⟨by rfl, fun w hSw => ?_⟩) (by assumption) ?_
              rotate_left
              · (try dsimp only at hSw); go_simp; try with_reducible rfl
              simp only [Act.put, List.setIfInBounds_toArray, List.set_cons_zero, List.set_cons_succ, List.getElem_toArray, List.getElem_cons_succ, List.getElem_cons_zero]
              refine wpAnyH_take (i := 6) (v := ?_) rfl (by kernel_rfl) (by kernel_rfl) (by kernel_rfl) (fun _ _ _ h => h) (Or.inl ⟨by rfl, fun w hSw => ?_⟩) (by assumption) ?_
              rotate_left
              · (try dsimp only at hSw); go_simp; try with_reducible rfl
              simp only [Act.put, List.setIfInBounds_toArray, List.set_cons_zero, List.set_cons_succ, List.getElem_toArray, List.getElem_cons_succ, List.getElem_cons_zero]
              refine wpAnyH_take (i := 7) (v := ?_) rfl (by kernel_rfl) (by kernel_rfl) (by kernel_rfl) (fun _ _ _ h => h) (Or.inl ⟨by rfl, fun w hSw => ?_⟩) (by assumption) ?_
              rotate_left
              · (try dsimp only at hSw); go_simp; try with_reducible rfl
              simp only [Act.put, List.setIfInBounds_toArray, List.set_cons_zero, List.set_cons_succ, List.getElem_toArray, List.getElem_cons_succ, List.getElem_cons_zero]
              refine wpAnyH_take (i := 8) (v := ?_) rfl (by kernel_rfl) (by kernel_rfl) (by kernel_rfl) (fun _ _ _ h => h) (Or.inl ⟨by rfl, fun w hSw => ?_⟩) (by assumption) ?_
              rotate_left
              · (try dsimp only at hSw); go_simp; try with_reducible rfl
              simp only [Act.put, List.setIfInBounds_toArray, List.set_cons_zero, List.set_cons_succ, List.getElem_toArray, List.getElem_cons_succ, List.getElem_cons_zero]
              refine wpAnyH_take (i := 9) (v := ?_) rfl (by kernel_rfl) (by kernel_rfl) (by kernel_rfl) (fun _ _ _ h => h) (Or.inl ⟨by rfl, fun w hSw => ?_⟩) (by assumption) ?_
              rotate_left
              · (try dsimp only at hSw); go_simp; try with_reducible rfl
              simp only [Act.put, List.setIfInBounds_toArray, List.set_cons_zero, List.set_cons_succ, List.getElem_toArray, List.getElem_cons_succ, List.getElem_cons_zero]
              refine wpAnyH_take (i := 10) (v := ?_) rfl (by kernel_rfl) (by kernel_rfl) (by kernel_rfl) (fun _ _ _ h => h) (Or.inl ⟨by rfl, fun w hSw => ?_⟩) (by assumption) ?_
              rotate_left
              · (try dsimp only at hSw); go_simp; try with_reducible rfl
              simp only [Act.put, List.setIfInBounds_toArray, List.set_cons_zero, List.set_cons_succ, List.getElem_toArray, List.getElem_cons_succ, List.getElem_cons_zero]
              refine wpAnyH_take (i := 11) (v := ?_) rfl (by kernel_rfl) (by kernel_rfl) (by kernel_rfl) (fun _ _ _ h => h) (Or.inl ⟨by rfl, fun w hSw => ?_⟩) (by assumption) ?_
              rotate_left
              · (try dsimp only at hSw); go_simp; try with_reducible rfl
              simp only [Act.put, List.setIfInBounds_toArray, List.set_cons_zero, List.set_cons_succ, List.getElem_toArray, List.getElem_cons_succ, List.getElem_cons_zero]
              refine wpAnyH_ready (rs := [12]) (by kernel_rfl) (by simp) ?_
              refine AllReadyH.cons rfl (fun K hK => ?_) AllReadyH.nil
              simp only [List.getElem_toArray, List.getElem_cons_succ, List.getElem_cons_zero]
              rw [if_pos (by rfl)]
              refine wp_stN (.tmp 6) (.tmp 166) rfl w.heap.size rfl ⟨ino, F 0, F 1, F 2, some ⟨bu, off, none⟩, la, cu, A.take la⟩ noN rfl HA9.out.bk (fun we hBe hTe => ?_)
              simp only [Act.put, List.setIfInBounds_toArray, List.set_cons_zero, List.set_cons_succ, List.getElem_toArray, List.getElem_cons_succ, List.getElem_cons_zero]
              have HBE := Lib.hid hBe
              have HTE := Lib.hid hTe
              clear hBe hTe
              have rce := fun (i : Nat) (hi : i < 21) => (HTE.out.cell (a := ⟨w3.heap.size, i, none⟩) HA9.out.rc.lt (fun e => HA9.out.ne e.symm)).trans (HA9.out.rc.cell hi)
              refine hK.out _ _ ⟨rce 0 (by decide), rce 1 (by decide), rce 2 (by decide)⟩ (fun hHeld => ?_)
              clear hK K
              refine wpAnyH_take (i := 13) (v := ?_) rfl (by kernel_rfl) (by kernel_rfl) (by kernel_rfl) (fun _ _ _ h => h) (Or.inl ⟨by rfl, fun w hSw => ?_⟩) (by assumption) ?_
              rotate_left
              · (try dsimp only at hSw); go_simp; try with_reducible rfl
              simp only [Act.put, List.setIfInBounds_toArray, List.set_cons_zero, List.set_cons_succ, List.getElem_toArray, List.getElem_cons_succ, List.getElem_cons_zero]
              refine wpAnyH_done (by kernel_rfl) ?_ _
              go_wp2_with (fail)
              have hlL : la ≤ A.length := by rw [HLA.out, ← HNA.out]; exact lst_le A k
              have hOw : OwnI we w.heap.size (.slice (some ⟨bu, off, none⟩) k cu) A.length A := HA9.out.own.turn HTE.out (fun j e h => (HA9.out.nu j e).2.1 h)
              have hnv := (HA9.out.nu bu rfl).1
              obtain ⟨a', c', e', hi', _, _, hnew⟩ := hOw.ins
              cases e'
              refine bodyPost_ret (v := .tuple #[nwV ⟨ino, F 0, F 1, F 2, some ⟨bu, off, none⟩, la, cu, A.take la⟩, .bool hh]) ?_ rfl ⟨_, hh, v5, rfl, ?_, ?_, ?_, ?_⟩
              · exact res_ct rfl _ _ ⟨w.heap.size, 0, none⟩ _ _ rfl rfl (load_nw HBE.out)
              · rw [HFIN.out]
                exact HA9.out.lf.turnNew HTE.out (fun j e => by rw [e]; exact ⟨Nat.le_refl _, HA9.out.n6⟩) HA9.out.sz
              · exact ⟨hi'.front hlL, (fun e => by cases e), by have := HLN.out; show la ≤ _; omega⟩
              · intro y e
                cases e
                exact ⟨(hnew _ rfl).1, (hnew _ rfl).2, hnv⟩
              · intro l e
                rw [HFIN.out]
                refine ⟨?_, rfl⟩
                show (⟨ino, F 0, F 1, F 2, A.take la⟩ : Nd) = ⟨ino, F 0, F 1, F 2, trm A⟩
                rw [trm, HLA.out]
end Go.Proofs.Ytegcjpocdfmpfaa
