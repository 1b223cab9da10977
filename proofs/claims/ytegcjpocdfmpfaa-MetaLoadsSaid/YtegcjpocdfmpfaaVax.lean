/-
  The program's node of a layout, by contract: the walk.
-/
import Derived.Test.YtegcjpocdfmpfaaVaw
set_option linter.unusedVariables false
set_option linter.unusedSimpArgs false
set_option maxRecDepth 100000
set_option maxHeartbeats 16000000
namespace Go.Proofs.Ytegcjpocdfmpfaa
open Go.RowKit

theorem playN_any {w0 w : World} {Kp : Nat → Prop} {g : Nat} {a : Option Addr} {n c : Nat} {ks : List Int} {u0 : Value} {gs : List Bl} (h : PlO w0 w Kp g a n c ks u0 gs) (x : Nw) (N : Int) (hN : N ≤ 65535) (hx : NdR N x.nd) (hxi : Ins w x.a x.n x.ks) (hx8 : x.n ≤ 828) (hk : ∀ i, i < n → 1 ≤ num ks i ∧ num ks i ≤ 65535) (hlen : gs.length + (bod (num ks) x.nd gs.length).length < n) (hs : gs.length ≤ 90000) :
    Calls Try.prog 49 #[.pointer (some ⟨g, 0, none⟩), nwV x] w (LyP w0 w Kp g a n c ks u0 gs (num ks (gs.length + (bod (num ks) x.nd gs.length).length)) (ndB (num ks) x.nd gs.length)) := by
  have hk0 : ∀ i, 0 ≤ num ks i ∧ num ks i ≤ 65535 := fun i => by
    by_cases hi : i < n
    · have := hk i hi; omega
    · rw [num_out (by rw [h.ins.len]; omega)]; omega
  have hA0 : ∀ i, 0 ≤ num x.ks i ∧ num x.ks i ≤ 65535 := fun i => by
    rcases hx.a i with e | e
    · have e : num x.ks i = 0 := e
      omega
    · have e : 1 ≤ num x.ks i ∧ num x.ks i ≤ N := e
      omega
  obtain ⟨m, hm⟩ : ∃ m, m = gs.length := ⟨_, rfl⟩
  have HM := Lib.hid hm
  have HLT := Lib.hid hlen
  have HS := Lib.hid hs
  have HK := Lib.hid hk
  have HK0 := Lib.hid hk0
  have HA0 := Lib.hid hA0
  have HX := Lib.hid hx
  have HX8 := Lib.hid hx8
  have HXL := Lib.hid hxi.len
  have HN := Lib.hid hN
  -- the boxes
  obtain ⟨wa, hwa⟩ : ∃ wa, wa = (w.alloc (.cells #[.int .i64 x.ino, .int .i64 x.kind, .int .i64 x.links, .int .i64 x.size, .slice x.a x.n x.c] 83 (0, 0))).alloc (.cells (arr 828 noA) 149 (0, 0)) := ⟨_, rfl⟩
  obtain ⟨wn, hwn⟩ : ∃ wn, wn = w.alloc (.cells #[.int .i64 x.ino, .int .i64 x.kind, .int .i64 x.links, .int .i64 x.size, .slice x.a x.n x.c] 83 (0, 0)) := ⟨_, rfl⟩
  have hb1 : Below w.heap.size w wn := by rw [hwn]; exact (Below.refl _ _).alloc (Nat.le_refl _) _
  have hz1 : wn.heap.size = w.heap.size + 1 := by rw [hwn]; simp
  have hb2 : Below wn.heap.size wn wa := by rw [hwa, ← hwn]; exact (Below.refl _ _).alloc (Nat.le_refl _) _
  have hz2 : wa.heap.size = w.heap.size + 2 := by rw [hwa]; simp
  have hnd : wa.heap[w.heap.size]? = some (.cells (nwC x) 83 (0, 0)) := by
    rw [hb2.block _ (by omega), hwn]; exact heap_alloc_new w _
  have hra : wa.heap[w.heap.size + 1]? = some (.cells (arr 828 noA) 149 (0, 0)) := by
    rw [hwa, ← hz1, hwn]; exact heap_alloc_new _ _
  have hp2 : PlO w0 wa (fun j => Kp j ∨ j = w.heap.size ∨ j = w.heap.size + 1) g a n c ks u0 gs :=
    (h.box (K' := fun j => Kp j ∨ j = w.heap.size) hb1 (Nat.le_refl _) (by omega) (fun i hi => hi) (.inl h.kg)).box hb2 (j := w.heap.size + 1) (by omega) (by omega) (fun i hi => by
      rcases hi with e | e | e
      · exact .inl (.inl e)
      · exact .inl (.inr e)
      · exact .inr e) (.inl h.kg)
  have HB0 := Lib.hid (show Below w.heap.size w wa from hb1.trans (hb2.mono hb1.size))
  have HG := Lib.hid (show g < w.heap.size from lt_of_block h.row)
  have HKL := Lib.hid (fun j (e : Kp j) => (h.o.lt j e).2)
  have HKG := Lib.hid h.kg
  have HI := Lib.hid (hxi.next (hb1.trans (hb2.mono hb1.size)))
  have HND := Lib.hid hnd
  have HRA := Lib.hid hra
  have HP2 := Lib.hid hp2
  have HZ2 := Lib.hid hz2
  have HWA := Lib.hid hwa
  have hsl := run_slA (w.heap.size + 1)
  have x4 : wa.cell? ⟨w.heap.size, 4, none⟩ = some (.slice x.a x.n x.c) := cell_of_row wa w.heap.size 4 _ _ (0, 0) hnd
  have ltn : w.heap.size < wa.heap.size := by omega
  have HXM : Hid (x.n = Nat.min x.n 828) := Lib.hid (by
    rw [show Nat.min x.n 828 = min x.n 828 from rfl]; omega)
  clear h hx hxi hk hk0 hA0 hlen hs hm hwa hwn hb1 hz1 hb2 hz2 hnd hra hp2 hx8 hN
  go_enter Try.func49, Try.ntmps49
  go_upto_region 2 with (refine wpList_alA arA (by rfl) rfl ?_; rw [← HWA.out])
  go_region_law (refine step_copyA rfl (.tmp 11) (.tmp 13) rfl (w.heap.size + 1) 0 828 828 x.a x.n x.c 828 noA _ x.ks x.n (by simp [Act.eval, Act.put]) (by simp [Act.eval, Act.put]) HRA.out (HI.out.next (below_drewN (Below.refl _ _) 1)) HXM.out (by have := HX8.out; omega) ?_; intro wc hcr hct)
  have HCR := Lib.hid (show wc.heap[w.heap.size + 1]? = some (.cells (arr 828 (num x.ks)) 149 (0, 0)) by
    rw [hcr]
    congr 2
    refine arr_congr fun i hi => ?_
    unfold cpA
    by_cases hi2 : i < x.n
    · rw [if_pos ⟨by omega, by omega⟩, Nat.sub_zero]
    · rw [if_neg (by omega), num_out (by rw [HXL.out]; omega)]
      rfl)
  have hbc : Below w.heap.size w wc := (below_drewN HB0.out 1).trans (hct.below (by rw [heap_drew, HZ2.out]; omega) (fun j e => by rw [e]; omega))
  have HBC := Lib.hid hbc
  have HPC := Lib.hid (show PlO w0 wc (fun j => Kp j ∨ j = w.heap.size ∨ j = w.heap.size + 1) g a n c ks u0 gs from HP2.out.drew.set hct (.inr (.inr rfl)) (by have := HG.out; omega))
  have HNDC := Lib.hid (show wc.heap[w.heap.size]? = some (.cells (nwC x) 83 (0, 0)) from (hct.block w.heap.size (by rw [heap_drew, HZ2.out]; omega) (by show ¬ w.heap.size = w.heap.size + 1; omega)).trans HND.out)
  have HZC := Lib.hid (show w.heap.size + 2 ≤ wc.heap.size by have := hct.size; rw [heap_drew, HZ2.out] at this; exact this)
  have cN := fun i => cell_of_row wc w.heap.size i (nwC x) _ (0, 0) HNDC.out
  have c0 := cN 0
  have c1 := cN 1
  have c2 := cN 2
  have c3 := cN 3
  simp only [nwC, List.getElem?_toArray, List.getElem?_cons_zero, List.getElem?_cons_succ] at c0 c1 c2 c3
  have hR0 := Lib.hid (Rcb.mk' wc noR)
  clear hcr hct hbc cN x4 ltn HP2 HRA HND HWA HI hsl
  go_upto_region 4 with (refine wpList_stR (by rfl) (.tmp 6) (.tmp 21) rfl wc.heap.size rfl (rK x.nd) rfl noR hR0.out ?_; intro w6 hR6 hoth hbel; have HR6 := Lib.hid hR6; have HOTH := Lib.hid hoth; have HBEL := Lib.hid hbel; clear hR6 hoth hbel)
  obtain ⟨b3, hb3⟩ : ∃ b, b = w.heap.size := ⟨_, rfl⟩
  obtain ⟨b5, hb5⟩ : ∃ b, b = w.heap.size + 1 := ⟨_, rfl⟩
  obtain ⟨b6, hb6⟩ : ∃ b, b = wc.heap.size := ⟨_, rfl⟩
  have HB63 := Lib.hid (show w.heap.size ≤ b6 by have := HZC.out; omega)
  have HM6 := Lib.hid (show PnM w0 w6 (fun j => Kp j ∨ j = b3 ∨ j = b5 ∨ j = b6) g a n c ks u0 gs b3 b5 b6 x (num x.ks) (rK x.nd) by
    have hbl : Below wc.heap.size wc w6 := HBEL.out _ _ (Nat.le_refl _) ((Below.refl _ _).alloc (Nat.le_refl _) _)
    have hg := HG.out
    have hz := HZC.out
    rw [hb3, hb5, hb6]
    refine ⟨HPC.out.box hbl (Nat.le_refl _) HR6.out.lt (fun i e => ?_) (.inl HKG.out), (hbl.block _ (by omega)).trans HNDC.out, (hbl.block _ (by omega)).trans HCR.out, HR6.out, ⟨.inr (.inl rfl), .inr (.inr (.inl rfl)), .inr (.inr (.inr rfl))⟩, by omega, by omega, by omega, by omega, by omega⟩
    rcases e with e | e | e | e
    · exact .inl (.inl e)
    · exact .inl (.inr (.inl e))
    · exact .inl (.inr (.inr e))
    · exact .inr e)
  have HT6 := Lib.hid (show Turn (Lv g u0) w w6 from Turn.of_below (HBC.out.trans ((HBEL.out _ _ (Nat.le_refl _) ((Below.refl _ _).alloc (Nat.le_refl _) _)).mono HBC.out.size)))
  have HLO := Lib.hid (show w.heap.size ≤ b3 ∧ w.heap.size ≤ b5 by omega)
  rw [← hb5, ← hb3, ← hb6]
  clear hb3 hb5 hb6 c0 c1 c2 c3 HOTH HBEL HR6 hR0 HNDC HCR HPC HZC HBC HZ2 HB0
  obtain ⟨L, hL, hLn⟩ : ∃ L, (∀ w' : World, w'.heap[b5]? = some (.cells (arr 828 (num x.ks)) 149 (0, 0)) → Ins w' (some ⟨b5, 0, none⟩) 828 L) ∧ ∀ i, i < 828 → num L i = num x.ks i := by
    refine ⟨(List.range 828).map fun i => num x.ks (0 + i), fun w' hr => ins_arr hr (by omega), fun i hi => ?_⟩
    simp [num, List.getD, hi]
  have HLI := Lib.hid hL
  have HLN := Lib.hid hLn
  have hsl := run_slA b5
  clear hL hLn
  go_region_law (refine step_copyA rfl (.tmp 23) (.tmp 24) rfl b6 3 16 16 (some ⟨b5, 0, none⟩) 828 828 21 (rK x.nd) _ L 16 (by simp [Act.eval, Act.put]) (by simp [Act.eval, Act.put]) HM6.out.rc.drew.row (HLI.out _ (HM6.out.next (below_drewN (Below.refl _ _) 1)).ra) (by decide) (by decide) ?_; intro w7 h7r h7t)
  have HM7 := Lib.hid (show PnM w0 w7 (fun j => Kp j ∨ j = b3 ∨ j = b5 ∨ j = b6) g a n c ks u0 gs b3 b5 b6 x (num x.ks) (rD x.nd 16) by
    have h6 := HM6.out.next (below_drewN (Below.refl _ _) 1)
    refine ⟨h6.p.set h7t h6.kb.2.2 h6.ne.2.2.1, (h7t.block _ (lt_of_block h6.nd) h6.ne.2.2.2.1).trans h6.nd, (h7t.block _ (lt_of_block h6.ra) h6.ne.2.2.2.2).trans h6.ra, ⟨?_⟩, h6.kb, h6.ne⟩
    rw [h7r, rcs_arr]
    congr 2
    refine arr_congr fun i hi => ?_
    unfold cpA rD
    by_cases h1 : i < 3
    · rw [if_neg (by omega), if_pos h1]
    · rw [if_neg h1]
      by_cases h2 : i < 3 + 16
      · rw [if_pos ⟨by omega, h2⟩, if_pos h2, HLN.out _ (by omega)]
        rfl
      · rw [if_neg (by omega), if_neg h2]
        unfold rK
        rw [if_neg (by omega), if_neg (by omega), if_neg (by omega)])
  have HT7 := Lib.hid (show Turn (fun j => Lv g u0 j ∨ w.heap.size ≤ j) w w7 from (HT6.out.mono (fun j e => .inl e)).trans2 ((Turn.of_below (M := fun j => j = b6) (below_drewN (Below.refl _ _) 1)).trans h7t) (fun j e => .inr (by rw [e]; exact HB63.out)))
  clear h7r h7t HM6 HT6 hsl
  have c0 := HM7.out.nw
  go_upto_region 5 with fail
  refine wp_region_held_drew (S := (fun w' => w'.cell? ⟨b3, 0, none⟩ = some (.int .i64 x.ino))) (by kernel_rfl) c0 (fun hHeld => ?_)
  have HM8 := Lib.hid (show PnM w0 w7.drew (fun j => Kp j ∨ j = b3 ∨ j = b5 ∨ j = b6) g a n c ks u0 gs b3 b5 b6 x (num x.ks) (rD x.nd 16) from HM7.out.next (below_drewN (Below.refl _ _) 1))
  have HT8 := Lib.hid (show Turn (fun j => Lv g u0 j ∨ w.heap.size ≤ j) w w7.drew from HT7.out.trans (Turn.of_below (below_drewN (Below.refl _ _) 1)))
  clear HM7 HT7 c0
  generalize hw8 : w7.drew = w8 at *
  clear hw8
  refine wpAnyH_take (i := 0) (v := ?_) rfl (by kernel_rfl) (by kernel_rfl) (by kernel_rfl) (fun _ _ _ h => h) (Or.inl ⟨by rfl, fun w hSw => ?_⟩) (by assumption) ?_
  rotate_left
  · (try dsimp only at hSw); go_simp; try with_reducible rfl
  simp only [Act.put, List.setIfInBounds_toArray, List.set_cons_zero, List.set_cons_succ, List.getElem_toArray, List.getElem_cons_zero]
  refine wpAnyH_take (i := 1) (v := ?_) rfl (by kernel_rfl) (by kernel_rfl) (by kernel_rfl) (fun _ _ _ h => h) (Or.inl ⟨by rfl, fun w hSw => ?_⟩) (by assumption) ?_
  rotate_left
  · (try dsimp only at hSw); go_simp; try with_reducible rfl
  simp only [Act.put, List.setIfInBounds_toArray, List.set_cons_zero, List.set_cons_succ, List.getElem_toArray, List.getElem_cons_succ, List.getElem_cons_zero]
  refine wpAnyH_take (i := 2) (v := ?_) rfl (by kernel_rfl) (by kernel_rfl) (by kernel_rfl) (fun _ _ _ h => h) (Or.inl ⟨by rfl, fun w hSw => ?_⟩) (by assumption) ?_
  rotate_left
  · (try dsimp only at hSw); go_simp; try with_reducible rfl
  simp only [Act.put, List.setIfInBounds_toArray, List.set_cons_zero, List.set_cons_succ, List.getElem_toArray, List.getElem_cons_succ, List.getElem_cons_zero]
  refine wpAnyH_ready (rs := [3]) (by kernel_rfl) (by simp) ?_
  refine AllReadyH.cons rfl (fun K hK => ?_) AllReadyH.nil
  simp only [List.getElem_toArray, List.getElem_cons_succ, List.getElem_cons_zero]
  go_simp
  refine (pfrom_any b5 16 (num x.ks) (by omega) w8 HM8.out.ra).mono ?_
  rintro e w9 ⟨rfl, hb⟩
  have HM9 := Lib.hid (HM8.out.next hb)
  have HT9 := Lib.hid (HT8.out.trans (Turn.of_below hb))
  clear hb HM8 HT8
  go_wp2_with (fail)
  refine hK.out _ _ HM9.out.nw (fun hHeld => ?_)
  clear hK K
  refine wpAnyH_ready (rs := [4]) (by kernel_rfl) (by simp) ?_
  refine AllReadyH.cons rfl (fun K hK => ?_) AllReadyH.nil
  simp only [List.getElem_toArray, List.getElem_cons_succ, List.getElem_cons_zero]
  go_simp
  refine (playS_any HM9.out.p x.ino 1000 (fun i => num x.ks (16 + i)) (fun i _ => HA0.out _) (by have := HLT.out; omega) (by have := HS.out; omega)).mono ?_
  rintro e w10 ⟨u1, gs1, rfl, hp1, hg1, ht1, hu1⟩
  have e16 : (if allZ 28 (fun i => num x.ks (16 + i)) = true then (0 : Int) else num ks gs.length) = if sS x.nd.ads = true then num ks m else 0 := by
    have h1 := som_allZ (fun i => num x.ks (16 + i))
    have h2 : sS x.nd.ads = som (tb fun i => num x.ks (16 + i)) := rfl
    rw [h2, h1, HM.out]
    cases allZ 28 (fun i => num x.ks (16 + i)) <;> rfl
  have g16 : gs1.map Bl.bk = gs.map Bl.bk ++ sB x.nd := by
    rw [hg1]
    congr 1
    have h1 := som_allZ (fun i => num x.ks (16 + i))
    have h2 : sS x.nd.ads = som (tb fun i => num x.ks (16 + i)) := rfl
    rw [sB, h2, h1]
    cases allZ 28 (fun i => num x.ks (16 + i)) <;> rfl
  rw [e16]
  obtain ⟨s19, hs19⟩ : ∃ z, z = (if sS x.nd.ads = true then num ks m else 0) := ⟨_, rfl⟩
  rw [← hs19]
  have HS19 := Lib.hid hs19
  clear hs19
  have HM10 := Lib.hid (HM9.out.call hp1 ht1)
  have HG1 := Lib.hid g16
  have HT10 := Lib.hid (show Turn (fun j => Lv g u0 j ∨ w.heap.size ≤ j) w w10 from HT9.out.trans2 ht1 (fun j e => .inl (.inl e)))
  have HU1 := Lib.hid (show ∀ j, u1.ownBlock = some j → u0.ownBlock = some j ∨ w.heap.size ≤ j from fun j e => by
    rcases hu1 j e with e1 | e1
    · exact .inl e1
    · exact .inr (Nat.le_trans HT9.out.size e1))
  clear hp1 hg1 ht1 hu1 e16 g16 HM9 HT9
  go_wp2_with (fail)
  refine hK.out _ _ HM10.out.nw (fun hHeld => ?_)
  clear hK K
  obtain ⟨y19, hy19⟩ : ∃ v, w10.cell? ⟨b6, 19, none⟩ = some v := ⟨_, HM10.out.rc.cell (by decide)⟩
  have f19 := HM10.out.rc.free 19
  have l19 := HM10.out.rc.lt
  refine wpAnyH_take (i := 5) (v := ?_) rfl (by kernel_rfl) (by kernel_rfl) (by kernel_rfl) (fun _ _ _ h => h) (Or.inl ⟨by rfl, fun w hSw => ?_⟩) (by assumption) ?_
  rotate_left
  · (try dsimp only at hSw); go_simp; try with_reducible rfl
  simp only [Act.put, List.setIfInBounds_toArray, List.set_cons_zero, List.set_cons_succ, List.getElem_toArray, List.getElem_cons_succ, List.getElem_cons_zero]
  refine wpAnyH_ready (rs := [6]) (by kernel_rfl) (by simp) ?_
  refine AllReadyH.cons rfl (fun K hK => ?_) AllReadyH.nil
  simp only [List.getElem_toArray, List.getElem_cons_succ, List.getElem_cons_zero]
  go_simp
  obtain ⟨wE, hwE⟩ : ∃ wE, wE = w10.setCell ⟨b6, 19, none⟩ (.int .i64 s19) := ⟨_, rfl⟩
  rw [← hwE]
  have HME := Lib.hid (show PnM w0 wE (fun j => Kp j ∨ j = b3 ∨ j = b5 ∨ j = b6) g a n c ks u1 gs1 b3 b5 b6 x (num x.ks) (upd (rD x.nd 16) 19 s19) by rw [hwE]; exact HM10.out.recS 19 s19)
  have HTE := Lib.hid (show Turn (fun j => Lv g u0 j ∨ w.heap.size ≤ j) w wE from HT10.out.trans2 (by rw [hwE]; exact Turn.setCell (M := fun j => j = b6) w10 (a := ⟨b6, 19, none⟩) rfl _) (fun j e => .inr (by rw [e]; exact HB63.out)))
  refine hK _ _ HME.out.nw (fun hHeld => ?_)
  refine wpAnyH_done (by kernel_rfl) ?_ _
  clear hK K hwE y19 hy19 f19 l19 HM10 HT10
  go_upto_region 6 with fail
  have HB7a := Lib.hid (show Below wE.heap.size wE (wE.alloc (.cells (arr 28 noA) 91 (0, 0))) from (Below.refl _ _).alloc (Nat.le_refl _) _)
  obtain ⟨wF, hwF⟩ : ∃ wF, wF = wE.alloc (.cells (arr 28 noA) 91 (0, 0)) := ⟨_, rfl⟩
  obtain ⟨b7, hb7⟩ : ∃ b, b = wE.heap.size := ⟨_, rfl⟩
  rw [← hwF] at HB7a
  have HWF := Lib.hid hwF
  have HB7 := Lib.hid hb7
  have HMF := Lib.hid (show PnS w0 wF (fun j => Kp j ∨ j = b3 ∨ j = b5 ∨ j = b6 ∨ j = b7) g a n c ks u1 gs1 b3 b5 b6 b7 x (num x.ks) (upd (rD x.nd 16) 19 s19) (dF (num ks) x.nd m 0) by
    have hr : wF.heap[b7]? = some (.cells (arr 28 noA) 91 (0, 0)) := by rw [hb7, hwF]; exact heap_alloc_new wE _
    have l3 := lt_of_block HME.out.nd
    have l5 := lt_of_block HME.out.ra
    have l6 := HME.out.rc.lt
    have lg := lt_of_block HME.out.p.row
    have h1 := HME.out.next HB7a.out
    refine ⟨⟨HME.out.p.box HB7a.out (j := b7) (by omega) (lt_of_block hr) (fun i e => ?_) (.inl HKG.out), h1.nd, h1.ra, h1.rc, ⟨.inr (.inl rfl), .inr (.inr (.inl rfl)), .inr (.inr (.inr (.inl rfl)))⟩, h1.ne⟩, by rw [dF_zero]; exact hr, .inr (.inr (.inr (.inr rfl))), by omega, by omega, by omega, by omega⟩
    rcases e with e | e | e | e | e
    · exact .inl (.inl e)
    · exact .inl (.inr (.inl e))
    · exact .inl (.inr (.inr (.inl e)))
    · exact .inl (.inr (.inr (.inr e)))
    · exact .inr e)
  have HTF := Lib.hid (show Turn (fun j => Lv g u0 j ∨ w.heap.size ≤ j) w wF from HTE.out.trans (Turn.of_below HB7a.out))
  have HB77 := Lib.hid (show w.heap.size ≤ b7 by rw [hb7]; exact HTE.out.size)
  clear hwF hb7 HME HTE HB7a
  go_wp2_with (refine wpList_alA ar28 (by rfl) rfl ?_; rw [← HWF.out, ← HB7.out])
  go_loopw [8, 32] (fun v8 v32 wr => ∃ (i : Nat) (u : Value) (gs' : List Bl), i ≤ 28 ∧ v32 = .int .i64 i ∧ gs'.map Bl.bk = gs.map Bl.bk ++ sB x.nd ++ dB x.nd i ∧ PnS w0 wr (fun j => Kp j ∨ j = b3 ∨ j = b5 ∨ j = b6 ∨ j = b7) g a n c ks u gs' b3 b5 b6 b7 x (num x.ks) (upd (rD x.nd 16) 19 s19) (dF (num ks) x.nd m i) ∧ Turn (fun j => Lv g u0 j ∨ w.heap.size ≤ j) w wr ∧ (∀ j, u.ownBlock = some j → u0.ownBlock = some j ∨ w.heap.size ≤ j)) (fun _ v32 _ => 28 - (RowKit.intOf v32).toNat)
  case atStart => exact ⟨0, u1, gs1, by omega, rfl, by rw [dB, List.append_nil]; exact HG1.out, HMF.out, HTF.out, HU1.out⟩
  case round =>
    obtain ⟨i, u, gs', hi, rfl, hg, hM, hT, hU⟩ := hrel
    have HG := Lib.hid hg
    have HMr := Lib.hid hM
    have HTr := Lib.hid hT
    have HUr := Lib.hid hU
    have HLEN := Lib.hid (show gs'.length = m + dI x.nd i by
      have := congrArg List.length hg
      rw [List.length_map, List.length_append, List.length_append, List.length_map, ← HM.out] at this
      rw [this, dI, Nat.add_assoc])
    have HBO := Lib.hid (show (bod (num ks) x.nd gs.length).length = dI x.nd 28 + (dL (num ks) x.nd gs.length).length by
      rw [bod, List.length_append, List.length_append, dI])
    have HSB := Lib.hid (sB_le x.nd)
    have HDB := Lib.hid (dB_le x.nd i)
    have HSZ := Lib.hid (show gs'.length ≤ 100000 by
      have h1 := HLEN.out
      have h2 : dI x.nd i = (sB x.nd).length + (dB x.nd i).length := rfl
      have h3 := HSB.out
      have h4 := HDB.out
      have h5 := HS.out
      have h6 := HM.out
      omega)
    clear hg hM hT hU HMF HTF HU1 HG1
    by_cases hlt : i < 28
    · have k1 : (i : Int) < 28 := by omega
      have HIL := Lib.hid hlt
      have HDU := Lib.hid (dI_up x.nd (show i ≤ 28 by omega))
      have HLL := Lib.hid (show gs'.length < n by have := HLT.out; have := HLEN.out; have := HBO.out; have := HDU.out; have := HM.out; omega)
      have v1 : IntKind.i64.wrap (1001 + (i : Int)) = 1001 + (i : Int) := IntWalk.i64_in _ (by omega)
      clear hlt
      go_upto_region 10 with fail
      have c0 := HMr.out.m.nw
      refine wp_region_held_drew (S := (fun w' => w'.cell? ⟨b3, 0, none⟩ = some (.int .i64 x.ino))) (by kernel_rfl) c0 (fun hHeld => ?_)
      have HM8 := Lib.hid (show PnS w0 wr.drew (fun j => Kp j ∨ j = b3 ∨ j = b5 ∨ j = b6 ∨ j = b7) g a n c ks u gs' b3 b5 b6 b7 x (num x.ks) (upd (rD x.nd 16) 19 s19) (dF (num ks) x.nd m i) from HMr.out.next (below_drewN (Below.refl _ _) 1))
      have HT8 := Lib.hid (show Turn (fun j => Lv g u0 j ∨ w.heap.size ≤ j) w wr.drew from HTr.out.trans (Turn.of_below (below_drewN (Below.refl _ _) 1)))
      clear c0 HMr HTr
      generalize hw8 : wr.drew = w8 at *
      clear hw8
      refine wpAnyH_take (i := 0) (v := ?_) rfl (by kernel_rfl) (by kernel_rfl) (by kernel_rfl) (fun _ _ _ h => h) (Or.inl ⟨by rfl, fun w hSw => ?_⟩) (by assumption) ?_
      rotate_left
      · (try dsimp only at hSw); go_simp; try with_reducible rfl
      simp only [Act.put, List.setIfInBounds_toArray, List.set_cons_zero, List.set_cons_succ, List.getElem_toArray, List.getElem_cons_zero]
      refine wpAnyH_take (i := 1) (v := ?_) rfl (by kernel_rfl) (by kernel_rfl) (by kernel_rfl) (fun _ _ _ h => h) (Or.inl ⟨by rfl, fun w hSw => ?_⟩) (by assumption) ?_
      rotate_left
      · (try dsimp only at hSw); go_simp; try with_reducible rfl
      simp only [Act.put, List.setIfInBounds_toArray, List.set_cons_zero, List.set_cons_succ, List.getElem_toArray, List.getElem_cons_succ, List.getElem_cons_zero]
      refine wpAnyH_take (i := 2) (v := ?_) rfl (by kernel_rfl) (by kernel_rfl) (by kernel_rfl) (fun _ _ _ h => h) (Or.inl ⟨by rfl, fun w hSw => ?_⟩) (by assumption) ?_
      rotate_left
      · (try dsimp only at hSw); go_simp; try with_reducible rfl
      simp only [Act.put, List.setIfInBounds_toArray, List.set_cons_zero, List.set_cons_succ, List.getElem_toArray, List.getElem_cons_succ, List.getElem_cons_zero]
      refine wpAnyH_take (i := 3) (v := ?_) rfl (by kernel_rfl) (by kernel_rfl) (by kernel_rfl) (fun _ _ _ h => h) (Or.inl ⟨by rfl, fun w hSw => ?_⟩) (by assumption) ?_
      rotate_left
      · (try dsimp only at hSw); go_simp; try with_reducible rfl
      simp only [Act.put, List.setIfInBounds_toArray, List.set_cons_zero, List.set_cons_succ, List.getElem_toArray, List.getElem_cons_succ, List.getElem_cons_zero]
      refine wpAnyH_take (i := 4) (v := ?_) rfl (by kernel_rfl) (by kernel_rfl) (by kernel_rfl) (fun _ _ _ h => h) (Or.inl ⟨by rfl, fun w hSw => ?_⟩) (by assumption) ?_
      rotate_left
      · (try dsimp only at hSw); go_simp; try with_reducible rfl
      simp only [Act.put, List.setIfInBounds_toArray, List.set_cons_zero, List.set_cons_succ, List.getElem_toArray, List.getElem_cons_succ, List.getElem_cons_zero]
      refine wpAnyH_take (i := 5) (v := ?_) rfl (by kernel_rfl) (by kernel_rfl) (by kernel_rfl) (fun _ _ _ h => h) (Or.inl ⟨by rfl, fun w hSw => ?_⟩) (by assumption) ?_
      rotate_left
      · (try dsimp only at hSw); go_simp; try with_reducible rfl
      simp only [Act.put, List.setIfInBounds_toArray, List.set_cons_zero, List.set_cons_succ, List.getElem_toArray, List.getElem_cons_succ, List.getElem_cons_zero]
      refine wpAnyH_take (i := 6) (v := ?_) rfl (by kernel_rfl) (by kernel_rfl) (by kernel_rfl) (fun _ _ _ h => h) (Or.inl ⟨by rfl, fun w hSw => ?_⟩) (by assumption) ?_
      rotate_left
      · (try dsimp only at hSw); go_simp; try with_reducible rfl
      simp only [Act.put, List.setIfInBounds_toArray, List.set_cons_zero, List.set_cons_succ, List.getElem_toArray, List.getElem_cons_succ, List.getElem_cons_zero]
      refine wpAnyH_ready (rs := [7]) (by kernel_rfl) (by simp) ?_
      refine AllReadyH.cons rfl (fun K hK => ?_) AllReadyH.nil
      simp only [List.getElem_toArray, List.getElem_cons_succ, List.getElem_cons_zero]
      go_simp
      obtain ⟨kk, hkk⟩ : ∃ kk, kk = 44 + 28 * i := ⟨_, rfl⟩
      have HKK := Lib.hid hkk
      have hcall := pfirst_any i (by omega) w8
      rw [← hkk] at hcall
      clear hkk
      refine hcall.mono ?_
      rintro e w9 ⟨rfl, rfl⟩
      clear hcall
      go_wp2_with (fail)
      refine hK.out _ _ HM8.out.m.nw (fun hHeld => ?_)
      clear hK K
      refine wpAnyH_ready (rs := [8]) (by kernel_rfl) (by simp) ?_
      refine AllReadyH.cons rfl (fun K hK => ?_) AllReadyH.nil
      simp only [List.getElem_toArray, List.getElem_cons_succ, List.getElem_cons_zero]
      go_simp
      refine (pfrom_any b5 kk (num x.ks) (by have := HIL.out; have := HKK.out; omega) w8 HM8.out.m.ra).mono ?_
      rintro e w9 ⟨rfl, hb⟩
      have HM9 := Lib.hid (HM8.out.next hb)
      have HT9 := Lib.hid (HT8.out.trans (Turn.of_below hb))
      clear hb HM8 HT8
      go_wp2_with (fail)
      refine hK.out _ _ HM9.out.m.nw (fun hHeld => ?_)
      clear hK K
      refine wpAnyH_ready (rs := [9]) (by kernel_rfl) (by simp) ?_
      refine AllReadyH.cons rfl (fun K hK => ?_) AllReadyH.nil
      simp only [List.getElem_toArray, List.getElem_cons_succ, List.getElem_cons_zero]
      go_simp
      refine (playS_any HM9.out.m.p x.ino (1001 + (i : Int)) (fun j => num x.ks (kk + j)) (fun j _ => HA0.out _) HLL.out HSZ.out).mono ?_
      rintro e w10 ⟨u2, gs2, rfl, hp1, hg1, ht1, hu1⟩
      have h1 := som_allZ (fun j => num x.ks (kk + j))
      have h2 : dS x.nd.ads i = som (tb fun j => num x.ks (kk + j)) := by rw [HKK.out]; rfl
      have e16 : (if allZ 28 (fun j => num x.ks (kk + j)) = true then (0 : Int) else num ks gs'.length) = if dS x.nd.ads i = true then num ks (m + dI x.nd i) else 0 := by
        rw [h2, h1, HLEN.out]
        cases allZ 28 (fun j => num x.ks (kk + j)) <;> rfl
      have g16 : gs2.map Bl.bk = gs.map Bl.bk ++ sB x.nd ++ dB x.nd (i + 1) := by
        rw [hg1, HG.out, dB, ← List.append_assoc]
        congr 1
        rw [h2, h1]
        cases allZ 28 (fun j => num x.ks (kk + j)) with
        | true => rfl
        | false =>
          rw [HKK.out]
          rfl
      rw [e16]
      obtain ⟨z, hz⟩ : ∃ z, z = (if dS x.nd.ads i = true then num ks (m + dI x.nd i) else 0) := ⟨_, rfl⟩
      rw [← hz]
      have HZ := Lib.hid hz
      have HM10 := Lib.hid (HM9.out.call hp1 ht1)
      have HG1 := Lib.hid g16
      have HT10 := Lib.hid (show Turn (fun j => Lv g u0 j ∨ w.heap.size ≤ j) w w10 from HT9.out.trans2 ht1 (fun j e => by
        rcases e with e | e
        · exact .inl (.inl (.inl e))
        · rcases HUr.out j e with e1 | e1
          · exact .inl (.inl (.inr e1))
          · exact .inr e1))
      have HU1 := Lib.hid (show ∀ j, u2.ownBlock = some j → u0.ownBlock = some j ∨ w.heap.size ≤ j from fun j e => by
        rcases hu1 j e with e1 | e1
        · exact HUr.out j e1
        · exact .inr (Nat.le_trans HT9.out.size e1))
      clear hp1 hg1 ht1 hu1 e16 g16 h1 h2 hz HM9 HT9
      go_wp2_with (fail)
      refine hK.out _ _ HM10.out.m.nw (fun hHeld => ?_)
      clear hK K
      obtain ⟨y19, hy19⟩ : ∃ v, w10.cell? ⟨b7, i, none⟩ = some v := ⟨_, (cell_of_row w10 b7 i _ _ (0, 0) HM10.out.rd).trans (arr_at _ HIL.out)⟩
      have f19 := frozen_of_row w10 b7 i _ _ HM10.out.rd
      have l19 := lt_of_block HM10.out.rd
      refine wpAnyH_take (i := 10) (v := ?_) rfl (by kernel_rfl) (by kernel_rfl) (by kernel_rfl) (fun _ _ _ h => h) (Or.inl ⟨by rfl, fun w hSw => ?_⟩) (by assumption) ?_
      rotate_left
      · (try dsimp only at hSw); go_simp; try with_reducible rfl
      simp only [Act.put, List.setIfInBounds_toArray, List.set_cons_zero, List.set_cons_succ, List.getElem_toArray, List.getElem_cons_succ, List.getElem_cons_zero]
      refine wpAnyH_ready (rs := [11]) (by kernel_rfl) (by simp) ?_
      refine AllReadyH.cons rfl (fun K hK => ?_) AllReadyH.nil
      simp only [List.getElem_toArray, List.getElem_cons_succ, List.getElem_cons_zero]
      go_simp
      obtain ⟨wE, hwE⟩ : ∃ wE, wE = w10.setCell ⟨b7, i, none⟩ (.int .i64 z) := ⟨_, rfl⟩
      rw [← hwE]
      have HME := Lib.hid (show PnS w0 wE (fun j => Kp j ∨ j = b3 ∨ j = b5 ∨ j = b6 ∨ j = b7) g a n c ks u2 gs2 b3 b5 b6 b7 x (num x.ks) (upd (rD x.nd 16) 19 s19) (dF (num ks) x.nd m (i + 1)) by
        rw [hwE, ← dF_succ, ← HZ.out]; exact HM10.out.dbl i z)
      have HTE := Lib.hid (show Turn (fun j => Lv g u0 j ∨ w.heap.size ≤ j) w wE from HT10.out.trans2 (by rw [hwE]; exact Turn.setCell (M := fun j => j = b7) w10 (a := ⟨b7, i, none⟩) rfl _) (fun j e => .inr (by rw [e]; exact HB77.out)))
      refine hK _ _ HME.out.m.nw (fun hHeld => ?_)
      refine wpAnyH_done (by kernel_rfl) ?_ _
      clear hK K hwE y19 hy19 f19 l19 HM10 HT10
      go_wp2_with (fail)
      go_roundw
      case rel => exact ⟨i + 1, u2, gs2, by omega, by go_num, HG1.out, HME.out, HTE.out, HU1.out⟩
      case measure => simp [RowKit.intOf]; omega
    · have hi28 : i = 28 := by omega
      have k1 : ¬ (i : Int) < 28 := by omega
      rw [hi28] at HG HMr HLEN
      have HI28 := Lib.hid hi28
      clear hi28 hlt hi HDB
      have c0 := HMr.out.m.nw
      have HALL := Lib.hid (show allZ 28 (dF (num ks) x.nd m 28) = !dA x.nd from dF_all (fun j hj hd => by
        have h1 := dI_succ x.nd j
        rw [if_pos hd] at h1
        have h2 := dI_up x.nd (show j + 1 ≤ 28 by omega)
        have := HK.out (m + dI x.nd j) (by have := HLT.out; have := HBO.out; have := HM.out; omega)
        omega))
      have HDF := Lib.hid (show ∀ j, j < 28 → 0 ≤ dF (num ks) x.nd m 28 j ∧ dF (num ks) x.nd m 28 j ≤ 65535 from fun j hj => by
        unfold dF
        split
        · exact HK0.out _
        · omega)
      have hcall := playS_any HMr.out.m.p x.ino 1100 (dF (num ks) x.nd m 28) HDF.out (by have := HLT.out; have := HLEN.out; have := HBO.out; have := HM.out; omega) HSZ.out
      have HCALL := Lib.hid hcall
      clear hcall
      go_wp2_with (first | (refine wpList_ldA ar28 (by rfl) (.tmp 7) rfl b7 rfl (dF (num ks) x.nd m 28) HMr.out.rd ?_) | fail)
      refine HCALL.out.mono ?_
      rintro e w10 ⟨u2, gs2, rfl, hp1, hg1, ht1, hu1⟩
      have e16 : (if allZ 28 (dF (num ks) x.nd m 28) = true then (0 : Int) else num ks gs'.length) = if dA x.nd = true then num ks (m + dI x.nd 28) else 0 := by
        rw [HALL.out, HLEN.out]
        cases dA x.nd with
        | true => rfl
        | false => rfl
      have g16 : gs2.map Bl.bk = gs.map Bl.bk ++ bod (num ks) x.nd gs.length := by
        have hd : (if allZ 28 (dF (num ks) x.nd m 28) = true then [] else [(⟨x.ino, 1100, ppL (tb (dF (num ks) x.nd m 28))⟩ : Bk)]) = dL (num ks) x.nd gs.length := by
          rw [HALL.out, dF_tb, HM.out, dL]
          cases dA x.nd with
          | true => rfl
          | false => rfl
        rw [hg1, hd, HG.out, bod, ← List.append_assoc, ← List.append_assoc]
      rw [e16]
      obtain ⟨z, hz⟩ : ∃ z, z = (if dA x.nd = true then num ks (m + dI x.nd 28) else 0) := ⟨_, rfl⟩
      rw [← hz]
      have HZ := Lib.hid hz
      have HM10 := Lib.hid (HMr.out.call hp1 ht1)
      have HG1 := Lib.hid g16
      have HT10 := Lib.hid (show Turn (fun j => Lv g u0 j ∨ w.heap.size ≤ j) w w10 from HTr.out.trans2 ht1 (fun j e => by
        rcases e with e | e
        · exact .inl (.inl (.inl e))
        · rcases HUr.out j e with e1 | e1
          · exact .inl (.inl (.inr e1))
          · exact .inr e1))
      have HU1 := Lib.hid (show ∀ j, u2.ownBlock = some j → u0.ownBlock = some j ∨ w.heap.size ≤ j from fun j e => by
        rcases hu1 j e with e1 | e1
        · exact HUr.out j e1
        · exact .inr (Nat.le_trans HTr.out.size e1))
      clear hp1 hg1 ht1 hu1 e16 g16 hz HMr HTr HCALL c0
      obtain ⟨y20, hy20⟩ : ∃ v, w10.cell? ⟨b6, 20, none⟩ = some v := ⟨_, HM10.out.m.rc.cell (by decide)⟩
      have f20 := HM10.out.m.rc.free 20
      have l20 := HM10.out.m.rc.lt
      go_upto_region 13 with fail
      obtain ⟨wE, hwE⟩ : ∃ wE, wE = w10.setCell ⟨b6, 20, none⟩ (.int .i64 z) := ⟨_, rfl⟩
      rw [← hwE]
      have HME := Lib.hid (show PnS w0 wE (fun j => Kp j ∨ j = b3 ∨ j = b5 ∨ j = b6 ∨ j = b7) g a n c ks u2 gs2 b3 b5 b6 b7 x (num x.ks) (rF (num ks) x.nd m) (dF (num ks) x.nd m 28) by
        have h1 := HM10.out.recS 20 z
        rw [HZ.out, HS19.out, rF_make] at h1
        rw [hwE, HZ.out]
        exact h1)
      have HTE := Lib.hid (show Turn (fun j => Lv g u0 j ∨ w.heap.size ≤ j) w wE from HT10.out.trans2 (by rw [hwE]; exact Turn.setCell (M := fun j => j = b6) w10 (a := ⟨b6, 20, none⟩) rfl _) (fun j e => .inr (by rw [e]; exact HB63.out)))
      clear hwE y20 hy20 f20 l20 HM10 HT10
      have HRG := Lib.hid (show rgO (rF (num ks) x.nd m) = true from rgO_iff.2 (rF_rgt HX.out HN.out HK0.out))
      go_wp2_with (first | (refine wpList_ldR (by rfl) (.tmp 6) rfl b6 rfl (rF (num ks) x.nd m) HME.out.m.rc ?_) | fail)
      refine (putR_any (rF (num ks) x.nd m) wE).mono ?_
      rintro e wB ⟨a', n', c', rfl, hp, hnw, hb⟩
      rw [ruB, if_pos HRG.out] at hp
      have hpb : ∀ y, a' = some y → wE.heap.size ≤ y.block ∧ y.block < wB.heap.size := fun y e => by
        have hn := hp.len
        rw [recB_len] at hn
        obtain ⟨b', o', e', hlt', _⟩ := hp.at (by omega)
        rw [e'] at e
        cases e
        exact ⟨hnw _ e', hlt'⟩
      obtain ⟨zb, hzb⟩ : ∃ z : Bl, z = ⟨x.ino, 999, a', n', c', recB (rF (num ks) x.nd m)⟩ := ⟨_, rfl⟩
      have HMB := Lib.hid (HME.out.next hb)
      have HTB := Lib.hid (HTE.out.trans (Turn.of_below hb))
      have HL2 := Lib.hid (show gs2.length = m + (bod (num ks) x.nd gs.length).length by
        have := congrArg List.length HG1.out
        rw [List.length_map, List.length_append, List.length_map, ← HM.out] at this
        rw [this, HM.out])
      have hcall := play_any HMB.out.m.p zb (by rw [hzb]; exact hp) (fun y e => by
        rw [hzb] at e
        have h1 := hpb y e
        refine ⟨fun e2 => ?_, h1.2, fun e2 => ?_⟩
        · have := (World.ownsRow.lt HME.out.m.p.o.out.row _ e2).2; omega
        · have := (HME.out.m.p.o.lt _ e2).2; omega) (by have := HL2.out; have := HLT.out; have := HM.out; omega) (by
          have h1 := HL2.out
          have h2 := sB_le x.nd
          have h3 := dB_le x.nd 28
          have h4 := dL_le (num ks) x.nd gs.length
          have h5 := HS.out
          have h6 := HM.out
          rw [bod, List.length_append, List.length_append] at h1
          omega)
      rw [hzb, HL2.out] at hcall
      have HCALL := Lib.hid hcall
      have c0 := HMB.out.m.nw
      clear hzb hcall hp hnw hb hpb
      go_wp2_with (fail)
      refine HCALL.out.mono ?_
      rintro e w12 ⟨u3, gs3, rfl, h3, hg3, ht3, hu3⟩
      have H3 := Lib.hid h3
      have HG3 := Lib.hid hg3
      have HT3 := Lib.hid (show Turn (fun j => Lv g u0 j ∨ w.heap.size ≤ j) w w12 from HTB.out.trans2 ht3 (fun j e => by
        rcases e with e | e
        · exact .inl (.inl (.inl e))
        · rcases HU1.out j e with e1 | e1
          · exact .inl (.inl (.inr e1))
          · exact .inr e1))
      have HU3 := Lib.hid (show ∀ j, u3.ownBlock = some j → u0.ownBlock = some j ∨ w.heap.size ≤ j from fun j e => by
        rcases hu3 j e with e1 | e1
        · exact HU1.out j e1
        · exact .inr (Nat.le_trans HTB.out.size e1))
      clear h3 hg3 ht3 hu3 c0 HCALL
      go_wp2_with (fail)
      go_ret
      rw [HM.out]
      refine ⟨u3, gs3, rfl, H3.out.sub (fun j e => .inl e) HKG.out, ?_, ⟨HT3.out.os, HT3.out.tape, HT3.out.output, HT3.out.size, fun k hk hn => HT3.out.block k hk (fun e => ?_)⟩, HU3.out⟩
      · rw [HG3.out, HG1.out, ndB, List.append_assoc, HM.out]
        rfl
      · rcases e with e | e
        · exact hn e
        · omega

theorem enters_b1 (args : Array Value) (w : World) : (callFunc 46 args).run Try.prog w = .ok (.enter 46 args) w := enters_of (P := Try.prog) Try.func46 (by kernel_rfl) rfl args w
theorem size68 (w : World) : (sizeOf 91).run Try.prog w = .ok 28 w := by
  have h := ar28.size
  cases hq : Try.prog.info? 91 with
  | none => rw [hq] at h; cases h
  | some i =>
    rw [hq] at h
    simp at h
    unfold sizeOf
    simp only [Sem.run_bind, typeInfo, run_program, hq, Sem.run_pure, Result.andThen_ok, h]
theorem arr_sub (n : Nat) (f : Nat → Int) {o m : Nat} (h : o + m ≤ n) : (arr n f).extract o (o + m) = arr m fun j => f (o + j) := by
  apply Array.ext
  · rw [Array.size_extract, arr_size, arr_size]; omega
  · intro i h1 h2
    rw [arr_size] at h2
    rw [Array.getElem_extract]
    have e1 := arr_at f (show o + i < n by omega)
    have e2 := arr_at (fun j => f (o + j)) h2
    rw [Array.getElem?_eq_some_iff] at e1 e2
    obtain ⟨_, e1⟩ := e1
    obtain ⟨_, e2⟩ := e2
    rw [e1, e2]
theorem agg68 (w : World) : (isAgg 91).run Try.prog w = .ok true w := by
  unfold isAgg
  rw [Sem.run_bind, run_underlying Try.underlying91]
  rfl
/-- A row of two rows: one of them. -/
theorem run_idxB (f : Nat → Int) (i : Nat) (h : i < 2) (w : World) : (Instr.index 92 (arv 56 f) (.int .i64 (i : Int))).run Try.prog w = .ok (arv 28 fun j => f (28 * i + j)) w := by
  have hp : (part 91 (arr 56 f) (i * 28)).run Try.prog w = .ok (arv 28 fun j => f (28 * i + j)) w := by
    unfold part
    simp only [Sem.run_bind, agg68, Result.andThen_ok, size68, if_true, Sem.run_pure]
    rw [arr_sub 56 f (show i * 28 + 28 ≤ 56 by omega), Nat.mul_comm]
  unfold Instr.index
  simp only [asIntOf, Sem.run_bind, Sem.run_pure, Result.andThen_ok, run_underlying Try.underlying92]
  rw [if_pos (by omega)]
  simp only [Sem.run_bind, size68, Result.andThen_ok, Int.toNat_natCast, hp]
theorem ownB_nil (w : World) (B : Nat) : OwB w B (.slice none 0 0) [] := ⟨⟨rfl, .inl ⟨rfl, rfl⟩⟩, fun x hx => by simp at hx, fun x hx => by simp at hx⟩
/-- Is it built? -/
def bldO (d r s : Int) (f : Nat → Nw) (n : Nat) (ks : List Int) : Bool := mrO d r s (lnL f n) && decide ((ks.length : Int) = cntO d r s f n) && !(ks.any fun a => !isA (adO d r s) a)
/-- What Build answers. -/
def BldP (w : World) (ok : Bool) (L : List Bk) (e : Ending) (w' : World) : Prop :=
  Below w.heap.size w w' ∧ if ok = true then ∃ ao co gs, e = .returned (.tuple #[.slice ao (List.length gs) co, .bool true]) ∧ BlsAt w' ao gs ∧ gs.map Bl.bk = L
    else e = .returned (.tuple #[.slice none 0 0, .bool false])
/-- As BldP, the last block's bytes free to be written. -/
def BldF (w : World) (ok : Bool) (L : List Bk) (e : Ending) (w' : World) : Prop :=
  Below w.heap.size w w' ∧ if ok = true then ∃ ao co gs, e = .returned (.tuple #[.slice ao (List.length gs) co, .bool true]) ∧ BlsAt w' ao gs ∧ gs.map Bl.bk = L ∧ ∃ hs x y, gs = hs ++ [x] ∧ x.a = some y ∧ w.heap.size ≤ y.block ∧ ∀ o, w'.frozen? ⟨y.block, o, none⟩ = false
    else e = .returned (.tuple #[.slice none 0 0, .bool false])
theorem BldF.no {w w' : World} {L : List Bk} {ok : Bool} (h : ok = false) (hb : Below w.heap.size w w') : BldF w ok L (.returned (.tuple #[.slice none 0 0, .bool false])) w' := by
  subst h
  exact ⟨hb, rfl⟩
theorem BldF.bld {w w' : World} {L : List Bk} {ok : Bool} {e : Ending} (h : BldF w ok L e w') : BldP w ok L e w' := by
  cases ok with
  | true =>
    obtain ⟨hb, h2⟩ := h
    rw [if_pos rfl] at h2
    obtain ⟨ao, co, gs, h3, h4, h5, _⟩ := h2
    exact ⟨hb, by rw [if_pos rfl]; exact ⟨ao, co, gs, h3, h4, h5⟩⟩
  | false => exact ⟨h.1, h.2⟩
/-- The first charts. -/
def chB (ch : Nat → Int) : Nat → List Bk
  | 0 => []
  | i + 1 => chB ch i ++ [⟨0, 1 + (i : Int), ppL (tb fun j => ch (28 * i + j))⟩]
def rtF (at' : Nat → Int) (o i : Nat) : Nat → Int := fun j => if j < i then at' (o + j) else 0
theorem rtF_zero (at' : Nat → Int) (o : Nat) : rtF at' o 0 = noA := by funext j; unfold rtF noA; rw [if_neg (by omega)]
theorem rtF_succ (at' : Nat → Int) (o i : Nat) : upd (rtF at' o i) i (at' (o + i)) = rtF at' o (i + 1) := by
  funext j
  unfold upd rtF
  by_cases e : j = i
  · subst e; rw [if_pos rfl, if_pos (by omega)]
  · rw [if_neg e]
    by_cases h2 : j < i
    · rw [if_pos h2, if_pos (by omega)]
    · rw [if_neg h2, if_neg (by omega)]
theorem chB_len (ch : Nat → Int) (i : Nat) : (chB ch i).length = i := by
  induction i with
  | zero => rfl
  | succ i ih => rw [chB, List.length_append, ih]; rfl
theorem layB_ch (at' : Nat → Int) (f : Nat → Nd) (n : Nat) : layB at' f n = lB at' f n ++ chB (chP at' f n) 2 ++ [⟨0, 0, rtB (rtF at' (off at' f n) 2 0) (rtF at' (off at' f n) 2 1)⟩] := by
  rw [layB, List.append_assoc]
  congr 1
end Go.Proofs.Ytegcjpocdfmpfaa
