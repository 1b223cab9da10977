import Derived.Test.YtinholnidchblaaGreatDoorWy
import Derived.Test.YtinholnidchblaaGreatDoorWz
set_option linter.unusedVariables false
set_option linter.unusedSimpArgs false
set_option maxRecDepth 100000
set_option maxHeartbeats 16000000
namespace Go.Proofs.YtinholnidchblaaGreatDoor
open Go.RowKit
section
variable {w : World} {a : Option Addr} {n c : Nat} {f : Nat → Nc}
theorem treeRaw_any (h : NdW w a n c f) (x : Oc) (hx : OcW w x) : Calls Tryz.prog 4 #[.agg #[.slice a n c], .agg #[.int .i64 x.o, .string x.p, .string x.q, .int .i64 x.i, .int .i64 x.m, .slice x.da x.dn x.dc]] w fun e w' => e = .returned (.bool true) ∧ Below w.heap.size w w' := by
 obtain ⟨x2, hx2⟩ : ∃ x2, x2 = w.heap.size := ⟨_, rfl⟩
 obtain ⟨w1, hw1⟩ : ∃ w1, w1 = w.alloc (.cells #[.slice a n c] 26 (0, 0)) := ⟨_, rfl⟩
 obtain ⟨w2, hw2⟩ : ∃ w2, w2 = w1.alloc (.cells #[.int .i64 x.o, .string x.p, .string x.q, .int .i64 x.i, .int .i64 x.m, .slice x.da x.dn x.dc] 31 (0, 0)) := ⟨_, rfl⟩
 have s1 : w1.heap.size = x2 + 1 := by rw [hw1, hx2]; simp
 have b1 : Below w.heap.size w w1 := by rw [hw1]; exact (Below.refl _ _).alloc (Nat.le_refl _) _
 have b2 : Below w1.heap.size w1 w2 := by rw [hw2]; exact (Below.refl _ _).alloc (Nat.le_refl _) _
 have t2 : TrB w2 x2 (.slice a n c) := TrB.nx (by rw [hw1, hx2]; exact heap_alloc_new w _) b2
 have t3 : OpC w2 (x2 + 1) x.o x.i x.m x.p x.q x.da x.dn x.dc := by rw [hw2, ← s1]; exact heap_alloc_new w1 _
 have HB := qH (b1.trans (b2.mono b1.size))
 have HT2 := qH t2
 have HO3 := qH t3
 rw [hw1] at hw2
 have HW2 := qH hw2
 have HX2 := qH hx2
 clear s1 b1 b2 t2 t3 hw1 hw2 hx2
 have hc := alive_any w2
 go_enter Tryz.func4, Tryz.ntmps4
 go_wp2_with fail
 rw [← HX2.out, ← HW2.out]
 refine hc.mono ?_
 rintro e w3 ⟨rfl, hb⟩
 replace HB := qH (HB.out.trans (hb.mono HB.out.size))
 replace HT2 := qH (HT2.out.nx hb)
 replace HO3 := qH (HO3.out.nx hb)
 clear hc hb
 have l2 := HT2.out.load
 have c2 := HT2.out.cell
 have hc := weighW_any (c := c) (h.nds.next HB.out) 3000 (by decide) h.len h.each
 go_wp2_with fail
 refine hc.mono ?_
 rintro e w4 ⟨v, rfl, hwe, hb⟩
 replace HB := qH (HB.out.trans (hb.mono HB.out.size))
 replace HT2 := qH (HT2.out.nx hb)
 replace HO3 := qH (HO3.out.nx hb)
 clear hc hb l2 c2
 by_cases hv : v ≤ 3000
 ·have k1 : ¬ (3000 : Int) < (v : Int) := by omega
  have k2 : decide ((3000 : Int) < (v : Int)) = false := decide_eq_false k1
  have hfew := we_few (hwe hv)
  have HFW : Hid (n ≤ 3000 ∧ ∀ i, i < n → (f i).dn ≤ 3000 ∧ (f i).en ≤ 3000) := qH ⟨by omega, fun i hi => by
   have h1 := hfew.2 i hi; have h2 := (h.nds.data i hi).len; have h3 := ((h.nds.ents i hi).ens).len
   omega⟩
  have hn3 : n ≤ 3000 := HFW.out.1
  clear hfew hwe hv
  have l3 := HO3.out.load
  obtain ⟨g1, g2, g3, g4, g5, g6⟩ := HO3.out.cells
  have hc := longO (hx.next HB.out)
  go_wp2_with fail
  refine hc.mono ?_
  rintro e w5 ⟨lb, rfl, hlb, hb⟩
  replace HB := qH (HB.out.trans (hb.mono HB.out.size))
  replace HT2 := qH (HT2.out.nx hb)
  replace HO3 := qH (HO3.out.nx hb)
  clear hc hb l3 g1 g2 g3 g4 g5 g6
  cases lb with
  | true =>
   go_wp2_with fail; go_ret
   exact ⟨rfl, HB.out⟩
  | false =>
   have HSZ := qH (hlb rfl); clear hlb; have l2 := HT2.out.load; have c2 := HT2.out.cell; have hc := copyTree_any (c := c) (h.nds.next HB.out) (by omega) (fun i hi => by have := HFW.out.2 i hi; omega); go_wp2_with fail; refine hc.mono ?_; rintro e w6 ⟨v5, k5, g, rfl, hO5, hL5, hge5, hb⟩; replace HB := qH (HB.out.trans (hb.mono HB.out.size)); replace HT2 := qH (HT2.out.nx hb); replace HO3 := qH (HO3.out.nx hb); clear hc hb l2 c2 hge5
   obtain rfl : k5 = n := by have := congrArg List.length hL5; rwa [ndL_len, ndL_len] at this
   obtain ⟨a5, c5, rfl⟩ := OwN.slice hO5
   have hfw5 : ∀ i, i < k5 → (g i).dn ≤ 3000 ∧ (g i).en ≤ 3000 := fun i hi => by
    have h1 := congrArg (fun l => nat l i) hL5; simp only [nat_ndL hi] at h1; have h2 := (h.nds.data i hi).len; have h3 := ((h.nds.ents i hi).ens).len; have h4 := (hO5.data i hi).1.len; have h5 := ((hO5.ents i hi).1.ens).len; have h6 := HFW.out.2 i hi; have e1 : (g i).d = (f i).d := congrArg Nd.d h1; have e2 : (g i).e = (f i).e := congrArg Nd.e h1; rw [e1] at h4; rw [e2] at h5
    omega
   have HF5 := qH hfw5; have HL5 := qH hL5; have o1 := HO3.out.cells; have olt := lt_of_block HO3.out; obtain ⟨g1, g2, g3, g4, g5, g6⟩ := o1; obtain ⟨w7, x5, hw, hxx, hT5, hb⟩ := new_trb w6 (.slice a5 k5 c5); have HN5 := qH (hO5.nds.next hb); replace HB := qH (HB.out.trans (hb.mono HB.out.size)); replace HT2 := qH (HT2.out.nx hb); replace HO3 := qH (HO3.out.nx hb); have HT5 := qH hT5; have HW7 := qH hw; have HX5 := qH hxx; clear hw hxx hT5 hb hO5 hL5 hfw5; have hc := tfind_any (c := c5) HN5.out (by omega) (fun i hi => by have := HF5.out i hi; omega) x.p (by have := HSZ.out; omega); rw [HL5.out] at hc
   obtain ⟨FF, hFF⟩ : ∃ FF, FF = fiO (ndL f k5) (nms x.p) := ⟨_, rfl⟩
   rw [← hFF] at hc; have HFF := qH hFF; clear hFF; go_wp2_with fail; rw [← HX5.out, ← HW7.out]; refine hc.mono ?_; rintro e w8 ⟨rfl, hb⟩; replace HB := qH (HB.out.trans (hb.mono HB.out.size)); replace HT2 := qH (HT2.out.nx hb); replace HO3 := qH (HO3.out.nx hb); replace HT5 := qH (HT5.out.nx hb); replace HN5 := qH (HN5.out.nx hb); clear hc hb g1 g2 g3 g4 g5 g6 olt; have l2 := HT2.out.load; have c2 := HT2.out.cell; obtain ⟨g1, g2, g3, g4, g5, g6⟩ := HO3.out.cells; have hc := rFind_any (c := c) (p := x.p) (h.nds.next HB.out) (fun i hi => by have := HFW.out.2 i hi; omega) (by have := HSZ.out; omega); rw [← HFF.out] at hc; go_wp2_with fail; refine hc.mono ?_; rintro e w9 ⟨rfl, hb⟩; replace HB := qH (HB.out.trans (hb.mono HB.out.size)); replace HT2 := qH (HT2.out.nx hb); replace HO3 := qH (HO3.out.nx hb); replace HT5 := qH (HT5.out.nx hb); replace HN5 := qH (HN5.out.nx hb); clear hc hb g1 g2 g3 g4 g5 g6 l2 c2; have l5 := HT5.out.load; have c5' := HT5.out.cell; have l3 := HO3.out.load; obtain ⟨g1, g2, g3, g4, g5, g6⟩ := HO3.out.cells; have hc := do_any (c := c5) HN5.out (by omega) (fun i hi => by have := HF5.out i hi; omega) x.o x.i x.m x.p x.q x.da x.dn x.dc x.z (by have := HSZ.out; omega) (by have := HSZ.out; omega) hx.i hx.m (hx.pin.next HB.out); rw [HL5.out] at hc
   obtain ⟨DD, hDD⟩ : ∃ DD, DD = dO (ndL f k5) x.o (nms x.p) (nms x.q) x.i x.m x.z := ⟨_, rfl⟩
   have HDD := qH hDD; rw [← hDD] at hc; clear hDD; go_wp2_with fail; refine hc.mono ?_; rintro e wA ⟨v1, v2, rfl, hT1, ⟨da1, dn1, dc1, na1, nn1, nc1, Ls1, rfl, hS1⟩, hb⟩; replace HB := qH (HB.out.trans (hb.mono HB.out.size)); replace HT2 := qH (HT2.out.nx hb); replace HO3 := qH (HO3.out.nx hb); replace HT5 := qH (HT5.out.nx hb); replace HN5 := qH (HN5.out.nx hb); clear hc hb g1 g2 g3 g4 g5 g6 l5 c5' l3; obtain ⟨a1, c1, f1, rfl, hN1, hL1, hF1⟩ := treV_few hT1 (by rw [HDD.out]; exact dO_ok _ _ _ _ _ _ _); have HFE1 := qH hF1; have HLL1 := qH hL1; have HWD1 : Hid (dn1 ≤ 1000000000 ∧ nn1 ≤ 1000000000) := qH (dO_wide (by rw [← HDD.out]; exact hS1)); obtain ⟨wB, xA, yA, hw, hxx, hyy, hTA, hRA, hb⟩ := new_trs wA (.slice a1 DD.1.length c1) (.int .i64 DD.2.err) (.slice da1 dn1 dc1) (.slice na1 nn1 nc1) (.int .i64 DD.2.k) (.int .i64 DD.2.l) (.int .i64 DD.2.sz); have l2 := HT2.out.load; have c2 := HT2.out.cell; have lt2 := lt_of_block HT2.out; have l3 := HO3.out.load; have lt3 := lt_of_block HO3.out; obtain ⟨g1, g2, g3, g4, g5, g6⟩ := HO3.out.cells; have HNA := qH (hN1.next hb); have HSA := qH (hS1.next hb); replace HB := qH (HB.out.trans (hb.mono HB.out.size)); replace HT2 := qH (HT2.out.nx hb); replace HO3 := qH (HO3.out.nx hb); replace HT5 := qH (HT5.out.nx hb); replace HN5 := qH (HN5.out.nx hb); have HTA := qH hTA; have HRA := qH hRA; have HWB := qH hw; have HXA := qH hxx; have HYA := qH hyy; clear hw hxx hyy hTA hRA hb hT1 hN1 hL1 hF1 hS1; unfold resW; have hc := rDo_any (c := c) (h.nds.next HB.out) (fun i hi => by have := HFW.out.2 i hi; omega) (by have := HSZ.out; omega : x.p.size ≤ 1000000) (by have := HSZ.out; omega : x.q.size ≤ 1000000) (hx.pin.next HB.out) (by have := HSZ.out; omega) x.o x.i x.m; rw [← HDD.out] at hc; go_wp2_with fail; rw [← HYA.out, ← HXA.out, ← HWB.out]; refine hc.mono ?_; rintro e wC ⟨v1, v2, rfl, hT1, ⟨da2, dn2, dc2, na2, nn2, nc2, Ls2, rfl, hS2⟩, hb⟩; replace HB := qH (HB.out.trans (hb.mono HB.out.size)); replace HT2 := qH (HT2.out.nx hb); replace HO3 := qH (HO3.out.nx hb); replace HT5 := qH (HT5.out.nx hb); replace HN5 := qH (HN5.out.nx hb); replace HNA := qH (HNA.out.nx hb); replace HSA := qH (HSA.out.nx hb); replace HTA := qH (HTA.out.nx hb); replace HRA := qH (HRA.out.nx hb); clear hc hb l2 c2 lt2 l3 lt3 g1 g2 g3 g4 g5 g6; obtain ⟨a2, c2, f2, rfl, hN2, hL2, hF2⟩ := treV_few hT1 (by rw [HDD.out]; exact dO_ok _ _ _ _ _ _ _); have HFE2 := qH hF2; have HLL2 := qH hL2; have HWD2 : Hid (dn2 ≤ 1000000000 ∧ nn2 ≤ 1000000000) := qH (dO_wide (by rw [← HDD.out]; exact hS2)); obtain ⟨wD, xB, yB, hw, hxx, hyy, hTB, hRB, hb⟩ := new_trs wC (.slice a2 DD.1.length c2) (.int .i64 DD.2.err) (.slice da2 dn2 dc2) (.slice na2 nn2 nc2) (.int .i64 DD.2.k) (.int .i64 DD.2.l) (.int .i64 DD.2.sz); have HNB := qH (hN2.next hb); have HSB := qH (hS2.next hb); replace HB := qH (HB.out.trans (hb.mono HB.out.size)); replace HT2 := qH (HT2.out.nx hb); replace HO3 := qH (HO3.out.nx hb); replace HT5 := qH (HT5.out.nx hb); replace HN5 := qH (HN5.out.nx hb); replace HNA := qH (HNA.out.nx hb); replace HSA := qH (HSA.out.nx hb); replace HTA := qH (HTA.out.nx hb); replace HRA := qH (HRA.out.nx hb); have HTB := qH hTB; have HRB := qH hRB; have HWD := qH hw; have HXB := qH hxx; have HYB := qH hyy; clear hw hxx hyy hTB hRB hb hT1 hN2 hL2 hF2 hS2; unfold resW; go_wp2_with fail; rw [← HYB.out, ← HXB.out, ← HWD.out]; obtain ⟨F1, F2⟩ := FF; dsimp only; refine wp_region_held_drew (S := (fun w' => TrB w' x2 (.slice a k5 c) ∧ TrB w' x5 (.slice a5 k5 c5) ∧ TrB w' xA (.slice a1 DD.1.length c1) ∧ TrB w' xB (.slice a2 DD.1.length c2) ∧ RsB w' yA #[.int .i64 DD.2.err, .slice da1 dn1 dc1, .slice na1 nn1 nc1, .int .i64 DD.2.k, .int .i64 DD.2.l, .int .i64 DD.2.sz] ∧ RsB w' yB #[.int .i64 DD.2.err, .slice da2 dn2 dc2, .slice na2 nn2 nc2, .int .i64 DD.2.k, .int .i64 DD.2.l, .int .i64 DD.2.sz])) (by kernel_rfl) ?_ (fun hHeld => ?_)
   ·exact ⟨HT2.out, HT5.out, HTA.out, HTB.out, HRA.out, HRB.out⟩
   have hbd : Below wD.heap.size wD wD.drew := below_drewN (Below.refl _ _) 1; replace HB := qH (HB.out.trans (hbd.mono HB.out.size)); replace HT2 := qH (HT2.out.nx hbd); replace HO3 := qH (HO3.out.nx hbd); replace HT5 := qH (HT5.out.nx hbd); replace HN5 := qH (HN5.out.nx hbd); replace HNA := qH (HNA.out.nx hbd); replace HSA := qH (HSA.out.nx hbd); replace HTA := qH (HTA.out.nx hbd); replace HRA := qH (HRA.out.nx hbd); replace HNB := qH (HNB.out.nx hbd); replace HSB := qH (HSB.out.nx hbd); replace HTB := qH (HTB.out.nx hbd); replace HRB := qH (HRB.out.nx hbd)
   obtain ⟨RB, hRB⟩ : ∃ RB, RB = rightB (ndL f k5) := ⟨_, rfl⟩
   have HRBB := qH hRB; clear hRB hbd
   have hee : (RB == RB) = true := by simp
   refine rgZ 0 ?_ rfl (.inl ⟨by rfl, fun w hSw => ?_⟩) ?_ (by kernel_rfl) (fun _ _ _ h => h) (by assumption); rotate_left
   ·have hl := TrB.load hSw.2.1
    have hcl := TrB.cell hSw.2.1; go_simp
    try with_reducible rfl
   simp only [Act.put, rg]; refine rgZ 2 ?_ rfl (.inl ⟨by rfl, fun w hSw => ?_⟩) ?_ (by kernel_rfl) (fun _ _ _ h => h) (by assumption); rotate_left
   ·have hl := TrB.load hSw.1
    have hcl := TrB.cell hSw.1; go_simp
    try with_reducible rfl
   simp only [Act.put, rg]; refine rgC 1 rfl (by kernel_rfl) (fun K hK => ?_); simp only [rg4, rg5, rg6]; go_simp; have hc := right_any (c := c5) HN5.out (by omega) (fun i hi => by have := HF5.out i hi; omega); rw [HL5.out, ← HRBB.out] at hc; refine hc.mono ?_; rintro e wE ⟨rfl, hb⟩; replace HB := qH (HB.out.trans (hb.mono HB.out.size)); replace HT2 := qH (HT2.out.nx hb); replace HO3 := qH (HO3.out.nx hb); replace HT5 := qH (HT5.out.nx hb); replace HN5 := qH (HN5.out.nx hb); replace HNA := qH (HNA.out.nx hb); replace HSA := qH (HSA.out.nx hb); replace HTA := qH (HTA.out.nx hb); replace HRA := qH (HRA.out.nx hb); replace HNB := qH (HNB.out.nx hb); replace HSB := qH (HSB.out.nx hb); replace HTB := qH (HTB.out.nx hb); replace HRB := qH (HRB.out.nx hb); clear hc hb hHeld; go_wp2_with fail; refine hK.out _ _ ⟨HT2.out, HT5.out, HTA.out, HTB.out, HRA.out, HRB.out⟩ (fun hHeld => ?_); clear hK K; refine rgC 3 rfl (by kernel_rfl) (fun K hK => ?_); simp only [rg4, rg5, rg6]; go_simp; have hc := rright_any (c := c) (h.nds.next HB.out) (fun i hi => by have := HFW.out.2 i hi; omega); rw [← HRBB.out] at hc; refine hc.mono ?_; rintro e wE ⟨rfl, hb⟩; replace HB := qH (HB.out.trans (hb.mono HB.out.size)); replace HT2 := qH (HT2.out.nx hb); replace HO3 := qH (HO3.out.nx hb); replace HT5 := qH (HT5.out.nx hb); replace HN5 := qH (HN5.out.nx hb); replace HNA := qH (HNA.out.nx hb); replace HSA := qH (HSA.out.nx hb); replace HTA := qH (HTA.out.nx hb); replace HRA := qH (HRA.out.nx hb); replace HNB := qH (HNB.out.nx hb); replace HSB := qH (HSB.out.nx hb); replace HTB := qH (HTB.out.nx hb); replace HRB := qH (HRB.out.nx hb); clear hc hb hHeld; go_wp2_with fail; refine hK.out _ _ ⟨HT2.out, HT5.out, HTA.out, HTB.out, HRA.out, HRB.out⟩ (fun hHeld => ?_); clear hK K; refine rgZ 4 ?_ rfl (.inl ⟨by rfl, fun w hSw => ?_⟩) ?_ (by kernel_rfl) (fun _ _ _ h => h) (by assumption); rotate_left
   ·(try dsimp only at hSw); go_simp; try with_reducible rfl
   simp only [Act.put, rg]; refine rgZ 5 ?_ rfl (.inl ⟨by rfl, fun w hSw => ?_⟩) ?_ (by kernel_rfl) (fun _ _ _ h => h) (by assumption); rotate_left
   ·(try dsimp only at hSw); go_simp; try with_reducible rfl
   simp only [Act.put, rg]; refine rgZ 6 ?_ rfl (.inl ⟨by rfl, fun w hSw => ?_⟩) ?_ (by kernel_rfl) (fun _ _ _ h => h) (by assumption); rotate_left
   ·(try dsimp only at hSw); go_simp; try with_reducible rfl
   simp only [Act.put, rg]; refine rgZ 7 ?_ rfl (.inl ⟨by rfl, fun w hSw => ?_⟩) ?_ (by kernel_rfl) (fun _ _ _ h => h) (by assumption); rotate_left
   ·(try dsimp only at hSw); go_simp; try with_reducible rfl
   simp only [Act.put, rg]; refine rgZ 8 ?_ rfl (.inl ⟨by rfl, fun w hSw => ?_⟩) ?_ (by kernel_rfl) (fun _ _ _ h => h) (by assumption); rotate_left
   ·(try dsimp only at hSw); go_simp; try with_reducible rfl
   simp only [Act.put, rg]; refine rgZ 9 ?_ rfl (.inl ⟨by rfl, fun w hSw => ?_⟩) ?_ (by kernel_rfl) (fun _ _ _ h => h) (by assumption); rotate_left
   ·(try dsimp only at hSw); go_simp; try with_reducible rfl
   simp only [Act.put, rg]; refine rgZ 10 ?_ rfl (.inl ⟨by rfl, fun w hSw => ?_⟩) ?_ (by kernel_rfl) (fun _ _ _ h => h) (by assumption); rotate_left
   ·(try dsimp only at hSw); go_simp; try with_reducible rfl
   simp only [Act.put, rg]; refine rgZ 11 ?_ rfl (.inl ⟨by rfl, fun w hSw => ?_⟩) ?_ (by kernel_rfl) (fun _ _ _ h => h) (by assumption); rotate_left
   ·(try dsimp only at hSw); go_simp; try with_reducible rfl
   simp only [Act.put, rg]; refine rgZ 12 ?_ rfl (.inl ⟨by rfl, fun w hSw => ?_⟩) ?_ (by kernel_rfl) (fun _ _ _ h => h) (by assumption); rotate_left
   ·(try dsimp only at hSw); go_simp; try with_reducible rfl
   simp only [Act.put, rg]; refine rgZ 13 ?_ rfl (.inl ⟨by rfl, fun w hSw => ?_⟩) ?_ (by kernel_rfl) (fun _ _ _ h => h) (by assumption); rotate_left
   ·(try dsimp only at hSw); go_simp; try with_reducible rfl
   simp only [Act.put, rg]; refine rgZ 14 ?_ rfl (.inl ⟨by rfl, fun w hSw => ?_⟩) ?_ (by kernel_rfl) (fun _ _ _ h => h) (by assumption); rotate_left
   ·(try dsimp only at hSw); go_simp; try with_reducible rfl
   simp only [Act.put, rg]; refine rgZ 15 ?_ rfl (.inl ⟨by rfl, fun w hSw => ?_⟩) ?_ (by kernel_rfl) (fun _ _ _ h => h) (by assumption); rotate_left
   ·(try dsimp only at hSw); go_simp; try with_reducible rfl
   simp only [Act.put, rg]; refine rgZ 16 ?_ rfl (.inl ⟨by rfl, fun w hSw => ?_⟩) ?_ (by kernel_rfl) (fun _ _ _ h => h) (by assumption); rotate_left
   ·have hl := TrB.load hSw.2.2.1
    have hcl := TrB.cell hSw.2.2.1; go_simp
    try with_reducible rfl
   simp only [Act.put, rg]; refine rgZ 17 ?_ rfl (.inl ⟨by rfl, fun w hSw => ?_⟩) ?_ (by kernel_rfl) (fun _ _ _ h => h) (by assumption); rotate_left
   ·have hl := TrB.load hSw.2.2.2.1
    have hcl := TrB.cell hSw.2.2.2.1; go_simp
    try with_reducible rfl
   simp only [Act.put, rg]; refine rgC 18 rfl (by kernel_rfl) (fun K hK => ?_); simp only [rg4, rg5, rg6]; go_simp; have hc := sameTree_any (c := c1) (d := c2) HNA.out HNB.out HFE1.out HFE2.out; rw [HLL1.out, HLL2.out, decide_eq_true rfl] at hc; refine hc.mono ?_; rintro e wE ⟨rfl, hb⟩; replace HB := qH (HB.out.trans (hb.mono HB.out.size)); replace HT2 := qH (HT2.out.nx hb); replace HO3 := qH (HO3.out.nx hb); replace HT5 := qH (HT5.out.nx hb); replace HN5 := qH (HN5.out.nx hb); replace HNA := qH (HNA.out.nx hb); replace HSA := qH (HSA.out.nx hb); replace HTA := qH (HTA.out.nx hb); replace HRA := qH (HRA.out.nx hb); replace HNB := qH (HNB.out.nx hb); replace HSB := qH (HSB.out.nx hb); replace HTB := qH (HTB.out.nx hb); replace HRB := qH (HRB.out.nx hb); clear hc hb hHeld; go_wp2_with fail; refine hK.out _ _ ⟨HT2.out, HT5.out, HTA.out, HTB.out, HRA.out, HRB.out⟩ (fun hHeld => ?_); clear hK K; refine rgZ 19 ?_ rfl (.inl ⟨by rfl, fun w hSw => ?_⟩) ?_ (by kernel_rfl) (fun _ _ _ h => h) (by assumption); rotate_left
   ·(try dsimp only at hSw); go_simp; try with_reducible rfl
   simp only [Act.put, rg]; refine rgZ 20 ?_ rfl (.inl ⟨by rfl, fun w hSw => ?_⟩) ?_ (by kernel_rfl) (fun _ _ _ h => h) (by assumption); rotate_left
   ·(try dsimp only at hSw); go_simp; try with_reducible rfl
   simp only [Act.put, rg]; refine rgZ 21 ?_ rfl (.inl ⟨by rfl, fun w hSw => ?_⟩) ?_ (by kernel_rfl) (fun _ _ _ h => h) (by assumption); rotate_left
   ·have hl := RsB.load hSw.2.2.2.2.1
    have hcl := RsB.cells hSw.2.2.2.2.1; go_simp
    try with_reducible rfl
   simp only [Act.put, rg]; refine rgZ 22 ?_ rfl (.inl ⟨by rfl, fun w hSw => ?_⟩) ?_ (by kernel_rfl) (fun _ _ _ h => h) (by assumption); rotate_left
   ·have hl := RsB.load hSw.2.2.2.2.2
    have hcl := RsB.cells hSw.2.2.2.2.2; go_simp
    try with_reducible rfl
   simp only [Act.put, rg]; refine rgC 23 rfl (by kernel_rfl) (fun K hK => ?_); simp only [rg4, rg5, rg6]; go_simp; have hc := sameResult_any HSA.out HSB.out HWD1.out.1 HWD1.out.2 HWD2.out.2; rw [decide_eq_true rfl] at hc; unfold resW at hc; refine hc.mono ?_; rintro e wE ⟨rfl, hb⟩; replace HB := qH (HB.out.trans (hb.mono HB.out.size)); replace HT2 := qH (HT2.out.nx hb); replace HO3 := qH (HO3.out.nx hb); replace HT5 := qH (HT5.out.nx hb); replace HN5 := qH (HN5.out.nx hb); replace HNA := qH (HNA.out.nx hb); replace HSA := qH (HSA.out.nx hb); replace HTA := qH (HTA.out.nx hb); replace HRA := qH (HRA.out.nx hb); replace HNB := qH (HNB.out.nx hb); replace HSB := qH (HSB.out.nx hb); replace HTB := qH (HTB.out.nx hb); replace HRB := qH (HRB.out.nx hb); clear hc hb hHeld; go_wp2_with fail; refine hK.out _ _ ⟨HT2.out, HT5.out, HTA.out, HTB.out, HRA.out, HRB.out⟩ (fun hHeld => ?_); clear hK K; refine rgZ 24 ?_ rfl (.inl ⟨by rfl, fun w hSw => ?_⟩) ?_ (by kernel_rfl) (fun _ _ _ h => h) (by assumption); rotate_left
   ·(try dsimp only at hSw); go_simp; try with_reducible rfl
   simp only [Act.put, rg]; refine rgZ 25 ?_ rfl (.inl ⟨by rfl, fun w hSw => ?_⟩) ?_ (by kernel_rfl) (fun _ _ _ h => h) (by assumption); rotate_left
   ·(try dsimp only at hSw); go_simp; try with_reducible rfl
   simp only [Act.put, rg]; refine rgZ 26 ?_ rfl (.inl ⟨by rfl, fun w hSw => ?_⟩) ?_ (by kernel_rfl) (fun _ _ _ h => h) (by assumption); rotate_left
   ·have hl := TrB.load hSw.2.1
    have hcl := TrB.cell hSw.2.1; go_simp
    try with_reducible rfl
   simp only [Act.put, rg]; refine rgZ 27 ?_ rfl (.inl ⟨by rfl, fun w hSw => ?_⟩) ?_ (by kernel_rfl) (fun _ _ _ h => h) (by assumption); rotate_left
   ·have hl := TrB.load hSw.1
    have hcl := TrB.cell hSw.1; go_simp
    try with_reducible rfl
   simp only [Act.put, rg]; refine rgC 28 rfl (by kernel_rfl) (fun K hK => ?_); simp only [rg4, rg5, rg6]; go_simp; have hc := sameTree_any (c := c5) (d := c) HN5.out (h.nds.next HB.out) ⟨by omega, fun i hi => by have := HF5.out i hi; omega⟩ ⟨by omega, fun i hi => by have := HFW.out.2 i hi; omega⟩; rw [HL5.out, decide_eq_true rfl] at hc; refine hc.mono ?_; rintro e wE ⟨rfl, hb⟩; replace HB := qH (HB.out.trans (hb.mono HB.out.size)); replace HT2 := qH (HT2.out.nx hb); replace HO3 := qH (HO3.out.nx hb); replace HT5 := qH (HT5.out.nx hb); replace HN5 := qH (HN5.out.nx hb); replace HNA := qH (HNA.out.nx hb); replace HSA := qH (HSA.out.nx hb); replace HTA := qH (HTA.out.nx hb); replace HRA := qH (HRA.out.nx hb); replace HNB := qH (HNB.out.nx hb); replace HSB := qH (HSB.out.nx hb); replace HTB := qH (HTB.out.nx hb); replace HRB := qH (HRB.out.nx hb); clear hc hb hHeld; go_wp2_with fail; refine hK.out _ _ ⟨HT2.out, HT5.out, HTA.out, HTB.out, HRA.out, HRB.out⟩ (fun hHeld => ?_); clear hK K; refine rgZ 29 ?_ rfl (.inl ⟨by rfl, fun w hSw => ?_⟩) ?_ (by kernel_rfl) (fun _ _ _ h => h) (by assumption); rotate_left
   ·(try dsimp only at hSw); go_simp; try with_reducible rfl
   simp only [Act.put, rg]; refine rgZ 30 ?_ rfl (.inl ⟨by rfl, fun w hSw => ?_⟩) ?_ (by kernel_rfl) (fun _ _ _ h => h) (by assumption); rotate_left
   ·(try dsimp only at hSw); go_simp; try with_reducible rfl
   simp only [Act.put, rg]; refine wpAnyH_done (by kernel_rfl) ?_ _; go_wp2_with fail; go_ret
   exact ⟨rfl, HB.out⟩
 ·have k1 : (3000 : Int) < (v : Int) := by omega
  have k2 : decide ((3000 : Int) < (v : Int)) = true := decide_eq_true k1
  clear hwe
  go_wp2_with fail
  go_ret
  exact ⟨rfl, HB.out⟩
end
end Go.Proofs.YtinholnidchblaaGreatDoor
