import Derived.Test.YtinholnidchblaaGreatDoorQbb
set_option linter.unusedVariables false
set_option linter.unusedSimpArgs false
set_option maxRecDepth 100000
set_option maxHeartbeats 16000000
namespace Go.Proofs.YtinholnidchblaaGreatDoor
open Go.RowKit
section
variable {w : World} {n c : Nat} {na : Option Addr} {f : Nat → Nc}
theorem number_any (hN : Nds w na n f) (hs : Snd (ndL f n)) (hen : ∀ i, i < n → (f i).dn ≤ 1000000 ∧ (f i).en ≤ 100000) :
  Calls Tryz.prog 43 #[.agg #[.slice na n c]] w (TreO w (num (ndL f n))) := by
 obtain ⟨x, hx⟩ : ∃ x, x = w.heap.size := ⟨_, rfl⟩
 obtain ⟨wa, ha⟩ : ∃ wa, wa = w.alloc (.cells #[.slice na n c] 26 (0, 0)) := ⟨_, rfl⟩
 obtain ⟨w1, hw1⟩ : ∃ w1, w1 = wa.alloc (.cells #[.slice none 0 0] 26 (0, 0)) := ⟨_, rfl⟩
 have sa : wa.heap.size = x + 1 := by rw [ha, hx]; simp
 have ba : Below w.heap.size w wa := by rw [ha]; exact (Below.refl _ _).alloc (Nat.le_refl _) _
 have b1 : Below wa.heap.size wa w1 := by rw [hw1]; exact (Below.refl _ _).alloc (Nat.le_refl _) _
 have hb1 : Below w.heap.size w w1 := ba.trans (b1.mono ba.size)
 have t1 : TrB w1 x (.slice na n c) := by
  have : TrB wa x (.slice na n c) := by rw [ha, hx]; exact heap_alloc_new w _
  exact (b1.block _ (lt_of_block this)).trans this
 have t2 : TrB w1 (x + 1) (.slice none 0 0) := by rw [hw1, ← sa]; exact heap_alloc_new wa _
 have hok := hs.okF.1
 have hpos : 0 < n := by have := hs.pos; rwa [ndL_len] at this
 have hc : Calls Tryz.prog 53 #[.agg #[.slice na n c], .int .i64 0, .slice none 0 0, .int .i64 60] w1 (OrPost w1.heap.size w1 (.slice none 0 0) (met (chs (ndL f n)))) :=
  order_any (hN.next hb1) (Nat.le_refl _) hok 60 0 [] w1 (.slice none 0 0) (by decide) (Below.refl _ _) (Nat.le_refl _) (ownI_nil _ _) hpos (fun x hx => by cases hx) List.nodup_nil (by simp)
 rw [ha] at hw1
 have HX := qH hx
 have HW1 := qH hw1
 have HB1 := qH hb1
 have HT1 := qH (And.intro t1 t2)
 have HS := qH hs
 have HEN := qH hen
 have HOK := qH hok
 have hn56 := hok.1
 have l1 := t1.load
 have c1 := t1.cell
 rw [hw1, hx] at l1 c1
 clear ha sa ba b1 hb1 t1 t2 hok hs hen hx hw1
 go_enter Tryz.func43, Tryz.ntmps43
 go_wp2_with fail
 rw [← HX.out, ← HW1.out]
 refine hc.mono ?_
 rintro e w2 ⟨v2, rfl, hO2, hT2, hM2⟩
 have hb2 : Below w1.heap.size w1 w2 := hT2.below (Nat.le_refl _) (fun k hk => by cases hk)
 have hml : 0 < (met (chs (ndL f n))).length := by
  obtain ⟨r, hr⟩ := met_head (chs (ndL f n))
  rw [hr]; simp
 have hmn : ∀ x ∈ met (chs (ndL f n)), x < n := fun x hx => by have := HS.out.metlt x hx; rwa [ndL_len] at this
 have hmd := met_nodup (chs (ndL f n))
 have hmL : (met (chs (ndL f n))).length ≤ n := by have := HS.out.metlen; rwa [ndL_len] at this
 obtain ⟨ms, hms⟩ : ∃ ms, ms = met (chs (ndL f n)) := ⟨_, rfl⟩
 rw [← hms] at hO2 hml hmn hmd hmL
 obtain ⟨g2, p2, hv2, hge2, hlt2⟩ := OwnI.at hO2 hml
 subst hv2
 have HO2 := qH hO2
 have HMS := qH hms
 have HMS2 : Hid (ms.length = (met (chs (ndL f n))).length) := qH (by rw [hms])
 have HM := qH (And.intro hmn (And.intro hmd hmL))
 have HB2 := qH (HB1.out.trans (hb2.mono HB1.out.size))
 have HT2 : Hid (TrB w2 x (.slice na n c) ∧ TrB w2 (x + 1) (.slice none 0 0)) := qH (And.intro ((hb2.block _ (lt_of_block HT1.out.1)).trans HT1.out.1) ((hb2.block _ (lt_of_block HT1.out.2)).trans HT1.out.2))
 clear hc hO2 hT2 hM2 hb2 hms l1 c1 hmn hmd hge2 hlt2
 have c1 := HT2.out.1.cell
 have hms56 : ms.length ≤ 56 := Nat.le_trans hmL hn56
 clear hmL
 go_wp2_with (at_make; go_must (refine wpList_mki rfl _ _ rfl .i64 .i64 _ _ n rfl rfl rfl rfl (by omega) w2.heap.size (Nat.le_refl _) ?_); intro w3 hO3 hb3; have HO3 := qH hO3; have HB3 := qH hb3; clear hO3 hb3 c1)
 obtain ⟨g4, hg4⟩ : ∃ g4, g4 = w2.heap.size := ⟨_, rfl⟩
 rw [← hg4]
 have HO2' : Hid (OwnI w3 w1.heap.size (.slice (some ⟨g2, 0, none⟩) ms.length p2) ms.length (ofN ms)) := qH (HO2.out.next HB3.out)
 have HO4 : Hid (OwnI w3 w2.heap.size (.slice (some ⟨g4, 0, none⟩) n n) n (rng n fun j => plI ms 0 j)) := qH (by
  have h9 := HO3.out
  rw [rng_zero, ← hg4] at h9
  rw [hg4]
  rw [hg4] at h9
  rwa [rng_congr (G := fun j => plI ms 0 j) (fun j hj => (plI_zero ms j).symm)] at h9)
 have HNE : Hid (g2 ≠ g4 ∧ x < g4 ∧ x + 1 < g4 ∧ w1.heap.size ≤ g4) := qH (by
  have h1 := (World.ownsRow.lt HO2.out g2 rfl).2
  have h2 := lt_of_block HT2.out.1
  have h3 := lt_of_block HT2.out.2
  have h4 := (World.ownsRow.lt HO2.out g2 rfl).1
  refine ⟨by omega, by omega, by omega, by omega⟩)
 have HB3' := qH (HB2.out.trans (HB3.out.mono HB2.out.size))
 have HT3 : Hid (TrB w3 x (.slice na n c) ∧ TrB w3 (x + 1) (.slice none 0 0)) := qH (And.intro ((HB3.out.block _ (lt_of_block HT2.out.1)).trans HT2.out.1) ((HB3.out.block _ (lt_of_block HT2.out.2)).trans HT2.out.2))
 have HG4 := qH hg4
 clear hg4
 go_loopw [5] (fun v5 wr => ∃ i : Nat, i ≤ ms.length ∧ v5 = .int .i64 i ∧ OwnI wr w2.heap.size (.slice (some ⟨g4, 0, none⟩) n n) n (rng n fun j => plI ms i j) ∧ Turn (· = g4) w3 wr) (fun v5 _ => ms.length - (RowKit.intOf v5).toNat)
 case atStart => exact ⟨0, Nat.zero_le _, rfl, HO4.out, Turn.refl _ _⟩
 case round =>
  obtain ⟨i, hi, rfl, hO, hT⟩ := hrel
  have HO := qH hO
  have HT := qH hT
  have HOM : Hid (OwnI wr w1.heap.size (.slice (some ⟨g2, 0, none⟩) ms.length p2) ms.length (ofN ms)) := qH (HO2'.out.turn hT (fun j hj e => HNE.out.1 (by
   have ej : g2 = j := by simpa [Value.ownBlock] using hj
   rw [ej]; exact e)))
  clear hO hT
  by_cases hlt : i < ms.length
  ·have HLT := qH hlt
   have i0 : (0 : Int) ≤ (i : Int) := by omega
   have i1 : (i : Int) < (ms.length : Int) := by omega
   have gm := HOM.out.cellN hlt; rw [inu_ofN hlt] at gm; have hmi : ms.getD i 0 < n := HM.out.1 _ (by rw [List.getD_eq_getElem?_getD, List.getElem?_eq_getElem hlt]; exact List.getElem_mem hlt)
   have hst := fun j => plI_step HM.out.2.1 hlt j
   obtain ⟨mi, hmi2⟩ : ∃ mi, mi = ms.getD i 0 := ⟨_, rfl⟩
   rw [← hmi2] at gm hmi hst; have HST := qH hst; have HMI := qH hmi
   have m0 : (0 : Int) ≤ (mi : Int) := by omega
   have m1 : (mi : Int) < (n : Int) := by omega
   have gc := HO.out.cellN hmi; have gf := HO.out.freeN mi; have gl := (World.ownsRow.lt HO.out g4 rfl).2
   have HNX : Hid (OwnI (wr.setCell ⟨g4, mi, none⟩ (.int .i64 (i : Int))) w2.heap.size (.slice (some ⟨g4, 0, none⟩) n n) n (rng n fun j => plI ms (i + 1) j)) := qH (by
    have h9 := HO.out.setN mi (i : Int)
    rwa [rng_set (z := i) (G := fun j => plI ms (i + 1) j) HMI.out (fun j hj => HST.out j)] at h9)
   have HTX : Hid (Turn (· = g4) w3 (wr.setCell ⟨g4, mi, none⟩ (.int .i64 (i : Int)))) := qH (HT.out.trans (turn_set wr g4 mi _)); clear hst hmi hmi2; go_wp2_with fail
   go_roundw
   case rel => exact ⟨i + 1, HLT.out, by go_num, HNX.out, HTX.out⟩
   case measure => have := HLT.out; simp [RowKit.intOf]; omega
  ·obtain rfl : i = ms.length := by omega
   have hbr : Below w2.heap.size w2 wr := HB3.out.trans (HT.out.below HB3.out.size fun k e => by rw [e, HG4.out]; exact Nat.le_refl _); have HBH : Hid (Below w.heap.size w wr) := qH (HB2.out.trans (hbr.mono HB2.out.size)); have HTH : Hid (TrB wr x (.slice na n c) ∧ TrB wr (x + 1) (.slice none 0 0)) := qH (And.intro ((hbr.block _ (lt_of_block HT2.out.1)).trans HT2.out.1) ((hbr.block _ (lt_of_block HT2.out.2)).trans HT2.out.2))
   obtain ⟨wH, hwH⟩ : ∃ wH, wH = wr := ⟨_, rfl⟩
   subst hwH; clear hbr
   obtain ⟨w4, hw4⟩ : ∃ w4, w4 = wH.alloc (.cells #[.slice none 0 0] 26 (0, 0)) := ⟨_, rfl⟩
   obtain ⟨x3, hx3⟩ : ∃ x3, x3 = wH.heap.size := ⟨_, rfl⟩
   have hb4 : Below wH.heap.size wH w4 := by rw [hw4]; exact (Below.refl _ _).alloc (Nat.le_refl _) _
   have HI0 : Hid (NmI wH x3 0 (.slice none 0 0) f w4) := qH ⟨hb4, by unfold TrB; rw [hw4, hx3]; exact heap_alloc_new wH _, OwN.zero _ _, (fun j hj => by cases hj), by rw [hx3]; exact Nat.le_refl _⟩; have HW4 := qH hw4; have HX3 := qH hx3; clear hw4 hx3 hb4 hi hlt; go_wp2_with fail; rw [← HX3.out, ← HW4.out]; clear hml
   go_loopw [7, 8, 9] (fun v7 _ _ wr => ∃ (i : Nat) (v : Value) (g : Nat → Nc), i ≤ ms.length ∧ v7 = .int .i64 i ∧ NmI wH x3 i v g wr ∧ ∀ j, j < i → (g j).nd = nat (num1 (ndL f n)) j) (fun v7 _ _ _ => ms.length - (RowKit.intOf v7).toNat)
   case atStart => exact ⟨0, _, f, Nat.zero_le _, rfl, HI0.out, fun j hj => absurd hj (Nat.not_lt_zero j)⟩
   case round =>
    obtain ⟨i, v, g, hi, rfl, hI, hlike⟩ := hrel
    obtain ⟨wo, rfl⟩ : ∃ wo, wo = wr := ⟨_, rfl⟩
    have HI := qH hI; have HLIKE := qH hlike; have HBW := qH (HBH.out.trans (hI.bel.mono HBH.out.size)); have HTB : Hid (TrB wo x (.slice na n c) ∧ TrB wo (x + 1) (.slice none 0 0)) := qH (And.intro ((hI.bel.block _ (lt_of_block HTH.out.1)).trans HTH.out.1) ((hI.bel.block _ (lt_of_block HTH.out.2)).trans HTH.out.2)); have HMW := qH (HOM.out.next hI.bel); have HPW := qH (HO.out.next hI.bel); clear hlike
    by_cases hlt : i < ms.length
    ·have HLT := qH hlt
     have i0 : (0 : Int) ≤ (i : Int) := by omega
     have i1 : (i : Int) < (ms.length : Int) := by omega
     have gm := HMW.out.cellN hlt; rw [inu_ofN hlt] at gm; have hmi : ms.getD i 0 < n := HM.out.1 _ (by rw [List.getD_eq_getElem?_getD, List.getElem?_eq_getElem hlt]; exact List.getElem_mem hlt)
     obtain ⟨mi, hmi2⟩ : ∃ mi, mi = ms.getD i 0 := ⟨_, rfl⟩
     rw [← hmi2] at gm hmi; have HMI := qH (And.intro hmi hmi2)
     have k0 : (0 : Int) ≤ (mi : Int) := by omega
     have k1 : (mi : Int) < (n : Int) := by omega
     have hnr := hN.next HBW.out; obtain ⟨b, off, rfl, hbl, d0, d1, d2, d3⟩ := hnr.at hmi; have c1 := HTB.out.1.cell
     obtain ⟨w5, hw5⟩ : ∃ w5, w5 = (wo.alloc (.cells #[.int .i64 (f mi).k, .int .i64 (f mi).l, .slice (f mi).da (f mi).dn (f mi).dc, .slice (f mi).ea (f mi).en (f mi).ec] 54 (0, 0))).drew := ⟨_, rfl⟩
     obtain ⟨q, hq⟩ : ∃ q, q = wo.heap.size := ⟨_, rfl⟩
     have hb5 : Below wo.heap.size wo w5 := by rw [hw5]; exact below_drewN ((Below.refl _ _).alloc (Nat.le_refl _) _) 1
     have hv5 : NdV w5 q (f mi).k (f mi).l (.slice (f mi).da (f mi).dn (f mi).dc) (.slice (f mi).ea (f mi).en (f mi).ec) := by unfold NdV; rw [hw5, hq]; exact heap_alloc_new wo _
     have HV5 := qH hv5; have HB5 := qH hb5; have HW5 := qH hw5; have HQ := qH hq; have HP5 := qH ((hnr.data mi hmi).next hb5); have HE5 := qH ((hnr.ents mi hmi).next hb5); have HJ : Hid (∀ j, v.ownBlock = some j → j < wo.heap.size) := qH (hI.own.lt); have hgl2 := (World.ownsRow.lt HMW.out g2 rfl).2; have hxl2 := lt_of_block HTB.out.1; clear hnr hmi hmi2 hb5 hv5 hw5 hq hI hi; go_wp2_with fail; go_region
     go_upto_region 12 with fail
     rw [← HQ.out, ← HW5.out]; clear d0 d1 d2 d3 gm c1 hbl hgl2 hxl2; have hc := copyB_any (f mi).da (f mi).dn (f mi).dc (f mi).d w5 HP5.out (by have := (HEN.out mi HMI.out.1).1; omega); obtain ⟨n0, n1, n2, n3⟩ := HV5.out.cells; go_wp2_with fail; refine hc.mono ?_; rintro e w6 ⟨vd, rfl, hOd, hb6⟩; obtain ⟨ad, cd, rfl, hPd, hlo⟩ := hOd.pin; have HV6 := qH (HV5.out.next hb6); have HE6 := qH (HE5.out.next hb6); have HPD := qH hPd; have HLOD := qH hlo; have HB6 := qH (HB5.out.trans (hb6.mono HB5.out.size))
     obtain ⟨w7, hw7⟩ : ∃ w7, w7 = w6.setCell ⟨q, 2, none⟩ (.slice ad (f mi).d.length cd) := ⟨_, rfl⟩
     have hT7 : Turn (· = q) w6 w7 := by rw [hw7]; exact turn_set w6 q 2 _
     have HV7 : Hid (NdV w7 q (f mi).k (f mi).l (.slice ad (f mi).d.length cd) (.slice (f mi).ea (f mi).en (f mi).ec)) := qH (by rw [hw7]; exact HV6.out.set2 _); have HE7 := qH (HE6.out.turn hT7 (HV6.out.odd.enz HE6.out)); have HPD7 := qH (hPd.turn hT7 (HV6.out.odd.pin hPd)); have HB7 : Hid (Below wo.heap.size wo w7) := qH (HB6.out.trans (hT7.below HB6.out.size fun k e => by rw [e, HQ.out]; exact Nat.le_refl _)); have HW7 := qH hw7; clear n0 n1 n2 n3; obtain ⟨n0, n1, n2, n3⟩ := HV6.out.cells; have nf := HV6.out.free 2; have nl := lt_of_block HV6.out; have hc2 := copyE_any (f mi).ea (f mi).en (f mi).ec (f mi).e w7 HE7.out.ens (by have := (HEN.out mi HMI.out.1).2; omega) HE7.out.nil; clear hc hOd hPd hb6 hlo hw7 hT7; go_wp2_with fail; rw [← HW7.out]; refine hc2.mono ?_; rintro e w8 ⟨ve, rfl, hOe, hb8⟩; have hEl := hOe.len; obtain ⟨ae, ce, rfl, hPe, hloe⟩ := hOe.enz; have HV8 := qH (HV7.out.next hb8); have HPD8 := qH (HPD7.out.next hb8); have HB8 := qH (HB7.out.trans (hb8.mono HB7.out.size)); have HS78 : Hid (w7.heap.size ≤ w8.heap.size) := qH hb8.size
     obtain ⟨w9, hw9⟩ : ∃ w9, w9 = w8.setCell ⟨q, 3, none⟩ (.slice ae (f mi).en ce) := ⟨_, rfl⟩
     have hT9 : Turn (· = q) w8 w9 := by rw [hw9]; exact turn_set w8 q 3 _
     have HQ7 : Hid (q < w7.heap.size) := qH (lt_of_block HV7.out); have HV9 : Hid (NdV w9 q (f mi).k (f mi).l (.slice ad (f mi).d.length cd) (.slice ae (f mi).en ce)) := qH (by rw [hw9]; exact HV8.out.set3 _); have HPD9 := qH (HPD8.out.turn hT9 (HV8.out.odd.pin HPD8.out)); have HOE9 : Hid (OwnE w9 w7.heap.size (.slice ae (f mi).en ce) (f mi).en (f mi).e) := qH (by rw [hw9]; exact hOe.setLow (p := ⟨q, 3, none⟩) HQ7.out _); have HB9 : Hid (Below wo.heap.size wo w9) := qH (HB8.out.trans (hT9.below HB8.out.size fun k e => by rw [e, HQ.out]; exact Nat.le_refl _)); have HS9 : Hid (w7.heap.size ≤ w9.heap.size) := qH (Nat.le_trans HS78.out hT9.size); have HW9 := qH hw9; have HEL := qH hEl; clear hc2 hOe hPe hb8 hloe hw9 hT9 n0 n1 n2 n3 nf nl hEl; obtain ⟨n0, n1, n2, n3⟩ := HV8.out.cells; have nf := HV8.out.free 3; have nl := lt_of_block HV8.out; go_wp2_with fail; rw [← HW9.out]; clear n0 n1 n2 n3 nf nl
     go_loopw [9] (fun v9 w' => ∃ k : Nat, k ≤ (f mi).en ∧ v9 = .int .i64 k ∧ OwnE w' w7.heap.size (.slice ae (f mi).en ce) (f mi).en (enK (plI ms ms.length) (f mi).e k) ∧ Turn (w7.heap.size ≤ ·) w9 w') (fun v9 _ => (f mi).en - (RowKit.intOf v9).toNat)
     case atStart => exact ⟨0, Nat.zero_le _, rfl, by rw [enK_zero]; exact HOE9.out, Turn.refl _ _⟩
     case round =>
      obtain ⟨k, hk, rfl, hO9, hT9⟩ := hrel; have HO9 := qH hO9; have HT9 := qH hT9; have HBX : Hid (Below wo.heap.size wo wr) := qH (HB9.out.trans (hT9.below HB9.out.size fun j hj => Nat.le_trans HB7.out.size hj)); have HVX : Hid (NdV wr q (f mi).k (f mi).l (.slice ad (f mi).d.length cd) (.slice ae (f mi).en ce)) := qH ((hT9.block q (Nat.lt_of_lt_of_le HQ7.out HS9.out) (fun e => by have := HQ7.out; omega)).trans HV9.out); obtain ⟨n0, n1, n2, n3⟩ := HVX.out.cells; clear hO9 hT9
      by_cases hkl : k < (f mi).en
      ·have HKL := qH hkl
       have j0 : (0 : Int) ≤ (k : Int) := by omega
       have j1 : (k : Int) < ((f mi).en : Int) := by omega
       have hke : k < (f mi).e.length := by rw [HEL.out]; exact hkl
       have hbnd := (HOK.out.2 mi HMI.out.1).2 _ (eat_mem hke)
       obtain ⟨kd, hkd⟩ : ∃ kd : Nat, (eat (f mi).e k).i = (kd : Int) := ⟨inoN (eat (f mi).e k), by unfold inoN; omega⟩
       have hkn : kd < n := by omega
       have hino : inoN (eat (f mi).e k) = kd := by unfold inoN; omega
       obtain ⟨_, hpl⟩ := HO9.out
       rcases hpl with ⟨he0, _⟩ | ⟨ge, cap, cur, hev, _⟩
       ·simp only [Value.slice.injEq] at he0
        omega
       simp only [Value.slice.injEq, true_and] at hev; obtain ⟨rfl, rfl⟩ := hev; have hens := HO9.out.ens; obtain ⟨_, _, he1, hEn, _⟩ := hens; simp only [Value.slice.injEq, true_and] at he1; obtain ⟨rfl, rfl⟩ := he1; obtain ⟨_, _, he2, hbe, hx0, hx1⟩ := hEn.at hkl
       cases he2
       rw [enK_at hke, hkd, Nat.zero_add] at hx1; have gp := (HPW.out.next HBX.out).cellN hkn; rw [inu_rng _ hkn] at gp; have hst := HO9.out.setI hkl ((plI ms ms.length kd : Nat) : Int); rw [enK_at hke, show (⟨(eat (f mi).e k).s, ((plI ms ms.length kd : Nat) : Int)⟩ : En) = ⟨(eat (f mi).e k).s, (plI ms ms.length (inoN (eat (f mi).e k)) : Int)⟩ by rw [hino], enK_step hke] at hst
       obtain ⟨pk, hpk⟩ : ∃ pk, pk = plI ms ms.length kd := ⟨_, rfl⟩
       rw [← hpk] at gp hst
       obtain ⟨w13, hw13⟩ : ∃ w13, w13 = (wr.setCell ⟨ge, k * 2 + 1, none⟩ (.int .i64 (pk : Int))).drew := ⟨_, rfl⟩
       have hbd : Below (wr.setCell ⟨ge, k * 2 + 1, none⟩ (.int .i64 (pk : Int))).heap.size (wr.setCell ⟨ge, k * 2 + 1, none⟩ (.int .i64 (pk : Int))) w13 := by rw [hw13]; exact below_drewN (Below.refl _ _) 1
       have HST := qH (hst.next hbd); have HTX : Hid (Turn (w7.heap.size ≤ ·) w9 w13) := qH ((HT9.out.trans (Turn.setCell (M := (w7.heap.size ≤ ·)) (a := ⟨ge, k * 2 + 1, none⟩) wr (World.ownsRow.lt HO9.out ge rfl).1 _)).trans (.of_below hbd)); have HW13 := qH hw13; have gf := HO9.out.freeJ (k * 2 + 1)
       have m0 : (0 : Int) ≤ (kd : Int) := by omega
       have m1 : (kd : Int) < (n : Int) := by omega
       clear hbnd hkd hino hst hx0 hpk hEn hw13 hbd; go_wp2_with fail; go_region; go_wp2_with fail; rw [← HW13.out]
       go_roundw
       case rel => exact ⟨k + 1, HKL.out, by go_num, HST.out, HTX.out⟩
       case measure => have := HKL.out; simp [RowKit.intOf]; omega
      ·obtain rfl : k = (f mi).en := by omega
       have hEE : OwnE wr w7.heap.size (.slice ae (f mi).en ce) (f mi).en ((f mi).e.map (setI (plI ms ms.length))) := by
        have h9 := HO9.out
        rwa [show enK (plI ms ms.length) (f mi).e (f mi).en = (f mi).e.map (setI (plI ms ms.length)) by rw [← HEL.out]; exact enK_end _ _] at h9
       obtain ⟨_, _, he3, hPe, hloe⟩ := hEE.enz; simp only [Value.slice.injEq, true_and] at he3; obtain ⟨rfl, rfl⟩ := he3; have HPE := qH hPe; have HLOE := qH hloe
       have HPD' := qH (HPD9.out.turn HT9.out (fun h0 b' off' e hle => by
        rcases HPD7.out.bys.place with h1 | ⟨b2, off2, e2, hl2, _⟩
        ·omega
        ·rw [e2] at e; cases e; omega))
       obtain ⟨wA, hwA⟩ : ∃ wA, wA = wr.alloc (.cells #[.int .i64 (f mi).k, .int .i64 (f mi).l, .slice ad (f mi).d.length cd, .slice ae (f mi).en ce] 54 (0, 0)) := ⟨_, rfl⟩
       have hbA : Below wr.heap.size wr wA := by rw [hwA]; exact (Below.refl _ _).alloc (Nat.le_refl _) _
       have HBA := qH hbA; have HIA := qH (HI.out.next (HBX.out.trans (hbA.mono HBX.out.size))); have HNA : Hid (wA.heap[wr.heap.size]? = some (.cells #[.int .i64 (f mi).k, .int .i64 (f mi).l, .slice ad (f mi).d.length cd, .slice ae (f mi).en ce] 54 (0, 0))) := qH (by rw [hwA]; exact heap_alloc_new wr _); have HWA := qH hwA
       have HOFF : Hid (∀ j, v.ownBlock = some j → Off (f mi).d.length ad j j ∧ Off (f mi).en ae j j) := qH (fun j hj => by
        have h1 := HJ.out j hj; have h2 := HB5.out.size; have h3 := HB7.out.size; refine ⟨fun h0 b' off' e => ?_, fun h0 b' off' e => ?_⟩
        ·have h9 := (HLOD.out _ e).1
         simp only at h9
         omega
        ·have h9 := (HLOE.out _ e).1
         simp only at h9
         omega)
       have nl := HVX.out.load; have hIX := HI.out.next HBX.out; have o1 := hIX.out.cell; have ol := lt_of_block hIX.out
       have hi56 : i ≤ 56 := by have := HLT.out; omega
       clear hEE hPe hloe hbA hwA hIX
       go_wp2_with (at_builtin; go_must (refine wpList_apO rfl (.tmp 76) (.tmp 78) rfl v i g rfl (by rw [← HWA.out]; exact HIA.out.own) ⟨(f mi).k, (f mi).l, ad, (f mi).d.length, cd, (f mi).d, ae, (f mi).en, ce, (f mi).e.map (setI (plI ms ms.length))⟩ wr.heap.size rfl (by rw [← HWA.out]; exact HNA.out) (by rw [← HWA.out]; exact HPD'.out.next HBA.out) (by rw [← HWA.out]; exact HPE.out.next HBA.out) HOFF.out (by omega) ?_); intro gb cg w11 hO11 hT11 hG11; rw [← HWA.out] at hT11 hG11; have hgr := HIA.out.grow hO11 hT11 hG11; have HGR := qH hgr.1; have s1 := hgr.2.cell; have s2 := hgr.2.free 0; have s3 := lt_of_block hgr.2; clear hO11 hT11 hG11 hgr)
       go_roundw
       case rel => exact ⟨i + 1, _, _, HLT.out, by go_num, HGR.out, fun j hj => by
        by_cases e : j = i
        ·subst e
         rw [updN_same, rn1_at HS.out (by rw [← HMS.out]; exact HLT.out), ← HMS.out, ← HMI.out.2, nat_ndL HMI.out.1]
         rfl
        ·rw [updN_other _ _ e]
         exact HLIKE.out j (by omega)⟩
       case measure => have := HLT.out; simp [RowKit.intOf]; omega
    ·obtain rfl : i = ms.length := by omega
     rcases hI.own.form with ⟨_, h0⟩ | ⟨gb, cg, rfl⟩
     ·have h9 := HMS.out
      obtain ⟨r, hr⟩ := met_head (chs (ndL f n)); rw [h9, hr] at h0
      simp at h0
     have hgL : ndL g ms.length = num1 (ndL f n) := nat_ext (by rw [ndL_len, num1_len, HMS.out]) fun j hj => by
      rw [ndL_len] at hj; rw [nat_ndL hj, HLIKE.out j hj]
     have hok2 := num1_ok HS.out (g := g) (by rw [← HMS.out]; exact hgL); rw [← HMS.out] at hok2; have hc := rlinks_any (c := cg) hI.own.nds hok2.1 hok2.2; have o1 := hI.out.load; have o2 := hI.out.cell; have HGL := qH hgL; rw [hgL] at hc; clear hI hok2 hgL; go_wp2_with fail; refine hc.mono ?_; rintro e w11 ⟨gl, cl, rfl, hOL, hb11⟩; have HI1 := qH (HI.out.next hb11); have HOL := qH hOL
     have HGLT : Hid (gl ≠ gb) := qH (by
      have h1 := (World.ownsRow.lt hOL gl rfl).1; have h2 := HI.out.own.lt gb rfl
      omega)
     clear hc hOL hb11 o1 o2; go_wp2_with fail
     go_loopw [11] (fun v11 w12 => ∃ (i : Nat) (g' : Nat → Nc), i ≤ ms.length ∧ v11 = .int .i64 i ∧ NmI wH x3 ms.length (.slice (some ⟨gb, 0, none⟩) ms.length cg) g' w12 ∧ Turn (· = gb) w11 w12 ∧ ∀ j, j < ms.length → (g' j).nd = if j < i then { nat (num1 (ndL f n)) j with l := lnk (num1 (ndL f n)) j } else nat (num1 (ndL f n)) j) (fun v11 _ => ms.length - (RowKit.intOf v11).toNat)
     case atStart => exact ⟨0, g, Nat.zero_le _, rfl, HI1.out, Turn.refl _ _, fun j hj => by rw [if_neg (Nat.not_lt_zero j)]; exact HLIKE.out j hj⟩
     case round =>
      obtain ⟨i, g', hi2, rfl, hI2, hT12, hlk⟩ := hrel; have HI2 := qH hI2; have HT12 := qH hT12; have HLK := qH hlk
      have HOLX := qH (HOL.out.turn hT12 (fun j hj e => HGLT.out (by
       have ej : gl = j := by simpa [Value.ownBlock] using hj
       rw [ej]; exact e)))
      clear hI2 hT12 hlk
      by_cases hlt2 : i < ms.length
      ·have HL2 := qH hlt2
       have i0 : (0 : Int) ≤ (i : Int) := by omega
       have i1 : (i : Int) < (ms.length : Int) := by omega
       have gm := HOLX.out.cellN hlt2
       have hll : inu ((List.range ms.length).map fun j => lnk (num1 (ndL f n)) j) i = lnk (num1 (ndL f n)) i := by simp [inu, List.getD, hlt2]
       rw [hll] at gm
       obtain ⟨lz, hlz⟩ : ∃ lz, lz = lnk (num1 (ndL f n)) i := ⟨_, rfl⟩
       rw [← hlz] at gm; have o1 := HI2.out.out.cell; obtain ⟨n0, n1, n2, n3⟩ := HI2.out.own.cell hlt2; rw [Nat.zero_add] at n1; have nf := HI2.out.own.freeJ (i * 4 + 1); have nl := HI2.out.own.lt gb rfl; have hsl := HI2.out.own.setL hlt2 lz; rw [Nat.zero_add] at hsl
       obtain ⟨w13, hw13⟩ : ∃ w13, w13 = (wr.setCell ⟨gb, i * 4 + 1, none⟩ (.int .i64 lz)).drew := ⟨_, rfl⟩
       have hbd : Below (wr.setCell ⟨gb, i * 4 + 1, none⟩ (.int .i64 lz)).heap.size (wr.setCell ⟨gb, i * 4 + 1, none⟩ (.int .i64 lz)) w13 := by rw [hw13]; exact below_drewN (Below.refl _ _) 1
       have hT13 : Turn (· = gb) wr w13 := (turn_set wr gb _ _).trans (.of_below hbd); have HPUT := qH (HI2.out.put (hsl.next hbd) hT13); have HW13 := qH hw13; have HTX := qH (HT12.out.trans hT13); have HLZ := qH hlz; clear hsl hT13 hlz hll n0 n2 n3 hw13 hbd; go_wp2_with fail; go_region; go_wp2_with fail; rw [← HW13.out]
       go_roundw
       case rel => exact ⟨i + 1, _, HL2.out, by go_num, HPUT.out, HTX.out, fun j hj => by
        by_cases e : j = i
        ·subst e
         have h9 := HLK.out j hj; rw [if_neg (Nat.lt_irrefl j)] at h9; rw [updN_same, if_pos (Nat.lt_succ_self j), ← h9, ← HLZ.out]
         rfl
        ·rw [updN_other _ _ e, HLK.out j hj]
         by_cases h8 : j < i
         ·rw [if_pos h8, if_pos (by omega)]
         ·rw [if_neg h8, if_neg (by omega)]⟩
       case measure => have := HL2.out; simp [RowKit.intOf]; omega
      ·obtain rfl : i = ms.length := by omega
       have hnum : ndL g' ms.length = num (ndL f n) := num_of HMS2.out  fun j hj => by
        rw [HLK.out j hj, if_pos hj]
       have hTR : TrB wr (x + 1) (.slice none 0 0) := (HI2.out.bel.block _ (lt_of_block HTH.out.2)).trans HTH.out.2; have hx1 := lt_of_block HTH.out.2; have hgb := (HI2.out.ge gb rfl).1; have hTE : Turn (· = x + 1) wr (wr.setCell ⟨x + 1, 0, none⟩ (.slice (some ⟨gb, 0, none⟩) ms.length cg)) := turn_set wr (x + 1) 0 _; have HOE := qH (HI2.out.own.turnO hTR.odd hTE (fun e => absurd (show gb = x + 1 by simpa [Value.ownBlock] using e) (by omega))); have HRE : Hid (TrB (wr.setCell ⟨x + 1, 0, none⟩ (.slice (some ⟨gb, 0, none⟩) ms.length cg)) (x + 1) (.slice (some ⟨gb, 0, none⟩) ms.length cg)) := qH (TrB.set hTR _); have hbe := HBH.out.trans (HI2.out.bel.mono HBH.out.size); have HBE := qH (hbe.trans (hTE.below hbe.size fun k e => by rw [e, HX.out]; exact Nat.le_succ _)); have HGE : Hid (w.heap.size ≤ gb) := qH (Nat.le_trans HBH.out.size hgb); have HNUM := qH hnum; have o1 := HI2.out.out.load; have o2 := HI2.out.out.cell; have r1 := hTR.cell; have r2 := hTR.free 0; have r3 := lt_of_block hTR; clear hnum hTR hx1 hgb hTE hbe; go_wp2_with fail; refine bodyPost_ret (res_c1 rfl _ _ ⟨x + 1, 0, none⟩ _ rfl (TrB.load HRE.out)) rfl ?_
       exact ⟨_, ms.length, g', rfl, HOE.out, HNUM.out, fun j hj => by
        have ej : gb = j := by simpa [Value.ownBlock] using hj
        rw [← ej]; exact HGE.out, HBE.out⟩
end
theorem OwN.cap {w : World} {a : Option Addr} {n k c : Nat} {g : Nat → Nc} (h : OwN w (.slice a k c) n g) : k = n ∧ n ≤ c ∧ (a = none → n = 0 ∧ c = 0) := by
 have h1 := h.row.2
 rcases h1 with ⟨h2, h3⟩ | ⟨gb, cap, cur, hv, _, _, hc, _⟩
 ·cases h2
  have h5 : n = 0 := by simpa using h3
  exact ⟨h5.symm, by omega, fun _ => ⟨h5, rfl⟩⟩
 ·cases hv
  exact ⟨rfl, hc, fun e => by cases e⟩
theorem TreV.of {w : World} {L : List Nd} {a : Option Addr} {n c : Nat} {g : Nat → Nc} (h : Nds w a n g) (hL : ndL g n = L) (hc : n ≤ c) (h0 : a = none → n = 0 ∧ c = 0) : TreV w L (.agg #[.slice a n c]) := by
 have hl : L.length = n := by rw [← hL, ndL_len]
 subst hl
 exact ⟨a, c, g, rfl, h, hL, h0, hc⟩
theorem snd_few {w : World} {n : Nat} {a : Option Addr} {f : Nat → Nc} (h : Nds w a n f) (hs : Snd (ndL f n)) : ∀ i, i < n → (f i).dn ≤ 1000000 ∧ (f i).en ≤ 100000 := fun i hi => by
 have h1 := hs.okF.1.2 i hi
 have h2 := hs.okF.2.2 i hi
 have h3 := (h.data i hi).len
 have h4 := ((h.ents i hi).ens).len
 omega
section
variable {w : World} {n c : Nat} {na : Option Addr} {f : Nat → Nc} {o i m : Int} {p q : ByteArray} {da : Option Addr} {dn dc : Nat} {zs : List Int}
theorem rDo_any (hN : Nds w na n f) (hfew : ∀ i, i < n → (f i).dn ≤ 1000000 ∧ (f i).en ≤ 1000000) (hp : p.size ≤ 1000000) (hq : q.size ≤ 1000000) (hzp : Pin w da dn dc zs) (hdn : dn ≤ 1000000) (o i m : Int) :
  Calls Tryz.prog 20 #[.agg #[.slice na n c], .agg #[.int .i64 o, .string p, .string q, .int .i64 i, .int .i64 m, .slice da dn dc]] w (DoPost w (dO (ndL f n) o (nms p) (nms q) i m zs)) := by
 obtain ⟨RR, hRR⟩ : ∃ RR, RR = dO (ndL f n) o (nms p) (nms q) i m zs := ⟨_, rfl⟩
 rw [← hRR]
 have HRR := qH hRR
 obtain ⟨x, hx⟩ : ∃ x, x = w.heap.size := ⟨_, rfl⟩
 obtain ⟨w4, hw4, hI⟩ := op_start w na n c o i m p q da dn dc
 rw [← hx] at hI
 have HI0 := qH hI
 have HX := qH hx
 have HW4 := qH hw4
 unfold ResZ at hw4
 have HZP := qH hzp
 have HFW := qH hfew
 clear hRR hI hx hzp hfew
 obtain ⟨b1, b2, b3, b4, b5, b6⟩ := HI0.out.op.cells
 have l1 := HI0.out.box.load
 have l2 := HI0.out.box.cell
 have hc := rright_any (c := c) (hN.next HI0.out.bel) HFW.out
 go_enter Tryz.func20, Tryz.ntmps20
 go_wp2_with fail
 rw [← HX.out, ← hw4]
 refine hc.mono ?_
 rintro e w7 ⟨rfl, hb7⟩
 have HI := qH (HI0.out.next hb7)
 clear hc hb7 b1 b2 b3 b4 b5 b6 l1 l2
 have l1 := HI.out.box.load
 have l2 := HI.out.box.cell
 have l3 := HI.out.op.load
 obtain ⟨b1, b2, b3, b4, b5, b6⟩ := HI.out.op.cells
 cases hr : rightB (ndL f n) with
 | false =>
  have RRP : Hid (RR = ([], .bad 15)) := qH (HRR.out.trans (by rw [dO, hr]; rfl))
  clear hr
  go_wp2_with fail
  refine (rwrong_any _ 15).mono ?_
  rintro e w9 ⟨rfl, hb9⟩
  have HI7 := qH (HI.out.next hb9)
  clear hb9 l1 l2 l3 b1 b2 b3 b4 b5 b6
  obtain ⟨r1, r2, r3, ⟨a0, a1, a2, a3, a4, a5⟩, f0, f1, f2, f3, f4, f5, fl⟩ := HI7.out.all
  have HF1 := qH (HI7.out.fin (a := none) (k := 0) (cc := 0) (g := f) (r := .bad 15) ⟨.inl rfl, fun i hi => absurd hi (Nat.not_lt_zero i), fun i hi => absurd hi (Nat.not_lt_zero i)⟩ (resS_num w9 15 0 0 0))
  go_wp2_with fail
  clear r1 r2 r3 a0 a1 a2 a3 a4 a5 f0 f1 f2 f3 f4 f5 fl
  refine HF1.out.ret rfl rfl rfl rfl ?_
  exact RRP.out ▸ ⟨_, _, rfl, TreV.of HF1.out.nds rfl (Nat.le_refl _) (fun _ => ⟨rfl, rfl⟩), ⟨_, _, _, _, _, _, _, rfl, HF1.out.res⟩, HF1.out.bel⟩
 | true =>
  have ht : Rgt (ndL f n) := rightB_iff.1 hr
  have hnr := hN.next HI.out.bel
  have hen : ∀ i, i < n → (f i).dn ≤ 1000000 ∧ (f i).en ≤ 100000 := snd_few hN ht.snd
  have hc := rdo_any (c := c) hnr ht hen hp hq (HZP.out.next HI.out.bel) hdn (i := i) (m := m) o
  obtain ⟨OA, hOA⟩ : ∃ OA, OA = oAny (ndL f n) o (nms p) (nms q) i m zs := ⟨_, rfl⟩
  have RRP : Hid (RR = (num OA.1, OA.2)) := qH (HRR.out.trans (by rw [dO, hr, hOA]; rfl))
  have HSN : Hid (Snd OA.1) := qH (by rw [hOA]; exact (any_keep ht o (nms_ok p) (nms_ok q) i m zs).1)
  rw [← hOA] at hc
  clear hr ht hnr hen hOA
  go_wp2_with fail
  refine hc.mono ?_
  rintro e w8 ⟨a9, c9, n9, g9, ea, en, ec, ma, mn, mc, Ls, rfl, hN9, hL9, hS9, hb8⟩
  have HI8 := qH (HI.out.next hb8)
  obtain ⟨wb, hwb⟩ : ∃ wb, wb = w8.alloc (.cells #[.slice a9 n9 c9] 26 (0, 0)) := ⟨_, rfl⟩
  obtain ⟨wS, hwS⟩ : ∃ wS, wS = wb.alloc (.cells (resA OA.2 ea en ec ma mn mc) 37 (0, 0)) := ⟨_, rfl⟩
  obtain ⟨y, hy⟩ : ∃ y, y = w8.heap.size := ⟨_, rfl⟩
  have sb : wb.heap.size = y + 1 := by rw [hwb, hy]; simp
  have bb : Below w8.heap.size w8 wb := by rw [hwb]; exact (Below.refl _ _).alloc (Nat.le_refl _) _
  have bS0 : Below wb.heap.size wb wS := by rw [hwS]; exact (Below.refl _ _).alloc (Nat.le_refl _) _
  have bS : Below w8.heap.size w8 wS := bb.trans (bS0.mono bb.size)
  have tT : TrB wS y (.slice a9 n9 c9) := by
   have : TrB wb y (.slice a9 n9 c9) := by rw [hwb, hy]; exact heap_alloc_new w8 _
   exact (bS0.block _ (lt_of_block this)).trans this
  have tR : RsB wS (y + 1) (resA OA.2 ea en ec ma mn mc) := by rw [hwS, ← sb]; exact heap_alloc_new wb _
  have HIS := qH (HI8.out.next bS)
  have HTT := qH (And.intro tT tR)
  have HNS := qH (hN9.next bS)
  have HSS := qH (hS9.next bS)
  have HLL := qH hL9
  have HXY : Hid (x + 3 < y) := qH (by rw [hy]; exact lt_of_block HI8.out.ans)
  have hw : wS = (w8.alloc (.cells #[.slice a9 n9 c9] 26 (0, 0))).alloc (.cells #[.int .i64 OA.2.err, .slice ea en ec, .slice ma mn mc, .int .i64 OA.2.k, .int .i64 OA.2.l, .int .i64 OA.2.sz] 37 (0, 0)) := by rw [hwS, hwb]; rfl
  have HWS := qH hw
  have HYY := qH hy
  clear hc hb8 hN9 hL9 hS9 hwb hwS hy sb bb bS0 bS tT tR l1 l2 l3 b1 b2 b3 b4 b5 b6 hw
  go_wp2_with fail
  rw [← HYY.out, ← HWS.out]
  refine wp_region_held_drew (S := (fun w' => TrB w' y (.slice a9 n9 c9) ∧ RsB w' (y + 1) (resA OA.2 ea en ec ma mn mc))) (by kernel_rfl) ?_ (fun hHeld => ?_)
  ·exact HTT.out
  have hbd : Below wS.heap.size wS wS.drew := below_drewN (Below.refl _ _) 1
  have HID := qH (HIS.out.next hbd)
  have HSD := qH (HSS.out.next hbd)
  have hnu := number_any (c := c9) (HNS.out.next hbd) (by rw [HLL.out]; exact HSN.out) (snd_few HNS.out (by rw [HLL.out]; exact HSN.out))
  rw [HLL.out] at hnu
  clear hbd
  refine rgZ 0 ?_ rfl (.inl ⟨by rfl, fun w hSw => ?_⟩) ?_ (by kernel_rfl) (fun _ _ _ h => h) (by assumption)
  rotate_left
  ·have hl := TrB.load hSw.1
   have hcl := TrB.cell hSw.1; go_simp
   try with_reducible rfl
  simp only [Act.put, rg]
  refine rgZ 2 ?_ rfl (.inl ⟨by rfl, fun w hSw => ?_⟩) ?_ (by kernel_rfl) (fun _ _ _ h => h) (by assumption)
  rotate_left
  ·have hl := RsB.load hSw.2
   have hcl := RsB.cells hSw.2; go_simp
   try with_reducible rfl
  simp only [Act.put, rg]
  refine rgC 1 rfl (by kernel_rfl) (fun K hK => ?_)
  simp only [rg4, rg5, rg6]
  go_simp
  refine hnu.mono ?_
  rintro e w10 ⟨v10, n10, g10, rfl, hO10, hL10, hge10, hb10⟩
  have HI10 := qH (HID.out.next hb10)
  have HS10 := qH (HSD.out.next hb10)
  have HT10 : Hid (TrB w10 y (.slice a9 n9 c9) ∧ RsB w10 (y + 1) (resA OA.2 ea en ec ma mn mc)) := qH ⟨(hb10.block _ (lt_of_block hHeld.1)).trans hHeld.1, (hb10.block _ (lt_of_block hHeld.2)).trans hHeld.2⟩
  obtain ⟨a10, c10, rfl⟩ : ∃ a c, v10 = .slice a n10 c := by
   rcases hO10.form with ⟨h1, h2⟩ | ⟨gb, cg, h1⟩
   ·exact ⟨none, 0, by rw [h1, h2]⟩
   ·exact ⟨_, _, h1⟩
  have HCP := qH hO10.cap
  have HN10 := qH hO10.nds
  have HL10 := qH hL10
  clear hnu hO10 hL10 hge10 hb10 hHeld
  go_wp2_with fail
  refine hK.out _ _ HT10.out (fun _ => ?_)
  clear hK K
  obtain ⟨r1, r2, r3, ⟨a0, a1, a2, a3, a4, a5⟩, f0, f1, f2, f3, f4, f5, fl⟩ := HI10.out.all
  have HF1 := qH (HI10.out.fin (cc := c10) HN10.out HS10.out)
  have hxy := HXY.out
  unfold resA
  refine rgC 3 rfl (by kernel_rfl) (fun K hK => ?_)
  simp only [rg4, rg5, rg6]
  go_simp
  go_wp2_with fail
  refine hK.out _ _ ⟨TrB.off HT10.out.1 (by omega), ((turn_set _ _ _ _).block _ (lt_of_block HT10.out.2) (by omega)).trans HT10.out.2⟩ (fun _ => ?_)
  clear hK K
  refine rgC 4 rfl (by kernel_rfl) (fun K hK => ?_)
  simp only [rg4, rg5, rg6]
  go_simp
  go_wp2_with fail
  refine hK.out _ _ ⟨TrB.off6 (TrB.off HT10.out.1 (by omega)) (by omega), ?_⟩ (fun _ => ?_)
  ·have h1 : RsB (w10.setCell ⟨x + 2, 0, none⟩ (.slice a10 n10 c10)) (y + 1) (resA OA.2 ea en ec ma mn mc) := ((turn_set _ _ _ _).block _ (lt_of_block HT10.out.2) (by omega)).trans HT10.out.2
   exact ((turn_set6 _ _ _ _ _ _ _ _).block _ (lt_of_block h1) (by omega)).trans h1
  clear hK K
  refine wpAnyH_done (by kernel_rfl) ?_ _
  go_wp2_with fail
  clear r1 r2 r3 a0 a1 a2 a3 a4 a5 f0 f1 f2 f3 f4 f5 fl
  refine HF1.out.ret rfl rfl rfl rfl ?_
  exact RRP.out ▸ ⟨_, _, rfl, TreV.of HF1.out.nds HL10.out HCP.out.2.1 HCP.out.2.2, ⟨_, _, _, _, _, _, _, rfl, HF1.out.res⟩, HF1.out.bel⟩
theorem rFind_any (hN : Nds w na n f) (hfew : ∀ i, i < n → (f i).dn ≤ 1000000 ∧ (f i).en ≤ 1000000) (hp : p.size ≤ 1000000) :
  Calls Tryz.prog 26 #[.agg #[.slice na n c], .string p] w fun e w' => e = .returned (.tuple #[.int .i64 (fiO (ndL f n) (nms p)).1, .int .i64 (fiO (ndL f n) (nms p)).2]) ∧ Below w.heap.size w w' := by
 obtain ⟨RR, hRR⟩ : ∃ RR, RR = fiO (ndL f n) (nms p) := ⟨_, rfl⟩
 rw [← hRR]
 have HRR := qH hRR
 obtain ⟨x, hx⟩ : ∃ x, x = w.heap.size := ⟨_, rfl⟩
 obtain ⟨w1, hw1⟩ : ∃ w1, w1 = w.alloc (.cells #[.slice na n c] 26 (0, 0)) := ⟨_, rfl⟩
 have hb1 : Below w.heap.size w w1 := by rw [hw1]; exact (Below.refl _ _).alloc (Nat.le_refl _) _
 have t1 : TrB w1 x (.slice na n c) := by rw [hw1, hx]; exact heap_alloc_new w _
 have HB1 := qH hb1
 have HT1 := qH t1
 have HX := qH hx
 have HFW := qH hfew
 clear hRR hb1 t1 hx hfew
 have l1 := HT1.out.load
 have hc := rright_any (c := c) (hN.next HB1.out) HFW.out
 go_enter Tryz.func26, Tryz.ntmps26
 go_wp2_with fail
 rw [← hw1, ← HX.out]
 clear hw1
 refine hc.mono ?_
 rintro e w7 ⟨rfl, hb7⟩
 have HB7 := qH (HB1.out.trans (hb7.mono HB1.out.size))
 have HT7 : Hid (TrB w7 x (.slice na n c)) := qH ((hb7.block _ (lt_of_block HT1.out)).trans HT1.out)
 clear hc hb7 l1
 have l1 := HT7.out.load
 have l2 := HT7.out.cell
 cases hr : rightB (ndL f n) with
 | false =>
  have RRP : Hid (RR = (0, 15)) := qH (HRR.out.trans (by rw [fiO, hr]; rfl))
  clear hr
  go_wp2_with fail
  go_ret2
  exact ⟨by rw [RRP.out]; rfl, HB7.out⟩
 | true =>
  have ht : Rgt (ndL f n) := rightB_iff.1 hr
  have hc := rfindP_any (c := c) (hN.next HB7.out) ht (fun i hi => by have := (HFW.out i hi).2; omega) p hp
  have RRP : Hid (RR = wlkP (findO (ndL f n) (nms p))) := qH (HRR.out.trans (by rw [fiO, hr]; rfl))
  rw [← RRP.out] at hc
  clear hr ht
  go_wp2_with fail
  refine hc.mono ?_
  rintro e w8 ⟨rfl, hb8⟩
  have HB8 := qH (HB7.out.trans (hb8.mono HB7.out.size))
  clear hc hb8 l1 l2
  go_wp2_with fail
  go_ret2
  exact ⟨rfl, HB8.out⟩
end
theorem rNew_any (w : World) : Calls Tryz.prog 15 #[] w fun e w' => (∃ v, e = .returned v ∧ TreV w' newL v) ∧ Below w.heap.size w w' := by
 go_enter Tryz.func15, Tryz.ntmps15
 go_wp2_with fail
 obtain ⟨w1, hw1⟩ : ∃ w1, w1 = (w.alloc (.cells #[.slice (some ⟨w.heap.size + 1, 0, none⟩) 1 1] 26 (0, 0))).alloc (.cells #[.int .i64 2, .int .i64 2, .slice none 0 0, .slice none 0 0] 54 (0, 0)) := ⟨_, rfl⟩
 have hb1 : Below w.heap.size w w1 := by rw [hw1]; exact ((Below.refl _ _).alloc (Nat.le_refl _) _).alloc (by simp) _
 have hr1 : TrB w1 w.heap.size (.slice (some ⟨w.heap.size + 1, 0, none⟩) 1 1) := by
  rw [hw1]
  have := heap_alloc_new w (.cells #[.slice (some ⟨w.heap.size + 1, 0, none⟩) 1 1] 26 (0, 0))
  exact (Below.heap_alloc _ _ _ (by simp)).trans this
 have hn1 : NdB1 w1 (w.heap.size + 1) #[.int .i64 2, .int .i64 2, .slice none 0 0, .slice none 0 0] := by
  rw [hw1]
  have := heap_alloc_new (w.alloc (.cells #[.slice (some ⟨w.heap.size + 1, 0, none⟩) 1 1] 26 (0, 0))) (.cells #[.int .i64 2, .int .i64 2, .slice none 0 0, .slice none 0 0] 54 (0, 0))
  have e : (w.alloc (.cells #[.slice (some ⟨w.heap.size + 1, 0, none⟩) 1 1] 26 (0, 0))).heap.size = w.heap.size + 1 := by simp
  rw [e] at this
  exact this
 rw [← hw1]
 refine bodyPost_ret (res_cell rfl _ _ ⟨w.heap.size, 0, none⟩ _ rfl hr1.load) rfl ?_
 refine ⟨⟨_, rfl, some ⟨w.heap.size + 1, 0, none⟩, 1, fun _ => ⟨2, 2, none, 0, 0, [], none, 0, 0, []⟩, rfl, ⟨.inr ⟨_, 0, rfl, lt_of_block hn1, fun i hi => ?_⟩, fun i _ => Pin.zero _, fun i _ => Enz.zero _⟩, rfl, (fun h => by cases h), Nat.le_refl _⟩, hb1⟩
 obtain rfl : i = 0 := Nat.lt_one_iff.1 hi
 exact hn1.cells
theorem copyOp_any (w : World) (o i m : Int) (p q : ByteArray) (da : Option Addr) (dn dc : Nat) (zs : List Int) (hz : Pin w da dn dc zs) (hdn : dn ≤ 1000000) :
  Calls Tryz.prog 17 #[.agg #[.int .i64 o, .string p, .string q, .int .i64 i, .int .i64 m, .slice da dn dc]] w fun e w' =>
   ∃ ea ec, e = .returned (.agg #[.int .i64 o, .string p, .string q, .int .i64 i, .int .i64 m, .slice ea dn ec]) ∧ Pin w' ea dn ec zs ∧ Below w.heap.size w w' := by
 obtain ⟨x, hx⟩ : ∃ x, x = w.heap.size := ⟨_, rfl⟩
 obtain ⟨wa, ha⟩ : ∃ wa, wa = w.alloc (.cells #[.int .i64 o, .string p, .string q, .int .i64 i, .int .i64 m, .slice da dn dc] 31 (0, 0)) := ⟨_, rfl⟩
 obtain ⟨w1, hw1⟩ : ∃ w1, w1 = wa.alloc (.cells #[.int .i64 0, .string ⟨#[]⟩, .string ⟨#[]⟩, .int .i64 0, .int .i64 0, .slice none 0 0] 31 (0, 0)) := ⟨_, rfl⟩
 have sa : wa.heap.size = x + 1 := by rw [ha, hx]; simp
 have ba : Below w.heap.size w wa := by rw [ha]; exact (Below.refl _ _).alloc (Nat.le_refl _) _
 have b1 : Below wa.heap.size wa w1 := by rw [hw1]; exact (Below.refl _ _).alloc (Nat.le_refl _) _
 have hb1 : Below w.heap.size w w1 := ba.trans (b1.mono ba.size)
 have t1 : OpC w1 x o i m p q da dn dc := by
  have : OpC wa x o i m p q da dn dc := by rw [ha, hx]; exact heap_alloc_new w _
  exact (b1.block _ (lt_of_block this)).trans this
 have t2 : OpC w1 (x + 1) 0 0 0 ⟨#[]⟩ ⟨#[]⟩ none 0 0 := by rw [hw1, ← sa]; exact heap_alloc_new wa _
 have hc := copyB_any da dn dc zs w1 (hz.next hb1) (by omega)
 rw [ha] at hw1
 have HW1 := qH hw1
 have HX := qH hx
 have HB1 := qH hb1
 have HT := qH (And.intro t1 t2)
 clear ha sa ba b1 hb1 hx hw1
 obtain ⟨g1, g2, g3, g4, g5, g6⟩ := t1.cells
 clear t1 t2
 go_enter Tryz.func17, Tryz.ntmps17
 go_wp2_with fail
 rw [← HX.out, ← HW1.out]
 refine hc.mono ?_
 rintro e w2 ⟨v2, rfl, hO2, hb2⟩
 have hzl := hz.len
 obtain ⟨ea, ec, rfl, hP2, hlo⟩ := hO2.pin
 rw [hzl] at hP2 ⊢
 have HP2 := qH hP2
 have HB2 := qH (HB1.out.trans (hb2.mono HB1.out.size))
 have HT2 : Hid (OpC w2 x o i m p q da dn dc ∧ OpC w2 (x + 1) 0 0 0 ⟨#[]⟩ ⟨#[]⟩ none 0 0) := qH ⟨(hb2.block _ (lt_of_block HT.out.1)).trans HT.out.1, (hb2.block _ (lt_of_block HT.out.2)).trans HT.out.2⟩
 have HLO : Hid (∀ y, ea = some y → x + 1 < y.block) := qH (fun y hy => by
  have h1 := (hlo y hy).1
  have h2 := lt_of_block HT.out.2
  omega)
 obtain ⟨w3, hw3⟩ : ∃ w3, w3 = w2.setCell ⟨x, 5, none⟩ (.slice ea dn ec) := ⟨_, rfl⟩
 have hT3 : Turn (· = x) w2 w3 := by rw [hw3]; exact turn_set w2 x 5 _
 have t1 : OpC w3 x o i m p q ea dn ec := by rw [hw3]; exact cells_set HT2.out.1
 have t2 : OpC w3 (x + 1) 0 0 0 ⟨#[]⟩ ⟨#[]⟩ none 0 0 := (hT3.block _ (lt_of_block HT2.out.2) (by omega)).trans HT2.out.2
 have HT3 := qH (And.intro t1 t2)
 have HP3 := qH (hP2.turn hT3 (fun h0 b off e k => by have h9 := HLO.out _ e; simp only at h9; omega))
 have HB3 := qH (HB2.out.trans (hT3.below HB2.out.size fun k e => by rw [e, HX.out]; exact Nat.le_refl _))
 have HW3 := qH hw3
 clear hc hO2 hP2 hlo hb2 hw3 hT3 t1 t2 g1 g2 g3 g4 g5 g6
 obtain ⟨g1, g2, g3, g4, g5, g6⟩ := HT2.out.1.cells
 have gf : w2.frozen? ⟨x, 5, none⟩ = false := frozen_of_row w2 _ _ _ _ HT2.out.1
 have gl := lt_of_block HT2.out.1
 go_upto_region 2 with fail
 rw [← HW3.out]
 clear g1 g2 g3 g4 g5 g6 gf gl
 obtain ⟨l1, l2, l3, l4, l5, l6⟩ := HT3.out.1.cells
 obtain ⟨g1, g2, g3, g4, g5, g6⟩ := HT3.out.2.cells
 have fr : ∀ j, w3.frozen? ⟨x + 1, j, none⟩ = false := fun j => frozen_of_row w3 _ _ _ _ HT3.out.2
 have f0 := fr 0
 have f1 := fr 1
 have f2 := fr 2
 have f3 := fr 3
 have f4 := fr 4
 have f5 := fr 5
 have fl := lt_of_block HT3.out.2
 have hT6 := turn_set6 w3 (x + 1) (.int .i64 o) (.string p) (.string q) (.int .i64 i) (.int .i64 m) (.slice ea dn ec)
 have tE : OpC ((((((w3.setCell ⟨x + 1, 0, none⟩ (.int .i64 o)).setCell ⟨x + 1, 1, none⟩ (.string p)).setCell ⟨x + 1, 2, none⟩ (.string q)).setCell ⟨x + 1, 3, none⟩ (.int .i64 i)).setCell ⟨x + 1, 4, none⟩ (.int .i64 m)).setCell ⟨x + 1, 5, none⟩ (.slice ea dn ec)) (x + 1) o i m p q ea dn ec :=
  cells_set (cells_set (cells_set (cells_set (cells_set (cells_set HT3.out.2)))))
 have HTE := qH tE
 have HPE := qH (HP3.out.turn hT6 (fun h0 b off e k => by have h9 := HLO.out _ e; simp only at h9; omega))
 have HBE := qH (HB3.out.trans (hT6.below HB3.out.size fun k e => by rw [e, HX.out]; exact Nat.le_succ _))
 clear fr hT6 tE
 go_wp2_with fail
 clear f0 f1 f2 f3 f4 f5 fl g1 g2 g3 g4 g5 g6 l1 l2 l3 l4 l5 l6
 refine bodyPost_ret (res_c1 rfl _ _ ⟨x + 1, 0, none⟩ _ rfl (OpC.load HTE.out)) rfl ?_
 exact ⟨_, _, rfl, HPE.out, HBE.out⟩
end Go.Proofs.YtinholnidchblaaGreatDoor
