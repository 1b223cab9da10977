import Derived.Test.YtinholnidchblaaGreatDoorWz
import Derived.Deep.DeepCutAuto
set_option linter.unusedVariables false
set_option linter.unusedSimpArgs false
set_option maxRecDepth 100000
set_option maxHeartbeats 16000000
namespace Go.Proofs.YtinholnidchblaaGreatDoor
open Go.RowKit
section
variable {w w' : World}
theorem TvB.nx {x : Nat} {L : List Nd} {a : Option Addr} {c : Nat} (h : TvB w x L a c) (hb : Below w.heap.size w w') : TvB w' x L a c := h.next hb
theorem RvB.nx {x : Nat} {r : Rv} {da : Option Addr} {dn dc : Nat} {na : Option Addr} {nn nc : Nat} {Ls : List (List UInt8)} (h : RvB w x r da dn dc na nn nc Ls) (hb : Below w.heap.size w w') : RvB w' x r da dn dc na nn nc Ls := h.next hb
theorem Tv.nx {L : List Nd} {a : Option Addr} {c : Nat} (h : Tv w L a c) (hb : Below w.heap.size w w') : Tv w' L a c := h.next hb
theorem OcW.nx {x : Oc} (h : OcW w x) (hb : Below w.heap.size w w') : OcW w' x := h.next hb
theorem Pin.nx {a : Option Addr} {n c : Nat} {zs : List Int} (h : Pin w a n c zs) (hb : Below w.heap.size w w') : Pin w' a n c zs := h.next hb
theorem copyT {L : List Nd} {a : Option Addr} {c : Nat} (h : Tv w L a c) : Calls Tryz.prog 18 #[.agg #[.slice a L.length c]] w fun e w' => ∃ a' c', e = .returned (.agg #[.slice a' L.length c']) ∧ Tv w' L a' c' ∧ Below w.heap.size w w' := by
 obtain ⟨f, hn, hL, hf, _⟩ := h.nds
 have hr := h.rgt.few
 have := copyTree_any (c := c) hn (by omega) hf.2
 rw [hL] at this
 refine this.mono ?_
 rintro e w' ⟨v, k, g, rfl, hO, hg, _, hb⟩
 obtain ⟨a', c', rfl⟩ := OwN.slice hO
 have hk : k = L.length := by rw [← hg, ndL_len]
 subst hk
 exact ⟨a', c', rfl, ⟨TreV.of hO.nds hg hO.cap.2.1 hO.cap.2.2, h.rgt⟩, hb⟩
theorem rNewT (w : World) : Calls Tryz.prog 15 #[] w fun e w' => ∃ a c, e = .returned (.agg #[.slice a newL.length c]) ∧ Tv w' newL a c ∧ Below w.heap.size w w' := by
 refine (rNew_any w).mono ?_
 rintro e w' ⟨⟨v, rfl, hT⟩, hb⟩
 have h1 := hT
 obtain ⟨a', c', f', rfl, _⟩ := h1
 exact ⟨a', c', rfl, ⟨hT, new_right⟩, hb⟩
theorem rDoT {L : List Nd} {a : Option Addr} {c : Nat} (h : Tv w L a c) (o i m : Int) (p s : ByteArray) (da : Option Addr) (dn dc : Nat) (zs : List Int) (hp : p.size ≤ 1000000) (hq : s.size ≤ 1000000) (hd : dn ≤ 1000000) (hz : Pin w da dn dc zs) :
  Calls Tryz.prog 20 #[.agg #[.slice a L.length c], .agg #[.int .i64 o, .string p, .string s, .int .i64 i, .int .i64 m, .slice da dn dc]] w (DoV w (doO L o (nms p) (nms s) i m zs)) := by
 obtain ⟨f, hn, hL, hf, _⟩ := h.nds
 have := rDo_any (c := c) hn hf.2 hp hq hz hd o i m
 rw [hL, dO, rightB_iff.2 h.rgt] at this
 refine this.mono ?_
 rintro e w' ⟨v1, v2, rfl, h1, ⟨da2, dn2, dc2, na2, nn2, nc2, Ls, rfl, hS⟩, hb⟩
 have h1' := h1
 obtain ⟨a', c', f', rfl, _⟩ := h1'
 exact ⟨a', c', da2, dn2, dc2, na2, nn2, nc2, Ls, rfl, ⟨h1, do_right h.rgt o (nms_ok p) (nms_ok s) i m zs⟩, hS, hb⟩
end
theorem st15 {wS w : World} {xA : Nat} {v : Value} (hb : Below wS.heap.size wS w) (hx : wS.heap.size ≤ xA) : Below wS.heap.size wS (w.setCell ⟨xA, 0, none⟩ v) :=
 hb.trans ((turn_set w xA 0 v).below hb.size fun k e => by omega)
theorem fin15 {wS w : World} {xA yA : Nat} {L : List Nd} {a : Option Addr} {c : Nat} {r : Rv} {da : Option Addr} {dn dc : Nat} {na : Option Addr} {nn nc : Nat} {Ls : List (List UInt8)} (hb : Below wS.heap.size wS w) (ht : TrB w xA (.slice none 0 0)) (hr : RsB w yA ResZ) (hx : wS.heap.size ≤ xA) (hy : wS.heap.size ≤ yA) (hT : Tv w L a c) (hS : ResS w r da dn dc na nn nc Ls) :
  Below wS.heap.size wS (six (w.setCell ⟨xA, 0, none⟩ (.slice a L.length c)) yA (.int .i64 r.err) (.slice da dn dc) (.slice na nn nc) (.int .i64 r.k) (.int .i64 r.l) (.int .i64 r.sz)) ∧
   TvB (six (w.setCell ⟨xA, 0, none⟩ (.slice a L.length c)) yA (.int .i64 r.err) (.slice da dn dc) (.slice na nn nc) (.int .i64 r.k) (.int .i64 r.l) (.int .i64 r.sz)) xA L a c ∧
   RvB (six (w.setCell ⟨xA, 0, none⟩ (.slice a L.length c)) yA (.int .i64 r.err) (.slice da dn dc) (.slice na nn nc) (.int .i64 r.k) (.int .i64 r.l) (.int .i64 r.sz)) yA r da dn dc na nn nc Ls := by
 have hT1 : Turn (· = xA) w (w.setCell ⟨xA, 0, none⟩ (.slice a L.length c)) := turn_set w xA 0 _
 have hne : xA ≠ yA := ne_ty ht hr (by decide)
 have t1 : TrB (w.setCell ⟨xA, 0, none⟩ (.slice a L.length c)) xA (.slice a L.length c) := TrB.set ht _
 have r1 : RsB (w.setCell ⟨xA, 0, none⟩ (.slice a L.length c)) yA ResZ := (hT1.block _ (lt_of_block hr) (fun e => hne e.symm)).trans hr
 have hT2 := turn_set6 (w.setCell ⟨xA, 0, none⟩ (.slice a L.length c)) yA (.int .i64 r.err) (.slice da dn dc) (.slice na nn nc) (.int .i64 r.k) (.int .i64 r.l) (.int .i64 r.sz)
 have hb1 := hb.trans (hT1.below hb.size fun k e => by omega)
 exact ⟨hb1.trans (hT2.below hb1.size fun k e => by omega), ⟨(hT2.block _ (lt_of_block t1) hne).trans t1, ⟨hT.tre.turn ht hT1 r1 hT2, hT.rgt⟩⟩, ⟨RsB.set r1 _ _ _ _ _ _, (hS.turnK ht.odd hT1).turnK r1.oddZ hT2⟩⟩
section
variable {w : World} {a : Option Addr} {n c : Nat} {f : Nat → Oc}
theorem treeSteps_any (h : Ops w a n f) : Calls Tryz.prog 3 #[.slice a n c] w fun e w' => e = .returned (.bool true) ∧ Below w.heap.size w w' := by
 have HB : Hid (Below w.heap.size w w) := qH (Below.refl _ _)
 have H := qH h
 clear h
 have hc := alive_any w
 go_enter Tryz.func3, Tryz.ntmps3
 go_wp2_with fail
 refine hc.mono ?_
 rintro e w1 ⟨rfl, hb⟩
 replace HB := qH (HB.out.trans (hb.mono HB.out.size))
 clear hc hb
 by_cases h150 : 150 < n
 ·have k1 : (150 : Int) < (n : Int) := by omega
  go_wp2_with fail
  go_ret
  exact ⟨rfl, HB.out⟩
 have k1 : ¬ (150 : Int) < (n : Int) := by omega
 clear h150
 have hc := newT w1
 go_wp2_with fail
 refine hc.mono ?_
 rintro e w2 ⟨a3, c3, rfl, hT3, hb⟩
 replace HB := qH (HB.out.trans (hb.mono HB.out.size))
 obtain ⟨w3, x3, hw, hxx, hV3, hb'⟩ := new_tr hT3
 have HX3B := qH (show w.heap.size ≤ x3 by rw [hxx]; exact HB.out.size)
 replace HB := qH (HB.out.trans (hb'.mono HB.out.size))
 have HV3 := qH hV3
 have HW3 := qH hw
 have HX3 := qH hxx
 clear hc hb hb' hT3 hV3 hw hxx k1
 have hc := rNewT w3
 go_wp2_with fail
 rw [← HX3.out, ← HW3.out]
 refine hc.mono ?_
 rintro e w4 ⟨a4, c4, rfl, hT4, hb⟩
 replace HB := qH (HB.out.trans (hb.mono HB.out.size))
 replace HV3 := qH (HV3.out.nx hb)
 obtain ⟨w5, x4, hw, hxx, hV4, hb'⟩ := new_tr hT4
 have HX4B := qH (And.intro (show w.heap.size ≤ x4 by rw [hxx]; exact HB.out.size) (show x3 ≠ x4 by have := lt_of_block HV3.out.var; omega))
 replace HB := qH (HB.out.trans (hb'.mono HB.out.size))
 replace HV3 := qH (HV3.out.nx hb')
 have HV4 := qH hV4
 have HW5 := qH hw
 have HX4 := qH hxx
 clear hc hb hb' hT4 hV4 hw hxx
 go_wp2_with fail
 rw [← HX4.out, ← HW5.out]
 go_loopw [5, 6, 7, 8, 9, 10, 11] (fun v5 _ _ _ _ _ _ wr => ∃ (k : Nat) (L : List Nd) (a3 : Option Addr) (c3 : Nat) (a4 : Option Addr) (c4 : Nat), k ≤ n ∧ v5 = .int .i64 k ∧ Below w.heap.size w wr ∧ TvB wr x3 L a3 c3 ∧ TvB wr x4 L a4 c4) (fun v5 _ _ _ _ _ _ _ => n - (RowKit.intOf v5).toNat)
 case atStart => exact ⟨0, _, _, _, _, _, Nat.zero_le _, rfl, HB.out, HV3.out, HV4.out⟩
 case round =>
  clear HB HV3 HV4
  obtain ⟨k, L, a3, c3, a4, c4, hk, rfl, hB, hV3, hV4⟩ := hrel
  have HB := qH hB
  have HV3 := qH hV3
  have HV4 := qH hV4
  clear hV3 hV4
  by_cases hlt : k < n
  ·have j0 : (0 : Int) ≤ (k : Int) := by omega
   have j1 : (k : Int) < (n : Int) := by omega
   have HLT := qH hlt; have hO := H.out.next hB; obtain ⟨b, off, rfl, hbl, d0, d1, d2, d3, d4, d5⟩ := hO.at hlt
   have HBL : Hid (b < w.heap.size) := qH (by
    obtain ⟨b3, off3, he3, hbl3, _⟩ := H.out.at hlt
    cases he3
    exact hbl3)
   have HOC := qH (hO.each k hlt); have hc := longO HOC.out; clear hO hbl hB hlt; go_wp2_with fail; refine hc.mono ?_; rintro e w1 ⟨lb, rfl, hlb, hb⟩; replace HB := qH (HB.out.trans (hb.mono HB.out.size)); replace HV3 := qH (HV3.out.nx hb); replace HV4 := qH (HV4.out.nx hb); replace HOC := qH (HOC.out.nx hb); clear hc hb d0 d1 d2 d3 d4 d5
   cases lb with
   | true =>
    go_wp2_with fail; go_ret
    exact ⟨rfl, HB.out⟩
   | false =>
    have HSZ := qH (hlb rfl); clear hlb; obtain ⟨_, _, he9, _, d0, d1, d2, d3, d4, d5⟩ := (H.out.next HB.out).at HLT.out
    cases he9
    have hc := copyOp_any w1 (f k).o (f k).i (f k).m (f k).p (f k).q (f k).da (f k).dn (f k).dc (f k).z HOC.out.pin (by have := HSZ.out; omega); go_wp2_with fail; refine hc.mono ?_; rintro e w2 ⟨ea, ec, rfl, hPe, hb⟩; replace HB := qH (HB.out.trans (hb.mono HB.out.size)); replace HV3 := qH (HV3.out.nx hb); replace HV4 := qH (HV4.out.nx hb); replace HOC := qH (HOC.out.nx hb); obtain ⟨w3, x6, hw, hxx, hQ6, hb'⟩ := new_opc w2 (f k).o (f k).i (f k).m (f k).p (f k).q ea (f k).dn ec; have v3 := HV3.out.var.cell; have vl3 := lt_of_block HV3.out.var; have HPE := qH (hPe.next hb'); replace HB := qH (HB.out.trans (hb'.mono HB.out.size)); replace HV3 := qH (HV3.out.nx hb'); replace HV4 := qH (HV4.out.nx hb'); replace HOC := qH (HOC.out.nx hb'); have HQ6 := qH hQ6; have HW3 := qH hw; have HX6 := qH hxx; clear hc hb hb' hPe hw hxx hQ6 d0 d1 d2 d3 d4 d5; have hc := copyT HV3.out.tv; go_wp2_with fail; rw [← HX6.out, ← HW3.out]; refine hc.mono ?_; rintro e w4 ⟨a7, c7, rfl, hT7, hb⟩; replace HB := qH (HB.out.trans (hb.mono HB.out.size)); replace HV3 := qH (HV3.out.nx hb); replace HV4 := qH (HV4.out.nx hb); replace HOC := qH (HOC.out.nx hb); replace HPE := qH (HPE.out.nx hb); replace HQ6 := qH (HQ6.out.nx hb); obtain ⟨w5, x7, hw, hxx, hV7, hb'⟩ := new_tr hT7; clear v3 vl3; have v3 := HV3.out.var.cell; have vl3 := lt_of_block HV3.out.var; obtain ⟨g1, g2, g3, g4, g5, g6⟩ := HQ6.out.cells; have gl := lt_of_block HQ6.out; have gd := HQ6.out.load; replace HB := qH (HB.out.trans (hb'.mono HB.out.size)); replace HV3 := qH (HV3.out.nx hb'); replace HV4 := qH (HV4.out.nx hb'); replace HOC := qH (HOC.out.nx hb'); replace HPE := qH (HPE.out.nx hb'); replace HQ6 := qH (HQ6.out.nx hb'); have HV7 := qH hV7; have HW5 := qH hw; have HX7 := qH hxx; clear hc hb hb' hT7 hV7 hw hxx; have hc := doT HV3.out.tv (f k).o (f k).i (f k).m (f k).p (f k).q ea (f k).dn ec (f k).z (by have := HSZ.out; omega) (by have := HSZ.out; omega) HOC.out.i HOC.out.m HPE.out
    obtain ⟨D1, hD⟩ : ∃ D, D = doO L (f k).o (nms (f k).p) (nms (f k).q) (f k).i (f k).m (f k).z := ⟨_, rfl⟩
    rw [← hD] at hc; have HD1 := qH hD; clear hD; go_wp2_with fail; rw [← HX7.out, ← HW5.out]; refine hc.mono ?_; rintro e w6 ⟨a8, c8, da1, dn1, dc1, na1, nn1, nc1, Ls1, rfl, hT8, hS1, hb⟩; replace HB := qH (HB.out.trans (hb.mono HB.out.size)); replace HV3 := qH (HV3.out.nx hb); replace HV4 := qH (HV4.out.nx hb); replace HOC := qH (HOC.out.nx hb); replace HPE := qH (HPE.out.nx hb); replace HQ6 := qH (HQ6.out.nx hb); replace HV7 := qH (HV7.out.nx hb); obtain ⟨w7, x8, y9, hw, hxx, hyy, hV8, hR9, hb'⟩ := new_tr_rs hT8 hS1; replace HB := qH (HB.out.trans (hb'.mono HB.out.size)); replace HV3 := qH (HV3.out.nx hb'); replace HV4 := qH (HV4.out.nx hb'); replace HOC := qH (HOC.out.nx hb'); replace HPE := qH (HPE.out.nx hb'); replace HQ6 := qH (HQ6.out.nx hb'); replace HV7 := qH (HV7.out.nx hb'); have HV8 := qH hV8; have HR9 := qH hR9; have HW7 := qH hw; have HX8 := qH hxx; have HY9 := qH hyy; clear hc hb hb' hT8 hS1 hV8 hR9 hw hxx hyy v3 vl3 g1 g2 g3 g4 g5 g6 gl gd; unfold resW; go_wp2_with fail; rw [← HY9.out, ← HX8.out, ← HW7.out]
    go_cut [10, 11] (fun s10 s11 wx => ∃ (xA yA : Nat) (aA : Option Addr) (cA : Nat) (daA : Option Addr) (dnA dcA : Nat) (naA : Option Addr) (nnA ncA : Nat) (LsA : List (List UInt8)), s10 = .pointer (some ⟨xA, 0, none⟩) ∧ s11 = .pointer (some ⟨yA, 0, none⟩) ∧ Below w7.heap.size w7 wx ∧ TvB wx xA D1.1 aA cA ∧ RvB wx yA D1.2 daA dnA dcA naA nnA ncA LsA ∧ w7.heap.size ≤ xA)
    case first =>
     refine wp_region_held_drew (S := (fun w' => Below w7.heap.size w7 w')) (by kernel_rfl) ?_ (fun hHeld => ?_)
     ·exact below_drewN (Below.refl _ _) 1
     obtain ⟨wz0, hz0⟩ : ∃ v, v = w7.drew := ⟨_, rfl⟩
     rw [← hz0] at hHeld ⊢; have HZ0 := qH hHeld; clear hz0; refine rgZ 0 ?_ rfl (.inl ⟨by rfl, fun w hSw => ?_⟩) ?_ (by kernel_rfl) (fun _ _ _ h => h) (by assumption); rotate_left
     ·have hl := (HV4.out.nx hSw).var.load
      have hcl := (HV4.out.nx hSw).var.cell; go_simp
      try with_reducible rfl
     simp only [Act.put, rg]; refine rgZ 1 ?_ rfl (.inl ⟨by rfl, fun w hSw => ?_⟩) ?_ (by kernel_rfl) (fun _ _ _ h => h) (by assumption); rotate_left
     ·(try dsimp only at hSw); go_simp; try with_reducible rfl
     simp only [Act.put, rg]; refine rgZ 2 ?_ rfl (.inl ⟨by rfl, fun w hSw => ?_⟩) ?_ (by kernel_rfl) (fun _ _ _ h => h) (by assumption); rotate_left
     ·(try dsimp only at hSw); go_simp; try with_reducible rfl
     simp only [Act.put, rg]; refine rgZ 3 ?_ rfl (.inl ⟨by rfl, fun w hSw => ?_⟩) ?_ (by kernel_rfl) (fun _ _ _ h => h) (by assumption); rotate_left
     ·(try dsimp only at hSw); go_simp; try with_reducible rfl
     simp only [Act.put, rg]; refine rgZ 4 ?_ rfl (.inl ⟨by rfl, fun w hSw => ?_⟩) ?_ (by kernel_rfl) (fun _ _ _ h => h) (by assumption); rotate_left
     ·obtain ⟨_, _, he9, _, e0, e1, e2, e3, e4, e5⟩ := (H.out.next (HB.out.trans (hSw.mono HB.out.size))).at HLT.out
      cases he9
      go_simp
      try with_reducible rfl
     simp only [Act.put, rg]; refine wpAnyH_ready (rs := [5, 9, 10]) (by kernel_rfl) (by simp) ?_; refine AllReadyH.cons rfl (fun K hK => ?_) (AllReadyH.cons rfl (fun K hK => ?_) (AllReadyH.cons rfl (fun K hK => ?_) AllReadyH.nil))
     ·simp only [rg4, rg5, rg6]
      go_simp; refine (rDoT (HV4.out.nx HZ0.out).tv (f k).o (f k).i (f k).m (f k).p (f k).q (f k).da (f k).dn (f k).dc (f k).z (by have := HSZ.out; omega) (by have := HSZ.out; omega) (by have := HSZ.out; omega) (HOC.out.nx HZ0.out).pin).mono ?_; rw [← HD1.out]; rintro e wz1 ⟨aA, cA, daA, dnA, dcA, naA, nnA, ncA, LsA, rfl, hTA, hSA, hbN⟩; have HZ1 := qH (HZ0.out.trans (hbN.mono HZ0.out.size)); have HTA := qH hTA; have HSA := qH hSA; clear hbN hTA hSA hHeld; unfold resW; go_wp2_with fail; refine hK.out _ _ HZ1.out (fun hHeld => ?_); clear hK K; refine rgZ 6 ?_ rfl (.inl ⟨by rfl, fun w hSw => ?_⟩) ?_ (by kernel_rfl) (fun _ _ _ h => h) (by assumption); rotate_left
      ·(try dsimp only at hSw); go_simp; try with_reducible rfl
      simp only [Act.put, rg]; refine rgZ 7 ?_ rfl (.inl ⟨by rfl, fun w hSw => ?_⟩) ?_ (by kernel_rfl) (fun _ _ _ h => h) (by assumption); rotate_left
      ·(try dsimp only at hSw); go_simp; try with_reducible rfl
      simp only [Act.put, rg]; refine rgZ 8 ?_ rfl (.inl ⟨by rfl, fun w hSw => ?_⟩) ?_ (by kernel_rfl) (fun _ _ _ h => h) (by assumption); rotate_left
      ·(try dsimp only at hSw); go_simp; try with_reducible rfl
      simp only [Act.put, rg]; refine wpAnyH_ready (rs := [9, 10]) (by kernel_rfl) (by simp) ?_; refine AllReadyH.cons rfl (fun K hK => ?_) (AllReadyH.cons rfl (fun K hK => ?_) AllReadyH.nil)
      ·simp only [rg4, rg5, rg6]
       go_simp
       obtain ⟨wz2, hwN⟩ : ∃ v, v = wz1.alloc (.cells #[.slice none 0 0] 26 (0, 0)) := ⟨_, rfl⟩
       obtain ⟨xA, hxA⟩ : ∃ v, v = wz1.heap.size := ⟨_, rfl⟩
       have hbN : Below wz1.heap.size wz1 wz2 := by rw [hwN]; exact (Below.refl _ _).alloc (Nat.le_refl _) _
       have HXT : Hid (TrB wz2 xA (.slice none 0 0)) := qH (by rw [hwN, hxA]; exact heap_alloc_new wz1 _); have HXG := qH (show w7.heap.size ≤ xA by rw [hxA]; exact HZ1.out.size); rw [← hwN, ← hxA]; have HZ2 := qH (HZ1.out.trans (hbN.mono HZ1.out.size)); replace HTA := qH (HTA.out.nx hbN); replace HSA := qH (HSA.out.nx hbN); clear hwN hxA hbN hHeld; refine hK.out _ _ HZ2.out (fun hHeld => ?_); clear hK K; refine rgC 10 rfl (by kernel_rfl) (fun K hK => ?_); simp only [rg4, rg5, rg6]; go_simp
       obtain ⟨wz3, hwN⟩ : ∃ v, v = wz2.alloc (.cells ResZ 37 (0, 0)) := ⟨_, rfl⟩
       obtain ⟨yA, hyA⟩ : ∃ v, v = wz2.heap.size := ⟨_, rfl⟩
       have hbN : Below wz2.heap.size wz2 wz3 := by rw [hwN]; exact (Below.refl _ _).alloc (Nat.le_refl _) _
       have HYR : Hid (RsB wz3 yA ResZ) := qH (by rw [hwN, hyA]; exact heap_alloc_new wz2 _); have HYG := qH (show w7.heap.size ≤ yA by rw [hyA]; exact HZ2.out.size); unfold ResZ at hwN; rw [← hwN, ← hyA]; have HZ3 := qH (HZ2.out.trans (hbN.mono HZ2.out.size)); replace HTA := qH (HTA.out.nx hbN); replace HSA := qH (HSA.out.nx hbN); replace HXT := qH (HXT.out.nx hbN); clear hwN hyA hbN hHeld; refine hK.out _ _ HZ3.out (fun hHeld => ?_); clear hK K; have x0 := HXT.out.cell; have xf := HXT.out.free 0; have xl := lt_of_block HXT.out; obtain ⟨a0, a1, a2, a3', a4', a5⟩ := RsB.cells HYR.out; have f0 := HYR.out.free 0; have f1 := HYR.out.free 1; have f2 := HYR.out.free 2; have f3 := HYR.out.free 3; have f4 := HYR.out.free 4; have f5 := HYR.out.free 5; have fl := lt_of_block HYR.out; have hxy : xA ≠ yA := ne_ty HXT.out HYR.out (by decide)
       have hyx : yA ≠ xA := fun e => hxy e.symm
       have HFN := qH (fin15 HZ3.out HXT.out HYR.out HXG.out HYG.out HTA.out HSA.out); refine rgC 11 rfl (by kernel_rfl) (fun K hK => ?_); simp only [rg4, rg5, rg6]; go_simp; go_wp2_with fail; refine hK.out _ _ (st15 HZ3.out HXG.out) (fun hHeld => ?_); clear hK K; refine rgC 12 rfl (by kernel_rfl) (fun K hK => ?_); simp only [rg4, rg5, rg6]; go_simp; go_wp2_with fail; refine hK.out _ _ (fin15 HZ3.out HXT.out HYR.out HXG.out HYG.out HTA.out HSA.out).1 (fun hHeld => ?_); clear hK K; refine wpAnyH_done (by kernel_rfl) ?_ _; clear hxy hyx x0 xf xl a0 a1 a2 a3' a4' a5 f0 f1 f2 f3 f4 f5 fl hHeld; go_wp2_with fail
       go_meet
       exact ⟨_, _, _, _, _, _, _, _, _, _, _, rfl, rfl, HFN.out.1, HFN.out.2.1, HFN.out.2.2, HXG.out⟩
      ·simp only [rg4, rg5, rg6]
       go_simp
       obtain ⟨wz2, hwN⟩ : ∃ v, v = wz1.alloc (.cells ResZ 37 (0, 0)) := ⟨_, rfl⟩
       obtain ⟨yA, hyA⟩ : ∃ v, v = wz1.heap.size := ⟨_, rfl⟩
       have hbN : Below wz1.heap.size wz1 wz2 := by rw [hwN]; exact (Below.refl _ _).alloc (Nat.le_refl _) _
       have HYR : Hid (RsB wz2 yA ResZ) := qH (by rw [hwN, hyA]; exact heap_alloc_new wz1 _); have HYG := qH (show w7.heap.size ≤ yA by rw [hyA]; exact HZ1.out.size); unfold ResZ at hwN; rw [← hwN, ← hyA]; have HZ2 := qH (HZ1.out.trans (hbN.mono HZ1.out.size)); replace HTA := qH (HTA.out.nx hbN); replace HSA := qH (HSA.out.nx hbN); clear hwN hyA hbN hHeld; refine hK.out _ _ HZ2.out (fun hHeld => ?_); clear hK K; refine rgC 9 rfl (by kernel_rfl) (fun K hK => ?_); simp only [rg4, rg5, rg6]; go_simp
       obtain ⟨wz3, hwN⟩ : ∃ v, v = wz2.alloc (.cells #[.slice none 0 0] 26 (0, 0)) := ⟨_, rfl⟩
       obtain ⟨xA, hxA⟩ : ∃ v, v = wz2.heap.size := ⟨_, rfl⟩
       have hbN : Below wz2.heap.size wz2 wz3 := by rw [hwN]; exact (Below.refl _ _).alloc (Nat.le_refl _) _
       have HXT : Hid (TrB wz3 xA (.slice none 0 0)) := qH (by rw [hwN, hxA]; exact heap_alloc_new wz2 _); have HXG := qH (show w7.heap.size ≤ xA by rw [hxA]; exact HZ2.out.size); rw [← hwN, ← hxA]; have HZ3 := qH (HZ2.out.trans (hbN.mono HZ2.out.size)); replace HTA := qH (HTA.out.nx hbN); replace HSA := qH (HSA.out.nx hbN); replace HYR := qH (HYR.out.nx hbN); clear hwN hxA hbN hHeld; refine hK.out _ _ HZ3.out (fun hHeld => ?_); clear hK K; have x0 := HXT.out.cell; have xf := HXT.out.free 0; have xl := lt_of_block HXT.out; obtain ⟨a0, a1, a2, a3', a4', a5⟩ := RsB.cells HYR.out; have f0 := HYR.out.free 0; have f1 := HYR.out.free 1; have f2 := HYR.out.free 2; have f3 := HYR.out.free 3; have f4 := HYR.out.free 4; have f5 := HYR.out.free 5; have fl := lt_of_block HYR.out; have hxy : xA ≠ yA := ne_ty HXT.out HYR.out (by decide)
       have hyx : yA ≠ xA := fun e => hxy e.symm
       have HFN := qH (fin15 HZ3.out HXT.out HYR.out HXG.out HYG.out HTA.out HSA.out); refine rgC 11 rfl (by kernel_rfl) (fun K hK => ?_); simp only [rg4, rg5, rg6]; go_simp; go_wp2_with fail; refine hK.out _ _ (st15 HZ3.out HXG.out) (fun hHeld => ?_); clear hK K; refine rgC 12 rfl (by kernel_rfl) (fun K hK => ?_); simp only [rg4, rg5, rg6]; go_simp; go_wp2_with fail; refine hK.out _ _ (fin15 HZ3.out HXT.out HYR.out HXG.out HYG.out HTA.out HSA.out).1 (fun hHeld => ?_); clear hK K; refine wpAnyH_done (by kernel_rfl) ?_ _; clear hxy hyx x0 xf xl a0 a1 a2 a3' a4' a5 f0 f1 f2 f3 f4 f5 fl hHeld; go_wp2_with fail
       go_meet
       exact ⟨_, _, _, _, _, _, _, _, _, _, _, rfl, rfl, HFN.out.1, HFN.out.2.1, HFN.out.2.2, HXG.out⟩
     ·simp only [rg4, rg5, rg6]
      go_simp
      obtain ⟨wz1, hwN⟩ : ∃ v, v = wz0.alloc (.cells #[.slice none 0 0] 26 (0, 0)) := ⟨_, rfl⟩
      obtain ⟨xA, hxA⟩ : ∃ v, v = wz0.heap.size := ⟨_, rfl⟩
      have hbN : Below wz0.heap.size wz0 wz1 := by rw [hwN]; exact (Below.refl _ _).alloc (Nat.le_refl _) _
      have HXT : Hid (TrB wz1 xA (.slice none 0 0)) := qH (by rw [hwN, hxA]; exact heap_alloc_new wz0 _); have HXG := qH (show w7.heap.size ≤ xA by rw [hxA]; exact HZ0.out.size); rw [← hwN, ← hxA]; have HZ1 := qH (HZ0.out.trans (hbN.mono HZ0.out.size)); clear hwN hxA hbN hHeld; refine hK.out _ _ HZ1.out (fun hHeld => ?_); clear hK K; refine wpAnyH_ready (rs := [5, 10]) (by kernel_rfl) (by simp) ?_; refine AllReadyH.cons rfl (fun K hK => ?_) (AllReadyH.cons rfl (fun K hK => ?_) AllReadyH.nil)
      ·simp only [rg4, rg5, rg6]
       go_simp; refine (rDoT (HV4.out.nx HZ1.out).tv (f k).o (f k).i (f k).m (f k).p (f k).q (f k).da (f k).dn (f k).dc (f k).z (by have := HSZ.out; omega) (by have := HSZ.out; omega) (by have := HSZ.out; omega) (HOC.out.nx HZ1.out).pin).mono ?_; rw [← HD1.out]; rintro e wz2 ⟨aA, cA, daA, dnA, dcA, naA, nnA, ncA, LsA, rfl, hTA, hSA, hbN⟩; have HZ2 := qH (HZ1.out.trans (hbN.mono HZ1.out.size)); replace HXT := qH (HXT.out.nx hbN); have HTA := qH hTA; have HSA := qH hSA; clear hbN hTA hSA hHeld; unfold resW; go_wp2_with fail; refine hK.out _ _ HZ2.out (fun hHeld => ?_); clear hK K; refine rgZ 6 ?_ rfl (.inl ⟨by rfl, fun w hSw => ?_⟩) ?_ (by kernel_rfl) (fun _ _ _ h => h) (by assumption); rotate_left
       ·(try dsimp only at hSw); go_simp; try with_reducible rfl
       simp only [Act.put, rg]; refine rgZ 7 ?_ rfl (.inl ⟨by rfl, fun w hSw => ?_⟩) ?_ (by kernel_rfl) (fun _ _ _ h => h) (by assumption); rotate_left
       ·(try dsimp only at hSw); go_simp; try with_reducible rfl
       simp only [Act.put, rg]; refine rgZ 8 ?_ rfl (.inl ⟨by rfl, fun w hSw => ?_⟩) ?_ (by kernel_rfl) (fun _ _ _ h => h) (by assumption); rotate_left
       ·(try dsimp only at hSw); go_simp; try with_reducible rfl
       simp only [Act.put, rg]; refine rgC 10 rfl (by kernel_rfl) (fun K hK => ?_); simp only [rg4, rg5, rg6]; go_simp
       obtain ⟨wz3, hwN⟩ : ∃ v, v = wz2.alloc (.cells ResZ 37 (0, 0)) := ⟨_, rfl⟩
       obtain ⟨yA, hyA⟩ : ∃ v, v = wz2.heap.size := ⟨_, rfl⟩
       have hbN : Below wz2.heap.size wz2 wz3 := by rw [hwN]; exact (Below.refl _ _).alloc (Nat.le_refl _) _
       have HYR : Hid (RsB wz3 yA ResZ) := qH (by rw [hwN, hyA]; exact heap_alloc_new wz2 _); have HYG := qH (show w7.heap.size ≤ yA by rw [hyA]; exact HZ2.out.size); unfold ResZ at hwN; rw [← hwN, ← hyA]; have HZ3 := qH (HZ2.out.trans (hbN.mono HZ2.out.size)); replace HTA := qH (HTA.out.nx hbN); replace HSA := qH (HSA.out.nx hbN); replace HXT := qH (HXT.out.nx hbN); clear hwN hyA hbN hHeld; refine hK.out _ _ HZ3.out (fun hHeld => ?_); clear hK K; have x0 := HXT.out.cell; have xf := HXT.out.free 0; have xl := lt_of_block HXT.out; obtain ⟨a0, a1, a2, a3', a4', a5⟩ := RsB.cells HYR.out; have f0 := HYR.out.free 0; have f1 := HYR.out.free 1; have f2 := HYR.out.free 2; have f3 := HYR.out.free 3; have f4 := HYR.out.free 4; have f5 := HYR.out.free 5; have fl := lt_of_block HYR.out; have hxy : xA ≠ yA := ne_ty HXT.out HYR.out (by decide)
       have hyx : yA ≠ xA := fun e => hxy e.symm
       have HFN := qH (fin15 HZ3.out HXT.out HYR.out HXG.out HYG.out HTA.out HSA.out); refine rgC 11 rfl (by kernel_rfl) (fun K hK => ?_); simp only [rg4, rg5, rg6]; go_simp; go_wp2_with fail; refine hK.out _ _ (st15 HZ3.out HXG.out) (fun hHeld => ?_); clear hK K; refine rgC 12 rfl (by kernel_rfl) (fun K hK => ?_); simp only [rg4, rg5, rg6]; go_simp; go_wp2_with fail; refine hK.out _ _ (fin15 HZ3.out HXT.out HYR.out HXG.out HYG.out HTA.out HSA.out).1 (fun hHeld => ?_); clear hK K; refine wpAnyH_done (by kernel_rfl) ?_ _; clear hxy hyx x0 xf xl a0 a1 a2 a3' a4' a5 f0 f1 f2 f3 f4 f5 fl hHeld; go_wp2_with fail
       go_meet
       exact ⟨_, _, _, _, _, _, _, _, _, _, _, rfl, rfl, HFN.out.1, HFN.out.2.1, HFN.out.2.2, HXG.out⟩
      ·simp only [rg4, rg5, rg6]
       go_simp
       obtain ⟨wz2, hwN⟩ : ∃ v, v = wz1.alloc (.cells ResZ 37 (0, 0)) := ⟨_, rfl⟩
       obtain ⟨yA, hyA⟩ : ∃ v, v = wz1.heap.size := ⟨_, rfl⟩
       have hbN : Below wz1.heap.size wz1 wz2 := by rw [hwN]; exact (Below.refl _ _).alloc (Nat.le_refl _) _
       have HYR : Hid (RsB wz2 yA ResZ) := qH (by rw [hwN, hyA]; exact heap_alloc_new wz1 _); have HYG := qH (show w7.heap.size ≤ yA by rw [hyA]; exact HZ1.out.size); unfold ResZ at hwN; rw [← hwN, ← hyA]; have HZ2 := qH (HZ1.out.trans (hbN.mono HZ1.out.size)); replace HXT := qH (HXT.out.nx hbN); clear hwN hyA hbN hHeld; refine hK.out _ _ HZ2.out (fun hHeld => ?_); clear hK K; refine rgC 5 rfl (by kernel_rfl) (fun K hK => ?_); simp only [rg4, rg5, rg6]; go_simp; refine (rDoT (HV4.out.nx HZ2.out).tv (f k).o (f k).i (f k).m (f k).p (f k).q (f k).da (f k).dn (f k).dc (f k).z (by have := HSZ.out; omega) (by have := HSZ.out; omega) (by have := HSZ.out; omega) (HOC.out.nx HZ2.out).pin).mono ?_; rw [← HD1.out]; rintro e wz3 ⟨aA, cA, daA, dnA, dcA, naA, nnA, ncA, LsA, rfl, hTA, hSA, hbN⟩; have HZ3 := qH (HZ2.out.trans (hbN.mono HZ2.out.size)); replace HXT := qH (HXT.out.nx hbN); replace HYR := qH (HYR.out.nx hbN); have HTA := qH hTA; have HSA := qH hSA; clear hbN hTA hSA hHeld; unfold resW; go_wp2_with fail; refine hK.out _ _ HZ3.out (fun hHeld => ?_); clear hK K; refine rgZ 6 ?_ rfl (.inl ⟨by rfl, fun w hSw => ?_⟩) ?_ (by kernel_rfl) (fun _ _ _ h => h) (by assumption); rotate_left
       ·(try dsimp only at hSw); go_simp; try with_reducible rfl
       simp only [Act.put, rg]; refine rgZ 7 ?_ rfl (.inl ⟨by rfl, fun w hSw => ?_⟩) ?_ (by kernel_rfl) (fun _ _ _ h => h) (by assumption); rotate_left
       ·(try dsimp only at hSw); go_simp; try with_reducible rfl
       simp only [Act.put, rg]; refine rgZ 8 ?_ rfl (.inl ⟨by rfl, fun w hSw => ?_⟩) ?_ (by kernel_rfl) (fun _ _ _ h => h) (by assumption); rotate_left
       ·(try dsimp only at hSw); go_simp; try with_reducible rfl
       simp only [Act.put, rg]; have x0 := HXT.out.cell; have xf := HXT.out.free 0; have xl := lt_of_block HXT.out; obtain ⟨a0, a1, a2, a3', a4', a5⟩ := RsB.cells HYR.out; have f0 := HYR.out.free 0; have f1 := HYR.out.free 1; have f2 := HYR.out.free 2; have f3 := HYR.out.free 3; have f4 := HYR.out.free 4; have f5 := HYR.out.free 5; have fl := lt_of_block HYR.out; have hxy : xA ≠ yA := ne_ty HXT.out HYR.out (by decide)
       have hyx : yA ≠ xA := fun e => hxy e.symm
       have HFN := qH (fin15 HZ3.out HXT.out HYR.out HXG.out HYG.out HTA.out HSA.out); refine rgC 11 rfl (by kernel_rfl) (fun K hK => ?_); simp only [rg4, rg5, rg6]; go_simp; go_wp2_with fail; refine hK.out _ _ (st15 HZ3.out HXG.out) (fun hHeld => ?_); clear hK K; refine rgC 12 rfl (by kernel_rfl) (fun K hK => ?_); simp only [rg4, rg5, rg6]; go_simp; go_wp2_with fail; refine hK.out _ _ (fin15 HZ3.out HXT.out HYR.out HXG.out HYG.out HTA.out HSA.out).1 (fun hHeld => ?_); clear hK K; refine wpAnyH_done (by kernel_rfl) ?_ _; clear hxy hyx x0 xf xl a0 a1 a2 a3' a4' a5 f0 f1 f2 f3 f4 f5 fl hHeld; go_wp2_with fail
       go_meet
       exact ⟨_, _, _, _, _, _, _, _, _, _, _, rfl, rfl, HFN.out.1, HFN.out.2.1, HFN.out.2.2, HXG.out⟩
     ·simp only [rg4, rg5, rg6]
      go_simp
      obtain ⟨wz1, hwN⟩ : ∃ v, v = wz0.alloc (.cells ResZ 37 (0, 0)) := ⟨_, rfl⟩
      obtain ⟨yA, hyA⟩ : ∃ v, v = wz0.heap.size := ⟨_, rfl⟩
      have hbN : Below wz0.heap.size wz0 wz1 := by rw [hwN]; exact (Below.refl _ _).alloc (Nat.le_refl _) _
      have HYR : Hid (RsB wz1 yA ResZ) := qH (by rw [hwN, hyA]; exact heap_alloc_new wz0 _); have HYG := qH (show w7.heap.size ≤ yA by rw [hyA]; exact HZ0.out.size); unfold ResZ at hwN; rw [← hwN, ← hyA]; have HZ1 := qH (HZ0.out.trans (hbN.mono HZ0.out.size)); clear hwN hyA hbN hHeld; refine hK.out _ _ HZ1.out (fun hHeld => ?_); clear hK K; refine wpAnyH_ready (rs := [5, 9]) (by kernel_rfl) (by simp) ?_; refine AllReadyH.cons rfl (fun K hK => ?_) (AllReadyH.cons rfl (fun K hK => ?_) AllReadyH.nil)
      ·simp only [rg4, rg5, rg6]
       go_simp; refine (rDoT (HV4.out.nx HZ1.out).tv (f k).o (f k).i (f k).m (f k).p (f k).q (f k).da (f k).dn (f k).dc (f k).z (by have := HSZ.out; omega) (by have := HSZ.out; omega) (by have := HSZ.out; omega) (HOC.out.nx HZ1.out).pin).mono ?_; rw [← HD1.out]; rintro e wz2 ⟨aA, cA, daA, dnA, dcA, naA, nnA, ncA, LsA, rfl, hTA, hSA, hbN⟩; have HZ2 := qH (HZ1.out.trans (hbN.mono HZ1.out.size)); replace HYR := qH (HYR.out.nx hbN); have HTA := qH hTA; have HSA := qH hSA; clear hbN hTA hSA hHeld; unfold resW; go_wp2_with fail; refine hK.out _ _ HZ2.out (fun hHeld => ?_); clear hK K; refine rgZ 6 ?_ rfl (.inl ⟨by rfl, fun w hSw => ?_⟩) ?_ (by kernel_rfl) (fun _ _ _ h => h) (by assumption); rotate_left
       ·(try dsimp only at hSw); go_simp; try with_reducible rfl
       simp only [Act.put, rg]; refine rgZ 7 ?_ rfl (.inl ⟨by rfl, fun w hSw => ?_⟩) ?_ (by kernel_rfl) (fun _ _ _ h => h) (by assumption); rotate_left
       ·(try dsimp only at hSw); go_simp; try with_reducible rfl
       simp only [Act.put, rg]; refine rgZ 8 ?_ rfl (.inl ⟨by rfl, fun w hSw => ?_⟩) ?_ (by kernel_rfl) (fun _ _ _ h => h) (by assumption); rotate_left
       ·(try dsimp only at hSw); go_simp; try with_reducible rfl
       simp only [Act.put, rg]; refine rgC 9 rfl (by kernel_rfl) (fun K hK => ?_); simp only [rg4, rg5, rg6]; go_simp
       obtain ⟨wz3, hwN⟩ : ∃ v, v = wz2.alloc (.cells #[.slice none 0 0] 26 (0, 0)) := ⟨_, rfl⟩
       obtain ⟨xA, hxA⟩ : ∃ v, v = wz2.heap.size := ⟨_, rfl⟩
       have hbN : Below wz2.heap.size wz2 wz3 := by rw [hwN]; exact (Below.refl _ _).alloc (Nat.le_refl _) _
       have HXT : Hid (TrB wz3 xA (.slice none 0 0)) := qH (by rw [hwN, hxA]; exact heap_alloc_new wz2 _); have HXG := qH (show w7.heap.size ≤ xA by rw [hxA]; exact HZ2.out.size); rw [← hwN, ← hxA]; have HZ3 := qH (HZ2.out.trans (hbN.mono HZ2.out.size)); replace HTA := qH (HTA.out.nx hbN); replace HSA := qH (HSA.out.nx hbN); replace HYR := qH (HYR.out.nx hbN); clear hwN hxA hbN hHeld; refine hK.out _ _ HZ3.out (fun hHeld => ?_); clear hK K; have x0 := HXT.out.cell; have xf := HXT.out.free 0; have xl := lt_of_block HXT.out; obtain ⟨a0, a1, a2, a3', a4', a5⟩ := RsB.cells HYR.out; have f0 := HYR.out.free 0; have f1 := HYR.out.free 1; have f2 := HYR.out.free 2; have f3 := HYR.out.free 3; have f4 := HYR.out.free 4; have f5 := HYR.out.free 5; have fl := lt_of_block HYR.out; have hxy : xA ≠ yA := ne_ty HXT.out HYR.out (by decide)
       have hyx : yA ≠ xA := fun e => hxy e.symm
       have HFN := qH (fin15 HZ3.out HXT.out HYR.out HXG.out HYG.out HTA.out HSA.out); refine rgC 11 rfl (by kernel_rfl) (fun K hK => ?_); simp only [rg4, rg5, rg6]; go_simp; go_wp2_with fail; refine hK.out _ _ (st15 HZ3.out HXG.out) (fun hHeld => ?_); clear hK K; refine rgC 12 rfl (by kernel_rfl) (fun K hK => ?_); simp only [rg4, rg5, rg6]; go_simp; go_wp2_with fail; refine hK.out _ _ (fin15 HZ3.out HXT.out HYR.out HXG.out HYG.out HTA.out HSA.out).1 (fun hHeld => ?_); clear hK K; refine wpAnyH_done (by kernel_rfl) ?_ _; clear hxy hyx x0 xf xl a0 a1 a2 a3' a4' a5 f0 f1 f2 f3 f4 f5 fl hHeld; go_wp2_with fail
       go_meet
       exact ⟨_, _, _, _, _, _, _, _, _, _, _, rfl, rfl, HFN.out.1, HFN.out.2.1, HFN.out.2.2, HXG.out⟩
      ·simp only [rg4, rg5, rg6]
       go_simp
       obtain ⟨wz2, hwN⟩ : ∃ v, v = wz1.alloc (.cells #[.slice none 0 0] 26 (0, 0)) := ⟨_, rfl⟩
       obtain ⟨xA, hxA⟩ : ∃ v, v = wz1.heap.size := ⟨_, rfl⟩
       have hbN : Below wz1.heap.size wz1 wz2 := by rw [hwN]; exact (Below.refl _ _).alloc (Nat.le_refl _) _
       have HXT : Hid (TrB wz2 xA (.slice none 0 0)) := qH (by rw [hwN, hxA]; exact heap_alloc_new wz1 _); have HXG := qH (show w7.heap.size ≤ xA by rw [hxA]; exact HZ1.out.size); rw [← hwN, ← hxA]; have HZ2 := qH (HZ1.out.trans (hbN.mono HZ1.out.size)); replace HYR := qH (HYR.out.nx hbN); clear hwN hxA hbN hHeld; refine hK.out _ _ HZ2.out (fun hHeld => ?_); clear hK K; refine rgC 5 rfl (by kernel_rfl) (fun K hK => ?_); simp only [rg4, rg5, rg6]; go_simp; refine (rDoT (HV4.out.nx HZ2.out).tv (f k).o (f k).i (f k).m (f k).p (f k).q (f k).da (f k).dn (f k).dc (f k).z (by have := HSZ.out; omega) (by have := HSZ.out; omega) (by have := HSZ.out; omega) (HOC.out.nx HZ2.out).pin).mono ?_; rw [← HD1.out]; rintro e wz3 ⟨aA, cA, daA, dnA, dcA, naA, nnA, ncA, LsA, rfl, hTA, hSA, hbN⟩; have HZ3 := qH (HZ2.out.trans (hbN.mono HZ2.out.size)); replace HXT := qH (HXT.out.nx hbN); replace HYR := qH (HYR.out.nx hbN); have HTA := qH hTA; have HSA := qH hSA; clear hbN hTA hSA hHeld; unfold resW; go_wp2_with fail; refine hK.out _ _ HZ3.out (fun hHeld => ?_); clear hK K; refine rgZ 6 ?_ rfl (.inl ⟨by rfl, fun w hSw => ?_⟩) ?_ (by kernel_rfl) (fun _ _ _ h => h) (by assumption); rotate_left
       ·(try dsimp only at hSw); go_simp; try with_reducible rfl
       simp only [Act.put, rg]; refine rgZ 7 ?_ rfl (.inl ⟨by rfl, fun w hSw => ?_⟩) ?_ (by kernel_rfl) (fun _ _ _ h => h) (by assumption); rotate_left
       ·(try dsimp only at hSw); go_simp; try with_reducible rfl
       simp only [Act.put, rg]; refine rgZ 8 ?_ rfl (.inl ⟨by rfl, fun w hSw => ?_⟩) ?_ (by kernel_rfl) (fun _ _ _ h => h) (by assumption); rotate_left
       ·(try dsimp only at hSw); go_simp; try with_reducible rfl
       simp only [Act.put, rg]; have x0 := HXT.out.cell; have xf := HXT.out.free 0; have xl := lt_of_block HXT.out; obtain ⟨a0, a1, a2, a3', a4', a5⟩ := RsB.cells HYR.out; have f0 := HYR.out.free 0; have f1 := HYR.out.free 1; have f2 := HYR.out.free 2; have f3 := HYR.out.free 3; have f4 := HYR.out.free 4; have f5 := HYR.out.free 5; have fl := lt_of_block HYR.out; have hxy : xA ≠ yA := ne_ty HXT.out HYR.out (by decide)
       have hyx : yA ≠ xA := fun e => hxy e.symm
       have HFN := qH (fin15 HZ3.out HXT.out HYR.out HXG.out HYG.out HTA.out HSA.out); refine rgC 11 rfl (by kernel_rfl) (fun K hK => ?_); simp only [rg4, rg5, rg6]; go_simp; go_wp2_with fail; refine hK.out _ _ (st15 HZ3.out HXG.out) (fun hHeld => ?_); clear hK K; refine rgC 12 rfl (by kernel_rfl) (fun K hK => ?_); simp only [rg4, rg5, rg6]; go_simp; go_wp2_with fail; refine hK.out _ _ (fin15 HZ3.out HXT.out HYR.out HXG.out HYG.out HTA.out HSA.out).1 (fun hHeld => ?_); clear hK K; refine wpAnyH_done (by kernel_rfl) ?_ _; clear hxy hyx x0 xf xl a0 a1 a2 a3' a4' a5 f0 f1 f2 f3 f4 f5 fl hHeld; go_wp2_with fail
       go_meet
       exact ⟨_, _, _, _, _, _, _, _, _, _, _, rfl, rfl, HFN.out.1, HFN.out.2.1, HFN.out.2.2, HXG.out⟩
    case rest =>
     obtain ⟨xA, yA, aA, cA, daA, dnA, dcA, naA, nnA, ncA, LsA, rfl, rfl, hbc, hVA, hRA, hxg⟩ := hcut
     have HXN := qH (show x3 ≠ xA ∧ x4 ≠ xA by
      have h1 := lt_of_block HV3.out.var; have h2 := lt_of_block HV4.out.var
      omega)
     replace HB := qH (HB.out.trans (hbc.mono HB.out.size)); replace HV3 := qH (HV3.out.nx hbc); replace HV4 := qH (HV4.out.nx hbc); replace HOC := qH (HOC.out.nx hbc); replace HPE := qH (HPE.out.nx hbc); replace HQ6 := qH (HQ6.out.nx hbc); replace HV7 := qH (HV7.out.nx hbc); replace HV8 := qH (HV8.out.nx hbc); replace HR9 := qH (HR9.out.nx hbc); have HVA := qH hVA; have HRA := qH hRA; clear hbc hVA hRA hxg; go_wp2_with fail; refine wp_region_held_drew (S := (fun w' => Below wc.heap.size wc w')) (by kernel_rfl) ?_ (fun hHeld => ?_)
     ·exact below_drewN (Below.refl _ _) 1
     obtain ⟨wz0, hz0⟩ : ∃ v, v = wc.drew := ⟨_, rfl⟩
     rw [← hz0] at hHeld ⊢; have HZ := qH hHeld; clear hz0; refine rgZ 0 ?_ rfl (.inl ⟨by rfl, fun w hSw => ?_⟩) ?_ (by kernel_rfl) (fun _ _ _ h => h) (by assumption); rotate_left
     ·have hl := (HR9.out.nx hSw).var.load
      have hcl := (HR9.out.nx hSw).var.cells; go_simp
      try with_reducible rfl
     simp only [Act.put, rg]; refine rgZ 1 ?_ rfl (.inl ⟨by rfl, fun w hSw => ?_⟩) ?_ (by kernel_rfl) (fun _ _ _ h => h) (by assumption); rotate_left
     ·have hl := (HRA.out.nx hSw).var.load
      have hcl := (HRA.out.nx hSw).var.cells; go_simp
      try with_reducible rfl
     simp only [Act.put, rg]; refine rgC 2 rfl (by kernel_rfl) (fun K hK => ?_); simp only [rg4, rg5, rg6]; go_simp; have hc := sameResult_any (HR9.out.nx HZ.out).res (HRA.out.nx HZ.out).res (lp_wide HV3.out.tv.rgt HD1.out HR9.out.res).1 (lp_wide HV3.out.tv.rgt HD1.out HR9.out.res).2 (lp_wide HV3.out.tv.rgt HD1.out HRA.out.res).2; rw [decide_eq_true rfl] at hc; unfold resW at hc; refine hc.mono ?_; rintro e wE ⟨rfl, hbE⟩; replace HZ := qH (HZ.out.trans (hbE.mono HZ.out.size)); clear hc hbE hHeld; go_wp2_with fail; refine hK.out _ _ HZ.out (fun hHeld => ?_); clear hK K; refine rgZ 3 ?_ rfl (.inl ⟨by rfl, fun w hSw => ?_⟩) ?_ (by kernel_rfl) (fun _ _ _ h => h) (by assumption); rotate_left
     ·(try dsimp only at hSw); go_simp; try with_reducible rfl
     simp only [Act.put, rg]; refine rgZ 4 ?_ rfl (.inl ⟨by rfl, fun w hSw => ?_⟩) ?_ (by kernel_rfl) (fun _ _ _ h => h) (by assumption); rotate_left
     ·(try dsimp only at hSw); go_simp; try with_reducible rfl
     simp only [Act.put, rg]; refine rgZ 5 ?_ rfl (.inl ⟨by rfl, fun w hSw => ?_⟩) ?_ (by kernel_rfl) (fun _ _ _ h => h) (by assumption); rotate_left
     ·have hl := (HV8.out.nx hSw).var.load
      have hcl := (HV8.out.nx hSw).var.cell; go_simp
      try with_reducible rfl
     simp only [Act.put, rg]; refine rgZ 6 ?_ rfl (.inl ⟨by rfl, fun w hSw => ?_⟩) ?_ (by kernel_rfl) (fun _ _ _ h => h) (by assumption); rotate_left
     ·have hl := (HVA.out.nx hSw).var.load
      have hcl := (HVA.out.nx hSw).var.cell; go_simp
      try with_reducible rfl
     simp only [Act.put, rg]; refine rgC 7 rfl (by kernel_rfl) (fun K hK => ?_); simp only [rg4, rg5, rg6]; go_simp; have hc := sameT2 (HV8.out.nx HZ.out).tv (HVA.out.nx HZ.out).tv; rw [decide_eq_true rfl] at hc; refine hc.mono ?_; rintro e wE ⟨rfl, hbE⟩; replace HZ := qH (HZ.out.trans (hbE.mono HZ.out.size)); clear hc hbE hHeld; go_wp2_with fail; refine hK.out _ _ HZ.out (fun hHeld => ?_); clear hK K; refine rgZ 8 ?_ rfl (.inl ⟨by rfl, fun w hSw => ?_⟩) ?_ (by kernel_rfl) (fun _ _ _ h => h) (by assumption); rotate_left
     ·(try dsimp only at hSw); go_simp; try with_reducible rfl
     simp only [Act.put, rg]; refine rgZ 9 ?_ rfl (.inl ⟨by rfl, fun w hSw => ?_⟩) ?_ (by kernel_rfl) (fun _ _ _ h => h) (by assumption); rotate_left
     ·(try dsimp only at hSw); go_simp; try with_reducible rfl
     simp only [Act.put, rg]; refine rgZ 10 ?_ rfl (.inl ⟨by rfl, fun w hSw => ?_⟩) ?_ (by kernel_rfl) (fun _ _ _ h => h) (by assumption); rotate_left
     ·(try dsimp only at hSw); go_simp; try with_reducible rfl
     simp only [Act.put, rg]; refine rgZ 11 ?_ rfl (.inl ⟨by rfl, fun w hSw => ?_⟩) ?_ (by kernel_rfl) (fun _ _ _ h => h) (by assumption); rotate_left
     ·have hl := (HV3.out.nx hSw).var.load
      have hcl := (HV3.out.nx hSw).var.cell; go_simp
      try with_reducible rfl
     simp only [Act.put, rg]; refine rgZ 12 ?_ rfl (.inl ⟨by rfl, fun w hSw => ?_⟩) ?_ (by kernel_rfl) (fun _ _ _ h => h) (by assumption); rotate_left
     ·have hl := (HV7.out.nx hSw).var.load
      have hcl := (HV7.out.nx hSw).var.cell; go_simp
      try with_reducible rfl
     simp only [Act.put, rg]; refine rgC 13 rfl (by kernel_rfl) (fun K hK => ?_); simp only [rg4, rg5, rg6]; go_simp; have hc := sameT2 (HV3.out.nx HZ.out).tv (HV7.out.nx HZ.out).tv; rw [decide_eq_true rfl] at hc; refine hc.mono ?_; rintro e wE ⟨rfl, hbE⟩; replace HZ := qH (HZ.out.trans (hbE.mono HZ.out.size)); clear hc hbE hHeld; go_wp2_with fail; refine hK.out _ _ HZ.out (fun hHeld => ?_); clear hK K; refine rgZ 14 ?_ rfl (.inl ⟨by rfl, fun w hSw => ?_⟩) ?_ (by kernel_rfl) (fun _ _ _ h => h) (by assumption); rotate_left
     ·(try dsimp only at hSw); go_simp; try with_reducible rfl
     simp only [Act.put, rg]; refine rgZ 15 ?_ rfl (.inl ⟨by rfl, fun w hSw => ?_⟩) ?_ (by kernel_rfl) (fun _ _ _ h => h) (by assumption); rotate_left
     ·(try dsimp only at hSw); go_simp; try with_reducible rfl
     simp only [Act.put, rg]; refine rgZ 16 ?_ rfl (.inl ⟨by rfl, fun w hSw => ?_⟩) ?_ (by kernel_rfl) (fun _ _ _ h => h) (by assumption); rotate_left
     ·(try dsimp only at hSw); go_simp; try with_reducible rfl
     simp only [Act.put, rg]; refine rgZ 17 ?_ rfl (.inl ⟨by rfl, fun w hSw => ?_⟩) ?_ (by kernel_rfl) (fun _ _ _ h => h) (by assumption); rotate_left
     ·(try dsimp only at hSw); go_simp; try with_reducible rfl
     simp only [Act.put, rg]; refine rgZ 18 ?_ rfl (.inl ⟨by rfl, fun w hSw => ?_⟩) ?_ (by kernel_rfl) (fun _ _ _ h => h) (by assumption); rotate_left
     ·obtain ⟨e0, e1, e2, e3, e4, e5⟩ := (HQ6.out.nx hSw).cells
      go_simp
      try with_reducible rfl
     simp only [Act.put, rg]; refine rgZ 19 ?_ rfl (.inl ⟨by rfl, fun w hSw => ?_⟩) ?_ (by kernel_rfl) (fun _ _ _ h => h) (by assumption); rotate_left
     ·(try dsimp only at hSw); go_simp; try with_reducible rfl
     simp only [Act.put, rg]; refine rgZ 20 ?_ rfl (.inl ⟨by rfl, fun w hSw => ?_⟩) ?_ (by kernel_rfl) (fun _ _ _ h => h) (by assumption); rotate_left
     ·(try dsimp only at hSw); go_simp; try with_reducible rfl
     simp only [Act.put, rg]; refine rgZ 21 ?_ rfl (.inl ⟨by rfl, fun w hSw => ?_⟩) ?_ (by kernel_rfl) (fun _ _ _ h => h) (by assumption); rotate_left
     ·(try dsimp only at hSw); go_simp; try with_reducible rfl
     simp only [Act.put, rg]; refine rgZ 22 ?_ rfl (.inl ⟨by rfl, fun w hSw => ?_⟩) ?_ (by kernel_rfl) (fun _ _ _ h => h) (by assumption); rotate_left
     ·(try dsimp only at hSw); go_simp; try with_reducible rfl
     simp only [Act.put, rg]; refine rgZ 23 ?_ rfl (.inl ⟨by rfl, fun w hSw => ?_⟩) ?_ (by kernel_rfl) (fun _ _ _ h => h) (by assumption); rotate_left
     ·obtain ⟨_, _, he9, _, e0, e1, e2, e3, e4, e5⟩ := (H.out.next (HB.out.trans (hSw.mono HB.out.size))).at HLT.out
      cases he9
      go_simp
      try with_reducible rfl
     simp only [Act.put, rg]; refine rgC 24 rfl (by kernel_rfl) (fun K hK => ?_); simp only [rg4, rg5, rg6]; go_simp; have hc := same_eq ea (f k).da (f k).dn ec (f k).dc (f k).z (f k).z _ (HPE.out.nx HZ.out).bys (HOC.out.nx HZ.out).pin.bys (by have := HSZ.out; omega) rfl; refine hc.mono ?_; rintro e wE ⟨rfl, hbE⟩; replace HZ := qH (HZ.out.trans (hbE.mono HZ.out.size)); clear hc hbE hHeld; go_wp2_with fail; refine hK.out _ _ HZ.out (fun hHeld => ?_); clear hK K; refine rgZ 25 ?_ rfl (.inl ⟨by rfl, fun w hSw => ?_⟩) ?_ (by kernel_rfl) (fun _ _ _ h => h) (by assumption); rotate_left
     ·(try dsimp only at hSw); go_simp; try with_reducible rfl
     simp only [Act.put, rg]; refine rgZ 26 ?_ rfl (.inl ⟨by rfl, fun w hSw => ?_⟩) ?_ (by kernel_rfl) (fun _ _ _ h => h) (by assumption); rotate_left
     ·(try dsimp only at hSw); go_simp; try with_reducible rfl
     simp only [Act.put, rg]; refine wpAnyH_done (by kernel_rfl) ?_ _; have hbz := HZ.out; clear hHeld; replace HB := qH (HB.out.trans (hbz.mono HB.out.size)); replace HV3 := qH (HV3.out.nx hbz); replace HV4 := qH (HV4.out.nx hbz); replace HOC := qH (HOC.out.nx hbz); replace HPE := qH (HPE.out.nx hbz); replace HQ6 := qH (HQ6.out.nx hbz); replace HV7 := qH (HV7.out.nx hbz); replace HV8 := qH (HV8.out.nx hbz); replace HR9 := qH (HR9.out.nx hbz); replace HVA := qH (HVA.out.nx hbz); replace HRA := qH (HRA.out.nx hbz); clear hbz; have v8 := HV8.out.var.cell; have l8 := HV8.out.var.load; have v3 := HV3.out.var.cell; have f3 := HV3.out.var.free 0; have lt3 := lt_of_block HV3.out.var; obtain ⟨w13, hw13, hV3, hT3⟩ := set_tr HV3.out HV8.out.tv; replace HB := qH (turn_below HB.out HX3B.out hT3); have HV4' := qH (HV4.out.turnT HV3.out (fun e => HX4B.out.2 e.symm) hT3); have HVA' := qH (HVA.out.turnT HV3.out (fun e => HXN.out.1 e.symm) hT3); replace HV3 := qH hV3; have HW13 := qH hw13; clear hw13 hV3 hT3
     go_upto_region 19 with fail
     rw [← HW13.out]; clear v8 l8 v3 f3 lt3; have v8 := HVA'.out.var.cell; have l8 := HVA'.out.var.load; have v4 := HV4'.out.var.cell; have f4 := HV4'.out.var.free 0; have lt4 := lt_of_block HV4'.out.var; obtain ⟨w14, hw14, hV4, hT4⟩ := set_tr HV4'.out HVA'.out.tv; replace HB := qH (turn_below HB.out HX4B.out.1 hT4); replace HV3 := qH (HV3.out.turnT HV4'.out HX4B.out.2 hT4); replace HV4 := qH hV4; have HW14 := qH hw14; clear hw14 hV4 hT4
     go_upto_region 20 with fail
     rw [← HW14.out]; clear v8 l8 v4 f4 lt4; have v3 := HV3.out.var.cell; have l3 := HV3.out.var.load; have hc := weighT HV3.out.tv 20000 (by omega); go_wp2_with fail; refine hc.mono ?_; rintro e w15 ⟨vw, rfl, hb⟩; replace HB := qH (HB.out.trans (hb.mono HB.out.size)); replace HV3 := qH (HV3.out.nx hb); replace HV4 := qH (HV4.out.nx hb); clear hc hb v3 l3
     by_cases hgw : (20000 : Int) < (vw : Int)
     ·go_wp2_with fail
      go_ret
      exact ⟨rfl, HB.out⟩
     ·go_wp2_with fail
      go_roundw
      case rel => exact ⟨k + 1, _, _, _, _, _, HLT.out, by go_num, HB.out, HV3.out, HV4.out⟩
      case measure => have := HLT.out; simp [RowKit.intOf]; omega
  ·obtain rfl : k = n := by omega
   clear hB; go_wp2_with fail; go_ret
   exact ⟨rfl, HB.out⟩
end
end Go.Proofs.YtinholnidchblaaGreatDoor
