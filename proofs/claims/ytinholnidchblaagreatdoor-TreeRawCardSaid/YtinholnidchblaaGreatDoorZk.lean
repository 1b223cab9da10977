import Derived.Test.YtinholnidchblaaGreatDoorQaw
import Derived.Test.YtinholnidchblaaGreatDoorOn
set_option linter.unusedVariables false
set_option linter.unusedSimpArgs false
set_option maxRecDepth 100000
set_option maxHeartbeats 16000000
namespace Go.Proofs.YtinholnidchblaaGreatDoor
open Go.RowKit
theorem ecut_len (E : List En) (s : ByteArray) : (ecut E s).length ≤ E.length := List.length_filter_le _ _
theorem few_cut {w w' : World} {n a : Nat} {na : Option Addr} {f g : Nat → Nc} {v : Value} {s : ByteArray} (hN : Nds w na n f) (hen : ∀ i, i < n → (f i).dn ≤ 1000000 ∧ (f i).en ≤ 100000) (ha : a < n) (hO : OwN w' v n g) (hL : ndL g n = cutE (ndL f n) a s) : ∀ i, i < n → (g i).dn ≤ 1000000 ∧ (g i).en ≤ 100000 := by
 intro i hi
 have h1 := ((hO.data i hi).1).len
 have h2 := ((hO.ents i hi).1.ens).len
 have h3 := ((hN.ents i hi).ens).len
 have h4 := (hN.data i hi).len
 have h5 := hen i hi
 have h6 : nat (ndL g n) i = nat (cutE (ndL f n) a s) i := by rw [hL]
 rw [nat_ndL hi] at h6
 unfold cutE at h6
 rw [nat_setE (by rw [ndL_len]; exact ha), nat_ndL hi, nat_ndL ha] at h6
 by_cases e : a = i
 ·rw [if_pos e] at h6
  subst e
  have e1 : (g a).d = (f a).d := congrArg Nd.d h6
  have e2 : (g a).e = ecut (f a).e s := congrArg Nd.e h6
  have e3 := ecut_len (f a).e s
  rw [e1] at h1
  rw [e2] at h2
  omega
 ·rw [if_neg e] at h6
  have e1 : (g i).d = (f i).d := congrArg Nd.d h6
  have e2 : (g i).e = (f i).e := congrArg Nd.e h6
  rw [e1] at h1
  rw [e2] at h2
  omega
theorem ren_same (L : List Nd) (k a b : Nat) (ns ms : List ByteArray) : renT L k a b (some k) ns ms = (L, .ok) := by simp [renT]
theorem ren_22 {L : List Nd} {k a b j : Nat} {ns ms : List ByteArray} (h : j ≠ k) (hk : isD (nat L k) = true) (hj : isD (nat L j) = false) : renT L k a b (some j) ns ms = (L, .bad 22) := by simp [renT, h, hk, hj]
theorem ren_23 {L : List Nd} {k a b j : Nat} {ns ms : List ByteArray} (h : j ≠ k) (hk : isD (nat L k) = false) (hj : isD (nat L j) = true) : renT L k a b (some j) ns ms = (L, .bad 23) := by simp [renT, h, hk, hj]
theorem ren_25 {L : List Nd} {k a b j : Nat} {ns ms : List ByteArray} {d : Bool} (h : j ≠ k) (hk : isD (nat L k) = d) (hj : isD (nat L j) = d) (he : (nat L j).e ≠ []) : renT L k a b (some j) ns ms = (L, .bad 25) := by cases d <;> simp [renT, h, hk, hj, he]
theorem ren_go {L : List Nd} {k a b j : Nat} {ns ms : List ByteArray} {d : Bool} (h : j ≠ k) (hk : isD (nat L k) = d) (hj : isD (nat L j) = d) (he : (nat L j).e = []) : renT L k a b (some j) ns ms = (putE (cutE L a (lstN ns)) b (lstN ms) k, .ok) := by cases d <;> simp [renT, h, hk, hj, he]
section
variable {w : World} {n c : Nat} {na : Option Addr} {f : Nat → Nc} {o i m : Int} {p q : ByteArray} {da : Option Addr} {dn dc : Nat}
theorem rrename_any (hN : Nds w na n f) (ht : Rgt (ndL f n)) (hen : ∀ i, i < n → (f i).dn ≤ 1000000 ∧ (f i).en ≤ 100000) (hp : p.size ≤ 1000000) (hq : q.size ≤ 1000000) :
  Calls Tryz.prog 77 #[.agg #[.slice na n c], .agg #[.int .i64 o, .string p, .string q, .int .i64 i, .int .i64 m, .slice da dn dc]] w (RefR w (oRen (ndL f n) (nms p) (nms q))) := by
 obtain ⟨RR, hRR⟩ : ∃ RR, RR = oRen (ndL f n) (nms p) (nms q) := ⟨_, rfl⟩
 rw [← hRR]
 have HRR := qH hRR
 obtain ⟨x, hx⟩ : ∃ x, x = w.heap.size := ⟨_, rfl⟩
 obtain ⟨w4, hw4, hI⟩ := op_start w na n c o i m p q da dn dc
 rw [← hx] at hI
 have HI0 := qH hI
 have HX := qH hx
 have HW4 := qH hw4
 unfold ResZ at hw4
 have HT := qH ht
 have HEN := qH hen
 have hn56 : n ≤ 56 := ht.le.2
 clear hRR hI hx ht
 obtain ⟨b1, b2, b3, b4, b5, b6⟩ := HI0.out.op.cells
 have l1 := HI0.out.box.load
 have l2 := HI0.out.box.cell
 have hc := rspl_any p w4 hp
 cases hpn : nms p with
 | none =>
  have RRP : Hid (RR = (ndL f n, .bad 20)) := qH (HRR.out.trans (by rw [hpn]; rfl))
  go_enter Tryz.func77, Tryz.ntmps77
  go_wp2_with fail
  rw [← HX.out, ← hw4]
  refine hc.mono ?_
  rintro e w5 ⟨hb, hsp, -⟩
  obtain rfl := hsp hpn
  have HI := qH (HI0.out.next hb)
  clear hc hb b1 b2 b3 b4 b5 b6 l1 l2 hsp
  have hc := rspl_any q w5 hq
  obtain ⟨b1, b2, b3, b4, b5, b6⟩ := HI.out.op.cells
  have l1 := HI.out.box.load
  have l2 := HI.out.box.cell
  go_wp2_with fail
  refine hc.mono ?_
  rintro e w6 ⟨hb6, hs0, hs1⟩
  have HI6 := qH (HI.out.next hb6)
  clear hc hb6 b1 b2 b3 b4 b5 b6 l1 l2
  cases hqn : nms q with
  | none =>
   obtain rfl := hs0 hqn; clear hs0 hs1; go_wp2_with fail; refine wp_region_held_drew (S := (fun w' => TrB w' x (.slice na n c))) (by kernel_rfl) ?_ (fun hHeld => ?_)
   ·exact HI6.out.box
   refine rgZ 0 ?_ rfl (.inl ⟨by rfl, fun w hSw => ?_⟩) ?_ (by kernel_rfl) (fun _ _ _ h => h) (by assumption); rotate_left
   ·have hl := TrB.load hSw
    have hcl := TrB.cell hSw; go_simp
    try with_reducible rfl
   simp only [Act.put, rg]; refine rgC 1 rfl (by kernel_rfl) (fun K hK => ?_); simp only [rg4, rg5, rg6]; go_simp; refine (rwrong_any _ (20)).mono ?_; rintro e w7 ⟨rfl, hb7⟩; have HI7 := qH (HI6.out.next ((below_drewN (Below.refl _ _) 1).trans hb7)); have HN7 := qH (hN.next HI7.out.bel); clear hb7 hHeld; go_wp2_with fail; refine hK.out _ _ HI7.out.box (fun _ => ?_); clear hK K; obtain ⟨r1, r2, r3, ⟨a0, a1, a2, a3, a4, a5⟩, f0, f1, f2, f3, f4, f5, fl⟩ := HI7.out.all; have HF1 := qH (HI7.out.fin (cc := c) HN7.out (resS_num w7 (20) 0 0 0)); refine rgC 2 rfl (by kernel_rfl) (fun K hK => ?_); simp only [rg4, rg5, rg6]; go_simp; go_wp2_with fail; refine hK.out _ _ HI7.out.b1 (fun _ => ?_); clear hK K; refine rgC 3 rfl (by kernel_rfl) (fun K hK => ?_); simp only [rg4, rg5, rg6]; go_simp; go_wp2_with fail; refine hK.out _ _ HI7.out.b6 (fun _ => ?_); clear hK K; refine wpAnyH_done (by kernel_rfl) ?_ _; clear r1 r2 r3 a0 a1 a2 a3 a4 a5 f0 f1 f2 f3 f4 f5 fl; go_wp2_with fail; refine HF1.out.ret rfl rfl rfl rfl ?_
   exact RRP.out ▸ HF1.out.refR rfl
  | some ms =>
   obtain ⟨a2, k2, cc2, L2, rfl, hL2, hSt2, hk2⟩ := hs1 ms hqn; have HST2 := qH hSt2; have HMS := qH hL2; have HQN := qH hqn; clear hs0 hs1 hSt2 hL2 hqn; have b1 := HI6.out.op.cells; have l1 := HI6.out.box.load; have l2 := HI6.out.box.cell; obtain ⟨b1, b2, b3, b4, b5, b6⟩ := b1; go_wp2_with fail; refine wp_region_held_drew (S := (fun w' => TrB w' x (.slice na n c))) (by kernel_rfl) ?_ (fun hHeld => ?_)
   ·exact HI6.out.box
   refine rgZ 0 ?_ rfl (.inl ⟨by rfl, fun w hSw => ?_⟩) ?_ (by kernel_rfl) (fun _ _ _ h => h) (by assumption); rotate_left
   ·have hl := TrB.load hSw
    have hcl := TrB.cell hSw; go_simp
    try with_reducible rfl
   simp only [Act.put, rg]; refine rgC 1 rfl (by kernel_rfl) (fun K hK => ?_); simp only [rg4, rg5, rg6]; go_simp; refine (rwrong_any _ (20)).mono ?_; rintro e w7 ⟨rfl, hb7⟩; have HI7 := qH (HI6.out.next ((below_drewN (Below.refl _ _) 1).trans hb7)); have HN7 := qH (hN.next HI7.out.bel); clear hb7 hHeld; go_wp2_with fail; refine hK.out _ _ HI7.out.box (fun _ => ?_); clear hK K; obtain ⟨r1, r2, r3, ⟨a0, a1, a2, a3, a4, a5⟩, f0, f1, f2, f3, f4, f5, fl⟩ := HI7.out.all; have HF1 := qH (HI7.out.fin (cc := c) HN7.out (resS_num w7 (20) 0 0 0)); refine rgC 2 rfl (by kernel_rfl) (fun K hK => ?_); simp only [rg4, rg5, rg6]; go_simp; go_wp2_with fail; refine hK.out _ _ HI7.out.b1 (fun _ => ?_); clear hK K; refine rgC 3 rfl (by kernel_rfl) (fun K hK => ?_); simp only [rg4, rg5, rg6]; go_simp; go_wp2_with fail; refine hK.out _ _ HI7.out.b6 (fun _ => ?_); clear hK K; refine wpAnyH_done (by kernel_rfl) ?_ _; clear r1 r2 r3 a0 a1 a2 a3 a4 a5 f0 f1 f2 f3 f4 f5 fl; go_wp2_with fail; refine HF1.out.ret rfl rfl rfl rfl ?_
   exact RRP.out ▸ HF1.out.refR rfl
 | some ns =>
  have HPN := qH hpn
  go_enter Tryz.func77, Tryz.ntmps77
  go_wp2_with fail
  rw [← HX.out, ← hw4]
  refine hc.mono ?_
  rintro e w5 ⟨hb, -, hsp⟩
  obtain ⟨a1, k1, cc1, L1, rfl, hL1, hSt1, hk1⟩ := hsp ns hpn
  have HST1 := qH hSt1
  have HNS := qH hL1
  clear hSt1 hL1 hpn
  have HI := qH (HI0.out.next hb)
  clear hc hb b1 b2 b3 b4 b5 b6 l1 l2 hsp
  have hc := rspl_any q w5 hq
  obtain ⟨b1, b2, b3, b4, b5, b6⟩ := HI.out.op.cells
  have l1 := HI.out.box.load
  have l2 := HI.out.box.cell
  go_wp2_with fail
  refine hc.mono ?_
  rintro e w6 ⟨hb6, hs0, hs1⟩
  have HI6 := qH (HI.out.next hb6)
  clear hc hb6 b1 b2 b3 b4 b5 b6 l1 l2
  cases hqn : nms q with
  | none =>
   have RRP : Hid (RR = (ndL f n, .bad 20)) := qH (HRR.out.trans (by rw [HPN.out, hqn]; rfl)); obtain rfl := hs0 hqn; clear hs0 hs1; go_wp2_with fail; refine wp_region_held_drew (S := (fun w' => TrB w' x (.slice na n c))) (by kernel_rfl) ?_ (fun hHeld => ?_)
   ·exact HI6.out.box
   refine rgZ 0 ?_ rfl (.inl ⟨by rfl, fun w hSw => ?_⟩) ?_ (by kernel_rfl) (fun _ _ _ h => h) (by assumption); rotate_left
   ·have hl := TrB.load hSw
    have hcl := TrB.cell hSw; go_simp
    try with_reducible rfl
   simp only [Act.put, rg]; refine rgC 1 rfl (by kernel_rfl) (fun K hK => ?_); simp only [rg4, rg5, rg6]; go_simp; refine (rwrong_any _ (20)).mono ?_; rintro e w7 ⟨rfl, hb7⟩; have HI7 := qH (HI6.out.next ((below_drewN (Below.refl _ _) 1).trans hb7)); have HN7 := qH (hN.next HI7.out.bel); clear hb7 hHeld; go_wp2_with fail; refine hK.out _ _ HI7.out.box (fun _ => ?_); clear hK K; obtain ⟨r1, r2, r3, ⟨a0, a1, a2, a3, a4, a5⟩, f0, f1, f2, f3, f4, f5, fl⟩ := HI7.out.all; have HF1 := qH (HI7.out.fin (cc := c) HN7.out (resS_num w7 (20) 0 0 0)); refine rgC 2 rfl (by kernel_rfl) (fun K hK => ?_); simp only [rg4, rg5, rg6]; go_simp; go_wp2_with fail; refine hK.out _ _ HI7.out.b1 (fun _ => ?_); clear hK K; refine rgC 3 rfl (by kernel_rfl) (fun K hK => ?_); simp only [rg4, rg5, rg6]; go_simp; go_wp2_with fail; refine hK.out _ _ HI7.out.b6 (fun _ => ?_); clear hK K; refine wpAnyH_done (by kernel_rfl) ?_ _; clear r1 r2 r3 a0 a1 a2 a3 a4 a5 f0 f1 f2 f3 f4 f5 fl; go_wp2_with fail; refine HF1.out.ret rfl rfl rfl rfl ?_
   exact RRP.out ▸ HF1.out.refR rfl
  | some ms =>
   obtain ⟨a2, k2, cc2, L2, rfl, hL2, hSt2, hk2⟩ := hs1 ms hqn; have HST2 := qH hSt2; have HMS := qH hL2; have HQN := qH hqn; clear hs0 hs1 hSt2 hL2 hqn; have b1 := HI6.out.op.cells; have l1 := HI6.out.box.load; have l2 := HI6.out.box.cell; obtain ⟨b1, b2, b3, b4, b5, b6⟩ := b1; have HRL : Hid (RR = oRen (ndL f n) (some ns) (some ms)) := qH (by rw [← HPN.out, ← HQN.out]; exact HRR.out)
   by_cases hr1 : ns = []
   ·have h47 : (p.toList == [47]) = true := root_yes (HPN.out.trans (by rw [hr1]))
    have RRP : Hid (RR = (ndL f n, .bad 29)) := qH (HRL.out.trans (oRen_r (Or.inl hr1))); clear hr1; go_wp2_with fail; refine wp_region_held_drew (S := (fun w' => TrB w' x (.slice na n c))) (by kernel_rfl) ?_ (fun hHeld => ?_)
    ·exact HI6.out.box
    refine rgZ 0 ?_ rfl (.inl ⟨by rfl, fun w hSw => ?_⟩) ?_ (by kernel_rfl) (fun _ _ _ h => h) (by assumption); rotate_left
    ·have hl := TrB.load hSw
     have hcl := TrB.cell hSw; go_simp
     try with_reducible rfl
    simp only [Act.put, rg]; refine rgC 1 rfl (by kernel_rfl) (fun K hK => ?_); simp only [rg4, rg5, rg6]; go_simp; refine (rwrong_any _ (29)).mono ?_; rintro e w7 ⟨rfl, hb7⟩; have HI7 := qH (HI6.out.next ((below_drewN (Below.refl _ _) 1).trans hb7)); have HN7 := qH (hN.next HI7.out.bel); clear hb7 hHeld; go_wp2_with fail; refine hK.out _ _ HI7.out.box (fun _ => ?_); clear hK K; obtain ⟨r1, r2, r3, ⟨a0, a1, a2, a3, a4, a5⟩, f0, f1, f2, f3, f4, f5, fl⟩ := HI7.out.all; have HF1 := qH (HI7.out.fin (cc := c) HN7.out (resS_num w7 (29) 0 0 0)); refine rgC 2 rfl (by kernel_rfl) (fun K hK => ?_); simp only [rg4, rg5, rg6]; go_simp; go_wp2_with fail; refine hK.out _ _ HI7.out.b1 (fun _ => ?_); clear hK K; refine rgC 3 rfl (by kernel_rfl) (fun K hK => ?_); simp only [rg4, rg5, rg6]; go_simp; go_wp2_with fail; refine hK.out _ _ HI7.out.b6 (fun _ => ?_); clear hK K; refine wpAnyH_done (by kernel_rfl) ?_ _; clear r1 r2 r3 a0 a1 a2 a3 a4 a5 f0 f1 f2 f3 f4 f5 fl; go_wp2_with fail; refine HF1.out.ret rfl rfl rfl rfl ?_
    exact RRP.out ▸ HF1.out.refR rfl
   ·have h47 : (p.toList == [47]) = false := root_no (by rw [HPN.out]; simpa using hr1)
    have HN1 := qH hr1; clear hr1
    by_cases hr2 : ms = []
    ·have h48 : (q.toList == [47]) = true := root_yes (HQN.out.trans (by rw [hr2]))
     have RRP : Hid (RR = (ndL f n, .bad 29)) := qH (HRL.out.trans (oRen_r (Or.inr hr2))); clear hr2; go_wp2_with fail; refine wp_region_held_drew (S := (fun w' => TrB w' x (.slice na n c))) (by kernel_rfl) ?_ (fun hHeld => ?_)
     ·exact HI6.out.box
     refine rgZ 0 ?_ rfl (.inl ⟨by rfl, fun w hSw => ?_⟩) ?_ (by kernel_rfl) (fun _ _ _ h => h) (by assumption); rotate_left
     ·have hl := TrB.load hSw
      have hcl := TrB.cell hSw; go_simp
      try with_reducible rfl
     simp only [Act.put, rg]; refine rgC 1 rfl (by kernel_rfl) (fun K hK => ?_); simp only [rg4, rg5, rg6]; go_simp; refine (rwrong_any _ (29)).mono ?_; rintro e w7 ⟨rfl, hb7⟩; have HI7 := qH (HI6.out.next ((below_drewN (Below.refl _ _) 1).trans hb7)); have HN7 := qH (hN.next HI7.out.bel); clear hb7 hHeld; go_wp2_with fail; refine hK.out _ _ HI7.out.box (fun _ => ?_); clear hK K; obtain ⟨r1, r2, r3, ⟨a0, a1, a2, a3, a4, a5⟩, f0, f1, f2, f3, f4, f5, fl⟩ := HI7.out.all; have HF1 := qH (HI7.out.fin (cc := c) HN7.out (resS_num w7 (29) 0 0 0)); refine rgC 2 rfl (by kernel_rfl) (fun K hK => ?_); simp only [rg4, rg5, rg6]; go_simp; go_wp2_with fail; refine hK.out _ _ HI7.out.b1 (fun _ => ?_); clear hK K; refine rgC 3 rfl (by kernel_rfl) (fun K hK => ?_); simp only [rg4, rg5, rg6]; go_simp; go_wp2_with fail; refine hK.out _ _ HI7.out.b6 (fun _ => ?_); clear hK K; refine wpAnyH_done (by kernel_rfl) ?_ _; clear r1 r2 r3 a0 a1 a2 a3 a4 a5 f0 f1 f2 f3 f4 f5 fl; go_wp2_with fail; refine HF1.out.ret rfl rfl rfl rfl ?_
     exact RRP.out ▸ HF1.out.refR rfl
    ·have h48 : (q.toList == [47]) = false := root_no (by rw [HQN.out]; simpa using hr2)
     have HN2 := qH hr2; clear hr2; have hc := rfindP_any (c := c) (hN.next HI6.out.bel) HT.out (fun i hi => by have := (HEN.out i hi).2; omega) p hp; rw [HPN.out] at hc; have hfo : findO (ndL f n) (some ns) = wlk (ndL f n) 0 ns := rfl; rw [hfo] at hc; clear hfo; go_wp2_with fail; refine hc.mono ?_; rintro e w7 ⟨rfl, hb7⟩; have HI7 := qH (HI6.out.next hb7); clear hc hb7 b1 b2 b3 b4 b5 b6 l1 l2; have b1 := HI7.out.op.cells; have l1 := HI7.out.box.load; have l2 := HI7.out.box.cell; obtain ⟨b1, b2, b3, b4, b5, b6⟩ := b1
     cases hw : wlk (ndL f n) 0 ns with
     | error e9 =>
      have RRP : Hid (RR = (ndL f n, .bad e9)) := qH (HRL.out.trans (oRen_w HN1.out HN2.out hw))
      have he9 : (e9 != 0) = true := by have := wlk_err0 hw; simpa using this
      dsimp only [wlkP]; clear hw; go_wp2_with fail; refine wp_region_held_drew (S := (fun w' => TrB w' x (.slice na n c))) (by kernel_rfl) ?_ (fun hHeld => ?_)
      ·exact HI7.out.box
      refine rgZ 0 ?_ rfl (.inl ⟨by rfl, fun w hSw => ?_⟩) ?_ (by kernel_rfl) (fun _ _ _ h => h) (by assumption); rotate_left
      ·have hl := TrB.load hSw
       have hcl := TrB.cell hSw; go_simp
       try with_reducible rfl
      simp only [Act.put, rg]; refine rgZ 1 ?_ rfl (.inl ⟨by rfl, fun w hSw => ?_⟩) ?_ (by kernel_rfl) (fun _ _ _ h => h) (by assumption); rotate_left
      ·(try dsimp only at hSw); go_simp; try with_reducible rfl
      simp only [Act.put, rg]; refine rgC 2 rfl (by kernel_rfl) (fun K hK => ?_); simp only [rg4, rg5, rg6]; go_simp; refine (rwrong_any _ (e9)).mono ?_; rintro e w9 ⟨rfl, hb7⟩; have HI7 := qH (HI7.out.next ((below_drewN (Below.refl _ _) 1).trans hb7)); have HN7 := qH (hN.next HI7.out.bel); clear hb7 hHeld; go_wp2_with fail; refine hK.out _ _ HI7.out.box (fun _ => ?_); clear hK K; obtain ⟨r1, r2, r3, ⟨a0, a1, a2, a3, a4, a5⟩, f0, f1, f2, f3, f4, f5, fl⟩ := HI7.out.all; have HF1 := qH (HI7.out.fin (cc := c) HN7.out (resS_num w9 (e9) 0 0 0)); refine rgC 3 rfl (by kernel_rfl) (fun K hK => ?_); simp only [rg4, rg5, rg6]; go_simp; go_wp2_with fail; refine hK.out _ _ HI7.out.b1 (fun _ => ?_); clear hK K; refine rgC 4 rfl (by kernel_rfl) (fun K hK => ?_); simp only [rg4, rg5, rg6]; go_simp; go_wp2_with fail; refine hK.out _ _ HI7.out.b6 (fun _ => ?_); clear hK K; refine wpAnyH_done (by kernel_rfl) ?_ _; clear r1 r2 r3 a0 a1 a2 a3 a4 a5 f0 f1 f2 f3 f4 f5 fl; go_wp2_with fail; refine HF1.out.ret rfl rfl rfl rfl ?_
      exact RRP.out ▸ HF1.out.refR rfl
     | ok k =>
      have hk : k < n := lt_wlk HT.out hw; have HK := qH hk; have HW := qH hw; have hnr := hN.next HI7.out.bel; obtain ⟨nb, off, rfl, hbl, d0, d1, d2, d3⟩ := hnr.at hk
      have k0 : (0 : Int) ≤ (k : Int) := by omega
      have k1' : (k : Int) < (n : Int) := by omega
      have hnk : nat (ndL f n) k = (f k).nd := nat_ndL hk; have HNK := qH hnk; dsimp only [wlkP]; clear hnr hnk hw
      cases hd : isD (f k).nd with
      | true =>
       have hd2 : ((f k).k == 2) = true := hd; have HD := qH (show isD (nat (ndL f n) k) = true by rw [HNK.out]; exact hd); clear hd
       by_cases hpq : q = p
       ·have hcm : (q.toList == p.toList) = true := by rw [text_same, decide_eq_true hpq]
        have hcm2 : (p.toList == q.toList) = true := by rw [text_same, decide_eq_true hpq.symm]
        have HLP : Hid (¬ (isD (nat (ndL f n) k) = true ∧ ms ≠ ns ∧ witN ms ns = true)) := qH (fun h => h.2.1 (by have h1 := HQN.out; rw [hpq, HPN.out] at h1; cases h1; rfl)); have HPQ := qH hpq; clear hpq; go_wp2_with fail; obtain ⟨a, hta⟩ := wlk_toB HW.out HN1.out; have HTA := qH hta; have hto := to_any (c := c) (hN.next HI7.out.bel) HT.out (fun i hi => by have := (HEN.out i hi).2; omega) p hp (by rw [HPN.out]; simpa using HN1.out); rw [HPN.out] at hto; dsimp only at hto; rw [hta] at hto; dsimp only [toP] at hto; refine hto.mono ?_; rintro e w11 ⟨rfl, hb11⟩; have HI11 := qH (HI7.out.next hb11); clear hto hb11 hta b1 b2 b3 b4 b5 b6 l1 l2 d0 d1 d2 d3; have b1 := HI11.out.op.cells; have l1 := HI11.out.box.load; have l2 := HI11.out.box.cell; obtain ⟨b1, b2, b3, b4, b5, b6⟩ := b1; go_wp2_with fail; have hto := to_any (c := c) (hN.next HI11.out.bel) HT.out (fun i hi => by have := (HEN.out i hi).2; omega) q hq (by rw [HQN.out]; simpa using HN2.out); rw [HQN.out] at hto; dsimp only at hto
        cases ht : toB (ndL f n) ms with
        | error e9 =>
         have RRP : Hid (RR = (ndL f n, .bad e9)) := qH (HRL.out.trans (oRen_e HN1.out HN2.out HW.out HLP.out ht))
         have hne9 : (e9 != 0) = true := by have := toB_err ht; simpa using this
         rw [ht] at hto; dsimp only [toP] at hto; refine hto.mono ?_; rintro e w12 ⟨rfl, hb12⟩; have HI12 := qH (HI11.out.next hb12); clear hto hb12 ht b1 b2 b3 b4 b5 b6 l1 l2; go_wp2_with fail; refine wp_region_held_drew (S := (fun w' => TrB w' x (.slice (some ⟨nb, off, none⟩) n c))) (by kernel_rfl) ?_ (fun hHeld => ?_)
         ·exact HI12.out.box
         refine rgZ 0 ?_ rfl (.inl ⟨by rfl, fun w hSw => ?_⟩) ?_ (by kernel_rfl) (fun _ _ _ h => h) (by assumption); rotate_left
         ·have hl := TrB.load hSw
          have hcl := TrB.cell hSw; go_simp
          try with_reducible rfl
         simp only [Act.put, rg]; refine rgZ 1 ?_ rfl (.inl ⟨by rfl, fun w hSw => ?_⟩) ?_ (by kernel_rfl) (fun _ _ _ h => h) (by assumption); rotate_left
         ·(try dsimp only at hSw); go_simp; try with_reducible rfl
         simp only [Act.put, rg]; refine rgC 2 rfl (by kernel_rfl) (fun K hK => ?_); simp only [rg4, rg5, rg6]; go_simp; refine (rwrong_any _ (e9)).mono ?_; rintro e w13 ⟨rfl, hb7⟩; have HI7 := qH (HI12.out.next ((below_drewN (Below.refl _ _) 1).trans hb7)); have HN7 := qH (hN.next HI7.out.bel); clear hb7 hHeld; go_wp2_with fail; refine hK.out _ _ HI7.out.box (fun _ => ?_); clear hK K; obtain ⟨r1, r2, r3, ⟨a0, a1, a2, a3, a4, a5⟩, f0, f1, f2, f3, f4, f5, fl⟩ := HI7.out.all; have HF1 := qH (HI7.out.fin (cc := c) HN7.out (resS_num w13 (e9) 0 0 0)); refine rgC 3 rfl (by kernel_rfl) (fun K hK => ?_); simp only [rg4, rg5, rg6]; go_simp; go_wp2_with fail; refine hK.out _ _ HI7.out.b1 (fun _ => ?_); clear hK K; refine rgC 4 rfl (by kernel_rfl) (fun K hK => ?_); simp only [rg4, rg5, rg6]; go_simp; go_wp2_with fail; refine hK.out _ _ HI7.out.b6 (fun _ => ?_); clear hK K; refine wpAnyH_done (by kernel_rfl) ?_ _; clear r1 r2 r3 a0 a1 a2 a3 a4 a5 f0 f1 f2 f3 f4 f5 fl; go_wp2_with fail; refine HF1.out.ret rfl rfl rfl rfl ?_
         exact RRP.out ▸ HF1.out.refR rfl
        | ok bo =>
         obtain ⟨b, o9⟩ := bo; have hb : b < n := lt_wlk HT.out (toB_ok ht).1; have HB := qH hb; have HTB := qH ht; have HA := qH (toB_kid HT.out HTA.out).1; have HRT := qH (HRL.out.trans (oRen_t HN1.out HN2.out HW.out HLP.out ht HTA.out)); rw [ht] at hto; clear ht
         cases o9 with
         | none =>
          dsimp only [toP] at hto; refine hto.mono ?_; rintro e w12 ⟨rfl, hb12⟩; have HI12 := qH (HI11.out.next hb12); clear hto hb12 b1 b2 b3 b4 b5 b6 l1 l2; have b1 := HI12.out.op.cells; have l1 := HI12.out.box.load; have l2 := HI12.out.box.cell; obtain ⟨b1, b2, b3, b4, b5, b6⟩ := b1; obtain ⟨_, _, h9, hbl8, g0, g1, g2, g3⟩ := (hN.next HI12.out.bel).at hb
          cases h9
          have i0 : (0 : Int) ≤ (b : Int) := by omega
          have i1 : (b : Int) < (n : Int) := by omega
          have hlen : (f b).nd.e.length = (f b).en := ((hN.ents b hb).ens).len; have HLE := qH hlen; clear hlen; have HRN : Hid (RR = if b ≠ a ∧ 64 ≤ (f b).nd.e.length then (ndL f n, .bad 27) else (putE (cutE (ndL f n) a (lstN ns)) b (lstN ms) k, .ok)) := qH (by have h := HRT.out; rw [renT, nat_ndL hb] at h; exact h)
          by_cases hba : b = a
          ·have hba1 : ((b : Int) != (a : Int)) = false := by simp [hba]
           have hba2 : ((b : Int) == (a : Int)) = true := by simp [hba]
           have RRP : Hid (RR = (putE (cutE (ndL f n) a (lstN ns)) b (lstN ms) k, .ok)) := qH (HRN.out.trans (if_neg (fun h => h.1 hba))); have HBA := qH hba; clear hba; have hc := rcutN_any (c := c) (hN.next HI12.out.bel) (by omega) HEN.out a HA.out (lstN ns); go_wp2_with fail; refine hc.mono ?_; rintro e w13 ⟨v, k9, g, rfl, hO, hL, hfresh, hb13⟩; obtain ⟨a9, c9, rfl⟩ := OwN.slice hO; have HI13 := qH (HI12.out.next hb13)
           have hk9 : k9 = n := by
            have h := congrArg List.length hL
            rwa [ndL_len, cutE_len, ndL_len] at h
           subst hk9; have hfew := few_cut hN HEN.out HA.out hO hL; have hp2 := rputN_any (c := c9) hO.nds (by omega) hfew b k HB.out (lstN ms); rw [hL] at hp2; clear hc hb13 hfresh hfew hO hL; go_wp2_with fail; refine hp2.mono ?_; rintro e w14 ⟨v2, k8, g2, rfl, hO2, hL2, hf2, hb14⟩; have HI14 := qH (HI13.out.next hb14); clear hp2 hb14 hf2 b1 b2 b3 b4 b5 b6 l1 l2; obtain ⟨a9, c9, rfl⟩ := OwN.slice hO2; have HN7 := qH (OwN.nds hO2); have HL7 := qH hL2; clear hO2 hL2; obtain ⟨r1, r2, r3, ⟨a0, a1, a2, a3, a4, a5⟩, f0, f1, f2, f3, f4, f5, fl⟩ := HI14.out.all; have HF1 := qH (HI14.out.fin (cc := c9) HN7.out (resS_num w14 0 0 0 0)); go_wp2_with fail; clear r1 r2 r3 a0 a1 a2 a3 a4 a5 f0 f1 f2 f3 f4 f5 fl; refine HF1.out.ret rfl rfl rfl rfl ?_
           exact RRP.out ▸ HF1.out.refR HL7.out
          ·have hba1 : ((b : Int) != (a : Int)) = true := by simp; omega
           have hba2 : ((b : Int) == (a : Int)) = false := by simp; omega
           have HBA := qH hba; clear hba
           by_cases h64 : 64 ≤ (f b).en
           ·have h64i : (64 : Int) ≤ ((f b).en : Int) := by omega
            have RRP : Hid (RR = (ndL f n, .bad 27)) := qH (HRN.out.trans (if_pos ⟨HBA.out, by have := HLE.out; omega⟩)); clear h64; go_wp2_with fail; refine wp_region_held_drew (S := (fun w' => TrB w' x (.slice (some ⟨nb, off, none⟩) n c))) (by kernel_rfl) ?_ (fun hHeld => ?_)
            ·exact HI12.out.box
            refine rgZ 0 ?_ rfl (.inl ⟨by rfl, fun w hSw => ?_⟩) ?_ (by kernel_rfl) (fun _ _ _ h => h) (by assumption); rotate_left
            ·have hl := TrB.load hSw
             have hcl := TrB.cell hSw; go_simp
             try with_reducible rfl
            simp only [Act.put, rg]; refine rgC 1 rfl (by kernel_rfl) (fun K hK => ?_); simp only [rg4, rg5, rg6]; go_simp; refine (rwrong_any _ (27)).mono ?_; rintro e w13 ⟨rfl, hb7⟩; have HI7 := qH (HI12.out.next ((below_drewN (Below.refl _ _) 1).trans hb7)); have HN7 := qH (hN.next HI7.out.bel); clear hb7 hHeld; go_wp2_with fail; refine hK.out _ _ HI7.out.box (fun _ => ?_); clear hK K; obtain ⟨r1, r2, r3, ⟨a0, a1, a2, a3, a4, a5⟩, f0, f1, f2, f3, f4, f5, fl⟩ := HI7.out.all; have HF1 := qH (HI7.out.fin (cc := c) HN7.out (resS_num w13 (27) 0 0 0)); refine rgC 2 rfl (by kernel_rfl) (fun K hK => ?_); simp only [rg4, rg5, rg6]; go_simp; go_wp2_with fail; refine hK.out _ _ HI7.out.b1 (fun _ => ?_); clear hK K; refine rgC 3 rfl (by kernel_rfl) (fun K hK => ?_); simp only [rg4, rg5, rg6]; go_simp; go_wp2_with fail; refine hK.out _ _ HI7.out.b6 (fun _ => ?_); clear hK K; refine wpAnyH_done (by kernel_rfl) ?_ _; clear r1 r2 r3 a0 a1 a2 a3 a4 a5 f0 f1 f2 f3 f4 f5 fl; go_wp2_with fail; refine HF1.out.ret rfl rfl rfl rfl ?_
            exact RRP.out ▸ HF1.out.refR rfl
           ·have h64i : ¬ (64 : Int) ≤ ((f b).en : Int) := by omega
            have RRP : Hid (RR = (putE (cutE (ndL f n) a (lstN ns)) b (lstN ms) k, .ok)) := qH (HRN.out.trans (if_neg (fun h => by have h1 := h.2; have h2 := HLE.out; omega))); clear h64; have hc := rcutN_any (c := c) (hN.next HI12.out.bel) (by omega) HEN.out a HA.out (lstN ns); go_wp2_with fail; refine hc.mono ?_; rintro e w13 ⟨v, k9, g, rfl, hO, hL, hfresh, hb13⟩; obtain ⟨a9, c9, rfl⟩ := OwN.slice hO; have HI13 := qH (HI12.out.next hb13)
            have hk9 : k9 = n := by
             have h := congrArg List.length hL
             rwa [ndL_len, cutE_len, ndL_len] at h
            subst hk9; have hfew := few_cut hN HEN.out HA.out hO hL; have hp2 := rputN_any (c := c9) hO.nds (by omega) hfew b k HB.out (lstN ms); rw [hL] at hp2; clear hc hb13 hfresh hfew hO hL; go_wp2_with fail; refine hp2.mono ?_; rintro e w14 ⟨v2, k8, g2, rfl, hO2, hL2, hf2, hb14⟩; have HI14 := qH (HI13.out.next hb14); clear hp2 hb14 hf2 b1 b2 b3 b4 b5 b6 l1 l2; obtain ⟨a9, c9, rfl⟩ := OwN.slice hO2; have HN7 := qH (OwN.nds hO2); have HL7 := qH hL2; clear hO2 hL2; obtain ⟨r1, r2, r3, ⟨a0, a1, a2, a3, a4, a5⟩, f0, f1, f2, f3, f4, f5, fl⟩ := HI14.out.all; have HF1 := qH (HI14.out.fin (cc := c9) HN7.out (resS_num w14 0 0 0 0)); go_wp2_with fail; clear r1 r2 r3 a0 a1 a2 a3 a4 a5 f0 f1 f2 f3 f4 f5 fl; refine HF1.out.ret rfl rfl rfl rfl ?_
            exact RRP.out ▸ HF1.out.refR HL7.out
         | some j =>
          dsimp only [toP] at hto; refine hto.mono ?_; rintro e w12 ⟨rfl, hb12⟩; have HI12 := qH (HI11.out.next hb12); clear hto hb12 b1 b2 b3 b4 b5 b6 l1 l2
          have hk0 : (0 : Int) ≤ (j : Int) := by omega
          have b1 := HI12.out.op.cells; have l1 := HI12.out.box.load; have l2 := HI12.out.box.cell; obtain ⟨b1, b2, b3, b4, b5, b6⟩ := b1; have hj : j < n := (toB_kid HT.out HTB.out).2.2; obtain ⟨_, _, h9, hbl8, g0, g1, g2, g3⟩ := (hN.next HI12.out.bel).at hj
          cases h9
          have i1 : (j : Int) < (n : Int) := by omega
          have hlen : (f j).nd.e.length = (f j).en := ((hN.ents j hj).ens).len; have HLE := qH hlen; have HNJ := qH (nat_ndL (f := f) hj); clear hlen
          by_cases hjk : j = k
          ·have hjk1 : ((j : Int) == (k : Int)) = true := by simp [hjk]
           have hjk2 : ((j : Int) != (k : Int)) = false := by simp [hjk]
           have RRP : Hid (RR = (ndL f n, .ok)) := qH (HRT.out.trans (by rw [hjk]; exact ren_same _ _ _ _ _ _)); have HJK := qH hjk; clear hjk; obtain ⟨r1, r2, r3, ⟨a0, a1, a2', a3, a4, a5⟩, f0, f1, f2, f3, f4, f5, fl⟩ := HI12.out.all; have HF1 := qH (HI12.out.fin (cc := c) (hN.next HI12.out.bel) (resS_num w12 0 0 0 0)); go_wp2_with fail; clear r1 r2 r3 a0 a1 a2' a3 a4 a5 f0 f1 f2 f3 f4 f5 fl; refine HF1.out.ret rfl rfl rfl rfl ?_
           exact RRP.out ▸ HF1.out.refR rfl
          ·have hjk1 : ((j : Int) == (k : Int)) = false := beq_false_of_ne (by omega)
           have hjk2 : ((j : Int) != (k : Int)) = true := bne_iff_ne.2 (by omega); have HJK := qH hjk; clear hjk
           cases hdj : isD (f j).nd with
           | false =>
            have hd3 : ((f j).k == 2) = false := hdj; have RRP : Hid (RR = (ndL f n, .bad 22)) := qH (HRT.out.trans (ren_22 HJK.out HD.out (by rw [HNJ.out]; exact hdj))); clear hdj; go_wp2_with fail; refine wp_region_held_drew (S := (fun w' => TrB w' x (.slice (some ⟨nb, off, none⟩) n c))) (by kernel_rfl) ?_ (fun hHeld => ?_)
            ·exact HI12.out.box
            refine rgZ 0 ?_ rfl (.inl ⟨by rfl, fun w hSw => ?_⟩) ?_ (by kernel_rfl) (fun _ _ _ h => h) (by assumption); rotate_left
            ·have hl := TrB.load hSw
             have hcl := TrB.cell hSw; go_simp
             try with_reducible rfl
            simp only [Act.put, rg]; refine rgC 1 rfl (by kernel_rfl) (fun K hK => ?_); simp only [rg4, rg5, rg6]; go_simp; refine (rwrong_any _ (22)).mono ?_; rintro e w13 ⟨rfl, hb7⟩; have HI7 := qH (HI12.out.next ((below_drewN (Below.refl _ _) 1).trans hb7)); have HN7 := qH (hN.next HI7.out.bel); clear hb7 hHeld; go_wp2_with fail; refine hK.out _ _ HI7.out.box (fun _ => ?_); clear hK K; obtain ⟨r1, r2, r3, ⟨a0, a1, a2, a3, a4, a5⟩, f0, f1, f2, f3, f4, f5, fl⟩ := HI7.out.all; have HF1 := qH (HI7.out.fin (cc := c) HN7.out (resS_num w13 (22) 0 0 0)); refine rgC 2 rfl (by kernel_rfl) (fun K hK => ?_); simp only [rg4, rg5, rg6]; go_simp; go_wp2_with fail; refine hK.out _ _ HI7.out.b1 (fun _ => ?_); clear hK K; refine rgC 3 rfl (by kernel_rfl) (fun K hK => ?_); simp only [rg4, rg5, rg6]; go_simp; go_wp2_with fail; refine hK.out _ _ HI7.out.b6 (fun _ => ?_); clear hK K; refine wpAnyH_done (by kernel_rfl) ?_ _; clear r1 r2 r3 a0 a1 a2 a3 a4 a5 f0 f1 f2 f3 f4 f5 fl; go_wp2_with fail; refine HF1.out.ret rfl rfl rfl rfl ?_
            exact RRP.out ▸ HF1.out.refR rfl
           | true =>
            have hd3 : ((f j).k == 2) = true := hdj; have HDJ := qH (show isD (nat (ndL f n) j) = true by rw [HNJ.out]; exact hdj); clear hdj
            by_cases he0 : (f j).en = 0
            ·have he1 : (((f j).en : Int) != 0) = false := by simp [he0]
             have RRP : Hid (RR = (putE (cutE (ndL f n) a (lstN ns)) b (lstN ms) k, .ok)) := qH (HRT.out.trans (ren_go HJK.out HD.out HDJ.out (by rw [HNJ.out]; exact List.eq_nil_of_length_eq_zero (HLE.out.trans he0)))); rw [he0] at g3; clear he0; have hc := rcutN_any (c := c) (hN.next HI12.out.bel) (by omega) HEN.out a HA.out (lstN ns); go_wp2_with fail; refine hc.mono ?_; rintro e w13 ⟨v, k9, g, rfl, hO, hL, hfresh, hb13⟩; obtain ⟨a9, c9, rfl⟩ := OwN.slice hO; have HI13 := qH (HI12.out.next hb13)
             have hk9 : k9 = n := by
              have h := congrArg List.length hL
              rwa [ndL_len, cutE_len, ndL_len] at h
             subst hk9; have hfew := few_cut hN HEN.out HA.out hO hL; have hp2 := rputN_any (c := c9) hO.nds (by omega) hfew b k HB.out (lstN ms); rw [hL] at hp2; clear hc hb13 hfresh hfew hO hL; go_wp2_with fail; refine hp2.mono ?_; rintro e w14 ⟨v2, k8, g2, rfl, hO2, hL2, hf2, hb14⟩; have HI14 := qH (HI13.out.next hb14); clear hp2 hb14 hf2 b1 b2 b3 b4 b5 b6 l1 l2; obtain ⟨a9, c9, rfl⟩ := OwN.slice hO2; have HN7 := qH (OwN.nds hO2); have HL7 := qH hL2; clear hO2 hL2; obtain ⟨r1, r2, r3, ⟨a0, a1, a2, a3, a4, a5⟩, f0, f1, f2, f3, f4, f5, fl⟩ := HI14.out.all; have HF1 := qH (HI14.out.fin (cc := c9) HN7.out (resS_num w14 0 0 0 0)); go_wp2_with fail; clear r1 r2 r3 a0 a1 a2 a3 a4 a5 f0 f1 f2 f3 f4 f5 fl; refine HF1.out.ret rfl rfl rfl rfl ?_
             exact RRP.out ▸ HF1.out.refR HL7.out
            ·have he1 : (((f j).en : Int) != 0) = true := by simpa using he0
             have he2 : (0 : Int) < ((f j).en : Int) := by omega
             have RRP : Hid (RR = (ndL f n, .bad 25)) := qH (HRT.out.trans (ren_25 HJK.out HD.out HDJ.out (by rw [HNJ.out]; intro h; have h8 := HLE.out; rw [h] at h8; exact he0 (by simpa using h8.symm)))); clear he0; go_wp2_with fail; refine wp_region_held_drew (S := (fun w' => TrB w' x (.slice (some ⟨nb, off, none⟩) n c))) (by kernel_rfl) ?_ (fun hHeld => ?_)
             ·exact HI12.out.box
             refine rgZ 0 ?_ rfl (.inl ⟨by rfl, fun w hSw => ?_⟩) ?_ (by kernel_rfl) (fun _ _ _ h => h) (by assumption); rotate_left
             ·have hl := TrB.load hSw
              have hcl := TrB.cell hSw; go_simp
              try with_reducible rfl
             simp only [Act.put, rg]; refine rgC 1 rfl (by kernel_rfl) (fun K hK => ?_); simp only [rg4, rg5, rg6]; go_simp; refine (rwrong_any _ (25)).mono ?_; rintro e w13 ⟨rfl, hb7⟩; have HI7 := qH (HI12.out.next ((below_drewN (Below.refl _ _) 1).trans hb7)); have HN7 := qH (hN.next HI7.out.bel); clear hb7 hHeld; go_wp2_with fail; refine hK.out _ _ HI7.out.box (fun _ => ?_); clear hK K; obtain ⟨r1, r2, r3, ⟨a0, a1, a2, a3, a4, a5⟩, f0, f1, f2, f3, f4, f5, fl⟩ := HI7.out.all; have HF1 := qH (HI7.out.fin (cc := c) HN7.out (resS_num w13 (25) 0 0 0)); refine rgC 2 rfl (by kernel_rfl) (fun K hK => ?_); simp only [rg4, rg5, rg6]; go_simp; go_wp2_with fail; refine hK.out _ _ HI7.out.b1 (fun _ => ?_); clear hK K; refine rgC 3 rfl (by kernel_rfl) (fun K hK => ?_); simp only [rg4, rg5, rg6]; go_simp; go_wp2_with fail; refine hK.out _ _ HI7.out.b6 (fun _ => ?_); clear hK K; refine wpAnyH_done (by kernel_rfl) ?_ _; clear r1 r2 r3 a0 a1 a2 a3 a4 a5 f0 f1 f2 f3 f4 f5 fl; go_wp2_with fail; refine HF1.out.ret rfl rfl rfl rfl ?_
             exact RRP.out ▸ HF1.out.refR rfl
       ·have hcm : (q.toList == p.toList) = false := by rw [text_same, decide_eq_false hpq]
        have hcm2 : (p.toList == q.toList) = false := by rw [text_same, decide_eq_false (fun e => hpq e.symm)]
        have hwi := rwithin_any q p w7 hq hp; rw [wit_names HQN.out HPN.out] at hwi
        have hmn : ms ≠ ns := fun e => hpq (nms_inj (by rw [HQN.out, e]) HPN.out)
        have HMN := qH hmn; clear hpq hmn; go_wp2_with fail; refine hwi.mono ?_; rintro e w8 ⟨rfl, hb8⟩; have HI8 := qH (HI7.out.next hb8); clear hwi hb8 b1 b2 b3 b4 b5 b6 l1 l2 d0 d1 d2 d3; have b1 := HI8.out.op.cells; have l1 := HI8.out.box.load; have l2 := HI8.out.box.cell; obtain ⟨b1, b2, b3, b4, b5, b6⟩ := b1; have d0 := True.intro; have d1 := True.intro; have d2 := True.intro; have d3 := True.intro
        cases hwt : witN ms ns with
        | true =>
         have RRP : Hid (RR = (ndL f n, .bad 29)) := qH (HRL.out.trans (oRen_l HN1.out HN2.out HW.out ⟨HD.out, HMN.out, hwt⟩)); clear hwt; go_wp2_with fail; refine wp_region_held_drew (S := (fun w' => TrB w' x (.slice (some ⟨nb, off, none⟩) n c))) (by kernel_rfl) ?_ (fun hHeld => ?_)
         ·exact HI8.out.box
         refine rgZ 0 ?_ rfl (.inl ⟨by rfl, fun w hSw => ?_⟩) ?_ (by kernel_rfl) (fun _ _ _ h => h) (by assumption); rotate_left
         ·have hl := TrB.load hSw
          have hcl := TrB.cell hSw; go_simp
          try with_reducible rfl
         simp only [Act.put, rg]; refine rgC 1 rfl (by kernel_rfl) (fun K hK => ?_); simp only [rg4, rg5, rg6]; go_simp; refine (rwrong_any _ (29)).mono ?_; rintro e w9 ⟨rfl, hb7⟩; have HI7 := qH (HI8.out.next ((below_drewN (Below.refl _ _) 1).trans hb7)); have HN7 := qH (hN.next HI7.out.bel); clear hb7 hHeld; go_wp2_with fail; refine hK.out _ _ HI7.out.box (fun _ => ?_); clear hK K; obtain ⟨r1, r2, r3, ⟨a0, a1, a2, a3, a4, a5⟩, f0, f1, f2, f3, f4, f5, fl⟩ := HI7.out.all; have HF1 := qH (HI7.out.fin (cc := c) HN7.out (resS_num w9 (29) 0 0 0)); refine rgC 2 rfl (by kernel_rfl) (fun K hK => ?_); simp only [rg4, rg5, rg6]; go_simp; go_wp2_with fail; refine hK.out _ _ HI7.out.b1 (fun _ => ?_); clear hK K; refine rgC 3 rfl (by kernel_rfl) (fun K hK => ?_); simp only [rg4, rg5, rg6]; go_simp; go_wp2_with fail; refine hK.out _ _ HI7.out.b6 (fun _ => ?_); clear hK K; refine wpAnyH_done (by kernel_rfl) ?_ _; clear r1 r2 r3 a0 a1 a2 a3 a4 a5 f0 f1 f2 f3 f4 f5 fl; go_wp2_with fail; refine HF1.out.ret rfl rfl rfl rfl ?_
         exact RRP.out ▸ HF1.out.refR rfl
        | false =>
         have HLP : Hid (¬ (isD (nat (ndL f n) k) = true ∧ ms ≠ ns ∧ witN ms ns = true)) := qH (fun h => by rw [hwt] at h; cases h.2.2); clear hwt; go_wp2_with fail; obtain ⟨a, hta⟩ := wlk_toB HW.out HN1.out; have HTA := qH hta; have hto := to_any (c := c) (hN.next HI8.out.bel) HT.out (fun i hi => by have := (HEN.out i hi).2; omega) p hp (by rw [HPN.out]; simpa using HN1.out); rw [HPN.out] at hto; dsimp only at hto; rw [hta] at hto; dsimp only [toP] at hto; refine hto.mono ?_; rintro e w11 ⟨rfl, hb11⟩; have HI11 := qH (HI8.out.next hb11); clear hto hb11 hta b1 b2 b3 b4 b5 b6 l1 l2 d0 d1 d2 d3; have b1 := HI11.out.op.cells; have l1 := HI11.out.box.load; have l2 := HI11.out.box.cell; obtain ⟨b1, b2, b3, b4, b5, b6⟩ := b1; go_wp2_with fail; have hto := to_any (c := c) (hN.next HI11.out.bel) HT.out (fun i hi => by have := (HEN.out i hi).2; omega) q hq (by rw [HQN.out]; simpa using HN2.out); rw [HQN.out] at hto; dsimp only at hto
         cases ht : toB (ndL f n) ms with
         | error e9 =>
          have RRP : Hid (RR = (ndL f n, .bad e9)) := qH (HRL.out.trans (oRen_e HN1.out HN2.out HW.out HLP.out ht))
          have hne9 : (e9 != 0) = true := by have := toB_err ht; simpa using this
          rw [ht] at hto; dsimp only [toP] at hto; refine hto.mono ?_; rintro e w12 ⟨rfl, hb12⟩; have HI12 := qH (HI11.out.next hb12); clear hto hb12 ht b1 b2 b3 b4 b5 b6 l1 l2; go_wp2_with fail; refine wp_region_held_drew (S := (fun w' => TrB w' x (.slice (some ⟨nb, off, none⟩) n c))) (by kernel_rfl) ?_ (fun hHeld => ?_)
          ·exact HI12.out.box
          refine rgZ 0 ?_ rfl (.inl ⟨by rfl, fun w hSw => ?_⟩) ?_ (by kernel_rfl) (fun _ _ _ h => h) (by assumption); rotate_left
          ·have hl := TrB.load hSw
           have hcl := TrB.cell hSw; go_simp
           try with_reducible rfl
          simp only [Act.put, rg]; refine rgZ 1 ?_ rfl (.inl ⟨by rfl, fun w hSw => ?_⟩) ?_ (by kernel_rfl) (fun _ _ _ h => h) (by assumption); rotate_left
          ·(try dsimp only at hSw); go_simp; try with_reducible rfl
          simp only [Act.put, rg]; refine rgC 2 rfl (by kernel_rfl) (fun K hK => ?_); simp only [rg4, rg5, rg6]; go_simp; refine (rwrong_any _ (e9)).mono ?_; rintro e w13 ⟨rfl, hb7⟩; have HI7 := qH (HI12.out.next ((below_drewN (Below.refl _ _) 1).trans hb7)); have HN7 := qH (hN.next HI7.out.bel); clear hb7 hHeld; go_wp2_with fail; refine hK.out _ _ HI7.out.box (fun _ => ?_); clear hK K; obtain ⟨r1, r2, r3, ⟨a0, a1, a2, a3, a4, a5⟩, f0, f1, f2, f3, f4, f5, fl⟩ := HI7.out.all; have HF1 := qH (HI7.out.fin (cc := c) HN7.out (resS_num w13 (e9) 0 0 0)); refine rgC 3 rfl (by kernel_rfl) (fun K hK => ?_); simp only [rg4, rg5, rg6]; go_simp; go_wp2_with fail; refine hK.out _ _ HI7.out.b1 (fun _ => ?_); clear hK K; refine rgC 4 rfl (by kernel_rfl) (fun K hK => ?_); simp only [rg4, rg5, rg6]; go_simp; go_wp2_with fail; refine hK.out _ _ HI7.out.b6 (fun _ => ?_); clear hK K; refine wpAnyH_done (by kernel_rfl) ?_ _; clear r1 r2 r3 a0 a1 a2 a3 a4 a5 f0 f1 f2 f3 f4 f5 fl; go_wp2_with fail; refine HF1.out.ret rfl rfl rfl rfl ?_
          exact RRP.out ▸ HF1.out.refR rfl
         | ok bo =>
          obtain ⟨b, o9⟩ := bo; have hb : b < n := lt_wlk HT.out (toB_ok ht).1; have HB := qH hb; have HTB := qH ht; have HA := qH (toB_kid HT.out HTA.out).1; have HRT := qH (HRL.out.trans (oRen_t HN1.out HN2.out HW.out HLP.out ht HTA.out)); rw [ht] at hto; clear ht
          cases o9 with
          | none =>
           dsimp only [toP] at hto; refine hto.mono ?_; rintro e w12 ⟨rfl, hb12⟩; have HI12 := qH (HI11.out.next hb12); clear hto hb12 b1 b2 b3 b4 b5 b6 l1 l2; have b1 := HI12.out.op.cells; have l1 := HI12.out.box.load; have l2 := HI12.out.box.cell; obtain ⟨b1, b2, b3, b4, b5, b6⟩ := b1; obtain ⟨_, _, h9, hbl8, g0, g1, g2, g3⟩ := (hN.next HI12.out.bel).at hb
           cases h9
           have i0 : (0 : Int) ≤ (b : Int) := by omega
           have i1 : (b : Int) < (n : Int) := by omega
           have hlen : (f b).nd.e.length = (f b).en := ((hN.ents b hb).ens).len; have HLE := qH hlen; clear hlen; have HRN : Hid (RR = if b ≠ a ∧ 64 ≤ (f b).nd.e.length then (ndL f n, .bad 27) else (putE (cutE (ndL f n) a (lstN ns)) b (lstN ms) k, .ok)) := qH (by have h := HRT.out; rw [renT, nat_ndL hb] at h; exact h)
           by_cases hba : b = a
           ·have hba1 : ((b : Int) != (a : Int)) = false := by simp [hba]
            have hba2 : ((b : Int) == (a : Int)) = true := by simp [hba]
            have RRP : Hid (RR = (putE (cutE (ndL f n) a (lstN ns)) b (lstN ms) k, .ok)) := qH (HRN.out.trans (if_neg (fun h => h.1 hba))); have HBA := qH hba; clear hba; have hc := rcutN_any (c := c) (hN.next HI12.out.bel) (by omega) HEN.out a HA.out (lstN ns); go_wp2_with fail; refine hc.mono ?_; rintro e w13 ⟨v, k9, g, rfl, hO, hL, hfresh, hb13⟩; obtain ⟨a9, c9, rfl⟩ := OwN.slice hO; have HI13 := qH (HI12.out.next hb13)
            have hk9 : k9 = n := by
             have h := congrArg List.length hL
             rwa [ndL_len, cutE_len, ndL_len] at h
            subst hk9; have hfew := few_cut hN HEN.out HA.out hO hL; have hp2 := rputN_any (c := c9) hO.nds (by omega) hfew b k HB.out (lstN ms); rw [hL] at hp2; clear hc hb13 hfresh hfew hO hL; go_wp2_with fail; refine hp2.mono ?_; rintro e w14 ⟨v2, k8, g2, rfl, hO2, hL2, hf2, hb14⟩; have HI14 := qH (HI13.out.next hb14); clear hp2 hb14 hf2 b1 b2 b3 b4 b5 b6 l1 l2; obtain ⟨a9, c9, rfl⟩ := OwN.slice hO2; have HN7 := qH (OwN.nds hO2); have HL7 := qH hL2; clear hO2 hL2; obtain ⟨r1, r2, r3, ⟨a0, a1, a2, a3, a4, a5⟩, f0, f1, f2, f3, f4, f5, fl⟩ := HI14.out.all; have HF1 := qH (HI14.out.fin (cc := c9) HN7.out (resS_num w14 0 0 0 0)); go_wp2_with fail; clear r1 r2 r3 a0 a1 a2 a3 a4 a5 f0 f1 f2 f3 f4 f5 fl; refine HF1.out.ret rfl rfl rfl rfl ?_
            exact RRP.out ▸ HF1.out.refR HL7.out
           ·have hba1 : ((b : Int) != (a : Int)) = true := by simp; omega
            have hba2 : ((b : Int) == (a : Int)) = false := by simp; omega
            have HBA := qH hba; clear hba
            by_cases h64 : 64 ≤ (f b).en
            ·have h64i : (64 : Int) ≤ ((f b).en : Int) := by omega
             have RRP : Hid (RR = (ndL f n, .bad 27)) := qH (HRN.out.trans (if_pos ⟨HBA.out, by have := HLE.out; omega⟩)); clear h64; go_wp2_with fail; refine wp_region_held_drew (S := (fun w' => TrB w' x (.slice (some ⟨nb, off, none⟩) n c))) (by kernel_rfl) ?_ (fun hHeld => ?_)
             ·exact HI12.out.box
             refine rgZ 0 ?_ rfl (.inl ⟨by rfl, fun w hSw => ?_⟩) ?_ (by kernel_rfl) (fun _ _ _ h => h) (by assumption); rotate_left
             ·have hl := TrB.load hSw
              have hcl := TrB.cell hSw; go_simp
              try with_reducible rfl
             simp only [Act.put, rg]; refine rgC 1 rfl (by kernel_rfl) (fun K hK => ?_); simp only [rg4, rg5, rg6]; go_simp; refine (rwrong_any _ (27)).mono ?_; rintro e w13 ⟨rfl, hb7⟩; have HI7 := qH (HI12.out.next ((below_drewN (Below.refl _ _) 1).trans hb7)); have HN7 := qH (hN.next HI7.out.bel); clear hb7 hHeld; go_wp2_with fail; refine hK.out _ _ HI7.out.box (fun _ => ?_); clear hK K; obtain ⟨r1, r2, r3, ⟨a0, a1, a2, a3, a4, a5⟩, f0, f1, f2, f3, f4, f5, fl⟩ := HI7.out.all; have HF1 := qH (HI7.out.fin (cc := c) HN7.out (resS_num w13 (27) 0 0 0)); refine rgC 2 rfl (by kernel_rfl) (fun K hK => ?_); simp only [rg4, rg5, rg6]; go_simp; go_wp2_with fail; refine hK.out _ _ HI7.out.b1 (fun _ => ?_); clear hK K; refine rgC 3 rfl (by kernel_rfl) (fun K hK => ?_); simp only [rg4, rg5, rg6]; go_simp; go_wp2_with fail; refine hK.out _ _ HI7.out.b6 (fun _ => ?_); clear hK K; refine wpAnyH_done (by kernel_rfl) ?_ _; clear r1 r2 r3 a0 a1 a2 a3 a4 a5 f0 f1 f2 f3 f4 f5 fl; go_wp2_with fail; refine HF1.out.ret rfl rfl rfl rfl ?_
             exact RRP.out ▸ HF1.out.refR rfl
            ·have h64i : ¬ (64 : Int) ≤ ((f b).en : Int) := by omega
             have RRP : Hid (RR = (putE (cutE (ndL f n) a (lstN ns)) b (lstN ms) k, .ok)) := qH (HRN.out.trans (if_neg (fun h => by have h1 := h.2; have h2 := HLE.out; omega))); clear h64; have hc := rcutN_any (c := c) (hN.next HI12.out.bel) (by omega) HEN.out a HA.out (lstN ns); go_wp2_with fail; refine hc.mono ?_; rintro e w13 ⟨v, k9, g, rfl, hO, hL, hfresh, hb13⟩; obtain ⟨a9, c9, rfl⟩ := OwN.slice hO; have HI13 := qH (HI12.out.next hb13)
             have hk9 : k9 = n := by
              have h := congrArg List.length hL
              rwa [ndL_len, cutE_len, ndL_len] at h
             subst hk9; have hfew := few_cut hN HEN.out HA.out hO hL; have hp2 := rputN_any (c := c9) hO.nds (by omega) hfew b k HB.out (lstN ms); rw [hL] at hp2; clear hc hb13 hfresh hfew hO hL; go_wp2_with fail; refine hp2.mono ?_; rintro e w14 ⟨v2, k8, g2, rfl, hO2, hL2, hf2, hb14⟩; have HI14 := qH (HI13.out.next hb14); clear hp2 hb14 hf2 b1 b2 b3 b4 b5 b6 l1 l2; obtain ⟨a9, c9, rfl⟩ := OwN.slice hO2; have HN7 := qH (OwN.nds hO2); have HL7 := qH hL2; clear hO2 hL2; obtain ⟨r1, r2, r3, ⟨a0, a1, a2, a3, a4, a5⟩, f0, f1, f2, f3, f4, f5, fl⟩ := HI14.out.all; have HF1 := qH (HI14.out.fin (cc := c9) HN7.out (resS_num w14 0 0 0 0)); go_wp2_with fail; clear r1 r2 r3 a0 a1 a2 a3 a4 a5 f0 f1 f2 f3 f4 f5 fl; refine HF1.out.ret rfl rfl rfl rfl ?_
             exact RRP.out ▸ HF1.out.refR HL7.out
          | some j =>
           dsimp only [toP] at hto; refine hto.mono ?_; rintro e w12 ⟨rfl, hb12⟩; have HI12 := qH (HI11.out.next hb12); clear hto hb12 b1 b2 b3 b4 b5 b6 l1 l2
           have hk0 : (0 : Int) ≤ (j : Int) := by omega
           have b1 := HI12.out.op.cells; have l1 := HI12.out.box.load; have l2 := HI12.out.box.cell; obtain ⟨b1, b2, b3, b4, b5, b6⟩ := b1; have hj : j < n := (toB_kid HT.out HTB.out).2.2; obtain ⟨_, _, h9, hbl8, g0, g1, g2, g3⟩ := (hN.next HI12.out.bel).at hj
           cases h9
           have i1 : (j : Int) < (n : Int) := by omega
           have hlen : (f j).nd.e.length = (f j).en := ((hN.ents j hj).ens).len; have HLE := qH hlen; have HNJ := qH (nat_ndL (f := f) hj); clear hlen
           by_cases hjk : j = k
           ·have hjk1 : ((j : Int) == (k : Int)) = true := by simp [hjk]
            have hjk2 : ((j : Int) != (k : Int)) = false := by simp [hjk]
            have RRP : Hid (RR = (ndL f n, .ok)) := qH (HRT.out.trans (by rw [hjk]; exact ren_same _ _ _ _ _ _)); have HJK := qH hjk; clear hjk; obtain ⟨r1, r2, r3, ⟨a0, a1, a2', a3, a4, a5⟩, f0, f1, f2, f3, f4, f5, fl⟩ := HI12.out.all; have HF1 := qH (HI12.out.fin (cc := c) (hN.next HI12.out.bel) (resS_num w12 0 0 0 0)); go_wp2_with fail; clear r1 r2 r3 a0 a1 a2' a3 a4 a5 f0 f1 f2 f3 f4 f5 fl; refine HF1.out.ret rfl rfl rfl rfl ?_
            exact RRP.out ▸ HF1.out.refR rfl
           ·have hjk1 : ((j : Int) == (k : Int)) = false := beq_false_of_ne (by omega)
            have hjk2 : ((j : Int) != (k : Int)) = true := bne_iff_ne.2 (by omega); have HJK := qH hjk; clear hjk
            cases hdj : isD (f j).nd with
            | false =>
             have hd3 : ((f j).k == 2) = false := hdj; have RRP : Hid (RR = (ndL f n, .bad 22)) := qH (HRT.out.trans (ren_22 HJK.out HD.out (by rw [HNJ.out]; exact hdj))); clear hdj; go_wp2_with fail; refine wp_region_held_drew (S := (fun w' => TrB w' x (.slice (some ⟨nb, off, none⟩) n c))) (by kernel_rfl) ?_ (fun hHeld => ?_)
             ·exact HI12.out.box
             refine rgZ 0 ?_ rfl (.inl ⟨by rfl, fun w hSw => ?_⟩) ?_ (by kernel_rfl) (fun _ _ _ h => h) (by assumption); rotate_left
             ·have hl := TrB.load hSw
              have hcl := TrB.cell hSw; go_simp
              try with_reducible rfl
             simp only [Act.put, rg]; refine rgC 1 rfl (by kernel_rfl) (fun K hK => ?_); simp only [rg4, rg5, rg6]; go_simp; refine (rwrong_any _ (22)).mono ?_; rintro e w13 ⟨rfl, hb7⟩; have HI7 := qH (HI12.out.next ((below_drewN (Below.refl _ _) 1).trans hb7)); have HN7 := qH (hN.next HI7.out.bel); clear hb7 hHeld; go_wp2_with fail; refine hK.out _ _ HI7.out.box (fun _ => ?_); clear hK K; obtain ⟨r1, r2, r3, ⟨a0, a1, a2, a3, a4, a5⟩, f0, f1, f2, f3, f4, f5, fl⟩ := HI7.out.all; have HF1 := qH (HI7.out.fin (cc := c) HN7.out (resS_num w13 (22) 0 0 0)); refine rgC 2 rfl (by kernel_rfl) (fun K hK => ?_); simp only [rg4, rg5, rg6]; go_simp; go_wp2_with fail; refine hK.out _ _ HI7.out.b1 (fun _ => ?_); clear hK K; refine rgC 3 rfl (by kernel_rfl) (fun K hK => ?_); simp only [rg4, rg5, rg6]; go_simp; go_wp2_with fail; refine hK.out _ _ HI7.out.b6 (fun _ => ?_); clear hK K; refine wpAnyH_done (by kernel_rfl) ?_ _; clear r1 r2 r3 a0 a1 a2 a3 a4 a5 f0 f1 f2 f3 f4 f5 fl; go_wp2_with fail; refine HF1.out.ret rfl rfl rfl rfl ?_
             exact RRP.out ▸ HF1.out.refR rfl
            | true =>
             have hd3 : ((f j).k == 2) = true := hdj; have HDJ := qH (show isD (nat (ndL f n) j) = true by rw [HNJ.out]; exact hdj); clear hdj
             by_cases he0 : (f j).en = 0
             ·have he1 : (((f j).en : Int) != 0) = false := by simp [he0]
              have RRP : Hid (RR = (putE (cutE (ndL f n) a (lstN ns)) b (lstN ms) k, .ok)) := qH (HRT.out.trans (ren_go HJK.out HD.out HDJ.out (by rw [HNJ.out]; exact List.eq_nil_of_length_eq_zero (HLE.out.trans he0)))); rw [he0] at g3; clear he0; have hc := rcutN_any (c := c) (hN.next HI12.out.bel) (by omega) HEN.out a HA.out (lstN ns); go_wp2_with fail; refine hc.mono ?_; rintro e w13 ⟨v, k9, g, rfl, hO, hL, hfresh, hb13⟩; obtain ⟨a9, c9, rfl⟩ := OwN.slice hO; have HI13 := qH (HI12.out.next hb13)
              have hk9 : k9 = n := by
               have h := congrArg List.length hL
               rwa [ndL_len, cutE_len, ndL_len] at h
              subst hk9; have hfew := few_cut hN HEN.out HA.out hO hL; have hp2 := rputN_any (c := c9) hO.nds (by omega) hfew b k HB.out (lstN ms); rw [hL] at hp2; clear hc hb13 hfresh hfew hO hL; go_wp2_with fail; refine hp2.mono ?_; rintro e w14 ⟨v2, k8, g2, rfl, hO2, hL2, hf2, hb14⟩; have HI14 := qH (HI13.out.next hb14); clear hp2 hb14 hf2 b1 b2 b3 b4 b5 b6 l1 l2; obtain ⟨a9, c9, rfl⟩ := OwN.slice hO2; have HN7 := qH (OwN.nds hO2); have HL7 := qH hL2; clear hO2 hL2; obtain ⟨r1, r2, r3, ⟨a0, a1, a2, a3, a4, a5⟩, f0, f1, f2, f3, f4, f5, fl⟩ := HI14.out.all; have HF1 := qH (HI14.out.fin (cc := c9) HN7.out (resS_num w14 0 0 0 0)); go_wp2_with fail; clear r1 r2 r3 a0 a1 a2 a3 a4 a5 f0 f1 f2 f3 f4 f5 fl; refine HF1.out.ret rfl rfl rfl rfl ?_
              exact RRP.out ▸ HF1.out.refR HL7.out
             ·have he1 : (((f j).en : Int) != 0) = true := by simpa using he0
              have he2 : (0 : Int) < ((f j).en : Int) := by omega
              have RRP : Hid (RR = (ndL f n, .bad 25)) := qH (HRT.out.trans (ren_25 HJK.out HD.out HDJ.out (by rw [HNJ.out]; intro h; have h8 := HLE.out; rw [h] at h8; exact he0 (by simpa using h8.symm)))); clear he0; go_wp2_with fail; refine wp_region_held_drew (S := (fun w' => TrB w' x (.slice (some ⟨nb, off, none⟩) n c))) (by kernel_rfl) ?_ (fun hHeld => ?_)
              ·exact HI12.out.box
              refine rgZ 0 ?_ rfl (.inl ⟨by rfl, fun w hSw => ?_⟩) ?_ (by kernel_rfl) (fun _ _ _ h => h) (by assumption); rotate_left
              ·have hl := TrB.load hSw
               have hcl := TrB.cell hSw; go_simp
               try with_reducible rfl
              simp only [Act.put, rg]; refine rgC 1 rfl (by kernel_rfl) (fun K hK => ?_); simp only [rg4, rg5, rg6]; go_simp; refine (rwrong_any _ (25)).mono ?_; rintro e w13 ⟨rfl, hb7⟩; have HI7 := qH (HI12.out.next ((below_drewN (Below.refl _ _) 1).trans hb7)); have HN7 := qH (hN.next HI7.out.bel); clear hb7 hHeld; go_wp2_with fail; refine hK.out _ _ HI7.out.box (fun _ => ?_); clear hK K; obtain ⟨r1, r2, r3, ⟨a0, a1, a2, a3, a4, a5⟩, f0, f1, f2, f3, f4, f5, fl⟩ := HI7.out.all; have HF1 := qH (HI7.out.fin (cc := c) HN7.out (resS_num w13 (25) 0 0 0)); refine rgC 2 rfl (by kernel_rfl) (fun K hK => ?_); simp only [rg4, rg5, rg6]; go_simp; go_wp2_with fail; refine hK.out _ _ HI7.out.b1 (fun _ => ?_); clear hK K; refine rgC 3 rfl (by kernel_rfl) (fun K hK => ?_); simp only [rg4, rg5, rg6]; go_simp; go_wp2_with fail; refine hK.out _ _ HI7.out.b6 (fun _ => ?_); clear hK K; refine wpAnyH_done (by kernel_rfl) ?_ _; clear r1 r2 r3 a0 a1 a2 a3 a4 a5 f0 f1 f2 f3 f4 f5 fl; go_wp2_with fail; refine HF1.out.ret rfl rfl rfl rfl ?_
              exact RRP.out ▸ HF1.out.refR rfl
      | false =>
       have hd2 : ((f k).k == 2) = false := hd; have HD := qH (show isD (nat (ndL f n) k) = false by rw [HNK.out]; exact hd); have HLP : Hid (¬ (isD (nat (ndL f n) k) = true ∧ ms ≠ ns ∧ witN ms ns = true)) := qH (fun h => by rw [HD.out] at h; cases h.1); clear hd; go_wp2_with fail; obtain ⟨a, hta⟩ := wlk_toB HW.out HN1.out; have HTA := qH hta; have hto := to_any (c := c) (hN.next HI7.out.bel) HT.out (fun i hi => by have := (HEN.out i hi).2; omega) p hp (by rw [HPN.out]; simpa using HN1.out); rw [HPN.out] at hto; dsimp only at hto; rw [hta] at hto; dsimp only [toP] at hto; refine hto.mono ?_; rintro e w11 ⟨rfl, hb11⟩; have HI11 := qH (HI7.out.next hb11); clear hto hb11 hta b1 b2 b3 b4 b5 b6 l1 l2 d0 d1 d2 d3; have b1 := HI11.out.op.cells; have l1 := HI11.out.box.load; have l2 := HI11.out.box.cell; obtain ⟨b1, b2, b3, b4, b5, b6⟩ := b1; go_wp2_with fail; have hto := to_any (c := c) (hN.next HI11.out.bel) HT.out (fun i hi => by have := (HEN.out i hi).2; omega) q hq (by rw [HQN.out]; simpa using HN2.out); rw [HQN.out] at hto; dsimp only at hto
       cases ht : toB (ndL f n) ms with
       | error e9 =>
        have RRP : Hid (RR = (ndL f n, .bad e9)) := qH (HRL.out.trans (oRen_e HN1.out HN2.out HW.out HLP.out ht))
        have hne9 : (e9 != 0) = true := by have := toB_err ht; simpa using this
        rw [ht] at hto; dsimp only [toP] at hto; refine hto.mono ?_; rintro e w12 ⟨rfl, hb12⟩; have HI12 := qH (HI11.out.next hb12); clear hto hb12 ht b1 b2 b3 b4 b5 b6 l1 l2; go_wp2_with fail; refine wp_region_held_drew (S := (fun w' => TrB w' x (.slice (some ⟨nb, off, none⟩) n c))) (by kernel_rfl) ?_ (fun hHeld => ?_)
        ·exact HI12.out.box
        refine rgZ 0 ?_ rfl (.inl ⟨by rfl, fun w hSw => ?_⟩) ?_ (by kernel_rfl) (fun _ _ _ h => h) (by assumption); rotate_left
        ·have hl := TrB.load hSw
         have hcl := TrB.cell hSw; go_simp
         try with_reducible rfl
        simp only [Act.put, rg]; refine rgZ 1 ?_ rfl (.inl ⟨by rfl, fun w hSw => ?_⟩) ?_ (by kernel_rfl) (fun _ _ _ h => h) (by assumption); rotate_left
        ·(try dsimp only at hSw); go_simp; try with_reducible rfl
        simp only [Act.put, rg]; refine rgC 2 rfl (by kernel_rfl) (fun K hK => ?_); simp only [rg4, rg5, rg6]; go_simp; refine (rwrong_any _ (e9)).mono ?_; rintro e w13 ⟨rfl, hb7⟩; have HI7 := qH (HI12.out.next ((below_drewN (Below.refl _ _) 1).trans hb7)); have HN7 := qH (hN.next HI7.out.bel); clear hb7 hHeld; go_wp2_with fail; refine hK.out _ _ HI7.out.box (fun _ => ?_); clear hK K; obtain ⟨r1, r2, r3, ⟨a0, a1, a2, a3, a4, a5⟩, f0, f1, f2, f3, f4, f5, fl⟩ := HI7.out.all; have HF1 := qH (HI7.out.fin (cc := c) HN7.out (resS_num w13 (e9) 0 0 0)); refine rgC 3 rfl (by kernel_rfl) (fun K hK => ?_); simp only [rg4, rg5, rg6]; go_simp; go_wp2_with fail; refine hK.out _ _ HI7.out.b1 (fun _ => ?_); clear hK K; refine rgC 4 rfl (by kernel_rfl) (fun K hK => ?_); simp only [rg4, rg5, rg6]; go_simp; go_wp2_with fail; refine hK.out _ _ HI7.out.b6 (fun _ => ?_); clear hK K; refine wpAnyH_done (by kernel_rfl) ?_ _; clear r1 r2 r3 a0 a1 a2 a3 a4 a5 f0 f1 f2 f3 f4 f5 fl; go_wp2_with fail; refine HF1.out.ret rfl rfl rfl rfl ?_
        exact RRP.out ▸ HF1.out.refR rfl
       | ok bo =>
        obtain ⟨b, o9⟩ := bo; have hb : b < n := lt_wlk HT.out (toB_ok ht).1; have HB := qH hb; have HTB := qH ht; have HA := qH (toB_kid HT.out HTA.out).1; have HRT := qH (HRL.out.trans (oRen_t HN1.out HN2.out HW.out HLP.out ht HTA.out)); rw [ht] at hto; clear ht
        cases o9 with
        | none =>
         dsimp only [toP] at hto; refine hto.mono ?_; rintro e w12 ⟨rfl, hb12⟩; have HI12 := qH (HI11.out.next hb12); clear hto hb12 b1 b2 b3 b4 b5 b6 l1 l2; have b1 := HI12.out.op.cells; have l1 := HI12.out.box.load; have l2 := HI12.out.box.cell; obtain ⟨b1, b2, b3, b4, b5, b6⟩ := b1; obtain ⟨_, _, h9, hbl8, g0, g1, g2, g3⟩ := (hN.next HI12.out.bel).at hb
         cases h9
         have i0 : (0 : Int) ≤ (b : Int) := by omega
         have i1 : (b : Int) < (n : Int) := by omega
         have hlen : (f b).nd.e.length = (f b).en := ((hN.ents b hb).ens).len; have HLE := qH hlen; clear hlen; have HRN : Hid (RR = if b ≠ a ∧ 64 ≤ (f b).nd.e.length then (ndL f n, .bad 27) else (putE (cutE (ndL f n) a (lstN ns)) b (lstN ms) k, .ok)) := qH (by have h := HRT.out; rw [renT, nat_ndL hb] at h; exact h)
         by_cases hba : b = a
         ·have hba1 : ((b : Int) != (a : Int)) = false := by simp [hba]
          have hba2 : ((b : Int) == (a : Int)) = true := by simp [hba]
          have RRP : Hid (RR = (putE (cutE (ndL f n) a (lstN ns)) b (lstN ms) k, .ok)) := qH (HRN.out.trans (if_neg (fun h => h.1 hba))); have HBA := qH hba; clear hba; have hc := rcutN_any (c := c) (hN.next HI12.out.bel) (by omega) HEN.out a HA.out (lstN ns); go_wp2_with fail; refine hc.mono ?_; rintro e w13 ⟨v, k9, g, rfl, hO, hL, hfresh, hb13⟩; obtain ⟨a9, c9, rfl⟩ := OwN.slice hO; have HI13 := qH (HI12.out.next hb13)
          have hk9 : k9 = n := by
           have h := congrArg List.length hL
           rwa [ndL_len, cutE_len, ndL_len] at h
          subst hk9; have hfew := few_cut hN HEN.out HA.out hO hL; have hp2 := rputN_any (c := c9) hO.nds (by omega) hfew b k HB.out (lstN ms); rw [hL] at hp2; clear hc hb13 hfresh hfew hO hL; go_wp2_with fail; refine hp2.mono ?_; rintro e w14 ⟨v2, k8, g2, rfl, hO2, hL2, hf2, hb14⟩; have HI14 := qH (HI13.out.next hb14); clear hp2 hb14 hf2 b1 b2 b3 b4 b5 b6 l1 l2; obtain ⟨a9, c9, rfl⟩ := OwN.slice hO2; have HN7 := qH (OwN.nds hO2); have HL7 := qH hL2; clear hO2 hL2; obtain ⟨r1, r2, r3, ⟨a0, a1, a2, a3, a4, a5⟩, f0, f1, f2, f3, f4, f5, fl⟩ := HI14.out.all; have HF1 := qH (HI14.out.fin (cc := c9) HN7.out (resS_num w14 0 0 0 0)); go_wp2_with fail; clear r1 r2 r3 a0 a1 a2 a3 a4 a5 f0 f1 f2 f3 f4 f5 fl; refine HF1.out.ret rfl rfl rfl rfl ?_
          exact RRP.out ▸ HF1.out.refR HL7.out
         ·have hba1 : ((b : Int) != (a : Int)) = true := by simp; omega
          have hba2 : ((b : Int) == (a : Int)) = false := by simp; omega
          have HBA := qH hba; clear hba
          by_cases h64 : 64 ≤ (f b).en
          ·have h64i : (64 : Int) ≤ ((f b).en : Int) := by omega
           have RRP : Hid (RR = (ndL f n, .bad 27)) := qH (HRN.out.trans (if_pos ⟨HBA.out, by have := HLE.out; omega⟩)); clear h64; go_wp2_with fail; refine wp_region_held_drew (S := (fun w' => TrB w' x (.slice (some ⟨nb, off, none⟩) n c))) (by kernel_rfl) ?_ (fun hHeld => ?_)
           ·exact HI12.out.box
           refine rgZ 0 ?_ rfl (.inl ⟨by rfl, fun w hSw => ?_⟩) ?_ (by kernel_rfl) (fun _ _ _ h => h) (by assumption); rotate_left
           ·have hl := TrB.load hSw
            have hcl := TrB.cell hSw; go_simp
            try with_reducible rfl
           simp only [Act.put, rg]; refine rgC 1 rfl (by kernel_rfl) (fun K hK => ?_); simp only [rg4, rg5, rg6]; go_simp; refine (rwrong_any _ (27)).mono ?_; rintro e w13 ⟨rfl, hb7⟩; have HI7 := qH (HI12.out.next ((below_drewN (Below.refl _ _) 1).trans hb7)); have HN7 := qH (hN.next HI7.out.bel); clear hb7 hHeld; go_wp2_with fail; refine hK.out _ _ HI7.out.box (fun _ => ?_); clear hK K; obtain ⟨r1, r2, r3, ⟨a0, a1, a2, a3, a4, a5⟩, f0, f1, f2, f3, f4, f5, fl⟩ := HI7.out.all; have HF1 := qH (HI7.out.fin (cc := c) HN7.out (resS_num w13 (27) 0 0 0)); refine rgC 2 rfl (by kernel_rfl) (fun K hK => ?_); simp only [rg4, rg5, rg6]; go_simp; go_wp2_with fail; refine hK.out _ _ HI7.out.b1 (fun _ => ?_); clear hK K; refine rgC 3 rfl (by kernel_rfl) (fun K hK => ?_); simp only [rg4, rg5, rg6]; go_simp; go_wp2_with fail; refine hK.out _ _ HI7.out.b6 (fun _ => ?_); clear hK K; refine wpAnyH_done (by kernel_rfl) ?_ _; clear r1 r2 r3 a0 a1 a2 a3 a4 a5 f0 f1 f2 f3 f4 f5 fl; go_wp2_with fail; refine HF1.out.ret rfl rfl rfl rfl ?_
           exact RRP.out ▸ HF1.out.refR rfl
          ·have h64i : ¬ (64 : Int) ≤ ((f b).en : Int) := by omega
           have RRP : Hid (RR = (putE (cutE (ndL f n) a (lstN ns)) b (lstN ms) k, .ok)) := qH (HRN.out.trans (if_neg (fun h => by have h1 := h.2; have h2 := HLE.out; omega))); clear h64; have hc := rcutN_any (c := c) (hN.next HI12.out.bel) (by omega) HEN.out a HA.out (lstN ns); go_wp2_with fail; refine hc.mono ?_; rintro e w13 ⟨v, k9, g, rfl, hO, hL, hfresh, hb13⟩; obtain ⟨a9, c9, rfl⟩ := OwN.slice hO; have HI13 := qH (HI12.out.next hb13)
           have hk9 : k9 = n := by
            have h := congrArg List.length hL
            rwa [ndL_len, cutE_len, ndL_len] at h
           subst hk9; have hfew := few_cut hN HEN.out HA.out hO hL; have hp2 := rputN_any (c := c9) hO.nds (by omega) hfew b k HB.out (lstN ms); rw [hL] at hp2; clear hc hb13 hfresh hfew hO hL; go_wp2_with fail; refine hp2.mono ?_; rintro e w14 ⟨v2, k8, g2, rfl, hO2, hL2, hf2, hb14⟩; have HI14 := qH (HI13.out.next hb14); clear hp2 hb14 hf2 b1 b2 b3 b4 b5 b6 l1 l2; obtain ⟨a9, c9, rfl⟩ := OwN.slice hO2; have HN7 := qH (OwN.nds hO2); have HL7 := qH hL2; clear hO2 hL2; obtain ⟨r1, r2, r3, ⟨a0, a1, a2, a3, a4, a5⟩, f0, f1, f2, f3, f4, f5, fl⟩ := HI14.out.all; have HF1 := qH (HI14.out.fin (cc := c9) HN7.out (resS_num w14 0 0 0 0)); go_wp2_with fail; clear r1 r2 r3 a0 a1 a2 a3 a4 a5 f0 f1 f2 f3 f4 f5 fl; refine HF1.out.ret rfl rfl rfl rfl ?_
           exact RRP.out ▸ HF1.out.refR HL7.out
        | some j =>
         dsimp only [toP] at hto; refine hto.mono ?_; rintro e w12 ⟨rfl, hb12⟩; have HI12 := qH (HI11.out.next hb12); clear hto hb12 b1 b2 b3 b4 b5 b6 l1 l2
         have hk0 : (0 : Int) ≤ (j : Int) := by omega
         have b1 := HI12.out.op.cells; have l1 := HI12.out.box.load; have l2 := HI12.out.box.cell; obtain ⟨b1, b2, b3, b4, b5, b6⟩ := b1; have hj : j < n := (toB_kid HT.out HTB.out).2.2; obtain ⟨_, _, h9, hbl8, g0, g1, g2, g3⟩ := (hN.next HI12.out.bel).at hj
         cases h9
         have i1 : (j : Int) < (n : Int) := by omega
         have hlen : (f j).nd.e.length = (f j).en := ((hN.ents j hj).ens).len; have HLE := qH hlen; have HNJ := qH (nat_ndL (f := f) hj); clear hlen
         by_cases hjk : j = k
         ·have hjk1 : ((j : Int) == (k : Int)) = true := by simp [hjk]
          have hjk2 : ((j : Int) != (k : Int)) = false := by simp [hjk]
          have RRP : Hid (RR = (ndL f n, .ok)) := qH (HRT.out.trans (by rw [hjk]; exact ren_same _ _ _ _ _ _)); have HJK := qH hjk; clear hjk; obtain ⟨r1, r2, r3, ⟨a0, a1, a2', a3, a4, a5⟩, f0, f1, f2, f3, f4, f5, fl⟩ := HI12.out.all; have HF1 := qH (HI12.out.fin (cc := c) (hN.next HI12.out.bel) (resS_num w12 0 0 0 0)); go_wp2_with fail; clear r1 r2 r3 a0 a1 a2' a3 a4 a5 f0 f1 f2 f3 f4 f5 fl; refine HF1.out.ret rfl rfl rfl rfl ?_
          exact RRP.out ▸ HF1.out.refR rfl
         ·have hjk1 : ((j : Int) == (k : Int)) = false := beq_false_of_ne (by omega)
          have hjk2 : ((j : Int) != (k : Int)) = true := bne_iff_ne.2 (by omega); have HJK := qH hjk; clear hjk
          cases hdj : isD (f j).nd with
          | true =>
           have hd3 : ((f j).k == 2) = true := hdj; have RRP : Hid (RR = (ndL f n, .bad 23)) := qH (HRT.out.trans (ren_23 HJK.out HD.out (by rw [HNJ.out]; exact hdj))); clear hdj; go_wp2_with fail; refine wp_region_held_drew (S := (fun w' => TrB w' x (.slice (some ⟨nb, off, none⟩) n c))) (by kernel_rfl) ?_ (fun hHeld => ?_)
           ·exact HI12.out.box
           refine rgZ 0 ?_ rfl (.inl ⟨by rfl, fun w hSw => ?_⟩) ?_ (by kernel_rfl) (fun _ _ _ h => h) (by assumption); rotate_left
           ·have hl := TrB.load hSw
            have hcl := TrB.cell hSw; go_simp
            try with_reducible rfl
           simp only [Act.put, rg]; refine rgC 1 rfl (by kernel_rfl) (fun K hK => ?_); simp only [rg4, rg5, rg6]; go_simp; refine (rwrong_any _ (23)).mono ?_; rintro e w13 ⟨rfl, hb7⟩; have HI7 := qH (HI12.out.next ((below_drewN (Below.refl _ _) 1).trans hb7)); have HN7 := qH (hN.next HI7.out.bel); clear hb7 hHeld; go_wp2_with fail; refine hK.out _ _ HI7.out.box (fun _ => ?_); clear hK K; obtain ⟨r1, r2, r3, ⟨a0, a1, a2, a3, a4, a5⟩, f0, f1, f2, f3, f4, f5, fl⟩ := HI7.out.all; have HF1 := qH (HI7.out.fin (cc := c) HN7.out (resS_num w13 (23) 0 0 0)); refine rgC 2 rfl (by kernel_rfl) (fun K hK => ?_); simp only [rg4, rg5, rg6]; go_simp; go_wp2_with fail; refine hK.out _ _ HI7.out.b1 (fun _ => ?_); clear hK K; refine rgC 3 rfl (by kernel_rfl) (fun K hK => ?_); simp only [rg4, rg5, rg6]; go_simp; go_wp2_with fail; refine hK.out _ _ HI7.out.b6 (fun _ => ?_); clear hK K; refine wpAnyH_done (by kernel_rfl) ?_ _; clear r1 r2 r3 a0 a1 a2 a3 a4 a5 f0 f1 f2 f3 f4 f5 fl; go_wp2_with fail; refine HF1.out.ret rfl rfl rfl rfl ?_
           exact RRP.out ▸ HF1.out.refR rfl
          | false =>
           have hd3 : ((f j).k == 2) = false := hdj; have HDJ := qH (show isD (nat (ndL f n) j) = false by rw [HNJ.out]; exact hdj); clear hdj
           by_cases he0 : (f j).en = 0
           ·have he1 : (((f j).en : Int) != 0) = false := by simp [he0]
            have RRP : Hid (RR = (putE (cutE (ndL f n) a (lstN ns)) b (lstN ms) k, .ok)) := qH (HRT.out.trans (ren_go HJK.out HD.out HDJ.out (by rw [HNJ.out]; exact List.eq_nil_of_length_eq_zero (HLE.out.trans he0)))); rw [he0] at g3; clear he0; have hc := rcutN_any (c := c) (hN.next HI12.out.bel) (by omega) HEN.out a HA.out (lstN ns); go_wp2_with fail; refine hc.mono ?_; rintro e w13 ⟨v, k9, g, rfl, hO, hL, hfresh, hb13⟩; obtain ⟨a9, c9, rfl⟩ := OwN.slice hO; have HI13 := qH (HI12.out.next hb13)
            have hk9 : k9 = n := by
             have h := congrArg List.length hL
             rwa [ndL_len, cutE_len, ndL_len] at h
            subst hk9; have hfew := few_cut hN HEN.out HA.out hO hL; have hp2 := rputN_any (c := c9) hO.nds (by omega) hfew b k HB.out (lstN ms); rw [hL] at hp2; clear hc hb13 hfresh hfew hO hL; go_wp2_with fail; refine hp2.mono ?_; rintro e w14 ⟨v2, k8, g2, rfl, hO2, hL2, hf2, hb14⟩; have HI14 := qH (HI13.out.next hb14); clear hp2 hb14 hf2 b1 b2 b3 b4 b5 b6 l1 l2; obtain ⟨a9, c9, rfl⟩ := OwN.slice hO2; have HN7 := qH (OwN.nds hO2); have HL7 := qH hL2; clear hO2 hL2; obtain ⟨r1, r2, r3, ⟨a0, a1, a2, a3, a4, a5⟩, f0, f1, f2, f3, f4, f5, fl⟩ := HI14.out.all; have HF1 := qH (HI14.out.fin (cc := c9) HN7.out (resS_num w14 0 0 0 0)); go_wp2_with fail; clear r1 r2 r3 a0 a1 a2 a3 a4 a5 f0 f1 f2 f3 f4 f5 fl; refine HF1.out.ret rfl rfl rfl rfl ?_
            exact RRP.out ▸ HF1.out.refR HL7.out
           ·have he1 : (((f j).en : Int) != 0) = true := by simpa using he0
            have he2 : (0 : Int) < ((f j).en : Int) := by omega
            have RRP : Hid (RR = (ndL f n, .bad 25)) := qH (HRT.out.trans (ren_25 HJK.out HD.out HDJ.out (by rw [HNJ.out]; intro h; have h8 := HLE.out; rw [h] at h8; exact he0 (by simpa using h8.symm)))); clear he0; go_wp2_with fail; refine wp_region_held_drew (S := (fun w' => TrB w' x (.slice (some ⟨nb, off, none⟩) n c))) (by kernel_rfl) ?_ (fun hHeld => ?_)
            ·exact HI12.out.box
            refine rgZ 0 ?_ rfl (.inl ⟨by rfl, fun w hSw => ?_⟩) ?_ (by kernel_rfl) (fun _ _ _ h => h) (by assumption); rotate_left
            ·have hl := TrB.load hSw
             have hcl := TrB.cell hSw; go_simp
             try with_reducible rfl
            simp only [Act.put, rg]; refine rgC 1 rfl (by kernel_rfl) (fun K hK => ?_); simp only [rg4, rg5, rg6]; go_simp; refine (rwrong_any _ (25)).mono ?_; rintro e w13 ⟨rfl, hb7⟩; have HI7 := qH (HI12.out.next ((below_drewN (Below.refl _ _) 1).trans hb7)); have HN7 := qH (hN.next HI7.out.bel); clear hb7 hHeld; go_wp2_with fail; refine hK.out _ _ HI7.out.box (fun _ => ?_); clear hK K; obtain ⟨r1, r2, r3, ⟨a0, a1, a2, a3, a4, a5⟩, f0, f1, f2, f3, f4, f5, fl⟩ := HI7.out.all; have HF1 := qH (HI7.out.fin (cc := c) HN7.out (resS_num w13 (25) 0 0 0)); refine rgC 2 rfl (by kernel_rfl) (fun K hK => ?_); simp only [rg4, rg5, rg6]; go_simp; go_wp2_with fail; refine hK.out _ _ HI7.out.b1 (fun _ => ?_); clear hK K; refine rgC 3 rfl (by kernel_rfl) (fun K hK => ?_); simp only [rg4, rg5, rg6]; go_simp; go_wp2_with fail; refine hK.out _ _ HI7.out.b6 (fun _ => ?_); clear hK K; refine wpAnyH_done (by kernel_rfl) ?_ _; clear r1 r2 r3 a0 a1 a2 a3 a4 a5 f0 f1 f2 f3 f4 f5 fl; go_wp2_with fail; refine HF1.out.ret rfl rfl rfl rfl ?_
            exact RRP.out ▸ HF1.out.refR rfl
end
end Go.Proofs.YtinholnidchblaaGreatDoor
