import Derived.Test.YtinholnidchblaaGreatDoorZg
set_option linter.unusedVariables false
set_option linter.unusedSimpArgs false
set_option maxRecDepth 100000
set_option maxHeartbeats 16000000
namespace Go.Proofs.YtinholnidchblaaGreatDoor
open Go.RowKit
theorem rspl_any (p : ByteArray) (w : World) (hp : p.size ≤ 1000000) : Calls Tryz.prog 82 #[.string p] w fun e w' => Below w.heap.size w w' ∧ (nms p = none → e = .returned (.tuple #[.slice none 0 0, .int .i64 20])) ∧
  (∀ ns, nms p = some ns → ∃ a k cc L, e = .returned (.tuple #[.slice a k cc, .int .i64 0]) ∧ ns = L.map tx ∧ Sts w' a k L ∧ k ≤ 1000000) := by
 refine (rsplit_any p w hp).mono ?_
 rintro e w2 ⟨hsp, hb⟩
 refine ⟨hb, fun h => ?_, fun ns h => ?_⟩
 ·cases hs : spl p.data.toList with
  | none => rw [hs] at hsp; exact hsp
  | some l => rw [nms_some hs] at h; cases h
 ·cases hs : spl p.data.toList with
  | none => rw [nms_none hs] at h; cases h
  | some l =>
   rw [hs] at hsp
   rw [nms_some hs] at h
   obtain ⟨v, he0, hO⟩ : ∃ v, e = .returned (.tuple #[v, .int .i64 0]) ∧ OwnT w2 w.heap.size v l.length l := hsp
   obtain ⟨a, cc, rfl, hSt, hcc, hmx, hz, hlo⟩ := hO.sts
   exact ⟨a, l.length, cc, l, he0, (by cases h; rfl), hSt, by have := arP_len (spl_arP hs); omega⟩
theorem rlink_e {L : List Nd} {ns ms : List ByteArray} {e : Int} (h : wlk L 0 ns = .error e) : oLink L (some ns) (some ms) = (L, .bad e) := by simp [oLink, h]
theorem rlink_d {L : List Nd} {ns ms : List ByteArray} {k : Nat} (h : wlk L 0 ns = .ok k) (hd : isD (nat L k) = true) : oLink L (some ns) (some ms) = (L, .bad 23) := by simp [oLink, h, hd]
theorem rlink_r {L : List Nd} {ns : List ByteArray} {k : Nat} (h : wlk L 0 ns = .ok k) (hd : isD (nat L k) = false) : oLink L (some ns) (some []) = (L, .bad 24) := by simp [oLink, h, hd]
theorem rlink_t {L : List Nd} {ns ms : List ByteArray} {k : Nat} {e : Int} (h : wlk L 0 ns = .ok k) (hd : isD (nat L k) = false) (hm : ms ≠ []) (ht : toB L ms = .error e) : oLink L (some ns) (some ms) = (L, .bad e) := by simp [oLink, h, hd, hm, ht]
theorem rlink_x {L : List Nd} {ns ms : List ByteArray} {k a j : Nat} (h : wlk L 0 ns = .ok k) (hd : isD (nat L k) = false) (hm : ms ≠ []) (ht : toB L ms = .ok (a, some j)) : oLink L (some ns) (some ms) = (L, .bad 24) := by simp [oLink, h, hd, hm, ht]
theorem rlink_n {L : List Nd} {ns ms : List ByteArray} {k a : Nat} (h : wlk L 0 ns = .ok k) (hd : isD (nat L k) = false) (hm : ms ≠ []) (ht : toB L ms = .ok (a, none)) : oLink L (some ns) (some ms) = if 200 ≤ (nat L k).l then (L, .bad 26) else if 64 ≤ (nat L a).e.length then (L, .bad 27) else (putE L a (lstN ms) k, .ok) := by simp [oLink, h, hd, hm, ht]
section
variable {w : World} {n c : Nat} {na : Option Addr} {f : Nat → Nc} {o i m : Int} {p q : ByteArray} {da : Option Addr} {dn dc : Nat}
theorem rlink_any (hN : Nds w na n f) (ht : Rgt (ndL f n)) (hen : ∀ i, i < n → (f i).dn ≤ 1000000 ∧ (f i).en ≤ 100000) (hp : p.size ≤ 1000000) (hq : q.size ≤ 1000000) :
  Calls Tryz.prog 75 #[.agg #[.slice na n c], .agg #[.int .i64 o, .string p, .string q, .int .i64 i, .int .i64 m, .slice da dn dc]] w (RefR w (oLink (ndL f n) (nms p) (nms q))) := by
 obtain ⟨RR, hRR⟩ : ∃ RR, RR = oLink (ndL f n) (nms p) (nms q) := ⟨_, rfl⟩
 rw [← hRR]
 have HRR := qH hRR
 obtain ⟨x, hx⟩ : ∃ x, x = w.heap.size := ⟨_, rfl⟩
 obtain ⟨w4, hw4, hI⟩ := op_start w na n c o i m p q da dn dc
 rw [← hx] at hI
 have HI0 := qH hI
 have HX := qH hx
 have HW4 := qH hw4
 unfold ResZ at hw4
 have HT := qH ht
 have HEN := qH hen
 have hn56 : n ≤ 56 := ht.le.2
 clear hRR hI hx ht
 obtain ⟨b1, b2, b3, b4, b5, b6⟩ := HI0.out.op.cells
 have l1 := HI0.out.box.load
 have l2 := HI0.out.box.cell
 have hc := rspl_any p w4 hp
 cases hpn : nms p with
 | none =>
  have RRP : Hid (RR = (ndL f n, .bad 20)) := qH (HRR.out.trans (by rw [hpn]; rfl))
  go_enter Tryz.func75, Tryz.ntmps75
  go_wp2_with fail
  rw [← HX.out, ← hw4]
  refine hc.mono ?_
  rintro e w5 ⟨hb, hsp, -⟩
  obtain rfl := hsp hpn
  have HI := qH (HI0.out.next hb)
  clear hc hb b1 b2 b3 b4 b5 b6 l1 l2 hsp
  have hc := rspl_any q w5 hq
  obtain ⟨b1, b2, b3, b4, b5, b6⟩ := HI.out.op.cells
  have l1 := HI.out.box.load
  have l2 := HI.out.box.cell
  go_wp2_with fail
  refine hc.mono ?_
  rintro e w6 ⟨hb6, hs0, hs1⟩
  have HI6 := qH (HI.out.next hb6)
  clear hc hb6 b1 b2 b3 b4 b5 b6 l1 l2
  cases hqn : nms q with
  | none =>
   obtain rfl := hs0 hqn
   clear hs0 hs1
   go_wp2_with fail
   refine wp_region_held_drew (S := (fun w' => TrB w' x (.slice na n c))) (by kernel_rfl) ?_ (fun hHeld => ?_)
   ·exact HI6.out.box
   refine rgZ 0 ?_ rfl (.inl ⟨by rfl, fun w hSw => ?_⟩) ?_
   rotate_left
   ·have hl := TrB.load hSw
    have hcl := TrB.cell hSw
    go_simp
    try with_reducible rfl
   simp only [Act.put, rg]
   refine rgC 1 rfl (by kernel_rfl) (fun K hK => ?_)
   simp only [rg4, rg5, rg6]
   go_simp
   refine (rwrong_any _ (20)).mono ?_
   rintro e w7 ⟨rfl, hb7⟩
   have HI7 := qH (HI6.out.next ((below_drewN (Below.refl _ _) 1).trans hb7))
   have HN7 := qH (hN.next HI7.out.bel)
   clear hb7 hHeld
   go_wp2_with fail
   refine hK.out _ _ HI7.out.box (fun _ => ?_)
   clear hK K
   obtain ⟨r1, r2, r3, ⟨a0, a1, a2, a3, a4, a5⟩, f0, f1, f2, f3, f4, f5, fl⟩ := HI7.out.all
   have HF1 := qH (HI7.out.fin (cc := c) HN7.out (resS_num w7 (20) 0 0 0))
   refine rgC 2 rfl (by kernel_rfl) (fun K hK => ?_)
   simp only [rg4, rg5, rg6]
   go_simp
   go_wp2_with fail
   refine hK.out _ _ HI7.out.b1 (fun _ => ?_)
   clear hK K
   refine rgC 3 rfl (by kernel_rfl) (fun K hK => ?_)
   simp only [rg4, rg5, rg6]
   go_simp
   go_wp2_with fail
   refine hK.out _ _ HI7.out.b6 (fun _ => ?_)
   clear hK K
   refine wpAnyH_done (by kernel_rfl) ?_ _
   clear r1 r2 r3 a0 a1 a2 a3 a4 a5 f0 f1 f2 f3 f4 f5 fl
   go_wp2_with fail
   refine HF1.out.ret rfl rfl rfl rfl ?_
   exact RRP.out ▸ HF1.out.refR rfl
  | some ms =>
   obtain ⟨a2, k2, cc2, L2, rfl, hL2, hSt2, hk2⟩ := hs1 ms hqn
   have HST2 := qH hSt2
   have HMS := qH hL2
   have HQN := qH hqn
   clear hs0 hs1 hSt2 hL2 hqn
   have b1 := HI6.out.op.cells
   have l1 := HI6.out.box.load
   have l2 := HI6.out.box.cell
   obtain ⟨b1, b2, b3, b4, b5, b6⟩ := b1
   go_wp2_with fail
   refine wp_region_held_drew (S := (fun w' => TrB w' x (.slice na n c))) (by kernel_rfl) ?_ (fun hHeld => ?_)
   ·exact HI6.out.box
   refine rgZ 0 ?_ rfl (.inl ⟨by rfl, fun w hSw => ?_⟩) ?_
   rotate_left
   ·have hl := TrB.load hSw
    have hcl := TrB.cell hSw
    go_simp
    try with_reducible rfl
   simp only [Act.put, rg]
   refine rgC 1 rfl (by kernel_rfl) (fun K hK => ?_)
   simp only [rg4, rg5, rg6]
   go_simp
   refine (rwrong_any _ (20)).mono ?_
   rintro e w7 ⟨rfl, hb7⟩
   have HI7 := qH (HI6.out.next ((below_drewN (Below.refl _ _) 1).trans hb7))
   have HN7 := qH (hN.next HI7.out.bel)
   clear hb7 hHeld
   go_wp2_with fail
   refine hK.out _ _ HI7.out.box (fun _ => ?_)
   clear hK K
   obtain ⟨r1, r2, r3, ⟨a0, a1, a2, a3, a4, a5⟩, f0, f1, f2, f3, f4, f5, fl⟩ := HI7.out.all
   have HF1 := qH (HI7.out.fin (cc := c) HN7.out (resS_num w7 (20) 0 0 0))
   refine rgC 2 rfl (by kernel_rfl) (fun K hK => ?_)
   simp only [rg4, rg5, rg6]
   go_simp
   go_wp2_with fail
   refine hK.out _ _ HI7.out.b1 (fun _ => ?_)
   clear hK K
   refine rgC 3 rfl (by kernel_rfl) (fun K hK => ?_)
   simp only [rg4, rg5, rg6]
   go_simp
   go_wp2_with fail
   refine hK.out _ _ HI7.out.b6 (fun _ => ?_)
   clear hK K
   refine wpAnyH_done (by kernel_rfl) ?_ _
   clear r1 r2 r3 a0 a1 a2 a3 a4 a5 f0 f1 f2 f3 f4 f5 fl
   go_wp2_with fail
   refine HF1.out.ret rfl rfl rfl rfl ?_
   exact RRP.out ▸ HF1.out.refR rfl
 | some ns =>
  have HPN := qH hpn
  go_enter Tryz.func75, Tryz.ntmps75
  go_wp2_with fail
  rw [← HX.out, ← hw4]
  refine hc.mono ?_
  rintro e w5 ⟨hb, -, hsp⟩
  obtain ⟨a1, k1, cc1, L1, rfl, hL1, hSt1, hk1⟩ := hsp ns hpn
  have HST1 := qH hSt1
  have HNS := qH hL1
  clear hSt1 hL1 hpn
  have HI := qH (HI0.out.next hb)
  clear hc hb b1 b2 b3 b4 b5 b6 l1 l2 hsp
  have hc := rspl_any q w5 hq
  obtain ⟨b1, b2, b3, b4, b5, b6⟩ := HI.out.op.cells
  have l1 := HI.out.box.load
  have l2 := HI.out.box.cell
  go_wp2_with fail
  refine hc.mono ?_
  rintro e w6 ⟨hb6, hs0, hs1⟩
  have HI6 := qH (HI.out.next hb6)
  clear hc hb6 b1 b2 b3 b4 b5 b6 l1 l2
  cases hqn : nms q with
  | none =>
   have RRP : Hid (RR = (ndL f n, .bad 20)) := qH (HRR.out.trans (by rw [HPN.out, hqn]; rfl))
   obtain rfl := hs0 hqn
   clear hs0 hs1
   go_wp2_with fail
   refine wp_region_held_drew (S := (fun w' => TrB w' x (.slice na n c))) (by kernel_rfl) ?_ (fun hHeld => ?_)
   ·exact HI6.out.box
   refine rgZ 0 ?_ rfl (.inl ⟨by rfl, fun w hSw => ?_⟩) ?_
   rotate_left
   ·have hl := TrB.load hSw
    have hcl := TrB.cell hSw
    go_simp
    try with_reducible rfl
   simp only [Act.put, rg]
   refine rgC 1 rfl (by kernel_rfl) (fun K hK => ?_)
   simp only [rg4, rg5, rg6]
   go_simp
   refine (rwrong_any _ (20)).mono ?_
   rintro e w7 ⟨rfl, hb7⟩
   have HI7 := qH (HI6.out.next ((below_drewN (Below.refl _ _) 1).trans hb7))
   have HN7 := qH (hN.next HI7.out.bel)
   clear hb7 hHeld
   go_wp2_with fail
   refine hK.out _ _ HI7.out.box (fun _ => ?_)
   clear hK K
   obtain ⟨r1, r2, r3, ⟨a0, a1, a2, a3, a4, a5⟩, f0, f1, f2, f3, f4, f5, fl⟩ := HI7.out.all
   have HF1 := qH (HI7.out.fin (cc := c) HN7.out (resS_num w7 (20) 0 0 0))
   refine rgC 2 rfl (by kernel_rfl) (fun K hK => ?_)
   simp only [rg4, rg5, rg6]
   go_simp
   go_wp2_with fail
   refine hK.out _ _ HI7.out.b1 (fun _ => ?_)
   clear hK K
   refine rgC 3 rfl (by kernel_rfl) (fun K hK => ?_)
   simp only [rg4, rg5, rg6]
   go_simp
   go_wp2_with fail
   refine hK.out _ _ HI7.out.b6 (fun _ => ?_)
   clear hK K
   refine wpAnyH_done (by kernel_rfl) ?_ _
   clear r1 r2 r3 a0 a1 a2 a3 a4 a5 f0 f1 f2 f3 f4 f5 fl
   go_wp2_with fail
   refine HF1.out.ret rfl rfl rfl rfl ?_
   exact RRP.out ▸ HF1.out.refR rfl
  | some ms =>
   obtain ⟨a2, k2, cc2, L2, rfl, hL2, hSt2, hk2⟩ := hs1 ms hqn
   have HST2 := qH hSt2
   have HMS := qH hL2
   have HQN := qH hqn
   clear hs0 hs1 hSt2 hL2 hqn
   have b1 := HI6.out.op.cells
   have l1 := HI6.out.box.load
   have l2 := HI6.out.box.cell
   obtain ⟨b1, b2, b3, b4, b5, b6⟩ := b1
   go_wp2_with fail
   have hc := rfindP_any (c := c) (hN.next HI6.out.bel) HT.out (fun i hi => by have := (HEN.out i hi).2; omega) p hp
   rw [HPN.out] at hc
   have hfo : findO (ndL f n) (some ns) = wlk (ndL f n) 0 ns := rfl
   rw [hfo] at hc
   clear hfo b1 b2 b3 b4 b5 b6 l1 l2
   refine hc.mono ?_
   rintro e w7 ⟨rfl, hb7⟩
   have HI7 := qH (HI6.out.next hb7)
   clear hc hb7
   have HRL : Hid (RR = oLink (ndL f n) (some ns) (some ms)) := qH (by rw [← HPN.out, ← HQN.out]; exact HRR.out)
   have b1 := HI7.out.op.cells
   have l1 := HI7.out.box.load
   have l2 := HI7.out.box.cell
   obtain ⟨b1, b2, b3, b4, b5, b6⟩ := b1
   cases hw : wlk (ndL f n) 0 ns with
   | error e9 =>
    have RRP : Hid (RR = (ndL f n, .bad e9)) := qH (HRL.out.trans (rlink_e hw))
    have he9 : (e9 != 0) = true := by have := wlk_err0 hw; simpa using this
    dsimp only [wlkP]
    clear hw
    go_wp2_with fail
    refine wp_region_held_drew (S := (fun w' => TrB w' x (.slice na n c))) (by kernel_rfl) ?_ (fun hHeld => ?_)
    ·exact HI7.out.box
    refine rgZ 0 ?_ rfl (.inl ⟨by rfl, fun w hSw => ?_⟩) ?_
    rotate_left
    ·have hl := TrB.load hSw
     have hcl := TrB.cell hSw
     go_simp
     try with_reducible rfl
    simp only [Act.put, rg]
    refine rgZ 1 ?_ rfl (.inl ⟨by rfl, fun w hSw => ?_⟩) ?_
    rotate_left
    ·(try dsimp only at hSw); go_simp; try with_reducible rfl
    simp only [Act.put, rg]
    refine rgC 2 rfl (by kernel_rfl) (fun K hK => ?_)
    simp only [rg4, rg5, rg6]
    go_simp
    refine (rwrong_any _ (e9)).mono ?_
    rintro e w9 ⟨rfl, hb7⟩
    have HI7 := qH (HI7.out.next ((below_drewN (Below.refl _ _) 1).trans hb7))
    have HN7 := qH (hN.next HI7.out.bel)
    clear hb7 hHeld
    go_wp2_with fail
    refine hK.out _ _ HI7.out.box (fun _ => ?_)
    clear hK K
    obtain ⟨r1, r2, r3, ⟨a0, a1, a2, a3, a4, a5⟩, f0, f1, f2, f3, f4, f5, fl⟩ := HI7.out.all
    have HF1 := qH (HI7.out.fin (cc := c) HN7.out (resS_num w9 (e9) 0 0 0))
    refine rgC 3 rfl (by kernel_rfl) (fun K hK => ?_)
    simp only [rg4, rg5, rg6]
    go_simp
    go_wp2_with fail
    refine hK.out _ _ HI7.out.b1 (fun _ => ?_)
    clear hK K
    refine rgC 4 rfl (by kernel_rfl) (fun K hK => ?_)
    simp only [rg4, rg5, rg6]
    go_simp
    go_wp2_with fail
    refine hK.out _ _ HI7.out.b6 (fun _ => ?_)
    clear hK K
    refine wpAnyH_done (by kernel_rfl) ?_ _
    clear r1 r2 r3 a0 a1 a2 a3 a4 a5 f0 f1 f2 f3 f4 f5 fl
    go_wp2_with fail
    refine HF1.out.ret rfl rfl rfl rfl ?_
    exact RRP.out ▸ HF1.out.refR rfl
   | ok k =>
    have hk : k < n := lt_wlk HT.out hw
    have HK := qH hk
    have HW := qH hw
    have hnr := hN.next HI7.out.bel
    obtain ⟨nb, off, rfl, hbl, d0, d1, d2, d3⟩ := hnr.at hk
    have k0 : (0 : Int) ≤ (k : Int) := by omega
    have k1' : (k : Int) < (n : Int) := by omega
    have hnk : nat (ndL f n) k = (f k).nd := nat_ndL hk
    have HNK := qH hnk
    dsimp only [wlkP]
    clear hnr hnk hw
    cases hd : isD (f k).nd with
    | true =>
     have hd2 : ((f k).k == 2) = true := hd
     have RRP : Hid (RR = (ndL f n, .bad 23)) := qH (HRL.out.trans (rlink_d HW.out (by rw [HNK.out]; exact hd)))
     clear hd
     go_wp2_with fail
     refine wp_region_held_drew (S := (fun w' => TrB w' x (.slice (some ⟨nb, off, none⟩) n c))) (by kernel_rfl) ?_ (fun hHeld => ?_)
     ·exact HI7.out.box
     refine rgZ 0 ?_ rfl (.inl ⟨by rfl, fun w hSw => ?_⟩) ?_
     rotate_left
     ·have hl := TrB.load hSw
      have hcl := TrB.cell hSw
      go_simp
      try with_reducible rfl
     simp only [Act.put, rg]
     refine rgC 1 rfl (by kernel_rfl) (fun K hK => ?_)
     simp only [rg4, rg5, rg6]
     go_simp
     refine (rwrong_any _ (23)).mono ?_
     rintro e w9 ⟨rfl, hb7⟩
     have HI7 := qH (HI7.out.next ((below_drewN (Below.refl _ _) 1).trans hb7))
     have HN7 := qH (hN.next HI7.out.bel)
     clear hb7 hHeld
     go_wp2_with fail
     refine hK.out _ _ HI7.out.box (fun _ => ?_)
     clear hK K
     obtain ⟨r1, r2, r3, ⟨a0, a1, a2, a3, a4, a5⟩, f0, f1, f2, f3, f4, f5, fl⟩ := HI7.out.all
     have HF1 := qH (HI7.out.fin (cc := c) HN7.out (resS_num w9 (23) 0 0 0))
     refine rgC 2 rfl (by kernel_rfl) (fun K hK => ?_)
     simp only [rg4, rg5, rg6]
     go_simp
     go_wp2_with fail
     refine hK.out _ _ HI7.out.b1 (fun _ => ?_)
     clear hK K
     refine rgC 3 rfl (by kernel_rfl) (fun K hK => ?_)
     simp only [rg4, rg5, rg6]
     go_simp
     go_wp2_with fail
     refine hK.out _ _ HI7.out.b6 (fun _ => ?_)
     clear hK K
     refine wpAnyH_done (by kernel_rfl) ?_ _
     clear r1 r2 r3 a0 a1 a2 a3 a4 a5 f0 f1 f2 f3 f4 f5 fl
     go_wp2_with fail
     refine HF1.out.ret rfl rfl rfl rfl ?_
     exact RRP.out ▸ HF1.out.refR rfl
    | false =>
     have hd2 : ((f k).k == 2) = false := hd
     have HD := qH (show isD (nat (ndL f n) k) = false by rw [HNK.out]; exact hd)
     clear hd
     by_cases hms : ms = []
     ·have RRP : Hid (RR = (ndL f n, .bad 24)) := qH (HRL.out.trans (by rw [hms]; exact rlink_r HW.out HD.out))
      have h47 : (q.toList == [47]) = true := root_yes (HQN.out.trans (by rw [hms]))
      clear hms
      go_wp2_with fail
      refine wp_region_held_drew (S := (fun w' => TrB w' x (.slice (some ⟨nb, off, none⟩) n c))) (by kernel_rfl) ?_ (fun hHeld => ?_)
      ·exact HI7.out.box
      refine rgZ 0 ?_ rfl (.inl ⟨by rfl, fun w hSw => ?_⟩) ?_
      rotate_left
      ·have hl := TrB.load hSw
       have hcl := TrB.cell hSw
       go_simp
       try with_reducible rfl
      simp only [Act.put, rg]
      refine rgC 1 rfl (by kernel_rfl) (fun K hK => ?_)
      simp only [rg4, rg5, rg6]
      go_simp
      refine (rwrong_any _ (24)).mono ?_
      rintro e w9 ⟨rfl, hb7⟩
      have HI7 := qH (HI7.out.next ((below_drewN (Below.refl _ _) 1).trans hb7))
      have HN7 := qH (hN.next HI7.out.bel)
      clear hb7 hHeld
      go_wp2_with fail
      refine hK.out _ _ HI7.out.box (fun _ => ?_)
      clear hK K
      obtain ⟨r1, r2, r3, ⟨a0, a1, a2, a3, a4, a5⟩, f0, f1, f2, f3, f4, f5, fl⟩ := HI7.out.all
      have HF1 := qH (HI7.out.fin (cc := c) HN7.out (resS_num w9 (24) 0 0 0))
      refine rgC 2 rfl (by kernel_rfl) (fun K hK => ?_)
      simp only [rg4, rg5, rg6]
      go_simp
      go_wp2_with fail
      refine hK.out _ _ HI7.out.b1 (fun _ => ?_)
      clear hK K
      refine rgC 3 rfl (by kernel_rfl) (fun K hK => ?_)
      simp only [rg4, rg5, rg6]
      go_simp
      go_wp2_with fail
      refine hK.out _ _ HI7.out.b6 (fun _ => ?_)
      clear hK K
      refine wpAnyH_done (by kernel_rfl) ?_ _
      clear r1 r2 r3 a0 a1 a2 a3 a4 a5 f0 f1 f2 f3 f4 f5 fl
      go_wp2_with fail
      refine HF1.out.ret rfl rfl rfl rfl ?_
      exact RRP.out ▸ HF1.out.refR rfl
     ·have h47 : (q.toList == [47]) = false := root_no (by rw [HQN.out]; simpa using hms)
      have hto := to_any (c := c) (hN.next HI7.out.bel) HT.out (fun i hi => by have := (HEN.out i hi).2; omega) q hq (by rw [HQN.out]; simpa using hms)
      rw [HQN.out] at hto
      dsimp only at hto
      have HNE := qH hms
      clear hms
      cases ht : toB (ndL f n) ms with
      | error e9 =>
       have RRP : Hid (RR = (ndL f n, .bad e9)) := qH (HRL.out.trans (rlink_t HW.out HD.out HNE.out ht))
       have hne9 : (e9 != 0) = true := by have := toB_err ht; simpa using this
       rw [ht] at hto
       dsimp only [toP] at hto
       clear ht
       go_wp2_with fail
       refine hto.mono ?_
       rintro e w8 ⟨rfl, hb8⟩
       have HI8 := qH (HI7.out.next hb8)
       clear hto hb8 b1 b2 b3 b4 b5 b6 l1 l2 d0 d1 d2 d3 k0 k1'
       have b1 := HI8.out.op.cells
       have l1 := HI8.out.box.load
       have l2 := HI8.out.box.cell
       obtain ⟨b1, b2, b3, b4, b5, b6⟩ := b1
       go_wp2_with fail
       refine wp_region_held_drew (S := (fun w' => TrB w' x (.slice (some ⟨nb, off, none⟩) n c))) (by kernel_rfl) ?_ (fun hHeld => ?_)
       ·exact HI8.out.box
       refine rgZ 0 ?_ rfl (.inl ⟨by rfl, fun w hSw => ?_⟩) ?_
       rotate_left
       ·have hl := TrB.load hSw
        have hcl := TrB.cell hSw
        go_simp
        try with_reducible rfl
       simp only [Act.put, rg]
       refine rgZ 1 ?_ rfl (.inl ⟨by rfl, fun w hSw => ?_⟩) ?_
       rotate_left
       ·(try dsimp only at hSw); go_simp; try with_reducible rfl
       simp only [Act.put, rg]
       refine rgC 2 rfl (by kernel_rfl) (fun K hK => ?_)
       simp only [rg4, rg5, rg6]
       go_simp
       refine (rwrong_any _ (e9)).mono ?_
       rintro e w9 ⟨rfl, hb7⟩
       have HI7 := qH (HI8.out.next ((below_drewN (Below.refl _ _) 1).trans hb7))
       have HN7 := qH (hN.next HI7.out.bel)
       clear hb7 hHeld
       go_wp2_with fail
       refine hK.out _ _ HI7.out.box (fun _ => ?_)
       clear hK K
       obtain ⟨r1, r2, r3, ⟨a0, a1, a2, a3, a4, a5⟩, f0, f1, f2, f3, f4, f5, fl⟩ := HI7.out.all
       have HF1 := qH (HI7.out.fin (cc := c) HN7.out (resS_num w9 (e9) 0 0 0))
       refine rgC 3 rfl (by kernel_rfl) (fun K hK => ?_)
       simp only [rg4, rg5, rg6]
       go_simp
       go_wp2_with fail
       refine hK.out _ _ HI7.out.b1 (fun _ => ?_)
       clear hK K
       refine rgC 4 rfl (by kernel_rfl) (fun K hK => ?_)
       simp only [rg4, rg5, rg6]
       go_simp
       go_wp2_with fail
       refine hK.out _ _ HI7.out.b6 (fun _ => ?_)
       clear hK K
       refine wpAnyH_done (by kernel_rfl) ?_ _
       clear r1 r2 r3 a0 a1 a2 a3 a4 a5 f0 f1 f2 f3 f4 f5 fl
       go_wp2_with fail
       refine HF1.out.ret rfl rfl rfl rfl ?_
       exact RRP.out ▸ HF1.out.refR rfl
      | ok ao =>
       obtain ⟨a, o9⟩ := ao
       have ha : a < n := lt_wlk HT.out (toB_ok ht).1
       have HA := qH ha
       have HTB := qH ht
       rw [ht] at hto
       clear ht
       cases o9 with
       | some j =>
        have RRP : Hid (RR = (ndL f n, .bad 24)) := qH (HRL.out.trans (rlink_x HW.out HD.out HNE.out HTB.out))
        have hk0 : (0 : Int) ≤ (j : Int) := by omega
        dsimp only [toP] at hto
        go_wp2_with fail
        refine hto.mono ?_
        rintro e w8 ⟨rfl, hb8⟩
        have HI8 := qH (HI7.out.next hb8)
        clear hto hb8 b1 b2 b3 b4 b5 b6 l1 l2 d0 d1 d2 d3 k0 k1'
        have b1 := HI8.out.op.cells
        have l1 := HI8.out.box.load
        have l2 := HI8.out.box.cell
        obtain ⟨b1, b2, b3, b4, b5, b6⟩ := b1
        go_wp2_with fail
        refine wp_region_held_drew (S := (fun w' => TrB w' x (.slice (some ⟨nb, off, none⟩) n c))) (by kernel_rfl) ?_ (fun hHeld => ?_)
        ·exact HI8.out.box
        refine rgZ 0 ?_ rfl (.inl ⟨by rfl, fun w hSw => ?_⟩) ?_
        rotate_left
        ·have hl := TrB.load hSw
         have hcl := TrB.cell hSw
         go_simp
         try with_reducible rfl
        simp only [Act.put, rg]
        refine rgC 1 rfl (by kernel_rfl) (fun K hK => ?_)
        simp only [rg4, rg5, rg6]
        go_simp
        refine (rwrong_any _ (24)).mono ?_
        rintro e w9 ⟨rfl, hb7⟩
        have HI7 := qH (HI8.out.next ((below_drewN (Below.refl _ _) 1).trans hb7))
        have HN7 := qH (hN.next HI7.out.bel)
        clear hb7 hHeld
        go_wp2_with fail
        refine hK.out _ _ HI7.out.box (fun _ => ?_)
        clear hK K
        obtain ⟨r1, r2, r3, ⟨a0, a1, a2, a3, a4, a5⟩, f0, f1, f2, f3, f4, f5, fl⟩ := HI7.out.all
        have HF1 := qH (HI7.out.fin (cc := c) HN7.out (resS_num w9 (24) 0 0 0))
        refine rgC 2 rfl (by kernel_rfl) (fun K hK => ?_)
        simp only [rg4, rg5, rg6]
        go_simp
        go_wp2_with fail
        refine hK.out _ _ HI7.out.b1 (fun _ => ?_)
        clear hK K
        refine rgC 3 rfl (by kernel_rfl) (fun K hK => ?_)
        simp only [rg4, rg5, rg6]
        go_simp
        go_wp2_with fail
        refine hK.out _ _ HI7.out.b6 (fun _ => ?_)
        clear hK K
        refine wpAnyH_done (by kernel_rfl) ?_ _
        clear r1 r2 r3 a0 a1 a2 a3 a4 a5 f0 f1 f2 f3 f4 f5 fl
        go_wp2_with fail
        refine HF1.out.ret rfl rfl rfl rfl ?_
        exact RRP.out ▸ HF1.out.refR rfl
       | none =>
        have hrn := rlink_n HW.out HD.out HNE.out HTB.out
        rw [← HRL.out, HNK.out, nat_ndL ha] at hrn
        have HRN := qH hrn
        have hlen : (f a).nd.e.length = (f a).en := ((hN.ents a ha).ens).len
        have HLE := qH hlen
        clear hrn hlen
        dsimp only [toP] at hto
        go_wp2_with fail
        refine hto.mono ?_
        rintro e w8 ⟨rfl, hb8⟩
        have HI8 := qH (HI7.out.next hb8)
        clear hto hb8 b1 b2 b3 b4 b5 b6 l1 l2 d0 d1 d2 d3 k0 k1'
        have b1 := HI8.out.op.cells
        have l1 := HI8.out.box.load
        have l2 := HI8.out.box.cell
        obtain ⟨b1, b2, b3, b4, b5, b6⟩ := b1
        obtain ⟨_, _, h9, hbl7, d0, d1, d2, d3⟩ := (hN.next HI8.out.bel).at HK.out
        cases h9
        obtain ⟨_, _, h9, hbl8, g0, g1, g2, g3⟩ := (hN.next HI8.out.bel).at ha
        cases h9
        have k0 : (0 : Int) ≤ (k : Int) := by omega
        have k1' : (k : Int) < (n : Int) := by have := HK.out; omega
        have i0 : (0 : Int) ≤ (a : Int) := by omega
        have i1 : (a : Int) < (n : Int) := by omega
        by_cases h200 : 200 ≤ (f k).l
        ·have RRP : Hid (RR = (ndL f n, .bad 26)) := qH (HRN.out.trans (if_pos h200))
         go_wp2_with fail
         refine wp_region_held_drew (S := (fun w' => TrB w' x (.slice (some ⟨nb, off, none⟩) n c))) (by kernel_rfl) ?_ (fun hHeld => ?_)
         ·exact HI8.out.box
         refine rgZ 0 ?_ rfl (.inl ⟨by rfl, fun w hSw => ?_⟩) ?_
         rotate_left
         ·have hl := TrB.load hSw
          have hcl := TrB.cell hSw
          go_simp
          try with_reducible rfl
         simp only [Act.put, rg]
         refine rgC 1 rfl (by kernel_rfl) (fun K hK => ?_)
         simp only [rg4, rg5, rg6]
         go_simp
         refine (rwrong_any _ (26)).mono ?_
         rintro e w9 ⟨rfl, hb7⟩
         have HI7 := qH (HI8.out.next ((below_drewN (Below.refl _ _) 1).trans hb7))
         have HN7 := qH (hN.next HI7.out.bel)
         clear hb7 hHeld
         go_wp2_with fail
         refine hK.out _ _ HI7.out.box (fun _ => ?_)
         clear hK K
         obtain ⟨r1, r2, r3, ⟨a0, a1, a2, a3, a4, a5⟩, f0, f1, f2, f3, f4, f5, fl⟩ := HI7.out.all
         have HF1 := qH (HI7.out.fin (cc := c) HN7.out (resS_num w9 (26) 0 0 0))
         refine rgC 2 rfl (by kernel_rfl) (fun K hK => ?_)
         simp only [rg4, rg5, rg6]
         go_simp
         go_wp2_with fail
         refine hK.out _ _ HI7.out.b1 (fun _ => ?_)
         clear hK K
         refine rgC 3 rfl (by kernel_rfl) (fun K hK => ?_)
         simp only [rg4, rg5, rg6]
         go_simp
         go_wp2_with fail
         refine hK.out _ _ HI7.out.b6 (fun _ => ?_)
         clear hK K
         refine wpAnyH_done (by kernel_rfl) ?_ _
         clear r1 r2 r3 a0 a1 a2 a3 a4 a5 f0 f1 f2 f3 f4 f5 fl
         go_wp2_with fail
         refine HF1.out.ret rfl rfl rfl rfl ?_
         exact RRP.out ▸ HF1.out.refR rfl
        ·by_cases h64 : 64 ≤ (f a).en
         ·have h64i : (64 : Int) ≤ ((f a).en : Int) := by omega
          have RRP : Hid (RR = (ndL f n, .bad 27)) := qH (HRN.out.trans ((if_neg h200).trans (if_pos (by have := HLE.out; omega))))
          have H64 := qH h64
          clear h64
          go_wp2_with fail
          refine wp_region_held_drew (S := (fun w' => TrB w' x (.slice (some ⟨nb, off, none⟩) n c))) (by kernel_rfl) ?_ (fun hHeld => ?_)
          ·exact HI8.out.box
          refine rgZ 0 ?_ rfl (.inl ⟨by rfl, fun w hSw => ?_⟩) ?_
          rotate_left
          ·have hl := TrB.load hSw
           have hcl := TrB.cell hSw
           go_simp
           try with_reducible rfl
          simp only [Act.put, rg]
          refine rgC 1 rfl (by kernel_rfl) (fun K hK => ?_)
          simp only [rg4, rg5, rg6]
          go_simp
          refine (rwrong_any _ (27)).mono ?_
          rintro e w9 ⟨rfl, hb7⟩
          have HI7 := qH (HI8.out.next ((below_drewN (Below.refl _ _) 1).trans hb7))
          have HN7 := qH (hN.next HI7.out.bel)
          clear hb7 hHeld
          go_wp2_with fail
          refine hK.out _ _ HI7.out.box (fun _ => ?_)
          clear hK K
          obtain ⟨r1, r2, r3, ⟨a0, a1, a2, a3, a4, a5⟩, f0, f1, f2, f3, f4, f5, fl⟩ := HI7.out.all
          have HF1 := qH (HI7.out.fin (cc := c) HN7.out (resS_num w9 (27) 0 0 0))
          refine rgC 2 rfl (by kernel_rfl) (fun K hK => ?_)
          simp only [rg4, rg5, rg6]
          go_simp
          go_wp2_with fail
          refine hK.out _ _ HI7.out.b1 (fun _ => ?_)
          clear hK K
          refine rgC 3 rfl (by kernel_rfl) (fun K hK => ?_)
          simp only [rg4, rg5, rg6]
          go_simp
          go_wp2_with fail
          refine hK.out _ _ HI7.out.b6 (fun _ => ?_)
          clear hK K
          refine wpAnyH_done (by kernel_rfl) ?_ _
          clear r1 r2 r3 a0 a1 a2 a3 a4 a5 f0 f1 f2 f3 f4 f5 fl
          go_wp2_with fail
          refine HF1.out.ret rfl rfl rfl rfl ?_
          exact RRP.out ▸ HF1.out.refR rfl
         ·have h64i : ¬ (64 : Int) ≤ ((f a).en : Int) := by omega
          have RRP : Hid (RR = (putE (ndL f n) a (lstN ms) k, .ok)) := qH (HRN.out.trans ((if_neg h200).trans (if_neg (by have := HLE.out; omega))))
          have H64 := qH h64
          clear h64
          have hc := rputN_any (c := c) (hN.next HI8.out.bel) (by omega) HEN.out a k HA.out (lstN ms)
          go_wp2_with fail
          refine hc.mono ?_
          rintro e w9 ⟨v, k9, g, rfl, hO, hL, hfresh, hb9⟩
          have HI9 := qH (HI8.out.next hb9)
          clear hc hb9 hfresh l1 l2 b1 b2 b3 b4 b5 b6 d0 d1 d2 d3 g0 g1 g2 g3
          obtain ⟨a9, c9, rfl⟩ := OwN.slice hO
          have HN7 := qH (OwN.nds hO)
          have HL7 := qH hL
          clear hO hL
          obtain ⟨r1, r2, r3, ⟨a0, a1, a2, a3, a4, a5⟩, f0, f1, f2, f3, f4, f5, fl⟩ := HI9.out.all
          have HF1 := qH (HI9.out.fin (cc := c9) HN7.out (resS_num w9 0 0 0 0))
          go_wp2_with fail
          clear r1 r2 r3 a0 a1 a2 a3 a4 a5 f0 f1 f2 f3 f4 f5 fl
          refine HF1.out.ret rfl rfl rfl rfl ?_
          exact RRP.out ▸ HF1.out.refR HL7.out
end
end Go.Proofs.YtinholnidchblaaGreatDoor
