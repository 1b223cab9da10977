import Derived.Test.YtinholnidchblaaGreatDoorQay
set_option linter.unusedVariables false
set_option linter.unusedSimpArgs false
set_option maxRecDepth 100000
set_option maxHeartbeats 16000000
namespace Go.Proofs.YtinholnidchblaaGreatDoor
open Go.RowKit
structure WrI (w0 : World) (x : Nat) (na : Option Addr) (n c : Nat) (o i m : Int) (p q : ByteArray) (da : Option Addr) (dn dc : Nat) (gB : Nat) (bs : List Int) (y gb cg : Nat) (g : Nat → Nc) (wr : World) : Prop where
 op : OpI w0 x na n c o i m p q da dn dc wr
 blk : Blk wr gB bs
 out : TrB wr y (.slice (some ⟨gb, 0, none⟩) n cg)
 own : OwN wr (.slice (some ⟨gb, 0, none⟩) n cg) n g
 ne : gb ≠ gB ∧ y ≠ gB ∧ x + 3 < gB ∧ x + 3 < gb ∧ y ≠ gb
 fr : ∀ i, i < n → FreshN (gB + 1) (g i)
section
variable {w0 wr : World} {x n c : Nat} {na : Option Addr} {o i m : Int} {p q : ByteArray} {da : Option Addr} {dn dc gB y gb cg : Nat} {bs : List Int} {g : Nat → Nc}
theorem WrI.set (h : WrI w0 x na n c o i m p q da dn dc gB bs y gb cg g wr) (j : Nat) (z : Int) : WrI w0 x na n c o i m p q da dn dc gB (bs.set j z) y gb cg g (wr.setCell ⟨gB, j, none⟩ (.int .u8 z)) := by
 have hT : Turn (· = gB) wr (wr.setCell ⟨gB, j, none⟩ (.int .u8 z)) := turn_set wr gB j _
 refine ⟨h.op.turn hT fun k e => by rw [e]; exact h.ne.2.2.1, h.blk.set j z, (hT.block y (lt_of_block h.out) h.ne.2.1).trans h.out, h.own.turn hT (fun k hk e => ?_) (fun i hi h0 b off e k => ?_) (fun i hi h0 b off e k => ?_), h.ne, h.fr⟩
 ·have ej : gb = k := by simpa [Value.ownBlock] using hk
  exact h.ne.1 (by rw [ej]; exact e)
 ·have := (h.fr i hi).1 h0 b off e
  omega
 ·have := (h.fr i hi).2 h0 b off e
  omega
theorem WrI.next {w' : World} (h : WrI w0 x na n c o i m p q da dn dc gB bs y gb cg g wr) (hb : Below wr.heap.size wr w') : WrI w0 x na n c o i m p q da dn dc gB bs y gb cg g w' :=
 ⟨h.op.next hb, h.blk.below h.blk.lt hb, (hb.block y (lt_of_block h.out)).trans h.out, h.own.next hb, h.ne, h.fr⟩
theorem WrI.fin (h : WrI w0 x na n c o i m p q da dn dc gB bs y gb cg g wr) (hs : AllB bs) {L : Nat} (hl : bs.length = L) (hL : L ≤ 1000000) {k : Nat} (hk : k < n) :
  OpI w0 x na n c o i m p q da dn dc (wr.setCell ⟨gb, 0 + k * 4 + 2, none⟩ (.slice (some ⟨gB, 0, none⟩) L L)) ∧ TrB (wr.setCell ⟨gb, 0 + k * 4 + 2, none⟩ (.slice (some ⟨gB, 0, none⟩) L L)) y (.slice (some ⟨gb, 0, none⟩) n cg) ∧
   OwN (wr.setCell ⟨gb, 0 + k * 4 + 2, none⟩ (.slice (some ⟨gB, 0, none⟩) L L)) (.slice (some ⟨gb, 0, none⟩) n cg) n (updN g k { g k with da := some ⟨gB, 0, none⟩, dn := L, dc := L, d := bs }) := by
 have hT : Turn (· = gb) wr (wr.setCell ⟨gb, 0 + k * 4 + 2, none⟩ (.slice (some ⟨gB, 0, none⟩) L L)) := turn_set wr gb _ _
 refine ⟨h.op.turn hT fun j e => by rw [e]; exact h.ne.2.2.2.1, (hT.block y (lt_of_block h.out) h.ne.2.2.2.2).trans h.out, h.own.setD hk (h.blk.pin hs hl (Nat.le_refl _) (by omega)) fun h0 b off e => ?_⟩
 cases e
 exact ⟨fun e => h.ne.1 e.symm, fun e => h.ne.1 e.symm⟩
theorem wr_start {w1 w2 w3 : World} {na : Option Addr} {n c : Nat} {o i m : Int} {p q : ByteArray} {da : Option Addr} {dn dc : Nat} (hI : OpI w0 x na n c o i m p q da dn dc w1) (hB : Blk w1 gB bs) (hx : x + 3 < gB) (hO : OwN w2 (.slice (some ⟨gb, 0, none⟩) n cg) n g) (hge : w1.heap.size ≤ gb) (hb : Below w1.heap.size w1 w2)
  (hfr : ∀ i, i < n → FreshN w1.heap.size (g i)) (hw : w3 = w2.alloc (.cells #[.slice (some ⟨gb, 0, none⟩) n cg] 26 (0, 0))) : WrI w0 x na n c o i m p q da dn dc gB bs w2.heap.size gb cg g w3 := by
 have hb3 : Below w2.heap.size w2 w3 := by rw [hw]; exact (Below.refl _ _).alloc (Nat.le_refl _) _
 have hlt := hB.lt
 have hl2 := hO.lt gb rfl
 have hs := hb.size
 refine ⟨(hI.next hb).next hb3, (hB.below hlt hb).below (Nat.lt_of_lt_of_le hlt hs) hb3, by rw [hw]; exact heap_alloc_new w2 _, hO.next hb3, ⟨by omega, by omega, hx, by omega, by omega⟩, fun i hi => ⟨fun h0 b off e => ?_, fun h0 b off e => ?_⟩⟩
 ·have := (hfr i hi).1 h0 b off e
  omega
 ·have := (hfr i hi).2 h0 b off e
  omega
end
section
variable {w : World} {n c : Nat} {na : Option Addr} {f : Nat → Nc} {o i m : Int} {p q : ByteArray} {da : Option Addr} {dn dc : Nat} {zs : List Int}
theorem data_le {f : Nat → Nc} {n k : Nat} (h : Rgt (ndL f n)) (hk : k < n) : (f k).d.length ≤ 46368 := by
 have h1 := h.node k (by rw [ndL_len]; exact hk)
 rw [nat_ndL hk] at h1
 rcases h1 with h2 | h2
 ·exact h2.1.2.2
 ·rw [show (f k).d = [] from h2.2.1]; decide
theorem wriB_small {b z : List Int} (hb : AllB b) (hz : AllB z) (i : Nat) : AllB (wriB b i z) := by
 unfold wriB
 split
 ·exact hb
 ·exact AllB.app (AllB.app (fun y hy => fitB_small hb _ y (List.mem_of_mem_take hy)) hz) (fun y hy => fitB_small hb _ y (List.mem_of_mem_drop hy))
theorem rwrite_any (hN : Nds w na n f) (ht : Rgt (ndL f n)) (hen : ∀ i, i < n → (f i).dn ≤ 1000000 ∧ (f i).en ≤ 100000) (hp : p.size ≤ 1000000) (hzp : Pin w da dn dc zs) (hdn : dn ≤ 1000000) :
  Calls Tryz.prog 78 #[.agg #[.slice na n c], .agg #[.int .i64 8, .string p, .string q, .int .i64 i, .int .i64 m, .slice da dn dc]] w (RefR w (oWrite (ndL f n) (nms p) i zs)) := by
 obtain ⟨RR, hRR⟩ : ∃ RR, RR = oWrite (ndL f n) (nms p) i zs := ⟨_, rfl⟩
 rw [← hRR]
 have HRR := qH hRR
 obtain ⟨x, hx⟩ : ∃ x, x = w.heap.size := ⟨_, rfl⟩
 obtain ⟨w4, hw4, hI⟩ := op_start w na n c 8 i m p q da dn dc
 rw [← hx] at hI
 have HI0 := qH hI
 have HX := qH hx
 have HW4 := qH hw4
 unfold ResZ at hw4
 have HT := qH ht
 have HEN := qH hen
 have hn56 : n ≤ 56 := ht.le.2
 clear hRR hI hx ht
 obtain ⟨b1, b2, b3, b4, b5, b6⟩ := HI0.out.op.cells
 have l1 := HI0.out.box.load
 have l2 := HI0.out.box.cell
 have hc := rfindP_any (c := c) (hN.next HI0.out.bel) HT.out (fun i hi => by have := (HEN.out i hi).2; omega) p hp
 go_enter Tryz.func78, Tryz.ntmps78
 go_wp2_with fail
 rw [← HX.out, ← hw4]
 refine hc.mono ?_
 rintro e w7 ⟨rfl, hb7⟩
 have HI := qH (HI0.out.next hb7)
 clear hc hb7 b1 b2 b3 b4 b5 b6 l1 l2
 have b1 := HI.out.op.cells
 have l1 := HI.out.box.load
 have l2 := HI.out.box.cell
 obtain ⟨b1, b2, b3, b4, b5, b6⟩ := b1
 cases hf : findO (ndL f n) (nms p) with
 | error e9 =>
  have RRP : Hid (RR = (ndL f n, .bad e9)) := qH (HRR.out.trans (by rw [oWrite, fileAt_find, hf]))
  have he9 : (e9 != 0) = true := by have := findO_err hf; simpa using this
  dsimp only [wlkP]
  clear hf
  go_wp2_with fail
  refine wp_region_held_drew (S := (fun w' => TrB w' x (.slice na n c))) (by kernel_rfl) ?_ (fun hHeld => ?_)
  ·exact HI.out.box
  refine rgZ 0 ?_ rfl (.inl ⟨by rfl, fun w hSw => ?_⟩) ?_ (by kernel_rfl) (fun _ _ _ h => h) (by assumption)
  rotate_left
  ·have hl := TrB.load hSw
   have hcl := TrB.cell hSw; go_simp
   try with_reducible rfl
  simp only [Act.put, rg]
  refine rgZ 1 ?_ rfl (.inl ⟨by rfl, fun w hSw => ?_⟩) ?_ (by kernel_rfl) (fun _ _ _ h => h) (by assumption)
  rotate_left
  ·(try dsimp only at hSw); go_simp; try with_reducible rfl
  simp only [Act.put, rg]
  refine rgC 2 rfl (by kernel_rfl) (fun K hK => ?_)
  simp only [rg4, rg5, rg6]
  go_simp
  refine (rwrong_any _ (e9)).mono ?_
  rintro e w9 ⟨rfl, hb7⟩
  have HI7 := qH (HI.out.next ((below_drewN (Below.refl _ _) 1).trans hb7))
  have HN7 := qH (hN.next HI7.out.bel)
  clear hb7 hHeld
  go_wp2_with fail
  refine hK.out _ _ HI7.out.box (fun _ => ?_)
  clear hK K
  obtain ⟨r1, r2, r3, ⟨a0, a1, a2, a3, a4, a5⟩, f0, f1, f2, f3, f4, f5, fl⟩ := HI7.out.all
  have HF1 := qH (HI7.out.fin (cc := c) HN7.out (resS_num w9 (e9) 0 0 0))
  refine rgC 3 rfl (by kernel_rfl) (fun K hK => ?_)
  simp only [rg4, rg5, rg6]
  go_simp
  go_wp2_with fail
  refine hK.out _ _ HI7.out.b1 (fun _ => ?_)
  clear hK K
  refine rgC 4 rfl (by kernel_rfl) (fun K hK => ?_)
  simp only [rg4, rg5, rg6]
  go_simp
  go_wp2_with fail
  refine hK.out _ _ HI7.out.b6 (fun _ => ?_)
  clear hK K
  refine wpAnyH_done (by kernel_rfl) ?_ _
  clear r1 r2 r3 a0 a1 a2 a3 a4 a5 f0 f1 f2 f3 f4 f5 fl
  go_wp2_with fail
  refine HF1.out.ret rfl rfl rfl rfl ?_
  exact RRP.out ▸ HF1.out.refR rfl
 | ok k =>
  have hk : k < n := findO_lt HT.out hf
  have HK := qH hk
  have HF := qH hf
  have hdl : (f k).d.length = (f k).dn := (hN.data k hk).len
  have HDL := qH hdl
  have HD46 : Hid ((f k).dn ≤ 46368) := qH (by rw [← hdl]; exact data_le HT.out hk)
  obtain ⟨nb, off, rfl, hbl, d0, d1, d2, d3⟩ := (hN.next HI.out.bel).at hk
  have k0 : (0 : Int) ≤ (k : Int) := by omega
  have k1' : (k : Int) < (n : Int) := by omega
  have hnk : nat (ndL f n) k = (f k).nd := nat_ndL hk
  have HNK := qH hnk
  dsimp only [wlkP]
  have hi8 := HI.out.next ((Below.refl _ _).alloc (Nat.le_refl _) (Obj.cells #[.int .i64 (f k).k, .int .i64 (f k).l, .slice (f k).da (f k).dn (f k).dc, .slice (f k).ea (f k).en (f k).ec] 54 (0, 0)))
  have hx8 : (w7.alloc (Obj.cells #[.int .i64 (f k).k, .int .i64 (f k).l, .slice (f k).da (f k).dn (f k).dc, .slice (f k).ea (f k).en (f k).ec] 54 (0, 0))).heap[w7.heap.size]? = some (Obj.cells #[.int .i64 (f k).k, .int .i64 (f k).l, .slice (f k).da (f k).dn (f k).dc, .slice (f k).ea (f k).en (f k).ec] 54 (0, 0)) := heap_alloc_new w7 _
  obtain ⟨w8, hw8⟩ : ∃ w8, w8 = w7.alloc (Obj.cells #[.int .i64 (f k).k, .int .i64 (f k).l, .slice (f k).da (f k).dn (f k).dc, .slice (f k).ea (f k).en (f k).ec] 54 (0, 0)) := ⟨_, rfl⟩
  obtain ⟨y, hy⟩ : ∃ y, y = w7.heap.size := ⟨_, rfl⟩
  have HI8 := qH hi8
  have HX8 := qH hx8
  have HW8 := qH hw8
  have HY := qH hy
  have HXY : Hid (x + 3 < y) := qH (by rw [hy]; exact lt_of_block HI.out.ans)
  rw [← hw8] at HI8 HX8
  rw [← hy] at HX8
  clear hnk hf hi8 hx8 hw8 hy hdl
  go_upto_region 5 with fail
  rw [← HY.out, ← HW8.out]
  clear b1 b2 b3 b4 b5 b6 l1 l2 d0 d1 d2 d3
  obtain ⟨g1, g2, g3, g4, g5, g6⟩ := HI8.out.op.cells
  have l6 := HI8.out.box.load
  have l7 := HI8.out.box.cell
  obtain ⟨e0, e1, e2, e3⟩ := cells4 HX8.out
  cases hd : isD (f k).nd with
  | true =>
   have hd2 : ((f k).k == 2) = true := hd; have RRP : Hid (RR = (ndL f n, .bad 23)) := qH (HRR.out.trans (by rw [oWrite, fileAt_find, HF.out]; simp only [HNK.out, hd, if_true])); clear hd; go_wp2_with fail; clear g1 g2 g3 g4 g5 g6 l6 l7 e0 e1 e2 e3; refine wp_region_held_drew (S := (fun w' => TrB w' x (.slice (some ⟨nb, off, none⟩) n c))) (by kernel_rfl) ?_ (fun hHeld => ?_)
   ·exact HI8.out.box
   refine rgZ 0 ?_ rfl (.inl ⟨by rfl, fun w hSw => ?_⟩) ?_ (by kernel_rfl) (fun _ _ _ h => h) (by assumption); rotate_left
   ·have hl := TrB.load hSw
    have hcl := TrB.cell hSw; go_simp
    try with_reducible rfl
   simp only [Act.put, rg]; refine rgC 1 rfl (by kernel_rfl) (fun K hK => ?_); simp only [rg4, rg5, rg6]; go_simp; refine (rwrong_any _ (23)).mono ?_; rintro e w9 ⟨rfl, hb7⟩; have HI7 := qH (HI8.out.next ((below_drewN (Below.refl _ _) 1).trans hb7)); have HN7 := qH (hN.next HI7.out.bel); clear hb7 hHeld; go_wp2_with fail; refine hK.out _ _ HI7.out.box (fun _ => ?_); clear hK K; obtain ⟨r1, r2, r3, ⟨a0, a1, a2, a3, a4, a5⟩, f0, f1, f2, f3, f4, f5, fl⟩ := HI7.out.all; have HF1 := qH (HI7.out.fin (cc := c) HN7.out (resS_num w9 (23) 0 0 0)); refine rgC 2 rfl (by kernel_rfl) (fun K hK => ?_); simp only [rg4, rg5, rg6]; go_simp; go_wp2_with fail; refine hK.out _ _ HI7.out.b1 (fun _ => ?_); clear hK K; refine rgC 3 rfl (by kernel_rfl) (fun K hK => ?_); simp only [rg4, rg5, rg6]; go_simp; go_wp2_with fail; refine hK.out _ _ HI7.out.b6 (fun _ => ?_); clear hK K; refine wpAnyH_done (by kernel_rfl) ?_ _; clear r1 r2 r3 a0 a1 a2 a3 a4 a5 f0 f1 f2 f3 f4 f5 fl; go_wp2_with fail; refine HF1.out.ret rfl rfl rfl rfl ?_
   exact RRP.out ▸ HF1.out.refR rfl
  | false =>
   have hd2 : ((f k).k == 2) = false := hd; have HD4 := qH hd; clear hd; have HZL : Hid (zs.length = dn) := qH hzp.len
   by_cases hi0 : i < 0
   ·have RRP : Hid (RR = (ndL f n, .bad 28)) := qH (HRR.out.trans (by rw [oWrite, fileAt_find, HF.out]; simp only [HNK.out, HD4.out]; exact if_pos (Or.inl hi0)))
    go_wp2_with fail; clear g1 g2 g3 g4 g5 g6 l6 l7 e0 e1 e2 e3; refine wp_region_held_drew (S := (fun w' => TrB w' x (.slice (some ⟨nb, off, none⟩) n c))) (by kernel_rfl) ?_ (fun hHeld => ?_)
    ·exact HI8.out.box
    refine rgZ 0 ?_ rfl (.inl ⟨by rfl, fun w hSw => ?_⟩) ?_ (by kernel_rfl) (fun _ _ _ h => h) (by assumption); rotate_left
    ·have hl := TrB.load hSw
     have hcl := TrB.cell hSw; go_simp
     try with_reducible rfl
    simp only [Act.put, rg]; refine rgC 1 rfl (by kernel_rfl) (fun K hK => ?_); simp only [rg4, rg5, rg6]; go_simp; refine (rwrong_any _ (28)).mono ?_; rintro e w9 ⟨rfl, hb7⟩; have HI7 := qH (HI8.out.next ((below_drewN (Below.refl _ _) 1).trans hb7)); have HN7 := qH (hN.next HI7.out.bel); clear hb7 hHeld; go_wp2_with fail; refine hK.out _ _ HI7.out.box (fun _ => ?_); clear hK K; obtain ⟨r1, r2, r3, ⟨a0, a1, a2, a3, a4, a5⟩, f0, f1, f2, f3, f4, f5, fl⟩ := HI7.out.all; have HF1 := qH (HI7.out.fin (cc := c) HN7.out (resS_num w9 (28) 0 0 0)); refine rgC 2 rfl (by kernel_rfl) (fun K hK => ?_); simp only [rg4, rg5, rg6]; go_simp; go_wp2_with fail; refine hK.out _ _ HI7.out.b1 (fun _ => ?_); clear hK K; refine rgC 3 rfl (by kernel_rfl) (fun K hK => ?_); simp only [rg4, rg5, rg6]; go_simp; go_wp2_with fail; refine hK.out _ _ HI7.out.b6 (fun _ => ?_); clear hK K; refine wpAnyH_done (by kernel_rfl) ?_ _; clear r1 r2 r3 a0 a1 a2 a3 a4 a5 f0 f1 f2 f3 f4 f5 fl; go_wp2_with fail; refine HF1.out.ret rfl rfl rfl rfl ?_
    exact RRP.out ▸ HF1.out.refR rfl
   ·by_cases hi1 : 46368 < i
    ·have RRP : Hid (RR = (ndL f n, .bad 28)) := qH (HRR.out.trans (by rw [oWrite, fileAt_find, HF.out]; simp only [HNK.out, HD4.out]; exact if_pos (Or.inr (by omega))))
     go_wp2_with fail; clear g1 g2 g3 g4 g5 g6 l6 l7 e0 e1 e2 e3; refine wp_region_held_drew (S := (fun w' => TrB w' x (.slice (some ⟨nb, off, none⟩) n c))) (by kernel_rfl) ?_ (fun hHeld => ?_)
     ·exact HI8.out.box
     refine rgZ 0 ?_ rfl (.inl ⟨by rfl, fun w hSw => ?_⟩) ?_ (by kernel_rfl) (fun _ _ _ h => h) (by assumption); rotate_left
     ·have hl := TrB.load hSw
      have hcl := TrB.cell hSw; go_simp
      try with_reducible rfl
     simp only [Act.put, rg]; refine rgC 1 rfl (by kernel_rfl) (fun K hK => ?_); simp only [rg4, rg5, rg6]; go_simp; refine (rwrong_any _ (28)).mono ?_; rintro e w9 ⟨rfl, hb7⟩; have HI7 := qH (HI8.out.next ((below_drewN (Below.refl _ _) 1).trans hb7)); have HN7 := qH (hN.next HI7.out.bel); clear hb7 hHeld; go_wp2_with fail; refine hK.out _ _ HI7.out.box (fun _ => ?_); clear hK K; obtain ⟨r1, r2, r3, ⟨a0, a1, a2, a3, a4, a5⟩, f0, f1, f2, f3, f4, f5, fl⟩ := HI7.out.all; have HF1 := qH (HI7.out.fin (cc := c) HN7.out (resS_num w9 (28) 0 0 0)); refine rgC 2 rfl (by kernel_rfl) (fun K hK => ?_); simp only [rg4, rg5, rg6]; go_simp; go_wp2_with fail; refine hK.out _ _ HI7.out.b1 (fun _ => ?_); clear hK K; refine rgC 3 rfl (by kernel_rfl) (fun K hK => ?_); simp only [rg4, rg5, rg6]; go_simp; go_wp2_with fail; refine hK.out _ _ HI7.out.b6 (fun _ => ?_); clear hK K; refine wpAnyH_done (by kernel_rfl) ?_ _; clear r1 r2 r3 a0 a1 a2 a3 a4 a5 f0 f1 f2 f3 f4 f5 fl; go_wp2_with fail; refine HF1.out.ret rfl rfl rfl rfl ?_
     exact RRP.out ▸ HF1.out.refR rfl
    ·have hwi : IntKind.i64.wrap (46368 - i) = 46368 - i := IntWalk.i64_in _ (by omega)
     by_cases hi2 : 46368 - i < (dn : Int)
     ·have RRP : Hid (RR = (ndL f n, .bad 28)) := qH (HRR.out.trans (by rw [oWrite, fileAt_find, HF.out]; simp only [HNK.out, HD4.out]; exact if_pos (Or.inr (by have := HZL.out; omega))))
      go_wp2_with fail; clear g1 g2 g3 g4 g5 g6 l6 l7 e0 e1 e2 e3; refine wp_region_held_drew (S := (fun w' => TrB w' x (.slice (some ⟨nb, off, none⟩) n c))) (by kernel_rfl) ?_ (fun hHeld => ?_)
      ·exact HI8.out.box
      refine rgZ 0 ?_ rfl (.inl ⟨by rfl, fun w hSw => ?_⟩) ?_ (by kernel_rfl) (fun _ _ _ h => h) (by assumption); rotate_left
      ·have hl := TrB.load hSw
       have hcl := TrB.cell hSw; go_simp
       try with_reducible rfl
      simp only [Act.put, rg]; refine rgC 1 rfl (by kernel_rfl) (fun K hK => ?_); simp only [rg4, rg5, rg6]; go_simp; refine (rwrong_any _ (28)).mono ?_; rintro e w9 ⟨rfl, hb7⟩; have HI7 := qH (HI8.out.next ((below_drewN (Below.refl _ _) 1).trans hb7)); have HN7 := qH (hN.next HI7.out.bel); clear hb7 hHeld; go_wp2_with fail; refine hK.out _ _ HI7.out.box (fun _ => ?_); clear hK K; obtain ⟨r1, r2, r3, ⟨a0, a1, a2, a3, a4, a5⟩, f0, f1, f2, f3, f4, f5, fl⟩ := HI7.out.all; have HF1 := qH (HI7.out.fin (cc := c) HN7.out (resS_num w9 (28) 0 0 0)); refine rgC 2 rfl (by kernel_rfl) (fun K hK => ?_); simp only [rg4, rg5, rg6]; go_simp; go_wp2_with fail; refine hK.out _ _ HI7.out.b1 (fun _ => ?_); clear hK K; refine rgC 3 rfl (by kernel_rfl) (fun K hK => ?_); simp only [rg4, rg5, rg6]; go_simp; go_wp2_with fail; refine hK.out _ _ HI7.out.b6 (fun _ => ?_); clear hK K; refine wpAnyH_done (by kernel_rfl) ?_ _; clear r1 r2 r3 a0 a1 a2 a3 a4 a5 f0 f1 f2 f3 f4 f5 fl; go_wp2_with fail; refine HF1.out.ret rfl rfl rfl rfl ?_
      exact RRP.out ▸ HF1.out.refR rfl
     ·obtain ⟨I, rfl⟩ : ∃ I : Nat, i = (I : Int) := ⟨i.toNat, by omega⟩
      have HIB : Hid (I + dn ≤ 46368) := qH (by omega)
      by_cases h0 : dn = 0
      ·have t0 : ¬ (0 : Int) < (dn : Int) := by omega
       have HH0 := qH h0; clear h0
       have s1 : ¬ ((f k).dn : Int) < 0 := by omega
       have s2 : ¬ (46368 : Int) < ((f k).dn : Int) := by have := HD46.out; omega
       have RRP : Hid (RR = (Go.Proofs.YtinholnidchblaaGreatDoor.setD (ndL f n) k (wriB (f k).d I zs), ⟨0, [], [], 0, 0, (dn : Int)⟩)) := qH (HRR.out.trans (by
        rw [oWrite, fileAt_find, HF.out]; simp only [HNK.out, HD4.out, Bool.false_eq_true, if_false]; rw [if_neg (by have := HZL.out; have := HIB.out; omega), HZL.out]
        simp
        rfl))
       have HWQ : Hid ((f k).dn = wrS (f k).d I zs) := qH (by
        unfold wrS; have h1 := HZL.out; have h2 := HDL.out
        rw [if_pos (List.eq_nil_of_length_eq_zero (by have := HH0.out; omega)), h2])
       have hsz46 : (f k).dn ≤ 46368 := by have := HIB.out; have := HD46.out; omega
       have HSB : Hid ((f k).dn ≤ 46368) := qH hsz46
       go_wp2_with (first
        | (at_make; go_must (refine wpList_mk rfl (.tmp 125) (.tmp 125) rfl _ _ _ _ ((f k).dn) rfl rfl (by omega) (by omega) (by omega) ?_); intro w9 hB9 hL9; have HB9 := qH hB9; have HL9 := qH hL9; clear hB9 hL9 g1 g2 g3 g4 g5 g6 l6 l7 e0 e1 e2 e3; have HX9 := qH ((HL9.out.block _ (lt_of_block HX8.out)).trans HX8.out); obtain ⟨e0, e1, e2, e3⟩ := cells4 HX9.out)
        | (with_reducible refine wpList_cpF rfl (.tmp 127) (.tmp 129) rfl w8.heap.size ((f k).dn) ((f k).dn) (f k).dn (f k).dc (f k).da rfl rfl (f k).d HB9.out ((hN.next (HI8.out.next HL9.out).bel).data k HK.out).bys w8.heap.size w8 HL9.out (Nat.le_refl _) ?_; intro w10 hB10 hL10; have HB10 := qH hB10; have HL10 := qH hL10; clear hB10 hL10 e0 e1 e2 e3; have HI10 := qH (HI8.out.next HL10.out); have l6 := HI10.out.box.load; have l7 := HI10.out.box.cell; have hc := copyTree_fresh (c := c) (hN.next HI10.out.bel) (by omega) (fun i hi => ⟨(HEN.out i hi).1, by have := (HEN.out i hi).2; omega⟩)))
       refine hc.mono ?_; rintro e w11 ⟨v, k9, g, rfl, hO, hL, hge, hb11, hfr⟩
       obtain rfl : k9 = n := by have := congrArg List.length hL; rwa [ndL_len, ndL_len] at this
       rcases hO.form with ⟨_, h0⟩ | ⟨gb, cg, rfl⟩
       ·omega
       obtain ⟨w12, hw12⟩ : ∃ w12, w12 = w11.alloc (.cells #[.slice (some ⟨gb, 0, none⟩) k9 cg] 26 (0, 0)) := ⟨_, rfl⟩
       obtain ⟨z, hz13⟩ : ∃ z, z = w11.heap.size := ⟨_, rfl⟩
       have hS := wr_start HI10.out HB10.out (by have := HXY.out; have := lt_of_block HX8.out; omega) hO (hge gb rfl) hb11 hfr hw12; rw [← hz13] at hS; have HS := qH hS; have HLL := qH hL; have HW12 := qH hw12; have HZ := qH hz13
       have HZN : Hid (z ≠ x + 2 ∧ z ≠ x + 3) := qH (by
        have h1 := lt_of_block (HI10.out.next hb11).ans; rw [← hz13] at h1
        omega)
       clear hc hO hL hge hb11 hfr hw12 hz13 hS l6 l7
       go_upto_region 28 with fail
       rw [← HZ.out, ← HW12.out]; obtain ⟨g1, g2, g3, g4, g5, g6⟩ := HS.out.op.op.cells; go_wp2_with fail
       go_loopw [14] (fun v14 wr => ∃ j : Nat, j ≤ dn ∧ v14 = .int .i64 (j : Int) ∧ WrI w x (some ⟨nb, off, none⟩) k9 c 8 I m p q da dn dc w8.heap.size (wrA (fitB (f k).d ((f k).dn)) I zs j) z gb cg g wr) (fun v14 _ => dn - (RowKit.intOf v14).toNat)
       case atStart => exact ⟨0, Nat.zero_le _, rfl, by rw [wrA_zero]; exact HS.out⟩
       case round =>
        clear g1 g2 g3 g4 g5 g6; obtain ⟨j, hj, rfl, hS⟩ := hrel; replace HS := qH hS; clear hS; obtain ⟨g1, g2, g3, g4, g5, g6⟩ := HS.out.op.op.cells; have HJ := qH hj; clear hj
        by_cases hlt : j < dn
        ·have := HH0.out
         omega
        ·obtain rfl : j = dn := by have := HJ.out; omega
         have hwe : wrA (fitB (f k).d ((f k).dn)) I zs j = wriB (f k).d I zs := by rw [HWQ.out, ← HZL.out]; exact wrA_end _ _ _
         rw [hwe] at HS; have HWE := qH hwe; clear hwe; obtain ⟨q0, q1, q2, q3⟩ := HS.out.own.cell HK.out; rw [Nat.zero_add] at q2; have qf := HS.out.own.freeJ (k * 4 + 2); have ql := HS.out.own.lt gb rfl; have o1 := HS.out.out.cell
         obtain ⟨w14, hw14⟩ : ∃ w14, w14 = wr.setCell ⟨gb, k * 4 + 2, none⟩ (.slice (some ⟨w8.heap.size, 0, none⟩) ((f k).dn) ((f k).dn)) := ⟨_, rfl⟩
         have hfin := HS.out.fin (wriB_small ((hN.data k HK.out).bys.small) hzp.bys.small _) (L := (f k).dn) (by rw [wriB_len]; have := HWQ.out; unfold wrS at this; exact this.symm) (by omega) HK.out; rw [Nat.zero_add, ← hw14] at hfin; have HFI := qH hfin; have HW14 := qH hw14; clear hfin hw14
         go_upto_region 34 with fail
         rw [← HW14.out]; clear q0 q1 q2 q3 qf ql o1
         obtain ⟨w15, hw15⟩ : ∃ w15, w15 = w14.drew := ⟨_, rfl⟩
         have hbd : Below w14.heap.size w14 w15 := by rw [hw15]; exact below_drewN (Below.refl _ _) 1
         have HI9 := qH (HFI.out.1.next hbd); have HN9 := qH (HFI.out.2.2.nds.next hbd); have HT9 : Hid (TrB w15 z (.slice (some ⟨gb, 0, none⟩) k9 cg)) := qH ((hbd.block _ (lt_of_block HFI.out.2.1)).trans HFI.out.2.1); have hzne : z ≠ x + 2 ∧ z ≠ x + 3 := HZN.out; refine wp_region_held_drew (S := (fun w' => TrB w' z (.slice (some ⟨gb, 0, none⟩) k9 cg) ∧ OpC w' (x + 1) 8 I m p q da j dc)) (by kernel_rfl) ?_ (fun hHeld => ?_)
         ·exact ⟨HFI.out.2.1, HFI.out.1.op⟩
         rw [← hw15] at hHeld ⊢; clear hw15 hbd; refine rgZ 0 ?_ rfl (.inl ⟨by rfl, fun w hSw => ?_⟩) ?_ (by kernel_rfl) (fun _ _ _ h => h) (by assumption); rotate_left
         ·have hl := TrB.load hSw.1
          have hcl := TrB.cell hSw.1; go_simp
          try with_reducible rfl
         simp only [Act.put, rg]; refine rgZ 1 ?_ rfl (.inl ⟨by rfl, fun w hSw => ?_⟩) ?_ (by kernel_rfl) (fun _ _ _ h => h) (by assumption); rotate_left
         ·(try dsimp only at hSw); go_simp; try with_reducible rfl
         simp only [Act.put, rg]; refine rgZ 2 ?_ rfl (.inl ⟨by rfl, fun w hSw => ?_⟩) ?_ (by kernel_rfl) (fun _ _ _ h => h) (by assumption); rotate_left
         ·obtain ⟨y1, y2, y3, y4, y5, y6⟩ := OpC.cells hSw.2
          go_simp
          try with_reducible rfl
         simp only [Act.put, rg]; refine rgZ 3 ?_ rfl (.inl ⟨by rfl, fun w hSw => ?_⟩) ?_ (by kernel_rfl) (fun _ _ _ h => h) (by assumption); rotate_left
         ·(try dsimp only at hSw); go_simp; try with_reducible rfl
         simp only [Act.put, rg]; refine rgZ 4 ?_ rfl (.inl ⟨by rfl, fun w hSw => ?_⟩) ?_ (by kernel_rfl) (fun _ _ _ h => h) (by assumption); rotate_left
         ·(try dsimp only at hSw); go_simp; try with_reducible rfl
         simp only [Act.put, rg]; obtain ⟨r1, r2, r3, ⟨a0, a1, a2, a3, a4, a5⟩, f0, f1, f2, f3, f4, f5, fl⟩ := HI9.out.all; have HF1 := qH (HI9.out.fin (cc := cg) HN9.out (resS_num w15 0 0 0 (j))); refine rgC 5 rfl (by kernel_rfl) (fun K hK => ?_); simp only [rg4, rg5, rg6]; go_simp; go_wp2_with fail; refine hK.out _ _ ⟨TrB.off HT9.out hzne.1, HI9.out.op.off (by omega)⟩ (fun _ => ?_); clear hK K; refine rgC 6 rfl (by kernel_rfl) (fun K hK => ?_); simp only [rg4, rg5, rg6]; go_simp; go_wp2_with fail; refine hK.out _ _ ⟨TrB.off6 (TrB.off HT9.out hzne.1) hzne.2, OpC.off6 (HI9.out.op.off (by omega)) (by omega)⟩ (fun _ => ?_); clear hK K; refine wpAnyH_done (by kernel_rfl) ?_ _; clear r1 r2 r3 a0 a1 a2 a3 a4 a5 f0 f1 f2 f3 f4 f5 fl; go_wp2_with fail; refine HF1.out.ret rfl rfl rfl rfl ?_
         exact RRP.out ▸ HF1.out.refR (setD_nd HLL.out HK.out rfl)
      ·have t0 : (0 : Int) < (dn : Int) := by omega
       have hne0 : zs ≠ [] := by intro e; have h1 := HZL.out; rw [e] at h1; simp at h1; omega
       have hwm : IntKind.i64.wrap ((I : Int) + (dn : Int)) = (I : Int) + (dn : Int) := IntWalk.i64_in _ (by have := HIB.out; omega); have HNE0 := qH hne0; clear hne0
       by_cases hmx : (f k).dn < I + dn
       ·have m0 : ((f k).dn : Int) < (I : Int) + (dn : Int) := by omega
        have s1 : ¬ (I : Int) + (dn : Int) < 0 := by omega
        have s2 : ¬ (46368 : Int) < (I : Int) + (dn : Int) := by have := HIB.out; omega
        have RRP : Hid (RR = (Go.Proofs.YtinholnidchblaaGreatDoor.setD (ndL f n) k (wriB (f k).d I zs), ⟨0, [], [], 0, 0, (dn : Int)⟩)) := qH (HRR.out.trans (by
         rw [oWrite, fileAt_find, HF.out]; simp only [HNK.out, HD4.out, Bool.false_eq_true, if_false]; rw [if_neg (by have := HZL.out; have := HIB.out; omega), HZL.out]
         simp
         rfl))
        have HWQ : Hid ((I + dn) = wrS (f k).d I zs) := qH (by
         unfold wrS; have h1 := HZL.out; have h2 := HDL.out
         rw [if_neg HNE0.out, h1, h2]; omega)
        have hsz46 : (I + dn) ≤ 46368 := by have := HIB.out; have := HD46.out; omega
        have HSB : Hid ((I + dn) ≤ 46368) := qH hsz46
        go_wp2_with (first
         | (at_make; go_must (refine wpList_mk rfl (.tmp 125) (.tmp 125) rfl _ _ _ _ ((I + dn)) rfl rfl (by omega) (by omega) (by omega) ?_); intro w9 hB9 hL9; have HB9 := qH hB9; have HL9 := qH hL9; clear hB9 hL9 g1 g2 g3 g4 g5 g6 l6 l7 e0 e1 e2 e3; have HX9 := qH ((HL9.out.block _ (lt_of_block HX8.out)).trans HX8.out); obtain ⟨e0, e1, e2, e3⟩ := cells4 HX9.out)
         | (with_reducible refine wpList_cpF rfl (.tmp 127) (.tmp 129) rfl w8.heap.size ((I + dn)) ((I + dn)) (f k).dn (f k).dc (f k).da rfl rfl (f k).d HB9.out ((hN.next (HI8.out.next HL9.out).bel).data k HK.out).bys w8.heap.size w8 HL9.out (Nat.le_refl _) ?_; intro w10 hB10 hL10; have HB10 := qH hB10; have HL10 := qH hL10; clear hB10 hL10 e0 e1 e2 e3; have HI10 := qH (HI8.out.next HL10.out); have l6 := HI10.out.box.load; have l7 := HI10.out.box.cell; have hc := copyTree_fresh (c := c) (hN.next HI10.out.bel) (by omega) (fun i hi => ⟨(HEN.out i hi).1, by have := (HEN.out i hi).2; omega⟩)))
        refine hc.mono ?_; rintro e w11 ⟨v, k9, g, rfl, hO, hL, hge, hb11, hfr⟩
        obtain rfl : k9 = n := by have := congrArg List.length hL; rwa [ndL_len, ndL_len] at this
        rcases hO.form with ⟨_, h0⟩ | ⟨gb, cg, rfl⟩
        ·omega
        obtain ⟨w12, hw12⟩ : ∃ w12, w12 = w11.alloc (.cells #[.slice (some ⟨gb, 0, none⟩) k9 cg] 26 (0, 0)) := ⟨_, rfl⟩
        obtain ⟨z, hz13⟩ : ∃ z, z = w11.heap.size := ⟨_, rfl⟩
        have hS := wr_start HI10.out HB10.out (by have := HXY.out; have := lt_of_block HX8.out; omega) hO (hge gb rfl) hb11 hfr hw12; rw [← hz13] at hS; have HS := qH hS; have HLL := qH hL; have HW12 := qH hw12; have HZ := qH hz13
        have HZN : Hid (z ≠ x + 2 ∧ z ≠ x + 3) := qH (by
         have h1 := lt_of_block (HI10.out.next hb11).ans; rw [← hz13] at h1
         omega)
        clear hc hO hL hge hb11 hfr hw12 hz13 hS l6 l7
        go_upto_region 28 with fail
        rw [← HZ.out, ← HW12.out]; obtain ⟨g1, g2, g3, g4, g5, g6⟩ := HS.out.op.op.cells; go_wp2_with fail
        go_loopw [14] (fun v14 wr => ∃ j : Nat, j ≤ dn ∧ v14 = .int .i64 (j : Int) ∧ WrI w x (some ⟨nb, off, none⟩) k9 c 8 I m p q da dn dc w8.heap.size (wrA (fitB (f k).d ((I + dn))) I zs j) z gb cg g wr) (fun v14 _ => dn - (RowKit.intOf v14).toNat)
        case atStart => exact ⟨0, Nat.zero_le _, rfl, by rw [wrA_zero]; exact HS.out⟩
        case round =>
         clear g1 g2 g3 g4 g5 g6; obtain ⟨j, hj, rfl, hS⟩ := hrel; replace HS := qH hS; clear hS; obtain ⟨g1, g2, g3, g4, g5, g6⟩ := HS.out.op.op.cells; have HJ := qH hj; clear hj
         by_cases hlt : j < dn
         ·have hne : zs ≠ [] := by intro e; have h1 := HZL.out; rw [e] at h1; simp at h1; omega
          have hle := wrS_le (b := (f k).d) (i := I) hne; rw [← HWQ.out, HZL.out] at hle
          have hwl : (wrA (fitB (f k).d ((I + dn))) I zs j).length = (I + dn) := by rw [wrA_len (by rw [fitB_len, HZL.out]; exact hle) (by rw [HZL.out]; exact Nat.le_of_lt hlt), fitB_len]
          have hst := wrA_step (F := fitB (f k).d ((I + dn))) (i := I) (z := zs) (j := j) (by rw [fitB_len, HZL.out]; exact hle) (by rw [HZL.out]; exact hlt)
          obtain ⟨s, hs⟩ : ∃ s, s = I + j := ⟨_, rfl⟩
          rw [← hs] at hst; have HST := qH hst; have HSS := qH hs; have hS2 := HS.out.set s (byt zs j); rw [hst] at hS2
          obtain ⟨w13, hw13⟩ : ∃ w13, w13 = (wr.setCell ⟨w8.heap.size, s, none⟩ (.int .u8 (byt zs j))).drew := ⟨_, rfl⟩
          have hbd : Below (wr.setCell ⟨w8.heap.size, s, none⟩ (.int .u8 (byt zs j))).heap.size (wr.setCell ⟨w8.heap.size, s, none⟩ (.int .u8 (byt zs j))) w13 := by rw [hw13]; exact below_drewN (Below.refl _ _) 1
          have HS2 := qH (hS2.next hbd); have HW13 := qH hw13
          have s46 : s < (I + dn) := by omega
          have sB : s < 46368 := by have := HSB.out; omega
          have hwr : IntKind.i64.wrap ((I : Int) + (j : Int)) = (s : Int) := by rw [IntWalk.i64_in _ (by omega)]; omega
          have s0 : (0 : Int) ≤ (s : Int) := by omega
          have s1 : (s : Int) < (((I + dn) : Nat) : Int) := by omega
          have j0 : (0 : Int) ≤ (j : Int) := by omega
          have j1 : (j : Int) < (dn : Int) := by omega
          have hPd := hzp.next HS.out.op.bel; obtain ⟨db, doff, hda, hdl, hdc⟩ := hPd.at (by omega); have x1 := hdc j hlt; have cB := HS.out.blk.cell (i := s) (by rw [hwl]; exact s46); have fB := HS.out.blk.free s; have lB := HS.out.blk.lt; have HLT := qH hlt; have HDA := qH hda; rw [hda] at g6; clear hda hdc hPd hst hs hS2 hle hne hwl hw13 hbd; go_wp2_with fail; go_region; go_wp2_with fail; rw [← HW13.out]
          go_roundw
          case rel => exact ⟨j + 1, HLT.out, by go_num, HS2.out⟩
          case measure => have := HLT.out; simp [RowKit.intOf]; omega
         ·obtain rfl : j = dn := by have := HJ.out; omega
          have hwe : wrA (fitB (f k).d ((I + j))) I zs j = wriB (f k).d I zs := by rw [HWQ.out, ← HZL.out]; exact wrA_end _ _ _
          rw [hwe] at HS; have HWE := qH hwe; clear hwe; obtain ⟨q0, q1, q2, q3⟩ := HS.out.own.cell HK.out; rw [Nat.zero_add] at q2; have qf := HS.out.own.freeJ (k * 4 + 2); have ql := HS.out.own.lt gb rfl; have o1 := HS.out.out.cell
          obtain ⟨w14, hw14⟩ : ∃ w14, w14 = wr.setCell ⟨gb, k * 4 + 2, none⟩ (.slice (some ⟨w8.heap.size, 0, none⟩) ((I + j)) ((I + j))) := ⟨_, rfl⟩
          have hfin := HS.out.fin (wriB_small ((hN.data k HK.out).bys.small) hzp.bys.small _) (L := (I + j)) (by rw [wriB_len]; have := HWQ.out; unfold wrS at this; exact this.symm) (by omega) HK.out; rw [Nat.zero_add, ← hw14] at hfin; have HFI := qH hfin; have HW14 := qH hw14; clear hfin hw14
          go_upto_region 34 with fail
          rw [← HW14.out]; clear q0 q1 q2 q3 qf ql o1
          obtain ⟨w15, hw15⟩ : ∃ w15, w15 = w14.drew := ⟨_, rfl⟩
          have hbd : Below w14.heap.size w14 w15 := by rw [hw15]; exact below_drewN (Below.refl _ _) 1
          have HI9 := qH (HFI.out.1.next hbd); have HN9 := qH (HFI.out.2.2.nds.next hbd); have HT9 : Hid (TrB w15 z (.slice (some ⟨gb, 0, none⟩) k9 cg)) := qH ((hbd.block _ (lt_of_block HFI.out.2.1)).trans HFI.out.2.1); have hzne : z ≠ x + 2 ∧ z ≠ x + 3 := HZN.out; refine wp_region_held_drew (S := (fun w' => TrB w' z (.slice (some ⟨gb, 0, none⟩) k9 cg) ∧ OpC w' (x + 1) 8 I m p q da j dc)) (by kernel_rfl) ?_ (fun hHeld => ?_)
          ·exact ⟨HFI.out.2.1, HFI.out.1.op⟩
          rw [← hw15] at hHeld ⊢; clear hw15 hbd; refine rgZ 0 ?_ rfl (.inl ⟨by rfl, fun w hSw => ?_⟩) ?_ (by kernel_rfl) (fun _ _ _ h => h) (by assumption); rotate_left
          ·have hl := TrB.load hSw.1
           have hcl := TrB.cell hSw.1; go_simp
           try with_reducible rfl
          simp only [Act.put, rg]; refine rgZ 1 ?_ rfl (.inl ⟨by rfl, fun w hSw => ?_⟩) ?_ (by kernel_rfl) (fun _ _ _ h => h) (by assumption); rotate_left
          ·(try dsimp only at hSw); go_simp; try with_reducible rfl
          simp only [Act.put, rg]; refine rgZ 2 ?_ rfl (.inl ⟨by rfl, fun w hSw => ?_⟩) ?_ (by kernel_rfl) (fun _ _ _ h => h) (by assumption); rotate_left
          ·obtain ⟨y1, y2, y3, y4, y5, y6⟩ := OpC.cells hSw.2
           go_simp
           try with_reducible rfl
          simp only [Act.put, rg]; refine rgZ 3 ?_ rfl (.inl ⟨by rfl, fun w hSw => ?_⟩) ?_ (by kernel_rfl) (fun _ _ _ h => h) (by assumption); rotate_left
          ·(try dsimp only at hSw); go_simp; try with_reducible rfl
          simp only [Act.put, rg]; refine rgZ 4 ?_ rfl (.inl ⟨by rfl, fun w hSw => ?_⟩) ?_ (by kernel_rfl) (fun _ _ _ h => h) (by assumption); rotate_left
          ·(try dsimp only at hSw); go_simp; try with_reducible rfl
          simp only [Act.put, rg]; obtain ⟨r1, r2, r3, ⟨a0, a1, a2, a3, a4, a5⟩, f0, f1, f2, f3, f4, f5, fl⟩ := HI9.out.all; have HF1 := qH (HI9.out.fin (cc := cg) HN9.out (resS_num w15 0 0 0 (j))); refine rgC 5 rfl (by kernel_rfl) (fun K hK => ?_); simp only [rg4, rg5, rg6]; go_simp; go_wp2_with fail; refine hK.out _ _ ⟨TrB.off HT9.out hzne.1, HI9.out.op.off (by omega)⟩ (fun _ => ?_); clear hK K; refine rgC 6 rfl (by kernel_rfl) (fun K hK => ?_); simp only [rg4, rg5, rg6]; go_simp; go_wp2_with fail; refine hK.out _ _ ⟨TrB.off6 (TrB.off HT9.out hzne.1) hzne.2, OpC.off6 (HI9.out.op.off (by omega)) (by omega)⟩ (fun _ => ?_); clear hK K; refine wpAnyH_done (by kernel_rfl) ?_ _; clear r1 r2 r3 a0 a1 a2 a3 a4 a5 f0 f1 f2 f3 f4 f5 fl; go_wp2_with fail; refine HF1.out.ret rfl rfl rfl rfl ?_
          exact RRP.out ▸ HF1.out.refR (setD_nd HLL.out HK.out rfl)
       ·have m0 : ¬ ((f k).dn : Int) < (I : Int) + (dn : Int) := by omega
        have s1 : ¬ ((f k).dn : Int) < 0 := by omega
        have s2 : ¬ (46368 : Int) < ((f k).dn : Int) := by have := HD46.out; omega
        have RRP : Hid (RR = (Go.Proofs.YtinholnidchblaaGreatDoor.setD (ndL f n) k (wriB (f k).d I zs), ⟨0, [], [], 0, 0, (dn : Int)⟩)) := qH (HRR.out.trans (by
         rw [oWrite, fileAt_find, HF.out]; simp only [HNK.out, HD4.out, Bool.false_eq_true, if_false]; rw [if_neg (by have := HZL.out; have := HIB.out; omega), HZL.out]
         simp
         rfl))
        have HWQ : Hid ((f k).dn = wrS (f k).d I zs) := qH (by
         unfold wrS; have h1 := HZL.out; have h2 := HDL.out
         rw [if_neg HNE0.out, h1, h2]; omega)
        have hsz46 : (f k).dn ≤ 46368 := by have := HIB.out; have := HD46.out; omega
        have HSB : Hid ((f k).dn ≤ 46368) := qH hsz46
        go_wp2_with (first
         | (at_make; go_must (refine wpList_mk rfl (.tmp 125) (.tmp 125) rfl _ _ _ _ ((f k).dn) rfl rfl (by omega) (by omega) (by omega) ?_); intro w9 hB9 hL9; have HB9 := qH hB9; have HL9 := qH hL9; clear hB9 hL9 g1 g2 g3 g4 g5 g6 l6 l7 e0 e1 e2 e3; have HX9 := qH ((HL9.out.block _ (lt_of_block HX8.out)).trans HX8.out); obtain ⟨e0, e1, e2, e3⟩ := cells4 HX9.out)
         | (with_reducible refine wpList_cpF rfl (.tmp 127) (.tmp 129) rfl w8.heap.size ((f k).dn) ((f k).dn) (f k).dn (f k).dc (f k).da rfl rfl (f k).d HB9.out ((hN.next (HI8.out.next HL9.out).bel).data k HK.out).bys w8.heap.size w8 HL9.out (Nat.le_refl _) ?_; intro w10 hB10 hL10; have HB10 := qH hB10; have HL10 := qH hL10; clear hB10 hL10 e0 e1 e2 e3; have HI10 := qH (HI8.out.next HL10.out); have l6 := HI10.out.box.load; have l7 := HI10.out.box.cell; have hc := copyTree_fresh (c := c) (hN.next HI10.out.bel) (by omega) (fun i hi => ⟨(HEN.out i hi).1, by have := (HEN.out i hi).2; omega⟩)))
        refine hc.mono ?_; rintro e w11 ⟨v, k9, g, rfl, hO, hL, hge, hb11, hfr⟩
        obtain rfl : k9 = n := by have := congrArg List.length hL; rwa [ndL_len, ndL_len] at this
        rcases hO.form with ⟨_, h0⟩ | ⟨gb, cg, rfl⟩
        ·omega
        obtain ⟨w12, hw12⟩ : ∃ w12, w12 = w11.alloc (.cells #[.slice (some ⟨gb, 0, none⟩) k9 cg] 26 (0, 0)) := ⟨_, rfl⟩
        obtain ⟨z, hz13⟩ : ∃ z, z = w11.heap.size := ⟨_, rfl⟩
        have hS := wr_start HI10.out HB10.out (by have := HXY.out; have := lt_of_block HX8.out; omega) hO (hge gb rfl) hb11 hfr hw12; rw [← hz13] at hS; have HS := qH hS; have HLL := qH hL; have HW12 := qH hw12; have HZ := qH hz13
        have HZN : Hid (z ≠ x + 2 ∧ z ≠ x + 3) := qH (by
         have h1 := lt_of_block (HI10.out.next hb11).ans; rw [← hz13] at h1
         omega)
        clear hc hO hL hge hb11 hfr hw12 hz13 hS l6 l7
        go_upto_region 28 with fail
        rw [← HZ.out, ← HW12.out]; obtain ⟨g1, g2, g3, g4, g5, g6⟩ := HS.out.op.op.cells; go_wp2_with fail
        go_loopw [14] (fun v14 wr => ∃ j : Nat, j ≤ dn ∧ v14 = .int .i64 (j : Int) ∧ WrI w x (some ⟨nb, off, none⟩) k9 c 8 I m p q da dn dc w8.heap.size (wrA (fitB (f k).d ((f k).dn)) I zs j) z gb cg g wr) (fun v14 _ => dn - (RowKit.intOf v14).toNat)
        case atStart => exact ⟨0, Nat.zero_le _, rfl, by rw [wrA_zero]; exact HS.out⟩
        case round =>
         clear g1 g2 g3 g4 g5 g6; obtain ⟨j, hj, rfl, hS⟩ := hrel; replace HS := qH hS; clear hS; obtain ⟨g1, g2, g3, g4, g5, g6⟩ := HS.out.op.op.cells; have HJ := qH hj; clear hj
         by_cases hlt : j < dn
         ·have hne : zs ≠ [] := by intro e; have h1 := HZL.out; rw [e] at h1; simp at h1; omega
          have hle := wrS_le (b := (f k).d) (i := I) hne; rw [← HWQ.out, HZL.out] at hle
          have hwl : (wrA (fitB (f k).d ((f k).dn)) I zs j).length = (f k).dn := by rw [wrA_len (by rw [fitB_len, HZL.out]; exact hle) (by rw [HZL.out]; exact Nat.le_of_lt hlt), fitB_len]
          have hst := wrA_step (F := fitB (f k).d ((f k).dn)) (i := I) (z := zs) (j := j) (by rw [fitB_len, HZL.out]; exact hle) (by rw [HZL.out]; exact hlt)
          obtain ⟨s, hs⟩ : ∃ s, s = I + j := ⟨_, rfl⟩
          rw [← hs] at hst; have HST := qH hst; have HSS := qH hs; have hS2 := HS.out.set s (byt zs j); rw [hst] at hS2
          obtain ⟨w13, hw13⟩ : ∃ w13, w13 = (wr.setCell ⟨w8.heap.size, s, none⟩ (.int .u8 (byt zs j))).drew := ⟨_, rfl⟩
          have hbd : Below (wr.setCell ⟨w8.heap.size, s, none⟩ (.int .u8 (byt zs j))).heap.size (wr.setCell ⟨w8.heap.size, s, none⟩ (.int .u8 (byt zs j))) w13 := by rw [hw13]; exact below_drewN (Below.refl _ _) 1
          have HS2 := qH (hS2.next hbd); have HW13 := qH hw13
          have s46 : s < (f k).dn := by omega
          have sB : s < 46368 := by have := HSB.out; omega
          have hwr : IntKind.i64.wrap ((I : Int) + (j : Int)) = (s : Int) := by rw [IntWalk.i64_in _ (by omega)]; omega
          have s0 : (0 : Int) ≤ (s : Int) := by omega
          have s1 : (s : Int) < (((f k).dn : Nat) : Int) := by omega
          have j0 : (0 : Int) ≤ (j : Int) := by omega
          have j1 : (j : Int) < (dn : Int) := by omega
          have hPd := hzp.next HS.out.op.bel; obtain ⟨db, doff, hda, hdl, hdc⟩ := hPd.at (by omega); have x1 := hdc j hlt; have cB := HS.out.blk.cell (i := s) (by rw [hwl]; exact s46); have fB := HS.out.blk.free s; have lB := HS.out.blk.lt; have HLT := qH hlt; have HDA := qH hda; rw [hda] at g6; clear hda hdc hPd hst hs hS2 hle hne hwl hw13 hbd; go_wp2_with fail; go_region; go_wp2_with fail; rw [← HW13.out]
          go_roundw
          case rel => exact ⟨j + 1, HLT.out, by go_num, HS2.out⟩
          case measure => have := HLT.out; simp [RowKit.intOf]; omega
         ·obtain rfl : j = dn := by have := HJ.out; omega
          have hwe : wrA (fitB (f k).d ((f k).dn)) I zs j = wriB (f k).d I zs := by rw [HWQ.out, ← HZL.out]; exact wrA_end _ _ _
          rw [hwe] at HS; have HWE := qH hwe; clear hwe; obtain ⟨q0, q1, q2, q3⟩ := HS.out.own.cell HK.out; rw [Nat.zero_add] at q2; have qf := HS.out.own.freeJ (k * 4 + 2); have ql := HS.out.own.lt gb rfl; have o1 := HS.out.out.cell
          obtain ⟨w14, hw14⟩ : ∃ w14, w14 = wr.setCell ⟨gb, k * 4 + 2, none⟩ (.slice (some ⟨w8.heap.size, 0, none⟩) ((f k).dn) ((f k).dn)) := ⟨_, rfl⟩
          have hfin := HS.out.fin (wriB_small ((hN.data k HK.out).bys.small) hzp.bys.small _) (L := (f k).dn) (by rw [wriB_len]; have := HWQ.out; unfold wrS at this; exact this.symm) (by omega) HK.out; rw [Nat.zero_add, ← hw14] at hfin; have HFI := qH hfin; have HW14 := qH hw14; clear hfin hw14
          go_upto_region 34 with fail
          rw [← HW14.out]; clear q0 q1 q2 q3 qf ql o1
          obtain ⟨w15, hw15⟩ : ∃ w15, w15 = w14.drew := ⟨_, rfl⟩
          have hbd : Below w14.heap.size w14 w15 := by rw [hw15]; exact below_drewN (Below.refl _ _) 1
          have HI9 := qH (HFI.out.1.next hbd); have HN9 := qH (HFI.out.2.2.nds.next hbd); have HT9 : Hid (TrB w15 z (.slice (some ⟨gb, 0, none⟩) k9 cg)) := qH ((hbd.block _ (lt_of_block HFI.out.2.1)).trans HFI.out.2.1); have hzne : z ≠ x + 2 ∧ z ≠ x + 3 := HZN.out; refine wp_region_held_drew (S := (fun w' => TrB w' z (.slice (some ⟨gb, 0, none⟩) k9 cg) ∧ OpC w' (x + 1) 8 I m p q da j dc)) (by kernel_rfl) ?_ (fun hHeld => ?_)
          ·exact ⟨HFI.out.2.1, HFI.out.1.op⟩
          rw [← hw15] at hHeld ⊢; clear hw15 hbd; refine rgZ 0 ?_ rfl (.inl ⟨by rfl, fun w hSw => ?_⟩) ?_ (by kernel_rfl) (fun _ _ _ h => h) (by assumption); rotate_left
          ·have hl := TrB.load hSw.1
           have hcl := TrB.cell hSw.1; go_simp
           try with_reducible rfl
          simp only [Act.put, rg]; refine rgZ 1 ?_ rfl (.inl ⟨by rfl, fun w hSw => ?_⟩) ?_ (by kernel_rfl) (fun _ _ _ h => h) (by assumption); rotate_left
          ·(try dsimp only at hSw); go_simp; try with_reducible rfl
          simp only [Act.put, rg]; refine rgZ 2 ?_ rfl (.inl ⟨by rfl, fun w hSw => ?_⟩) ?_ (by kernel_rfl) (fun _ _ _ h => h) (by assumption); rotate_left
          ·obtain ⟨y1, y2, y3, y4, y5, y6⟩ := OpC.cells hSw.2
           go_simp
           try with_reducible rfl
          simp only [Act.put, rg]; refine rgZ 3 ?_ rfl (.inl ⟨by rfl, fun w hSw => ?_⟩) ?_ (by kernel_rfl) (fun _ _ _ h => h) (by assumption); rotate_left
          ·(try dsimp only at hSw); go_simp; try with_reducible rfl
          simp only [Act.put, rg]; refine rgZ 4 ?_ rfl (.inl ⟨by rfl, fun w hSw => ?_⟩) ?_ (by kernel_rfl) (fun _ _ _ h => h) (by assumption); rotate_left
          ·(try dsimp only at hSw); go_simp; try with_reducible rfl
          simp only [Act.put, rg]; obtain ⟨r1, r2, r3, ⟨a0, a1, a2, a3, a4, a5⟩, f0, f1, f2, f3, f4, f5, fl⟩ := HI9.out.all; have HF1 := qH (HI9.out.fin (cc := cg) HN9.out (resS_num w15 0 0 0 (j))); refine rgC 5 rfl (by kernel_rfl) (fun K hK => ?_); simp only [rg4, rg5, rg6]; go_simp; go_wp2_with fail; refine hK.out _ _ ⟨TrB.off HT9.out hzne.1, HI9.out.op.off (by omega)⟩ (fun _ => ?_); clear hK K; refine rgC 6 rfl (by kernel_rfl) (fun K hK => ?_); simp only [rg4, rg5, rg6]; go_simp; go_wp2_with fail; refine hK.out _ _ ⟨TrB.off6 (TrB.off HT9.out hzne.1) hzne.2, OpC.off6 (HI9.out.op.off (by omega)) (by omega)⟩ (fun _ => ?_); clear hK K; refine wpAnyH_done (by kernel_rfl) ?_ _; clear r1 r2 r3 a0 a1 a2 a3 a4 a5 f0 f1 f2 f3 f4 f5 fl; go_wp2_with fail; refine HF1.out.ret rfl rfl rfl rfl ?_
          exact RRP.out ▸ HF1.out.refR (setD_nd HLL.out HK.out rfl)
theorem rtrunc_any (hN : Nds w na n f) (ht : Rgt (ndL f n)) (hen : ∀ i, i < n → (f i).dn ≤ 1000000 ∧ (f i).en ≤ 100000) (hp : p.size ≤ 1000000) :
  Calls Tryz.prog 78 #[.agg #[.slice na n c], .agg #[.int .i64 9, .string p, .string q, .int .i64 i, .int .i64 m, .slice da dn dc]] w (RefR w (oTrunc (ndL f n) (nms p) m)) := by
 obtain ⟨RR, hRR⟩ : ∃ RR, RR = oTrunc (ndL f n) (nms p) m := ⟨_, rfl⟩
 rw [← hRR]
 have HRR := qH hRR
 obtain ⟨x, hx⟩ : ∃ x, x = w.heap.size := ⟨_, rfl⟩
 obtain ⟨w4, hw4, hI⟩ := op_start w na n c 9 i m p q da dn dc
 rw [← hx] at hI
 have HI0 := qH hI
 have HX := qH hx
 have HW4 := qH hw4
 unfold ResZ at hw4
 have HT := qH ht
 have HEN := qH hen
 have hn56 : n ≤ 56 := ht.le.2
 clear hRR hI hx ht
 obtain ⟨b1, b2, b3, b4, b5, b6⟩ := HI0.out.op.cells
 have l1 := HI0.out.box.load
 have l2 := HI0.out.box.cell
 have hc := rfindP_any (c := c) (hN.next HI0.out.bel) HT.out (fun i hi => by have := (HEN.out i hi).2; omega) p hp
 go_enter Tryz.func78, Tryz.ntmps78
 go_wp2_with fail
 rw [← HX.out, ← hw4]
 refine hc.mono ?_
 rintro e w7 ⟨rfl, hb7⟩
 have HI := qH (HI0.out.next hb7)
 clear hc hb7 b1 b2 b3 b4 b5 b6 l1 l2
 have b1 := HI.out.op.cells
 have l1 := HI.out.box.load
 have l2 := HI.out.box.cell
 obtain ⟨b1, b2, b3, b4, b5, b6⟩ := b1
 cases hf : findO (ndL f n) (nms p) with
 | error e9 =>
  have RRP : Hid (RR = (ndL f n, .bad e9)) := qH (HRR.out.trans (by rw [oTrunc, fileAt_find, hf]))
  have he9 : (e9 != 0) = true := by have := findO_err hf; simpa using this
  dsimp only [wlkP]
  clear hf
  go_wp2_with fail
  refine wp_region_held_drew (S := (fun w' => TrB w' x (.slice na n c))) (by kernel_rfl) ?_ (fun hHeld => ?_)
  ·exact HI.out.box
  refine rgZ 0 ?_ rfl (.inl ⟨by rfl, fun w hSw => ?_⟩) ?_ (by kernel_rfl) (fun _ _ _ h => h) (by assumption)
  rotate_left
  ·have hl := TrB.load hSw
   have hcl := TrB.cell hSw; go_simp
   try with_reducible rfl
  simp only [Act.put, rg]
  refine rgZ 1 ?_ rfl (.inl ⟨by rfl, fun w hSw => ?_⟩) ?_ (by kernel_rfl) (fun _ _ _ h => h) (by assumption)
  rotate_left
  ·(try dsimp only at hSw); go_simp; try with_reducible rfl
  simp only [Act.put, rg]
  refine rgC 2 rfl (by kernel_rfl) (fun K hK => ?_)
  simp only [rg4, rg5, rg6]
  go_simp
  refine (rwrong_any _ (e9)).mono ?_
  rintro e w9 ⟨rfl, hb7⟩
  have HI7 := qH (HI.out.next ((below_drewN (Below.refl _ _) 1).trans hb7))
  have HN7 := qH (hN.next HI7.out.bel)
  clear hb7 hHeld
  go_wp2_with fail
  refine hK.out _ _ HI7.out.box (fun _ => ?_)
  clear hK K
  obtain ⟨r1, r2, r3, ⟨a0, a1, a2, a3, a4, a5⟩, f0, f1, f2, f3, f4, f5, fl⟩ := HI7.out.all
  have HF1 := qH (HI7.out.fin (cc := c) HN7.out (resS_num w9 (e9) 0 0 0))
  refine rgC 3 rfl (by kernel_rfl) (fun K hK => ?_)
  simp only [rg4, rg5, rg6]
  go_simp
  go_wp2_with fail
  refine hK.out _ _ HI7.out.b1 (fun _ => ?_)
  clear hK K
  refine rgC 4 rfl (by kernel_rfl) (fun K hK => ?_)
  simp only [rg4, rg5, rg6]
  go_simp
  go_wp2_with fail
  refine hK.out _ _ HI7.out.b6 (fun _ => ?_)
  clear hK K
  refine wpAnyH_done (by kernel_rfl) ?_ _
  clear r1 r2 r3 a0 a1 a2 a3 a4 a5 f0 f1 f2 f3 f4 f5 fl
  go_wp2_with fail
  refine HF1.out.ret rfl rfl rfl rfl ?_
  exact RRP.out ▸ HF1.out.refR rfl
 | ok k =>
  have hk : k < n := findO_lt HT.out hf
  have HK := qH hk
  have HF := qH hf
  have hdl : (f k).d.length = (f k).dn := (hN.data k hk).len
  have HDL := qH hdl
  have HD46 : Hid ((f k).dn ≤ 46368) := qH (by rw [← hdl]; exact data_le HT.out hk)
  obtain ⟨nb, off, rfl, hbl, d0, d1, d2, d3⟩ := (hN.next HI.out.bel).at hk
  have k0 : (0 : Int) ≤ (k : Int) := by omega
  have k1' : (k : Int) < (n : Int) := by omega
  have hnk : nat (ndL f n) k = (f k).nd := nat_ndL hk
  have HNK := qH hnk
  dsimp only [wlkP]
  have hi8 := HI.out.next ((Below.refl _ _).alloc (Nat.le_refl _) (Obj.cells #[.int .i64 (f k).k, .int .i64 (f k).l, .slice (f k).da (f k).dn (f k).dc, .slice (f k).ea (f k).en (f k).ec] 54 (0, 0)))
  have hx8 : (w7.alloc (Obj.cells #[.int .i64 (f k).k, .int .i64 (f k).l, .slice (f k).da (f k).dn (f k).dc, .slice (f k).ea (f k).en (f k).ec] 54 (0, 0))).heap[w7.heap.size]? = some (Obj.cells #[.int .i64 (f k).k, .int .i64 (f k).l, .slice (f k).da (f k).dn (f k).dc, .slice (f k).ea (f k).en (f k).ec] 54 (0, 0)) := heap_alloc_new w7 _
  obtain ⟨w8, hw8⟩ : ∃ w8, w8 = w7.alloc (Obj.cells #[.int .i64 (f k).k, .int .i64 (f k).l, .slice (f k).da (f k).dn (f k).dc, .slice (f k).ea (f k).en (f k).ec] 54 (0, 0)) := ⟨_, rfl⟩
  obtain ⟨y, hy⟩ : ∃ y, y = w7.heap.size := ⟨_, rfl⟩
  have HI8 := qH hi8
  have HX8 := qH hx8
  have HW8 := qH hw8
  have HY := qH hy
  have HXY : Hid (x + 3 < y) := qH (by rw [hy]; exact lt_of_block HI.out.ans)
  rw [← hw8] at HI8 HX8
  rw [← hy] at HX8
  clear hnk hf hi8 hx8 hw8 hy hdl
  go_upto_region 5 with fail
  rw [← HY.out, ← HW8.out]
  clear b1 b2 b3 b4 b5 b6 l1 l2 d0 d1 d2 d3
  obtain ⟨g1, g2, g3, g4, g5, g6⟩ := HI8.out.op.cells
  have l6 := HI8.out.box.load
  have l7 := HI8.out.box.cell
  obtain ⟨e0, e1, e2, e3⟩ := cells4 HX8.out
  cases hd : isD (f k).nd with
  | true =>
   have hd2 : ((f k).k == 2) = true := hd; have RRP : Hid (RR = (ndL f n, .bad 23)) := qH (HRR.out.trans (by rw [oTrunc, fileAt_find, HF.out]; simp only [HNK.out, hd, if_true])); clear hd; go_wp2_with fail; clear g1 g2 g3 g4 g5 g6 l6 l7 e0 e1 e2 e3; refine wp_region_held_drew (S := (fun w' => TrB w' x (.slice (some ⟨nb, off, none⟩) n c))) (by kernel_rfl) ?_ (fun hHeld => ?_)
   ·exact HI8.out.box
   refine rgZ 0 ?_ rfl (.inl ⟨by rfl, fun w hSw => ?_⟩) ?_ (by kernel_rfl) (fun _ _ _ h => h) (by assumption); rotate_left
   ·have hl := TrB.load hSw
    have hcl := TrB.cell hSw; go_simp
    try with_reducible rfl
   simp only [Act.put, rg]; refine rgC 1 rfl (by kernel_rfl) (fun K hK => ?_); simp only [rg4, rg5, rg6]; go_simp; refine (rwrong_any _ (23)).mono ?_; rintro e w9 ⟨rfl, hb7⟩; have HI7 := qH (HI8.out.next ((below_drewN (Below.refl _ _) 1).trans hb7)); have HN7 := qH (hN.next HI7.out.bel); clear hb7 hHeld; go_wp2_with fail; refine hK.out _ _ HI7.out.box (fun _ => ?_); clear hK K; obtain ⟨r1, r2, r3, ⟨a0, a1, a2, a3, a4, a5⟩, f0, f1, f2, f3, f4, f5, fl⟩ := HI7.out.all; have HF1 := qH (HI7.out.fin (cc := c) HN7.out (resS_num w9 (23) 0 0 0)); refine rgC 2 rfl (by kernel_rfl) (fun K hK => ?_); simp only [rg4, rg5, rg6]; go_simp; go_wp2_with fail; refine hK.out _ _ HI7.out.b1 (fun _ => ?_); clear hK K; refine rgC 3 rfl (by kernel_rfl) (fun K hK => ?_); simp only [rg4, rg5, rg6]; go_simp; go_wp2_with fail; refine hK.out _ _ HI7.out.b6 (fun _ => ?_); clear hK K; refine wpAnyH_done (by kernel_rfl) ?_ _; clear r1 r2 r3 a0 a1 a2 a3 a4 a5 f0 f1 f2 f3 f4 f5 fl; go_wp2_with fail; refine HF1.out.ret rfl rfl rfl rfl ?_
   exact RRP.out ▸ HF1.out.refR rfl
  | false =>
   have hd2 : ((f k).k == 2) = false := hd; have HD4 := qH hd; clear hd
   by_cases hm0 : m < 0
   ·have RRP : Hid (RR = (ndL f n, .bad 28)) := qH (HRR.out.trans (by rw [oTrunc, fileAt_find, HF.out]; simp only [HNK.out, HD4.out]; exact if_pos (Or.inl hm0)))
    go_wp2_with fail; clear g1 g2 g3 g4 g5 g6 l6 l7 e0 e1 e2 e3; refine wp_region_held_drew (S := (fun w' => TrB w' x (.slice (some ⟨nb, off, none⟩) n c))) (by kernel_rfl) ?_ (fun hHeld => ?_)
    ·exact HI8.out.box
    refine rgZ 0 ?_ rfl (.inl ⟨by rfl, fun w hSw => ?_⟩) ?_ (by kernel_rfl) (fun _ _ _ h => h) (by assumption); rotate_left
    ·have hl := TrB.load hSw
     have hcl := TrB.cell hSw; go_simp
     try with_reducible rfl
    simp only [Act.put, rg]; refine rgC 1 rfl (by kernel_rfl) (fun K hK => ?_); simp only [rg4, rg5, rg6]; go_simp; refine (rwrong_any _ (28)).mono ?_; rintro e w9 ⟨rfl, hb7⟩; have HI7 := qH (HI8.out.next ((below_drewN (Below.refl _ _) 1).trans hb7)); have HN7 := qH (hN.next HI7.out.bel); clear hb7 hHeld; go_wp2_with fail; refine hK.out _ _ HI7.out.box (fun _ => ?_); clear hK K; obtain ⟨r1, r2, r3, ⟨a0, a1, a2, a3, a4, a5⟩, f0, f1, f2, f3, f4, f5, fl⟩ := HI7.out.all; have HF1 := qH (HI7.out.fin (cc := c) HN7.out (resS_num w9 (28) 0 0 0)); refine rgC 2 rfl (by kernel_rfl) (fun K hK => ?_); simp only [rg4, rg5, rg6]; go_simp; go_wp2_with fail; refine hK.out _ _ HI7.out.b1 (fun _ => ?_); clear hK K; refine rgC 3 rfl (by kernel_rfl) (fun K hK => ?_); simp only [rg4, rg5, rg6]; go_simp; go_wp2_with fail; refine hK.out _ _ HI7.out.b6 (fun _ => ?_); clear hK K; refine wpAnyH_done (by kernel_rfl) ?_ _; clear r1 r2 r3 a0 a1 a2 a3 a4 a5 f0 f1 f2 f3 f4 f5 fl; go_wp2_with fail; refine HF1.out.ret rfl rfl rfl rfl ?_
    exact RRP.out ▸ HF1.out.refR rfl
   ·by_cases hm1 : 46368 < m
    ·have RRP : Hid (RR = (ndL f n, .bad 28)) := qH (HRR.out.trans (by rw [oTrunc, fileAt_find, HF.out]; simp only [HNK.out, HD4.out]; exact if_pos (Or.inr hm1)))
     go_wp2_with fail; clear g1 g2 g3 g4 g5 g6 l6 l7 e0 e1 e2 e3; refine wp_region_held_drew (S := (fun w' => TrB w' x (.slice (some ⟨nb, off, none⟩) n c))) (by kernel_rfl) ?_ (fun hHeld => ?_)
     ·exact HI8.out.box
     refine rgZ 0 ?_ rfl (.inl ⟨by rfl, fun w hSw => ?_⟩) ?_ (by kernel_rfl) (fun _ _ _ h => h) (by assumption); rotate_left
     ·have hl := TrB.load hSw
      have hcl := TrB.cell hSw; go_simp
      try with_reducible rfl
     simp only [Act.put, rg]; refine rgC 1 rfl (by kernel_rfl) (fun K hK => ?_); simp only [rg4, rg5, rg6]; go_simp; refine (rwrong_any _ (28)).mono ?_; rintro e w9 ⟨rfl, hb7⟩; have HI7 := qH (HI8.out.next ((below_drewN (Below.refl _ _) 1).trans hb7)); have HN7 := qH (hN.next HI7.out.bel); clear hb7 hHeld; go_wp2_with fail; refine hK.out _ _ HI7.out.box (fun _ => ?_); clear hK K; obtain ⟨r1, r2, r3, ⟨a0, a1, a2, a3, a4, a5⟩, f0, f1, f2, f3, f4, f5, fl⟩ := HI7.out.all; have HF1 := qH (HI7.out.fin (cc := c) HN7.out (resS_num w9 (28) 0 0 0)); refine rgC 2 rfl (by kernel_rfl) (fun K hK => ?_); simp only [rg4, rg5, rg6]; go_simp; go_wp2_with fail; refine hK.out _ _ HI7.out.b1 (fun _ => ?_); clear hK K; refine rgC 3 rfl (by kernel_rfl) (fun K hK => ?_); simp only [rg4, rg5, rg6]; go_simp; go_wp2_with fail; refine hK.out _ _ HI7.out.b6 (fun _ => ?_); clear hK K; refine wpAnyH_done (by kernel_rfl) ?_ _; clear r1 r2 r3 a0 a1 a2 a3 a4 a5 f0 f1 f2 f3 f4 f5 fl; go_wp2_with fail; refine HF1.out.ret rfl rfl rfl rfl ?_
     exact RRP.out ▸ HF1.out.refR rfl
    ·obtain ⟨M, rfl⟩ : ∃ M : Nat, m = (M : Int) := ⟨m.toNat, by omega⟩
     have RRP : Hid (RR = (Go.Proofs.YtinholnidchblaaGreatDoor.setD (ndL f n) k (fitB (f k).d M), .ok)) := qH (HRR.out.trans (by
      rw [oTrunc, fileAt_find, HF.out]; simp only [HNK.out, HD4.out, Bool.false_eq_true, if_false]; rw [if_neg (by omega)]
      simp
      rfl))
     have hM : M ≤ 46368 := by omega
     go_wp2_with (first
      | (at_make; go_must (refine wpList_mk rfl (.tmp 125) (.tmp 125) rfl _ _ _ _ (M) rfl rfl (by omega) (by omega) (by omega) ?_); intro w9 hB9 hL9; have HB9 := qH hB9; have HL9 := qH hL9; clear hB9 hL9 g1 g2 g3 g4 g5 g6 l6 l7 e0 e1 e2 e3; have HX9 := qH ((HL9.out.block _ (lt_of_block HX8.out)).trans HX8.out); obtain ⟨e0, e1, e2, e3⟩ := cells4 HX9.out)
      | (with_reducible refine wpList_cpF rfl (.tmp 127) (.tmp 129) rfl w8.heap.size (M) (M) (f k).dn (f k).dc (f k).da rfl rfl (f k).d HB9.out ((hN.next (HI8.out.next HL9.out).bel).data k HK.out).bys w8.heap.size w8 HL9.out (Nat.le_refl _) ?_; intro w10 hB10 hL10; have HB10 := qH hB10; have HL10 := qH hL10; clear hB10 hL10 e0 e1 e2 e3; have HI10 := qH (HI8.out.next HL10.out); have l6 := HI10.out.box.load; have l7 := HI10.out.box.cell; have hc := copyTree_fresh (c := c) (hN.next HI10.out.bel) (by omega) (fun i hi => ⟨(HEN.out i hi).1, by have := (HEN.out i hi).2; omega⟩)))
     refine hc.mono ?_; rintro e w11 ⟨v, k9, g, rfl, hO, hL, hge, hb11, hfr⟩
     obtain rfl : k9 = n := by have := congrArg List.length hL; rwa [ndL_len, ndL_len] at this
     rcases hO.form with ⟨_, h0⟩ | ⟨gb, cg, rfl⟩
     ·omega
     obtain ⟨w12, hw12⟩ : ∃ w12, w12 = w11.alloc (.cells #[.slice (some ⟨gb, 0, none⟩) k9 cg] 26 (0, 0)) := ⟨_, rfl⟩
     obtain ⟨z, hz13⟩ : ∃ z, z = w11.heap.size := ⟨_, rfl⟩
     have hS := wr_start HI10.out HB10.out (by have := HXY.out; have := lt_of_block HX8.out; omega) hO (hge gb rfl) hb11 hfr hw12; rw [← hz13] at hS; have HS := qH hS; have HLL := qH hL; have HW12 := qH hw12; have HZ := qH hz13
     have HZN : Hid (z ≠ x + 2 ∧ z ≠ x + 3) := qH (by
      have h1 := lt_of_block (HI10.out.next hb11).ans; rw [← hz13] at h1
      omega)
     clear hc hO hL hge hb11 hfr hw12 hz13 hS l6 l7
     go_upto_region 28 with fail
     rw [← HZ.out, ← HW12.out]; obtain ⟨g1, g2, g3, g4, g5, g6⟩ := HS.out.op.op.cells
     go_upto_region 35 with fail
     clear g1 g2 g3 g4 g5 g6; obtain ⟨q0, q1, q2, q3⟩ := HS.out.own.cell HK.out; rw [Nat.zero_add] at q2; have qf := HS.out.own.freeJ (k * 4 + 2); have ql := HS.out.own.lt gb rfl; have o1 := HS.out.out.cell
     obtain ⟨w14, hw14⟩ : ∃ w14, w14 = w12.setCell ⟨gb, k * 4 + 2, none⟩ (.slice (some ⟨w8.heap.size, 0, none⟩) (M) (M)) := ⟨_, rfl⟩
     have hfin := HS.out.fin (fitB_small ((hN.data k HK.out).bys.small) _) (L := M) (fitB_len _ _) (by omega) HK.out; rw [Nat.zero_add, ← hw14] at hfin; have HFI := qH hfin; have HW14 := qH hw14; clear hfin hw14
     go_upto_region 36 with fail
     rw [← HW14.out]; clear q0 q1 q2 q3 qf ql o1; have o1 := HFI.out.2.1.load; have o2 := HFI.out.2.1.cell; obtain ⟨g1, g2, g3, g4, g5, g6⟩ := HFI.out.1.op.cells; have HI9 := qH HFI.out.1; have HN9 := qH HFI.out.2.2.nds; obtain ⟨r1, r2, r3, ⟨a0, a1, a2, a3, a4, a5⟩, f0, f1, f2, f3, f4, f5, fl⟩ := HI9.out.all; have HF1 := qH (HI9.out.fin (cc := cg) HN9.out (resS_num w14 0 0 0 (0))); go_wp2_with fail; clear r1 r2 r3 a0 a1 a2 a3 a4 a5 f0 f1 f2 f3 f4 f5 fl; refine HF1.out.ret rfl rfl rfl rfl ?_
     exact RRP.out ▸ HF1.out.refR (setD_nd HLL.out HK.out rfl)
end
end Go.Proofs.YtinholnidchblaaGreatDoor
