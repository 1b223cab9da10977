import Derived.Test.YtinholnidchblaaGreatDoorQaw
set_option linter.unusedVariables false
set_option linter.unusedSimpArgs false
set_option maxRecDepth 100000
set_option maxHeartbeats 16000000
namespace Go.Proofs.YtinholnidchblaaGreatDoor
open Go.RowKit
theorem resS_dat {w : World} {a : Option Addr} {n c : Nat} {zs : List Int} (h : Pin w a n c zs) : ResS w ⟨0, zs, [], 0, 0, 0⟩ a n c none 0 0 [] := ⟨h, sts_nil _ _, rfl, fun _ => ⟨rfl, rfl⟩, Nat.le_refl _⟩
structure RdI (w0 : World) (x : Nat) (na : Option Addr) (n c : Nat) (o i m : Int) (p q : ByteArray) (da : Option Addr) (dn dc : Nat) (w8 : World) (y : Nat) (nd : Obj) (wr : World) : Prop where
 op : OpI w0 x na n c o i m p q da dn dc wr
 nd : wr.heap[y]? = some nd
 bel : Below w8.heap.size w8 wr
section
variable {w : World} {n c : Nat} {na : Option Addr} {f : Nat → Nc} {o i m : Int} {p q : ByteArray} {da : Option Addr} {dn dc : Nat}
theorem rread_any (hN : Nds w na n f) (ht : Rgt (ndL f n)) (hen : ∀ i, i < n → (f i).dn ≤ 1000000 ∧ (f i).en ≤ 100000) (hp : p.size ≤ 1000000) :
  Calls Tryz.prog 78 #[.agg #[.slice na n c], .agg #[.int .i64 7, .string p, .string q, .int .i64 i, .int .i64 m, .slice da dn dc]] w (RefR w (oRead (ndL f n) (nms p) i m)) := by
 obtain ⟨RR, hRR⟩ : ∃ RR, RR = oRead (ndL f n) (nms p) i m := ⟨_, rfl⟩
 rw [← hRR]
 have HRR := qH hRR
 obtain ⟨x, hx⟩ : ∃ x, x = w.heap.size := ⟨_, rfl⟩
 obtain ⟨w4, hw4, hI⟩ := op_start w na n c 7 i m p q da dn dc
 rw [← hx] at hI
 have HI0 := qH hI
 have HX := qH hx
 have HW4 := qH hw4
 unfold ResZ at hw4
 have HT := qH ht
 have HEN := qH hen
 have hn56 : n ≤ 56 := ht.le.2
 clear hRR hI hx ht
 obtain ⟨b1, b2, b3, b4, b5, b6⟩ := HI0.out.op.cells
 have l1 := HI0.out.box.load
 have l2 := HI0.out.box.cell
 have hc := rfindP_any (c := c) (hN.next HI0.out.bel) HT.out (fun i hi => by have := (HEN.out i hi).2; omega) p hp
 go_enter Tryz.func78, Tryz.ntmps78
 go_wp2_with fail
 rw [← HX.out, ← hw4]
 refine hc.mono ?_
 rintro e w7 ⟨rfl, hb7⟩
 have HI := qH (HI0.out.next hb7)
 clear hc hb7 b1 b2 b3 b4 b5 b6 l1 l2
 have b1 := HI.out.op.cells
 have l1 := HI.out.box.load
 have l2 := HI.out.box.cell
 obtain ⟨b1, b2, b3, b4, b5, b6⟩ := b1
 cases hf : findO (ndL f n) (nms p) with
 | error e9 =>
  have RRP : Hid (RR = (ndL f n, .bad e9)) := qH (HRR.out.trans (by rw [oRead, fileAt_find, hf]))
  have he9 : (e9 != 0) = true := by have := findO_err hf; simpa using this
  dsimp only [wlkP]
  clear hf
  go_wp2_with fail
  refine wp_region_held_drew (S := (fun w' => TrB w' x (.slice na n c))) (by kernel_rfl) ?_ (fun hHeld => ?_)
  ·exact HI.out.box
  refine rgZ 0 ?_ rfl (.inl ⟨by rfl, fun w hSw => ?_⟩) ?_ (by kernel_rfl) (fun _ _ _ h => h) (by assumption)
  rotate_left
  ·have hl := TrB.load hSw
   have hcl := TrB.cell hSw; go_simp
   try with_reducible rfl
  simp only [Act.put, rg]
  refine rgZ 1 ?_ rfl (.inl ⟨by rfl, fun w hSw => ?_⟩) ?_ (by kernel_rfl) (fun _ _ _ h => h) (by assumption)
  rotate_left
  ·(try dsimp only at hSw); go_simp; try with_reducible rfl
  simp only [Act.put, rg]
  refine rgC 2 rfl (by kernel_rfl) (fun K hK => ?_)
  simp only [rg4, rg5, rg6]
  go_simp
  refine (rwrong_any _ (e9)).mono ?_
  rintro e w9 ⟨rfl, hb7⟩
  have HI7 := qH (HI.out.next ((below_drewN (Below.refl _ _) 1).trans hb7))
  have HN7 := qH (hN.next HI7.out.bel)
  clear hb7 hHeld
  go_wp2_with fail
  refine hK.out _ _ HI7.out.box (fun _ => ?_)
  clear hK K
  obtain ⟨r1, r2, r3, ⟨a0, a1, a2, a3, a4, a5⟩, f0, f1, f2, f3, f4, f5, fl⟩ := HI7.out.all
  have HF1 := qH (HI7.out.fin (cc := c) HN7.out (resS_num w9 (e9) 0 0 0))
  refine rgC 3 rfl (by kernel_rfl) (fun K hK => ?_)
  simp only [rg4, rg5, rg6]
  go_simp
  go_wp2_with fail
  refine hK.out _ _ HI7.out.b1 (fun _ => ?_)
  clear hK K
  refine rgC 4 rfl (by kernel_rfl) (fun K hK => ?_)
  simp only [rg4, rg5, rg6]
  go_simp
  go_wp2_with fail
  refine hK.out _ _ HI7.out.b6 (fun _ => ?_)
  clear hK K
  refine wpAnyH_done (by kernel_rfl) ?_ _
  clear r1 r2 r3 a0 a1 a2 a3 a4 a5 f0 f1 f2 f3 f4 f5 fl
  go_wp2_with fail
  refine HF1.out.ret rfl rfl rfl rfl ?_
  exact RRP.out ▸ HF1.out.refR rfl
 | ok k =>
  have hk : k < n := findO_lt HT.out hf
  have HK := qH hk
  have HF := qH hf
  obtain ⟨nb, off, rfl, hbl, d0, d1, d2, d3⟩ := (hN.next HI.out.bel).at hk
  have k0 : (0 : Int) ≤ (k : Int) := by omega
  have k1' : (k : Int) < (n : Int) := by omega
  have hnk : nat (ndL f n) k = (f k).nd := nat_ndL hk
  have HNK := qH hnk
  dsimp only [wlkP]
  have hi8 := HI.out.next ((Below.refl _ _).alloc (Nat.le_refl _) (Obj.cells #[.int .i64 (f k).k, .int .i64 (f k).l, .slice (f k).da (f k).dn (f k).dc, .slice (f k).ea (f k).en (f k).ec] 54 (0, 0)))
  have hx8 : (w7.alloc (Obj.cells #[.int .i64 (f k).k, .int .i64 (f k).l, .slice (f k).da (f k).dn (f k).dc, .slice (f k).ea (f k).en (f k).ec] 54 (0, 0))).heap[w7.heap.size]? = some (Obj.cells #[.int .i64 (f k).k, .int .i64 (f k).l, .slice (f k).da (f k).dn (f k).dc, .slice (f k).ea (f k).en (f k).ec] 54 (0, 0)) := heap_alloc_new w7 _
  obtain ⟨w8, hw8⟩ : ∃ w8, w8 = w7.alloc (Obj.cells #[.int .i64 (f k).k, .int .i64 (f k).l, .slice (f k).da (f k).dn (f k).dc, .slice (f k).ea (f k).en (f k).ec] 54 (0, 0)) := ⟨_, rfl⟩
  obtain ⟨y, hy⟩ : ∃ y, y = w7.heap.size := ⟨_, rfl⟩
  have HI8 := qH hi8
  have HX8 := qH hx8
  have HW8 := qH hw8
  have HY := qH hy
  rw [← hw8] at HI8 HX8
  rw [← hy] at HX8
  obtain ⟨g1, g2, g3, g4, g5, g6⟩ := hi8.op.cells
  have l6 := hi8.box.load
  have l7 := hi8.box.cell
  obtain ⟨e0, e1, e2, e3⟩ := cells4 hx8
  clear hnk hf hi8 hx8 hw8 hy
  cases hd : isD (f k).nd with
  | true =>
   have hd2 : ((f k).k == 2) = true := hd; have RRP : Hid (RR = (ndL f n, .bad 23)) := qH (HRR.out.trans (by rw [oRead, fileAt_find, HF.out]; simp only [HNK.out, hd, if_true])); clear hd; go_wp2_with fail; rw [← HY.out, ← HW8.out]; clear g1 g2 g3 g4 g5 g6 l6 l7 e0 e1 e2 e3; refine wp_region_held_drew (S := (fun w' => TrB w' x (.slice (some ⟨nb, off, none⟩) n c))) (by kernel_rfl) ?_ (fun hHeld => ?_)
   ·exact HI8.out.box
   refine rgZ 0 ?_ rfl (.inl ⟨by rfl, fun w hSw => ?_⟩) ?_ (by kernel_rfl) (fun _ _ _ h => h) (by assumption); rotate_left
   ·have hl := TrB.load hSw
    have hcl := TrB.cell hSw; go_simp
    try with_reducible rfl
   simp only [Act.put, rg]; refine rgC 1 rfl (by kernel_rfl) (fun K hK => ?_); simp only [rg4, rg5, rg6]; go_simp; refine (rwrong_any _ (23)).mono ?_; rintro e w9 ⟨rfl, hb7⟩; have HI7 := qH (HI8.out.next ((below_drewN (Below.refl _ _) 1).trans hb7)); have HN7 := qH (hN.next HI7.out.bel); clear hb7 hHeld; go_wp2_with fail; refine hK.out _ _ HI7.out.box (fun _ => ?_); clear hK K; obtain ⟨r1, r2, r3, ⟨a0, a1, a2, a3, a4, a5⟩, f0, f1, f2, f3, f4, f5, fl⟩ := HI7.out.all; have HF1 := qH (HI7.out.fin (cc := c) HN7.out (resS_num w9 (23) 0 0 0)); refine rgC 2 rfl (by kernel_rfl) (fun K hK => ?_); simp only [rg4, rg5, rg6]; go_simp; go_wp2_with fail; refine hK.out _ _ HI7.out.b1 (fun _ => ?_); clear hK K; refine rgC 3 rfl (by kernel_rfl) (fun K hK => ?_); simp only [rg4, rg5, rg6]; go_simp; go_wp2_with fail; refine hK.out _ _ HI7.out.b6 (fun _ => ?_); clear hK K; refine wpAnyH_done (by kernel_rfl) ?_ _; clear r1 r2 r3 a0 a1 a2 a3 a4 a5 f0 f1 f2 f3 f4 f5 fl; go_wp2_with fail; refine HF1.out.ret rfl rfl rfl rfl ?_
   exact RRP.out ▸ HF1.out.refR rfl
  | false =>
   have hd2 : ((f k).k == 2) = false := hd; have hd4 := hd; clear hd
   by_cases hi0 : i < 0
   ·have RRP : Hid (RR = (ndL f n, .bad 28)) := qH (HRR.out.trans (by rw [oRead, fileAt_find, HF.out]; simp only [HNK.out, hd4]; exact if_pos (Or.inl hi0)))
    go_wp2_with fail; rw [← HY.out, ← HW8.out]; clear g1 g2 g3 g4 g5 g6 l6 l7 e0 e1 e2 e3; refine wp_region_held_drew (S := (fun w' => TrB w' x (.slice (some ⟨nb, off, none⟩) n c))) (by kernel_rfl) ?_ (fun hHeld => ?_)
    ·exact HI8.out.box
    refine rgZ 0 ?_ rfl (.inl ⟨by rfl, fun w hSw => ?_⟩) ?_ (by kernel_rfl) (fun _ _ _ h => h) (by assumption); rotate_left
    ·have hl := TrB.load hSw
     have hcl := TrB.cell hSw; go_simp
     try with_reducible rfl
    simp only [Act.put, rg]; refine rgC 1 rfl (by kernel_rfl) (fun K hK => ?_); simp only [rg4, rg5, rg6]; go_simp; refine (rwrong_any _ (28)).mono ?_; rintro e w9 ⟨rfl, hb7⟩; have HI7 := qH (HI8.out.next ((below_drewN (Below.refl _ _) 1).trans hb7)); have HN7 := qH (hN.next HI7.out.bel); clear hb7 hHeld; go_wp2_with fail; refine hK.out _ _ HI7.out.box (fun _ => ?_); clear hK K; obtain ⟨r1, r2, r3, ⟨a0, a1, a2, a3, a4, a5⟩, f0, f1, f2, f3, f4, f5, fl⟩ := HI7.out.all; have HF1 := qH (HI7.out.fin (cc := c) HN7.out (resS_num w9 (28) 0 0 0)); refine rgC 2 rfl (by kernel_rfl) (fun K hK => ?_); simp only [rg4, rg5, rg6]; go_simp; go_wp2_with fail; refine hK.out _ _ HI7.out.b1 (fun _ => ?_); clear hK K; refine rgC 3 rfl (by kernel_rfl) (fun K hK => ?_); simp only [rg4, rg5, rg6]; go_simp; go_wp2_with fail; refine hK.out _ _ HI7.out.b6 (fun _ => ?_); clear hK K; refine wpAnyH_done (by kernel_rfl) ?_ _; clear r1 r2 r3 a0 a1 a2 a3 a4 a5 f0 f1 f2 f3 f4 f5 fl; go_wp2_with fail; refine HF1.out.ret rfl rfl rfl rfl ?_
    exact RRP.out ▸ HF1.out.refR rfl
   ·by_cases hm0 : m < 0
    ·have RRP : Hid (RR = (ndL f n, .bad 28)) := qH (HRR.out.trans (by rw [oRead, fileAt_find, HF.out]; simp only [HNK.out, hd4]; exact if_pos (Or.inr hm0)))
     go_wp2_with fail; rw [← HY.out, ← HW8.out]; clear g1 g2 g3 g4 g5 g6 l6 l7 e0 e1 e2 e3; refine wp_region_held_drew (S := (fun w' => TrB w' x (.slice (some ⟨nb, off, none⟩) n c))) (by kernel_rfl) ?_ (fun hHeld => ?_)
     ·exact HI8.out.box
     refine rgZ 0 ?_ rfl (.inl ⟨by rfl, fun w hSw => ?_⟩) ?_ (by kernel_rfl) (fun _ _ _ h => h) (by assumption); rotate_left
     ·have hl := TrB.load hSw
      have hcl := TrB.cell hSw; go_simp
      try with_reducible rfl
     simp only [Act.put, rg]; refine rgC 1 rfl (by kernel_rfl) (fun K hK => ?_); simp only [rg4, rg5, rg6]; go_simp; refine (rwrong_any _ (28)).mono ?_; rintro e w9 ⟨rfl, hb7⟩; have HI7 := qH (HI8.out.next ((below_drewN (Below.refl _ _) 1).trans hb7)); have HN7 := qH (hN.next HI7.out.bel); clear hb7 hHeld; go_wp2_with fail; refine hK.out _ _ HI7.out.box (fun _ => ?_); clear hK K; obtain ⟨r1, r2, r3, ⟨a0, a1, a2, a3, a4, a5⟩, f0, f1, f2, f3, f4, f5, fl⟩ := HI7.out.all; have HF1 := qH (HI7.out.fin (cc := c) HN7.out (resS_num w9 (28) 0 0 0)); refine rgC 2 rfl (by kernel_rfl) (fun K hK => ?_); simp only [rg4, rg5, rg6]; go_simp; go_wp2_with fail; refine hK.out _ _ HI7.out.b1 (fun _ => ?_); clear hK K; refine rgC 3 rfl (by kernel_rfl) (fun K hK => ?_); simp only [rg4, rg5, rg6]; go_simp; go_wp2_with fail; refine hK.out _ _ HI7.out.b6 (fun _ => ?_); clear hK K; refine wpAnyH_done (by kernel_rfl) ?_ _; clear r1 r2 r3 a0 a1 a2 a3 a4 a5 f0 f1 f2 f3 f4 f5 fl; go_wp2_with fail; refine HF1.out.ret rfl rfl rfl rfl ?_
     exact RRP.out ▸ HF1.out.refR rfl
    ·have hi9 := HI8.out.next ((Below.refl _ _).alloc (Nat.le_refl _) (.cells #[] 5))
     have hx9 : (w8.alloc (.cells #[] 5)).heap[y]? = some (Obj.cells #[.int .i64 (f k).k, .int .i64 (f k).l, .slice (f k).da (f k).dn (f k).dc, .slice (f k).ea (f k).en (f k).ec] 54 (0, 0)) := (((Below.refl _ _).alloc (Nat.le_refl _) (.cells #[] 5)).block _ (lt_of_block HX8.out)).trans HX8.out; have HI9 := qH hi9; have HX9 := qH hx9; rw [HW8.out] at hi9 hx9; rw [HY.out] at hx9; obtain ⟨p1, p2, p3, p4, p5, p6⟩ := hi9.op.cells; obtain ⟨q0, q1, q2, q3⟩ := cells4 hx9; clear hi9 hx9
     obtain ⟨I, rfl⟩ : ∃ I : Nat, i = (I : Int) := ⟨i.toNat, by omega⟩
     obtain ⟨M, rfl⟩ : ∃ M : Nat, m = (M : Int) := ⟨m.toNat, by omega⟩
     have HOW : Hid (Own (w8.alloc (.cells #[] 5)) w8.heap.size (.slice (some ⟨y + 1, 0, none⟩) 0 0) 0 []) := qH (by
      have h := own_none w8 w8.heap.size (Nat.le_refl _)
      have e : w8.heap.size = y + 1 := by rw [HW8.out, HY.out]; simp
      rw [e] at h ⊢
      exact h)
     go_wp2_with fail; have HS9 : Hid (RdI w x (some ⟨nb, off, none⟩) n c 7 I M p q da dn dc w8 y (Obj.cells #[.int .i64 (f k).k, .int .i64 (f k).l, .slice (f k).da (f k).dn (f k).dc, .slice (f k).ea (f k).en (f k).ec] 54 (0, 0)) (w8.alloc (.cells #[] 5))) := qH ⟨HI9.out, HX9.out, (Below.refl _ _).alloc (Nat.le_refl _) _⟩; rw [← HW8.out]; rw [← HY.out]; clear p1 p2 p3 p4 p5 p6 q0 q1 q2 q3 g1 g2 g3 g4 g5 g6 l6 l7 e0 e1 e2 e3 d0 d1 d2 d3
     go_loopw [9, 10] (fun v9 v10 wr => ∃ j s : Nat, s = I + j ∧ v10 = .int .i64 (s : Int) ∧ (j = 0 ∨ s ≤ (f k).dn) ∧ j ≤ M ∧ Own wr w8.heap.size v9 j (((f k).d.drop I).take j) ∧ RdI w x (some ⟨nb, off, none⟩) n c 7 I M p q da dn dc w8 y (Obj.cells #[.int .i64 (f k).k, .int .i64 (f k).l, .slice (f k).da (f k).dn (f k).dc, .slice (f k).ea (f k).en (f k).ec] 54 (0, 0)) wr) (fun _ v10 _ => (f k).dn - (RowKit.intOf v10).toNat)
     case atStart => exact ⟨0, I, rfl, rfl, Or.inl rfl, Nat.zero_le _, HOW.out, HS9.out⟩
     case round =>
      obtain ⟨j, s, hs, rfl, hj, hjM, hO, hR⟩ := hrel; have HR := qH hR; have HO1 := qH hO; have HS := qH hs; have HJ := qH hj; have HJM := qH hjM; obtain ⟨a9, c9, rfl, hPn, hlo⟩ := hO.pin; obtain ⟨p1, p2, p3, p4, p5, p6⟩ := hR.op.op.cells; obtain ⟨q0, q1, q2, q3⟩ := cells4 hR.nd; have hPd := (hN.next hR.op.bel).data k HK.out; have HPN := qH hPn; have HPD := qH hPd
      have s0 : (0 : Int) ≤ (s : Int) := by omega
      clear hO hPn hlo hR hs hj hjM
      by_cases h1 : s < (f k).dn
      ·have t0 : (s : Int) < ((f k).dn : Int) := by omega
       by_cases h2 : j < M
       ·obtain ⟨db, doff, hda, hdl, hdc⟩ := hPd.at (by omega)
        have x1 := hdc s h1
        have t1 : (j : Int) < (M : Int) := by omega
        rw [hda] at q2; clear hda; have hdl2 := hPd.len
        have htk : ((f k).d.drop I).take j ++ [byt (f k).d s] = ((f k).d.drop I).take (j + 1) := by
         have hs := HS.out; rw [List.take_add_one, List.getElem?_drop, List.getElem?_eq_getElem (by omega)]
         simp [byt, List.getD, List.getElem?_eq_getElem (show I + j < (f k).d.length by omega), hs]
        have HTK := qH htk; have HBY := qH (bys_one wr (byt_bd hPd.bys.small s)); have hB8 := HR.out.bel.size; have H1 := qH h1; have H2 := qH h2
        have hsj : s < 1000000 := by have := (HEN.out k HK.out).1; omega
        have hjj : j ≤ 1000000 := by have := HS.out; omega
        clear hdc htk hPd h1 h2
        go_wp2_with (at_builtin; go_must (refine wpList_ap2 rfl (.tmp 67) (.tmp 73) rfl w8.heap.size (.slice a9 j c9) j _ rfl (HO1.out.alloc _) ⟨wr.heap.size, 0, none⟩ 1 1 [byt (f k).d s] rfl HBY.out (by omega) (by simp; omega) w8 (HR.out.bel.trans ((Below.refl _ _).alloc HR.out.bel.size _)) ?_); intro v2 w12 hO2 hb2 hkeep; have HO2 := qH hO2; have HB2 := qH hb2; clear hO2 hb2 hkeep)
        go_roundw
        case rel => exact ⟨j + 1, s + 1, (by have := HS.out; omega), (by go_num), Or.inr (by have := H1.out; omega), (by have := H2.out; omega), HTK.out ▸ HO2.out, HI8.out.next HB2.out, (HB2.out.block _ (lt_of_block HX8.out)).trans HX8.out, HB2.out⟩
        case measure => have := H1.out; simp [RowKit.intOf]; omega
       ·have t1 : ¬ (j : Int) < (M : Int) := by omega
        have hfin : ((f k).d.drop I).take j = ((f k).d.drop I).take M := by rw [show j = M by have := HJM.out; omega]
        have HFN := qH hfin; clear hfin h1 h2 hPd
        have RRP : Hid (RR = (ndL f n, ⟨0, ((f k).d.drop I).take M, [], 0, 0, 0⟩)) := qH (HRR.out.trans (by
         rw [oRead, fileAt_find, HF.out]; simp only [HNK.out, hd4, Bool.false_eq_true, if_false]; rw [if_neg (by omega)]
         simp
         rfl))
        have HPN2 : Hid (Pin wr a9 j c9 (((f k).d.drop I).take M)) := qH (HFN.out ▸ HPN.out); have HJL : Hid ((((f k).d.drop I).take M).length = j) := qH HPN2.out.len; have l6 := HR.out.op.box.load; have l7 := HR.out.op.box.cell; obtain ⟨r1, r2, r3, ⟨a0, a1, a2', a3, a4, a5⟩, f0, f1, f2, f3, f4, f5, fl⟩ := HR.out.op.all; have HF1 := qH (HR.out.op.fin (cc := c) (hN.next HR.out.op.bel) (resS_dat HPN2.out)); go_wp2_with fail; clear r1 r2 r3 a0 a1 a2' a3 a4 a5 f0 f1 f2 f3 f4 f5 fl; refine HF1.out.ret rfl rfl rfl rfl ?_
        exact RRP.out ▸ HF1.out.refR rfl
      ·have t0 : ¬ (s : Int) < ((f k).dn : Int) := by omega
       have hfin : ((f k).d.drop I).take j = ((f k).d.drop I).take M := by
        have hs := HS.out; have hl := HPD.out.len; have hjm := HJM.out
        rcases HJ.out with e | e
        ·rw [List.drop_eq_nil_of_le (by omega)]; simp
        ·rw [List.take_of_length_le (by rw [List.length_drop]; omega), List.take_of_length_le (by rw [List.length_drop]; omega)]
       have HFN := qH hfin; clear hfin h1 hPd
       have RRP : Hid (RR = (ndL f n, ⟨0, ((f k).d.drop I).take M, [], 0, 0, 0⟩)) := qH (HRR.out.trans (by
        rw [oRead, fileAt_find, HF.out]; simp only [HNK.out, hd4, Bool.false_eq_true, if_false]; rw [if_neg (by omega)]
        simp
        rfl))
       have HPN2 : Hid (Pin wr a9 j c9 (((f k).d.drop I).take M)) := qH (HFN.out ▸ HPN.out); have HJL : Hid ((((f k).d.drop I).take M).length = j) := qH HPN2.out.len; have l6 := HR.out.op.box.load; have l7 := HR.out.op.box.cell; obtain ⟨r1, r2, r3, ⟨a0, a1, a2', a3, a4, a5⟩, f0, f1, f2, f3, f4, f5, fl⟩ := HR.out.op.all; have HF1 := qH (HR.out.op.fin (cc := c) (hN.next HR.out.op.bel) (resS_dat HPN2.out)); go_wp2_with fail; clear r1 r2 r3 a0 a1 a2' a3 a4 a5 f0 f1 f2 f3 f4 f5 fl; refine HF1.out.ret rfl rfl rfl rfl ?_
       exact RRP.out ▸ HF1.out.refR rfl
end
theorem OpC.off {w : World} {x b j : Nat} {u : Value} {o i m : Int} {p q : ByteArray} {da : Option Addr} {dn dc : Nat} (h : OpC w x o i m p q da dn dc) (hne : x ≠ b) : OpC (w.setCell ⟨b, j, none⟩ u) x o i m p q da dn dc := ((turn_set w b j u).block x (lt_of_block h) hne).trans h
theorem OpC.off6 {w : World} {x b : Nat} {v0 v1 v2 v3 v4 v5 : Value} {o i m : Int} {p q : ByteArray} {da : Option Addr} {dn dc : Nat} (h : OpC w x o i m p q da dn dc) (hne : x ≠ b) : OpC ((((((w.setCell ⟨b, 0, none⟩ v0).setCell ⟨b, 1, none⟩ v1).setCell ⟨b, 2, none⟩ v2).setCell ⟨b, 3, none⟩ v3).setCell ⟨b, 4, none⟩ v4).setCell ⟨b, 5, none⟩ v5) x o i m p q da dn dc := (((((h.off hne).off hne).off hne).off hne).off hne).off hne
theorem fitB_small {b : List Int} (h : AllB b) (n : Nat) : AllB (fitB b n) := by
 unfold fitB
 exact AllB.app (fun z hz => h z (List.mem_of_mem_take hz)) (AllB.zeros _)
theorem wpList_cpF {w : World} {ops : Array Oper} {rest : List Oper} {o : Oper} {a : Act} {Q : Exit → Act → World → Prop}
  (hgd : o.guard = none) (d s : Operand) (ho : o.op = .call { callee := .builtin .copy, args := #[d, s], argTypes := #[29, 29] })
  (g dLen dCap n c : Nat) (ad : Option Addr) (hd : a.eval d = .slice (some ⟨g, 0, none⟩) dLen dCap) (hs : a.eval s = .slice ad n c) (x : List Int) (hg : Blk w g (List.replicate dLen 0)) (hx : Bys w ad n x)
  (B : Nat) (w0 : World) (hb : Below B w0 w) (hB : B ≤ g)
  (hK : ∀ w', Blk w' g (fitB x dLen) → Below B w0 w' → wpList Tryz.prog ops Q rest (a.put o.dst (goInt (Nat.min n dLen))) w') :
  wpList Tryz.prog ops Q (o :: rest) a w := by
 have hxl := hx.len
 have hc : ((x.take dLen).map (Value.int .u8)).length = Nat.min n dLen := by
  rw [List.length_map, List.length_take, hxl]
  exact Nat.min_comm _ _
 have hle : Nat.min n dLen ≤ n := Nat.min_le_left _ _
 have hle2 : Nat.min n dLen ≤ dLen := Nat.min_le_right _ _
 refine wpList_copy_splice hgd d s 29 29 ho 5 Tryz.underlying29 (by kernel_rfl) _ _ _ _ _ _ hd hs g 0 ((List.replicate dLen 0).map (Value.int .u8)) 5 hg.row ((x.take dLen).map (Value.int .u8)) hc ?_ (by rw [hc, List.length_map, List.length_replicate]; omega) ?_ B w0 hb hB ?_
 ·intro hpos
  refine ⟨rfl, ?_⟩
  rcases hx.place with h0 | ⟨b, off, rfl, _, hcell⟩
  ·omega
  ·refine ⟨_, rfl, fun j v hj => ?_⟩
   have hjn : j < Nat.min n dLen := by
    rcases Nat.lt_or_ge j (Nat.min n dLen) with h | h
    ·exact h
    ·rw [List.getElem?_eq_none (by omega)] at hj; cases hj
   have hv : v = .int .u8 (byt x j) := by
    rw [List.getElem?_map] at hj
    have hjx : j < x.length := by omega
    have hjd : j < dLen := by omega
    simp [List.getElem?_take, hjd, List.getElem?_eq_getElem hjx] at hj
    simp [byt, List.getD, hjx, hj]
   rw [hv]; rw [show (⟨b, off, none⟩ : Addr).add j = ⟨b, off + j, none⟩ by unfold Addr.add; split <;> simp_all]
   exact hcell j (by omega)
 ·intro v hv
  obtain ⟨z, _, rfl⟩ := List.mem_map.1 hv
  rfl
 ·intro w' hrow hbel
  rw [hc]
  refine hK w' ⟨?_⟩ hbel
  rw [hrow.out]
  congr 2
  apply Array.ext'
  have e : dLen - min dLen x.length = dLen - x.length := by omega
  simp [splice, ints, fitB, List.length_take, e]
def wrA (F : List Int) (i : Nat) (z : List Int) (j : Nat) : List Int := F.take i ++ z.take j ++ F.drop (i + j)
theorem wrA_zero (F : List Int) (i : Nat) (z : List Int) : wrA F i z 0 = F := by simp [wrA]
theorem wrA_len {F : List Int} {i : Nat} {z : List Int} {j : Nat} (h : i + z.length ≤ F.length) (hj : j ≤ z.length) : (wrA F i z j).length = F.length := by
 simp only [wrA, List.length_append, List.length_take, List.length_drop]
 omega
theorem wrA_step {F : List Int} {i : Nat} {z : List Int} {j : Nat} (h : i + z.length ≤ F.length) (hj : j < z.length) : (wrA F i z j).set (i + j) (byt z j) = wrA F i z (j + 1) := by
 refine List.ext_getElem? fun k => ?_
 have h1 : (F.take i ++ z.take j).length = i + j := by simp only [List.length_append, List.length_take]; omega
 have h2 : (F.take i ++ z.take (j + 1)).length = i + j + 1 := by simp only [List.length_append, List.length_take]; omega
 rw [List.getElem?_set, wrA_len h (by omega)]
 unfold wrA
 have e2 : z.take (j + 1) = z.take j ++ [byt z j] := by
  rw [List.take_add_one, List.getElem?_eq_getElem hj]
  simp [byt, List.getD, List.getElem?_eq_getElem hj]
 by_cases hk : i + j = k
 ·subst hk
  rw [if_pos rfl, if_pos (by omega), List.getElem?_append_left (by omega), e2, ← List.append_assoc, List.getElem?_append_right (by omega), h1]
  simp
 ·rw [if_neg hk]
  by_cases hlt : k < i + j
  ·have eL : (F.take i ++ z.take j ++ F.drop (i + j))[k]? = (F.take i ++ z.take j)[k]? := List.getElem?_append_left (by omega)
   have eR : (F.take i ++ z.take (j + 1) ++ F.drop (i + (j + 1)))[k]? = (F.take i ++ z.take j)[k]? := by
    rw [e2, ← List.append_assoc, List.append_assoc _ _ (F.drop (i + (j + 1)))]
    exact List.getElem?_append_left (by omega)
   rw [eL, eR]
  ·rw [List.getElem?_append_right (by omega), List.getElem?_append_right (by omega), h1, h2, List.getElem?_drop, List.getElem?_drop]
   congr 1
   omega
def wrS (b : List Int) (i : Nat) (z : List Int) : Nat := if z = [] then b.length else max b.length (i + z.length)
theorem wrA_end (b : List Int) (i : Nat) (z : List Int) : wrA (fitB b (wrS b i z)) i z z.length = wriB b i z := by
 unfold wrA wriB wrS
 by_cases h : z = []
 ·subst h
  simp [fitB]
 ·rw [if_neg h, if_neg h, List.take_length]
theorem wrS_le {b : List Int} {i : Nat} {z : List Int} (h : z ≠ []) : i + z.length ≤ wrS b i z := by
 unfold wrS
 rw [if_neg h]
 omega
theorem setD_nd {f g : Nat → Nc} {n a : Nat} {zs : List Int} {x : Nc} (hL : ndL g n = ndL f n) (ha : a < n) (hx : x.nd = { (g a).nd with d := zs }) : ndL (updN g a x) n = Go.Proofs.YtinholnidchblaaGreatDoor.setD (ndL f n) a zs := by
 rw [ndL_upd, hL, hx]
 unfold Go.Proofs.YtinholnidchblaaGreatDoor.setD
 rw [← hL, nat_ndL ha]
end Go.Proofs.YtinholnidchblaaGreatDoor
