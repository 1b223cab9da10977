import Derived.Test.YtinholnidchblaaGreatDoorQaw
set_option linter.unusedVariables false
set_option linter.unusedSimpArgs false
set_option maxRecDepth 100000
set_option maxHeartbeats 16000000
namespace Go.Proofs.YtinholnidchblaaGreatDoor
open Go.RowKit
structure AsI (w0 : World) (x : Nat) (na : Option Addr) (n c : Nat) (o i m : Int) (p q : ByteArray) (da : Option Addr) (dn dc : Nat) (wr : World) : Prop where
 at0 : x = w0.heap.size
 bel : Below w0.heap.size w0 wr
 box : TrB wr x (.slice na n c)
 op : OpC wr (x + 1) o i m p q da dn dc
 ans : RsB wr (x + 2) ResZ
section
variable {w0 wr w' : World} {x n c : Nat} {na : Option Addr} {o i m : Int} {p q : ByteArray} {da : Option Addr} {dn dc : Nat}
theorem AsI.next (h : AsI w0 x na n c o i m p q da dn dc wr) (hb : Below wr.heap.size wr w') : AsI w0 x na n c o i m p q da dn dc w' :=
 ⟨h.at0, h.bel.trans (hb.mono h.bel.size), (hb.block _ (lt_of_block h.box)).trans h.box, (hb.block _ (lt_of_block h.op)).trans h.op, (hb.block _ (lt_of_block h.ans)).trans h.ans⟩
theorem as_start (w : World) (na : Option Addr) (n c : Nat) (o i m : Int) (p q : ByteArray) (da : Option Addr) (dn dc : Nat) : ∃ w4, w4 = ((w.alloc (.cells #[.slice na n c] 26 (0, 0))).alloc (.cells #[.int .i64 o, .string p, .string q, .int .i64 i, .int .i64 m, .slice da dn dc] 31 (0, 0))).alloc (.cells ResZ 37 (0, 0)) ∧ AsI w w.heap.size na n c o i m p q da dn dc w4 := by
 obtain ⟨w1, h1⟩ : ∃ w1, w1 = w.alloc (.cells #[.slice na n c] 26 (0, 0)) := ⟨_, rfl⟩
 obtain ⟨w2, h2⟩ : ∃ w2, w2 = w1.alloc (.cells #[.int .i64 o, .string p, .string q, .int .i64 i, .int .i64 m, .slice da dn dc] 31 (0, 0)) := ⟨_, rfl⟩
 obtain ⟨w3, h3⟩ : ∃ w3, w3 = w2.alloc (.cells ResZ 37 (0, 0)) := ⟨_, rfl⟩
 have s1 : w1.heap.size = w.heap.size + 1 := by rw [h1]; simp
 have s2 : w2.heap.size = w.heap.size + 2 := by rw [h2]; simp [s1]
 have b1 : Below w.heap.size w w1 := by rw [h1]; exact (Below.refl _ _).alloc (Nat.le_refl _) _
 have b2 : Below w1.heap.size w1 w2 := by rw [h2]; exact (Below.refl _ _).alloc (Nat.le_refl _) _
 have b3 : Below w2.heap.size w2 w3 := by rw [h3]; exact (Below.refl _ _).alloc (Nat.le_refl _) _
 have t1 : TrB w1 w.heap.size (.slice na n c) := by rw [h1]; exact heap_alloc_new w _
 have t2 : OpC w2 (w.heap.size + 1) o i m p q da dn dc := by rw [h2, ← s1]; exact heap_alloc_new w1 _
 have t3 : RsB w3 (w.heap.size + 2) ResZ := by rw [h3, ← s2]; exact heap_alloc_new w2 _
 have c1 : TrB w2 w.heap.size (.slice na n c) := (b2.block _ (lt_of_block t1)).trans t1
 exact ⟨w3, by rw [h3, h2, h1], rfl, b1.trans ((b2.mono b1.size).trans (b3.mono (by omega))), (b3.block _ (lt_of_block c1)).trans c1, (b3.block _ (lt_of_block t2)).trans t2, t3⟩
theorem AsI.fin {w : World} (h : AsI w0 x na n c o i m p q da dn dc w) {r : Rv} {ea : Option Addr} {en ec : Nat} {ma : Option Addr} {mn mc : Nat} {Ls : List (List UInt8)} (hR : ResS w r ea en ec ma mn mc Ls) :
  RsB (six w (x + 2) (.int .i64 r.err) (.slice ea en ec) (.slice ma mn mc) (.int .i64 r.k) (.int .i64 r.l) (.int .i64 r.sz)) (x + 2) #[.int .i64 r.err, .slice ea en ec, .slice ma mn mc, .int .i64 r.k, .int .i64 r.l, .int .i64 r.sz] ∧
   ResS (six w (x + 2) (.int .i64 r.err) (.slice ea en ec) (.slice ma mn mc) (.int .i64 r.k) (.int .i64 r.l) (.int .i64 r.sz)) r ea en ec ma mn mc Ls ∧ Below w0.heap.size w0 (six w (x + 2) (.int .i64 r.err) (.slice ea en ec) (.slice ma mn mc) (.int .i64 r.k) (.int .i64 r.l) (.int .i64 r.sz)) := by
 have hT2 := turn_set6 w (x + 2) (.int .i64 r.err) (.slice ea en ec) (.slice ma mn mc) (.int .i64 r.k) (.int .i64 r.l) (.int .i64 r.sz)
 have h0 := h.at0
 exact ⟨RsB.set h.ans _ _ _ _ _ _, hR.turnK h.ans.oddZ hT2, h.bel.trans (hT2.below h.bel.size fun k e => by omega)⟩
end
theorem oAsk_e {L : List Nd} {o : Int} {P : Option (List ByteArray)} {e : Int} (h : findO L P = .error e) : oAsk L o P = .bad e := (ask_err o h).1
theorem ask_listN {L : List Nd} {P : Option (List ByteArray)} {k : Nat} (h : findO L P = .ok k) : oAsk L 11 P = if isD (nat L k) then ⟨0, [], (nat L k).e.map (·.s), 0, 0, 0⟩ else .bad 22 := by
 cases P with
 | none => cases h
 | some ns =>
  have h2 : wlk L 0 ns = .ok k := h
  simp only [oAsk, h2]
  rfl
section
variable {w : World} {n c : Nat} {na : Option Addr} {f : Nat → Nc} {i m : Int} {p q : ByteArray} {da : Option Addr} {dn dc : Nat}
theorem rask_10 (hN : Nds w na n f) (ht : Rgt (ndL f n)) (hen : ∀ i, i < n → (f i).dn ≤ 1000000 ∧ (f i).en ≤ 100000) (hp : p.size ≤ 1000000) :
  Calls Tryz.prog 79 #[.agg #[.slice na n c], .agg #[.int .i64 10, .string p, .string q, .int .i64 i, .int .i64 m, .slice da dn dc]] w fun e w' => ∃ v, e = .returned v ∧ ResV w' (oAsk (ndL f n) 10 (nms p)) v ∧ Below w.heap.size w w' := by
 obtain ⟨RR, hRR⟩ : ∃ RR, RR = oAsk (ndL f n) 10 (nms p) := ⟨_, rfl⟩
 rw [← hRR]
 have HRR := qH hRR
 obtain ⟨x, hx⟩ : ∃ x, x = w.heap.size := ⟨_, rfl⟩
 obtain ⟨w4, hw4, hI⟩ := as_start w na n c 10 i m p q da dn dc
 rw [← hx] at hI
 have HI0 := qH hI
 have HX := qH hx
 have HW4 := qH hw4
 unfold ResZ at hw4
 have HT := qH ht
 have HEN := qH hen
 have hn56 : n ≤ 56 := ht.le.2
 clear hRR hI hx ht
 obtain ⟨b1, b2, b3, b4, b5, b6⟩ := HI0.out.op.cells
 have l1 := HI0.out.box.load
 have l2 := HI0.out.box.cell
 have hc := rfindP_any (c := c) (hN.next HI0.out.bel) HT.out (fun i hi => by have := (HEN.out i hi).2; omega) p hp
 go_enter Tryz.func79, Tryz.ntmps79
 go_wp2_with fail
 rw [← HX.out, ← hw4]
 refine hc.mono ?_
 rintro e w7 ⟨rfl, hb7⟩
 have HI := qH (HI0.out.next hb7)
 clear hc hb7 b1 b2 b3 b4 b5 b6 l1 l2
 have b1 := HI.out.op.cells
 have l1 := HI.out.box.load
 have l2 := HI.out.box.cell
 obtain ⟨b1, b2, b3, b4, b5, b6⟩ := b1
 cases hf : findO (ndL f n) (nms p) with
 | error e9 =>
  have RRP : Hid (RR = .bad e9) := qH (HRR.out.trans (oAsk_e hf))
  have he9 : (e9 != 0) = true := by have := findO_err hf; simpa using this
  dsimp only [wlkP]
  clear hf
  go_wp2_with fail
  refine (rwrong_any _ (e9)).mono ?_
  rintro e w9 ⟨rfl, hb9⟩
  have HI9 := qH (HI.out.next hb9)
  clear hb9
  obtain ⟨a0, a1, a2, a3, a4, a5⟩ := RsB.cells HI9.out.ans
  have f0 := HI9.out.ans.free 0
  have f1 := HI9.out.ans.free 1
  have f2 := HI9.out.ans.free 2
  have f3 := HI9.out.ans.free 3
  have f4 := HI9.out.ans.free 4
  have f5 := HI9.out.ans.free 5
  have fl := lt_of_block HI9.out.ans
  have HF1 := qH (HI9.out.fin (resS_num w9 (e9) 0 0 0))
  go_wp2_with fail
  clear a0 a1 a2 a3 a4 a5 f0 f1 f2 f3 f4 f5 fl
  refine bodyPost_ret (res_c1 rfl _ _ ⟨x + 2, 0, none⟩ _ rfl (RsB.load HF1.out.1)) rfl ?_
  exact RRP.out ▸ ⟨_, rfl, ⟨_, _, _, _, _, _, _, rfl, HF1.out.2.1⟩, HF1.out.2.2⟩
 | ok k =>
  have hk : k < n := findO_lt HT.out hf
  have HK := qH hk
  have HF := qH hf
  have hdl : (f k).d.length = (f k).dn := (hN.data k hk).len
  have hel : (f k).e.length = (f k).en := ((hN.ents k hk).ens).len
  have HDL := qH (And.intro hdl hel)
  obtain ⟨nb, off, rfl, hbl, d0, d1, d2, d3⟩ := (hN.next HI.out.bel).at hk
  have k0 : (0 : Int) ≤ (k : Int) := by omega
  have k1' : (k : Int) < (n : Int) := by omega
  have hnk : nat (ndL f n) k = (f k).nd := nat_ndL hk
  have HNK := qH hnk
  dsimp only [wlkP]
  have hi8 := HI.out.next ((Below.refl _ _).alloc (Nat.le_refl _) (Obj.cells #[.int .i64 (f k).k, .int .i64 (f k).l, .slice (f k).da (f k).dn (f k).dc, .slice (f k).ea (f k).en (f k).ec] 54 (0, 0)))
  have hx8 : (w7.alloc (Obj.cells #[.int .i64 (f k).k, .int .i64 (f k).l, .slice (f k).da (f k).dn (f k).dc, .slice (f k).ea (f k).en (f k).ec] 54 (0, 0))).heap[w7.heap.size]? = some (Obj.cells #[.int .i64 (f k).k, .int .i64 (f k).l, .slice (f k).da (f k).dn (f k).dc, .slice (f k).ea (f k).en (f k).ec] 54 (0, 0)) := heap_alloc_new w7 _
  obtain ⟨w8, hw8⟩ : ∃ w8, w8 = w7.alloc (Obj.cells #[.int .i64 (f k).k, .int .i64 (f k).l, .slice (f k).da (f k).dn (f k).dc, .slice (f k).ea (f k).en (f k).ec] 54 (0, 0)) := ⟨_, rfl⟩
  obtain ⟨y, hy⟩ : ∃ y, y = w7.heap.size := ⟨_, rfl⟩
  have HI8 := qH hi8
  have HX8 := qH hx8
  have HW8 := qH hw8
  have HY := qH hy
  rw [← hw8] at HI8 HX8
  rw [← hy] at HX8
  clear hnk hf hi8 hx8 hw8 hy hdl hel
  go_upto_region 5 with fail
  rw [← HY.out, ← HW8.out]
  clear b1 b2 b3 b4 b5 b6 l1 l2 d0 d1 d2 d3
  obtain ⟨g1, g2, g3, g4, g5, g6⟩ := HI8.out.op.cells
  obtain ⟨e0, e1, e2, e3⟩ := cells4 HX8.out
  have hen2 : (f k).en ≤ 100000 := (HEN.out k HK.out).2
  have hdn2 : (f k).dn ≤ 1000000 := (HEN.out k HK.out).1
  have hwr : IntKind.i64.wrap (((f k).dn : Int) + ((f k).en : Int)) = ((f k).dn : Int) + ((f k).en : Int) := IntWalk.i64_in _ (by omega)
  have RRP : Hid (RR = ⟨0, [], [], (f k).k, (f k).l, ((f k).dn : Int) + ((f k).en : Int)⟩) := qH (HRR.out.trans (by
   rw [ask_stat HF.out, HNK.out]
   show (Rv.mk 0 [] [] (f k).k (f k).l ((((f k).d.length + (f k).e.length : Nat)) : Int)) = _
   rw [HDL.out.1, HDL.out.2, Int.natCast_add]))
  obtain ⟨a0, a1, a2, a3, a4, a5⟩ := RsB.cells HI8.out.ans
  have f0 := HI8.out.ans.free 0
  have f1 := HI8.out.ans.free 1
  have f2 := HI8.out.ans.free 2
  have f3 := HI8.out.ans.free 3
  have f4 := HI8.out.ans.free 4
  have f5 := HI8.out.ans.free 5
  have fl := lt_of_block HI8.out.ans
  have HF1 := qH (HI8.out.fin (resS_num w8 0 (f k).k (f k).l (((f k).dn : Int) + ((f k).en : Int))))
  go_wp2_with fail
  clear a0 a1 a2 a3 a4 a5 f0 f1 f2 f3 f4 f5 fl
  refine bodyPost_ret (res_c1 rfl _ _ ⟨x + 2, 0, none⟩ _ rfl (RsB.load HF1.out.1)) rfl ?_
  exact RRP.out ▸ ⟨_, rfl, ⟨_, _, _, _, _, _, _, rfl, HF1.out.2.1⟩, HF1.out.2.2⟩
theorem rask_13 (hN : Nds w na n f) (ht : Rgt (ndL f n)) (hen : ∀ i, i < n → (f i).dn ≤ 1000000 ∧ (f i).en ≤ 100000) (hp : p.size ≤ 1000000) :
  Calls Tryz.prog 79 #[.agg #[.slice na n c], .agg #[.int .i64 13, .string p, .string q, .int .i64 i, .int .i64 m, .slice da dn dc]] w fun e w' => ∃ v, e = .returned v ∧ ResV w' (oAsk (ndL f n) 13 (nms p)) v ∧ Below w.heap.size w w' := by
 obtain ⟨RR, hRR⟩ : ∃ RR, RR = oAsk (ndL f n) 13 (nms p) := ⟨_, rfl⟩
 rw [← hRR]
 have HRR := qH hRR
 obtain ⟨x, hx⟩ : ∃ x, x = w.heap.size := ⟨_, rfl⟩
 obtain ⟨w4, hw4, hI⟩ := as_start w na n c 13 i m p q da dn dc
 rw [← hx] at hI
 have HI0 := qH hI
 have HX := qH hx
 have HW4 := qH hw4
 unfold ResZ at hw4
 have HT := qH ht
 have HEN := qH hen
 have hn56 : n ≤ 56 := ht.le.2
 clear hRR hI hx ht
 obtain ⟨b1, b2, b3, b4, b5, b6⟩ := HI0.out.op.cells
 have l1 := HI0.out.box.load
 have l2 := HI0.out.box.cell
 have hc := rfindP_any (c := c) (hN.next HI0.out.bel) HT.out (fun i hi => by have := (HEN.out i hi).2; omega) p hp
 go_enter Tryz.func79, Tryz.ntmps79
 go_wp2_with fail
 rw [← HX.out, ← hw4]
 refine hc.mono ?_
 rintro e w7 ⟨rfl, hb7⟩
 have HI := qH (HI0.out.next hb7)
 clear hc hb7 b1 b2 b3 b4 b5 b6 l1 l2
 have b1 := HI.out.op.cells
 have l1 := HI.out.box.load
 have l2 := HI.out.box.cell
 obtain ⟨b1, b2, b3, b4, b5, b6⟩ := b1
 cases hf : findO (ndL f n) (nms p) with
 | error e9 =>
  have RRP : Hid (RR = .bad e9) := qH (HRR.out.trans (oAsk_e hf))
  have he9 : (e9 != 0) = true := by have := findO_err hf; simpa using this
  dsimp only [wlkP]
  clear hf
  go_wp2_with fail
  refine (rwrong_any _ (e9)).mono ?_
  rintro e w9 ⟨rfl, hb9⟩
  have HI9 := qH (HI.out.next hb9)
  clear hb9
  obtain ⟨a0, a1, a2, a3, a4, a5⟩ := RsB.cells HI9.out.ans
  have f0 := HI9.out.ans.free 0
  have f1 := HI9.out.ans.free 1
  have f2 := HI9.out.ans.free 2
  have f3 := HI9.out.ans.free 3
  have f4 := HI9.out.ans.free 4
  have f5 := HI9.out.ans.free 5
  have fl := lt_of_block HI9.out.ans
  have HF1 := qH (HI9.out.fin (resS_num w9 (e9) 0 0 0))
  go_wp2_with fail
  clear a0 a1 a2 a3 a4 a5 f0 f1 f2 f3 f4 f5 fl
  refine bodyPost_ret (res_c1 rfl _ _ ⟨x + 2, 0, none⟩ _ rfl (RsB.load HF1.out.1)) rfl ?_
  exact RRP.out ▸ ⟨_, rfl, ⟨_, _, _, _, _, _, _, rfl, HF1.out.2.1⟩, HF1.out.2.2⟩
 | ok k =>
  have hk : k < n := findO_lt HT.out hf
  have HK := qH hk
  have HF := qH hf
  have hdl : (f k).d.length = (f k).dn := (hN.data k hk).len
  have hel : (f k).e.length = (f k).en := ((hN.ents k hk).ens).len
  have HDL := qH (And.intro hdl hel)
  obtain ⟨nb, off, rfl, hbl, d0, d1, d2, d3⟩ := (hN.next HI.out.bel).at hk
  have k0 : (0 : Int) ≤ (k : Int) := by omega
  have k1' : (k : Int) < (n : Int) := by omega
  have hnk : nat (ndL f n) k = (f k).nd := nat_ndL hk
  have HNK := qH hnk
  dsimp only [wlkP]
  have hi8 := HI.out.next ((Below.refl _ _).alloc (Nat.le_refl _) (Obj.cells #[.int .i64 (f k).k, .int .i64 (f k).l, .slice (f k).da (f k).dn (f k).dc, .slice (f k).ea (f k).en (f k).ec] 54 (0, 0)))
  have hx8 : (w7.alloc (Obj.cells #[.int .i64 (f k).k, .int .i64 (f k).l, .slice (f k).da (f k).dn (f k).dc, .slice (f k).ea (f k).en (f k).ec] 54 (0, 0))).heap[w7.heap.size]? = some (Obj.cells #[.int .i64 (f k).k, .int .i64 (f k).l, .slice (f k).da (f k).dn (f k).dc, .slice (f k).ea (f k).en (f k).ec] 54 (0, 0)) := heap_alloc_new w7 _
  obtain ⟨w8, hw8⟩ : ∃ w8, w8 = w7.alloc (Obj.cells #[.int .i64 (f k).k, .int .i64 (f k).l, .slice (f k).da (f k).dn (f k).dc, .slice (f k).ea (f k).en (f k).ec] 54 (0, 0)) := ⟨_, rfl⟩
  obtain ⟨y, hy⟩ : ∃ y, y = w7.heap.size := ⟨_, rfl⟩
  have HI8 := qH hi8
  have HX8 := qH hx8
  have HW8 := qH hw8
  have HY := qH hy
  rw [← hw8] at HI8 HX8
  rw [← hy] at HX8
  clear hnk hf hi8 hx8 hw8 hy hdl hel
  go_upto_region 5 with fail
  rw [← HY.out, ← HW8.out]
  clear b1 b2 b3 b4 b5 b6 l1 l2 d0 d1 d2 d3
  obtain ⟨g1, g2, g3, g4, g5, g6⟩ := HI8.out.op.cells
  obtain ⟨e0, e1, e2, e3⟩ := cells4 HX8.out
  have RRP : Hid (RR = .ok) := qH (HRR.out.trans (ask_sync HF.out))
  obtain ⟨a0, a1, a2, a3, a4, a5⟩ := RsB.cells HI8.out.ans
  have f0 := HI8.out.ans.free 0
  have f1 := HI8.out.ans.free 1
  have f2 := HI8.out.ans.free 2
  have f3 := HI8.out.ans.free 3
  have f4 := HI8.out.ans.free 4
  have f5 := HI8.out.ans.free 5
  have fl := lt_of_block HI8.out.ans
  have HF1 := qH (HI8.out.fin (resS_num w8 0 0 0 0))
  go_wp2_with fail
  clear a0 a1 a2 a3 a4 a5 f0 f1 f2 f3 f4 f5 fl
  refine bodyPost_ret (res_c1 rfl _ _ ⟨x + 2, 0, none⟩ _ rfl (RsB.load HF1.out.1)) rfl ?_
  exact RRP.out ▸ ⟨_, rfl, ⟨_, _, _, _, _, _, _, rfl, HF1.out.2.1⟩, HF1.out.2.2⟩
theorem rask_11 (hN : Nds w na n f) (ht : Rgt (ndL f n)) (hen : ∀ i, i < n → (f i).dn ≤ 1000000 ∧ (f i).en ≤ 100000) (hp : p.size ≤ 1000000) :
  Calls Tryz.prog 79 #[.agg #[.slice na n c], .agg #[.int .i64 11, .string p, .string q, .int .i64 i, .int .i64 m, .slice da dn dc]] w fun e w' => ∃ v, e = .returned v ∧ ResV w' (oAsk (ndL f n) 11 (nms p)) v ∧ Below w.heap.size w w' := by
 obtain ⟨RR, hRR⟩ : ∃ RR, RR = oAsk (ndL f n) 11 (nms p) := ⟨_, rfl⟩
 rw [← hRR]
 have HRR := qH hRR
 obtain ⟨x, hx⟩ : ∃ x, x = w.heap.size := ⟨_, rfl⟩
 obtain ⟨w4, hw4, hI⟩ := as_start w na n c 11 i m p q da dn dc
 rw [← hx] at hI
 have HI0 := qH hI
 have HX := qH hx
 have HW4 := qH hw4
 unfold ResZ at hw4
 have HT := qH ht
 have HEN := qH hen
 have hn56 : n ≤ 56 := ht.le.2
 clear hRR hI hx ht
 obtain ⟨b1, b2, b3, b4, b5, b6⟩ := HI0.out.op.cells
 have l1 := HI0.out.box.load
 have l2 := HI0.out.box.cell
 have hc := rfindP_any (c := c) (hN.next HI0.out.bel) HT.out (fun i hi => by have := (HEN.out i hi).2; omega) p hp
 go_enter Tryz.func79, Tryz.ntmps79
 go_wp2_with fail
 rw [← HX.out, ← hw4]
 refine hc.mono ?_
 rintro e w7 ⟨rfl, hb7⟩
 have HI := qH (HI0.out.next hb7)
 clear hc hb7 b1 b2 b3 b4 b5 b6 l1 l2
 have b1 := HI.out.op.cells
 have l1 := HI.out.box.load
 have l2 := HI.out.box.cell
 obtain ⟨b1, b2, b3, b4, b5, b6⟩ := b1
 cases hf : findO (ndL f n) (nms p) with
 | error e9 =>
  have RRP : Hid (RR = .bad e9) := qH (HRR.out.trans (oAsk_e hf))
  have he9 : (e9 != 0) = true := by have := findO_err hf; simpa using this
  dsimp only [wlkP]
  clear hf
  go_wp2_with fail
  refine (rwrong_any _ (e9)).mono ?_
  rintro e w9 ⟨rfl, hb9⟩
  have HI9 := qH (HI.out.next hb9)
  clear hb9
  obtain ⟨a0, a1, a2, a3, a4, a5⟩ := RsB.cells HI9.out.ans
  have f0 := HI9.out.ans.free 0
  have f1 := HI9.out.ans.free 1
  have f2 := HI9.out.ans.free 2
  have f3 := HI9.out.ans.free 3
  have f4 := HI9.out.ans.free 4
  have f5 := HI9.out.ans.free 5
  have fl := lt_of_block HI9.out.ans
  have HF1 := qH (HI9.out.fin (resS_num w9 (e9) 0 0 0))
  go_wp2_with fail
  clear a0 a1 a2 a3 a4 a5 f0 f1 f2 f3 f4 f5 fl
  refine bodyPost_ret (res_c1 rfl _ _ ⟨x + 2, 0, none⟩ _ rfl (RsB.load HF1.out.1)) rfl ?_
  exact RRP.out ▸ ⟨_, rfl, ⟨_, _, _, _, _, _, _, rfl, HF1.out.2.1⟩, HF1.out.2.2⟩
 | ok k =>
  have hk : k < n := findO_lt HT.out hf
  have HK := qH hk
  have HF := qH hf
  have hdl : (f k).d.length = (f k).dn := (hN.data k hk).len
  have hel : (f k).e.length = (f k).en := ((hN.ents k hk).ens).len
  have HDL := qH (And.intro hdl hel)
  obtain ⟨nb, off, rfl, hbl, d0, d1, d2, d3⟩ := (hN.next HI.out.bel).at hk
  have k0 : (0 : Int) ≤ (k : Int) := by omega
  have k1' : (k : Int) < (n : Int) := by omega
  have hnk : nat (ndL f n) k = (f k).nd := nat_ndL hk
  have HNK := qH hnk
  dsimp only [wlkP]
  have hi8 := HI.out.next ((Below.refl _ _).alloc (Nat.le_refl _) (Obj.cells #[.int .i64 (f k).k, .int .i64 (f k).l, .slice (f k).da (f k).dn (f k).dc, .slice (f k).ea (f k).en (f k).ec] 54 (0, 0)))
  have hx8 : (w7.alloc (Obj.cells #[.int .i64 (f k).k, .int .i64 (f k).l, .slice (f k).da (f k).dn (f k).dc, .slice (f k).ea (f k).en (f k).ec] 54 (0, 0))).heap[w7.heap.size]? = some (Obj.cells #[.int .i64 (f k).k, .int .i64 (f k).l, .slice (f k).da (f k).dn (f k).dc, .slice (f k).ea (f k).en (f k).ec] 54 (0, 0)) := heap_alloc_new w7 _
  obtain ⟨w8, hw8⟩ : ∃ w8, w8 = w7.alloc (Obj.cells #[.int .i64 (f k).k, .int .i64 (f k).l, .slice (f k).da (f k).dn (f k).dc, .slice (f k).ea (f k).en (f k).ec] 54 (0, 0)) := ⟨_, rfl⟩
  obtain ⟨y, hy⟩ : ∃ y, y = w7.heap.size := ⟨_, rfl⟩
  have HI8 := qH hi8
  have HX8 := qH hx8
  have HW8 := qH hw8
  have HY := qH hy
  rw [← hw8] at HI8 HX8
  rw [← hy] at HX8
  clear hnk hf hi8 hx8 hw8 hy hdl hel
  go_upto_region 5 with fail
  rw [← HY.out, ← HW8.out]
  clear b1 b2 b3 b4 b5 b6 l1 l2 d0 d1 d2 d3
  obtain ⟨g1, g2, g3, g4, g5, g6⟩ := HI8.out.op.cells
  obtain ⟨e0, e1, e2, e3⟩ := cells4 HX8.out
  cases hd : isD (f k).nd with
  | false =>
   have hd2 : ((f k).k != 2) = true := by have h9 : ((f k).k == 2) = false := hd; simpa [bne] using h9
   have RRP : Hid (RR = .bad 22) := qH (HRR.out.trans (by rw [ask_listN HF.out, HNK.out, hd]; rfl)); clear hd; go_wp2_with fail; refine (rwrong_any _ (22)).mono ?_; rintro e w9 ⟨rfl, hb9⟩; have HI9 := qH (HI8.out.next hb9); clear hb9; obtain ⟨a0, a1, a2, a3, a4, a5⟩ := RsB.cells HI9.out.ans; have f0 := HI9.out.ans.free 0; have f1 := HI9.out.ans.free 1; have f2 := HI9.out.ans.free 2; have f3 := HI9.out.ans.free 3; have f4 := HI9.out.ans.free 4; have f5 := HI9.out.ans.free 5; have fl := lt_of_block HI9.out.ans; have HF1 := qH (HI9.out.fin (resS_num w9 (22) 0 0 0)); go_wp2_with fail; clear a0 a1 a2 a3 a4 a5 f0 f1 f2 f3 f4 f5 fl; refine bodyPost_ret (res_c1 rfl _ _ ⟨x + 2, 0, none⟩ _ rfl (RsB.load HF1.out.1)) rfl ?_
   exact RRP.out ▸ ⟨_, rfl, ⟨_, _, _, _, _, _, _, rfl, HF1.out.2.1⟩, HF1.out.2.2⟩
  | true =>
   have hd2 : ((f k).k != 2) = false := by have h9 : ((f k).k == 2) = true := hd; simpa [bne] using h9
   have RRP : Hid (RR = ⟨0, [], (f k).e.map (·.s), 0, 0, 0⟩) := qH (HRR.out.trans (by rw [ask_listN HF.out, HNK.out, hd]; rfl)); clear hd; have HOW := qH (ownT_none w8 w8.heap.size (Nat.le_refl _)); have hba : Below w8.heap.size w8 (w8.alloc (.cells #[] 9 (0, 0))) := (Below.refl _ _).alloc (Nat.le_refl _) _; have HS0 : Hid (AsI w x (some ⟨nb, off, none⟩) n c 11 i m p q da dn dc (w8.alloc (.cells #[] 9 (0, 0))) ∧ (w8.alloc (.cells #[] 9 (0, 0))).heap[y]? = some (Obj.cells #[.int .i64 (f k).k, .int .i64 (f k).l, .slice (f k).da (f k).dn (f k).dc, .slice (f k).ea (f k).en (f k).ec] 54 (0, 0)) ∧ Below w8.heap.size w8 (w8.alloc (.cells #[] 9 (0, 0)))) := qH ⟨HI8.out.next hba, (hba.block _ (lt_of_block HX8.out)).trans HX8.out, hba⟩; clear hba; go_wp2_with fail; clear g1 g2 g3 g4 g5 g6 e0 e1 e2 e3
   go_loopw [8, 9] (fun v8 v9 wr => ∃ j : Nat, j ≤ (f k).en ∧ v9 = .int .i64 (j : Int) ∧ OwnT wr w8.heap.size v8 j (nmL ((f k).e.take j)) ∧ AsI w x (some ⟨nb, off, none⟩) n c 11 i m p q da dn dc wr ∧ wr.heap[y]? = some (Obj.cells #[.int .i64 (f k).k, .int .i64 (f k).l, .slice (f k).da (f k).dn (f k).dc, .slice (f k).ea (f k).en (f k).ec] 54 (0, 0)) ∧ Below w8.heap.size w8 wr) (fun _ v9 _ => (f k).en - (RowKit.intOf v9).toNat)
   case atStart => exact ⟨0, Nat.zero_le _, rfl, HOW.out, HS0.out⟩
   case round =>
    obtain ⟨j, hj, rfl, hO, hI, hX, hB⟩ := hrel; have HS := qH (And.intro hI (And.intro hX hB)); have HO := qH hO; obtain ⟨e0, e1, e2, e3⟩ := cells4 hX; clear hI hX hB
    by_cases hlt : j < (f k).en
    ·have j0 : (0 : Int) ≤ (j : Int) := by omega
     have j1 : (j : Int) < ((f k).en : Int) := by omega
     obtain ⟨b2, off2, he2, hbl2, hd1, hd2⟩ := (((hN.next HS.out.1.bel).ents k HK.out).ens).at (i := j) hlt; rw [he2] at e3; have HJ := qH hlt; have hen2 : (f k).en ≤ 100000 := (HEN.out k HK.out).2
     have hlt2 : j < (f k).e.length := by rw [HDL.out.2]; exact hlt
     have HSN := qH (nmL_snoc hlt2); obtain ⟨va, vc, hv8, _, _, _, _, _⟩ := hO.sts; subst hv8; have hb1 : Below wr.heap.size wr (wr.alloc (.cells #[.string (eat (f k).e j).s] 9 (0, 0))) := (Below.refl _ _).alloc (Nat.le_refl _) _; have HB1 := qH (And.intro (HO.out.next hb1) (HS.out.2.2.trans (hb1.mono HS.out.2.2.size))); have HM := qH (sts_one (w := wr) (g := wr.heap.size) (eat (f k).e j).s rfl); have hsz : w8.heap.size ≤ (wr.alloc (.cells #[.string (eat (f k).e j).s] 9 (0, 0))).heap.size := Nat.le_trans HS.out.2.2.size hb1.size; clear he2 hbl2 hO hlt hlt2 hb1
     go_wp2_with (at_builtin; go_must (refine wpList_apT rfl (.tmp 57) (.tmp 64) rfl w8.heap.size _ j (nmL ((f k).e.take j)) rfl HB1.out.1 ⟨wr.heap.size, 0, none⟩ 1 1 [(eat (f k).e j).s.data.toList] rfl HM.out (by omega) hsz w8 HB1.out.2 ?_); intro v4 w4 ho4 hb4; have HO4 := qH ho4; have HB4 := qH hb4; clear ho4 hb4)
     go_roundw
     case rel => exact ⟨j + 1, HJ.out, by go_num, HSN.out ▸ HO4.out, HI8.out.next HB4.out, (HB4.out.block _ (lt_of_block HX8.out)).trans HX8.out, HB4.out⟩
     case measure => have := HJ.out; simp [RowKit.intOf]; omega
    ·obtain rfl : j = (f k).en := by omega
     have k1 : ¬ ((f k).en : Int) < ((f k).en : Int) := by omega
     obtain ⟨va, vc, hv8, hSt, hcap, _, hnil, _⟩ := hO.sts; subst hv8; rw [List.take_of_length_le (by rw [HDL.out.2]; exact Nat.le_refl _)] at hSt; have HF1 := qH (HS.out.1.fin (r := ⟨0, [], (f k).e.map (·.s), 0, 0, 0⟩) (ea := none) (en := 0) (ec := 0) ⟨Pin.zero _, hSt, nmL_map _, hnil, hcap⟩); clear hO hSt hcap hnil; obtain ⟨a0, a1, a2, a3, a4, a5⟩ := RsB.cells HS.out.1.ans; have f0 := HS.out.1.ans.free 0; have f1 := HS.out.1.ans.free 1; have f2 := HS.out.1.ans.free 2; have f3 := HS.out.1.ans.free 3; have f4 := HS.out.1.ans.free 4; have f5 := HS.out.1.ans.free 5; have fl := lt_of_block HS.out.1.ans; go_wp2_with fail; clear a0 a1 a2 a3 a4 a5 f0 f1 f2 f3 f4 f5 fl; refine bodyPost_ret (res_c1 rfl _ _ ⟨x + 2, 0, none⟩ _ rfl (RsB.load HF1.out.1)) rfl ?_
     exact RRP.out ▸ ⟨_, rfl, ⟨_, _, _, _, _, _, _, rfl, HF1.out.2.1⟩, HF1.out.2.2⟩
end
end Go.Proofs.YtinholnidchblaaGreatDoor
