import Derived.Test.YtinholnidchblaaGreatDoorQap
set_option linter.unusedVariables false
set_option linter.unusedSimpArgs false
set_option maxRecDepth 100000
set_option maxHeartbeats 16000000
namespace Go.Proofs.YtinholnidchblaaGreatDoor
open Go.RowKit
def pA : ByteArray := ⟨#[47, 97]⟩
def pB : ByteArray := ⟨#[47, 97, 47, 98]⟩
def pE : ByteArray := ⟨#[]⟩
def alL1 : List Nd := (doO newL 2 (nms pA) (nms pE) 0 0 []).1
def alL2 : List Nd := (doO alL1 1 (nms pB) (nms pE) 0 0 []).1
theorem al1 : (doO newL 2 (nms pA) (nms pE) 0 0 []).2.err = 0 := by kernel_rfl
theorem al2 : (doO alL1 1 (nms pB) (nms pE) 0 0 []).2.err = 0 := by kernel_rfl
theorem al3 : (doO alL2 11 (nms pA) (nms pE) 0 0 []).2.ns = [⟨#[98]⟩] := by kernel_rfl
theorem al4 : (doO alL2 5 (nms pA) (nms pE) 0 0 []).2.err = 25 := by kernel_rfl
theorem al5 : fiO alL2 (nms pB) = (2, 0) := by kernel_rfl
theorem ls_one {Ls : List (List UInt8)} (h : Ls.map tx = [⟨#[98]⟩]) : Ls = [[98]] := map_tx_inj h
theorem alive_any (w : World) : Calls Tryz.prog 13 #[] w fun e w' => e = .returned (.bool true) ∧ Below w.heap.size w w' := by
 have hc := newT w
 have HB : Hid (Below w.heap.size w w) := qH (Below.refl _ _)
 go_enter Tryz.func13, Tryz.ntmps13
 go_wp2_with fail
 refine hc.mono ?_
 rintro e w0 ⟨a0, c0, rfl, hT0, hb⟩
 replace HB := qH (HB.out.trans (hb.mono HB.out.size))
 have HT0 := qH hT0
 clear hc hb hT0
 have hc := doT HT0.out 2 0 0 (⟨#[47, 97]⟩ : ByteArray) (⟨#[]⟩ : ByteArray) none 0 0 [] (by decide) (by decide) (by decide) (by decide) (Pin.zero _)
 obtain ⟨D1, hD⟩ : ∃ D, D = doO newL 2 (nms (⟨#[47, 97]⟩ : ByteArray)) (nms (⟨#[]⟩ : ByteArray)) 0 0 [] := ⟨_, rfl⟩
 rw [← hD] at hc
 have HD1 := qH hD
 clear hD
 go_wp2_with fail
 refine hc.mono ?_
 rintro e w1 ⟨a1, c1, da1, dn1, dc1, na1, nn1, nc1, Ls1, rfl, hT, hS, hb⟩
 replace HB := qH (HB.out.trans (hb.mono HB.out.size))
 clear hc hb
 obtain ⟨w1s, x1, y1, hw, hx, hy, hV, hR, hb⟩ := new_tr_rs hT hS
 have HL1 := qH (show w.heap.size ≤ x1 by rw [hx]; exact HB.out.size)
 replace HB := qH (HB.out.trans (hb.mono HB.out.size))
 have HV1 := qH hV
 have HR1 := qH hR
 have HW1 := qH hw
 have HX1 := qH hx
 have HY1 := qH hy
 clear hT hS hw hx hy hV hR hb
 unfold resW
 clear HT0
 have v1 := HV1.out.var.cell
 have l1 := HV1.out.var.load
 have hc := doT HV1.out.tv 1 0 0 (⟨#[47, 97, 47, 98]⟩ : ByteArray) (⟨#[]⟩ : ByteArray) none 0 0 [] (by decide) (by decide) (by decide) (by decide) (Pin.zero _)
 obtain ⟨D2, hD⟩ : ∃ D, D = doO D1.1 1 (nms (⟨#[47, 97, 47, 98]⟩ : ByteArray)) (nms (⟨#[]⟩ : ByteArray)) 0 0 [] := ⟨_, rfl⟩
 rw [← hD] at hc
 have HD2 := qH hD
 clear hD
 go_wp2_with fail
 rw [← HY1.out, ← HX1.out, ← HW1.out]
 refine hc.mono ?_
 rintro e w2 ⟨a2, c2, da2, dn2, dc2, na2, nn2, nc2, Ls2, rfl, hT, hS, hb⟩
 replace HB := qH (HB.out.trans (hb.mono HB.out.size))
 replace HV1 := qH (HV1.out.next hb)
 replace HR1 := qH (HR1.out.next hb)
 clear v1 l1 hc hb
 obtain ⟨w2s, y2, hw, hy, hV, hR, hT2⟩ := set_tr_rs HV1.out hT hS
 replace HB := qH (turn_below HB.out HL1.out hT2)
 replace HR1 := qH (HR1.out.turnT HV1.out hT2)
 have v1 := HV1.out.var.cell
 have f1 := HV1.out.var.free 0
 have lt1 := lt_of_block HV1.out.var
 replace HV1 := qH hV
 have HR2 := qH hR
 have HW2 := qH hw
 have HY2 := qH hy
 clear hT hS hw hy hV hR hT2
 unfold resW
 have vn1 := HV1.out.var.cell
 have ln1 := HV1.out.var.load
 have hc := doT HV1.out.tv 11 0 0 (⟨#[47, 97]⟩ : ByteArray) (⟨#[]⟩ : ByteArray) none 0 0 [] (by decide) (by decide) (by decide) (by decide) (Pin.zero _)
 obtain ⟨D3, hD⟩ : ∃ D, D = doO D2.1 11 (nms (⟨#[47, 97]⟩ : ByteArray)) (nms (⟨#[]⟩ : ByteArray)) 0 0 [] := ⟨_, rfl⟩
 rw [← hD] at hc
 have HD3 := qH hD
 clear hD
 go_wp2_with fail
 rw [← HY2.out, ← HW2.out]
 refine hc.mono ?_
 rintro e w3 ⟨a3, c3, da3, dn3, dc3, na3, nn3, nc3, Ls3, rfl, hT, hS, hb⟩
 replace HB := qH (HB.out.trans (hb.mono HB.out.size))
 replace HV1 := qH (HV1.out.next hb)
 replace HR1 := qH (HR1.out.next hb)
 replace HR2 := qH (HR2.out.next hb)
 clear v1 f1 lt1 vn1 ln1 hc hb
 have oV1 := HV1.out.var.cell
 have olV1 := lt_of_block HV1.out.var
 obtain ⟨w3s, x3, y3, hw, hx, hy, hV, hR, hb⟩ := new_tr_rs hT hS
 have HL3 := qH (show w.heap.size ≤ x3 by rw [hx]; exact HB.out.size)
 replace HB := qH (HB.out.trans (hb.mono HB.out.size))
 replace HV1 := qH (HV1.out.next hb)
 replace HR1 := qH (HR1.out.next hb)
 replace HR2 := qH (HR2.out.next hb)
 have HV3 := qH hV
 have HR3 := qH hR
 have HW3 := qH hw
 have HX3 := qH hx
 have HY3 := qH hy
 clear hT hS hw hx hy hV hR hb
 unfold resW
 have hc := doT HV1.out.tv 5 0 0 (⟨#[47, 97]⟩ : ByteArray) (⟨#[]⟩ : ByteArray) none 0 0 [] (by decide) (by decide) (by decide) (by decide) (Pin.zero _)
 obtain ⟨D4, hD⟩ : ∃ D, D = doO D2.1 5 (nms (⟨#[47, 97]⟩ : ByteArray)) (nms (⟨#[]⟩ : ByteArray)) 0 0 [] := ⟨_, rfl⟩
 rw [← hD] at hc
 have HD4 := qH hD
 clear hD
 go_wp2_with fail
 rw [← HY3.out, ← HX3.out, ← HW3.out]
 refine hc.mono ?_
 rintro e w4 ⟨a4, c4, da4, dn4, dc4, na4, nn4, nc4, Ls4, rfl, hT, hS, hb⟩
 replace HB := qH (HB.out.trans (hb.mono HB.out.size))
 replace HV1 := qH (HV1.out.next hb)
 replace HR1 := qH (HR1.out.next hb)
 replace HR2 := qH (HR2.out.next hb)
 replace HV3 := qH (HV3.out.next hb)
 replace HR3 := qH (HR3.out.next hb)
 clear oV1 olV1 hc hb
 have oV1 := HV1.out.var.cell
 have olV1 := lt_of_block HV1.out.var
 obtain ⟨w4s, x4, y4, hw, hx, hy, hV, hR, hb⟩ := new_tr_rs hT hS
 have HL4 := qH (show w.heap.size ≤ x4 by rw [hx]; exact HB.out.size)
 replace HB := qH (HB.out.trans (hb.mono HB.out.size))
 replace HV1 := qH (HV1.out.next hb)
 replace HR1 := qH (HR1.out.next hb)
 replace HR2 := qH (HR2.out.next hb)
 replace HV3 := qH (HV3.out.next hb)
 replace HR3 := qH (HR3.out.next hb)
 have HV4 := qH hV
 have HR4 := qH hR
 have HW4 := qH hw
 have HX4 := qH hx
 have HY4 := qH hy
 clear hT hS hw hx hy hV hR hb
 unfold resW
 have hc := findT HV1.out.tv (⟨#[47, 97, 47, 98]⟩ : ByteArray) (by decide)
 obtain ⟨F5, hF⟩ : ∃ F, F = fiO D2.1 (nms (⟨#[47, 97, 47, 98]⟩ : ByteArray)) := ⟨_, rfl⟩
 rw [← hF] at hc
 have HF5 := qH hF
 clear hF
 go_wp2_with fail
 rw [← HY4.out, ← HX4.out, ← HW4.out]
 refine hc.mono ?_
 rintro e w5 ⟨rfl, hb⟩
 replace HB := qH (HB.out.trans (hb.mono HB.out.size))
 replace HV1 := qH (HV1.out.next hb)
 replace HR1 := qH (HR1.out.next hb)
 replace HR2 := qH (HR2.out.next hb)
 replace HV3 := qH (HV3.out.next hb)
 replace HR3 := qH (HR3.out.next hb)
 replace HV4 := qH (HV4.out.next hb)
 replace HR4 := qH (HR4.out.next hb)
 clear oV1 olV1 hc hb
 have E1 : Hid (D1.2.err = 0) := qH (by rw [HD1.out]; exact al1)
 have E2 : Hid (D2.2.err = 0) := qH (by rw [HD2.out, HD1.out]; exact al2)
 have E3 : Hid (Ls3 = [[98]]) := qH (ls_one (HR3.out.res.nam.trans (by rw [HD3.out, HD2.out, HD1.out]; exact al3)))
 have E4 : Hid (D4.2.err = 25) := qH (by rw [HD4.out, HD2.out, HD1.out]; exact al4)
 have E5 : Hid (F5 = (2, 0)) := qH (by rw [HF5.out, HD2.out, HD1.out]; exact al5)
 obtain ⟨r10, r11, r12, r13, r14, r15⟩ := HR1.out.var.cells
 obtain ⟨r20, r21, r22, r23, r24, r25⟩ := HR2.out.var.cells
 obtain ⟨r30, r31, r32, r33, r34, r35⟩ := HR3.out.var.cells
 rw [E1.out] at r10
 rw [E2.out] at r20
 have hst := sameT_any na3 (some ⟨w5.heap.size, 0, none⟩) nn3 1 nc3 1 Ls3 [[98]] (w5.alloc (.cells #[.string ⟨#[98]⟩] 9 (0, 0))) (HR3.out.res.names.alloc _) (sts_one ⟨#[98]⟩ rfl) (by have := HR3.out.res.names.len; rw [E3.out] at this; simp at this; omega) (by omega)
 rw [decide_eq_true E3.out] at hst
 obtain ⟨w6, hw6⟩ : ∃ w6, w6 = w5.alloc (.cells #[.string ⟨#[98]⟩] 9 (0, 0)) := ⟨_, rfl⟩
 have hb6 : Below w5.heap.size w5 w6 := by rw [hw6]; exact (Below.refl _ _).alloc (Nat.le_refl _) _
 rw [← hw6] at hst
 have HW6 := qH hw6
 clear hw6
 go_wp2_with fail
 rw [← HW6.out]
 replace HB := qH (HB.out.trans (hb6.mono HB.out.size))
 replace HV1 := qH (HV1.out.next hb6)
 replace HR1 := qH (HR1.out.next hb6)
 replace HR2 := qH (HR2.out.next hb6)
 replace HV3 := qH (HV3.out.next hb6)
 replace HR3 := qH (HR3.out.next hb6)
 replace HV4 := qH (HV4.out.next hb6)
 replace HR4 := qH (HR4.out.next hb6)
 refine hst.mono ?_
 rintro e w7 ⟨rfl, hb⟩
 replace HB := qH (HB.out.trans (hb.mono HB.out.size))
 replace HV1 := qH (HV1.out.next hb)
 replace HR1 := qH (HR1.out.next hb)
 replace HR2 := qH (HR2.out.next hb)
 replace HV3 := qH (HV3.out.next hb)
 replace HR3 := qH (HR3.out.next hb)
 replace HV4 := qH (HV4.out.next hb)
 replace HR4 := qH (HR4.out.next hb)
 clear r10 r11 r12 r13 r14 r15 r20 r21 r22 r23 r24 r25 r30 r31 r32 r33 r34 r35 hst hb hb6
 obtain ⟨r40, r41, r42, r43, r44, r45⟩ := HR4.out.var.cells
 rw [E4.out] at r40
 have e5 := E5.out
 have e51 : F5.1 = 2 := by rw [e5]
 have e52 : F5.2 = 0 := by rw [e5]
 clear e5
 have vr1 := HV1.out.var.cell
 have lr1 := HV1.out.var.load
 have hc := rightT HV1.out.tv
 go_wp2_with fail
 refine hc.mono ?_
 rintro e w6 ⟨rfl, hb⟩
 replace HB := qH (HB.out.trans (hb.mono HB.out.size))
 replace HV1 := qH (HV1.out.next hb)
 replace HR1 := qH (HR1.out.next hb)
 replace HR2 := qH (HR2.out.next hb)
 replace HV3 := qH (HV3.out.next hb)
 replace HR3 := qH (HR3.out.next hb)
 replace HV4 := qH (HV4.out.next hb)
 replace HR4 := qH (HR4.out.next hb)
 clear r40 r41 r42 r43 r44 r45 vr1 lr1 hc hb
 go_wp2_with fail
 go_ret
 exact ⟨rfl, HB.out⟩
structure Oc where
 o : Int
 p : ByteArray
 q : ByteArray
 i : Int
 m : Int
 da : Option Addr
 dn : Nat
 dc : Nat
 z : List Int
instance : Inhabited Oc := ⟨⟨0, default, default, 0, 0, none, 0, 0, []⟩⟩
structure OcW (w : World) (x : Oc) : Prop where
 pin : Pin w x.da x.dn x.dc x.z
 p : x.p.size ≤ 9223372036854775807
 q : x.q.size ≤ 9223372036854775807
 o : -9223372036854775808 ≤ x.o ∧ x.o ≤ 9223372036854775807
 i : -9223372036854775808 ≤ x.i ∧ x.i ≤ 9223372036854775807
 m : -9223372036854775808 ≤ x.m ∧ x.m ≤ 9223372036854775807
theorem OcW.next {w w' : World} {x : Oc} (h : OcW w x) (hb : Below w.heap.size w w') : OcW w' x := ⟨h.pin.next hb, h.p, h.q, h.o, h.i, h.m⟩
structure Ops (w : World) (a : Option Addr) (n : Nat) (f : Nat → Oc) : Prop where
 place : n = 0 ∨ ∃ b off, a = some ⟨b, off, none⟩ ∧ b < w.heap.size ∧ ∀ i, i < n → w.cell? ⟨b, off + i * 6, none⟩ = some (.int .i64 (f i).o) ∧ w.cell? ⟨b, off + i * 6 + 1, none⟩ = some (.string (f i).p) ∧ w.cell? ⟨b, off + i * 6 + 2, none⟩ = some (.string (f i).q) ∧
  w.cell? ⟨b, off + i * 6 + 3, none⟩ = some (.int .i64 (f i).i) ∧ w.cell? ⟨b, off + i * 6 + 4, none⟩ = some (.int .i64 (f i).m) ∧ w.cell? ⟨b, off + i * 6 + 5, none⟩ = some (.slice (f i).da (f i).dn (f i).dc)
 each : ∀ i, i < n → OcW w (f i)
theorem Ops.next {w w' : World} {a : Option Addr} {n : Nat} {f : Nat → Oc} (h : Ops w a n f) (hb : Below w.heap.size w w') : Ops w' a n f := by
 refine ⟨?_, fun i hi => (h.each i hi).next hb⟩
 rcases h.place with h0 | ⟨b, off, ha, hlt, hc⟩
 ·exact .inl h0
 ·refine .inr ⟨b, off, ha, Nat.lt_of_lt_of_le hlt hb.size, fun i hi => ?_⟩
  obtain ⟨c0, c1, c2, c3, c4, c5⟩ := hc i hi
  exact ⟨(hb.cell (p := ⟨b, off + i * 6, none⟩) hlt).trans c0, (hb.cell (p := ⟨b, off + i * 6 + 1, none⟩) hlt).trans c1, (hb.cell (p := ⟨b, off + i * 6 + 2, none⟩) hlt).trans c2, (hb.cell (p := ⟨b, off + i * 6 + 3, none⟩) hlt).trans c3, (hb.cell (p := ⟨b, off + i * 6 + 4, none⟩) hlt).trans c4, (hb.cell (p := ⟨b, off + i * 6 + 5, none⟩) hlt).trans c5⟩
theorem Ops.at {w : World} {a : Option Addr} {n : Nat} {f : Nat → Oc} (h : Ops w a n f) {i : Nat} (hi : i < n) : ∃ b off, a = some ⟨b, off, none⟩ ∧ b < w.heap.size ∧ w.cell? ⟨b, off + i * 6, none⟩ = some (.int .i64 (f i).o) ∧ w.cell? ⟨b, off + i * 6 + 1, none⟩ = some (.string (f i).p) ∧ w.cell? ⟨b, off + i * 6 + 2, none⟩ = some (.string (f i).q) ∧
  w.cell? ⟨b, off + i * 6 + 3, none⟩ = some (.int .i64 (f i).i) ∧ w.cell? ⟨b, off + i * 6 + 4, none⟩ = some (.int .i64 (f i).m) ∧ w.cell? ⟨b, off + i * 6 + 5, none⟩ = some (.slice (f i).da (f i).dn (f i).dc) := by
 rcases h.place with h0 | ⟨b, off, ha, hlt, hc⟩
 ·omega
 ·exact ⟨b, off, ha, hlt, hc i hi⟩
section
variable {w : World} {a : Option Addr} {n c : Nat} {f : Nat → Oc}
end
theorem longO {w : World} {x : Oc} (h : OcW w x) : Calls Tryz.prog 16 #[.agg #[.int .i64 x.o, .string x.p, .string x.q, .int .i64 x.i, .int .i64 x.m, .slice x.da x.dn x.dc]] w (LoPost w x.p x.q x.dn) :=
 long_any w x.o x.i x.m x.p x.q x.da x.dn x.dc h.p h.q (Nat.le_trans h.pin.cap h.pin.max)
end Go.Proofs.YtinholnidchblaaGreatDoor
