/-
  The laws' alive: by contract.
-/
import Derived.Test.YtinholnidchblaaGreatDoorQaq
import Derived.Laws.AppendOwnNone
import Derived.Test.YtinholnidchblaaGreatDoorQai
set_option linter.unusedVariables false
set_option linter.unusedSimpArgs false
namespace Go.Proofs.YtinholnidchblaaGreatDoor
open Go.RowKit
set_option linter.unusedVariables false
set_option linter.unusedSimpArgs false

def pA : ByteArray := ⟨#[47, 97]⟩
def pB : ByteArray := ⟨#[47, 97, 47, 98]⟩
def pE : ByteArray := ⟨#[]⟩
def alL1 : List Nd := (doO newL 2 (nms pA) (nms pE) 0 0 []).1
def alL2 : List Nd := (doO alL1 1 (nms pB) (nms pE) 0 0 []).1
theorem al1 : (doO newL 2 (nms pA) (nms pE) 0 0 []).2.err = 0 := by kernel_rfl
theorem al2 : (doO alL1 1 (nms pB) (nms pE) 0 0 []).2.err = 0 := by kernel_rfl
theorem al3 : (doO alL2 11 (nms pA) (nms pE) 0 0 []).2.ns = [⟨#[98]⟩] := by kernel_rfl
theorem al4 : (doO alL2 5 (nms pA) (nms pE) 0 0 []).2.err = 25 := by kernel_rfl
theorem al5 : fiO alL2 (nms pB) = (2, 0) := by kernel_rfl
theorem ls_one {Ls : List (List UInt8)} (h : Ls.map tx = [⟨#[98]⟩]) : Ls = [[98]] := map_tx_inj h
set_option maxRecDepth 100000 in
set_option maxHeartbeats 16000000 in
theorem alive_any (w : World) : Calls Tryz.prog 13 #[] w fun e w' => e = .returned (.bool true) ∧ Below w.heap.size w w' := by
  have hc := newT w
  have HB : Hid (Below w.heap.size w w) := Lib.hid (Below.refl _ _)
  go_enter Tryz.func13, Tryz.ntmps13
  go_wp2_with (fail)
  refine hc.mono ?_
  rintro e w0 ⟨a0, c0, rfl, hT0, hb⟩
  replace HB := Lib.hid (HB.out.trans (hb.mono HB.out.size))
  have HT0 := Lib.hid hT0
  clear hc hb hT0
  have hc := doT HT0.out 2 0 0 (⟨#[47, 97]⟩ : ByteArray) (⟨#[]⟩ : ByteArray) none 0 0 [] (by decide) (by decide) (by decide) (by decide) (Pin.zero _)
  obtain ⟨D1, hD⟩ : ∃ D, D = doO newL 2 (nms (⟨#[47, 97]⟩ : ByteArray)) (nms (⟨#[]⟩ : ByteArray)) 0 0 [] := ⟨_, rfl⟩
  rw [← hD] at hc
  have HD1 := Lib.hid hD
  clear hD
  go_wp2_with (fail)
  refine hc.mono ?_
  rintro e w1 ⟨a1, c1, da1, dn1, dc1, na1, nn1, nc1, Ls1, rfl, hT, hS, hb⟩
  replace HB := Lib.hid (HB.out.trans (hb.mono HB.out.size))
  clear hc hb
  obtain ⟨w1s, x1, y1, hw, hx, hy, hV, hR, hb⟩ := new_tr_rs hT hS
  have HL1 := Lib.hid (show w.heap.size ≤ x1 by rw [hx]; exact HB.out.size)
  replace HB := Lib.hid (HB.out.trans (hb.mono HB.out.size))
  have HV1 := Lib.hid hV
  have HR1 := Lib.hid hR
  have HW1 := Lib.hid hw
  have HX1 := Lib.hid hx
  have HY1 := Lib.hid hy
  clear hT hS hw hx hy hV hR hb
  unfold resW
  clear HT0
  have v1 := HV1.out.var.cell
  have l1 := HV1.out.var.load
  have hc := doT HV1.out.tv 1 0 0 (⟨#[47, 97, 47, 98]⟩ : ByteArray) (⟨#[]⟩ : ByteArray) none 0 0 [] (by decide) (by decide) (by decide) (by decide) (Pin.zero _)
  obtain ⟨D2, hD⟩ : ∃ D, D = doO D1.1 1 (nms (⟨#[47, 97, 47, 98]⟩ : ByteArray)) (nms (⟨#[]⟩ : ByteArray)) 0 0 [] := ⟨_, rfl⟩
  rw [← hD] at hc
  have HD2 := Lib.hid hD
  clear hD
  go_wp2_with (fail)
  rw [← HY1.out, ← HX1.out, ← HW1.out]
  refine hc.mono ?_
  rintro e w2 ⟨a2, c2, da2, dn2, dc2, na2, nn2, nc2, Ls2, rfl, hT, hS, hb⟩
  replace HB := Lib.hid (HB.out.trans (hb.mono HB.out.size))
  replace HV1 := Lib.hid (HV1.out.next hb)
  replace HR1 := Lib.hid (HR1.out.next hb)
  clear v1 l1 hc hb
  obtain ⟨w2s, y2, hw, hy, hV, hR, hT2⟩ := set_tr_rs HV1.out hT hS
  replace HB := Lib.hid (turn_below HB.out HL1.out hT2)
  replace HR1 := Lib.hid (HR1.out.turnT HV1.out hT2)
  have v1 := HV1.out.var.cell
  have f1 := HV1.out.var.free 0
  have lt1 := lt_of_block HV1.out.var
  replace HV1 := Lib.hid hV
  have HR2 := Lib.hid hR
  have HW2 := Lib.hid hw
  have HY2 := Lib.hid hy
  clear hT hS hw hy hV hR hT2
  unfold resW
  have vn1 := HV1.out.var.cell
  have ln1 := HV1.out.var.load
  have hc := doT HV1.out.tv 11 0 0 (⟨#[47, 97]⟩ : ByteArray) (⟨#[]⟩ : ByteArray) none 0 0 [] (by decide) (by decide) (by decide) (by decide) (Pin.zero _)
  obtain ⟨D3, hD⟩ : ∃ D, D = doO D2.1 11 (nms (⟨#[47, 97]⟩ : ByteArray)) (nms (⟨#[]⟩ : ByteArray)) 0 0 [] := ⟨_, rfl⟩
  rw [← hD] at hc
  have HD3 := Lib.hid hD
  clear hD
  go_wp2_with (fail)
  rw [← HY2.out, ← HW2.out]
  refine hc.mono ?_
  rintro e w3 ⟨a3, c3, da3, dn3, dc3, na3, nn3, nc3, Ls3, rfl, hT, hS, hb⟩
  replace HB := Lib.hid (HB.out.trans (hb.mono HB.out.size))
  replace HV1 := Lib.hid (HV1.out.next hb)
  replace HR1 := Lib.hid (HR1.out.next hb)
  replace HR2 := Lib.hid (HR2.out.next hb)
  clear v1 f1 lt1 vn1 ln1 hc hb
  have oV1 := HV1.out.var.cell
  have olV1 := lt_of_block HV1.out.var
  obtain ⟨w3s, x3, y3, hw, hx, hy, hV, hR, hb⟩ := new_tr_rs hT hS
  have HL3 := Lib.hid (show w.heap.size ≤ x3 by rw [hx]; exact HB.out.size)
  replace HB := Lib.hid (HB.out.trans (hb.mono HB.out.size))
  replace HV1 := Lib.hid (HV1.out.next hb)
  replace HR1 := Lib.hid (HR1.out.next hb)
  replace HR2 := Lib.hid (HR2.out.next hb)
  have HV3 := Lib.hid hV
  have HR3 := Lib.hid hR
  have HW3 := Lib.hid hw
  have HX3 := Lib.hid hx
  have HY3 := Lib.hid hy
  clear hT hS hw hx hy hV hR hb
  unfold resW
  have hc := doT HV1.out.tv 5 0 0 (⟨#[47, 97]⟩ : ByteArray) (⟨#[]⟩ : ByteArray) none 0 0 [] (by decide) (by decide) (by decide) (by decide) (Pin.zero _)
  obtain ⟨D4, hD⟩ : ∃ D, D = doO D2.1 5 (nms (⟨#[47, 97]⟩ : ByteArray)) (nms (⟨#[]⟩ : ByteArray)) 0 0 [] := ⟨_, rfl⟩
  rw [← hD] at hc
  have HD4 := Lib.hid hD
  clear hD
  go_wp2_with (fail)
  rw [← HY3.out, ← HX3.out, ← HW3.out]
  refine hc.mono ?_
  rintro e w4 ⟨a4, c4, da4, dn4, dc4, na4, nn4, nc4, Ls4, rfl, hT, hS, hb⟩
  replace HB := Lib.hid (HB.out.trans (hb.mono HB.out.size))
  replace HV1 := Lib.hid (HV1.out.next hb)
  replace HR1 := Lib.hid (HR1.out.next hb)
  replace HR2 := Lib.hid (HR2.out.next hb)
  replace HV3 := Lib.hid (HV3.out.next hb)
  replace HR3 := Lib.hid (HR3.out.next hb)
  clear oV1 olV1 hc hb
  have oV1 := HV1.out.var.cell
  have olV1 := lt_of_block HV1.out.var
  obtain ⟨w4s, x4, y4, hw, hx, hy, hV, hR, hb⟩ := new_tr_rs hT hS
  have HL4 := Lib.hid (show w.heap.size ≤ x4 by rw [hx]; exact HB.out.size)
  replace HB := Lib.hid (HB.out.trans (hb.mono HB.out.size))
  replace HV1 := Lib.hid (HV1.out.next hb)
  replace HR1 := Lib.hid (HR1.out.next hb)
  replace HR2 := Lib.hid (HR2.out.next hb)
  replace HV3 := Lib.hid (HV3.out.next hb)
  replace HR3 := Lib.hid (HR3.out.next hb)
  have HV4 := Lib.hid hV
  have HR4 := Lib.hid hR
  have HW4 := Lib.hid hw
  have HX4 := Lib.hid hx
  have HY4 := Lib.hid hy
  clear hT hS hw hx hy hV hR hb
  unfold resW
  have hc := findT HV1.out.tv (⟨#[47, 97, 47, 98]⟩ : ByteArray) (by decide)
  obtain ⟨F5, hF⟩ : ∃ F, F = fiO D2.1 (nms (⟨#[47, 97, 47, 98]⟩ : ByteArray)) := ⟨_, rfl⟩
  rw [← hF] at hc
  have HF5 := Lib.hid hF
  clear hF
  go_wp2_with (fail)
  rw [← HY4.out, ← HX4.out, ← HW4.out]
  refine hc.mono ?_
  rintro e w5 ⟨rfl, hb⟩
  replace HB := Lib.hid (HB.out.trans (hb.mono HB.out.size))
  replace HV1 := Lib.hid (HV1.out.next hb)
  replace HR1 := Lib.hid (HR1.out.next hb)
  replace HR2 := Lib.hid (HR2.out.next hb)
  replace HV3 := Lib.hid (HV3.out.next hb)
  replace HR3 := Lib.hid (HR3.out.next hb)
  replace HV4 := Lib.hid (HV4.out.next hb)
  replace HR4 := Lib.hid (HR4.out.next hb)
  clear oV1 olV1 hc hb
  have E1 : Hid (D1.2.err = 0) := Lib.hid (by rw [HD1.out]; exact al1)
  have E2 : Hid (D2.2.err = 0) := Lib.hid (by rw [HD2.out, HD1.out]; exact al2)
  have E3 : Hid (Ls3 = [[98]]) := Lib.hid (ls_one (HR3.out.res.nam.trans (by rw [HD3.out, HD2.out, HD1.out]; exact al3)))
  have E4 : Hid (D4.2.err = 25) := Lib.hid (by rw [HD4.out, HD2.out, HD1.out]; exact al4)
  have E5 : Hid (F5 = (2, 0)) := Lib.hid (by rw [HF5.out, HD2.out, HD1.out]; exact al5)
  obtain ⟨r10, r11, r12, r13, r14, r15⟩ := HR1.out.var.cells
  obtain ⟨r20, r21, r22, r23, r24, r25⟩ := HR2.out.var.cells
  obtain ⟨r30, r31, r32, r33, r34, r35⟩ := HR3.out.var.cells
  rw [E1.out] at r10
  rw [E2.out] at r20
  have hst := sameT_any na3 (some ⟨w5.heap.size, 0, none⟩) nn3 1 nc3 1 Ls3 [[98]] (w5.alloc (.cells #[.string ⟨#[98]⟩] 9 (0, 0))) (HR3.out.res.names.alloc _) (sts_one ⟨#[98]⟩ rfl) (by have := HR3.out.res.names.len; rw [E3.out] at this; simp at this; omega) (by omega)
  rw [decide_eq_true E3.out] at hst
  obtain ⟨w6, hw6⟩ : ∃ w6, w6 = w5.alloc (.cells #[.string ⟨#[98]⟩] 9 (0, 0)) := ⟨_, rfl⟩
  have hb6 : Below w5.heap.size w5 w6 := by rw [hw6]; exact (Below.refl _ _).alloc (Nat.le_refl _) _
  rw [← hw6] at hst
  have HW6 := Lib.hid hw6
  clear hw6
  go_wp2_with (fail)
  rw [← HW6.out]
  replace HB := Lib.hid (HB.out.trans (hb6.mono HB.out.size))
  replace HV1 := Lib.hid (HV1.out.next hb6)
  replace HR1 := Lib.hid (HR1.out.next hb6)
  replace HR2 := Lib.hid (HR2.out.next hb6)
  replace HV3 := Lib.hid (HV3.out.next hb6)
  replace HR3 := Lib.hid (HR3.out.next hb6)
  replace HV4 := Lib.hid (HV4.out.next hb6)
  replace HR4 := Lib.hid (HR4.out.next hb6)
  refine hst.mono ?_
  rintro e w7 ⟨rfl, hb⟩
  replace HB := Lib.hid (HB.out.trans (hb.mono HB.out.size))
  replace HV1 := Lib.hid (HV1.out.next hb)
  replace HR1 := Lib.hid (HR1.out.next hb)
  replace HR2 := Lib.hid (HR2.out.next hb)
  replace HV3 := Lib.hid (HV3.out.next hb)
  replace HR3 := Lib.hid (HR3.out.next hb)
  replace HV4 := Lib.hid (HV4.out.next hb)
  replace HR4 := Lib.hid (HR4.out.next hb)
  clear r10 r11 r12 r13 r14 r15 r20 r21 r22 r23 r24 r25 r30 r31 r32 r33 r34 r35 hst hb hb6
  obtain ⟨r40, r41, r42, r43, r44, r45⟩ := HR4.out.var.cells
  rw [E4.out] at r40
  have e5 := E5.out
  have e51 : F5.1 = 2 := by rw [e5]
  have e52 : F5.2 = 0 := by rw [e5]
  clear e5
  have vr1 := HV1.out.var.cell
  have lr1 := HV1.out.var.load
  have hc := rightT HV1.out.tv
  go_wp2_with (fail)
  refine hc.mono ?_
  rintro e w6 ⟨rfl, hb⟩
  replace HB := Lib.hid (HB.out.trans (hb.mono HB.out.size))
  replace HV1 := Lib.hid (HV1.out.next hb)
  replace HR1 := Lib.hid (HR1.out.next hb)
  replace HR2 := Lib.hid (HR2.out.next hb)
  replace HV3 := Lib.hid (HV3.out.next hb)
  replace HR3 := Lib.hid (HR3.out.next hb)
  replace HV4 := Lib.hid (HV4.out.next hb)
  replace HR4 := Lib.hid (HR4.out.next hb)
  clear r40 r41 r42 r43 r44 r45 vr1 lr1 hc hb
  go_wp2_with (fail)
  go_ret
  exact ⟨rfl, HB.out⟩
end Go.Proofs.YtinholnidchblaaGreatDoor

/-
  A slice of operations; made: by contract.
-/
namespace Go.Proofs.YtinholnidchblaaGreatDoor
open Go.RowKit
set_option linter.unusedVariables false
set_option linter.unusedSimpArgs false

/-- An operation, as it lies. -/
structure Oc where
  o : Int
  p : ByteArray
  q : ByteArray
  i : Int
  m : Int
  da : Option Addr
  dn : Nat
  dc : Nat
  z : List Int
instance : Inhabited Oc := ⟨⟨0, default, default, 0, 0, none, 0, 0, []⟩⟩
/-- Its numbers and texts are such as Go has. -/
structure OcW (w : World) (x : Oc) : Prop where
  pin : Pin w x.da x.dn x.dc x.z
  p : x.p.size ≤ 9223372036854775807
  q : x.q.size ≤ 9223372036854775807
  o : -9223372036854775808 ≤ x.o ∧ x.o ≤ 9223372036854775807
  i : -9223372036854775808 ≤ x.i ∧ x.i ≤ 9223372036854775807
  m : -9223372036854775808 ≤ x.m ∧ x.m ≤ 9223372036854775807
theorem OcW.next {w w' : World} {x : Oc} (h : OcW w x) (hb : Below w.heap.size w w') : OcW w' x := ⟨h.pin.next hb, h.p, h.q, h.o, h.i, h.m⟩
def ocV (x : Oc) : Value := .agg #[.int .i64 x.o, .string x.p, .string x.q, .int .i64 x.i, .int .i64 x.m, .slice x.da x.dn x.dc]
/-- A slice of operations: six cells each. -/
structure Ops (w : World) (a : Option Addr) (n : Nat) (f : Nat → Oc) : Prop where
  place : n = 0 ∨ ∃ b off, a = some ⟨b, off, none⟩ ∧ b < w.heap.size ∧ ∀ i, i < n → w.cell? ⟨b, off + i * 6, none⟩ = some (.int .i64 (f i).o) ∧ w.cell? ⟨b, off + i * 6 + 1, none⟩ = some (.string (f i).p) ∧ w.cell? ⟨b, off + i * 6 + 2, none⟩ = some (.string (f i).q) ∧
    w.cell? ⟨b, off + i * 6 + 3, none⟩ = some (.int .i64 (f i).i) ∧ w.cell? ⟨b, off + i * 6 + 4, none⟩ = some (.int .i64 (f i).m) ∧ w.cell? ⟨b, off + i * 6 + 5, none⟩ = some (.slice (f i).da (f i).dn (f i).dc)
  each : ∀ i, i < n → OcW w (f i)
theorem Ops.next {w w' : World} {a : Option Addr} {n : Nat} {f : Nat → Oc} (h : Ops w a n f) (hb : Below w.heap.size w w') : Ops w' a n f := by
  refine ⟨?_, fun i hi => (h.each i hi).next hb⟩
  rcases h.place with h0 | ⟨b, off, ha, hlt, hc⟩
  · exact .inl h0
  · refine .inr ⟨b, off, ha, Nat.lt_of_lt_of_le hlt hb.size, fun i hi => ?_⟩
    obtain ⟨c0, c1, c2, c3, c4, c5⟩ := hc i hi
    exact ⟨(hb.cell (p := ⟨b, off + i * 6, none⟩) hlt).trans c0, (hb.cell (p := ⟨b, off + i * 6 + 1, none⟩) hlt).trans c1, (hb.cell (p := ⟨b, off + i * 6 + 2, none⟩) hlt).trans c2, (hb.cell (p := ⟨b, off + i * 6 + 3, none⟩) hlt).trans c3, (hb.cell (p := ⟨b, off + i * 6 + 4, none⟩) hlt).trans c4, (hb.cell (p := ⟨b, off + i * 6 + 5, none⟩) hlt).trans c5⟩
theorem Ops.at {w : World} {a : Option Addr} {n : Nat} {f : Nat → Oc} (h : Ops w a n f) {i : Nat} (hi : i < n) : ∃ b off, a = some ⟨b, off, none⟩ ∧ b < w.heap.size ∧ w.cell? ⟨b, off + i * 6, none⟩ = some (.int .i64 (f i).o) ∧ w.cell? ⟨b, off + i * 6 + 1, none⟩ = some (.string (f i).p) ∧ w.cell? ⟨b, off + i * 6 + 2, none⟩ = some (.string (f i).q) ∧
    w.cell? ⟨b, off + i * 6 + 3, none⟩ = some (.int .i64 (f i).i) ∧ w.cell? ⟨b, off + i * 6 + 4, none⟩ = some (.int .i64 (f i).m) ∧ w.cell? ⟨b, off + i * 6 + 5, none⟩ = some (.slice (f i).da (f i).dn (f i).dc) := by
  rcases h.place with h0 | ⟨b, off, ha, hlt, hc⟩
  · omega
  · exact ⟨b, off, ha, hlt, hc i hi⟩
theorem res_ct {P : Program} {fn : Func} {t u : Tmp} {T : TypeId} (h : fn.results = #[.cell t T, .tmp u]) (tmps : Array Value) (w : World) (p : Addr) (v x : Value) (hp : tmps.getD t undef = .pointer (some p)) (hu : tmps.getD u undef = x) (hv : (loadVar T p).run P w = .ok v w) : (results fn tmps).run P w = .ok (.tuple #[v, x]) w := by
  have ha : asAddr (tmps.getD t undef) = (pure p : Sem Addr) := by rw [hp]; rfl
  unfold results
  rw [h]
  simp only [List.mapM_toArray, List.mapM_cons, List.mapM_nil, ha, hu, Sem.run_bind, Sem.run_pure, Result.andThen_ok, hv, map_eq_pure_bind]
  rfl
/-- At made's end. -/
theorem made_end {w w2 : World} {x2 : Nat} {L : List Nd} {a : Option Addr} {c : Nat} (hb : Below w.heap.size w w2) (hx : w.heap.size ≤ x2) (h2 : TrB w2 x2 (.slice none 0 0)) (hT : Tv w2 L a c) :
    ∃ wE, wE = w2.setCell ⟨x2, 0, none⟩ (.slice a L.length c) ∧ TrB wE x2 (.slice a L.length c) ∧ Tv wE L a c ∧ Below w.heap.size w wE := by
  have hT2 : Turn (· = x2) w2 (w2.setCell ⟨x2, 0, none⟩ (.slice a L.length c)) := (Turn.refl (· = x2) w2).setO (p := ⟨x2, 0, none⟩) rfl _
  exact ⟨_, rfl, h2.set _, hT.turnT h2 hT2, turn_below hb hx hT2⟩
/-- What made leaves: some right tree. -/
def MadePost (w : World) (e : Ending) (w' : World) : Prop := ∃ L a c b, e = .returned (.tuple #[.agg #[.slice a L.length c], .bool b]) ∧ Tv w' L a c ∧ Below w.heap.size w w'
section
variable {w : World} {a : Option Addr} {n c : Nat} {f : Nat → Oc}
set_option maxRecDepth 100000 in
set_option maxHeartbeats 16000000 in
theorem made_any (h : Ops w a n f) : Calls Tryz.prog 29 #[.slice a n c] w (MadePost w) := by
  obtain ⟨w1, hw1⟩ : ∃ w1, w1 = w.alloc (.cells #[.slice none 0 0] 26 (0, 0)) := ⟨_, rfl⟩
  obtain ⟨x2, hx2⟩ : ∃ x2, x2 = w.heap.size := ⟨_, rfl⟩
  have hb1 : Below w.heap.size w w1 := by rw [hw1]; exact (Below.refl _ _).alloc (Nat.le_refl _) _
  have t2 : TrB w1 x2 (.slice none 0 0) := by rw [hw1, hx2]; exact heap_alloc_new w _
  have hc := newT w1
  have H := Lib.hid h
  have HB1 := Lib.hid hb1
  have T2 := Lib.hid t2
  have HX2 := Lib.hid hx2
  clear h hb1 t2
  go_enter Tryz.func29, Tryz.ntmps29
  go_wp2_with (fail)
  rw [← hw1, ← hx2]
  clear hw1 hx2
  refine hc.mono ?_
  rintro e w2 ⟨a2, c2, rfl, hT, hb⟩
  obtain ⟨w3, x4, hw, hx, hV, hb'⟩ := new_tr hT
  have hbb : Below w1.heap.size w1 w3 := hb.trans (hb'.mono hb.size)
  have HB := Lib.hid (HB1.out.trans (hbb.mono HB1.out.size))
  have HV := Lib.hid hV
  have HW := Lib.hid hw
  have HX := Lib.hid hx
  have T23 := Lib.hid ((hbb.block x2 (lt_of_block T2.out)).trans T2.out)
  have c22 := (hb.cell (p := ⟨x2, 0, none⟩) (lt_of_block T2.out)).trans T2.out.cell
  have f22 : w2.frozen? ⟨x2, 0, none⟩ = false := frozen_of_row w2 x2 0 _ _ ((hb.block x2 (lt_of_block T2.out)).trans T2.out)
  have l22 : x2 < w2.heap.size := Nat.lt_of_lt_of_le (lt_of_block T2.out) hb.size
  have HL := Lib.hid (And.intro (show w.heap.size ≤ x4 by rw [hx]; exact (HB1.out.trans (hb.mono HB1.out.size)).size) (And.intro (show x4 ≠ x2 by omega) (show w.heap.size ≤ x2 by rw [HX2.out]; exact Nat.le_refl _)))
  have HT := Lib.hid hT
  have HBM := Lib.hid (And.intro (HB1.out.trans (hb.mono HB1.out.size)) ((hb.block x2 (lt_of_block T2.out)).trans T2.out))
  clear hc hT hb hw hx hV hb' hbb
  by_cases h100 : 100 < n
  · have k1 : (100 : Int) < (n : Int) := by omega
    clear h100
    go_wp2_with (fail)
    obtain ⟨wE, hwE, q1, q2, q3⟩ := made_end HBM.out.1 HL.out.2.2 HBM.out.2 HT.out
    rw [← hwE]
    have hb9 : Below wE.heap.size wE (wE.alloc (.cells #[.slice a2 newL.length c2] 26 (0, 0))) := (Below.refl _ _).alloc (Nat.le_refl _) _
    refine bodyPost_ret (res_ct rfl _ _ ⟨x2, 0, none⟩ _ _ rfl rfl (TrB.load ((hb9.block x2 (lt_of_block q1)).trans q1))) rfl ?_
    exact ⟨_, _, _, false, rfl, q2.next hb9, q3.trans (hb9.mono q3.size)⟩
  · have k1 : ¬ (100 : Int) < (n : Int) := by omega
    clear c22 f22 l22
    go_wp2_with (fail)
    rw [← HX.out, ← HW.out]
    go_loopw [5] (fun v wr => ∃ (k : Nat) (L : List Nd) (a4 : Option Addr) (c4 : Nat), k ≤ n ∧ v = .int .i64 k ∧ Below w.heap.size w wr ∧ TrB wr x2 (.slice none 0 0) ∧ TvB wr x4 L a4 c4) (fun v _ => n - (RowKit.intOf v).toNat)
    case atStart => exact ⟨0, _, _, _, Nat.zero_le _, rfl, HB.out, T23.out, HV.out⟩
    case round =>
      obtain ⟨k, L, a4, c4, hk, rfl, hB, ht2, hV4⟩ := hrel
      have HB4 := Lib.hid hB
      have HT2 := Lib.hid ht2
      have HV4 := Lib.hid hV4
      by_cases hlt : k < n
      · have j0 : (0 : Int) ≤ (k : Int) := by omega
        have j1 : (k : Int) < (n : Int) := by omega
        have hO := H.out.next hB
        obtain ⟨b, off, rfl, hbl, d0, d1, d2, d3, d4, d5⟩ := hO.at hlt
        have hoc := hO.each k hlt
        have hlo := long_any wr (f k).o (f k).i (f k).m (f k).p (f k).q (f k).da (f k).dn (f k).dc hoc.p hoc.q (Nat.le_trans hoc.pin.cap hoc.pin.max)
        have HO := Lib.hid hO
        have HOC := Lib.hid hoc
        clear hB ht2 hV4 hO hoc hbl
        go_wp2_with (fail)
        refine hlo.mono ?_
        rintro e w5 ⟨lb, rfl, hlb, hb5⟩
        replace HB4 := Lib.hid (HB4.out.trans (hb5.mono HB4.out.size))
        replace HT2 : Hid (TrB w5 x2 (.slice none 0 0)) := Lib.hid ((hb5.block x2 (lt_of_block HT2.out)).trans HT2.out)
        replace HV4 := Lib.hid (HV4.out.next hb5)
        replace HO := Lib.hid (HO.out.next hb5)
        replace HOC := Lib.hid (HOC.out.next hb5)
        have HLB := Lib.hid hlb
        have v4 := HV4.out.var.cell
        have l4 := HV4.out.var.load
        clear hlo hlb hb5 d0 d1 d2 d3 d4 d5
        cases lb with
        | true =>
          have c22 := HT2.out.cell
          have f22 := HT2.out.free 0
          have l22 := lt_of_block HT2.out
          go_wp2_with (fail)
          obtain ⟨wE, hwE, q1, q2, q3⟩ := made_end HB4.out HL.out.2.2 HT2.out HV4.out.tv
          rw [← hwE]
          refine bodyPost_ret (res_ct rfl _ _ ⟨x2, 0, none⟩ _ _ rfl rfl q1.load) rfl ?_
          exact ⟨_, _, _, false, rfl, q2, q3⟩
        | false =>
          have HSZ := Lib.hid (HLB.out rfl)
          obtain ⟨b2, off2, he2, hbl, d0, d1, d2, d3, d4, d5⟩ := HO.out.at hlt
          cases he2
          clear hbl
          go_wp2_with (fail)
          have hbx : b < w.heap.size := by
            obtain ⟨b3, off3, he3, hbl3, _⟩ := H.out.at hlt
            cases he3
            exact hbl3
          have HBX := Lib.hid hbx
          refine wp_region_held_drew (S := (fun w' => w'.cell? ⟨b, off + k * 6, none⟩ = some (.int .i64 (f k).o) ∧ w'.cell? ⟨b, off + k * 6 + 1, none⟩ = some (.string (f k).p) ∧ w'.cell? ⟨b, off + k * 6 + 2, none⟩ = some (.string (f k).q) ∧ w'.cell? ⟨b, off + k * 6 + 3, none⟩ = some (.int .i64 (f k).i) ∧ w'.cell? ⟨b, off + k * 6 + 4, none⟩ = some (.int .i64 (f k).m) ∧ w'.cell? ⟨b, off + k * 6 + 5, none⟩ = some (.slice (f k).da (f k).dn (f k).dc))) (by kernel_rfl) ?_ (fun hHeld => ?_)
          · exact ⟨d0, d1, d2, d3, d4, d5⟩
          have hb7 : Below w5.heap.size w5 w5.drew := below_drewN (Below.refl _ _) 1
          have v47 := (HV4.out.next hb7).var.cell
          have l47 := (HV4.out.next hb7).var.load
          have hdo := doT (HV4.out.next hb7).tv (f k).o (f k).i (f k).m (f k).p (f k).q (f k).da (f k).dn (f k).dc (f k).z (by have := HSZ.out; omega) (by have := HSZ.out; omega) HOC.out.i HOC.out.m (HOC.out.next hb7).pin
          obtain ⟨D, hD⟩ : ∃ D, D = doO L (f k).o (nms (f k).p) (nms (f k).q) (f k).i (f k).m (f k).z := ⟨_, rfl⟩
          rw [← hD] at hdo
          replace HB4 := Lib.hid (HB4.out.trans (hb7.mono HB4.out.size))
          replace HT2 : Hid (TrB w5.drew x2 (.slice none 0 0)) := Lib.hid ((hb7.block x2 (lt_of_block HT2.out)).trans HT2.out)
          replace HV4 := Lib.hid (HV4.out.next hb7)
          clear hD hbx d0 d1 d2 d3 d4 d5 v4 l4 hb7
          refine wpAnyH_take (i := 1) (v := ?_) rfl (by kernel_rfl) (by kernel_rfl) (by kernel_rfl) (fun _ _ _ h => h) (Or.inl ⟨by rfl, fun w hSw => ?_⟩) (by assumption) ?_
          rotate_left
          · (try dsimp only at hSw); go_simp; try with_reducible rfl
          simp only [Act.put, List.setIfInBounds_toArray, List.set_cons_zero, List.set_cons_succ, List.getElem_toArray, List.getElem_cons_succ, List.getElem_cons_zero]
          refine wpAnyH_take (i := 2) (v := ?_) rfl (by kernel_rfl) (by kernel_rfl) (by kernel_rfl) (fun _ _ _ h => h) (Or.inl ⟨by rfl, fun w hSw => ?_⟩) (by assumption) ?_
          rotate_left
          · (try dsimp only at hSw); go_simp; try with_reducible rfl
          simp only [Act.put, List.setIfInBounds_toArray, List.set_cons_zero, List.set_cons_succ, List.getElem_toArray, List.getElem_cons_succ, List.getElem_cons_zero]
          refine wpAnyH_take (i := 3) (v := ?_) rfl (by kernel_rfl) (by kernel_rfl) (by kernel_rfl) (fun _ _ _ h => h) (Or.inl ⟨by rfl, fun w hSw => ?_⟩) (by assumption) ?_
          rotate_left
          · (try dsimp only at hSw); go_simp; try with_reducible rfl
          simp only [Act.put, List.setIfInBounds_toArray, List.set_cons_zero, List.set_cons_succ, List.getElem_toArray, List.getElem_cons_succ, List.getElem_cons_zero]
          refine wpAnyH_take (i := 4) (v := ?_) rfl (by kernel_rfl) (by kernel_rfl) (by kernel_rfl) (fun _ _ _ h => h) (Or.inl ⟨by rfl, fun w hSw => ?_⟩) (by assumption) ?_
          rotate_left
          · (try dsimp only at hSw); go_simp; try with_reducible rfl
          simp only [Act.put, List.setIfInBounds_toArray, List.set_cons_zero, List.set_cons_succ, List.getElem_toArray, List.getElem_cons_succ, List.getElem_cons_zero]
          refine wpAnyH_ready (rs := [0]) (by kernel_rfl) (by simp) ?_
          refine AllReadyH.cons rfl (fun K hK => ?_) AllReadyH.nil
          simp only [List.getElem_toArray, List.getElem_cons_succ, List.getElem_cons_zero]
          go_simp
          refine hK.out _ _ hHeld (fun _ => ?_)
          clear hK K
          refine wpAnyH_ready (rs := [5]) (by kernel_rfl) (by simp) ?_
          refine AllReadyH.cons rfl (fun K hK => ?_) AllReadyH.nil
          simp only [List.getElem_toArray, List.getElem_cons_succ, List.getElem_cons_zero]
          go_simp
          refine hdo.mono ?_
          rintro e w6 ⟨a6, c6, da6, dn6, dc6, na6, nn6, nc6, Ls6, rfl, hT6, hS6, hb6⟩
          obtain ⟨e0, e1, e2, e3, e4, e5⟩ := hHeld
          have hb9 : b < w5.drew.heap.size := Nat.lt_of_lt_of_le HBX.out HB4.out.size
          have hS6' := And.intro ((hb6.cell (p := ⟨b, off + k * 6, none⟩) hb9).trans e0) (And.intro ((hb6.cell (p := ⟨b, off + k * 6 + 1, none⟩) hb9).trans e1) (And.intro ((hb6.cell (p := ⟨b, off + k * 6 + 2, none⟩) hb9).trans e2) (And.intro ((hb6.cell (p := ⟨b, off + k * 6 + 3, none⟩) hb9).trans e3) (And.intro ((hb6.cell (p := ⟨b, off + k * 6 + 4, none⟩) hb9).trans e4) ((hb6.cell (p := ⟨b, off + k * 6 + 5, none⟩) hb9).trans e5)))))
          replace HB4 := Lib.hid (HB4.out.trans (hb6.mono HB4.out.size))
          replace HT2 : Hid (TrB w6 x2 (.slice none 0 0)) := Lib.hid ((hb6.block x2 (lt_of_block HT2.out)).trans HT2.out)
          replace HV4 := Lib.hid (HV4.out.next hb6)
          have HT6 := Lib.hid hT6
          have v46 := HV4.out.var.cell
          have f46 := HV4.out.var.free 0
          have lt46 := lt_of_block HV4.out.var
          clear hdo hT6 hS6 hb6 e0 e1 e2 e3 e4 e5 hb9 v47 l47
          unfold resW
          go_wp2_with (fail)
          refine hK.out _ _ hS6' (fun _ => ?_)
          clear hK K
          refine wpAnyH_take (i := 6) (v := ?_) rfl (by kernel_rfl) (by kernel_rfl) (by kernel_rfl) (fun _ _ _ h => h) (Or.inl ⟨by rfl, fun w hSw => ?_⟩) (by assumption) ?_
          rotate_left
          · (try dsimp only at hSw); go_simp; try with_reducible rfl
          simp only [Act.put, List.setIfInBounds_toArray, List.set_cons_zero, List.set_cons_succ, List.getElem_toArray, List.getElem_cons_succ, List.getElem_cons_zero]
          refine wpAnyH_take (i := 7) (v := ?_) rfl (by kernel_rfl) (by kernel_rfl) (by kernel_rfl) (fun _ _ _ h => h) (Or.inl ⟨by rfl, fun w hSw => ?_⟩) (by assumption) ?_
          rotate_left
          · (try dsimp only at hSw); go_simp; try with_reducible rfl
          simp only [Act.put, List.setIfInBounds_toArray, List.set_cons_zero, List.set_cons_succ, List.getElem_toArray, List.getElem_cons_succ, List.getElem_cons_zero]
          refine wpAnyH_take (i := 8) (v := ?_) rfl (by kernel_rfl) (by kernel_rfl) (by kernel_rfl) (fun _ _ _ h => h) (Or.inl ⟨by rfl, fun w hSw => ?_⟩) (by assumption) ?_
          rotate_left
          · (try dsimp only at hSw); go_simp; try with_reducible rfl
          simp only [Act.put, List.setIfInBounds_toArray, List.set_cons_zero, List.set_cons_succ, List.getElem_toArray, List.getElem_cons_succ, List.getElem_cons_zero]
          refine wpAnyH_ready (rs := [9]) (by kernel_rfl) (by simp) ?_
          refine AllReadyH.cons rfl (fun K hK => ?_) AllReadyH.nil
          simp only [List.getElem_toArray, List.getElem_cons_succ, List.getElem_cons_zero]
          go_simp
          obtain ⟨w7, hw7, hV7, hT7⟩ := set_tr HV4.out HT6.out
          rw [← hw7]
          have hbn : b ≠ x4 := by have := HBX.out; have := HL.out.1; omega
          have hb9 : b < w6.heap.size := by have := HBX.out; have := HB4.out.size; omega
          obtain ⟨e0, e1, e2, e3, e4, e5⟩ := hS6'
          have hS7 := And.intro ((hT7.cell (a := ⟨b, off + k * 6, none⟩) hb9 hbn).trans e0) (And.intro ((hT7.cell (a := ⟨b, off + k * 6 + 1, none⟩) hb9 hbn).trans e1) (And.intro ((hT7.cell (a := ⟨b, off + k * 6 + 2, none⟩) hb9 hbn).trans e2) (And.intro ((hT7.cell (a := ⟨b, off + k * 6 + 3, none⟩) hb9 hbn).trans e3) (And.intro ((hT7.cell (a := ⟨b, off + k * 6 + 4, none⟩) hb9 hbn).trans e4) ((hT7.cell (a := ⟨b, off + k * 6 + 5, none⟩) hb9 hbn).trans e5)))))
          refine hK.out _ _ hS7 (fun _ => ?_)
          clear hK K
          refine wpAnyH_done (by kernel_rfl) ?_ _
          replace HT2 : Hid (TrB w7 x2 (.slice none 0 0)) := Lib.hid ((hT7.block x2 (lt_of_block HT2.out) (fun e => HL.out.2.1 e.symm)).trans HT2.out)
          replace HB4 := Lib.hid (turn_below HB4.out HL.out.1 hT7)
          replace HV4 := Lib.hid hV7
          have v47 := HV4.out.var.cell
          have l47 := HV4.out.var.load
          have hwe := weighT HV4.out.tv 10000 (by omega)
          clear hw7 hV7 hT7 hbn hb9 e0 e1 e2 e3 e4 e5 hS7 v46 f46 lt46
          go_wp2_with (fail)
          refine hwe.mono ?_
          rintro e w8 ⟨vw, rfl, hb8⟩
          replace HB4 := Lib.hid (HB4.out.trans (hb8.mono HB4.out.size))
          replace HT2 : Hid (TrB w8 x2 (.slice none 0 0)) := Lib.hid ((hb8.block x2 (lt_of_block HT2.out)).trans HT2.out)
          replace HV4 := Lib.hid (HV4.out.next hb8)
          have v48 := HV4.out.var.cell
          have l48 := HV4.out.var.load
          clear hwe hb8 v47 l47
          by_cases hgw : (10000 : Int) < (vw : Int)
          · have c22 := HT2.out.cell
            have f22 := HT2.out.free 0
            have l22 := lt_of_block HT2.out
            go_wp2_with (fail)
            obtain ⟨wE, hwE, q1, q2, q3⟩ := made_end HB4.out HL.out.2.2 HT2.out HV4.out.tv
            rw [← hwE]
            refine bodyPost_ret (res_ct rfl _ _ ⟨x2, 0, none⟩ _ _ rfl rfl q1.load) rfl ?_
            exact ⟨_, _, _, false, rfl, q2, q3⟩
          · go_wp2_with (fail)
            go_roundw
            case rel => exact ⟨k + 1, _, _, _, by omega, by go_num, HB4.out, HT2.out, HV4.out⟩
            case measure => simp [RowKit.intOf]; omega
      · obtain rfl : k = n := by omega
        clear hB ht2 hV4
        have v4 := HV4.out.var.cell
        have l4 := HV4.out.var.load
        have c22 := HT2.out.cell
        have f22 := HT2.out.free 0
        have l22 := lt_of_block HT2.out
        go_wp2_with (fail)
        obtain ⟨wE, hwE, q1, q2, q3⟩ := made_end HB4.out HL.out.2.2 HT2.out HV4.out.tv
        rw [← hwE]
        refine bodyPost_ret (res_ct rfl _ _ ⟨x2, 0, none⟩ _ _ rfl rfl q1.load) rfl ?_
        exact ⟨_, _, _, true, rfl, q2, q3⟩
end
/-- A variable that holds an operation. -/
structure OvB (w : World) (b : Nat) (x : Oc) : Prop where
  var : OpC w b x.o x.i x.m x.p x.q x.da x.dn x.dc
  ok : OcW w x
theorem OvB.next {w w' : World} {b : Nat} {x : Oc} (h : OvB w b x) (hb : Below w.heap.size w w') : OvB w' b x := ⟨(hb.block _ (lt_of_block h.var)).trans h.var, h.ok.next hb⟩
theorem new_op {w : World} {x : Oc} (h : OcW w x) : ∃ wS b, wS = w.alloc (.cells #[.int .i64 x.o, .string x.p, .string x.q, .int .i64 x.i, .int .i64 x.m, .slice x.da x.dn x.dc] 31 (0, 0)) ∧ b = w.heap.size ∧ OvB wS b x ∧ Below w.heap.size w wS := by
  have hb : Below w.heap.size w (w.alloc (.cells #[.int .i64 x.o, .string x.p, .string x.q, .int .i64 x.i, .int .i64 x.m, .slice x.da x.dn x.dc] 31 (0, 0))) := (Below.refl _ _).alloc (Nat.le_refl _) _
  exact ⟨_, _, rfl, rfl, ⟨heap_alloc_new w _, h.next hb⟩, hb⟩
theorem longO {w : World} {x : Oc} (h : OcW w x) : Calls Tryz.prog 16 #[.agg #[.int .i64 x.o, .string x.p, .string x.q, .int .i64 x.i, .int .i64 x.m, .slice x.da x.dn x.dc]] w (LoPost w x.p x.q x.dn) :=
  long_any w x.o x.i x.m x.p x.q x.da x.dn x.dc h.p h.q (Nat.le_trans h.pin.cap h.pin.max)
theorem OvB.turnT {w w' : World} {b x : Nat} {y : Oc} {M : List Nd} {a : Option Addr} {d : Nat} (h : OvB w b y) (k : TvB w x M a d) (hT : Turn (· = x) w w') : OvB w' b y :=
  ⟨(hT.block b (lt_of_block h.var) (ne_ty h.var k.var (by decide))).trans h.var, ⟨h.ok.pin.turn hT (k.var.odd.pin h.ok.pin), h.ok.p, h.ok.q, h.ok.o, h.ok.i, h.ok.m⟩⟩
end Go.Proofs.YtinholnidchblaaGreatDoor

/-
  moraineref00's CopyBytes; 'append' of bytes at a step of a region that draws its order: by contract.
-/
namespace Go.Proofs.YtinholnidchblaaGreatDoor
open Go.RowKit
set_option linter.unusedVariables false
set_option linter.unusedSimpArgs false

theorem copyB_any (a : Option Addr) (n c : Nat) (x : List Int) (w : World) (hx : Pin w a n c x) (hn : n ≤ 1000000000000) :
    Calls Tryz.prog 33 #[.slice a n c] w (ConPost w x) := by
  go_enter Tryz.func33, Tryz.ntmps33
  go_wp2_with (at_builtin; go_must (refine wpList_ap rfl (.tmp 5) (.tmp 6) rfl w.heap.size _ 0 [] rfl (own_none w w.heap.size (Nat.le_refl _)) a n c x rfl (hx.bys.below (Nat.le_refl _) ((Below.refl _ _).alloc (Nat.le_refl _) _)) hx.nil (by omega) (by simp) w ((Below.refl _ _).alloc (Nat.le_refl _) _) ?_); intro v w1 hown1 hb1)
  go_ret
  exact ⟨_, rfl, by rw [hx.bys.len]; simpa using hown1, hb1⟩
theorem wp_apb {w : World} {o : Oper} {a : Act} {K : Act → World → Prop} {Q : Exit → Act → World → Prop} (s x : Operand)
    (ho : o.op = .call { callee := .builtin .append, args := #[s, x], argTypes := #[29, 29] })
    (B : Nat) (v : Value) (n : Nat) (zs : List Int) (hs : a.eval s = v) (hown : Own w B v n zs) (ad : Option Addr) (m c : Nat) (ys : List Int) (hx : a.eval x = .slice ad m c) (hy : Pin w ad m c ys)
    (hnm : n + m ≤ 140737488355328) (hB : B ≤ w.heap.size) (w0 : World) (hb : Below B w0 w)
    (h : ∀ v' w', Own w' B v' (n + m) (zs ++ ys) → Below B w0 w' → K (a.put o.dst v') w') : Oper.wp Tryz.prog o a w K Q := by
  obtain ⟨i0, hi, hz0, hz1, hz2⟩ := info_parts info8
  cases ad with
  | none =>
    obtain ⟨rfl, rfl⟩ := hy.nil rfl
    obtain rfl : ys = [] := List.eq_nil_of_length_eq_zero hy.bys.len
    have hrun := run_append_owned_none (P := Tryz.prog) (w := w) B 29 o.type 5 i0 1 Tryz.underlying29 hi v n _ hown.row
    unfold Oper.wp
    simp [execOp, ho, resolve, invoke, builtin, hs, hx, hrun, Result.andThen]
    exact h v w (by simpa using hown) hb
  | some p =>
    refine wp_append_own (w := w) s x 29 ho B 5 i0 (.int .u8 0) 1 1 Tryz.underlying29 hi hz0 hz1 hz2 rfl (by decide) v n _ hs hown.row p m c (ys.map (Value.int .u8)) hx (by simp [hy.bys.len]) (bys_news hy.bys) ?_ (by unfold maxLen; omega) (by omega) hB ?_
    · intro u hu
      obtain ⟨z, _, rfl⟩ := List.mem_map.1 hu
      rfl
    · intro v' w' hown' hgrow _
      exact h v' w' ⟨by rw [List.map_append]; exact hown', hown.small.app hy.bys.small⟩ (hb.grown hgrow hB fun k hk => (hown.row.lt k hk).1)
end Go.Proofs.YtinholnidchblaaGreatDoor

/-
  What the laws' walks want of what Do answers, plainly.
-/
namespace Go.Proofs.YtinholnidchblaaGreatDoor
open Go.RowKit
set_option linter.unusedVariables false
set_option linter.unusedSimpArgs false

theorem OpC.next {w w' : World} {b : Nat} {o i m : Int} {p q : ByteArray} {da : Option Addr} {dn dc : Nat} (h : OpC w b o i m p q da dn dc) (hb : Below w.heap.size w w') : OpC w' b o i m p q da dn dc := (hb.block _ (lt_of_block h)).trans h
theorem new_opc (w : World) (o i m : Int) (p q : ByteArray) (da : Option Addr) (dn dc : Nat) : ∃ wS b, wS = w.alloc (.cells #[.int .i64 o, .string p, .string q, .int .i64 i, .int .i64 m, .slice da dn dc] 31 (0, 0)) ∧ b = w.heap.size ∧ OpC wS b o i m p q da dn dc ∧ Below w.heap.size w wS :=
  ⟨_, _, rfl, rfl, heap_alloc_new w _, (Below.refl _ _).alloc (Nat.le_refl _) _⟩
theorem Nds.turnS {w w' : World} {n b : Nat} {na : Option Addr} {f : Nat → Nc} (h : Nds w na n f) {r : Rv} {da : Option Addr} {dn dc : Nat} {ma : Option Addr} {nn nc : Nat} (hb : RsB w b (resA r da dn dc ma nn nc)) (ht : Turn (· = b) w w') : Nds w' na n f := by
  refine ⟨?_, fun i hi => (h.data i hi).turn ht (hb.odd.pin (h.data i hi)), fun i hi => (h.ents i hi).turn ht (hb.odd.enz (h.ents i hi))⟩
  rcases h.place with h0 | ⟨b', off, ha, hlt, hc⟩
  · exact .inl h0
  · by_cases hn : n = 0
    · exact .inl hn
    have hne : b' ≠ b := by
      rintro rfl
      obtain ⟨c0, c1, c2, c3⟩ := hc 0 (by omega)
      have key : ∀ j v, w.cell? ⟨b', j, none⟩ = some v → (resA r da dn dc ma nn nc)[j]? = some v := fun j v hj => by
        rwa [cell_of_row w b' j _ _ _ hb] at hj
      have a0 := key _ _ c0
      have a1 := key _ _ c1
      have a3 := key _ _ c3
      have hsz : off + 0 * 4 + 3 < 6 := (Array.getElem?_eq_some_iff.1 a3).1
      have h6 : off = 0 ∨ off = 1 ∨ off = 2 := by omega
      rcases h6 with rfl | rfl | rfl
      · simp [resA] at a1
      · simp [resA] at a0
      · simp [resA] at a0
    refine .inr ⟨b', off, ha, Nat.lt_of_lt_of_le hlt ht.size, fun i hi => ?_⟩
    obtain ⟨c0, c1, c2, c3⟩ := hc i hi
    exact ⟨(ht.cell (a := ⟨b', off + i * 4, none⟩) hlt hne).trans c0, (ht.cell (a := ⟨b', off + i * 4 + 1, none⟩) hlt hne).trans c1, (ht.cell (a := ⟨b', off + i * 4 + 2, none⟩) hlt hne).trans c2, (ht.cell (a := ⟨b', off + i * 4 + 3, none⟩) hlt hne).trans c3⟩
section
variable {w : World} {L : List Nd} {a : Option Addr} {c y : Nat} {r s : Rv} {da : Option Addr} {dn dc : Nat} {na : Option Addr} {nn nc : Nat} {Ls : List (List UInt8)} {ea : Option Addr} {en ec : Nat} {ma : Option Addr} {mn mc : Nat} {Ms : List (List UInt8)}
theorem TvB.turnS {w' : World} {x : Nat} (h : TvB w x L a c) (hb : RvB w y r da dn dc na nn nc Ls) (ht : Turn (· = y) w w') : TvB w' x L a c := by
  refine ⟨(ht.block x (lt_of_block h.var) (ne_ty h.var hb.var (by decide))).trans h.var, ?_, h.tv.rgt⟩
  obtain ⟨a', c', f, hv, hn, h3⟩ := h.tv.tre
  exact ⟨a', c', f, hv, hn.turnS (r := r) hb.var ht, h3⟩
/-- A Result's variable that gets another one, and a new variable for a tree. -/
theorem new_tr_set (hR : RvB w y r da dn dc na nn nc Ls) (h : Tv w L a c) (s : Rv) (ea : Option Addr) (en ec : Nat) (ma : Option Addr) (mn mc : Nat) : ∃ wS x, wS = ((((((w.setCell ⟨y, 0, none⟩ (.int .i64 s.err)).setCell ⟨y, 1, none⟩ (.slice ea en ec)).setCell ⟨y, 2, none⟩ (.slice ma mn mc)).setCell ⟨y, 3, none⟩ (.int .i64 s.k)).setCell ⟨y, 4, none⟩ (.int .i64 s.l)).setCell ⟨y, 5, none⟩ (.int .i64 s.sz)).alloc (.cells #[.slice a L.length c] 26 (0, 0)) ∧ x = w.heap.size ∧
    TvB wS x L a c ∧ RsB wS y #[.int .i64 s.err, .slice ea en ec, .slice ma mn mc, .int .i64 s.k, .int .i64 s.l, .int .i64 s.sz] ∧ (∀ x' L' a' c', TvB w x' L' a' c' → TvB wS x' L' a' c') ∧ Turn (· = y) w wS := by
  have hT := turn_set6 w y (.int .i64 s.err) (.slice ea en ec) (.slice ma mn mc) (.int .i64 s.k) (.int .i64 s.l) (.int .i64 s.sz)
  have hR2 := RsB.set hR.var (.int .i64 s.err) (.slice ea en ec) (.slice ma mn mc) (.int .i64 s.k) (.int .i64 s.l) (.int .i64 s.sz)
  obtain ⟨w6, h6⟩ : ∃ w6, w6 = (((((w.setCell ⟨y, 0, none⟩ (.int .i64 s.err)).setCell ⟨y, 1, none⟩ (.slice ea en ec)).setCell ⟨y, 2, none⟩ (.slice ma mn mc)).setCell ⟨y, 3, none⟩ (.int .i64 s.k)).setCell ⟨y, 4, none⟩ (.int .i64 s.l)).setCell ⟨y, 5, none⟩ (.int .i64 s.sz) := ⟨_, rfl⟩
  rw [← h6] at hT hR2
  have hv : Tv w6 L a c := by
    obtain ⟨a', c', f, hv, hn, h3⟩ := h.tre
    exact ⟨⟨a', c', f, hv, hn.turnS (r := r) hR.var hT, h3⟩, h.rgt⟩
  have hs : w6.heap.size = w.heap.size := by rw [h6]; simp [World.setCell]
  obtain ⟨wS, x, h1, hx, hV, hb⟩ := new_tr hv
  refine ⟨wS, x, by rw [← h6]; exact h1, by rw [hx, hs], hV, (hb.block _ hR2.lt).trans hR2, fun x' L' a' c' h' => (h'.turnS hR hT).next hb, hT.next hb⟩
end
/-- The operations that TreeUndone goes through. -/
def KiB (w : World) (b : Nat) : Prop := w.heap[b]? = some (.cells #[.int .i64 1, .int .i64 4, .int .i64 2, .int .i64 5, .int .i64 3, .int .i64 4] 59 (0, 0))
theorem KiB.next {w w' : World} {b : Nat} (h : KiB w b) (hb : Below w.heap.size w w') : KiB w' b := (hb.block _ (lt_of_block h)).trans h
theorem KiB.cells {w : World} {b : Nat} (h : KiB w b) : w.cell? ⟨b, 0, none⟩ = some (.int .i64 1) ∧ w.cell? ⟨b, 1, none⟩ = some (.int .i64 4) ∧ w.cell? ⟨b, 2, none⟩ = some (.int .i64 2) ∧ w.cell? ⟨b, 3, none⟩ = some (.int .i64 5) ∧ w.cell? ⟨b, 4, none⟩ = some (.int .i64 3) ∧ w.cell? ⟨b, 5, none⟩ = some (.int .i64 4) := by
  unfold KiB at h
  refine ⟨?_, ?_, ?_, ?_, ?_, ?_⟩ <;> simp [World.cell?, h]
theorem lp_bad {L : List Nd} (h : Rgt L) {o : Int} {p q : ByteArray} {i n : Int} {z : List Int} {D : List Nd × Rv} (hD : D = doO L o (nms p) (nms q) i n z) (e : D.2.err ≠ 0) : D.1 = L ∧ D.2 = .bad D.2.err := by
  subst hD
  exact do_bad h (nms_ok p) (nms_ok q) e
theorem lp_right {L : List Nd} (h : Rgt L) {o : Int} {p q : ByteArray} {i n : Int} {z : List Int} {D : List Nd × Rv} (hD : D = doO L o (nms p) (nms q) i n z) : Rgt D.1 := by
  subst hD
  exact do_right h o (nms_ok p) (nms_ok q) i n z
theorem rv_bad (L : List Nd) (e : Int) : (L, Rv.bad e).2.d = [] ∧ (L, Rv.bad e).2.ns = [] := ⟨rfl, rfl⟩
theorem rv_ok (L : List Nd) : (L, Rv.ok).2.d = [] ∧ (L, Rv.ok).2.ns = [] := ⟨rfl, rfl⟩
def NoR (x : List Nd × Rv) : Prop := x.2.d = [] ∧ x.2.ns = []
theorem NoR.any (L : List Nd) (e k l z : Int) : NoR (L, ⟨e, [], [], k, l, z⟩) := ⟨rfl, rfl⟩
theorem new_none (L : List Nd) (b : Bool) (P : Option (List ByteArray)) : NoR (oNew L b P) := by
  unfold oNew
  repeat' split
  all_goals exact NoR.any _ _ _ _ _
theorem link_none (L : List Nd) (P Q : Option (List ByteArray)) : NoR (oLink L P Q) := by
  unfold oLink
  repeat' split
  all_goals exact NoR.any _ _ _ _ _
theorem cut_none (L : List Nd) (b : Bool) (P : Option (List ByteArray)) : NoR (oCut L b P) := by
  unfold oCut
  repeat' split
  all_goals exact NoR.any _ _ _ _ _
theorem ren_none (L : List Nd) (P Q : Option (List ByteArray)) : NoR (oRen L P Q) := by
  unfold oRen
  repeat' split
  all_goals exact NoR.any _ _ _ _ _
theorem write_none (L : List Nd) (P : Option (List ByteArray)) (i : Int) (z : List Int) : NoR (oWrite L P i z) := by
  unfold oWrite
  repeat' split
  all_goals exact NoR.any _ _ _ _ _
theorem trunc_none (L : List Nd) (P : Option (List ByteArray)) (n : Int) : NoR (oTrunc L P n) := by
  unfold oTrunc
  repeat' split
  all_goals exact NoR.any _ _ _ _ _
theorem any_none (L : List Nd) {o : Int} (h7 : o ≠ 7) (h8 : ¬ (o = 10 ∨ o = 11 ∨ o = 13)) (P Q : Option (List ByteArray)) (i n : Int) (z : List Int) : NoR (oAny L o P Q i n z) := by
  unfold oAny
  repeat' split
  all_goals first
    | exact new_none _ _ _
    | exact link_none _ _ _
    | exact cut_none _ _ _
    | exact ren_none _ _ _
    | exact write_none _ _ _ _
    | exact trunc_none _ _ _
    | exact NoR.any _ _ _ _ _
    | exact absurd (by assumption) h7
    | exact absurd (by assumption) h8
theorem len_sub (b : List Int) (i n : Nat) : ((b.drop i).take n).length ≤ b.length := by
  rw [List.length_take, List.length_drop]; omega
def SmR (x : List Nd × Rv) : Prop := x.2.d.length ≤ 46368 ∧ x.2.ns.length ≤ 64
theorem SmR.none (L : List Nd) (e k l z : Int) : SmR (L, ⟨e, [], [], k, l, z⟩) := ⟨Nat.zero_le _, Nat.zero_le _⟩
theorem lp_small {L : List Nd} (h : Rgt L) {o : Int} {p q : ByteArray} {i n : Int} {z : List Int} {D : List Nd × Rv} (hD : D = doO L o (nms p) (nms q) i n z) : D.2.d.length ≤ 46368 ∧ D.2.ns.length ≤ 64 := by
  have hd : ∀ k, (nat L k).d.length ≤ 46368 := fun k => by
    by_cases hk : k < L.length
    · rcases h.snd.node k hk with h7 | h7
      · exact h7.2.2
      · rw [h7.2.1]; decide
    · rw [nat_out (by omega)]; decide
  have he : ∀ k, (nat L k).e.length ≤ 64 := fun k => by
    by_cases hk : k < L.length
    · rcases h.snd.node k hk with h7 | h7
      · rw [h7.2.1]; decide
      · exact h7.2.2.1
    · rw [nat_out (by omega)]; decide
  by_cases h0 : D.2.err = 0
  · have key : SmR (oAny L o (nms p) (nms q) i n z) := by
      by_cases h7 : o = 7
      · subst h7
        show SmR (oRead L (nms p) i n)
        unfold oRead
        split
        · exact SmR.none _ _ _ _ _
        · split
          · exact SmR.none _ _ _ _ _
          · exact ⟨Nat.le_trans (len_sub _ _ _) (hd _), Nat.zero_le _⟩
      by_cases h8 : o = 10 ∨ o = 11 ∨ o = 13
      · have e : oAny L o (nms p) (nms q) i n z = (L, oAsk L o (nms p)) := by rcases h8 with rfl | rfl | rfl <;> rfl
        rw [e]
        unfold oAsk
        split
        · exact SmR.none _ _ _ _ _
        · split
          · exact SmR.none _ _ _ _ _
          · split
            · exact SmR.none _ _ _ _ _
            · split
              · split
                · exact ⟨Nat.zero_le _, by show ((nat L _).e.map _).length ≤ 64; rw [List.length_map]; exact he _⟩
                · exact SmR.none _ _ _ _ _
              · exact SmR.none _ _ _ _ _
      · have hk := any_none L h7 h8 (nms p) (nms q) i n z
        exact ⟨by rw [hk.1]; exact Nat.zero_le _, by rw [hk.2]; exact Nat.zero_le _⟩
    rw [hD]
    exact key
  · rw [(lp_bad h hD h0).2]
    exact ⟨Nat.zero_le _, Nat.zero_le _⟩
theorem lp_wide {w : World} {L : List Nd} (h : Rgt L) {o : Int} {p q : ByteArray} {i n : Int} {z : List Int} {D : List Nd × Rv} (hD : D = doO L o (nms p) (nms q) i n z) {da na : Option Addr} {dn dc nn nc : Nat} {Ls : List (List UInt8)} (hr : ResS w D.2 da dn dc na nn nc Ls) : dn ≤ 1000000000 ∧ nn ≤ 1000000000 := by
  obtain ⟨h1, h2⟩ := lp_small h hD
  have h3 := hr.data.len
  have h4 := hr.names.len
  have h5 := congrArg List.length hr.nam
  rw [List.length_map] at h5
  omega
theorem lp_read {L : List Nd} (h : Rgt L) {p q : ByteArray} {i n : Int} {D : List Nd × Rv} (hD : D = doO L 7 (nms p) (nms q) i n []) : D.1 = L ∧ D.2 = (oRead L (nms p) i n).2 := by
  rw [hD, do_read h]
  exact ⟨rfl, rfl⟩
theorem lp_ask {L : List Nd} (h : Rgt L) {p q : ByteArray} {o : Int} (ho : o = 10 ∨ o = 11 ∨ o = 13) {i n : Int} {D : List Nd × Rv} (hD : D = doO L o (nms p) (nms q) i n []) : D.1 = L ∧ D.2 = oAsk L o (nms p) := by
  rw [hD, do_ask h ho]
  exact ⟨rfl, rfl⟩
theorem lp_len {L : List Nd} (h : Rgt L) {P : Option (List ByteArray)} {k : Nat} (hf : fileAt L P = .ok k) : (nat L k).d.length ≤ 46368 := by
  obtain ⟨h1, h2⟩ := fileAt_lt h.snd hf
  exact (h.snd.file h1 h2).2.2
/-- All of a file is read. -/
theorem lp_all {L : List Nd} (h : Rgt L) (P : Option (List ByteArray)) :
    (∃ e, e ≠ 0 ∧ fileAt L P = .error e ∧ (oRead L P 0 100000).2 = .bad e) ∨ ∃ k, fileAt L P = .ok k ∧ (oRead L P 0 100000).2 = ⟨0, (nat L k).d, [], 0, 0, 0⟩ := by
  rcases law_read L P (show (0 : Int) ≤ 0 by decide) (show (0 : Int) ≤ 100000 by decide) with h1 | ⟨k, hf, hr⟩
  · exact .inl h1
  · exact .inr ⟨k, hf, by rw [hr]; congr 1; exact file_all h.snd hf⟩
theorem truncs_plain {L : List Nd} (h : Rgt L) {p q : ByteArray} {n m : Int} (h0 : 0 ≤ n) (h1 : n ≤ m) (h2 : m ≤ 3000) {D1 D2 D3 D4 : List Nd × Rv}
    (e1 : D1 = doO L 7 (nms p) (nms q) 0 100000 []) (e2 : D2 = doO L 9 (nms p) (nms q) 0 n []) (e3 : D3 = doO D2.1 9 (nms p) (nms q) 0 m []) (e4 : D4 = doO D3.1 7 (nms p) (nms q) 0 100000 []) :
    (D2.2.err ≠ 0 ∧ D1.2.err = D2.2.err ∧ D3.2.err = D2.2.err) ∨ (D2.2.err = 0 ∧ D3.2.err = 0 ∧ D4.2.err = 0 ∧ D4.2.d = fitB (fitB D1.2.d n.toNat) m.toNat ∧ D1.2.d.length ≤ 46368) := by
  obtain ⟨-, b1⟩ := lp_read h e1
  have t2 : D2 = (num (oTrunc L (nms p) n).1, (oTrunc L (nms p) n).2) := e2
  have t3 : D3 = (num (oTrunc D2.1 (nms p) m).1, (oTrunc D2.1 (nms p) m).2) := e3
  rcases law_trunc h (P := nms p) h0 (by omega) with ⟨e, he, hf, ht⟩ | ⟨k, hf, hk, ht, hn, hr, hf2, hd⟩
  · left
    have x1 : D1.2.err = e := by
      rcases lp_all h (nms p) with ⟨e', _, hf', hr'⟩ | ⟨k', hf', _⟩
      · rw [hf] at hf'; cases hf'; rw [b1, hr']; rfl
      · rw [hf] at hf'; cases hf'
    have x2 : D2 = (L, .bad e) := by rw [t2, ht]; simp only [h.num]
    have x3 : D3.2.err = e := by
      rw [t3, x2]
      rcases law_trunc h (P := nms p) (show 0 ≤ m by omega) (by omega) with ⟨e', _, hf', ht'⟩ | ⟨k', hf', _⟩
      · rw [hf] at hf'; cases hf'; simp only [ht']; rfl
      · rw [hf] at hf'; cases hf'
    have x2' : D2.2.err = e := by rw [x2]; rfl
    exact ⟨by rw [x2']; exact he, by rw [x1, x2'], by rw [x3, x2']⟩
  · right
    have x1 : D1.2 = ⟨0, (nat L k).d, [], 0, 0, 0⟩ := by
      rcases lp_all h (nms p) with ⟨e', _, hf', hr'⟩ | ⟨k', hf', hr'⟩
      · rw [hf] at hf'; cases hf'
      · rw [hf] at hf'; cases hf'; rw [b1, hr']
    have x2 : D2 = (setD L k (fitB (nat L k).d n.toNat), .ok) := by rw [t2, hn, ht]
    have y2 : D2.1 = setD L k (fitB (nat L k).d n.toNat) := by rw [x2]
    rw [y2] at t3
    rcases law_trunc hr (P := nms p) (show 0 ≤ m by omega) (by omega) with ⟨e', _, hf', _⟩ | ⟨k', hf', hk', ht', hn', hr', hf2', hd'⟩
    · rw [hf2] at hf'; cases hf'
    · rw [hf2] at hf'
      cases hf'
      have y3 : D3.1 = setD (setD L k (fitB (nat L k).d n.toNat)) k (fitB (nat (setD L k (fitB (nat L k).d n.toNat)) k).d m.toNat) := by rw [t3]; exact hn'
      have z3 : D3.2 = .ok := by rw [t3]; exact ht'
      rw [y3] at e4
      obtain ⟨-, b4⟩ := lp_read hr' e4
      rcases lp_all hr' (nms p) with ⟨e', _, hf', _⟩ | ⟨k', hf', hr''⟩
      · rw [hf2'] at hf'; cases hf'
      · rw [hf2'] at hf'
        cases hf'
        refine ⟨by rw [x2]; rfl, by rw [z3]; rfl, by rw [b4, hr''], ?_, by rw [x1]; exact lp_len h hf⟩
        rw [b4, hr'', x1]
        show (nat _ k).d = _
        rw [hd', hd]
theorem links_plain {L : List Nd} (h : Rgt L) {p q r : ByteArray} {z : List Int} (hz : z.length ≤ 1000) {D1 D2 D3 D4 D5 : List Nd × Rv}
    (e1 : D1 = doO L 10 (nms p) (nms r) 0 0 []) (e2 : D2 = doO L 3 (nms p) (nms q) 0 0 []) (e3 : D3 = doO D2.1 10 (nms q) (nms r) 0 0 []) (e4 : D4 = doO D2.1 8 (nms q) (nms r) 0 0 z) (e5 : D5 = doO D4.1 7 (nms p) (nms r) 0 z.length []) :
    D2.2.err = 0 → D3.2.l = D1.2.l + 1 ∧ D4.2.err = 0 ∧ D5.2.d = z ∧ 0 ≤ D1.2.l ∧ D1.2.l ≤ 200 := by
  intro he
  have t2 : D2 = (num (oLink L (nms p) (nms q)).1, (oLink L (nms p) (nms q)).2) := e2
  have hN : D2.1 = num (oLink L (nms p) (nms q)).1 := by rw [t2]
  have hr2 := lp_right h e2
  obtain ⟨-, -, -, hl, k, hfp, hfq⟩ := law_link h (nms_ok q) (by rw [t2] at he; exact he) hN
  obtain ⟨-, b1⟩ := lp_ask h (.inl rfl) e1
  obtain ⟨-, b3⟩ := lp_ask hr2 (.inl rfl) e3
  have t4 : D4 = (num (oWrite D2.1 (nms q) 0 z).1, (oWrite D2.1 (nms q) 0 z).2) := e4
  have h0 : ¬ ((0 : Int) < 0 ∨ 46368 < 0 + (z.length : Int)) := by omega
  have w1 : (oWrite D2.1 (nms q) 0 z).2 = ⟨0, [], [], 0, 0, (z.length : Int)⟩ := by simp only [oWrite, hfq, if_neg h0]
  obtain ⟨k', hk', hlt, _, _, _, hN4, hr4, hf4, hd4⟩ := law_write hr2 (P := nms q) (i := 0) (z := z) (by rw [w1]) (N := D4.1) (by rw [t4])
  rw [hfq] at hk'
  cases hk'
  have hf4p : fileAt D4.1 (nms p) = .ok k := by rw [hN4, fileAt_setD hlt]; exact hfp
  obtain ⟨-, b5⟩ := lp_read hr4 e5
  refine ⟨by rw [b3, b1, hl], by rw [t4]; show (oWrite D2.1 (nms q) 0 z).2.err = 0; rw [w1], ?_, ?_⟩
  · rcases law_read D4.1 (nms p) (show (0 : Int) ≤ 0 by decide) (show (0 : Int) ≤ (z.length : Int) by omega) with ⟨e', _, hf', _⟩ | ⟨k', hf', hr'⟩
    · rw [hf4p] at hf'; cases hf'
    · rw [hf4p] at hf'
      cases hf'
      rw [b5, hr', hd4]
      show ((wriB (nat D2.1 k).d 0 z).drop 0).take z.length = z
      rw [List.drop_zero]
      exact wri_front
  · rw [b1]
    unfold oAsk
    split
    · exact ⟨Int.le_refl 0, by show (0 : Int) ≤ 200; decide⟩
    · split
      · exact ⟨Int.le_refl 0, by show (0 : Int) ≤ 200; decide⟩
      · rename_i j hj
        simp only [if_true]
        have hjl := h.snd.wlklt hj
        rcases h.node j hjl with h7 | h7
        · exact ⟨by omega, h7.2.2⟩
        · have hlk := h.link j hjl
          rw [lnk, isD_dir h7, if_pos rfl] at hlk
          have := h7.2.2.1
          have hc := List.countP_le_length (p := fun j => isD (nat L j)) (l := inos (nat L j))
          have hi : (inos (nat L j)).length = (nat L j).e.length := by simp [inos]
          omega
theorem undone_plain {L : List Nd} (h : Rgt L) {p q r : ByteArray} {D1 D2 : List Nd × Rv} {o c : Int}
    (hk : o = 1 ∧ c = 4 ∧ True ∨ o = 2 ∧ c = 5 ∧ True) (e1 : D1 = doO L o (nms p) (nms q) 0 0 []) (e2 : D2 = doO D1.1 c (nms p) (nms r) 0 0 []) (he : D1.2.err = 0) : D2.2.err = 0 ∧ D2.1 = L ∧ D1.1 ≠ L := by
  rcases hk with ⟨rfl, rfl, -⟩ | ⟨rfl, rfl, -⟩
  · have t1 : D1 = (num (oNew L false (nms p)).1, (oNew L false (nms p)).2) := e1
    have t2 : D2 = (num (oCut D1.1 false (nms p)).1, (oCut D1.1 false (nms p)).2) := e2
    obtain ⟨k1, k2, k3⟩ := law_new h false (nms_ok p) (by rw [t1] at he; exact he) (N := D1.1) (by rw [t1])
    exact ⟨by rw [t2]; show (oCut D1.1 false (nms p)).2.err = 0; rw [k1]; rfl, by rw [t2]; exact k2, k3⟩
  · have t1 : D1 = (num (oNew L true (nms p)).1, (oNew L true (nms p)).2) := e1
    have t2 : D2 = (num (oCut D1.1 true (nms p)).1, (oCut D1.1 true (nms p)).2) := e2
    obtain ⟨k1, k2, k3⟩ := law_new h true (nms_ok p) (by rw [t1] at he; exact he) (N := D1.1) (by rw [t1])
    exact ⟨by rw [t2]; show (oCut D1.1 true (nms p)).2.err = 0; rw [k1]; rfl, by rw [t2]; exact k2, k3⟩
theorem undone_one {L : List Nd} (h : Rgt L) {p q r : ByteArray} {D1 D2 : List Nd × Rv} (e1 : D1 = doO L 1 (nms p) (nms q) 0 0 []) (e2 : D2 = doO D1.1 4 (nms p) (nms r) 0 0 []) (he : D1.2.err = 0) : D2.2.err = 0 ∧ D2.1 = L ∧ D1.1 ≠ L :=
  undone_plain h (.inl ⟨rfl, rfl, trivial⟩) e1 e2 he
theorem undone_two {L : List Nd} (h : Rgt L) {p q r : ByteArray} {D1 D2 : List Nd × Rv} (e1 : D1 = doO L 2 (nms p) (nms q) 0 0 []) (e2 : D2 = doO D1.1 5 (nms p) (nms r) 0 0 []) (he : D1.2.err = 0) : D2.2.err = 0 ∧ D2.1 = L ∧ D1.1 ≠ L :=
  undone_plain h (.inr ⟨rfl, rfl, trivial⟩) e1 e2 he
theorem undone_link {L : List Nd} (h : Rgt L) {p q r : ByteArray} {D1 D2 : List Nd × Rv}
    (e1 : D1 = doO L 3 (nms p) (nms q) 0 0 []) (e2 : D2 = doO D1.1 4 (nms q) (nms r) 0 0 []) (he : D1.2.err = 0) : D2.2.err = 0 ∧ D2.1 = L ∧ D1.1 ≠ L := by
  have t1 : D1 = (num (oLink L (nms p) (nms q)).1, (oLink L (nms p) (nms q)).2) := e1
  have t2 : D2 = (num (oCut D1.1 false (nms q)).1, (oCut D1.1 false (nms q)).2) := e2
  obtain ⟨k1, k2, k3, -⟩ := law_link h (P := nms p) (nms_ok q) (by rw [t1] at he; exact he) (N := D1.1) (by rw [t1])
  exact ⟨by rw [t2]; show (oCut D1.1 false (nms q)).2.err = 0; rw [k1]; rfl, by rw [t2]; exact k2, k3⟩
theorem fiO_ok {L : List Nd} (h : Rgt L) {P : Option (List ByteArray)} {k : Nat} (hk : findO L P = .ok k) : fiO L P = ((k : Int), 0) := by
  simp only [fiO, rightB_iff.2 h, if_true, hk]
theorem fiO_er {L : List Nd} (h : Rgt L) {P : Option (List ByteArray)} {x : Int} (hk : findO L P = .error x) : fiO L P = (0, x) := by
  simp only [fiO, rightB_iff.2 h, if_true, hk]
theorem findO_er {L : List Nd} {P : Option (List ByteArray)} {x : Int} (h : findO L P = .error x) : x ≠ 0 := by
  cases P with
  | none => cases h; decide
  | some ns => exact wlk_err0 h
theorem renames_plain {L : List Nd} (h : Rgt L) {p q r : ByteArray} {D1 D2 D3 D4 D5 : List Nd × Rv} {F1 F2 F3 : Int × Int}
    (e1 : D1 = doO L 10 (nms p) (nms r) 0 0 []) (e2 : D2 = doO L 7 (nms p) (nms r) 0 100000 []) (f1 : F1 = fiO L (nms p)) (f2 : F2 = fiO L (nms q)) (e3 : D3 = doO L 6 (nms p) (nms q) 0 0 [])
    (e4 : D4 = doO D3.1 10 (nms q) (nms r) 0 0 []) (e5 : D5 = doO D3.1 7 (nms q) (nms r) 0 100000 []) (f3 : F3 = fiO D3.1 (nms p)) (he : D3.2.err = 0) :
    D1.2.err = 0 ∧ D1.2 = D4.2 ∧ D2.2 = D5.2 ∧ (F2.2 = 0 ∧ F1.1 = F2.1 ∧ F3.2 = 0 ∧ L = D3.1 ∨ (F2.2 = 0 → F1.1 ≠ F2.1) ∧ F3.2 = 21) := by
  have t3 : D3 = (num (oRen L (nms p) (nms q)).1, (oRen L (nms p) (nms q)).2) := e3
  have hr3 := lp_right h e3
  obtain ⟨a1, a2, a3, k, hk, hc⟩ := law_ren h (nms_ok p) (nms_ok q) (by rw [t3] at he; exact he) (N := D3.1) (by rw [t3])
  obtain ⟨-, b1⟩ := lp_ask h (.inl rfl) e1
  obtain ⟨-, b2⟩ := lp_read h e2
  obtain ⟨-, b4⟩ := lp_ask hr3 (.inl rfl) e4
  obtain ⟨-, b5⟩ := lp_read hr3 e5
  refine ⟨by rw [b1]; exact a1, by rw [b1, b4, a2], by rw [b2, b5, a3], ?_⟩
  rw [fiO_ok h hk] at f1
  rcases hc with ⟨c1, c2⟩ | ⟨c1, c2⟩
  · left
    rw [fiO_ok h c1] at f2
    rw [c2, fiO_ok h hk] at f3
    rw [f1, f2, f3]
    exact ⟨rfl, rfl, rfl, c2.symm⟩
  · right
    rw [fiO_er hr3 c2] at f3
    refine ⟨fun h2 => ?_, by rw [f3]⟩
    cases hq : findO L (nms q) with
    | error x =>
      rw [fiO_er h hq] at f2
      rw [f2] at h2
      exact absurd h2 (findO_er hq)
    | ok j =>
      rw [fiO_ok h hq] at f2
      rw [hq] at c1
      rw [f1, f2]
      intro e
      exact c1 (by rw [show j = k by have e7 : (k : Int) = (j : Int) := e; omega])
theorem writes_plain {L : List Nd} (h : Rgt L) {p r : ByteArray} {i : Int} {z : List Int} {D1 D2 D3 : List Nd × Rv} {F : Int × Int}
    (e1 : D1 = doO L 7 (nms p) (nms r) 0 100000 []) (e2 : D2 = doO L 8 (nms p) (nms r) i 0 z) (e3 : D3 = doO D2.1 7 (nms p) (nms r) 0 100000 []) (f1 : F = fiO L (nms p)) (he : D2.2.err = 0) :
    D1.2.err = 0 ∧ D3.2.err = 0 ∧ D2.2.sz = (z.length : Int) ∧ 0 ≤ i ∧ i + (z.length : Int) ≤ 46368 ∧ D3.2.d = wriB D1.2.d i.toNat z ∧ D1.2.d.length ≤ 46368 ∧
      ∃ k : Nat, F.1 = (k : Int) ∧ k < L.length ∧ D2.1 = setD L k (wriB D1.2.d i.toNat z) := by
  have t2 : D2 = (num (oWrite L (nms p) i z).1, (oWrite L (nms p) i z).2) := e2
  obtain ⟨k, hf, hk, h0, h1, hr, hN, hRg, hfN, hd⟩ := law_write h (P := nms p) (i := i) (z := z) (by rw [t2] at he; exact he) (N := D2.1) (by rw [t2])
  obtain ⟨-, b1⟩ := lp_read h e1
  obtain ⟨-, b3⟩ := lp_read hRg e3
  have x1 : D1.2 = ⟨0, (nat L k).d, [], 0, 0, 0⟩ := by
    rcases lp_all h (nms p) with ⟨e', _, hf', _⟩ | ⟨k', hf', hr'⟩
    · rw [hf] at hf'; cases hf'
    · rw [hf] at hf'; cases hf'; rw [b1, hr']
  have x3 : D3.2 = ⟨0, wriB (nat L k).d i.toNat z, [], 0, 0, 0⟩ := by
    rcases lp_all hRg (nms p) with ⟨e', _, hf', _⟩ | ⟨k', hf', hr'⟩
    · rw [hfN] at hf'; cases hf'
    · rw [hfN] at hf'; cases hf'; rw [b3, hr', hd]
  obtain ⟨ns, hns, hw, -⟩ := fileAt_ok hf
  have xf : F = ((k : Int), 0) := by
    rw [f1, fiO_ok h (k := k)]
    rw [hns]
    exact hw
  refine ⟨by rw [x1], by rw [x3], by rw [t2]; show (oWrite L (nms p) i z).2.sz = _; rw [hr], h0, h1, by rw [x3, x1], by rw [x1]; exact lp_len h hf, k, by rw [xf], hk, by rw [hN, x1]⟩
theorem wri_len {L : List Nd} {k : Nat} (h : k < L.length) (b : List Int) : (setD L k b).length = L.length := by simp [setD]
/-- A list's names, and what is at one of them. -/
theorem lists_plain {L : List Nd} (h : Rgt L) {p q r : ByteArray} {D : List Nd × Rv} {F : Int × Int} {x : ByteArray} {l : List (List UInt8)}
    (e1 : D = doO L 11 (nms p) (nms r) 0 0 []) (hp : spl p.data.toList = some l) (hq : spl q.data.toList = some (l ++ [x.data.toList])) (f1 : F = fiO L (nms q)) (he : D.2.err = 0) :
    (D.2.ns.Pairwise fun x y => blt x y = true) ∧ (F.2 = 0 ↔ x ∈ D.2.ns) := by
  obtain ⟨-, b1⟩ := lp_ask h (.inr (.inl rfl)) e1
  rw [b1] at he ⊢
  rcases law_list h.snd (nms p) with ⟨k1, _⟩ | ⟨_, ns, k, hns, hw, hm, hrp, hiff⟩
  · exact absurd he k1
  · have hP : nms p = some (l.map tx) := by rw [nms, hp]; rfl
    rw [hP] at hns
    cases hns
    have hQ : nms q = some (l.map tx ++ [x]) := by
      rw [nms, hq]
      show some ((l ++ [x.data.toList]).map tx) = _
      rw [List.map_append, List.map_cons, List.map_nil, tx_data]
    refine ⟨by rw [hm]; exact List.pairwise_map.2 hrp, ?_⟩
    rw [hm, hiff, f1]
    cases hw2 : wlk L 0 (l.map tx ++ [x]) with
    | ok j =>
      rw [fiO_ok h (k := j) (by rw [hQ]; exact hw2)]
      exact ⟨fun _ => ⟨j, rfl⟩, fun _ => rfl⟩
    | error e =>
      rw [fiO_er h (x := e) (by rw [hQ]; exact hw2)]
      refine ⟨fun h9 => absurd h9 (wlk_err0 hw2), ?_⟩
      rintro ⟨j, hj⟩
      cases hj
end Go.Proofs.YtinholnidchblaaGreatDoor

/-
  The program's Join, by contract.
-/
namespace Go.Proofs.YtinholnidchblaaGreatDoor
open Go.RowKit
set_option linter.unusedVariables false
set_option linter.unusedSimpArgs false

/-- What Join answers: the path and a number. -/
def JoiV (o : Option (List UInt8)) (e : Ending) : Prop :=
  match o with
  | none => e = .returned (.tuple #[.string ⟨#[]⟩, .int .i64 20])
  | some s => e = .returned (.tuple #[.string (tx s), .int .i64 0])
theorem tx_app (x y : List UInt8) : tx x ++ tx y = tx (x ++ y) := by
  rw [← tx_data (tx x ++ tx y)]
  congr 1
theorem slash_app (x : List UInt8) : (⟨#[47]⟩ : ByteArray) ++ tx x = tx (47 :: x) := tx_app [47] x
theorem map_tx (L : List (List UInt8)) : (L.map tx).map (·.data.toList) = L := by
  rw [List.map_map]
  conv => rhs; rw [← List.map_id L]
  exact List.map_congr_left fun x _ => by simp [data_tx]
theorem sjoin_any (w : World) (a : Option Addr) (n c : Nat) (L : List (List UInt8)) (h : Sts w a n L) (hA : arP L = true) (hc : n ≤ c) (hz : a = none → n = 0) :
    Calls Tryz.prog 60 #[.slice a n c, .string slash] w fun e w' => e = .returned (.string (tx (Lib.join L [47]))) ∧ Below w.heap.size w w' := by
  have hl := h.len
  have h8 := arP_len hA
  rcases h.place with h0 | ⟨b, off, rfl, hlt, hcs⟩
  · have e0 : n = 0 := h0
    subst e0
    obtain rfl : L = [] := List.length_eq_zero_iff.1 hl
    exact (Any.strings_Join_none lays156 Builder_Extra_156 a c slash w).mono fun e w' ⟨he, hw⟩ => ⟨he, hw ▸ Below.refl _ _⟩
  · have := Any.strings_Join lays156 Builder_Extra_156 b off c (L.map tx) slash w (fun j x hj => by
      rw [List.getElem?_map] at hj
      cases hj' : L[j]? with
      | none => rw [hj'] at hj; cases hj
      | some y =>
        rw [hj'] at hj
        cases hj
        have hlt' : j < n := by
          have := (List.getElem?_eq_some_iff.1 hj').1
          omega
        have e2 : tat L j = y := by simp [tat, List.getD, hj']
        have := hcs j hlt'
        rw [e2] at this
        exact this) hlt (by rw [List.length_map]; omega) (by rw [List.length_map]; omega) (by
        rw [map_tx]
        have := joi_len hA
        show (Lib.join L [47]).length ≤ _
        omega)
    rw [List.length_map, hl, map_tx] at this
    exact this
set_option maxHeartbeats 1000000 in
theorem join_any (w : World) (a : Option Addr) (n c : Nat) (L : List (List UInt8)) (h : Sts w a n L) (hc : n ≤ c) (hz : a = none → n = 0) :
    Calls Tryz.prog 32 #[.slice a n c] w fun e w' => JoiV (joi L) e ∧ Below w.heap.size w w' := by
  have har := are_any w a n c L h
  cases hA : arP L with
  | false =>
    have hj := Lib.hid (show joi L = none by unfold joi; rw [hA]; rfl)
    rw [hA] at har
    clear h
    go_enter Tryz.func32, Tryz.ntmps32
    go_wp2_with (fail)
    refine har.mono ?_
    rintro e w' ⟨rfl, hb⟩
    go_wp2_with (fail)
    go_ret2
    exact ⟨by rw [hj.out]; rfl, hb⟩
  | true =>
    have hj := Lib.hid (show joi L = some (47 :: Lib.join L [47]) by unfold joi; rw [hA]; rfl)
    rw [hA] at har
    have H := Lib.hid h
    have HJ := Lib.hid (joi_len hA)
    clear h
    go_enter Tryz.func32, Tryz.ntmps32
    go_wp2_with (fail)
    refine har.mono ?_
    rintro e w' ⟨rfl, hb⟩
    have hsj := sjoin_any w' a n c L (H.out.next hb) hA hc hz
    have HB := Lib.hid hb
    clear hb har
    go_wp2_with (fail)
    refine hsj.mono ?_
    rintro e w2 ⟨rfl, hb2⟩
    have HB2 := Lib.hid (HB.out.trans (hb2.mono HB.out.size))
    have kj : ¬ 9223372036854775807 < 1 + (tx (Lib.join L [47])).size := by rw [tx_size]; have := HJ.out; omega
    have hcl := clone_any (⟨#[47]⟩ ++ tx (Lib.join L [47])) w2 (by rw [slash_app, tx_size]; have := HJ.out; simp; omega)
    clear hb2 hsj
    go_wp2_with (fail)
    refine hcl.mono ?_
    rintro e w3 ⟨rfl, hb3⟩
    have HB3 := Lib.hid (HB2.out.trans (hb3.mono HB2.out.size))
    clear hb3 hcl
    go_wp2_with (fail)
    go_ret2
    refine ⟨?_, HB3.out⟩
    rw [hj.out]
    show _ = _
    rw [← slash_app]
    rfl
end Go.Proofs.YtinholnidchblaaGreatDoor
