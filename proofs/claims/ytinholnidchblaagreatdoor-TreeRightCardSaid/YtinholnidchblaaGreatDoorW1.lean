/-
  TreeRight: the walk.
-/
import Derived.Test.YtinholnidchblaaGreatDoorQar
set_option linter.unusedVariables false
set_option linter.unusedSimpArgs false
namespace Go.Proofs.YtinholnidchblaaGreatDoor
open Go.RowKit
set_option linter.unusedVariables false
set_option linter.unusedSimpArgs false

theorem bad_all {L : List Nd} (h : Rgt L) {o : Int} {p q : ByteArray} {i n : Int} {z : List Int} {D : List Nd × Rv} (hD : D = doO L o (nms p) (nms q) i n z) (e : D.2.err ≠ 0) : D.1 = L ∧ D.2 = .bad D.2.err := by
  subst hD
  exact do_bad h (nms_ok p) (nms_ok q) e
section
variable {w : World} {a : Option Addr} {n c : Nat} {f : Nat → Oc}
set_option maxRecDepth 100000 in
set_option maxHeartbeats 16000000 in
theorem treeRight_any (h : Ops w a n f) (x : Oc) (hx : OcW w x) : Calls Tryz.prog 5 #[.slice a n c, .agg #[.int .i64 x.o, .string x.p, .string x.q, .int .i64 x.i, .int .i64 x.m, .slice x.da x.dn x.dc]] w fun e w' => e = .returned (.bool true) ∧ Below w.heap.size w w' := by
  have HB : Hid (Below w.heap.size w w) := Lib.hid (Below.refl _ _)
  have HA := Lib.hid h
  have hx' := hx
  clear h hx
  obtain ⟨wo3, o3, hw, hx, hO, hb⟩ := new_op (x := x) hx'
  replace HB := Lib.hid (HB.out.trans (hb.mono HB.out.size))
  replace HA := Lib.hid (HA.out.next hb)
  have HO3 := Lib.hid hO
  have HWo3 := Lib.hid hw
  have HXo3 := Lib.hid hx
  clear hw hx hO hb
  clear hx'
  have hc := alive_any wo3
  go_enter Tryz.func5, Tryz.ntmps5
  go_wp2_with (fail)
  rw [← HXo3.out, ← HWo3.out]
  refine hc.mono ?_
  rintro e w1 ⟨rfl, hb⟩
  replace HB := Lib.hid (HB.out.trans (hb.mono HB.out.size))
  replace HA := Lib.hid (HA.out.next hb)
  replace HO3 := Lib.hid (HO3.out.next hb)
  clear hc hb
  have hc := made_any (c := c) HA.out
  go_wp2_with (fail)
  refine hc.mono ?_
  rintro e w2 ⟨L, aL, cL, ok, rfl, hT, hb⟩
  replace HB := Lib.hid (HB.out.trans (hb.mono HB.out.size))
  replace HA := Lib.hid (HA.out.next hb)
  replace HO3 := Lib.hid (HO3.out.next hb)
  clear hc hb
  obtain ⟨oO30, oO31, oO32, oO33, oO34, oO35⟩ := HO3.out.var.cells
  have olO3 := lt_of_block HO3.out.var
  have omO3 := HO3.out.var.load
  obtain ⟨w3, x5, hw, hx, hV, hb⟩ := new_tr hT
  replace HB := Lib.hid (HB.out.trans (hb.mono HB.out.size))
  replace HA := Lib.hid (HA.out.next hb)
  replace HO3 := Lib.hid (HO3.out.next hb)
  have HV5 := Lib.hid hV
  have HW5 := Lib.hid hw
  have HX5 := Lib.hid hx
  clear hT hw hx hV hb
  cases ok with
  | false =>
    go_wp2_with (fail)
    rw [← HX5.out, ← HW5.out]
    go_ret
    exact ⟨rfl, HB.out⟩
  | true =>
    have hc := longO HO3.out.ok
    go_wp2_with (fail)
    rw [← HX5.out, ← HW5.out]
    refine hc.mono ?_
    rintro e w4 ⟨lb, rfl, hlb, hb⟩
    replace HB := Lib.hid (HB.out.trans (hb.mono HB.out.size))
    replace HA := Lib.hid (HA.out.next hb)
    replace HO3 := Lib.hid (HO3.out.next hb)
    replace HV5 := Lib.hid (HV5.out.next hb)
    clear oO30 oO31 oO32 oO33 oO34 oO35 olO3 omO3 hc hb
    obtain ⟨oO30, oO31, oO32, oO33, oO34, oO35⟩ := HO3.out.var.cells
    have olO3 := lt_of_block HO3.out.var
    have omO3 := HO3.out.var.load
    have v5 := HV5.out.var.cell
    have l5 := HV5.out.var.load
    cases lb with
    | true =>
      go_wp2_with (fail)
      go_ret
      exact ⟨rfl, HB.out⟩
    | false =>
      have HSZ := Lib.hid (hlb rfl)
      clear hlb
      have hc := doT HV5.out.tv x.o x.i x.m x.p x.q x.da x.dn x.dc x.z (by have := HSZ.out; omega) (by have := HSZ.out; omega) HO3.out.ok.i HO3.out.ok.m HO3.out.ok.pin
      obtain ⟨D1, hD⟩ : ∃ D, D = doO L x.o (nms x.p) (nms x.q) x.i x.m x.z := ⟨_, rfl⟩
      rw [← hD] at hc
      have HD1 := Lib.hid hD
      clear hD
      go_wp2_with (fail)
      refine hc.mono ?_
      rintro e w1 ⟨a1, c1, da1, dn1, dc1, na1, nn1, nc1, Ls1, rfl, hT, hS, hb⟩
      replace HB := Lib.hid (HB.out.trans (hb.mono HB.out.size))
      replace HA := Lib.hid (HA.out.next hb)
      replace HO3 := Lib.hid (HO3.out.next hb)
      replace HV5 := Lib.hid (HV5.out.next hb)
      clear oO30 oO31 oO32 oO33 oO34 oO35 olO3 omO3 v5 l5 hc hb
      have oV5 := HV5.out.var.cell
      have olV5 := lt_of_block HV5.out.var
      obtain ⟨w1s, x1, y1, hw, hx, hy, hV, hR, hb⟩ := new_tr_rs hT hS
      have HL1 := Lib.hid (show w.heap.size ≤ x1 by rw [hx]; exact HB.out.size)
      replace HB := Lib.hid (HB.out.trans (hb.mono HB.out.size))
      replace HA := Lib.hid (HA.out.next hb)
      replace HO3 := Lib.hid (HO3.out.next hb)
      replace HV5 := Lib.hid (HV5.out.next hb)
      have HV1 := Lib.hid hV
      have HR1 := Lib.hid hR
      have HW1 := Lib.hid hw
      have HX1 := Lib.hid hx
      have HY1 := Lib.hid hy
      clear hT hS hw hx hy hV hR hb
      unfold resW
      have hc := rightT HV5.out.tv
      go_wp2_with (fail)
      rw [← HY1.out, ← HX1.out, ← HW1.out]
      refine hc.mono ?_
      rintro e w2 ⟨rfl, hb⟩
      replace HB := Lib.hid (HB.out.trans (hb.mono HB.out.size))
      replace HA := Lib.hid (HA.out.next hb)
      replace HO3 := Lib.hid (HO3.out.next hb)
      replace HV5 := Lib.hid (HV5.out.next hb)
      replace HV1 := Lib.hid (HV1.out.next hb)
      replace HR1 := Lib.hid (HR1.out.next hb)
      clear oV5 olV5 hc hb
      have vn1 := HV1.out.var.cell
      have ln1 := HV1.out.var.load
      obtain ⟨rn10, rn11, rn12, rn13, rn14, rn15⟩ := HR1.out.var.cells
      have vn5 := HV5.out.var.cell
      have ln5 := HV5.out.var.load
      have hc := rightT HV1.out.tv
      go_wp2_with (fail)
      refine hc.mono ?_
      rintro e w3 ⟨rfl, hb⟩
      replace HB := Lib.hid (HB.out.trans (hb.mono HB.out.size))
      replace HA := Lib.hid (HA.out.next hb)
      replace HO3 := Lib.hid (HO3.out.next hb)
      replace HV5 := Lib.hid (HV5.out.next hb)
      replace HV1 := Lib.hid (HV1.out.next hb)
      replace HR1 := Lib.hid (HR1.out.next hb)
      clear vn1 ln1 rn10 rn11 rn12 rn13 rn14 rn15 vn5 ln5 hc hb
      obtain ⟨rp10, rp11, rp12, rp13, rp14, rp15⟩ := HR1.out.var.cells
      by_cases he : D1.2.err = 0
      · rw [he] at rp10
        go_wp2_with (fail)
        go_ret
        exact ⟨rfl, HB.out⟩
      · obtain ⟨k1, k2⟩ := bad_all HV5.out.tv.rgt HD1.out he
        have HK1 := Lib.hid k1
        have HK2 := Lib.hid k2
        have hex : (D1.2.err == 0) = false := by simpa using he
        have vq1 := HV1.out.var.cell
        have lq1 := HV1.out.var.load
        have vq5 := HV5.out.var.cell
        have lq5 := HV5.out.var.load
        have hc := sameT2 HV5.out.tv HV1.out.tv
        rw [decide_eq_true k1.symm] at hc
        clear k1 k2
        go_wp2_with (fail)
        refine hc.mono ?_
        rintro e w9 ⟨rfl, hb⟩
        replace HB := Lib.hid (HB.out.trans (hb.mono HB.out.size))
        replace HA := Lib.hid (HA.out.next hb)
        replace HO3 := Lib.hid (HO3.out.next hb)
        replace HV5 := Lib.hid (HV5.out.next hb)
        replace HV1 := Lib.hid (HV1.out.next hb)
        replace HR1 := Lib.hid (HR1.out.next hb)
        clear rp10 rp11 rp12 rp13 rp14 rp15 vq1 lq1 vq5 lq5 hc hb
        obtain ⟨rs10, rs11, rs12, rs13, rs14, rs15⟩ := HR1.out.var.cells
        have hd := HR1.out.res.data.len
        have hn := HR1.out.res.names.len
        have hnm := HR1.out.res.nam
        have k2 := HK2.out
        have z1 : dn1 = 0 := by rw [← hd, k2]; rfl
        have z2 : nn1 = 0 := by rw [← hn]; have h9 := congrArg List.length hnm; rw [List.length_map, k2] at h9; exact h9
        have z3 : D1.2.k = 0 := by rw [k2]; rfl
        have z4 : D1.2.l = 0 := by rw [k2]; rfl
        have z5 : D1.2.sz = 0 := by rw [k2]; rfl
        rw [z1] at rs11
        rw [z2] at rs12
        rw [z3] at rs13
        rw [z4] at rs14
        rw [z5] at rs15
        clear hd hn hnm k2 z1 z2 z3 z4 z5
        go_wp2_with (fail)
        go_ret
        exact ⟨rfl, HB.out⟩
end
end Go.Proofs.YtinholnidchblaaGreatDoor
