/-
  TreeLinks: the walk.
-/
import Derived.Test.YtinholnidchblaaGreatDoorQar
set_option linter.unusedVariables false
set_option linter.unusedSimpArgs false
namespace Go.Proofs.YtinholnidchblaaGreatDoor
open Go.RowKit
set_option linter.unusedVariables false
set_option linter.unusedSimpArgs false

section
variable {w : World} {a : Option Addr} {n c : Nat} {f : Nat → Oc}
set_option maxRecDepth 100000 in
set_option maxHeartbeats 16000000 in
theorem treeLinks_any (h : Ops w a n f) (s u : ByteArray) (hs : s.size ≤ 9223372036854775807) (hu : u.size ≤ 9223372036854775807) (da : Option Addr) (dn dc : Nat) (z : List Int) (hz : Pin w da dn dc z) : Calls Tryz.prog 12 #[.slice a n c, .string s, .string u, .slice da dn dc] w fun e w' => e = .returned (.bool true) ∧ Below w.heap.size w w' := by
  have HB : Hid (Below w.heap.size w w) := Lib.hid (Below.refl _ _)
  have HA := Lib.hid h
  clear h
  have HZ := Lib.hid hz
  have hdn : dn ≤ 9223372036854775807 := Nat.le_trans hz.cap hz.max
  clear hz
  have hc := alive_any w
  go_enter Tryz.func12, Tryz.ntmps12
  go_wp2_with (fail)
  refine hc.mono ?_
  rintro e w91 ⟨rfl, hb⟩
  replace HB := Lib.hid (HB.out.trans (hb.mono HB.out.size))
  replace HA := Lib.hid (HA.out.next hb)
  replace HZ := Lib.hid (HZ.out.next hb)
  clear hc hb
  have hc := made_any (c := c) HA.out
  go_wp2_with (fail)
  refine hc.mono ?_
  rintro e w92 ⟨L, aL, cL, ok, rfl, hT, hb⟩
  replace HB := Lib.hid (HB.out.trans (hb.mono HB.out.size))
  replace HA := Lib.hid (HA.out.next hb)
  replace HZ := Lib.hid (HZ.out.next hb)
  clear hc hb
  obtain ⟨w93, x9, hw, hx, hV, hb⟩ := new_tr hT
  have HL9 := Lib.hid (show w.heap.size ≤ x9 by rw [hx]; exact HB.out.size)
  replace HB := Lib.hid (HB.out.trans (hb.mono HB.out.size))
  replace HA := Lib.hid (HA.out.next hb)
  replace HZ := Lib.hid (HZ.out.next hb)
  have HV9 := Lib.hid hV
  have HW9 := Lib.hid hw
  have HX9 := Lib.hid hx
  have HRG := Lib.hid hV.tv.rgt
  clear hT hw hx hV hb
  cases ok with
  | false =>
    go_wp2_with (fail)
    rw [← HX9.out, ← HW9.out]
    go_ret
    exact ⟨rfl, HB.out⟩
  | true =>
    by_cases hq : 1000 < s.size
    · have hq2 : (1000 : Int) < (s.size : Int) := by omega
      clear hq
      go_wp2_with (fail)
      rw [← HX9.out, ← HW9.out]
      go_ret
      exact ⟨rfl, HB.out⟩
    have hn0 : ¬ (1000 : Int) < (s.size : Int) := by omega
    clear hq
    by_cases hq : 1000 < u.size
    · have hq2 : (1000 : Int) < (u.size : Int) := by omega
      clear hq
      go_wp2_with (fail)
      rw [← HX9.out, ← HW9.out]
      go_ret
      exact ⟨rfl, HB.out⟩
    have hn1 : ¬ (1000 : Int) < (u.size : Int) := by omega
    clear hq
    by_cases hq : 1000 < dn
    · have hq2 : (1000 : Int) < (dn : Int) := by omega
      clear hq
      go_wp2_with (fail)
      rw [← HX9.out, ← HW9.out]
      go_ret
      exact ⟨rfl, HB.out⟩
    have hn2 : ¬ (1000 : Int) < (dn : Int) := by omega
    clear hq
    have HC : Hid (s.size ≤ 1000 ∧ u.size ≤ 1000 ∧ dn ≤ 1000 ∧ z.length = dn) := Lib.hid (by have := HZ.out.len; omega)
    have HPL := Lib.hid (fun D1 D2 D3 D4 D5 e1 e2 e3 e4 e5 => links_plain HRG.out (p := s) (q := u) (r := ⟨#[]⟩) (z := z) (by have := HC.out; omega) (D1 := D1) (D2 := D2) (D3 := D3) (D4 := D4) (D5 := D5) e1 e2 e3 e4 e5)
    have hc := doT HV9.out.tv 10 0 0 s (⟨#[]⟩ : ByteArray) none 0 0 [] (by have := HC.out; omega) (by decide) (by decide) (by decide) (Pin.zero _)
    obtain ⟨D1, hD⟩ : ∃ D, D = doO L 10 (nms s) (nms (⟨#[]⟩ : ByteArray)) 0 0 [] := ⟨_, rfl⟩
    rw [← hD] at hc
    have HD1 := Lib.hid hD
    clear hD
    go_wp2_with (fail)
    rw [← HX9.out, ← HW9.out]
    refine hc.mono ?_
    rintro e w1 ⟨a1, c1, da1, dn1, dc1, na1, nn1, nc1, Ls1, rfl, hT, hS, hb⟩
    replace HB := Lib.hid (HB.out.trans (hb.mono HB.out.size))
    replace HA := Lib.hid (HA.out.next hb)
    replace HZ := Lib.hid (HZ.out.next hb)
    replace HV9 := Lib.hid (HV9.out.next hb)
    clear hn0 hn1 hn2 hc hb
    have oV9 := HV9.out.var.cell
    have olV9 := lt_of_block HV9.out.var
    obtain ⟨w1s, x1, y1, hw, hx, hy, hV, hR, hb⟩ := new_tr_rs hT hS
    have HL1 := Lib.hid (show w.heap.size ≤ x1 by rw [hx]; exact HB.out.size)
    replace HB := Lib.hid (HB.out.trans (hb.mono HB.out.size))
    replace HA := Lib.hid (HA.out.next hb)
    replace HZ := Lib.hid (HZ.out.next hb)
    replace HV9 := Lib.hid (HV9.out.next hb)
    have HV1 := Lib.hid hV
    have HR1 := Lib.hid hR
    have HW1 := Lib.hid hw
    have HX1 := Lib.hid hx
    have HY1 := Lib.hid hy
    clear hT hS hw hx hy hV hR hb
    unfold resW
    have hc := doT HV9.out.tv 3 0 0 s u none 0 0 [] (by have := HC.out; omega) (by have := HC.out; omega) (by decide) (by decide) (Pin.zero _)
    obtain ⟨D2, hD⟩ : ∃ D, D = doO L 3 (nms s) (nms u) 0 0 [] := ⟨_, rfl⟩
    rw [← hD] at hc
    have HD2 := Lib.hid hD
    clear hD
    go_wp2_with (fail)
    rw [← HY1.out, ← HX1.out, ← HW1.out]
    refine hc.mono ?_
    rintro e w2 ⟨a2, c2, da2, dn2, dc2, na2, nn2, nc2, Ls2, rfl, hT, hS, hb⟩
    replace HB := Lib.hid (HB.out.trans (hb.mono HB.out.size))
    replace HA := Lib.hid (HA.out.next hb)
    replace HZ := Lib.hid (HZ.out.next hb)
    replace HV9 := Lib.hid (HV9.out.next hb)
    replace HV1 := Lib.hid (HV1.out.next hb)
    replace HR1 := Lib.hid (HR1.out.next hb)
    clear oV9 olV9 hc hb
    have oV9 := HV9.out.var.cell
    have olV9 := lt_of_block HV9.out.var
    obtain ⟨w2s, x2, y2, hw, hx, hy, hV, hR, hb⟩ := new_tr_rs hT hS
    have HL2 := Lib.hid (show w.heap.size ≤ x2 by rw [hx]; exact HB.out.size)
    replace HB := Lib.hid (HB.out.trans (hb.mono HB.out.size))
    replace HA := Lib.hid (HA.out.next hb)
    replace HZ := Lib.hid (HZ.out.next hb)
    replace HV9 := Lib.hid (HV9.out.next hb)
    replace HV1 := Lib.hid (HV1.out.next hb)
    replace HR1 := Lib.hid (HR1.out.next hb)
    have HV2 := Lib.hid hV
    have HR2 := Lib.hid hR
    have HW2 := Lib.hid hw
    have HX2 := Lib.hid hx
    have HY2 := Lib.hid hy
    clear hT hS hw hx hy hV hR hb
    unfold resW
    by_cases he : D2.2.err = 0
    · have HE := Lib.hid he
      have he2 : (D2.2.err != 0) = false := by simpa using he
      clear he
      have hc := doT HV2.out.tv 10 0 0 u (⟨#[]⟩ : ByteArray) none 0 0 [] (by have := HC.out; omega) (by decide) (by decide) (by decide) (Pin.zero _)
      obtain ⟨D3, hD⟩ : ∃ D, D = doO D2.1 10 (nms u) (nms (⟨#[]⟩ : ByteArray)) 0 0 [] := ⟨_, rfl⟩
      rw [← hD] at hc
      have HD3 := Lib.hid hD
      clear hD
      go_wp2_with (fail)
      rw [← HY2.out, ← HX2.out, ← HW2.out]
      refine hc.mono ?_
      rintro e w3 ⟨a3, c3, da3, dn3, dc3, na3, nn3, nc3, Ls3, rfl, hT, hS, hb⟩
      replace HB := Lib.hid (HB.out.trans (hb.mono HB.out.size))
      replace HA := Lib.hid (HA.out.next hb)
      replace HZ := Lib.hid (HZ.out.next hb)
      replace HV9 := Lib.hid (HV9.out.next hb)
      replace HV1 := Lib.hid (HV1.out.next hb)
      replace HR1 := Lib.hid (HR1.out.next hb)
      replace HV2 := Lib.hid (HV2.out.next hb)
      replace HR2 := Lib.hid (HR2.out.next hb)
      clear oV9 olV9 he2 hc hb
      have oV2 := HV2.out.var.cell
      have olV2 := lt_of_block HV2.out.var
      obtain ⟨w3s, x3, y3, hw, hx, hy, hV, hR, hb⟩ := new_tr_rs hT hS
      have HL3 := Lib.hid (show w.heap.size ≤ x3 by rw [hx]; exact HB.out.size)
      replace HB := Lib.hid (HB.out.trans (hb.mono HB.out.size))
      replace HA := Lib.hid (HA.out.next hb)
      replace HZ := Lib.hid (HZ.out.next hb)
      replace HV9 := Lib.hid (HV9.out.next hb)
      replace HV1 := Lib.hid (HV1.out.next hb)
      replace HR1 := Lib.hid (HR1.out.next hb)
      replace HV2 := Lib.hid (HV2.out.next hb)
      replace HR2 := Lib.hid (HR2.out.next hb)
      have HV3 := Lib.hid hV
      have HR3 := Lib.hid hR
      have HW3 := Lib.hid hw
      have HX3 := Lib.hid hx
      have HY3 := Lib.hid hy
      clear hT hS hw hx hy hV hR hb
      unfold resW
      have hc := doT HV2.out.tv 8 0 0 u (⟨#[]⟩ : ByteArray) da dn dc z (by have := HC.out; omega) (by decide) (by decide) (by decide) HZ.out
      obtain ⟨D4, hD⟩ : ∃ D, D = doO D2.1 8 (nms u) (nms (⟨#[]⟩ : ByteArray)) 0 0 z := ⟨_, rfl⟩
      rw [← hD] at hc
      have HD4 := Lib.hid hD
      clear hD
      go_wp2_with (fail)
      rw [← HY3.out, ← HX3.out, ← HW3.out]
      refine hc.mono ?_
      rintro e w4 ⟨a4, c4, da4, dn4, dc4, na4, nn4, nc4, Ls4, rfl, hT, hS, hb⟩
      replace HB := Lib.hid (HB.out.trans (hb.mono HB.out.size))
      replace HA := Lib.hid (HA.out.next hb)
      replace HZ := Lib.hid (HZ.out.next hb)
      replace HV9 := Lib.hid (HV9.out.next hb)
      replace HV1 := Lib.hid (HV1.out.next hb)
      replace HR1 := Lib.hid (HR1.out.next hb)
      replace HV2 := Lib.hid (HV2.out.next hb)
      replace HR2 := Lib.hid (HR2.out.next hb)
      replace HV3 := Lib.hid (HV3.out.next hb)
      replace HR3 := Lib.hid (HR3.out.next hb)
      clear oV2 olV2 hc hb
      obtain ⟨w4s, x4, y4, hw, hx, hy, hV, hR, hb⟩ := new_tr_rs hT hS
      have HL4 := Lib.hid (show w.heap.size ≤ x4 by rw [hx]; exact HB.out.size)
      replace HB := Lib.hid (HB.out.trans (hb.mono HB.out.size))
      replace HA := Lib.hid (HA.out.next hb)
      replace HZ := Lib.hid (HZ.out.next hb)
      replace HV9 := Lib.hid (HV9.out.next hb)
      replace HV1 := Lib.hid (HV1.out.next hb)
      replace HR1 := Lib.hid (HR1.out.next hb)
      replace HV2 := Lib.hid (HV2.out.next hb)
      replace HR2 := Lib.hid (HR2.out.next hb)
      replace HV3 := Lib.hid (HV3.out.next hb)
      replace HR3 := Lib.hid (HR3.out.next hb)
      have HV4 := Lib.hid hV
      have HR4 := Lib.hid hR
      have HW4 := Lib.hid hw
      have HX4 := Lib.hid hx
      have HY4 := Lib.hid hy
      clear hT hS hw hx hy hV hR hb
      unfold resW
      have hc := doT HV4.out.tv 7 0 (dn : Int) s (⟨#[]⟩ : ByteArray) none 0 0 [] (by have := HC.out; omega) (by decide) (by decide) (by have := HC.out; omega) (Pin.zero _)
      obtain ⟨D5, hD⟩ : ∃ D, D = doO D4.1 7 (nms s) (nms (⟨#[]⟩ : ByteArray)) 0 (dn : Int) [] := ⟨_, rfl⟩
      rw [← hD] at hc
      have HD5 := Lib.hid hD
      clear hD
      go_wp2_with (fail)
      rw [← HY4.out, ← HX4.out, ← HW4.out]
      refine hc.mono ?_
      rintro e w5 ⟨a5, c5, da5, dn5, dc5, na5, nn5, nc5, Ls5, rfl, hT, hS, hb⟩
      replace HB := Lib.hid (HB.out.trans (hb.mono HB.out.size))
      replace HA := Lib.hid (HA.out.next hb)
      replace HZ := Lib.hid (HZ.out.next hb)
      replace HV9 := Lib.hid (HV9.out.next hb)
      replace HV1 := Lib.hid (HV1.out.next hb)
      replace HR1 := Lib.hid (HR1.out.next hb)
      replace HV2 := Lib.hid (HV2.out.next hb)
      replace HR2 := Lib.hid (HR2.out.next hb)
      replace HV3 := Lib.hid (HV3.out.next hb)
      replace HR3 := Lib.hid (HR3.out.next hb)
      replace HV4 := Lib.hid (HV4.out.next hb)
      replace HR4 := Lib.hid (HR4.out.next hb)
      clear hc hb
      obtain ⟨oR10, oR11, oR12, oR13, oR14, oR15⟩ := HR1.out.var.cells
      have olR1 := HR1.out.var.lt
      obtain ⟨oR30, oR31, oR32, oR33, oR34, oR35⟩ := HR3.out.var.cells
      have olR3 := HR3.out.var.lt
      obtain ⟨oR40, oR41, oR42, oR43, oR44, oR45⟩ := HR4.out.var.cells
      have olR4 := HR4.out.var.lt
      obtain ⟨w5s, x5, y5, hw, hx, hy, hV, hR, hb⟩ := new_tr_rs hT hS
      have HL5 := Lib.hid (show w.heap.size ≤ x5 by rw [hx]; exact HB.out.size)
      replace HB := Lib.hid (HB.out.trans (hb.mono HB.out.size))
      replace HA := Lib.hid (HA.out.next hb)
      replace HZ := Lib.hid (HZ.out.next hb)
      replace HV9 := Lib.hid (HV9.out.next hb)
      replace HV1 := Lib.hid (HV1.out.next hb)
      replace HR1 := Lib.hid (HR1.out.next hb)
      replace HV2 := Lib.hid (HV2.out.next hb)
      replace HR2 := Lib.hid (HR2.out.next hb)
      replace HV3 := Lib.hid (HV3.out.next hb)
      replace HR3 := Lib.hid (HR3.out.next hb)
      replace HV4 := Lib.hid (HV4.out.next hb)
      replace HR4 := Lib.hid (HR4.out.next hb)
      have HV5 := Lib.hid hV
      have HR5 := Lib.hid hR
      have HW5 := Lib.hid hw
      have HX5 := Lib.hid hx
      have HY5 := Lib.hid hy
      clear hT hS hw hx hy hV hR hb
      unfold resW
      obtain ⟨p1, p2, p3, p4, p5⟩ := HPL.out D1 D2 D3 D4 D5 HD1.out HD2.out HD3.out HD4.out (by rw [HC.out.2.2.2]; exact HD5.out) HE.out
      have u1 : wrap64 (D1.2.l + 1) = D1.2.l + 1 := IntWalk.wrap64_in _ (by omega)
      have hc := same_any da5 da dn5 dc5 dn dc D5.2.d z w5s HR5.out.res.data.bys HZ.out.bys (by have := HC.out; have := HR5.out.res.data.len; rw [p3] at this; omega)
      rw [p3, sameB_true rfl] at hc
      rw [p1] at oR34
      rw [p2] at oR40
      clear p1 p2 p3 p4 p5
      go_wp2_with (fail)
      rw [← HY5.out, ← HX5.out, ← HW5.out]
      refine hc.mono ?_
      rintro e w7 ⟨rfl, qd, rfl⟩
      replace HB := Lib.hid (below_drewN HB.out qd)
      clear hc
      go_wp2_with (fail)
      go_ret
      exact ⟨rfl, HB.out⟩
    · obtain ⟨k1, -⟩ := lp_bad HRG.out HD2.out he
      have he2 : (D2.2.err != 0) = true := by simpa using he
      have hc := sameT2 HV9.out.tv HV2.out.tv
      rw [decide_eq_true k1.symm] at hc
      clear he k1
      go_wp2_with (fail)
      rw [← HY2.out, ← HX2.out, ← HW2.out]
      refine hc.mono ?_
      rintro e w9 ⟨rfl, hb⟩
      replace HB := Lib.hid (HB.out.trans (hb.mono HB.out.size))
      replace HA := Lib.hid (HA.out.next hb)
      replace HZ := Lib.hid (HZ.out.next hb)
      replace HV9 := Lib.hid (HV9.out.next hb)
      replace HV1 := Lib.hid (HV1.out.next hb)
      replace HR1 := Lib.hid (HR1.out.next hb)
      replace HV2 := Lib.hid (HV2.out.next hb)
      replace HR2 := Lib.hid (HR2.out.next hb)
      clear oV9 olV9 hc hb
      go_wp2_with (fail)
      go_ret
      exact ⟨rfl, HB.out⟩
end
end Go.Proofs.YtinholnidchblaaGreatDoor
