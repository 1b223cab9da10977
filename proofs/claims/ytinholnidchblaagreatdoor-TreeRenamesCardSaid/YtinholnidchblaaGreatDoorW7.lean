/-
  TreeRenames: the walk.
-/
import Derived.Test.YtinholnidchblaaGreatDoorQar
set_option linter.unusedVariables false
set_option linter.unusedSimpArgs false
namespace Go.Proofs.YtinholnidchblaaGreatDoor
open Go.RowKit
set_option linter.unusedVariables false
set_option linter.unusedSimpArgs false

section
variable {w : World} {a : Option Addr} {n c : Nat} {f : Nat → Oc}
set_option maxRecDepth 100000 in
set_option maxHeartbeats 16000000 in
theorem treeRenames_any (h : Ops w a n f) (s u : ByteArray) (hs : s.size ≤ 9223372036854775807) (hu : u.size ≤ 9223372036854775807) : Calls Tryz.prog 7 #[.slice a n c, .string s, .string u] w fun e w' => e = .returned (.bool true) ∧ Below w.heap.size w w' := by
  have HB : Hid (Below w.heap.size w w) := Lib.hid (Below.refl _ _)
  have HA := Lib.hid h
  clear h
  have hc := alive_any w
  go_enter Tryz.func7, Tryz.ntmps7
  go_wp2_with (fail)
  refine hc.mono ?_
  rintro e w91 ⟨rfl, hb⟩
  replace HB := Lib.hid (HB.out.trans (hb.mono HB.out.size))
  replace HA := Lib.hid (HA.out.next hb)
  clear hc hb
  have hc := made_any (c := c) HA.out
  go_wp2_with (fail)
  refine hc.mono ?_
  rintro e w92 ⟨L, aL, cL, ok, rfl, hT, hb⟩
  replace HB := Lib.hid (HB.out.trans (hb.mono HB.out.size))
  replace HA := Lib.hid (HA.out.next hb)
  clear hc hb
  obtain ⟨w93, x9, hw, hx, hV, hb⟩ := new_tr hT
  have HL9 := Lib.hid (show w.heap.size ≤ x9 by rw [hx]; exact HB.out.size)
  replace HB := Lib.hid (HB.out.trans (hb.mono HB.out.size))
  replace HA := Lib.hid (HA.out.next hb)
  have HV9 := Lib.hid hV
  have HW9 := Lib.hid hw
  have HX9 := Lib.hid hx
  have HRG := Lib.hid hV.tv.rgt
  clear hT hw hx hV hb
  obtain ⟨wo3, o3, hw, hx, hO, hb⟩ := new_opc w93 6 0 0 s u none 0 0
  have hx2 : o3 = w92.heap.size + 1 := by rw [hx, HW9.out]; simp
  replace HB := Lib.hid (HB.out.trans (hb.mono HB.out.size))
  replace HA := Lib.hid (HA.out.next hb)
  replace HV9 := Lib.hid (HV9.out.next hb)
  have HQ3 := Lib.hid hO
  have HWo3 := Lib.hid hw
  have HXo3 := Lib.hid hx2
  clear hw hx hx2 hO hb
  cases ok with
  | false =>
    go_wp2_with (fail)
    rw [← HXo3.out, ← HX9.out, ← HW9.out, ← HWo3.out]
    go_ret
    exact ⟨rfl, HB.out⟩
  | true =>
    have hc := long_any wo3 6 0 0 s u none 0 0 hs hu (by omega)
    go_wp2_with (fail)
    rw [← HXo3.out, ← HX9.out, ← HW9.out, ← HWo3.out]
    refine hc.mono ?_
    rintro e w94 ⟨lb, rfl, hlb, hb⟩
    replace HB := Lib.hid (HB.out.trans (hb.mono HB.out.size))
    replace HA := Lib.hid (HA.out.next hb)
    replace HV9 := Lib.hid (HV9.out.next hb)
    replace HQ3 := Lib.hid (HQ3.out.next hb)
    clear hc hb
    cases lb with
    | true =>
      go_wp2_with (fail)
      go_ret
      exact ⟨rfl, HB.out⟩
    | false =>
      have HC : Hid (s.size ≤ 1000 ∧ u.size ≤ 1000) := Lib.hid (by have h7 := hlb rfl; omega)
      clear hlb
      have HPL := Lib.hid (fun D1 D2 D3 D4 D5 F1 F2 F3 e1 e2 f1 f2 e3 e4 e5 f3 => renames_plain HRG.out (p := s) (q := u) (r := ⟨#[]⟩) (D1 := D1) (D2 := D2) (D3 := D3) (D4 := D4) (D5 := D5) (F1 := F1) (F2 := F2) (F3 := F3) e1 e2 f1 f2 e3 e4 e5 f3)
      have va := HV9.out.var.cell
      have la := HV9.out.var.load
      have hc := doT HV9.out.tv 10 0 0 s (⟨#[]⟩ : ByteArray) none 0 0 [] (by have := HC.out; omega) (by decide) (by decide) (by decide) (Pin.zero _)
      obtain ⟨D1, hD⟩ : ∃ D, D = doO L 10 (nms s) (nms (⟨#[]⟩ : ByteArray)) 0 0 [] := ⟨_, rfl⟩
      rw [← hD] at hc
      have HD1 := Lib.hid hD
      clear hD
      go_wp2_with (fail)
      refine hc.mono ?_
      rintro e w1 ⟨a1, c1, da1, dn1, dc1, na1, nn1, nc1, Ls1, rfl, hT, hS, hb⟩
      replace HB := Lib.hid (HB.out.trans (hb.mono HB.out.size))
      replace HA := Lib.hid (HA.out.next hb)
      replace HV9 := Lib.hid (HV9.out.next hb)
      replace HQ3 := Lib.hid (HQ3.out.next hb)
      clear va la hc hb
      have oV9 := HV9.out.var.cell
      have olV9 := lt_of_block HV9.out.var
      obtain ⟨w1s, x1, y1, hw, hx, hy, hV, hR, hb⟩ := new_tr_rs hT hS
      have HL1 := Lib.hid (show w.heap.size ≤ x1 by rw [hx]; exact HB.out.size)
      replace HB := Lib.hid (HB.out.trans (hb.mono HB.out.size))
      replace HA := Lib.hid (HA.out.next hb)
      replace HV9 := Lib.hid (HV9.out.next hb)
      replace HQ3 := Lib.hid (HQ3.out.next hb)
      have HV1 := Lib.hid hV
      have HR1 := Lib.hid hR
      have HW1 := Lib.hid hw
      have HX1 := Lib.hid hx
      have HY1 := Lib.hid hy
      clear hT hS hw hx hy hV hR hb
      unfold resW
      have hc := doT HV9.out.tv 7 0 100000 s (⟨#[]⟩ : ByteArray) none 0 0 [] (by have := HC.out; omega) (by decide) (by decide) (by decide) (Pin.zero _)
      obtain ⟨D2, hD⟩ : ∃ D, D = doO L 7 (nms s) (nms (⟨#[]⟩ : ByteArray)) 0 100000 [] := ⟨_, rfl⟩
      rw [← hD] at hc
      have HD2 := Lib.hid hD
      clear hD
      go_wp2_with (fail)
      rw [← HY1.out, ← HX1.out, ← HW1.out]
      refine hc.mono ?_
      rintro e w2 ⟨a2, c2, da2, dn2, dc2, na2, nn2, nc2, Ls2, rfl, hT, hS, hb⟩
      replace HB := Lib.hid (HB.out.trans (hb.mono HB.out.size))
      replace HA := Lib.hid (HA.out.next hb)
      replace HV9 := Lib.hid (HV9.out.next hb)
      replace HQ3 := Lib.hid (HQ3.out.next hb)
      replace HV1 := Lib.hid (HV1.out.next hb)
      replace HR1 := Lib.hid (HR1.out.next hb)
      clear oV9 olV9 hc hb
      have oV9 := HV9.out.var.cell
      have olV9 := lt_of_block HV9.out.var
      obtain ⟨w2s, x2, y2, hw, hx, hy, hV, hR, hb⟩ := new_tr_rs hT hS
      have HL2 := Lib.hid (show w.heap.size ≤ x2 by rw [hx]; exact HB.out.size)
      replace HB := Lib.hid (HB.out.trans (hb.mono HB.out.size))
      replace HA := Lib.hid (HA.out.next hb)
      replace HV9 := Lib.hid (HV9.out.next hb)
      replace HQ3 := Lib.hid (HQ3.out.next hb)
      replace HV1 := Lib.hid (HV1.out.next hb)
      replace HR1 := Lib.hid (HR1.out.next hb)
      have HV2 := Lib.hid hV
      have HR2 := Lib.hid hR
      have HW2 := Lib.hid hw
      have HX2 := Lib.hid hx
      have HY2 := Lib.hid hy
      clear hT hS hw hx hy hV hR hb
      unfold resW
      have hc := findT HV9.out.tv s (by have := HC.out; omega)
      obtain ⟨F3, hF⟩ : ∃ F, F = fiO L (nms s) := ⟨_, rfl⟩
      rw [← hF] at hc
      have HF3 := Lib.hid hF
      clear hF
      go_wp2_with (fail)
      rw [← HY2.out, ← HX2.out, ← HW2.out]
      refine hc.mono ?_
      rintro e w3 ⟨rfl, hb⟩
      replace HB := Lib.hid (HB.out.trans (hb.mono HB.out.size))
      replace HA := Lib.hid (HA.out.next hb)
      replace HV9 := Lib.hid (HV9.out.next hb)
      replace HQ3 := Lib.hid (HQ3.out.next hb)
      replace HV1 := Lib.hid (HV1.out.next hb)
      replace HR1 := Lib.hid (HR1.out.next hb)
      replace HV2 := Lib.hid (HV2.out.next hb)
      replace HR2 := Lib.hid (HR2.out.next hb)
      clear oV9 olV9 hc hb
      have vb := HV9.out.var.cell
      have lb := HV9.out.var.load
      have hc := findT HV9.out.tv u (by have := HC.out; omega)
      obtain ⟨F4, hF⟩ : ∃ F, F = fiO L (nms u) := ⟨_, rfl⟩
      rw [← hF] at hc
      have HF4 := Lib.hid hF
      clear hF
      go_wp2_with (fail)
      refine hc.mono ?_
      rintro e w4 ⟨rfl, hb⟩
      replace HB := Lib.hid (HB.out.trans (hb.mono HB.out.size))
      replace HA := Lib.hid (HA.out.next hb)
      replace HV9 := Lib.hid (HV9.out.next hb)
      replace HQ3 := Lib.hid (HQ3.out.next hb)
      replace HV1 := Lib.hid (HV1.out.next hb)
      replace HR1 := Lib.hid (HR1.out.next hb)
      replace HV2 := Lib.hid (HV2.out.next hb)
      replace HR2 := Lib.hid (HR2.out.next hb)
      clear vb lb hc hb
      cases hs1 : (F4.2 == 0) with
      | false =>
        have vc := HV9.out.var.cell
        have lc := HV9.out.var.load
        obtain ⟨oQ30, oQ31, oQ32, oQ33, oQ34, oQ35⟩ := HQ3.out.cells
        have olQ3 := lt_of_block HQ3.out
        have omQ3 := HQ3.out.load
        have hc := doT HV9.out.tv 6 0 0 s u none 0 0 [] (by have := HC.out; omega) (by have := HC.out; omega) (by decide) (by decide) (Pin.zero _)
        obtain ⟨D5, hD⟩ : ∃ D, D = doO L 6 (nms s) (nms u) 0 0 [] := ⟨_, rfl⟩
        rw [← hD] at hc
        have HD5 := Lib.hid hD
        clear hD
        go_wp2_with (fail)
        refine hc.mono ?_
        rintro e w5 ⟨a5, c5, da5, dn5, dc5, na5, nn5, nc5, Ls5, rfl, hT, hS, hb⟩
        replace HB := Lib.hid (HB.out.trans (hb.mono HB.out.size))
        replace HA := Lib.hid (HA.out.next hb)
        replace HV9 := Lib.hid (HV9.out.next hb)
        replace HQ3 := Lib.hid (HQ3.out.next hb)
        replace HV1 := Lib.hid (HV1.out.next hb)
        replace HR1 := Lib.hid (HR1.out.next hb)
        replace HV2 := Lib.hid (HV2.out.next hb)
        replace HR2 := Lib.hid (HR2.out.next hb)
        clear vc lc oQ30 oQ31 oQ32 oQ33 oQ34 oQ35 olQ3 omQ3 hc hb
        obtain ⟨w5s, x5, y5, hw, hx, hy, hV, hR, hb⟩ := new_tr_rs hT hS
        have HL5 := Lib.hid (show w.heap.size ≤ x5 by rw [hx]; exact HB.out.size)
        replace HB := Lib.hid (HB.out.trans (hb.mono HB.out.size))
        replace HA := Lib.hid (HA.out.next hb)
        replace HV9 := Lib.hid (HV9.out.next hb)
        replace HQ3 := Lib.hid (HQ3.out.next hb)
        replace HV1 := Lib.hid (HV1.out.next hb)
        replace HR1 := Lib.hid (HR1.out.next hb)
        replace HV2 := Lib.hid (HV2.out.next hb)
        replace HR2 := Lib.hid (HR2.out.next hb)
        have HV5 := Lib.hid hV
        have HR5 := Lib.hid hR
        have HW5 := Lib.hid hw
        have HX5 := Lib.hid hx
        have HY5 := Lib.hid hy
        clear hT hS hw hx hy hV hR hb
        unfold resW
        by_cases he : D5.2.err = 0
        · have HE := Lib.hid he
          have he2 : (D5.2.err != 0) = false := by simpa using he
          clear he
          have hc := doT HV5.out.tv 10 0 0 u (⟨#[]⟩ : ByteArray) none 0 0 [] (by have := HC.out; omega) (by decide) (by decide) (by decide) (Pin.zero _)
          obtain ⟨D6, hD⟩ : ∃ D, D = doO D5.1 10 (nms u) (nms (⟨#[]⟩ : ByteArray)) 0 0 [] := ⟨_, rfl⟩
          rw [← hD] at hc
          have HD6 := Lib.hid hD
          clear hD
          go_wp2_with (fail)
          rw [← HY5.out, ← HX5.out, ← HW5.out]
          refine hc.mono ?_
          rintro e w6 ⟨a6, c6, da6, dn6, dc6, na6, nn6, nc6, Ls6, rfl, hT, hS, hb⟩
          replace HB := Lib.hid (HB.out.trans (hb.mono HB.out.size))
          replace HA := Lib.hid (HA.out.next hb)
          replace HV9 := Lib.hid (HV9.out.next hb)
          replace HQ3 := Lib.hid (HQ3.out.next hb)
          replace HV1 := Lib.hid (HV1.out.next hb)
          replace HR1 := Lib.hid (HR1.out.next hb)
          replace HV2 := Lib.hid (HV2.out.next hb)
          replace HR2 := Lib.hid (HR2.out.next hb)
          replace HV5 := Lib.hid (HV5.out.next hb)
          replace HR5 := Lib.hid (HR5.out.next hb)
          clear he2 hc hb
          have oV5 := HV5.out.var.cell
          have olV5 := lt_of_block HV5.out.var
          obtain ⟨w6s, x6, y6, hw, hx, hy, hV, hR, hb⟩ := new_tr_rs hT hS
          have HL6 := Lib.hid (show w.heap.size ≤ x6 by rw [hx]; exact HB.out.size)
          replace HB := Lib.hid (HB.out.trans (hb.mono HB.out.size))
          replace HA := Lib.hid (HA.out.next hb)
          replace HV9 := Lib.hid (HV9.out.next hb)
          replace HQ3 := Lib.hid (HQ3.out.next hb)
          replace HV1 := Lib.hid (HV1.out.next hb)
          replace HR1 := Lib.hid (HR1.out.next hb)
          replace HV2 := Lib.hid (HV2.out.next hb)
          replace HR2 := Lib.hid (HR2.out.next hb)
          replace HV5 := Lib.hid (HV5.out.next hb)
          replace HR5 := Lib.hid (HR5.out.next hb)
          have HV6 := Lib.hid hV
          have HR6 := Lib.hid hR
          have HW6 := Lib.hid hw
          have HX6 := Lib.hid hx
          have HY6 := Lib.hid hy
          clear hT hS hw hx hy hV hR hb
          unfold resW
          have hc := doT HV5.out.tv 7 0 100000 u (⟨#[]⟩ : ByteArray) none 0 0 [] (by have := HC.out; omega) (by decide) (by decide) (by decide) (Pin.zero _)
          obtain ⟨D7, hD⟩ : ∃ D, D = doO D5.1 7 (nms u) (nms (⟨#[]⟩ : ByteArray)) 0 100000 [] := ⟨_, rfl⟩
          rw [← hD] at hc
          have HD7 := Lib.hid hD
          clear hD
          go_wp2_with (fail)
          rw [← HY6.out, ← HX6.out, ← HW6.out]
          refine hc.mono ?_
          rintro e w7 ⟨a7, c7, da7, dn7, dc7, na7, nn7, nc7, Ls7, rfl, hT, hS, hb⟩
          replace HB := Lib.hid (HB.out.trans (hb.mono HB.out.size))
          replace HA := Lib.hid (HA.out.next hb)
          replace HV9 := Lib.hid (HV9.out.next hb)
          replace HQ3 := Lib.hid (HQ3.out.next hb)
          replace HV1 := Lib.hid (HV1.out.next hb)
          replace HR1 := Lib.hid (HR1.out.next hb)
          replace HV2 := Lib.hid (HV2.out.next hb)
          replace HR2 := Lib.hid (HR2.out.next hb)
          replace HV5 := Lib.hid (HV5.out.next hb)
          replace HR5 := Lib.hid (HR5.out.next hb)
          replace HV6 := Lib.hid (HV6.out.next hb)
          replace HR6 := Lib.hid (HR6.out.next hb)
          clear oV5 olV5 hc hb
          have oV5 := HV5.out.var.cell
          have olV5 := lt_of_block HV5.out.var
          obtain ⟨w7s, x7, y7, hw, hx, hy, hV, hR, hb⟩ := new_tr_rs hT hS
          have HL7 := Lib.hid (show w.heap.size ≤ x7 by rw [hx]; exact HB.out.size)
          replace HB := Lib.hid (HB.out.trans (hb.mono HB.out.size))
          replace HA := Lib.hid (HA.out.next hb)
          replace HV9 := Lib.hid (HV9.out.next hb)
          replace HQ3 := Lib.hid (HQ3.out.next hb)
          replace HV1 := Lib.hid (HV1.out.next hb)
          replace HR1 := Lib.hid (HR1.out.next hb)
          replace HV2 := Lib.hid (HV2.out.next hb)
          replace HR2 := Lib.hid (HR2.out.next hb)
          replace HV5 := Lib.hid (HV5.out.next hb)
          replace HR5 := Lib.hid (HR5.out.next hb)
          replace HV6 := Lib.hid (HV6.out.next hb)
          replace HR6 := Lib.hid (HR6.out.next hb)
          have HV7 := Lib.hid hV
          have HR7 := Lib.hid hR
          have HW7 := Lib.hid hw
          have HX7 := Lib.hid hx
          have HY7 := Lib.hid hy
          clear hT hS hw hx hy hV hR hb
          unfold resW
          have hc := findT HV5.out.tv s (by have := HC.out; omega)
          obtain ⟨F8, hF⟩ : ∃ F, F = fiO D5.1 (nms s) := ⟨_, rfl⟩
          rw [← hF] at hc
          have HF8 := Lib.hid hF
          clear hF
          go_wp2_with (fail)
          rw [← HY7.out, ← HX7.out, ← HW7.out]
          refine hc.mono ?_
          rintro e w8 ⟨rfl, hb⟩
          replace HB := Lib.hid (HB.out.trans (hb.mono HB.out.size))
          replace HA := Lib.hid (HA.out.next hb)
          replace HV9 := Lib.hid (HV9.out.next hb)
          replace HQ3 := Lib.hid (HQ3.out.next hb)
          replace HV1 := Lib.hid (HV1.out.next hb)
          replace HR1 := Lib.hid (HR1.out.next hb)
          replace HV2 := Lib.hid (HV2.out.next hb)
          replace HR2 := Lib.hid (HR2.out.next hb)
          replace HV5 := Lib.hid (HV5.out.next hb)
          replace HR5 := Lib.hid (HR5.out.next hb)
          replace HV6 := Lib.hid (HV6.out.next hb)
          replace HR6 := Lib.hid (HR6.out.next hb)
          replace HV7 := Lib.hid (HV7.out.next hb)
          replace HR7 := Lib.hid (HR7.out.next hb)
          clear oV5 olV5 hc hb
          have HRN := Lib.hid (lp_right HRG.out HD5.out)
          obtain ⟨p1, p2, p3, p4⟩ := HPL.out D1 D2 D5 D6 D7 F3 F4 F8 HD1.out HD2.out HF3.out HF4.out HD5.out HD6.out HD7.out HF8.out HE.out
          have HP2 := Lib.hid p2
          have HP3 := Lib.hid p3
          have HP4 : Hid (F8.2 = 21) := Lib.hid (by rcases p4 with ⟨k1, _⟩ | ⟨_, k2⟩; exact absurd k1 (by simpa using hs1); exact k2)
          obtain ⟨rd10, rd11, rd12, rd13, rd14, rd15⟩ := HR1.out.var.cells
          obtain ⟨rd60, rd61, rd62, rd63, rd64, rd65⟩ := HR6.out.var.cells
          have hp1 : (D1.2.err != 0) = false := by simpa using p1
          clear p1 p2 p3 p4
          have hc := sameResult_any HR1.out.res HR6.out.res (lp_wide HRG.out HD1.out HR1.out.res).1 (lp_wide HRG.out HD1.out HR1.out.res).2 (lp_wide HRN.out HD6.out HR6.out.res).2
          rw [decide_eq_true HP2.out] at hc
          unfold resW at hc
          go_wp2_with (fail)
          refine hc.mono ?_
          rintro e w9 ⟨rfl, hb⟩
          replace HB := Lib.hid (HB.out.trans (hb.mono HB.out.size))
          replace HA := Lib.hid (HA.out.next hb)
          replace HV9 := Lib.hid (HV9.out.next hb)
          replace HQ3 := Lib.hid (HQ3.out.next hb)
          replace HV1 := Lib.hid (HV1.out.next hb)
          replace HR1 := Lib.hid (HR1.out.next hb)
          replace HV2 := Lib.hid (HV2.out.next hb)
          replace HR2 := Lib.hid (HR2.out.next hb)
          replace HV5 := Lib.hid (HV5.out.next hb)
          replace HR5 := Lib.hid (HR5.out.next hb)
          replace HV6 := Lib.hid (HV6.out.next hb)
          replace HR6 := Lib.hid (HR6.out.next hb)
          replace HV7 := Lib.hid (HV7.out.next hb)
          replace HR7 := Lib.hid (HR7.out.next hb)
          clear rd10 rd11 rd12 rd13 rd14 rd15 rd60 rd61 rd62 rd63 rd64 rd65 hc hb
          obtain ⟨re20, re21, re22, re23, re24, re25⟩ := HR2.out.var.cells
          obtain ⟨re70, re71, re72, re73, re74, re75⟩ := HR7.out.var.cells
          have hc := sameResult_any HR2.out.res HR7.out.res (lp_wide HRG.out HD2.out HR2.out.res).1 (lp_wide HRG.out HD2.out HR2.out.res).2 (lp_wide HRN.out HD7.out HR7.out.res).2
          rw [decide_eq_true HP3.out] at hc
          unfold resW at hc
          go_wp2_with (fail)
          refine hc.mono ?_
          rintro e w10 ⟨rfl, hb⟩
          replace HB := Lib.hid (HB.out.trans (hb.mono HB.out.size))
          replace HA := Lib.hid (HA.out.next hb)
          replace HV9 := Lib.hid (HV9.out.next hb)
          replace HQ3 := Lib.hid (HQ3.out.next hb)
          replace HV1 := Lib.hid (HV1.out.next hb)
          replace HR1 := Lib.hid (HR1.out.next hb)
          replace HV2 := Lib.hid (HV2.out.next hb)
          replace HR2 := Lib.hid (HR2.out.next hb)
          replace HV5 := Lib.hid (HV5.out.next hb)
          replace HR5 := Lib.hid (HR5.out.next hb)
          replace HV6 := Lib.hid (HV6.out.next hb)
          replace HR6 := Lib.hid (HR6.out.next hb)
          replace HV7 := Lib.hid (HV7.out.next hb)
          replace HR7 := Lib.hid (HR7.out.next hb)
          clear re20 re21 re22 re23 re24 re25 re70 re71 re72 re73 re74 re75 hc hb
          have h81 : (F8.2 == 21) = true := by simpa using HP4.out
          have h82 : (F8.2 == 0) = false := by have := HP4.out; simp [this]
          go_wp2_with (fail)
          go_ret
          exact ⟨rfl, HB.out⟩
        · have he2 : (D5.2.err != 0) = true := by simpa using he
          clear he
          go_wp2_with (fail)
          rw [← HY5.out, ← HX5.out, ← HW5.out]
          go_ret
          exact ⟨rfl, HB.out⟩
      | true =>
        cases hs2 : (F3.1 == F4.1) with
        | false =>
          have vc := HV9.out.var.cell
          have lc := HV9.out.var.load
          obtain ⟨oQ30, oQ31, oQ32, oQ33, oQ34, oQ35⟩ := HQ3.out.cells
          have olQ3 := lt_of_block HQ3.out
          have omQ3 := HQ3.out.load
          have hc := doT HV9.out.tv 6 0 0 s u none 0 0 [] (by have := HC.out; omega) (by have := HC.out; omega) (by decide) (by decide) (Pin.zero _)
          obtain ⟨D5, hD⟩ : ∃ D, D = doO L 6 (nms s) (nms u) 0 0 [] := ⟨_, rfl⟩
          rw [← hD] at hc
          have HD5 := Lib.hid hD
          clear hD
          go_wp2_with (fail)
          refine hc.mono ?_
          rintro e w5 ⟨a5, c5, da5, dn5, dc5, na5, nn5, nc5, Ls5, rfl, hT, hS, hb⟩
          replace HB := Lib.hid (HB.out.trans (hb.mono HB.out.size))
          replace HA := Lib.hid (HA.out.next hb)
          replace HV9 := Lib.hid (HV9.out.next hb)
          replace HQ3 := Lib.hid (HQ3.out.next hb)
          replace HV1 := Lib.hid (HV1.out.next hb)
          replace HR1 := Lib.hid (HR1.out.next hb)
          replace HV2 := Lib.hid (HV2.out.next hb)
          replace HR2 := Lib.hid (HR2.out.next hb)
          clear vc lc oQ30 oQ31 oQ32 oQ33 oQ34 oQ35 olQ3 omQ3 hc hb
          obtain ⟨w5s, x5, y5, hw, hx, hy, hV, hR, hb⟩ := new_tr_rs hT hS
          have HL5 := Lib.hid (show w.heap.size ≤ x5 by rw [hx]; exact HB.out.size)
          replace HB := Lib.hid (HB.out.trans (hb.mono HB.out.size))
          replace HA := Lib.hid (HA.out.next hb)
          replace HV9 := Lib.hid (HV9.out.next hb)
          replace HQ3 := Lib.hid (HQ3.out.next hb)
          replace HV1 := Lib.hid (HV1.out.next hb)
          replace HR1 := Lib.hid (HR1.out.next hb)
          replace HV2 := Lib.hid (HV2.out.next hb)
          replace HR2 := Lib.hid (HR2.out.next hb)
          have HV5 := Lib.hid hV
          have HR5 := Lib.hid hR
          have HW5 := Lib.hid hw
          have HX5 := Lib.hid hx
          have HY5 := Lib.hid hy
          clear hT hS hw hx hy hV hR hb
          unfold resW
          by_cases he : D5.2.err = 0
          · have HE := Lib.hid he
            have he2 : (D5.2.err != 0) = false := by simpa using he
            clear he
            have hc := doT HV5.out.tv 10 0 0 u (⟨#[]⟩ : ByteArray) none 0 0 [] (by have := HC.out; omega) (by decide) (by decide) (by decide) (Pin.zero _)
            obtain ⟨D6, hD⟩ : ∃ D, D = doO D5.1 10 (nms u) (nms (⟨#[]⟩ : ByteArray)) 0 0 [] := ⟨_, rfl⟩
            rw [← hD] at hc
            have HD6 := Lib.hid hD
            clear hD
            go_wp2_with (fail)
            rw [← HY5.out, ← HX5.out, ← HW5.out]
            refine hc.mono ?_
            rintro e w6 ⟨a6, c6, da6, dn6, dc6, na6, nn6, nc6, Ls6, rfl, hT, hS, hb⟩
            replace HB := Lib.hid (HB.out.trans (hb.mono HB.out.size))
            replace HA := Lib.hid (HA.out.next hb)
            replace HV9 := Lib.hid (HV9.out.next hb)
            replace HQ3 := Lib.hid (HQ3.out.next hb)
            replace HV1 := Lib.hid (HV1.out.next hb)
            replace HR1 := Lib.hid (HR1.out.next hb)
            replace HV2 := Lib.hid (HV2.out.next hb)
            replace HR2 := Lib.hid (HR2.out.next hb)
            replace HV5 := Lib.hid (HV5.out.next hb)
            replace HR5 := Lib.hid (HR5.out.next hb)
            clear he2 hc hb
            have oV5 := HV5.out.var.cell
            have olV5 := lt_of_block HV5.out.var
            obtain ⟨w6s, x6, y6, hw, hx, hy, hV, hR, hb⟩ := new_tr_rs hT hS
            have HL6 := Lib.hid (show w.heap.size ≤ x6 by rw [hx]; exact HB.out.size)
            replace HB := Lib.hid (HB.out.trans (hb.mono HB.out.size))
            replace HA := Lib.hid (HA.out.next hb)
            replace HV9 := Lib.hid (HV9.out.next hb)
            replace HQ3 := Lib.hid (HQ3.out.next hb)
            replace HV1 := Lib.hid (HV1.out.next hb)
            replace HR1 := Lib.hid (HR1.out.next hb)
            replace HV2 := Lib.hid (HV2.out.next hb)
            replace HR2 := Lib.hid (HR2.out.next hb)
            replace HV5 := Lib.hid (HV5.out.next hb)
            replace HR5 := Lib.hid (HR5.out.next hb)
            have HV6 := Lib.hid hV
            have HR6 := Lib.hid hR
            have HW6 := Lib.hid hw
            have HX6 := Lib.hid hx
            have HY6 := Lib.hid hy
            clear hT hS hw hx hy hV hR hb
            unfold resW
            have hc := doT HV5.out.tv 7 0 100000 u (⟨#[]⟩ : ByteArray) none 0 0 [] (by have := HC.out; omega) (by decide) (by decide) (by decide) (Pin.zero _)
            obtain ⟨D7, hD⟩ : ∃ D, D = doO D5.1 7 (nms u) (nms (⟨#[]⟩ : ByteArray)) 0 100000 [] := ⟨_, rfl⟩
            rw [← hD] at hc
            have HD7 := Lib.hid hD
            clear hD
            go_wp2_with (fail)
            rw [← HY6.out, ← HX6.out, ← HW6.out]
            refine hc.mono ?_
            rintro e w7 ⟨a7, c7, da7, dn7, dc7, na7, nn7, nc7, Ls7, rfl, hT, hS, hb⟩
            replace HB := Lib.hid (HB.out.trans (hb.mono HB.out.size))
            replace HA := Lib.hid (HA.out.next hb)
            replace HV9 := Lib.hid (HV9.out.next hb)
            replace HQ3 := Lib.hid (HQ3.out.next hb)
            replace HV1 := Lib.hid (HV1.out.next hb)
            replace HR1 := Lib.hid (HR1.out.next hb)
            replace HV2 := Lib.hid (HV2.out.next hb)
            replace HR2 := Lib.hid (HR2.out.next hb)
            replace HV5 := Lib.hid (HV5.out.next hb)
            replace HR5 := Lib.hid (HR5.out.next hb)
            replace HV6 := Lib.hid (HV6.out.next hb)
            replace HR6 := Lib.hid (HR6.out.next hb)
            clear oV5 olV5 hc hb
            have oV5 := HV5.out.var.cell
            have olV5 := lt_of_block HV5.out.var
            obtain ⟨w7s, x7, y7, hw, hx, hy, hV, hR, hb⟩ := new_tr_rs hT hS
            have HL7 := Lib.hid (show w.heap.size ≤ x7 by rw [hx]; exact HB.out.size)
            replace HB := Lib.hid (HB.out.trans (hb.mono HB.out.size))
            replace HA := Lib.hid (HA.out.next hb)
            replace HV9 := Lib.hid (HV9.out.next hb)
            replace HQ3 := Lib.hid (HQ3.out.next hb)
            replace HV1 := Lib.hid (HV1.out.next hb)
            replace HR1 := Lib.hid (HR1.out.next hb)
            replace HV2 := Lib.hid (HV2.out.next hb)
            replace HR2 := Lib.hid (HR2.out.next hb)
            replace HV5 := Lib.hid (HV5.out.next hb)
            replace HR5 := Lib.hid (HR5.out.next hb)
            replace HV6 := Lib.hid (HV6.out.next hb)
            replace HR6 := Lib.hid (HR6.out.next hb)
            have HV7 := Lib.hid hV
            have HR7 := Lib.hid hR
            have HW7 := Lib.hid hw
            have HX7 := Lib.hid hx
            have HY7 := Lib.hid hy
            clear hT hS hw hx hy hV hR hb
            unfold resW
            have hc := findT HV5.out.tv s (by have := HC.out; omega)
            obtain ⟨F8, hF⟩ : ∃ F, F = fiO D5.1 (nms s) := ⟨_, rfl⟩
            rw [← hF] at hc
            have HF8 := Lib.hid hF
            clear hF
            go_wp2_with (fail)
            rw [← HY7.out, ← HX7.out, ← HW7.out]
            refine hc.mono ?_
            rintro e w8 ⟨rfl, hb⟩
            replace HB := Lib.hid (HB.out.trans (hb.mono HB.out.size))
            replace HA := Lib.hid (HA.out.next hb)
            replace HV9 := Lib.hid (HV9.out.next hb)
            replace HQ3 := Lib.hid (HQ3.out.next hb)
            replace HV1 := Lib.hid (HV1.out.next hb)
            replace HR1 := Lib.hid (HR1.out.next hb)
            replace HV2 := Lib.hid (HV2.out.next hb)
            replace HR2 := Lib.hid (HR2.out.next hb)
            replace HV5 := Lib.hid (HV5.out.next hb)
            replace HR5 := Lib.hid (HR5.out.next hb)
            replace HV6 := Lib.hid (HV6.out.next hb)
            replace HR6 := Lib.hid (HR6.out.next hb)
            replace HV7 := Lib.hid (HV7.out.next hb)
            replace HR7 := Lib.hid (HR7.out.next hb)
            clear oV5 olV5 hc hb
            have HRN := Lib.hid (lp_right HRG.out HD5.out)
            obtain ⟨p1, p2, p3, p4⟩ := HPL.out D1 D2 D5 D6 D7 F3 F4 F8 HD1.out HD2.out HF3.out HF4.out HD5.out HD6.out HD7.out HF8.out HE.out
            have HP2 := Lib.hid p2
            have HP3 := Lib.hid p3
            have HP4 : Hid (F8.2 = 21) := Lib.hid (by rcases p4 with ⟨k1, k2, _⟩ | ⟨_, k2⟩; exact absurd k2 (by simpa using hs2); exact k2)
            obtain ⟨rd10, rd11, rd12, rd13, rd14, rd15⟩ := HR1.out.var.cells
            obtain ⟨rd60, rd61, rd62, rd63, rd64, rd65⟩ := HR6.out.var.cells
            have hp1 : (D1.2.err != 0) = false := by simpa using p1
            clear p1 p2 p3 p4
            have hc := sameResult_any HR1.out.res HR6.out.res (lp_wide HRG.out HD1.out HR1.out.res).1 (lp_wide HRG.out HD1.out HR1.out.res).2 (lp_wide HRN.out HD6.out HR6.out.res).2
            rw [decide_eq_true HP2.out] at hc
            unfold resW at hc
            go_wp2_with (fail)
            refine hc.mono ?_
            rintro e w9 ⟨rfl, hb⟩
            replace HB := Lib.hid (HB.out.trans (hb.mono HB.out.size))
            replace HA := Lib.hid (HA.out.next hb)
            replace HV9 := Lib.hid (HV9.out.next hb)
            replace HQ3 := Lib.hid (HQ3.out.next hb)
            replace HV1 := Lib.hid (HV1.out.next hb)
            replace HR1 := Lib.hid (HR1.out.next hb)
            replace HV2 := Lib.hid (HV2.out.next hb)
            replace HR2 := Lib.hid (HR2.out.next hb)
            replace HV5 := Lib.hid (HV5.out.next hb)
            replace HR5 := Lib.hid (HR5.out.next hb)
            replace HV6 := Lib.hid (HV6.out.next hb)
            replace HR6 := Lib.hid (HR6.out.next hb)
            replace HV7 := Lib.hid (HV7.out.next hb)
            replace HR7 := Lib.hid (HR7.out.next hb)
            clear rd10 rd11 rd12 rd13 rd14 rd15 rd60 rd61 rd62 rd63 rd64 rd65 hc hb
            obtain ⟨re20, re21, re22, re23, re24, re25⟩ := HR2.out.var.cells
            obtain ⟨re70, re71, re72, re73, re74, re75⟩ := HR7.out.var.cells
            have hc := sameResult_any HR2.out.res HR7.out.res (lp_wide HRG.out HD2.out HR2.out.res).1 (lp_wide HRG.out HD2.out HR2.out.res).2 (lp_wide HRN.out HD7.out HR7.out.res).2
            rw [decide_eq_true HP3.out] at hc
            unfold resW at hc
            go_wp2_with (fail)
            refine hc.mono ?_
            rintro e w10 ⟨rfl, hb⟩
            replace HB := Lib.hid (HB.out.trans (hb.mono HB.out.size))
            replace HA := Lib.hid (HA.out.next hb)
            replace HV9 := Lib.hid (HV9.out.next hb)
            replace HQ3 := Lib.hid (HQ3.out.next hb)
            replace HV1 := Lib.hid (HV1.out.next hb)
            replace HR1 := Lib.hid (HR1.out.next hb)
            replace HV2 := Lib.hid (HV2.out.next hb)
            replace HR2 := Lib.hid (HR2.out.next hb)
            replace HV5 := Lib.hid (HV5.out.next hb)
            replace HR5 := Lib.hid (HR5.out.next hb)
            replace HV6 := Lib.hid (HV6.out.next hb)
            replace HR6 := Lib.hid (HR6.out.next hb)
            replace HV7 := Lib.hid (HV7.out.next hb)
            replace HR7 := Lib.hid (HR7.out.next hb)
            clear re20 re21 re22 re23 re24 re25 re70 re71 re72 re73 re74 re75 hc hb
            have h81 : (F8.2 == 21) = true := by simpa using HP4.out
            have h82 : (F8.2 == 0) = false := by have := HP4.out; simp [this]
            go_wp2_with (fail)
            go_ret
            exact ⟨rfl, HB.out⟩
          · have he2 : (D5.2.err != 0) = true := by simpa using he
            clear he
            go_wp2_with (fail)
            rw [← HY5.out, ← HX5.out, ← HW5.out]
            go_ret
            exact ⟨rfl, HB.out⟩
        | true =>
          have vc := HV9.out.var.cell
          have lc := HV9.out.var.load
          obtain ⟨oQ30, oQ31, oQ32, oQ33, oQ34, oQ35⟩ := HQ3.out.cells
          have olQ3 := lt_of_block HQ3.out
          have omQ3 := HQ3.out.load
          have hc := doT HV9.out.tv 6 0 0 s u none 0 0 [] (by have := HC.out; omega) (by have := HC.out; omega) (by decide) (by decide) (Pin.zero _)
          obtain ⟨D5, hD⟩ : ∃ D, D = doO L 6 (nms s) (nms u) 0 0 [] := ⟨_, rfl⟩
          rw [← hD] at hc
          have HD5 := Lib.hid hD
          clear hD
          go_wp2_with (fail)
          refine hc.mono ?_
          rintro e w5 ⟨a5, c5, da5, dn5, dc5, na5, nn5, nc5, Ls5, rfl, hT, hS, hb⟩
          replace HB := Lib.hid (HB.out.trans (hb.mono HB.out.size))
          replace HA := Lib.hid (HA.out.next hb)
          replace HV9 := Lib.hid (HV9.out.next hb)
          replace HQ3 := Lib.hid (HQ3.out.next hb)
          replace HV1 := Lib.hid (HV1.out.next hb)
          replace HR1 := Lib.hid (HR1.out.next hb)
          replace HV2 := Lib.hid (HV2.out.next hb)
          replace HR2 := Lib.hid (HR2.out.next hb)
          clear vc lc oQ30 oQ31 oQ32 oQ33 oQ34 oQ35 olQ3 omQ3 hc hb
          obtain ⟨w5s, x5, y5, hw, hx, hy, hV, hR, hb⟩ := new_tr_rs hT hS
          have HL5 := Lib.hid (show w.heap.size ≤ x5 by rw [hx]; exact HB.out.size)
          replace HB := Lib.hid (HB.out.trans (hb.mono HB.out.size))
          replace HA := Lib.hid (HA.out.next hb)
          replace HV9 := Lib.hid (HV9.out.next hb)
          replace HQ3 := Lib.hid (HQ3.out.next hb)
          replace HV1 := Lib.hid (HV1.out.next hb)
          replace HR1 := Lib.hid (HR1.out.next hb)
          replace HV2 := Lib.hid (HV2.out.next hb)
          replace HR2 := Lib.hid (HR2.out.next hb)
          have HV5 := Lib.hid hV
          have HR5 := Lib.hid hR
          have HW5 := Lib.hid hw
          have HX5 := Lib.hid hx
          have HY5 := Lib.hid hy
          clear hT hS hw hx hy hV hR hb
          unfold resW
          by_cases he : D5.2.err = 0
          · have HE := Lib.hid he
            have he2 : (D5.2.err != 0) = false := by simpa using he
            clear he
            have hc := doT HV5.out.tv 10 0 0 u (⟨#[]⟩ : ByteArray) none 0 0 [] (by have := HC.out; omega) (by decide) (by decide) (by decide) (Pin.zero _)
            obtain ⟨D6, hD⟩ : ∃ D, D = doO D5.1 10 (nms u) (nms (⟨#[]⟩ : ByteArray)) 0 0 [] := ⟨_, rfl⟩
            rw [← hD] at hc
            have HD6 := Lib.hid hD
            clear hD
            go_wp2_with (fail)
            rw [← HY5.out, ← HX5.out, ← HW5.out]
            refine hc.mono ?_
            rintro e w6 ⟨a6, c6, da6, dn6, dc6, na6, nn6, nc6, Ls6, rfl, hT, hS, hb⟩
            replace HB := Lib.hid (HB.out.trans (hb.mono HB.out.size))
            replace HA := Lib.hid (HA.out.next hb)
            replace HV9 := Lib.hid (HV9.out.next hb)
            replace HQ3 := Lib.hid (HQ3.out.next hb)
            replace HV1 := Lib.hid (HV1.out.next hb)
            replace HR1 := Lib.hid (HR1.out.next hb)
            replace HV2 := Lib.hid (HV2.out.next hb)
            replace HR2 := Lib.hid (HR2.out.next hb)
            replace HV5 := Lib.hid (HV5.out.next hb)
            replace HR5 := Lib.hid (HR5.out.next hb)
            clear he2 hc hb
            have oV5 := HV5.out.var.cell
            have olV5 := lt_of_block HV5.out.var
            obtain ⟨w6s, x6, y6, hw, hx, hy, hV, hR, hb⟩ := new_tr_rs hT hS
            have HL6 := Lib.hid (show w.heap.size ≤ x6 by rw [hx]; exact HB.out.size)
            replace HB := Lib.hid (HB.out.trans (hb.mono HB.out.size))
            replace HA := Lib.hid (HA.out.next hb)
            replace HV9 := Lib.hid (HV9.out.next hb)
            replace HQ3 := Lib.hid (HQ3.out.next hb)
            replace HV1 := Lib.hid (HV1.out.next hb)
            replace HR1 := Lib.hid (HR1.out.next hb)
            replace HV2 := Lib.hid (HV2.out.next hb)
            replace HR2 := Lib.hid (HR2.out.next hb)
            replace HV5 := Lib.hid (HV5.out.next hb)
            replace HR5 := Lib.hid (HR5.out.next hb)
            have HV6 := Lib.hid hV
            have HR6 := Lib.hid hR
            have HW6 := Lib.hid hw
            have HX6 := Lib.hid hx
            have HY6 := Lib.hid hy
            clear hT hS hw hx hy hV hR hb
            unfold resW
            have hc := doT HV5.out.tv 7 0 100000 u (⟨#[]⟩ : ByteArray) none 0 0 [] (by have := HC.out; omega) (by decide) (by decide) (by decide) (Pin.zero _)
            obtain ⟨D7, hD⟩ : ∃ D, D = doO D5.1 7 (nms u) (nms (⟨#[]⟩ : ByteArray)) 0 100000 [] := ⟨_, rfl⟩
            rw [← hD] at hc
            have HD7 := Lib.hid hD
            clear hD
            go_wp2_with (fail)
            rw [← HY6.out, ← HX6.out, ← HW6.out]
            refine hc.mono ?_
            rintro e w7 ⟨a7, c7, da7, dn7, dc7, na7, nn7, nc7, Ls7, rfl, hT, hS, hb⟩
            replace HB := Lib.hid (HB.out.trans (hb.mono HB.out.size))
            replace HA := Lib.hid (HA.out.next hb)
            replace HV9 := Lib.hid (HV9.out.next hb)
            replace HQ3 := Lib.hid (HQ3.out.next hb)
            replace HV1 := Lib.hid (HV1.out.next hb)
            replace HR1 := Lib.hid (HR1.out.next hb)
            replace HV2 := Lib.hid (HV2.out.next hb)
            replace HR2 := Lib.hid (HR2.out.next hb)
            replace HV5 := Lib.hid (HV5.out.next hb)
            replace HR5 := Lib.hid (HR5.out.next hb)
            replace HV6 := Lib.hid (HV6.out.next hb)
            replace HR6 := Lib.hid (HR6.out.next hb)
            clear oV5 olV5 hc hb
            have oV5 := HV5.out.var.cell
            have olV5 := lt_of_block HV5.out.var
            obtain ⟨w7s, x7, y7, hw, hx, hy, hV, hR, hb⟩ := new_tr_rs hT hS
            have HL7 := Lib.hid (show w.heap.size ≤ x7 by rw [hx]; exact HB.out.size)
            replace HB := Lib.hid (HB.out.trans (hb.mono HB.out.size))
            replace HA := Lib.hid (HA.out.next hb)
            replace HV9 := Lib.hid (HV9.out.next hb)
            replace HQ3 := Lib.hid (HQ3.out.next hb)
            replace HV1 := Lib.hid (HV1.out.next hb)
            replace HR1 := Lib.hid (HR1.out.next hb)
            replace HV2 := Lib.hid (HV2.out.next hb)
            replace HR2 := Lib.hid (HR2.out.next hb)
            replace HV5 := Lib.hid (HV5.out.next hb)
            replace HR5 := Lib.hid (HR5.out.next hb)
            replace HV6 := Lib.hid (HV6.out.next hb)
            replace HR6 := Lib.hid (HR6.out.next hb)
            have HV7 := Lib.hid hV
            have HR7 := Lib.hid hR
            have HW7 := Lib.hid hw
            have HX7 := Lib.hid hx
            have HY7 := Lib.hid hy
            clear hT hS hw hx hy hV hR hb
            unfold resW
            have hc := findT HV5.out.tv s (by have := HC.out; omega)
            obtain ⟨F8, hF⟩ : ∃ F, F = fiO D5.1 (nms s) := ⟨_, rfl⟩
            rw [← hF] at hc
            have HF8 := Lib.hid hF
            clear hF
            go_wp2_with (fail)
            rw [← HY7.out, ← HX7.out, ← HW7.out]
            refine hc.mono ?_
            rintro e w8 ⟨rfl, hb⟩
            replace HB := Lib.hid (HB.out.trans (hb.mono HB.out.size))
            replace HA := Lib.hid (HA.out.next hb)
            replace HV9 := Lib.hid (HV9.out.next hb)
            replace HQ3 := Lib.hid (HQ3.out.next hb)
            replace HV1 := Lib.hid (HV1.out.next hb)
            replace HR1 := Lib.hid (HR1.out.next hb)
            replace HV2 := Lib.hid (HV2.out.next hb)
            replace HR2 := Lib.hid (HR2.out.next hb)
            replace HV5 := Lib.hid (HV5.out.next hb)
            replace HR5 := Lib.hid (HR5.out.next hb)
            replace HV6 := Lib.hid (HV6.out.next hb)
            replace HR6 := Lib.hid (HR6.out.next hb)
            replace HV7 := Lib.hid (HV7.out.next hb)
            replace HR7 := Lib.hid (HR7.out.next hb)
            clear oV5 olV5 hc hb
            have HRN := Lib.hid (lp_right HRG.out HD5.out)
            obtain ⟨p1, p2, p3, p4⟩ := HPL.out D1 D2 D5 D6 D7 F3 F4 F8 HD1.out HD2.out HF3.out HF4.out HD5.out HD6.out HD7.out HF8.out HE.out
            have HP2 := Lib.hid p2
            have HP3 := Lib.hid p3
            have HP4 : Hid (F8.2 = 0 ∧ L = D5.1) := Lib.hid (by rcases p4 with ⟨_, _, k3, k4⟩ | ⟨k1, _⟩; exact ⟨k3, k4⟩; exact absurd (by simpa using hs2) (k1 (by simpa using hs1)))
            obtain ⟨rd10, rd11, rd12, rd13, rd14, rd15⟩ := HR1.out.var.cells
            obtain ⟨rd60, rd61, rd62, rd63, rd64, rd65⟩ := HR6.out.var.cells
            have hp1 : (D1.2.err != 0) = false := by simpa using p1
            clear p1 p2 p3 p4
            have hc := sameResult_any HR1.out.res HR6.out.res (lp_wide HRG.out HD1.out HR1.out.res).1 (lp_wide HRG.out HD1.out HR1.out.res).2 (lp_wide HRN.out HD6.out HR6.out.res).2
            rw [decide_eq_true HP2.out] at hc
            unfold resW at hc
            go_wp2_with (fail)
            refine hc.mono ?_
            rintro e w9 ⟨rfl, hb⟩
            replace HB := Lib.hid (HB.out.trans (hb.mono HB.out.size))
            replace HA := Lib.hid (HA.out.next hb)
            replace HV9 := Lib.hid (HV9.out.next hb)
            replace HQ3 := Lib.hid (HQ3.out.next hb)
            replace HV1 := Lib.hid (HV1.out.next hb)
            replace HR1 := Lib.hid (HR1.out.next hb)
            replace HV2 := Lib.hid (HV2.out.next hb)
            replace HR2 := Lib.hid (HR2.out.next hb)
            replace HV5 := Lib.hid (HV5.out.next hb)
            replace HR5 := Lib.hid (HR5.out.next hb)
            replace HV6 := Lib.hid (HV6.out.next hb)
            replace HR6 := Lib.hid (HR6.out.next hb)
            replace HV7 := Lib.hid (HV7.out.next hb)
            replace HR7 := Lib.hid (HR7.out.next hb)
            clear rd10 rd11 rd12 rd13 rd14 rd15 rd60 rd61 rd62 rd63 rd64 rd65 hc hb
            obtain ⟨re20, re21, re22, re23, re24, re25⟩ := HR2.out.var.cells
            obtain ⟨re70, re71, re72, re73, re74, re75⟩ := HR7.out.var.cells
            have hc := sameResult_any HR2.out.res HR7.out.res (lp_wide HRG.out HD2.out HR2.out.res).1 (lp_wide HRG.out HD2.out HR2.out.res).2 (lp_wide HRN.out HD7.out HR7.out.res).2
            rw [decide_eq_true HP3.out] at hc
            unfold resW at hc
            go_wp2_with (fail)
            refine hc.mono ?_
            rintro e w10 ⟨rfl, hb⟩
            replace HB := Lib.hid (HB.out.trans (hb.mono HB.out.size))
            replace HA := Lib.hid (HA.out.next hb)
            replace HV9 := Lib.hid (HV9.out.next hb)
            replace HQ3 := Lib.hid (HQ3.out.next hb)
            replace HV1 := Lib.hid (HV1.out.next hb)
            replace HR1 := Lib.hid (HR1.out.next hb)
            replace HV2 := Lib.hid (HV2.out.next hb)
            replace HR2 := Lib.hid (HR2.out.next hb)
            replace HV5 := Lib.hid (HV5.out.next hb)
            replace HR5 := Lib.hid (HR5.out.next hb)
            replace HV6 := Lib.hid (HV6.out.next hb)
            replace HR6 := Lib.hid (HR6.out.next hb)
            replace HV7 := Lib.hid (HV7.out.next hb)
            replace HR7 := Lib.hid (HR7.out.next hb)
            clear re20 re21 re22 re23 re24 re25 re70 re71 re72 re73 re74 re75 hc hb
            have h80 : (F8.2 == 0) = true := by simpa using HP4.out.1
            have hc := sameT2 HV9.out.tv HV5.out.tv
            rw [decide_eq_true HP4.out.2] at hc
            have vf9 := HV9.out.var.cell
            have lf9 := HV9.out.var.load
            have vf5 := HV5.out.var.cell
            have lf5 := HV5.out.var.load
            go_wp2_with (fail)
            refine hc.mono ?_
            rintro e w11 ⟨rfl, hb⟩
            replace HB := Lib.hid (HB.out.trans (hb.mono HB.out.size))
            replace HA := Lib.hid (HA.out.next hb)
            replace HV9 := Lib.hid (HV9.out.next hb)
            replace HQ3 := Lib.hid (HQ3.out.next hb)
            replace HV1 := Lib.hid (HV1.out.next hb)
            replace HR1 := Lib.hid (HR1.out.next hb)
            replace HV2 := Lib.hid (HV2.out.next hb)
            replace HR2 := Lib.hid (HR2.out.next hb)
            replace HV5 := Lib.hid (HV5.out.next hb)
            replace HR5 := Lib.hid (HR5.out.next hb)
            replace HV6 := Lib.hid (HV6.out.next hb)
            replace HR6 := Lib.hid (HR6.out.next hb)
            replace HV7 := Lib.hid (HV7.out.next hb)
            replace HR7 := Lib.hid (HR7.out.next hb)
            clear vf9 lf9 vf5 lf5 hc hb
            go_wp2_with (fail)
            go_ret
            exact ⟨rfl, HB.out⟩
          · have he2 : (D5.2.err != 0) = true := by simpa using he
            clear he
            go_wp2_with (fail)
            rw [← HY5.out, ← HX5.out, ← HW5.out]
            go_ret
            exact ⟨rfl, HB.out⟩
end
end Go.Proofs.YtinholnidchblaaGreatDoor
