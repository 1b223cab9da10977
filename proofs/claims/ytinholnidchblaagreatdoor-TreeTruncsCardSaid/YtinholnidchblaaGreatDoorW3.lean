/-
  TreeTruncs: the walk.
-/
import Derived.Test.YtinholnidchblaaGreatDoorQar
set_option linter.unusedVariables false
set_option linter.unusedSimpArgs false
namespace Go.Proofs.YtinholnidchblaaGreatDoor
open Go.RowKit
set_option linter.unusedVariables false
set_option linter.unusedSimpArgs false

theorem getD_byt (b : List Int) (j : Nat) : byt b j = b.getD j 0 := rfl
section
variable {w : World} {a : Option Addr} {n c : Nat} {f : Nat → Oc}
set_option maxRecDepth 100000 in
set_option maxHeartbeats 16000000 in
theorem treeTruncs_any (h : Ops w a n f) (s : ByteArray) (hs : s.size ≤ 9223372036854775807) (n0 m : Int) (hn0 : -9223372036854775808 ≤ n0 ∧ n0 ≤ 9223372036854775807) (hm : -9223372036854775808 ≤ m ∧ m ≤ 9223372036854775807) : Calls Tryz.prog 11 #[.slice a n c, .string s, .int .i64 n0, .int .i64 m] w fun e w' => e = .returned (.bool true) ∧ Below w.heap.size w w' := by
  have HB : Hid (Below w.heap.size w w) := Lib.hid (Below.refl _ _)
  have HA := Lib.hid h
  clear h
  have hc := alive_any w
  go_enter Tryz.func11, Tryz.ntmps11
  go_wp2_with (fail)
  refine hc.mono ?_
  rintro e w91 ⟨rfl, hb⟩
  replace HB := Lib.hid (HB.out.trans (hb.mono HB.out.size))
  replace HA := Lib.hid (HA.out.next hb)
  clear hc hb
  have hc := made_any (c := c) HA.out
  go_wp2_with (fail)
  refine hc.mono ?_
  rintro e w92 ⟨L, aL, cL, ok, rfl, hT, hb⟩
  replace HB := Lib.hid (HB.out.trans (hb.mono HB.out.size))
  replace HA := Lib.hid (HA.out.next hb)
  clear hc hb
  obtain ⟨w93, x9, hw, hx, hV, hb⟩ := new_tr hT
  have HL9 := Lib.hid (show w.heap.size ≤ x9 by rw [hx]; exact HB.out.size)
  replace HB := Lib.hid (HB.out.trans (hb.mono HB.out.size))
  replace HA := Lib.hid (HA.out.next hb)
  have HV9 := Lib.hid hV
  have HW9 := Lib.hid hw
  have HX9 := Lib.hid hx
  have HRG := Lib.hid hV.tv.rgt
  clear hT hw hx hV hb
  cases ok with
  | false =>
    go_wp2_with (fail)
    rw [← HX9.out, ← HW9.out]
    go_ret
    exact ⟨rfl, HB.out⟩
  | true =>
    by_cases hq : 1000 < s.size
    · have hq2 : (1000 : Int) < (s.size : Int) := by omega
      clear hq
      go_wp2_with (fail)
      rw [← HX9.out, ← HW9.out]
      go_ret
      exact ⟨rfl, HB.out⟩
    have hn0 : ¬ (1000 : Int) < (s.size : Int) := by omega
    clear hq
    by_cases hq : n0 < 0
    · have hq2 : n0 < 0 := by omega
      clear hq
      go_wp2_with (fail)
      rw [← HX9.out, ← HW9.out]
      go_ret
      exact ⟨rfl, HB.out⟩
    have hn1 : ¬ n0 < 0 := by omega
    clear hq
    by_cases hq : m < n0
    · have hq2 : m < n0 := by omega
      clear hq
      go_wp2_with (fail)
      rw [← HX9.out, ← HW9.out]
      go_ret
      exact ⟨rfl, HB.out⟩
    have hn2 : ¬ m < n0 := by omega
    clear hq
    by_cases hq : 3000 < m
    · have hq2 : 3000 < m := by omega
      clear hq
      go_wp2_with (fail)
      rw [← HX9.out, ← HW9.out]
      go_ret
      exact ⟨rfl, HB.out⟩
    have hn3 : ¬ 3000 < m := by omega
    clear hq
    have HC : Hid (s.size ≤ 1000 ∧ 0 ≤ n0 ∧ n0 ≤ m ∧ m ≤ 3000) := Lib.hid (by omega)
    have HPL := Lib.hid (fun D1 D2 D3 D4 e1 e2 e3 e4 => truncs_plain HRG.out (p := s) (q := ⟨#[]⟩) (D1 := D1) (D2 := D2) (D3 := D3) (D4 := D4) HC.out.2.1 HC.out.2.2.1 HC.out.2.2.2 e1 e2 e3 e4)
    have hc := doT HV9.out.tv 7 0 100000 s (⟨#[]⟩ : ByteArray) none 0 0 [] (by have := HC.out; omega) (by decide) (by decide) (by decide) (Pin.zero _)
    obtain ⟨D1, hD⟩ : ∃ D, D = doO L 7 (nms s) (nms (⟨#[]⟩ : ByteArray)) 0 100000 [] := ⟨_, rfl⟩
    rw [← hD] at hc
    have HD1 := Lib.hid hD
    clear hD
    go_wp2_with (fail)
    rw [← HX9.out, ← HW9.out]
    refine hc.mono ?_
    rintro e w1 ⟨a1, c1, da1, dn1, dc1, na1, nn1, nc1, Ls1, rfl, hT, hS, hb⟩
    replace HB := Lib.hid (HB.out.trans (hb.mono HB.out.size))
    replace HA := Lib.hid (HA.out.next hb)
    replace HV9 := Lib.hid (HV9.out.next hb)
    clear hn0 hn1 hn2 hn3 hc hb
    have oV9 := HV9.out.var.cell
    have olV9 := lt_of_block HV9.out.var
    obtain ⟨w1s, x1, y1, hw, hx, hy, hV, hR, hb⟩ := new_tr_rs hT hS
    have HL1 := Lib.hid (show w.heap.size ≤ x1 by rw [hx]; exact HB.out.size)
    replace HB := Lib.hid (HB.out.trans (hb.mono HB.out.size))
    replace HA := Lib.hid (HA.out.next hb)
    replace HV9 := Lib.hid (HV9.out.next hb)
    have HV1 := Lib.hid hV
    have HR1 := Lib.hid hR
    have HW1 := Lib.hid hw
    have HX1 := Lib.hid hx
    have HY1 := Lib.hid hy
    clear hT hS hw hx hy hV hR hb
    unfold resW
    have hc := doT HV9.out.tv 9 0 n0 s (⟨#[]⟩ : ByteArray) none 0 0 [] (by have := HC.out; omega) (by decide) (by decide) (by have := HC.out; omega) (Pin.zero _)
    obtain ⟨D2, hD⟩ : ∃ D, D = doO L 9 (nms s) (nms (⟨#[]⟩ : ByteArray)) 0 n0 [] := ⟨_, rfl⟩
    rw [← hD] at hc
    have HD2 := Lib.hid hD
    clear hD
    go_wp2_with (fail)
    rw [← HY1.out, ← HX1.out, ← HW1.out]
    refine hc.mono ?_
    rintro e w2 ⟨a2, c2, da2, dn2, dc2, na2, nn2, nc2, Ls2, rfl, hT, hS, hb⟩
    replace HB := Lib.hid (HB.out.trans (hb.mono HB.out.size))
    replace HA := Lib.hid (HA.out.next hb)
    replace HV9 := Lib.hid (HV9.out.next hb)
    replace HV1 := Lib.hid (HV1.out.next hb)
    replace HR1 := Lib.hid (HR1.out.next hb)
    clear oV9 olV9 hc hb
    obtain ⟨w2s, x2, y2, hw, hx, hy, hV, hR, hb⟩ := new_tr_rs hT hS
    have HL2 := Lib.hid (show w.heap.size ≤ x2 by rw [hx]; exact HB.out.size)
    replace HB := Lib.hid (HB.out.trans (hb.mono HB.out.size))
    replace HA := Lib.hid (HA.out.next hb)
    replace HV9 := Lib.hid (HV9.out.next hb)
    replace HV1 := Lib.hid (HV1.out.next hb)
    replace HR1 := Lib.hid (HR1.out.next hb)
    have HV2 := Lib.hid hV
    have HR2 := Lib.hid hR
    have HW2 := Lib.hid hw
    have HX2 := Lib.hid hx
    have HY2 := Lib.hid hy
    clear hT hS hw hx hy hV hR hb
    unfold resW
    have hc := doT HV2.out.tv 9 0 m s (⟨#[]⟩ : ByteArray) none 0 0 [] (by have := HC.out; omega) (by decide) (by decide) (by have := HC.out; omega) (Pin.zero _)
    obtain ⟨D3, hD⟩ : ∃ D, D = doO D2.1 9 (nms s) (nms (⟨#[]⟩ : ByteArray)) 0 m [] := ⟨_, rfl⟩
    rw [← hD] at hc
    have HD3 := Lib.hid hD
    clear hD
    go_wp2_with (fail)
    rw [← HY2.out, ← HX2.out, ← HW2.out]
    refine hc.mono ?_
    rintro e w3 ⟨a3, c3, da3, dn3, dc3, na3, nn3, nc3, Ls3, rfl, hT, hS, hb⟩
    replace HB := Lib.hid (HB.out.trans (hb.mono HB.out.size))
    replace HA := Lib.hid (HA.out.next hb)
    replace HV9 := Lib.hid (HV9.out.next hb)
    replace HV1 := Lib.hid (HV1.out.next hb)
    replace HR1 := Lib.hid (HR1.out.next hb)
    replace HV2 := Lib.hid (HV2.out.next hb)
    replace HR2 := Lib.hid (HR2.out.next hb)
    clear hc hb
    obtain ⟨w3s, x3, y3, hw, hx, hy, hV, hR, hb⟩ := new_tr_rs hT hS
    have HL3 := Lib.hid (show w.heap.size ≤ x3 by rw [hx]; exact HB.out.size)
    replace HB := Lib.hid (HB.out.trans (hb.mono HB.out.size))
    replace HA := Lib.hid (HA.out.next hb)
    replace HV9 := Lib.hid (HV9.out.next hb)
    replace HV1 := Lib.hid (HV1.out.next hb)
    replace HR1 := Lib.hid (HR1.out.next hb)
    replace HV2 := Lib.hid (HV2.out.next hb)
    replace HR2 := Lib.hid (HR2.out.next hb)
    have HV3 := Lib.hid hV
    have HR3 := Lib.hid hR
    have HW3 := Lib.hid hw
    have HX3 := Lib.hid hx
    have HY3 := Lib.hid hy
    clear hT hS hw hx hy hV hR hb
    unfold resW
    have hc := doT HV3.out.tv 7 0 100000 s (⟨#[]⟩ : ByteArray) none 0 0 [] (by have := HC.out; omega) (by decide) (by decide) (by decide) (Pin.zero _)
    obtain ⟨D4, hD⟩ : ∃ D, D = doO D3.1 7 (nms s) (nms (⟨#[]⟩ : ByteArray)) 0 100000 [] := ⟨_, rfl⟩
    rw [← hD] at hc
    have HD4 := Lib.hid hD
    clear hD
    go_wp2_with (fail)
    rw [← HY3.out, ← HX3.out, ← HW3.out]
    refine hc.mono ?_
    rintro e w4 ⟨a4, c4, da4, dn4, dc4, na4, nn4, nc4, Ls4, rfl, hT, hS, hb⟩
    replace HB := Lib.hid (HB.out.trans (hb.mono HB.out.size))
    replace HA := Lib.hid (HA.out.next hb)
    replace HV9 := Lib.hid (HV9.out.next hb)
    replace HV1 := Lib.hid (HV1.out.next hb)
    replace HR1 := Lib.hid (HR1.out.next hb)
    replace HV2 := Lib.hid (HV2.out.next hb)
    replace HR2 := Lib.hid (HR2.out.next hb)
    replace HV3 := Lib.hid (HV3.out.next hb)
    replace HR3 := Lib.hid (HR3.out.next hb)
    clear hc hb
    obtain ⟨oR10, oR11, oR12, oR13, oR14, oR15⟩ := HR1.out.var.cells
    have olR1 := HR1.out.var.lt
    obtain ⟨oR20, oR21, oR22, oR23, oR24, oR25⟩ := HR2.out.var.cells
    have olR2 := HR2.out.var.lt
    obtain ⟨oR30, oR31, oR32, oR33, oR34, oR35⟩ := HR3.out.var.cells
    have olR3 := HR3.out.var.lt
    obtain ⟨w4s, x4, y4, hw, hx, hy, hV, hR, hb⟩ := new_tr_rs hT hS
    have HL4 := Lib.hid (show w.heap.size ≤ x4 by rw [hx]; exact HB.out.size)
    replace HB := Lib.hid (HB.out.trans (hb.mono HB.out.size))
    replace HA := Lib.hid (HA.out.next hb)
    replace HV9 := Lib.hid (HV9.out.next hb)
    replace HV1 := Lib.hid (HV1.out.next hb)
    replace HR1 := Lib.hid (HR1.out.next hb)
    replace HV2 := Lib.hid (HV2.out.next hb)
    replace HR2 := Lib.hid (HR2.out.next hb)
    replace HV3 := Lib.hid (HV3.out.next hb)
    replace HR3 := Lib.hid (HR3.out.next hb)
    have HV4 := Lib.hid hV
    have HR4 := Lib.hid hR
    have HW4 := Lib.hid hw
    have HX4 := Lib.hid hx
    have HY4 := Lib.hid hy
    clear hT hS hw hx hy hV hR hb
    unfold resW
    rcases HPL.out D1 D2 D3 D4 HD1.out HD2.out HD3.out HD4.out with ⟨p1, p2, p3⟩ | ⟨p1, p2, p3, p4, p5⟩
    · have q1 : (D2.2.err != 0) = true := by simpa using p1
      rw [p2] at oR10
      rw [p3] at oR30
      clear p1 p2 p3
      go_wp2_with (fail)
      rw [← HY4.out, ← HX4.out, ← HW4.out]
      go_ret
      exact ⟨rfl, HB.out⟩
    · have HPP := Lib.hid (And.intro p4 p5)
      have hl4 := HR4.out.res.data.len
      have HL4 : Hid ((dn4 : Int) = m) := Lib.hid (by rw [← hl4, p4, fitB_len]; have := HC.out; omega)
      have q4 : ((dn4 : Int) != m) = false := by simpa using HL4.out
      rw [p1] at oR20
      rw [p2] at oR30
      have q3 : (D4.2.err != 0) = false := by simpa using p3
      clear p1 p2 p3 p4 p5 hl4
      go_wp2_with (fail)
      rw [← HY4.out, ← HX4.out, ← HW4.out]
      have HB4 := Lib.hid (fun j : Nat => show byt D4.2.d j = if (j : Int) < n0 then byt D1.2.d j else 0 by rw [HPP.out.1, getD_byt, getD_fit2 D1.2.d (by have := HC.out; omega)]; by_cases h : (j : Int) < n0; rw [if_pos h, if_pos (by have := HC.out; omega)]; rfl; rw [if_neg h, if_neg (by have := HC.out; omega)])
      go_loopw [19, 20] (fun v _ wr => ∃ k : Nat, (k : Int) ≤ m ∧ v = .int .i64 k ∧ wr = w4s) (fun v _ _ => m.toNat - (RowKit.intOf v).toNat)
      case atStart => exact ⟨0, by have := HC.out; omega, rfl, rfl⟩
      case round =>
        obtain ⟨k, hk, rfl, hwr⟩ := hrel
        subst hwr
        by_cases hlt : (k : Int) < m
        · have j0 : (0 : Int) ≤ (k : Int) := by omega
          have e4 := HB4.out k
          have hl1 := HR1.out.res.data.len
          have j4 : (k : Int) < (dn4 : Int) := by have := HL4.out; omega
          clear oR10 oR11 oR12 oR13 oR14 oR15 oR20 oR21 oR22 oR23 oR24 oR25 oR30 oR31 oR32 oR33 oR34 oR35 q4
          obtain ⟨f0, f1, f2, f3, f4, f5⟩ := HR1.out.var.cells
          obtain ⟨g0, g1, g2, g3, g4, g5⟩ := HR4.out.var.cells
          obtain ⟨b4, o4, rfl, l4, c4⟩ := HR4.out.res.data.at (by omega)
          have x4 := c4 k (by omega)
          clear c4 l4 f0 f2 f3 f4 f5 g0 g2 g3 g4 g5
          by_cases h1 : (k : Int) < n0
          · rw [if_pos h1] at e4
            rw [e4] at x4
            by_cases h2 : (k : Int) < (dn1 : Int)
            · obtain ⟨b1, o1, rfl, l1, c1⟩ := HR1.out.res.data.at (by omega)
              have x1 := c1 k (by omega)
              clear c1 l1 e4 hl1
              go_wp2_with (fail)
              go_roundw
              case rel => exact ⟨k + 1, by omega, by go_num, trivial⟩
              case measure => simp [RowKit.intOf]; omega
            · rw [show byt D1.2.d k = 0 by simp [byt, List.getD, show D1.2.d.length ≤ k by omega]] at x4
              clear e4 hl1
              go_wp2_with (fail)
              go_roundw
              case rel => exact ⟨k + 1, by omega, by go_num, trivial⟩
              case measure => simp [RowKit.intOf]; omega
          · rw [if_neg h1] at e4
            rw [e4] at x4
            clear e4 hl1
            go_wp2_with (fail)
            go_roundw
            case rel => exact ⟨k + 1, by omega, by go_num, trivial⟩
            case measure => simp [RowKit.intOf]; omega
        · go_wp2_with (fail)
          go_ret
          exact ⟨rfl, HB.out⟩
end
end Go.Proofs.YtinholnidchblaaGreatDoor
