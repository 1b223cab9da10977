/-
  TreeUndone: the walk.
-/
import Derived.Test.YtinholnidchblaaGreatDoorQar
import Derived.Deep.Cut
set_option linter.unusedVariables false
set_option linter.unusedSimpArgs false
namespace Go.Proofs.YtinholnidchblaaGreatDoor
open Go.RowKit
set_option linter.unusedVariables false
set_option linter.unusedSimpArgs false

section
variable {w : World} {a : Option Addr} {n c : Nat} {f : Nat → Oc}
set_option maxRecDepth 100000 in
set_option maxHeartbeats 16000000 in
theorem treeUndone_any (h : Ops w a n f) (s u : ByteArray) (hs : s.size ≤ 9223372036854775807) (hu : u.size ≤ 9223372036854775807) : Calls Tryz.prog 8 #[.slice a n c, .string s, .string u] w fun e w' => e = .returned (.bool true) ∧ Below w.heap.size w w' := by
  have HB : Hid (Below w.heap.size w w) := Lib.hid (Below.refl _ _)
  have HA := Lib.hid h
  clear h
  have hc := alive_any w
  go_enter Tryz.func8, Tryz.ntmps8
  go_wp2_with (fail)
  refine hc.mono ?_
  rintro e w91 ⟨rfl, hb⟩
  replace HB := Lib.hid (HB.out.trans (hb.mono HB.out.size))
  replace HA := Lib.hid (HA.out.next hb)
  clear hc hb
  have hc := made_any (c := c) HA.out
  go_wp2_with (fail)
  refine hc.mono ?_
  rintro e w92 ⟨L, aL, cL, ok, rfl, hT, hb⟩
  replace HB := Lib.hid (HB.out.trans (hb.mono HB.out.size))
  replace HA := Lib.hid (HA.out.next hb)
  clear hc hb
  obtain ⟨w93, x9, hw, hx, hV, hb⟩ := new_tr hT
  have HL9 := Lib.hid (show w.heap.size ≤ x9 by rw [hx]; exact HB.out.size)
  replace HB := Lib.hid (HB.out.trans (hb.mono HB.out.size))
  replace HA := Lib.hid (HA.out.next hb)
  have HV9 := Lib.hid hV
  have HW9 := Lib.hid hw
  have HX9 := Lib.hid hx
  have HRG := Lib.hid hV.tv.rgt
  clear hT hw hx hV hb
  cases ok with
  | false =>
    go_wp2_with (fail)
    rw [← HX9.out, ← HW9.out]
    go_ret
    exact ⟨rfl, HB.out⟩
  | true =>
    by_cases hq : 1000 < s.size
    · have hq2 : (1000 : Int) < (s.size : Int) := by omega
      clear hq
      go_wp2_with (fail)
      rw [← HX9.out, ← HW9.out]
      go_ret
      exact ⟨rfl, HB.out⟩
    have hn0 : ¬ (1000 : Int) < (s.size : Int) := by omega
    clear hq
    by_cases hq : 1000 < u.size
    · have hq2 : (1000 : Int) < (u.size : Int) := by omega
      clear hq
      go_wp2_with (fail)
      rw [← HX9.out, ← HW9.out]
      go_ret
      exact ⟨rfl, HB.out⟩
    have hn1 : ¬ (1000 : Int) < (u.size : Int) := by omega
    clear hq
    have HC : Hid (s.size ≤ 1000 ∧ u.size ≤ 1000) := Lib.hid (by omega)
    go_wp2_with (fail)
    rw [← HX9.out, ← HW9.out]
    obtain ⟨wk, hwk⟩ : ∃ wk, wk = w93.alloc (.cells #[.int .i64 1, .int .i64 4, .int .i64 2, .int .i64 5, .int .i64 3, .int .i64 4] 59 (0, 0)) := ⟨_, rfl⟩
    obtain ⟨kb, hkb⟩ : ∃ kb, kb = x9 + 1 := ⟨_, rfl⟩
    have hk9 : w93.heap.size = kb := by rw [hkb, HX9.out, HW9.out]; simp
    have hbk : Below w93.heap.size w93 wk := by rw [hwk]; exact (Below.refl _ _).alloc (Nat.le_refl _) _
    have HK : Hid (KiB wk kb) := Lib.hid (by rw [hwk, ← hk9]; exact heap_alloc_new w93 _)
    skip
    rw [← hkb, ← hwk]
    have HLK := Lib.hid (show w.heap.size ≤ kb by rw [← hk9]; exact HB.out.size)
    clear hwk hkb hk9
    replace HB := Lib.hid (HB.out.trans (hbk.mono HB.out.size))
    replace HA := Lib.hid (HA.out.next hbk)
    replace HV9 := Lib.hid (HV9.out.next hbk)
    clear hbk
    go_loopw [10, 11, 12, 13, 14, 15] (fun v10 _ _ _ _ _ wr => ∃ k : Nat, k ≤ 3 ∧ v10 = .int .i64 k ∧ Below w.heap.size w wr ∧ TvB wr x9 L aL cL ∧ KiB wr kb) (fun v10 _ _ _ _ _ _ => 3 - (RowKit.intOf v10).toNat)
    case atStart => exact ⟨0, by decide, rfl, HB.out, HV9.out, HK.out⟩
    case round =>
      obtain ⟨k, hk, rfl, hB, hV, hK⟩ := hrel
      replace HB := Lib.hid hB
      replace HV9 := Lib.hid hV
      replace HK := Lib.hid hK
      clear hB hV hK
      have h3 : k = 0 ∨ k = 1 ∨ k = 2 ∨ k = 3 := by omega
      clear hk
      rcases h3 with rfl | rfl | rfl | rfl
      · obtain ⟨kc0, kc1, kc2, kc3, kc4, kc5⟩ := HK.out.cells
        have klt := lt_of_block HK.out
        have oV9 := HV9.out.var.cell
        have olV9 := lt_of_block HV9.out.var
        obtain ⟨wo, o1, hw1, hx1, hO1, hb⟩ := new_opc wr 1 0 0 s u none 0 0
        replace HB := Lib.hid (HB.out.trans (hb.mono HB.out.size))
        replace HV9 := Lib.hid (HV9.out.next hb)
        replace HK := Lib.hid (HK.out.next hb)
        clear hb
        obtain ⟨wp, o2, hw2, hx2, hO2, hb⟩ := new_opc wo 4 0 0 s ⟨#[]⟩ none 0 0
        replace hO1 := hO1.next hb
        replace HB := Lib.hid (HB.out.trans (hb.mono HB.out.size))
        replace HV9 := Lib.hid (HV9.out.next hb)
        replace HK := Lib.hid (HK.out.next hb)
        clear hb
        have hx3 : o2 = wr.heap.size + 1 := by rw [hx2, hw1]; simp
        have HXa := Lib.hid hx1
        have HXb := Lib.hid hx3
        have HWa := Lib.hid hw1
        have HWb := Lib.hid hw2
        have HQ1 := Lib.hid hO1
        have HQ2 := Lib.hid hO2
        clear hx1 hx2 hx3 hw1 hw2 hO1 hO2
        have hc := doT HV9.out.tv 1 0 0 s u none 0 0 [] (by have := HC.out; omega) (by have := HC.out; omega) (by decide) (by decide) (Pin.zero _)
        obtain ⟨D1, hD⟩ : ∃ D, D = doO L 1 (nms s) (nms u) 0 0 [] := ⟨_, rfl⟩
        rw [← hD] at hc
        have HD1 := Lib.hid hD
        clear hD
        go_wp2_with (fail)
        rw [← HXb.out, ← HXa.out, ← HWa.out, ← HWb.out]
        refine hc.mono ?_
        rintro e w1 ⟨a1, c1, da1, dn1, dc1, na1, nn1, nc1, Ls1, rfl, hT, hS, hb⟩
        replace HB := Lib.hid (HB.out.trans (hb.mono HB.out.size))
        replace HV9 := Lib.hid (HV9.out.next hb)
        replace HK := Lib.hid (HK.out.next hb)
        replace HQ2 := Lib.hid (HQ2.out.next hb)
        clear hn0 hn1 kc0 kc1 kc2 kc3 kc4 kc5 klt oV9 olV9 hc hb
        obtain ⟨oQ20, oQ21, oQ22, oQ23, oQ24, oQ25⟩ := HQ2.out.cells
        have olQ2 := lt_of_block HQ2.out
        have omQ2 := HQ2.out.load
        obtain ⟨w1s, x1, y1, hw, hx, hy, hV, hR, hb⟩ := new_tr_rs hT hS
        have HL1 := Lib.hid (show w.heap.size ≤ x1 by rw [hx]; exact HB.out.size)
        replace HB := Lib.hid (HB.out.trans (hb.mono HB.out.size))
        replace HV9 := Lib.hid (HV9.out.next hb)
        replace HK := Lib.hid (HK.out.next hb)
        replace HQ2 := Lib.hid (HQ2.out.next hb)
        have HV1 := Lib.hid hV
        have HR1 := Lib.hid hR
        have HW1 := Lib.hid hw
        have HX1 := Lib.hid hx
        have HY1 := Lib.hid hy
        clear hT hS hw hx hy hV hR hb
        unfold resW
        have HLY := Lib.hid (show w.heap.size ≤ y1 by rw [HY1.out]; have := HX1.out; have := HL1.out; omega)
        by_cases he : D1.2.err = 0
        · have HE := Lib.hid he
          have he2 : (D1.2.err != 0) = false := by simpa using he
          clear he
          have hc := doT HV1.out.tv 4 0 0 s (⟨#[]⟩ : ByteArray) none 0 0 [] (by have := HC.out; omega) (by decide) (by decide) (by decide) (Pin.zero _)
          obtain ⟨D2, hD⟩ : ∃ D, D = doO D1.1 4 (nms s) (nms (⟨#[]⟩ : ByteArray)) 0 0 [] := ⟨_, rfl⟩
          rw [← hD] at hc
          have HD2 := Lib.hid hD
          clear hD
          go_wp2_with (fail)
          rw [← HY1.out, ← HX1.out, ← HW1.out]
          refine hc.mono ?_
          rintro e w2 ⟨a2, c2, da2, dn2, dc2, na2, nn2, nc2, Ls2, rfl, hT, hS, hb⟩
          replace HB := Lib.hid (HB.out.trans (hb.mono HB.out.size))
          replace HV9 := Lib.hid (HV9.out.next hb)
          replace HK := Lib.hid (HK.out.next hb)
          replace HQ2 := Lib.hid (HQ2.out.next hb)
          replace HV1 := Lib.hid (HV1.out.next hb)
          replace HR1 := Lib.hid (HR1.out.next hb)
          clear oQ20 oQ21 oQ22 oQ23 oQ24 oQ25 olQ2 omQ2 he2 hc hb
          obtain ⟨r10, r11, r12, r13, r14, r15⟩ := HR1.out.var.cells
          have rlt := HR1.out.var.lt
          have rf0 := HR1.out.var.free 0
          have rf1 := HR1.out.var.free 1
          have rf2 := HR1.out.var.free 2
          have rf3 := HR1.out.var.free 3
          have rf4 := HR1.out.var.free 4
          have rf5 := HR1.out.var.free 5
          have oV9 := HV9.out.var.cell
          have olV9 := lt_of_block HV9.out.var
          obtain ⟨w2s, x2, hw, hx, hV2, hR2, hall, hT2⟩ := new_tr_set HR1.out hT D2.2 da2 dn2 dc2 na2 nn2 nc2
          have HN9 := Lib.hid (ne_ty HV9.out.var HR1.out.var (by decide))
          have hkn : kb ≠ y1 := ne_ty HK.out HR1.out.var (by decide)
          replace HB := Lib.hid (turn_below HB.out HLY.out hT2)
          replace HV9 := Lib.hid (hall _ _ _ _ HV9.out)
          replace HV1 := Lib.hid (hall _ _ _ _ HV1.out)
          replace HK : Hid (KiB w2s kb) := Lib.hid ((hT2.block kb (lt_of_block HK.out) hkn).trans HK.out)
          have HV2 := Lib.hid hV2
          have HR2 := Lib.hid hR2
          have HW2 := Lib.hid hw
          have HX2 := Lib.hid hx
          obtain ⟨p1, p2, p3⟩ := undone_one HRG.out HD1.out HD2.out HE.out
          have q1 : (D2.2.err != 0) = false := by simpa using p1
          have HP := Lib.hid (And.intro p2 p3)
          clear p1 p2 p3 hw hx hV2 hR2 hall hT2 hT hS hkn HR1 HQ2
          unfold resW
          go_upto_region 17 with fail
          rw [← HX2.out, ← HW2.out]
          clear r10 r11 r12 r13 r14 r15 rlt rf0 rf1 rf2 rf3 rf4 rf5 oV9 olV9
          obtain ⟨n10, n11, n12, n13, n14, n15⟩ := HR2.out.cells
          clear HR2
          have vk2 := HV2.out.var.cell
          have lk2 := HV2.out.var.load
          have vk9 := HV9.out.var.cell
          have lk9 := HV9.out.var.load
          have hc := sameT2 HV2.out.tv HV9.out.tv
          rw [decide_eq_true HP.out.1] at hc
          go_wp2_with (fail)
          refine hc.mono ?_
          rintro e w3 ⟨rfl, hb⟩
          replace HB := Lib.hid (HB.out.trans (hb.mono HB.out.size))
          replace HV9 := Lib.hid (HV9.out.next hb)
          replace HK := Lib.hid (HK.out.next hb)
          replace HV1 := Lib.hid (HV1.out.next hb)
          replace HV2 := Lib.hid (HV2.out.next hb)
          clear n10 n11 n12 n13 n14 n15 vk2 lk2 vk9 lk9 hc hb q1
          have vm1 := HV1.out.var.cell
          have lm1 := HV1.out.var.load
          have vm9 := HV9.out.var.cell
          have lm9 := HV9.out.var.load
          have hc := sameT2 HV1.out.tv HV9.out.tv
          rw [decide_eq_false HP.out.2] at hc
          go_wp2_with (fail)
          refine hc.mono ?_
          rintro e w4 ⟨rfl, hb⟩
          replace HB := Lib.hid (HB.out.trans (hb.mono HB.out.size))
          replace HV9 := Lib.hid (HV9.out.next hb)
          replace HK := Lib.hid (HK.out.next hb)
          replace HV1 := Lib.hid (HV1.out.next hb)
          replace HV2 := Lib.hid (HV2.out.next hb)
          clear vm1 lm1 vm9 lm9 hc hb
          go_wp2_with (fail)
          go_roundw
          case rel => exact ⟨1, by decide, rfl, HB.out, HV9.out, HK.out⟩
          case measure => simp [RowKit.intOf]
        · have he2 : (D1.2.err != 0) = true := by simpa using he
          clear he
          go_wp2_with (fail)
          rw [← HW1.out]
          go_roundw
          case rel => exact ⟨1, by decide, rfl, HB.out, HV9.out, HK.out⟩
          case measure => simp [RowKit.intOf]
      · obtain ⟨kc0, kc1, kc2, kc3, kc4, kc5⟩ := HK.out.cells
        have klt := lt_of_block HK.out
        have oV9 := HV9.out.var.cell
        have olV9 := lt_of_block HV9.out.var
        obtain ⟨wo, o1, hw1, hx1, hO1, hb⟩ := new_opc wr 2 0 0 s u none 0 0
        replace HB := Lib.hid (HB.out.trans (hb.mono HB.out.size))
        replace HV9 := Lib.hid (HV9.out.next hb)
        replace HK := Lib.hid (HK.out.next hb)
        clear hb
        obtain ⟨wp, o2, hw2, hx2, hO2, hb⟩ := new_opc wo 5 0 0 s ⟨#[]⟩ none 0 0
        replace hO1 := hO1.next hb
        replace HB := Lib.hid (HB.out.trans (hb.mono HB.out.size))
        replace HV9 := Lib.hid (HV9.out.next hb)
        replace HK := Lib.hid (HK.out.next hb)
        clear hb
        have hx3 : o2 = wr.heap.size + 1 := by rw [hx2, hw1]; simp
        have HXa := Lib.hid hx1
        have HXb := Lib.hid hx3
        have HWa := Lib.hid hw1
        have HWb := Lib.hid hw2
        have HQ1 := Lib.hid hO1
        have HQ2 := Lib.hid hO2
        clear hx1 hx2 hx3 hw1 hw2 hO1 hO2
        have hc := doT HV9.out.tv 2 0 0 s u none 0 0 [] (by have := HC.out; omega) (by have := HC.out; omega) (by decide) (by decide) (Pin.zero _)
        obtain ⟨D1, hD⟩ : ∃ D, D = doO L 2 (nms s) (nms u) 0 0 [] := ⟨_, rfl⟩
        rw [← hD] at hc
        have HD1 := Lib.hid hD
        clear hD
        go_wp2_with (fail)
        rw [← HXb.out, ← HXa.out, ← HWa.out, ← HWb.out]
        refine hc.mono ?_
        rintro e w1 ⟨a1, c1, da1, dn1, dc1, na1, nn1, nc1, Ls1, rfl, hT, hS, hb⟩
        replace HB := Lib.hid (HB.out.trans (hb.mono HB.out.size))
        replace HV9 := Lib.hid (HV9.out.next hb)
        replace HK := Lib.hid (HK.out.next hb)
        replace HQ2 := Lib.hid (HQ2.out.next hb)
        clear hn0 hn1 kc0 kc1 kc2 kc3 kc4 kc5 klt oV9 olV9 hc hb
        obtain ⟨oQ20, oQ21, oQ22, oQ23, oQ24, oQ25⟩ := HQ2.out.cells
        have olQ2 := lt_of_block HQ2.out
        have omQ2 := HQ2.out.load
        obtain ⟨w1s, x1, y1, hw, hx, hy, hV, hR, hb⟩ := new_tr_rs hT hS
        have HL1 := Lib.hid (show w.heap.size ≤ x1 by rw [hx]; exact HB.out.size)
        replace HB := Lib.hid (HB.out.trans (hb.mono HB.out.size))
        replace HV9 := Lib.hid (HV9.out.next hb)
        replace HK := Lib.hid (HK.out.next hb)
        replace HQ2 := Lib.hid (HQ2.out.next hb)
        have HV1 := Lib.hid hV
        have HR1 := Lib.hid hR
        have HW1 := Lib.hid hw
        have HX1 := Lib.hid hx
        have HY1 := Lib.hid hy
        clear hT hS hw hx hy hV hR hb
        unfold resW
        have HLY := Lib.hid (show w.heap.size ≤ y1 by rw [HY1.out]; have := HX1.out; have := HL1.out; omega)
        by_cases he : D1.2.err = 0
        · have HE := Lib.hid he
          have he2 : (D1.2.err != 0) = false := by simpa using he
          clear he
          have hc := doT HV1.out.tv 5 0 0 s (⟨#[]⟩ : ByteArray) none 0 0 [] (by have := HC.out; omega) (by decide) (by decide) (by decide) (Pin.zero _)
          obtain ⟨D2, hD⟩ : ∃ D, D = doO D1.1 5 (nms s) (nms (⟨#[]⟩ : ByteArray)) 0 0 [] := ⟨_, rfl⟩
          rw [← hD] at hc
          have HD2 := Lib.hid hD
          clear hD
          go_wp2_with (fail)
          rw [← HY1.out, ← HX1.out, ← HW1.out]
          refine hc.mono ?_
          rintro e w2 ⟨a2, c2, da2, dn2, dc2, na2, nn2, nc2, Ls2, rfl, hT, hS, hb⟩
          replace HB := Lib.hid (HB.out.trans (hb.mono HB.out.size))
          replace HV9 := Lib.hid (HV9.out.next hb)
          replace HK := Lib.hid (HK.out.next hb)
          replace HQ2 := Lib.hid (HQ2.out.next hb)
          replace HV1 := Lib.hid (HV1.out.next hb)
          replace HR1 := Lib.hid (HR1.out.next hb)
          clear oQ20 oQ21 oQ22 oQ23 oQ24 oQ25 olQ2 omQ2 he2 hc hb
          obtain ⟨r10, r11, r12, r13, r14, r15⟩ := HR1.out.var.cells
          have rlt := HR1.out.var.lt
          have rf0 := HR1.out.var.free 0
          have rf1 := HR1.out.var.free 1
          have rf2 := HR1.out.var.free 2
          have rf3 := HR1.out.var.free 3
          have rf4 := HR1.out.var.free 4
          have rf5 := HR1.out.var.free 5
          have oV9 := HV9.out.var.cell
          have olV9 := lt_of_block HV9.out.var
          obtain ⟨w2s, x2, hw, hx, hV2, hR2, hall, hT2⟩ := new_tr_set HR1.out hT D2.2 da2 dn2 dc2 na2 nn2 nc2
          have HN9 := Lib.hid (ne_ty HV9.out.var HR1.out.var (by decide))
          have hkn : kb ≠ y1 := ne_ty HK.out HR1.out.var (by decide)
          replace HB := Lib.hid (turn_below HB.out HLY.out hT2)
          replace HV9 := Lib.hid (hall _ _ _ _ HV9.out)
          replace HV1 := Lib.hid (hall _ _ _ _ HV1.out)
          replace HK : Hid (KiB w2s kb) := Lib.hid ((hT2.block kb (lt_of_block HK.out) hkn).trans HK.out)
          have HV2 := Lib.hid hV2
          have HR2 := Lib.hid hR2
          have HW2 := Lib.hid hw
          have HX2 := Lib.hid hx
          obtain ⟨p1, p2, p3⟩ := undone_two HRG.out HD1.out HD2.out HE.out
          have q1 : (D2.2.err != 0) = false := by simpa using p1
          have HP := Lib.hid (And.intro p2 p3)
          clear p1 p2 p3 hw hx hV2 hR2 hall hT2 hT hS hkn HR1 HQ2
          unfold resW
          go_upto_region 17 with fail
          rw [← HX2.out, ← HW2.out]
          clear r10 r11 r12 r13 r14 r15 rlt rf0 rf1 rf2 rf3 rf4 rf5 oV9 olV9
          obtain ⟨n10, n11, n12, n13, n14, n15⟩ := HR2.out.cells
          clear HR2
          have vk2 := HV2.out.var.cell
          have lk2 := HV2.out.var.load
          have vk9 := HV9.out.var.cell
          have lk9 := HV9.out.var.load
          have hc := sameT2 HV2.out.tv HV9.out.tv
          rw [decide_eq_true HP.out.1] at hc
          go_wp2_with (fail)
          refine hc.mono ?_
          rintro e w3 ⟨rfl, hb⟩
          replace HB := Lib.hid (HB.out.trans (hb.mono HB.out.size))
          replace HV9 := Lib.hid (HV9.out.next hb)
          replace HK := Lib.hid (HK.out.next hb)
          replace HV1 := Lib.hid (HV1.out.next hb)
          replace HV2 := Lib.hid (HV2.out.next hb)
          clear n10 n11 n12 n13 n14 n15 vk2 lk2 vk9 lk9 hc hb q1
          have vm1 := HV1.out.var.cell
          have lm1 := HV1.out.var.load
          have vm9 := HV9.out.var.cell
          have lm9 := HV9.out.var.load
          have hc := sameT2 HV1.out.tv HV9.out.tv
          rw [decide_eq_false HP.out.2] at hc
          go_wp2_with (fail)
          refine hc.mono ?_
          rintro e w4 ⟨rfl, hb⟩
          replace HB := Lib.hid (HB.out.trans (hb.mono HB.out.size))
          replace HV9 := Lib.hid (HV9.out.next hb)
          replace HK := Lib.hid (HK.out.next hb)
          replace HV1 := Lib.hid (HV1.out.next hb)
          replace HV2 := Lib.hid (HV2.out.next hb)
          clear vm1 lm1 vm9 lm9 hc hb
          go_wp2_with (fail)
          go_roundw
          case rel => exact ⟨2, by decide, rfl, HB.out, HV9.out, HK.out⟩
          case measure => simp [RowKit.intOf]
        · have he2 : (D1.2.err != 0) = true := by simpa using he
          clear he
          go_wp2_with (fail)
          rw [← HW1.out]
          go_roundw
          case rel => exact ⟨2, by decide, rfl, HB.out, HV9.out, HK.out⟩
          case measure => simp [RowKit.intOf]
      · obtain ⟨kc0, kc1, kc2, kc3, kc4, kc5⟩ := HK.out.cells
        have klt := lt_of_block HK.out
        have oV9 := HV9.out.var.cell
        have olV9 := lt_of_block HV9.out.var
        obtain ⟨wo, o1, hw1, hx1, hO1, hb⟩ := new_opc wr 3 0 0 s u none 0 0
        replace HB := Lib.hid (HB.out.trans (hb.mono HB.out.size))
        replace HV9 := Lib.hid (HV9.out.next hb)
        replace HK := Lib.hid (HK.out.next hb)
        clear hb
        obtain ⟨wp, o2, hw2, hx2, hO2, hb⟩ := new_opc wo 4 0 0 u ⟨#[]⟩ none 0 0
        replace hO1 := hO1.next hb
        replace HB := Lib.hid (HB.out.trans (hb.mono HB.out.size))
        replace HV9 := Lib.hid (HV9.out.next hb)
        replace HK := Lib.hid (HK.out.next hb)
        clear hb
        have hx3 : o2 = wr.heap.size + 1 := by rw [hx2, hw1]; simp
        have HXa := Lib.hid hx1
        have HXb := Lib.hid hx3
        have HWa := Lib.hid hw1
        have HWb := Lib.hid hw2
        have HQ1 := Lib.hid hO1
        have HQ2 := Lib.hid hO2
        clear hx1 hx2 hx3 hw1 hw2 hO1 hO2
        have hc := doT HV9.out.tv 3 0 0 s u none 0 0 [] (by have := HC.out; omega) (by have := HC.out; omega) (by decide) (by decide) (Pin.zero _)
        obtain ⟨D1, hD⟩ : ∃ D, D = doO L 3 (nms s) (nms u) 0 0 [] := ⟨_, rfl⟩
        rw [← hD] at hc
        have HD1 := Lib.hid hD
        clear hD
        go_wp2_with (fail)
        rw [← HXb.out, ← HXa.out, ← HWa.out, ← HWb.out]
        refine hc.mono ?_
        rintro e w1 ⟨a1, c1, da1, dn1, dc1, na1, nn1, nc1, Ls1, rfl, hT, hS, hb⟩
        replace HB := Lib.hid (HB.out.trans (hb.mono HB.out.size))
        replace HV9 := Lib.hid (HV9.out.next hb)
        replace HK := Lib.hid (HK.out.next hb)
        replace HQ2 := Lib.hid (HQ2.out.next hb)
        clear hn0 hn1 kc0 kc1 kc2 kc3 kc4 kc5 klt oV9 olV9 hc hb
        obtain ⟨oQ20, oQ21, oQ22, oQ23, oQ24, oQ25⟩ := HQ2.out.cells
        have olQ2 := lt_of_block HQ2.out
        have omQ2 := HQ2.out.load
        obtain ⟨w1s, x1, y1, hw, hx, hy, hV, hR, hb⟩ := new_tr_rs hT hS
        have HL1 := Lib.hid (show w.heap.size ≤ x1 by rw [hx]; exact HB.out.size)
        replace HB := Lib.hid (HB.out.trans (hb.mono HB.out.size))
        replace HV9 := Lib.hid (HV9.out.next hb)
        replace HK := Lib.hid (HK.out.next hb)
        replace HQ2 := Lib.hid (HQ2.out.next hb)
        have HV1 := Lib.hid hV
        have HR1 := Lib.hid hR
        have HW1 := Lib.hid hw
        have HX1 := Lib.hid hx
        have HY1 := Lib.hid hy
        clear hT hS hw hx hy hV hR hb
        unfold resW
        have HLY := Lib.hid (show w.heap.size ≤ y1 by rw [HY1.out]; have := HX1.out; have := HL1.out; omega)
        by_cases he : D1.2.err = 0
        · have HE := Lib.hid he
          have he2 : (D1.2.err != 0) = false := by simpa using he
          clear he
          have hc := doT HV1.out.tv 4 0 0 u (⟨#[]⟩ : ByteArray) none 0 0 [] (by have := HC.out; omega) (by decide) (by decide) (by decide) (Pin.zero _)
          obtain ⟨D2, hD⟩ : ∃ D, D = doO D1.1 4 (nms u) (nms (⟨#[]⟩ : ByteArray)) 0 0 [] := ⟨_, rfl⟩
          rw [← hD] at hc
          have HD2 := Lib.hid hD
          clear hD
          go_wp2_with (fail)
          rw [← HY1.out, ← HX1.out, ← HW1.out]
          refine hc.mono ?_
          rintro e w2 ⟨a2, c2, da2, dn2, dc2, na2, nn2, nc2, Ls2, rfl, hT, hS, hb⟩
          replace HB := Lib.hid (HB.out.trans (hb.mono HB.out.size))
          replace HV9 := Lib.hid (HV9.out.next hb)
          replace HK := Lib.hid (HK.out.next hb)
          replace HQ2 := Lib.hid (HQ2.out.next hb)
          replace HV1 := Lib.hid (HV1.out.next hb)
          replace HR1 := Lib.hid (HR1.out.next hb)
          clear oQ20 oQ21 oQ22 oQ23 oQ24 oQ25 olQ2 omQ2 he2 hc hb
          obtain ⟨r10, r11, r12, r13, r14, r15⟩ := HR1.out.var.cells
          have rlt := HR1.out.var.lt
          have rf0 := HR1.out.var.free 0
          have rf1 := HR1.out.var.free 1
          have rf2 := HR1.out.var.free 2
          have rf3 := HR1.out.var.free 3
          have rf4 := HR1.out.var.free 4
          have rf5 := HR1.out.var.free 5
          have oV9 := HV9.out.var.cell
          have olV9 := lt_of_block HV9.out.var
          obtain ⟨w2s, x2, hw, hx, hV2, hR2, hall, hT2⟩ := new_tr_set HR1.out hT D2.2 da2 dn2 dc2 na2 nn2 nc2
          have HN9 := Lib.hid (ne_ty HV9.out.var HR1.out.var (by decide))
          have hkn : kb ≠ y1 := ne_ty HK.out HR1.out.var (by decide)
          replace HB := Lib.hid (turn_below HB.out HLY.out hT2)
          replace HV9 := Lib.hid (hall _ _ _ _ HV9.out)
          replace HV1 := Lib.hid (hall _ _ _ _ HV1.out)
          replace HK : Hid (KiB w2s kb) := Lib.hid ((hT2.block kb (lt_of_block HK.out) hkn).trans HK.out)
          have HV2 := Lib.hid hV2
          have HR2 := Lib.hid hR2
          have HW2 := Lib.hid hw
          have HX2 := Lib.hid hx
          obtain ⟨p1, p2, p3⟩ := undone_link HRG.out HD1.out HD2.out HE.out
          have q1 : (D2.2.err != 0) = false := by simpa using p1
          have HP := Lib.hid (And.intro p2 p3)
          clear p1 p2 p3 hw hx hV2 hR2 hall hT2 hT hS hkn HR1 HQ2
          unfold resW
          go_upto_region 17 with fail
          rw [← HX2.out, ← HW2.out]
          clear r10 r11 r12 r13 r14 r15 rlt rf0 rf1 rf2 rf3 rf4 rf5 oV9 olV9
          obtain ⟨n10, n11, n12, n13, n14, n15⟩ := HR2.out.cells
          clear HR2
          have vk2 := HV2.out.var.cell
          have lk2 := HV2.out.var.load
          have vk9 := HV9.out.var.cell
          have lk9 := HV9.out.var.load
          have hc := sameT2 HV2.out.tv HV9.out.tv
          rw [decide_eq_true HP.out.1] at hc
          go_wp2_with (fail)
          refine hc.mono ?_
          rintro e w3 ⟨rfl, hb⟩
          replace HB := Lib.hid (HB.out.trans (hb.mono HB.out.size))
          replace HV9 := Lib.hid (HV9.out.next hb)
          replace HK := Lib.hid (HK.out.next hb)
          replace HV1 := Lib.hid (HV1.out.next hb)
          replace HV2 := Lib.hid (HV2.out.next hb)
          clear n10 n11 n12 n13 n14 n15 vk2 lk2 vk9 lk9 hc hb q1
          have vm1 := HV1.out.var.cell
          have lm1 := HV1.out.var.load
          have vm9 := HV9.out.var.cell
          have lm9 := HV9.out.var.load
          have hc := sameT2 HV1.out.tv HV9.out.tv
          rw [decide_eq_false HP.out.2] at hc
          go_wp2_with (fail)
          refine hc.mono ?_
          rintro e w4 ⟨rfl, hb⟩
          replace HB := Lib.hid (HB.out.trans (hb.mono HB.out.size))
          replace HV9 := Lib.hid (HV9.out.next hb)
          replace HK := Lib.hid (HK.out.next hb)
          replace HV1 := Lib.hid (HV1.out.next hb)
          replace HV2 := Lib.hid (HV2.out.next hb)
          clear vm1 lm1 vm9 lm9 hc hb
          go_wp2_with (fail)
          go_roundw
          case rel => exact ⟨3, by decide, rfl, HB.out, HV9.out, HK.out⟩
          case measure => simp [RowKit.intOf]
        · have he2 : (D1.2.err != 0) = true := by simpa using he
          clear he
          go_wp2_with (fail)
          rw [← HW1.out]
          go_roundw
          case rel => exact ⟨3, by decide, rfl, HB.out, HV9.out, HK.out⟩
          case measure => simp [RowKit.intOf]
      · go_wp2_with (fail)
        go_ret
        exact ⟨rfl, HB.out⟩
end
end Go.Proofs.YtinholnidchblaaGreatDoor
