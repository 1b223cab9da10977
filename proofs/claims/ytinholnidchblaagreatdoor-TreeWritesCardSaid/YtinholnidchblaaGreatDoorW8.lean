/-
  TreeWrites: the walk.
-/
import Derived.Test.YtinholnidchblaaGreatDoorQar
import Derived.Deep.RegionHeld
import Derived.BigQuiet
import Derived.Deep.DeepCutAuto
set_option linter.unusedVariables false
set_option linter.unusedSimpArgs false
namespace Go.Proofs.YtinholnidchblaaGreatDoor
open Go.RowKit
set_option linter.unusedVariables false
set_option linter.unusedSimpArgs false

theorem byt_wri (b : List Int) (i : Nat) (z : List Int) (j : Nat) : byt (wriB b i z) j = if i ≤ j ∧ j - i < z.length then byt z (j - i) else byt b j := getD_wri b i z j
theorem nat_same {L : List Nd} {k j : Nat} (h : k < L.length) (b : List Int) (hj : j ≠ k) : nat (setD L k b) j = nat L j := by
  unfold setD
  rw [nat_set _ _ _ _ h, if_neg (fun e => hj e.symm)]
/-- A tree's node in a variable: its bytes. -/
theorem TvB.bytes {w : World} {x : Nat} {L : List Nd} {a : Option Addr} {c : Nat} (h : TvB w x L a c) {j : Nat} (hj : j < L.length) : ∃ b off da dn dc, a = some ⟨b, off, none⟩ ∧ w.cell? ⟨b, off + j * 4 + 2, none⟩ = some (.slice da dn dc) ∧ Bys w da dn (nat L j).d ∧ dn ≤ 46368 := by
  obtain ⟨f, hn, hL, hf, hk⟩ := h.tv.nds
  obtain ⟨b, off, ha, _, d0, d1, d2, d3⟩ := hn.at hj
  have e : nat L j = (f j).nd := by
    have := nat_ndL (f := f) hj
    rwa [hL] at this
  have hb := (hn.data j hj).bys
  refine ⟨b, off, _, _, _, ha, d2, by rw [e]; exact hb, ?_⟩
  have := hb.len
  have := (hk j hj).2.1
  omega
section
variable {w : World} {a : Option Addr} {n c : Nat} {f : Nat → Oc}
set_option maxRecDepth 100000 in
set_option maxHeartbeats 16000000 in
theorem treeWrites_any (h : Ops w a n f) (s : ByteArray) (hs : s.size ≤ 9223372036854775807) (i : Int) (hi : -9223372036854775808 ≤ i ∧ i ≤ 9223372036854775807) (da : Option Addr) (dn dc : Nat) (z : List Int) (hz : Pin w da dn dc z) : Calls Tryz.prog 6 #[.slice a n c, .string s, .int .i64 i, .slice da dn dc] w fun e w' => e = .returned (.bool true) ∧ Below w.heap.size w w' := by
  have HB : Hid (Below w.heap.size w w) := Lib.hid (Below.refl _ _)
  have HA := Lib.hid h
  clear h
  have HZ := Lib.hid hz
  have hdn : dn ≤ 9223372036854775807 := Nat.le_trans hz.cap hz.max
  have HLZ := Lib.hid hz.len
  clear hz
  have hc := alive_any w
  go_enter Tryz.func6, Tryz.ntmps6
  go_wp2_with (fail)
  refine hc.mono ?_
  rintro e w91 ⟨rfl, hb⟩
  replace HB := Lib.hid (HB.out.trans (hb.mono HB.out.size))
  replace HA := Lib.hid (HA.out.next hb)
  replace HZ := Lib.hid (HZ.out.next hb)
  clear hc hb
  have hc := made_any (c := c) HA.out
  go_wp2_with (fail)
  refine hc.mono ?_
  rintro e w92 ⟨L, aL, cL, ok, rfl, hT, hb⟩
  replace HB := Lib.hid (HB.out.trans (hb.mono HB.out.size))
  replace HA := Lib.hid (HA.out.next hb)
  replace HZ := Lib.hid (HZ.out.next hb)
  clear hc hb
  obtain ⟨w93, x9, hw, hx, hV, hb⟩ := new_tr hT
  have HL9 := Lib.hid (show w.heap.size ≤ x9 by rw [hx]; exact HB.out.size)
  replace HB := Lib.hid (HB.out.trans (hb.mono HB.out.size))
  replace HA := Lib.hid (HA.out.next hb)
  replace HZ := Lib.hid (HZ.out.next hb)
  have HV9 := Lib.hid hV
  have HW9 := Lib.hid hw
  have HX9 := Lib.hid hx
  have HRG := Lib.hid hV.tv.rgt
  clear hT hw hx hV hb
  obtain ⟨wo3, o3, hw, hx, hO, hb⟩ := new_opc w93 8 i 0 s ⟨#[]⟩ da dn dc
  have hx2 : o3 = w92.heap.size + 1 := by rw [hx, HW9.out]; simp
  replace HB := Lib.hid (HB.out.trans (hb.mono HB.out.size))
  replace HA := Lib.hid (HA.out.next hb)
  replace HZ := Lib.hid (HZ.out.next hb)
  replace HV9 := Lib.hid (HV9.out.next hb)
  have HQ3 := Lib.hid hO
  have HWo3 := Lib.hid hw
  have HXo3 := Lib.hid hx2
  clear hw hx hx2 hO hb
  cases ok with
  | false =>
    go_wp2_with (fail)
    rw [← HXo3.out, ← HX9.out, ← HW9.out, ← HWo3.out]
    go_ret
    exact ⟨rfl, HB.out⟩
  | true =>
    have hc := long_any wo3 8 i 0 s ⟨#[]⟩ da dn dc hs (by decide) hdn
    go_wp2_with (fail)
    rw [← HXo3.out, ← HX9.out, ← HW9.out, ← HWo3.out]
    refine hc.mono ?_
    rintro e w94 ⟨lb, rfl, hlb, hb⟩
    replace HB := Lib.hid (HB.out.trans (hb.mono HB.out.size))
    replace HA := Lib.hid (HA.out.next hb)
    replace HZ := Lib.hid (HZ.out.next hb)
    replace HV9 := Lib.hid (HV9.out.next hb)
    replace HQ3 := Lib.hid (HQ3.out.next hb)
    clear hc hb
    cases lb with
    | true =>
      go_wp2_with (fail)
      go_ret
      exact ⟨rfl, HB.out⟩
    | false =>
      have HC : Hid (s.size ≤ 1000 ∧ dn ≤ 3000 ∧ z.length = dn) := Lib.hid (by have h7 := hlb rfl; have := HLZ.out; omega)
      clear hlb
      have HPL := Lib.hid (fun D1 D2 D3 F e1 e2 e3 f1 => writes_plain HRG.out (p := s) (r := ⟨#[]⟩) (i := i) (z := z) (D1 := D1) (D2 := D2) (D3 := D3) (F := F) e1 e2 e3 f1)
      have va := HV9.out.var.cell
      have la := HV9.out.var.load
      have hc := doT HV9.out.tv 7 0 100000 s (⟨#[]⟩ : ByteArray) none 0 0 [] (by have := HC.out; omega) (by decide) (by decide) (by decide) (Pin.zero _)
      obtain ⟨D1, hD⟩ : ∃ D, D = doO L 7 (nms s) (nms (⟨#[]⟩ : ByteArray)) 0 100000 [] := ⟨_, rfl⟩
      rw [← hD] at hc
      have HD1 := Lib.hid hD
      clear hD
      go_wp2_with (fail)
      refine hc.mono ?_
      rintro e w1 ⟨a1, c1, da1, dn1, dc1, na1, nn1, nc1, Ls1, rfl, hT, hS, hb⟩
      replace HB := Lib.hid (HB.out.trans (hb.mono HB.out.size))
      replace HA := Lib.hid (HA.out.next hb)
      replace HZ := Lib.hid (HZ.out.next hb)
      replace HV9 := Lib.hid (HV9.out.next hb)
      replace HQ3 := Lib.hid (HQ3.out.next hb)
      clear va la hc hb
      have oV9 := HV9.out.var.cell
      have olV9 := lt_of_block HV9.out.var
      obtain ⟨oQ30, oQ31, oQ32, oQ33, oQ34, oQ35⟩ := HQ3.out.cells
      have olQ3 := lt_of_block HQ3.out
      have omQ3 := HQ3.out.load
      obtain ⟨w1s, x1, y1, hw, hx, hy, hV, hR, hb⟩ := new_tr_rs hT hS
      have HL1 := Lib.hid (show w.heap.size ≤ x1 by rw [hx]; exact HB.out.size)
      replace HB := Lib.hid (HB.out.trans (hb.mono HB.out.size))
      replace HA := Lib.hid (HA.out.next hb)
      replace HZ := Lib.hid (HZ.out.next hb)
      replace HV9 := Lib.hid (HV9.out.next hb)
      replace HQ3 := Lib.hid (HQ3.out.next hb)
      have HV1 := Lib.hid hV
      have HR1 := Lib.hid hR
      have HW1 := Lib.hid hw
      have HX1 := Lib.hid hx
      have HY1 := Lib.hid hy
      clear hT hS hw hx hy hV hR hb
      unfold resW
      have hc := doT HV9.out.tv 8 i 0 s (⟨#[]⟩ : ByteArray) da dn dc z (by have := HC.out; omega) (by decide) hi (by decide) HZ.out
      obtain ⟨D2, hD⟩ : ∃ D, D = doO L 8 (nms s) (nms (⟨#[]⟩ : ByteArray)) i 0 z := ⟨_, rfl⟩
      rw [← hD] at hc
      have HD2 := Lib.hid hD
      clear hD
      go_wp2_with (fail)
      rw [← HY1.out, ← HX1.out, ← HW1.out]
      refine hc.mono ?_
      rintro e w2 ⟨a2, c2, da2, dn2, dc2, na2, nn2, nc2, Ls2, rfl, hT, hS, hb⟩
      replace HB := Lib.hid (HB.out.trans (hb.mono HB.out.size))
      replace HA := Lib.hid (HA.out.next hb)
      replace HZ := Lib.hid (HZ.out.next hb)
      replace HV9 := Lib.hid (HV9.out.next hb)
      replace HQ3 := Lib.hid (HQ3.out.next hb)
      replace HV1 := Lib.hid (HV1.out.next hb)
      replace HR1 := Lib.hid (HR1.out.next hb)
      clear oV9 olV9 oQ30 oQ31 oQ32 oQ33 oQ34 oQ35 olQ3 omQ3 hc hb
      have oV9 := HV9.out.var.cell
      have olV9 := lt_of_block HV9.out.var
      obtain ⟨w2s, x2, y2, hw, hx, hy, hV, hR, hb⟩ := new_tr_rs hT hS
      have HL2 := Lib.hid (show w.heap.size ≤ x2 by rw [hx]; exact HB.out.size)
      replace HB := Lib.hid (HB.out.trans (hb.mono HB.out.size))
      replace HA := Lib.hid (HA.out.next hb)
      replace HZ := Lib.hid (HZ.out.next hb)
      replace HV9 := Lib.hid (HV9.out.next hb)
      replace HQ3 := Lib.hid (HQ3.out.next hb)
      replace HV1 := Lib.hid (HV1.out.next hb)
      replace HR1 := Lib.hid (HR1.out.next hb)
      have HV2 := Lib.hid hV
      have HR2 := Lib.hid hR
      have HW2 := Lib.hid hw
      have HX2 := Lib.hid hx
      have HY2 := Lib.hid hy
      clear hT hS hw hx hy hV hR hb
      unfold resW
      by_cases he : D2.2.err = 0
      · have HE := Lib.hid he
        have he2 : (D2.2.err != 0) = false := by simpa using he
        clear he
        have hc := doT HV2.out.tv 7 0 100000 s (⟨#[]⟩ : ByteArray) none 0 0 [] (by have := HC.out; omega) (by decide) (by decide) (by decide) (Pin.zero _)
        obtain ⟨D3, hD⟩ : ∃ D, D = doO D2.1 7 (nms s) (nms (⟨#[]⟩ : ByteArray)) 0 100000 [] := ⟨_, rfl⟩
        rw [← hD] at hc
        have HD3 := Lib.hid hD
        clear hD
        go_wp2_with (fail)
        rw [← HY2.out, ← HX2.out, ← HW2.out]
        refine hc.mono ?_
        rintro e w3 ⟨a3, c3, da3, dn3, dc3, na3, nn3, nc3, Ls3, rfl, hT, hS, hb⟩
        replace HB := Lib.hid (HB.out.trans (hb.mono HB.out.size))
        replace HA := Lib.hid (HA.out.next hb)
        replace HZ := Lib.hid (HZ.out.next hb)
        replace HV9 := Lib.hid (HV9.out.next hb)
        replace HQ3 := Lib.hid (HQ3.out.next hb)
        replace HV1 := Lib.hid (HV1.out.next hb)
        replace HR1 := Lib.hid (HR1.out.next hb)
        replace HV2 := Lib.hid (HV2.out.next hb)
        replace HR2 := Lib.hid (HR2.out.next hb)
        clear oV9 olV9 he2 hc hb
        obtain ⟨oR10, oR11, oR12, oR13, oR14, oR15⟩ := HR1.out.var.cells
        have olR1 := HR1.out.var.lt
        obtain ⟨oR20, oR21, oR22, oR23, oR24, oR25⟩ := HR2.out.var.cells
        have olR2 := HR2.out.var.lt
        obtain ⟨w3s, x3, y3, hw, hx, hy, hV, hR, hb⟩ := new_tr_rs hT hS
        have HL3 := Lib.hid (show w.heap.size ≤ x3 by rw [hx]; exact HB.out.size)
        replace HB := Lib.hid (HB.out.trans (hb.mono HB.out.size))
        replace HA := Lib.hid (HA.out.next hb)
        replace HZ := Lib.hid (HZ.out.next hb)
        replace HV9 := Lib.hid (HV9.out.next hb)
        replace HQ3 := Lib.hid (HQ3.out.next hb)
        replace HV1 := Lib.hid (HV1.out.next hb)
        replace HR1 := Lib.hid (HR1.out.next hb)
        replace HV2 := Lib.hid (HV2.out.next hb)
        replace HR2 := Lib.hid (HR2.out.next hb)
        have HV3 := Lib.hid hV
        have HR3 := Lib.hid hR
        have HW3 := Lib.hid hw
        have HX3 := Lib.hid hx
        have HY3 := Lib.hid hy
        clear hT hS hw hx hy hV hR hb
        unfold resW
        have HPP := Lib.hid (HPL.out D1 D2 D3 (fiO L (nms s)) HD1.out HD2.out HD3.out rfl HE.out)
        obtain ⟨it, rfl⟩ : ∃ it : Nat, i = (it : Int) := ⟨i.toNat, by have := HPP.out.2.2.2.1; omega⟩
        have HL1 := Lib.hid HR1.out.res.data.len
        have HL3 := Lib.hid HR3.out.res.data.len
        have b1 := HPP.out.2.2.2.1
        have b2 := HPP.out.2.2.2.2.1
        have b3 := HPP.out.2.2.2.2.2.2.1
        obtain ⟨sz, hsz, HSZ⟩ : ∃ sz : Nat, D3.2.d.length = sz ∧ Hid (sz = if z = [] then D1.2.d.length else max D1.2.d.length (it + z.length)) := ⟨_, rfl, Lib.hid (by rw [HPP.out.2.2.2.2.2.1]; exact wriB_len)⟩
        have HSS : Hid (dn3 = sz ∧ sz ≤ 46368) := Lib.hid (by have h7 := HL3.out; have h8 := HSZ.out; have h9 := HC.out; refine ⟨by omega, ?_⟩; rw [h8]; split <;> omega)
        have h11 : (D1.2.err != 0) = false := by simpa using HPP.out.1
        have h12 : (D3.2.err != 0) = false := by simpa using HPP.out.2.1
        have h13 : (D2.2.sz != (dn : Int)) = false := by have h7 := HPP.out.2.2.1; rw [HC.out.2.2] at h7; simpa using h7
        clear hsz
        have h15 : ¬ (it : Int) < 0 := by omega
        have key : ∀ {P : Prop}, ((z = [] ∧ dn = 0 ∧ sz = dn1) → P) → ((0 < dn ∧ (dn = dn) ∧ sz = max dn1 (it + dn)) → P) → P := fun h1 h2 => by
          have h7 := HC.out.2.2
          have h8 := HSZ.out
          have h9 := HL1.out
          by_cases hz0 : z = []
          · refine h1 ⟨hz0, ?_, ?_⟩
            · rw [← h7, hz0]; rfl
            · rw [if_pos hz0] at h8; omega
          · have h6 : 0 < z.length := List.length_pos_iff.2 hz0
            refine h2 ⟨by omega, rfl, ?_⟩
            rw [if_neg hz0] at h8
            omega
        go_upto_if 91 with fail
        rw [← HY3.out, ← HX3.out, ← HW3.out]
        clear oR10 oR11 oR12 oR13 oR14 oR15 olR1 oR20 oR21 oR22 oR23 oR24 oR25 olR2 h11 h12 h13 b1 b2 b3 h15
        go_cut [18] (fun s18 wx => s18 = .int .i64 sz ∧ wx = w3s)
        case first =>
          refine key (fun hk => ?_) (fun hk => ?_)
          · obtain ⟨hk0, hk1, hk2⟩ := hk
            have k1 : ¬ (0 : Int) < (dn : Int) := by omega
            have HK2 := Lib.hid hk2
            clear key hk0 hk1 hk2
            go_wp2_with fail
            go_meet
            exact ⟨by rw [HK2.out], rfl⟩
          · obtain ⟨hk0, -, hk2⟩ := hk
            have k1 : (0 : Int) < (dn : Int) := by omega
            have cu1 : wrap64 ((it : Int) + (dn : Int)) = (it : Int) + (dn : Int) := by have h9 := HPP.out.2.2.2.2.1; rw [HC.out.2.2] at h9; exact IntWalk.wrap64_in _ ⟨by omega, by omega⟩
            have cu2 : max ((dn1 : Nat) : Int) ((it : Int) + (dn : Int)) = (sz : Int) := by omega
            have HK2 := Lib.hid cu2
            clear key hk0 hk2 cu2
            go_wp2_with fail
            go_meet
            exact ⟨by rw [← HK2.out], rfl⟩
        case rest =>
        obtain ⟨rfl, hwc⟩ := hcut
        rw [hwc]
        clear hwc
        have h14 : ((dn3 : Int) != (sz : Int)) = false := by rw [HSS.out.1]; simp
        clear key
        obtain ⟨r30, r31, r32, r33, r34, r35⟩ := HR3.out.var.cells
        go_wp2_with (fail)
        clear r30 r31 r32 r33 r34 r35 h14
        go_loopw [19, 20] (fun v19 _ wr => ∃ k : Nat, k ≤ sz ∧ v19 = .int .i64 k ∧ wr = w3s) (fun v19 _ _ => sz - (RowKit.intOf v19).toNat)
        case atStart => exact ⟨0, Nat.zero_le _, rfl, rfl⟩
        case round =>
          obtain ⟨k, hk, rfl, hwr⟩ := hrel
          subst hwr
          by_cases hlt : k < sz
          · have j0 : (0 : Int) ≤ (k : Int) := by omega
            have j1 : (k : Int) < (sz : Int) := by omega
            have hs9 := HSS.out.2
            have j2 : (k : Int) < (dn3 : Int) := by have := HSS.out.1; omega
            have HLT := Lib.hid hlt
            have e4 := byt_wri D1.2.d it z k
            rw [show wriB D1.2.d it z = D3.2.d from HPP.out.2.2.2.2.2.1.symm, HC.out.2.2] at e4
            have hb1 := HPP.out.2.2.2.1
            have hb2 := HPP.out.2.2.2.2.1
            rw [HC.out.2.2] at hb2
            obtain ⟨f0, f1, f2, f3, f4, f5⟩ := HR1.out.var.cells
            obtain ⟨g0, g1, g2, g3, g4, g5⟩ := HR3.out.var.cells
            obtain ⟨b4, o4, rfl, l4, c4⟩ := HR3.out.res.data.at (by omega)
            have x4 := c4 k (by omega)
            clear c4 l4 f0 f2 f3 f4 f5 g0 g2 g3 g4 g5
            have hl1 := HL1.out
            by_cases h1 : (it : Int) ≤ (k : Int)
            · have h1b : decide ((k : Int) ≥ (it : Int)) = true := by simpa using h1
              have ws : wrap64 ((k : Int) - (it : Int)) = (k : Int) - (it : Int) := IntWalk.wrap64_in _ ⟨by omega, by omega⟩
              by_cases h2 : (k : Int) - (it : Int) < (dn : Int)
              · rw [if_pos (by omega)] at e4
                rw [e4] at x4
                have h0z : 0 < dn := by omega
                obtain ⟨bz, oz, rfl, lz, cz⟩ := HZ.out.at h0z
                have xz := cz (k - it) (by omega)
                have r0 : (0 : Int) ≤ (k : Int) - (it : Int) := by omega
                clear cz lz e4
                by_cases h3 : (k : Int) < (dn1 : Int)
                · obtain ⟨b1, o1, rfl, l1, c1⟩ := HR1.out.res.data.at (by omega)
                  have y0 := c1 k (by omega)
                  clear c1 l1 hl1
                  go_wp2_with (fail)
                  go_roundw
                  case rel => exact ⟨k + 1, HLT.out, by go_num, trivial⟩
                  case measure => have := HLT.out; simp [RowKit.intOf]; omega
                · clear hl1
                  go_wp2_with (fail)
                  go_roundw
                  case rel => exact ⟨k + 1, HLT.out, by go_num, trivial⟩
                  case measure => have := HLT.out; simp [RowKit.intOf]; omega
              · rw [if_neg (by omega)] at e4
                rw [e4] at x4
                by_cases h3 : (k : Int) < (dn1 : Int)
                · obtain ⟨b1, o1, rfl, l1, c1⟩ := HR1.out.res.data.at (by omega)
                  have y0 := c1 k (by omega)
                  clear c1 l1 e4 hl1
                  go_wp2_with (fail)
                  go_roundw
                  case rel => exact ⟨k + 1, HLT.out, by go_num, trivial⟩
                  case measure => have := HLT.out; simp [RowKit.intOf]; omega
                · rw [show byt D1.2.d k = 0 by simp [byt, List.getD, show D1.2.d.length ≤ k by omega]] at x4
                  clear e4 hl1
                  go_wp2_with (fail)
                  go_roundw
                  case rel => exact ⟨k + 1, HLT.out, by go_num, trivial⟩
                  case measure => have := HLT.out; simp [RowKit.intOf]; omega
            · have h1b : decide ((k : Int) ≥ (it : Int)) = false := by simpa using h1
              rw [if_neg (by omega)] at e4
              rw [e4] at x4
              by_cases h3 : (k : Int) < (dn1 : Int)
              · obtain ⟨b1, o1, rfl, l1, c1⟩ := HR1.out.res.data.at (by omega)
                have y0 := c1 k (by omega)
                clear c1 l1 e4 hl1
                go_wp2_with (fail)
                go_roundw
                case rel => exact ⟨k + 1, HLT.out, by go_num, trivial⟩
                case measure => have := HLT.out; simp [RowKit.intOf]; omega
              · rw [show byt D1.2.d k = 0 by simp [byt, List.getD, show D1.2.d.length ≤ k by omega]] at x4
                clear e4 hl1
                go_wp2_with (fail)
                go_roundw
                case rel => exact ⟨k + 1, HLT.out, by go_num, trivial⟩
                case measure => have := HLT.out; simp [RowKit.intOf]; omega
          · obtain rfl : k = sz := by omega
            obtain ⟨kf, hkf, hkl, hN⟩ := HPP.out.2.2.2.2.2.2.2
            have HKL := Lib.hid hkl
            have HN := Lib.hid hN
            have hc := findT HV9.out.tv s (by have := HC.out; omega)
            rw [hkf] at hc
            have v9 := HV9.out.var.cell
            have l9 := HV9.out.var.load
            clear hkf hkl hN
            go_wp2_with (fail)
            refine hc.mono ?_
            rintro e w5 ⟨rfl, hb⟩
            replace HB := Lib.hid (HB.out.trans (hb.mono HB.out.size))
            replace HV9 := Lib.hid (HV9.out.next hb)
            replace HV2 := Lib.hid (HV2.out.next hb)
            have HL2 : Hid (D2.1.length = L.length) := Lib.hid (by rw [HN.out]; exact wri_len HKL.out _)
            have h56 : L.length ≤ 56 := HRG.out.few
            clear hc hb v9 l9
            go_wp2_with (fail)
            go_loopw [23] (fun v23 wr => ∃ j q : Nat, j ≤ L.length ∧ v23 = .int .i64 j ∧ wr = w5.drewN q) (fun v23 _ => L.length - (RowKit.intOf v23).toNat)
            case atStart => exact ⟨0, 0, Nat.zero_le _, rfl, rfl⟩
            case round =>
              obtain ⟨j, q, hj, rfl, hq⟩ := hrel
              have hbq : Below w5.heap.size w5 wr := by rw [hq]; exact below_drewN (Below.refl _ _) q
              have HQ := Lib.hid hq
              clear hq
              have hV9 := HV9.out.next hbq
              have hV2 := HV2.out.next hbq
              have v9 := hV9.var.cell
              have v2 := hV2.var.cell
              have HBR := Lib.hid (HB.out.trans (hbq.mono HB.out.size))
              by_cases hlt : j < L.length
              · have j0 : (0 : Int) ≤ (j : Int) := by omega
                have j1 : (j : Int) < (L.length : Int) := by omega
                have j2 : (j : Int) < (D2.1.length : Int) := by have := HL2.out; omega
                have HLT := Lib.hid hlt
                obtain ⟨b9, o9, da9, dn9, dc9, rfl, c9, y9, z9⟩ := hV9.bytes hlt
                obtain ⟨b2, o2, da8, dn8, dc8, rfl, c2, y2, z2⟩ := hV2.bytes (j := j) (by have := HL2.out; omega)
                by_cases he : j = kf
                · have hd : ((j : Int) != (kf : Int)) = false := by rw [he]; simp
                  clear hV9 hV2 c9 c2 y9 y2 z9 z2 he
                  go_wp2_with (fail)
                  go_quiet (fail)
                  go_wp2_with (fail)
                  go_roundw
                  case rel => exact ⟨j + 1, q + nq, HLT.out, by go_num, by rw [HQ.out, World.drewN_drewN]⟩
                  case measure => have := HLT.out; simp [RowKit.intOf]; omega
                · have hd : ((j : Int) != (kf : Int)) = true := by
                    rw [bne_iff_ne]
                    intro e
                    exact he (by omega)
                  have hsame : (nat L j).d = (nat D2.1 j).d := by rw [HN.out, nat_same HKL.out _ he]
                  have HE : Hid (∀ q, Calls Tryz.prog 23 #[.slice da9 dn9 dc9, .slice da8 dn8 dc8] (wr.drewN q) fun e w' => e = .returned (.bool true) ∧ ∃ m, w' = (wr.drewN q).drewN m) := by
                    show ∀ q, _
                    intro q
                    have := same_any da9 da8 dn9 dc9 dn8 dc8 _ _ (wr.drewN q) (y9.drewN q) (y2.drewN q) (by omega)
                    rwa [sameB_true hsame] at this
                  clear hV9 hV2 y9 y2 z9 z2 he hsame
                  go_wp2_with (fail)
                  go_quiet ((go_at_call 23; exact Calls.quiet_of (HE.out _)))
                  go_wp2_with (fail)
                  go_roundw
                  case rel => exact ⟨j + 1, q + nq, HLT.out, by go_num, by rw [HQ.out, World.drewN_drewN]⟩
                  case measure => have := HLT.out; simp [RowKit.intOf]; omega
              · obtain rfl : j = L.length := by omega
                rw [HL2.out] at v2
                clear hV9 hV2
                go_wp2_with (fail)
                go_ret
                exact ⟨rfl, HBR.out⟩
      · obtain ⟨k1, -⟩ := lp_bad HRG.out HD2.out he
        have he2 : (D2.2.err != 0) = true := by simpa using he
        have hc := sameT2 HV9.out.tv HV2.out.tv
        rw [decide_eq_true k1.symm] at hc
        clear he k1
        go_wp2_with (fail)
        rw [← HY2.out, ← HX2.out, ← HW2.out]
        refine hc.mono ?_
        rintro e w9 ⟨rfl, hb⟩
        replace HB := Lib.hid (HB.out.trans (hb.mono HB.out.size))
        replace HA := Lib.hid (HA.out.next hb)
        replace HZ := Lib.hid (HZ.out.next hb)
        replace HV9 := Lib.hid (HV9.out.next hb)
        replace HQ3 := Lib.hid (HQ3.out.next hb)
        replace HV1 := Lib.hid (HV1.out.next hb)
        replace HR1 := Lib.hid (HR1.out.next hb)
        replace HV2 := Lib.hid (HV2.out.next hb)
        replace HR2 := Lib.hid (HR2.out.next hb)
        clear oV9 olV9 hc hb
        go_wp2_with (fail)
        go_ret
        exact ⟨rfl, HB.out⟩
end
end Go.Proofs.YtinholnidchblaaGreatDoor
