/-
  The law BlockPlaces, walked (of any map that does as its contracts say).
-/
import Derived.Test.YtgedgkdnjnbijaaBq
namespace Go.Proofs.Ytgedgkdnjnbijaa
open Go.RowKit
set_option linter.unusedVariables false
set_option linter.unusedSimpArgs false

theorem ins_turn {M : Nat → Prop} {w w' : World} {a : Option Addr} {n : Nat} {ks : List Int} (h : Ins w a n ks) (ht : Turn M w w') (hm : ∀ x, a = some x → ¬ M x.block) : Ins w' a n ks := by
  refine ⟨h.len, ?_⟩
  rcases h.place with h0 | ⟨b, off, e, hlt, hc⟩
  · exact .inl h0
  · exact .inr ⟨b, off, e, Nat.lt_of_lt_of_le hlt ht.size, fun i hi => (ht.cell (a := ⟨b, off + i, none⟩) hlt (hm ⟨b, off, none⟩ e)).trans (hc i hi)⟩
section
variable {Pmp : Pred} {w : World} {p : Nat} {T D : Nat → Prop} {A : Nat → Int} {X : Nat → List Int}
theorem fresh_l (H : MapOk Pmp) (h : Pmp w p T D A X) :
    Calls Try.prog 20 #[.pointer (some ⟨p, 0, none⟩)] w fun e w' => ∃ a m c F, e = .returned (.slice a m c) ∧ Ins w' a m F ∧ Hid (F = selL (freP X) 828) ∧ m ≤ 828 ∧ (∀ x, a = some x → w.heap.size ≤ x.block ∧ x.block < w'.heap.size) ∧ Below w.heap.size w w' := by
  refine (H.fresh h).mono fun e w' ⟨a, c, he, hi, hx, hb⟩ => ?_
  exact ⟨a, _, c, _, he, hi, Lib.hid rfl, selL_len _ _, hx, hb⟩
theorem there_l (H : MapOk Pmp) (h : Pmp w p T D A X) :
    Calls Try.prog 23 #[.pointer (some ⟨p, 0, none⟩)] w fun e w' => ∃ a m c F, e = .returned (.slice a m c) ∧ Ins w' a m F ∧ Hid (F = selL (theP A X) 828) ∧ m ≤ 828 ∧ (∀ x, a = some x → w.heap.size ≤ x.block ∧ x.block < w'.heap.size) ∧ Below w.heap.size w w' := by
  refine (H.there h).mono fun e w' ⟨a, c, he, hi, hx, hb⟩ => ?_
  exact ⟨a, _, c, _, he, hi, Lib.hid rfl, selL_len _ _, hx, hb⟩
theorem fresh_0 (H : MapOk Pmp) (h : Pmp w p T D A X) (hX : ∀ k, k < 828 → freP X k = false) :
    Calls Try.prog 20 #[.pointer (some ⟨p, 0, none⟩)] w fun e w' => ∃ a c, e = .returned (.slice a 0 c) ∧ Below w.heap.size w w' := by
  have e : selL (freP X) 828 = [] := (selL_congr (q := fun _ => false) hX).trans (sel_none (fun _ => rfl) _)
  refine (H.fresh h).mono fun e' w' ⟨a, c, he, _, _, hb⟩ => ⟨a, c, ?_, hb⟩
  rw [e] at he
  exact he
theorem pl_free' {X : Nat → List Int} {F : List Int} {m : Nat} (hF : F = selL (freP X) 828) (hm : F.length = m) (k : Nat) (hk : k < 828) : freP (plX X F m) k = false := by
  rw [← hm, hF]; exact pl_free X hk
theorem pl_there' {A : Nat → Int} {X : Nat → List Int} {F : List Int} {m : Nat} (hF : F = selL (freP X) 828) (hm : F.length = m) : selL (theP (plA A F m) (plX X F m)) 828 = selL (theP A X) 828 := by
  rw [← hm, hF]; exact selL_congr fun k hk => pl_there A X hk
theorem pl_yes {X : Nat → List Int} {F : List Int} {m j k : Nat} (hF : F = selL (freP X) 828) (hm : F.length = m) (hj : j < m) (hm8 : m ≤ 828) (hk : k < 828) (hz : num F j = (k : Int)) : plO (plX X F j) (k : Int) (100 + (j : Int)) = true := by
  have hR : Ris F := by rw [hF]; exact ris_sel _
  have h1 := plX_at (X := X) hR (i := j) (by omega)
  have h2 : (k : Int) ∈ selL (freP X) 828 := by rw [← hF, ← hz]; exact num_mem (by omega)
  obtain ⟨k', _, h3, h4⟩ := selL_mem.1 h2
  obtain rfl : k' = k := by omega
  rw [hz, Int.toNat_natCast] at h1
  rw [plO, byO, Int.toNat_natCast, h1, inK_iff.2 ⟨by omega, by omega⟩, decide_eq_true (by omega)]
  simpa [freP] using h3
/-- Whatever is put. -/
theorem put_some (H : MapOk Pmp) (h : Pmp w p T D A X) (k : Int) {a : Option Addr} {n c : Nat} {x : List Int} (hx : Pin w a n c x) (hb : 0 < n → ∀ y, a = some y → ¬ T y.block) :
    Calls Try.prog 16 #[.pointer (some ⟨p, 0, none⟩), .int .i64 k, .slice a n c] w fun e w' => ∃ z A' X', e = .returned (.int .i64 z) ∧ Left Pmp w p T D A' X' w' :=
  (H.put h k a n c x hx hb).mono fun e w' ⟨he, hl⟩ => ⟨_, _, _, he, hl⟩
end
set_option maxRecDepth 100000 in
set_option maxHeartbeats 16000000 in
theorem places_any {Pmp : Pred} (H : MapOk Pmp) (a0 : Option Addr) (n0 c0 : Nat) (ks : List Int) (a1 : Option Addr) (n1 c1 : Nat) (f1 : Nat → Pc) (w : World) (h0 : Ins w a0 n0 ks) (z0 : a0 = none → n0 = 0 ∧ c0 = 0) (h1 : Rws w a1 n1 f1) :
    Calls Try.prog 7 #[.slice a0 n0 c0, .slice a1 n1 c1] w fun e w' => e = .returned (.bool true) ∧ Below w.heap.size w w' := by
  have HH := Lib.hid H
  have HL := Lib.hid h0
  have HZ := Lib.hid z0
  have HR := Lib.hid h1
  have hlen := h0.len
  clear H h0 z0 h1
  by_cases g0 : 828 < n0
  · have k0 : (828 : Int) < (n0 : Int) := by omega
    clear g0
    go_enter Try.func7, Try.ntmps7
    go_wp2_with (fail)
    refine (alive_any HH.out w).mono ?_
    rintro e wb ⟨rfl, hb⟩
    have HB := Lib.hid hb
    clear hb
    go_wp2_with (fail)
    go_ret
    exact ⟨rfl, HB.out⟩
  have k0 : ¬ (828 : Int) < (n0 : Int) := by omega
  have HN := Lib.hid (show n0 ≤ 828 by omega)
  have HLE := Lib.hid hlen
  clear g0 hlen
  by_cases g1 : 100 < n1
  · have k1 : (100 : Int) < (n1 : Int) := by omega
    clear g1
    go_enter Try.func7, Try.ntmps7
    go_wp2_with (fail)
    refine (alive_any HH.out w).mono ?_
    rintro e wb ⟨rfl, hb⟩
    have HB := Lib.hid hb
    clear hb
    go_wp2_with (fail)
    go_ret
    exact ⟨rfl, HB.out⟩
  have k1 : ¬ (100 : Int) < (n1 : Int) := by omega
  have HN1 := Lib.hid (show n1 ≤ 100 by omega)
  clear g1
  go_enter Try.func7, Try.ntmps7
  go_wp2_with (fail)
  refine (alive_any HH.out w).mono ?_
  rintro e wb ⟨rfl, hb⟩
  have HB := Lib.hid hb
  clear hb
  go_wp2_with (fail)
  refine (HH.out.new a0 n0 c0 ks wb (HL.out.next HB.out) HZ.out (by have := HN.out; omega)).mono ?_
  rintro e wc ⟨h1, h2, hb⟩
  have HB2 := Lib.hid (HB.out.trans (hb.mono HB.out.size))
  cases hnw : nwO ks with
  | false =>
    obtain rfl := h2 hnw
    clear h1 h2 hb hnw
    go_wp2_with (fail)
    go_ret
    exact ⟨rfl, HB2.out⟩
  | true =>
    obtain ⟨p, T, D, rfl, hP, hD⟩ := h1 hnw
    have HP := Lib.hid hP
    have HD := Lib.hid (show ∀ j, D j → w.heap.size ≤ j from fun j hj => Nat.le_trans HB.out.size (hD j hj))
    have HW := Lib.hid hnw
    clear h1 h2 hb hnw hP hD
    go_wp2_with (fail)
    go_loopw [7] (fun v wr => ∃ (i : Nat) (A : Nat → Int) (X : Nat → List Int) (T D : Nat → Prop), i ≤ n1 ∧ v = .int .i64 i ∧ Pmp wr p T D A X ∧ (∀ j, D j → w.heap.size ≤ j) ∧ Below w.heap.size w wr) (fun v _ => n1 - (RowKit.intOf v).toNat)
    case atStart => exact ⟨0, _, _, _, _, by omega, rfl, HP.out, HD.out, HB2.out⟩
    case round =>
      obtain ⟨i, A, X, T1, D1, hi, rfl, hP1, hD1, hB1⟩ := hrel
      have HP1 := Lib.hid hP1
      have HD1 := Lib.hid hD1
      have HB1 := Lib.hid hB1
      clear hP1 hD1 hB1 HP HD HB2 HB
      by_cases hlt : i < n1
      · obtain ⟨b, off, y, k, d, zs, rfl, hbl, hcs, hpn, _, _⟩ := HR.out.at hlt
        have hc1 := (HB1.out.cell (p := ⟨b, off + i, none⟩) hbl).trans hcs
        have hpn1 := hpn.next HB1.out
        have hyb : 0 < k → ∀ z, y = some z → ¬ T1 z.block := fun hk z e ht => by
          have := HD1.out _ (HH.out.td HP1.out _ ht)
          rcases hpn.bys.place with h | ⟨b', off', e', hlt', _⟩
          · omega
          · rw [e] at e'; cases e'; simp at this; omega
        have w1 : IntKind.i64.wrap (3 * (i : Int)) = 3 * (i : Int) := IntWalk.i64_in _ (by have := HN1.out; omega)
        have hput := put_some HH.out HP1.out (3 * (i : Int)) hpn1 hyb
        clear hcs hpn hpn1 hyb
        go_wp2_with (fail)
        refine hput.mono ?_
        rintro e wd ⟨z, A2, X2, rfl, hl⟩
        have hbl := hl.below HB1.out.size (fun j hj => HD1.out j (HH.out.td HP1.out j hj))
        obtain ⟨_, T2, D2, hP2, hT2, hD2⟩ := hl
        have HP2 := Lib.hid hP2
        have HD2 := Lib.hid (show ∀ j, D2 j → w.heap.size ≤ j from fun j hj => (hD2 j hj).elim (HD1.out j) (fun h => Nat.le_trans HB1.out.size h))
        have HB2 := Lib.hid (HB1.out.trans hbl)
        clear hbl hP2 hT2 hD2 hput
        go_wp2_with (fail)
        go_roundw
        case rel => exact ⟨i + 1, _, _, _, _, by omega, by go_num, HP2.out, HD2.out, HB2.out⟩
        case measure => simp [RowKit.intOf]; omega
      · obtain rfl : i = n1 := by omega
        go_wp2_with (fail)
        refine (fresh_l HH.out HP1.out).mono ?_
        rintro e wg ⟨aF, m, cF, F, rfl, hiF, hF, hm, hxF, hb⟩
        have HIF := Lib.hid hiF
        obtain ⟨S1, hS1⟩ : ∃ s, s = wr.heap.size := ⟨_, rfl⟩
        rw [← hS1] at hxF
        have HS1 := Lib.hid hS1
        have HXF := Lib.hid hxF
        clear hS1
        have HLO := Lib.hid (show ∀ j, D1 j → j < S1 from fun j hj => by rw [HS1.out]; exact HH.out.lt HP1.out j hj)
        have HSG := Lib.hid (show S1 ≤ wg.heap.size by rw [HS1.out]; exact hb.size)
        replace HP1 := Lib.hid (HH.out.next HP1.out hb)
        replace HB1 := Lib.hid (HB1.out.trans (hb.mono HB1.out.size))
        clear hb hiF hxF
        go_wp2_with (fail)
        refine (there_l HH.out HP1.out).mono ?_
        rintro e wh ⟨aT, q, cT, L, rfl, hiT, hLL, hq, hxT, hb⟩
        have HIT := Lib.hid hiT
        have HXT := Lib.hid hxT
        have HSH := Lib.hid hb.size
        replace HP1 := Lib.hid (HH.out.next HP1.out hb)
        replace HB1 := Lib.hid (HB1.out.trans (hb.mono HB1.out.size))
        replace HIF := Lib.hid (HIF.out.next hb)
        have HRI := Lib.hid (show Ris F by rw [hF.out]; exact ris_sel _)
        have HML := Lib.hid (show F.length = m from HIF.out.len)
        have HIL := Lib.hid (show L.length = q from HIT.out.len)
        have HF := Lib.hid hF.out
        clear hb hiT hxT
        go_wp2_with (fail)
        go_loopw [10] (fun v ww => ∃ (j : Nat) (T2 D2 : Nat → Prop), j ≤ m ∧ v = .int .i64 j ∧ Pmp ww p T2 D2 (plA A F j) (plX X F j) ∧ (∀ j, D2 j → w.heap.size ≤ j ∧ (j < S1 ∨ wh.heap.size ≤ j)) ∧ Ins ww aF m F ∧ Ins ww aT q L ∧ wh.heap.size ≤ ww.heap.size ∧ Below w.heap.size w ww) (fun v _ => m - (RowKit.intOf v).toNat)
        case atStart => exact ⟨0, _, _, by omega, rfl, HP1.out, (fun j hj => ⟨HD1.out j hj, .inl (HLO.out j hj)⟩), HIF.out, HIT.out, Nat.le_refl _, HB1.out⟩
        case round =>
          obtain ⟨j, T2, D2, hj, rfl, hP2, hD2, hiF, hiT, hsz, hB2⟩ := hrel
          have HP2 := Lib.hid hP2
          have HD2 := Lib.hid hD2
          have HJF := Lib.hid hiF
          have HJT := Lib.hid hiT
          have HSZ := Lib.hid hsz
          have HB2 := Lib.hid hB2
          clear hP2 hD2 hiF hiT hsz hB2 HP1 HB1 HIF HIT
          by_cases hlt : j < m
          · obtain ⟨b, off, rfl, hbl, hcs⟩ := HJF.out.at (by omega : 0 < m)
            have hc1 := hcs j hlt
            obtain ⟨k, hk, hz⟩ : ∃ k : Nat, k < 828 ∧ num F j = (k : Int) := by
              obtain ⟨h1, h2⟩ := HRI.out.bd j (by have := HML.out; omega)
              exact ⟨(num F j).toNat, by omega, by omega⟩
            rw [hz] at hc1
            have HZ1 := Lib.hid hz
            have HPL := Lib.hid (pl_yes HF.out HML.out hlt hm hk hz)
            have w1 : IntKind.i64.wrap (100 + (j : Int)) = 100 + (j : Int) := IntWalk.i64_in _ (by omega)
            clear hcs hz hbl
            go_wp2_with (fail)
            refine (place_yes HH.out HP2.out HPL.out).mono ?_
            rintro e wk ⟨rfl, hl⟩
            have hbl := hl.below HB2.out.size (fun j hj => (HD2.out j (HH.out.td HP2.out j hj)).1)
            obtain ⟨htn, T3, D3, hP3, hT3, hD3⟩ := hl
            have hs3 := htn.size
            have HP3 := Lib.hid (show Pmp wk p T3 D3 (plA A F (j + 1)) (plX X F (j + 1)) by rw [plA, plX, HZ1.out, Int.toNat_natCast]; exact hP3)
            have HD3 := Lib.hid (show ∀ j, D3 j → w.heap.size ≤ j ∧ (j < S1 ∨ wh.heap.size ≤ j) from fun j hj => (hD3 j hj).elim (HD2.out j) (fun h => ⟨Nat.le_trans HB2.out.size h, .inr (Nat.le_trans HSZ.out h)⟩))
            have HB3 := Lib.hid (HB2.out.trans hbl)
            have HSZ3 := Lib.hid (Nat.le_trans HSZ.out hs3)
            have HJF3 := Lib.hid (ins_turn HJF.out htn (fun x e hx => by
              have h1 := HXF.out x e
              have h2 := (HD2.out _ (HH.out.td HP2.out _ hx)).2
              have := HSH.out
              omega))
            have HJT3 := Lib.hid (ins_turn HJT.out htn (fun x e hx => by
              have h1 := HXT.out x e
              have h2 := (HD2.out _ (HH.out.td HP2.out _ hx)).2
              have := HSG.out
              omega))
            clear hbl hP3 hD3 hT3 htn hs3 hc1 w1
            go_wp2_with (fail)
            go_roundw
            case rel => exact ⟨j + 1, _, _, by omega, by go_num, HP3.out, HD3.out, HJF3.out, HJT3.out, HSZ3.out, HB3.out⟩
            case measure => simp [RowKit.intOf]; omega
          · obtain rfl : j = m := by omega
            go_wp2_with (fail)
            go_loopw [11] (fun v ws => ∃ i : Nat, i ≤ j ∧ v = .int .i64 i ∧ Below wr.heap.size wr ws) (fun v _ => j - (RowKit.intOf v).toNat)
            case atStart => exact ⟨0, by omega, rfl, Below.refl _ _⟩
            case round =>
              obtain ⟨i, hi, rfl, hbs⟩ := hrel
              have HP4 := Lib.hid (HH.out.next HP2.out hbs)
              have HJF4 := Lib.hid (HJF.out.next hbs)
              have HJT4 := Lib.hid (HJT.out.next hbs)
              have HB4 := Lib.hid (HB2.out.trans (hbs.mono HB2.out.size))
              have HBS := Lib.hid hbs
              clear hbs
              by_cases hlt : i < j
              · obtain ⟨b, off, rfl, hbl, hcs⟩ := HJF4.out.at (by omega : 0 < j)
                have hc1 := hcs i hlt
                obtain ⟨k, hk, hz⟩ : ∃ k : Nat, k < 828 ∧ num F i = (k : Int) := by
                  obtain ⟨h1, h2⟩ := HRI.out.bd i (by have := HML.out; omega)
                  exact ⟨(num F i).toNat, by omega, by omega⟩
                rw [hz] at hc1
                have had := HH.out.ad HP4.out (k : Int)
                have h100 := plA_on (A := A) HRI.out hlt (by have := HML.out; omega)
                rw [hz, Int.toNat_natCast] at h100
                rw [adO_yes _ hk, h100] at had
                have w1 : IntKind.i64.wrap (100 + (i : Int)) = 100 + (i : Int) := IntWalk.i64_in _ (by omega)
                have d2 : ((100 + (i : Int)) != (100 + (i : Int))) = false := by simp
                clear hcs hz hbl h100
                go_wp2_with (fail)
                refine had.mono ?_
                rintro e wk ⟨rfl, hb⟩
                have HBK := Lib.hid (HBS.out.trans (hb.mono HBS.out.size))
                have hc1 := (HJF4.out.next hb).at (by omega : 0 < j)
                clear hb had hc1
                go_wp2_with (fail)
                go_roundw
                case rel => exact ⟨i + 1, by omega, by go_num, HBK.out⟩
                case measure => simp [RowKit.intOf]; omega
              · obtain rfl : i = j := by omega
                go_wp2_with (fail)
                refine (fresh_0 HH.out HP4.out (pl_free' HF.out HML.out)).mono ?_
                rintro e wk ⟨a6, c6, rfl, hb⟩
                replace HP4 := Lib.hid (HH.out.next HP4.out hb)
                replace HB4 := Lib.hid (HB4.out.trans (hb.mono HB4.out.size))
                replace HJT4 := Lib.hid (HJT4.out.next hb)
                clear hb
                go_wp2_with (fail)
                refine (there_l HH.out HP4.out).mono ?_
                rintro e wl ⟨a7, q7, c7, L7, rfl, hi7, hL7, hq7, _, hb⟩
                obtain rfl : L7 = L := by rw [hL7.out, pl_there' HF.out HML.out, hLL.out]
                obtain rfl : q7 = q := by rw [← hi7.len, HIL.out]
                have HI7 := Lib.hid hi7
                replace HB4 := Lib.hid (HB4.out.trans (hb.mono HB4.out.size))
                replace HJT4 := Lib.hid (HJT4.out.next hb)
                clear hb hi7
                go_wp2_with (fail)
                refine (sameInts_yes a7 aT _ c7 cT _ _ HI7.out HJT4.out (by omega)).mono ?_
                rintro e wm ⟨rfl, hb⟩
                replace HB4 := Lib.hid (HB4.out.trans (hb.mono HB4.out.size))
                clear hb
                go_wp2_with (fail)
                go_ret
                exact ⟨rfl, HB4.out⟩
end Go.Proofs.Ytgedgkdnjnbijaa
