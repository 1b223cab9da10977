/-
  The law's 'same', of any map that does as its contracts say; 'told', whatever is called.
-/
import Derived.Test.YtgedgkdnjnbijaaTd
import Derived.Test.YtgedgkdnjnbijaaWl
namespace Go.Proofs.Ytgedgkdnjnbijaa
open Go.RowKit
set_option linter.unusedVariables false
set_option linter.unusedSimpArgs false

section
variable {Pmp : Pred} {w : World} {p b : Nat} {T D G : Nat → Prop} {A : Nat → Int} {X : Nat → List Int} {q k n : Int} {a : Option Addr} {l c : Nat} {zs : List Int}
theorem rfresh_l (h : Bmp w b G A X) :
    Calls Try.prog 36 #[.pointer (some ⟨b, 0, none⟩)] w fun e w' => ∃ a m c F, e = .returned (.slice a m c) ∧ Ins w' a m F ∧ Hid (F = selL (freP X) 828) ∧ m ≤ 828 ∧ Below w.heap.size w w' := by
  refine (rfresh_any b G A X w h).mono fun e w' ⟨a, c, he, hi, _, hb⟩ => ?_
  exact ⟨a, _, c, _, he, hi, Lib.hid rfl, selL_len _ _, hb⟩
theorem rthere_l (h : Bmp w b G A X) :
    Calls Try.prog 37 #[.pointer (some ⟨b, 0, none⟩)] w fun e w' => ∃ a m c F, e = .returned (.slice a m c) ∧ Ins w' a m F ∧ Hid (F = selL (theP A X) 828) ∧ m ≤ 828 ∧ Below w.heap.size w w' := by
  refine (rthere_any b G A X w h).mono fun e w' ⟨a, c, he, hi, _, hb⟩ => ?_
  exact ⟨a, _, c, _, he, hi, Lib.hid rfl, selL_len _ _, hb⟩
set_option maxRecDepth 100000 in
set_option maxHeartbeats 8000000 in
theorem samep_any (H : MapOk Pmp) (h : Two Pmp w p b T D G A X A X) (hs : Sml X) :
    Calls Try.prog 15 #[.pointer (some ⟨p, 0, none⟩), .pointer (some ⟨b, 0, none⟩)] w fun e w' => e = .returned (.bool true) ∧ Below w.heap.size w w' := by
  have HH := Lib.hid H
  have HT := Lib.hid h
  have HS := Lib.hid hs
  clear H h hs
  go_enter Try.func15, Try.ntmps15
  go_wp2_with (fail)
  refine (fresh_l HH.out HT.out.pm).mono ?_
  rintro e w1 ⟨a1, m1, c1, F1, rfl, hi1, hF1, hm1, _, hb⟩
  replace HT := Lib.hid (HT.out.next HH.out hb)
  have HB := Lib.hid hb
  have HI := Lib.hid hi1
  clear hb hi1
  go_wp2_with (fail)
  refine (rfresh_l HT.out.rm).mono ?_
  rintro e w2 ⟨a2, m2, c2, F2, rfl, hi2, hF2, hm2, hb⟩
  obtain rfl : F2 = F1 := by rw [hF1.out, hF2.out]
  obtain rfl : m2 = m1 := by rw [← HI.out.len, ← hi2.len]
  replace HT := Lib.hid (HT.out.next HH.out hb)
  replace HB := Lib.hid (HB.out.trans (hb.mono HB.out.size))
  replace HI := Lib.hid (HI.out.next hb)
  have HI2 := Lib.hid hi2
  clear hb hi2
  go_wp2_with (fail)
  refine (sameInts_yes a1 a2 _ c1 c2 _ _ HI.out HI2.out (by omega)).mono ?_
  rintro e w3 ⟨rfl, hb⟩
  replace HT := Lib.hid (HT.out.next HH.out hb)
  replace HB := Lib.hid (HB.out.trans (hb.mono HB.out.size))
  clear hb HI HI2 hF1 hF2 hm1 hm2
  go_wp2_with (fail)
  refine (there_l HH.out HT.out.pm).mono ?_
  rintro e w1 ⟨a1, m1, c1, F1, rfl, hi1, hF1, hm1, _, hb⟩
  replace HT := Lib.hid (HT.out.next HH.out hb)
  replace HB := Lib.hid (HB.out.trans (hb.mono HB.out.size))
  have HI := Lib.hid hi1
  clear hb hi1
  go_wp2_with (fail)
  refine (rthere_l HT.out.rm).mono ?_
  rintro e w2 ⟨a2, m2, c2, F2, rfl, hi2, hF2, hm2, hb⟩
  obtain rfl : F2 = F1 := by rw [hF1.out, hF2.out]
  obtain rfl : m2 = m1 := by rw [← HI.out.len, ← hi2.len]
  replace HT := Lib.hid (HT.out.next HH.out hb)
  replace HB := Lib.hid (HB.out.trans (hb.mono HB.out.size))
  replace HI := Lib.hid (HI.out.next hb)
  have HI2 := Lib.hid hi2
  clear hb hi2
  go_wp2_with (fail)
  refine (sameInts_yes a1 a2 _ c1 c2 _ _ HI.out HI2.out (by omega)).mono ?_
  rintro e w3 ⟨rfl, hb⟩
  replace HT := Lib.hid (HT.out.next HH.out hb)
  replace HB := Lib.hid (HB.out.trans (hb.mono HB.out.size))
  clear hb HI HI2 hF1 hF2 hm1 hm2
  go_wp2_with (fail)
  refine (rthere_l HT.out.rm).mono ?_
  rintro e w2 ⟨aL, m, cL, L, rfl, hi2, hF2, hm, hb⟩
  replace HT := Lib.hid (HT.out.next HH.out hb)
  replace HB := Lib.hid (HB.out.trans (hb.mono HB.out.size))
  have HL := Lib.hid hi2
  have HR := Lib.hid (show Ris L by rw [hF2.out]; exact ris_sel _)
  have HM := Lib.hid (show L.length = m from hi2.len)
  clear hb hi2 hF2
  go_wp2_with (fail)
  go_loopw [6] (fun v wr => ∃ i : Nat, i ≤ m ∧ v = .int .i64 i ∧ Below w2.heap.size w2 wr) (fun v _ => m - (RowKit.intOf v).toNat)
  case atStart => exact ⟨0, by omega, rfl, Below.refl _ _⟩
  case round =>
    obtain ⟨i, hi, rfl, hbr⟩ := hrel
    have HTR := Lib.hid (HT.out.next HH.out hbr)
    have HLR := Lib.hid (HL.out.next hbr)
    have HBR := Lib.hid hbr
    clear hbr
    by_cases hlt : i < m
    · obtain ⟨g, off, rfl, hgl, hcs⟩ := HLR.out.at (by omega : 0 < m)
      have hc1 := hcs i hlt
      obtain ⟨k, hk, hz⟩ : ∃ k : Nat, k < 828 ∧ num L i = (k : Int) := by
        obtain ⟨h1, h2⟩ := HR.out.bd i (by have := HM.out; omega)
        exact ⟨(num L i).toNat, by omega, by omega⟩
      rw [hz] at hc1
      have HG := Lib.hid hgl
      clear hcs hz hgl
      go_wp2_with (fail)
      refine (HH.out.bytes HTR.out.pm (k : Int)).mono ?_
      rintro e w4 ⟨a4, n4, c4, rfl, hp4, hb⟩
      replace hc1 := (hb.cell (p := ⟨g, off + i, none⟩) HG.out).trans hc1
      replace HG := Lib.hid (Nat.lt_of_lt_of_le HG.out hb.size)
      replace HTR := Lib.hid (HTR.out.next HH.out hb)
      replace HBR := Lib.hid (HBR.out.trans (hb.mono HBR.out.size))
      have HP4 := Lib.hid hp4
      clear hb hp4
      go_wp2_with (fail)
      refine (rbytes_any b G A X (k : Int) _ HTR.out.rm HS.out).mono ?_
      rintro e w5 ⟨a5, n5, c5, rfl, hp5, _, hb⟩
      have hbd := below_drewN hb 1
      have hcw := (hb.cell (p := ⟨g, off + i, none⟩) HG.out).trans hc1
      have HC := Lib.hid hcw
      replace HG := Lib.hid (Nat.lt_of_lt_of_le HG.out hb.size)
      replace HTR := Lib.hid (HTR.out.next HH.out hbd)
      replace HBR := Lib.hid (HBR.out.trans (hbd.mono HBR.out.size))
      replace HP4 := Lib.hid (HP4.out.next hbd)
      have HP5 := Lib.hid (hp5.drewN 1)
      have hx := by_small HS.out (k : Int)
      have HX := Lib.hid (show n4 ≤ 1000000000000 by have := HP4.out.len; omega)
      obtain ⟨ok, hok⟩ : ∃ z, z = byO X (k : Int) := ⟨_, rfl⟩
      rw [← hok]
      have d2 : (ok != ok) = false := by simp
      have d1 : (adO A (k : Int) != adO A (k : Int)) = false := by simp
      clear hb hbd hp5 hx hc1 hok
      go_upto_region 9 with fail
      refine wp_region_held_drew (S := (fun w' => w'.cell? ⟨g, off + i, none⟩ = some (.int .i64 k))) (by kernel_rfl) ?_ (fun hHeld => ?_)
      · exact hcw
      clear hcw
      refine wpAnyH_take (i := 0) (v := ?_) rfl (by kernel_rfl) (by kernel_rfl) (by kernel_rfl) (fun _ _ _ h => h) (Or.inl ⟨by rfl, fun w hSw => ?_⟩) (by assumption) ?_
      rotate_left
      · (try dsimp only at hSw); go_simp; try with_reducible rfl
      simp only [Act.put, List.setIfInBounds_toArray, List.set_cons_zero, List.set_cons_succ, List.getElem_toArray, List.getElem_cons_zero]
      refine wpAnyH_take (i := 1) (v := ?_) rfl (by kernel_rfl) (by kernel_rfl) (by kernel_rfl) (fun _ _ _ h => h) (Or.inl ⟨by rfl, fun w hSw => ?_⟩) (by assumption) ?_
      rotate_left
      · (try dsimp only at hSw); go_simp; try with_reducible rfl
      simp only [Act.put, List.setIfInBounds_toArray, List.set_cons_zero, List.set_cons_succ, List.getElem_toArray, List.getElem_cons_succ, List.getElem_cons_zero]
      refine wpAnyH_take (i := 2) (v := ?_) rfl (by kernel_rfl) (by kernel_rfl) (by kernel_rfl) (fun _ _ _ h => h) (Or.inl ⟨by rfl, fun w hSw => ?_⟩) (by assumption) ?_
      rotate_left
      · (try dsimp only at hSw); go_simp; try with_reducible rfl
      simp only [Act.put, List.setIfInBounds_toArray, List.set_cons_zero, List.set_cons_succ, List.getElem_toArray, List.getElem_cons_succ, List.getElem_cons_zero]
      refine wpAnyH_take (i := 3) (v := ?_) rfl (by kernel_rfl) (by kernel_rfl) (by kernel_rfl) (fun _ _ _ h => h) (Or.inl ⟨by rfl, fun w hSw => ?_⟩) (by assumption) ?_
      rotate_left
      · (try dsimp only at hSw); go_simp; try with_reducible rfl
      simp only [Act.put, List.setIfInBounds_toArray, List.set_cons_zero, List.set_cons_succ, List.getElem_toArray, List.getElem_cons_succ, List.getElem_cons_zero]
      refine wpAnyH_take (i := 4) (v := ?_) rfl (by kernel_rfl) (by kernel_rfl) (by kernel_rfl) (fun _ _ _ h => h) (Or.inl ⟨by rfl, fun w hSw => ?_⟩) (by assumption) ?_
      rotate_left
      · (try dsimp only at hSw); go_simp; try with_reducible rfl
      simp only [Act.put, List.setIfInBounds_toArray, List.set_cons_zero, List.set_cons_succ, List.getElem_toArray, List.getElem_cons_succ, List.getElem_cons_zero]
      refine wpAnyH_take (i := 6) (v := ?_) rfl (by kernel_rfl) (by kernel_rfl) (by kernel_rfl) (fun _ _ _ h => h) (Or.inl ⟨by rfl, fun w hSw => ?_⟩) (by assumption) ?_
      rotate_left
      · (try dsimp only at hSw); go_simp; try with_reducible rfl
      simp only [Act.put, List.setIfInBounds_toArray, List.set_cons_zero, List.set_cons_succ, List.getElem_toArray, List.getElem_cons_succ, List.getElem_cons_zero]
      refine wpAnyH_take (i := 7) (v := ?_) rfl (by kernel_rfl) (by kernel_rfl) (by kernel_rfl) (fun _ _ _ h => h) (Or.inl ⟨by rfl, fun w hSw => ?_⟩) (by assumption) ?_
      rotate_left
      · (try dsimp only at hSw); go_simp; try with_reducible rfl
      simp only [Act.put, List.setIfInBounds_toArray, List.set_cons_zero, List.set_cons_succ, List.getElem_toArray, List.getElem_cons_succ, List.getElem_cons_zero]
      refine wpAnyH_take (i := 8) (v := ?_) rfl (by kernel_rfl) (by kernel_rfl) (by kernel_rfl) (fun _ _ _ h => h) (Or.inl ⟨by rfl, fun w hSw => ?_⟩) (by assumption) ?_
      rotate_left
      · (try dsimp only at hSw); go_simp; try with_reducible rfl
      simp only [Act.put, List.setIfInBounds_toArray, List.set_cons_zero, List.set_cons_succ, List.getElem_toArray, List.getElem_cons_succ, List.getElem_cons_zero]
      refine wpAnyH_take (i := 9) (v := ?_) rfl (by kernel_rfl) (by kernel_rfl) (by kernel_rfl) (fun _ _ _ h => h) (Or.inl ⟨by rfl, fun w hSw => ?_⟩) (by assumption) ?_
      rotate_left
      · (try dsimp only at hSw); go_simp; try with_reducible rfl
      simp only [Act.put, List.setIfInBounds_toArray, List.set_cons_zero, List.set_cons_succ, List.getElem_toArray, List.getElem_cons_succ, List.getElem_cons_zero]
      refine wpAnyH_take (i := 10) (v := ?_) rfl (by kernel_rfl) (by kernel_rfl) (by kernel_rfl) (fun _ _ _ h => h) (Or.inl ⟨by rfl, fun w hSw => ?_⟩) (by assumption) ?_
      rotate_left
      · (try dsimp only at hSw); go_simp; try with_reducible rfl
      simp only [Act.put, List.setIfInBounds_toArray, List.set_cons_zero, List.set_cons_succ, List.getElem_toArray, List.getElem_cons_succ, List.getElem_cons_zero]
      refine wpAnyH_ready (rs := [5]) (by kernel_rfl) (by simp) ?_
      refine AllReadyH.cons rfl (fun K hK => ?_) AllReadyH.nil
      simp only [List.getElem_toArray, List.getElem_cons_succ, List.getElem_cons_zero]
      go_simp
      refine (HH.out.ad HTR.out.pm (k : Int)).mono ?_
      rintro e w6 ⟨rfl, hb⟩
      have hcw := (hb.cell (p := ⟨g, off + i, none⟩) HG.out).trans HC.out
      replace HC := Lib.hid hcw
      replace HTR := Lib.hid (HTR.out.next HH.out hb)
      replace HBR := Lib.hid (HBR.out.trans (hb.mono HBR.out.size))
      replace HP4 := Lib.hid (HP4.out.next hb)
      replace HP5 := Lib.hid (HP5.out.next hb)
      replace HG := Lib.hid (Nat.lt_of_lt_of_le HG.out hb.size)
      clear hb
      go_wp2_with (fail)
      refine hK.out _ _ hcw (fun hHeld => ?_)
      clear hK K hcw
      refine wpAnyH_ready (rs := [11]) (by kernel_rfl) (by simp) ?_
      refine AllReadyH.cons rfl (fun K hK => ?_) AllReadyH.nil
      simp only [List.getElem_toArray, List.getElem_cons_succ, List.getElem_cons_zero]
      go_simp
      refine (raddress_any b G A X (k : Int) _ HTR.out.rm).mono ?_
      rintro e w7 ⟨rfl, rfl⟩
      go_wp2_with (fail)
      refine hK.out _ _ HC.out (fun hHeld => ?_)
      clear hK K
      refine wpAnyH_take (i := 12) (v := ?_) rfl (by kernel_rfl) (by kernel_rfl) (by kernel_rfl) (fun _ _ _ h => h) (Or.inl ⟨by rfl, fun w hSw => ?_⟩) (by assumption) ?_
      rotate_left
      · (try dsimp only at hSw); go_simp; try with_reducible rfl
      simp only [Act.put, List.setIfInBounds_toArray, List.set_cons_zero, List.set_cons_succ, List.getElem_toArray, List.getElem_cons_succ, List.getElem_cons_zero]
      refine wpAnyH_take (i := 13) (v := ?_) rfl (by kernel_rfl) (by kernel_rfl) (by kernel_rfl) (fun _ _ _ h => h) (Or.inl ⟨by rfl, fun w hSw => ?_⟩) (by assumption) ?_
      rotate_left
      · (try dsimp only at hSw); go_simp; try with_reducible rfl
      simp only [Act.put, List.setIfInBounds_toArray, List.set_cons_zero, List.set_cons_succ, List.getElem_toArray, List.getElem_cons_succ, List.getElem_cons_zero]
      refine wpAnyH_take (i := 14) (v := ?_) rfl (by kernel_rfl) (by kernel_rfl) (by kernel_rfl) (fun _ _ _ h => h) (Or.inl ⟨by rfl, fun w hSw => ?_⟩) (by assumption) ?_
      rotate_left
      · (try dsimp only at hSw); go_simp; try with_reducible rfl
      simp only [Act.put, List.setIfInBounds_toArray, List.set_cons_zero, List.set_cons_succ, List.getElem_toArray, List.getElem_cons_succ, List.getElem_cons_zero]
      refine wpAnyH_take (i := 15) (v := ?_) rfl (by kernel_rfl) (by kernel_rfl) (by kernel_rfl) (fun _ _ _ h => h) (Or.inl ⟨by rfl, fun w hSw => ?_⟩) (by assumption) ?_
      rotate_left
      · (try dsimp only at hSw); go_simp; try with_reducible rfl
      simp only [Act.put, List.setIfInBounds_toArray, List.set_cons_zero, List.set_cons_succ, List.getElem_toArray, List.getElem_cons_succ, List.getElem_cons_zero]
      refine wpAnyH_ready (rs := [16]) (by kernel_rfl) (by simp) ?_
      refine AllReadyH.cons rfl (fun K hK => ?_) AllReadyH.nil
      simp only [List.getElem_toArray, List.getElem_cons_succ, List.getElem_cons_zero]
      go_simp
      refine (sameP HP4.out HP5.out HX.out).mono ?_
      rintro e w8 ⟨rfl, hb⟩
      have hcw := (hb.cell (p := ⟨g, off + i, none⟩) HG.out).trans HC.out
      replace HBR := Lib.hid (HBR.out.trans (hb.mono HBR.out.size))
      clear hb
      go_wp2_with (fail)
      refine hK.out _ _ hcw (fun hHeld => ?_)
      clear hK K hcw
      refine wpAnyH_take (i := 17) (v := ?_) rfl (by kernel_rfl) (by kernel_rfl) (by kernel_rfl) (fun _ _ _ h => h) (Or.inl ⟨by rfl, fun w hSw => ?_⟩) (by assumption) ?_
      rotate_left
      · (try dsimp only at hSw); go_simp; try with_reducible rfl
      simp only [Act.put, List.setIfInBounds_toArray, List.set_cons_zero, List.set_cons_succ, List.getElem_toArray, List.getElem_cons_succ, List.getElem_cons_zero]
      refine wpAnyH_take (i := 18) (v := ?_) rfl (by kernel_rfl) (by kernel_rfl) (by kernel_rfl) (fun _ _ _ h => h) (Or.inl ⟨by rfl, fun w hSw => ?_⟩) (by assumption) ?_
      rotate_left
      · (try dsimp only at hSw); go_simp; try with_reducible rfl
      simp only [Act.put, List.setIfInBounds_toArray, List.set_cons_zero, List.set_cons_succ, List.getElem_toArray, List.getElem_cons_succ, List.getElem_cons_zero]
      refine wpAnyH_take (i := 19) (v := ?_) rfl (by kernel_rfl) (by kernel_rfl) (by kernel_rfl) (fun _ _ _ h => h) (Or.inl ⟨by rfl, fun w hSw => ?_⟩) (by assumption) ?_
      rotate_left
      · (try dsimp only at hSw); go_simp; try with_reducible rfl
      simp only [Act.put, List.setIfInBounds_toArray, List.set_cons_zero, List.set_cons_succ, List.getElem_toArray, List.getElem_cons_succ, List.getElem_cons_zero]
      refine wpAnyH_take (i := 20) (v := ?_) rfl (by kernel_rfl) (by kernel_rfl) (by kernel_rfl) (fun _ _ _ h => h) (Or.inl ⟨by rfl, fun w hSw => ?_⟩) (by assumption) ?_
      rotate_left
      · (try dsimp only at hSw); go_simp; try with_reducible rfl
      simp only [Act.put, List.setIfInBounds_toArray, List.set_cons_zero, List.set_cons_succ, List.getElem_toArray, List.getElem_cons_succ, List.getElem_cons_zero]
      refine wpAnyH_take (i := 21) (v := ?_) rfl (by kernel_rfl) (by kernel_rfl) (by kernel_rfl) (fun _ _ _ h => h) (Or.inl ⟨by rfl, fun w hSw => ?_⟩) (by assumption) ?_
      rotate_left
      · (try dsimp only at hSw); go_simp; try with_reducible rfl
      simp only [Act.put, List.setIfInBounds_toArray, List.set_cons_zero, List.set_cons_succ, List.getElem_toArray, List.getElem_cons_succ, List.getElem_cons_zero]
      refine wpAnyH_take (i := 22) (v := ?_) rfl (by kernel_rfl) (by kernel_rfl) (by kernel_rfl) (fun _ _ _ h => h) (Or.inl ⟨by rfl, fun w hSw => ?_⟩) (by assumption) ?_
      rotate_left
      · (try dsimp only at hSw); go_simp; try with_reducible rfl
      simp only [Act.put, List.setIfInBounds_toArray, List.set_cons_zero, List.set_cons_succ, List.getElem_toArray, List.getElem_cons_succ, List.getElem_cons_zero]
      refine wpAnyH_take (i := 23) (v := ?_) rfl (by kernel_rfl) (by kernel_rfl) (by kernel_rfl) (fun _ _ _ h => h) (Or.inl ⟨by rfl, fun w hSw => ?_⟩) (by assumption) ?_
      rotate_left
      · (try dsimp only at hSw); go_simp; try with_reducible rfl
      simp only [Act.put, List.setIfInBounds_toArray, List.set_cons_zero, List.set_cons_succ, List.getElem_toArray, List.getElem_cons_succ, List.getElem_cons_zero]
      refine wpAnyH_done (by kernel_rfl) ?_ _
      go_wp2_with (fail)
      exact ⟨⟨i + 1, by omega, by go_num, HBR.out⟩, by simp [RowKit.intOf]; omega⟩
    · obtain rfl : i = m := by omega
      have HBE := Lib.hid (HB.out.trans (HBR.out.mono HB.out.size))
      go_wp2_with (fail)
      go_ret
      exact ⟨rfl, HBE.out⟩
/-- A call of a row. -/
structure Cb where
  q : Int
  k : Int
  n : Int
  a : Option Addr
  l : Nat
  c : Nat
  zs : List Int
instance : Inhabited Cb := ⟨⟨0, 0, 0, none, 0, 0, []⟩⟩
theorem told_all (H : MapOk Pmp) (x : Cb) (h : Two Pmp w p b T D G A X A X) (hs : Sml X) (hw : (Lit.int .i64 x.k).wf = true) (hz : Pin w x.a x.l x.c x.zs) (hzT : 0 < x.l → ∀ y, x.a = some y → ¬ T y.block ∧ y.block ≠ b) (hl : x.l ≤ 1000000000000) :
    Calls Try.prog 14 #[.pointer (some ⟨p, 0, none⟩), .pointer (some ⟨b, 0, none⟩), cl x.q x.k x.n x.a x.l x.c] w (ToldP Pmp w p b T D G) := by
  obtain ⟨q, k, n, a, l, c, zs⟩ := x
  simp only at hw hz hzT hl ⊢
  by_cases e0 : q = 0
  · subst e0; exact told_put H h hs hz hzT hl
  by_cases e1 : q = 1
  · subst e1; exact told_at H h hs
  by_cases e2 : q = 2
  · subst e2; exact told_bytes H h hs
  by_cases e3 : q = 3
  · subst e3; exact told_cut H h hs hw
  by_cases e4 : q = 4
  · subst e4; exact told_place H h hs
  by_cases e5 : q = 5
  · subst e5; exact told_move H h hs
  exact told_none H h hs (by simpa using e0) (by simpa using e1) (by simpa using e2) (by simpa using e3) (by simpa using e4) (by simpa using e5)
end
end Go.Proofs.Ytgedgkdnjnbijaa
