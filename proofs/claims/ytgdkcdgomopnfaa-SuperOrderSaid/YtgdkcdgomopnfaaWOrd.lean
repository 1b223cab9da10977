/-
  SuperOrder, walked.
-/
import Derived.Test.YtgdkcdgomopnfaaOrd
import Derived.Test.YtgdkcdgomopnfaaApR2
namespace Go.Proofs.Ytgdkcdgomopnfaa
open Go.RowKit

/-- The turning loop's relation: q are left. -/
def OrdRel (f : Nat → Pc) (n : Nat) (w0 : World) (u v : Value) (w : World) : Prop :=
  ∃ (q m : Nat) (g : Nat → Pc), q ≤ n ∧ m + 3 * q ≤ 3 * n ∧ v = .int .i64 ((q : Int) - 1) ∧ OwnR w w0.heap.size u m g ∧ SameSet f n q g m ∧ (∀ j, j < m → (g j).n ≤ 10000) ∧ Below w0.heap.size w0 w
theorem apart3 {a2 : Option Addr} {m c2 H B : Nat} (h : ∀ x, a2 = some x → B ≤ x.block ∧ x.block < H) : (64 : Nat) = 0 ∨ ∀ y, some (⟨H, 0, none⟩ : Addr) = some y → some y.block ≠ (Value.slice a2 m c2).ownBlock := .inr fun y hy e2 => by
  cases hy
  cases hra : a2 with
  | none => rw [hra] at e2; cases e2
  | some r =>
    rw [hra] at e2
    have h3 := (h r hra).2
    have h5 : H = r.block := by simpa [Value.ownBlock] using e2
    omega
set_option maxHeartbeats 8000000 in
theorem ord_law (a : Option Addr) (n c : Nat) (f : Nat → Pc) (at' : Int) (w : World) (h : Rws w a n f) (hl : n ≤ 9223372036854775807) (hr : ∀ i, i < n → (f i).n ≤ reachBytes) :
    Calls Try.prog 8 #[.slice a n c, .int .i64 at'] w fun e w' => e = .returned (.bool true) ∧ Below w.heap.size w w' := by
  have HR := Lib.hid hr
  clear hr
  go_enter Try.func8, Try.ntmps8
  go_wp2_with (fail)
  refine (alive_any w).mono ?_
  rintro e w1 ⟨rfl, hb1⟩
  replace h := h.next hb1
  have hB := hb1
  clear hb1
  go_wp2_with (fail)
  refine (weigh_any 10000 (by omega) a n c f w1 h hl HR.out).mono ?_
  rintro e w2 ⟨t, ht, rfl, rfl, hw⟩
  have HW := Lib.hid hw
  clear hw
  by_cases hg : 10000 < t
  · have h1 : (10000 : Int) < (t : Int) := by omega
    clear h hg
    go_wp2_with (fail)
    go_ret
    exact ⟨rfl, hB⟩
  have h1 : ¬ (10000 : Int) < (t : Int) := by omega
  obtain ⟨hn, hbn⟩ := HW.out (by omega)
  have HBN := Lib.hid hbn
  have HFN : Hid (∀ i, i < n → (f i).n ≤ 1000000000000) := by
    show ∀ i, _
    intro i hi
    have := hbn i hi
    omega
  have hn2 : n ≤ 10000 := hn
  have HB1 := Lib.hid hB
  clear hn hbn HR HW hB
  go_wp2_with (fail)
  go_loopw [5, 6] (fun u v wr => OrdRel f n w1 u v wr) (fun _ v _ => (intOf v + 1).toNat)
  case atStart => exact ⟨n, 0, f, Nat.le_refl _, by omega, rfl, ownR_none w1 _ (Nat.le_refl _) f, SameSet.start _ _ _, (fun j hj => by omega), bel_a1 w1 _⟩
  case round =>
    obtain ⟨q, m, g, hq, hm, rfl, ho, hss, hgn, hb⟩ := hrel
    have HS := Lib.hid hss
    have HG := Lib.hid hgn
    have hsz := hb.size
    clear hss hgn
    cases q with
    | zero =>
      obtain ⟨ra, rc, rfl, hgr, _, _, _⟩ := ho.rws
      have HGN : Hid (∀ i, i < m → (g i).n ≤ 1000000000000) := by
        show ∀ i, _
        intro i hi
        have := HG.out i hi
        omega
      have e1 : Hid (nmV g m = nmV f n) := max_same (h := gmV) (fun x h1 _ => gmV_blank h1) HS.out nmV_max nmV_max
      have e2 : Hid ((nbS g m).e = (nbS f n).e) := max_same (h := gbE) (fun x _ h2 => gbE_blank h2) HS.out (nbS_max fun i hi => (h.each i hi).bys.small).1 (nbS_max fun i hi => (hgr.each i hi).bys.small).1
      have hf := h.next hb
      have hm3 : m ≤ 30000 := by omega
      obtain ⟨B, hBq⟩ : ∃ s, s = nbS f n := ⟨_, rfl⟩
      obtain ⟨C, hCq⟩ : ∃ s, s = nbS g m := ⟨_, rfl⟩
      obtain ⟨o, p, r, s0⟩ := B
      obtain ⟨o2, p2, r2, s2⟩ := C
      have e3 := e2.out
      rw [← hBq, ← hCq] at e3
      obtain rfl : p2 = p := e3
      have HBQ := Lib.hid hBq
      have HCQ := Lib.hid hCq
      have hfd : ∀ (w : World) (p r s : Int), (Instr.field 29 (bv p r s) 0).run Try.prog w = .ok (.int .i64 p) w := fun _ _ _ _ => by kernel_rfl
      clear hBq hCq e2
      clear ho h HS HG hm
      go_wp2_with (fail)
      refine (newestMark_any a n c f wr hf (by omega) HFN.out).mono ?_
      rintro e w4 ⟨rfl, hb4⟩
      replace hf := hf.next hb4
      replace hgr := hgr.next hb4
      replace hb := hb.trans (hb4.mono hb.size)
      clear hb4
      go_wp2_with (fail)
      refine (newestMark_any ra m rc g w4 hgr (by omega) HGN.out).mono ?_
      rintro e w5 ⟨rfl, hb5⟩
      rw [e1.out]
      obtain ⟨s, hs⟩ : ∃ s, s = nmV f n := ⟨_, rfl⟩
      rw [← hs]
      replace hf := hf.next hb5
      replace hgr := hgr.next hb5
      replace hb := hb.trans (hb5.mono hb.size)
      clear hb5 hs e1
      go_wp2_with (fail)
      refine (newestMember_any a n c f w5 hf (by omega) HFN.out).mono ?_
      rintro e w6 ⟨rfl, hb6⟩
      rw [← HBQ.out]
      replace hf := hf.next hb6
      replace hgr := hgr.next hb6
      replace hb := hb.trans (hb6.mono hb.size)
      clear hb6
      go_wp2_with (fail)
      refine (newestMember_any ra m rc g w6 hgr (by omega) HGN.out).mono ?_
      rintro e w7 ⟨rfl, hb7⟩
      rw [← HCQ.out]
      replace hb := hb.trans (hb7.mono hb.size)
      clear hb7 hf hgr
      go_wp2_with (fail)
      go_ret
      exact ⟨ret_bool (by simp), HB1.out.trans (hb.mono HB1.out.size)⟩
    | succ p =>
      obtain ⟨b, off, x, l, d, zs, rfl, hbl, hc, hp, hfz, hfn⟩ := h.at (i := p) (by omega)
      have hln : l ≤ 10000 := by rw [← hfn]; exact HBN.out p (by omega)
      have HF := Lib.hid hfz
      have hpr := hp.next hb
      have y1 : wr.cell? ⟨b, off + p, none⟩ = some (.slice x l d) := (hb.cell (p := ⟨b, off + p, none⟩) hbl).trans hc
      have hpl := hp.bys.place
      obtain ⟨ra, rc, rfl, _, _, _, hlo⟩ := ho.rws
      have HLO := Lib.hid hlo
      have hap : l = 0 ∨ ∀ y, x = some y → some y.block ≠ (Value.slice ra m rc).ownBlock := by
        rcases hpl with h0 | ⟨bx, ox, e, hbx, _⟩
        · exact .inl h0
        · refine .inr fun y hy e2 => ?_
          rw [e] at hy
          cases hy
          cases hra : ra with
          | none => rw [hra] at e2; cases e2
          | some r =>
            rw [hra] at e2
            have h3 := (HLO.out r hra).1
            have h5 : bx = r.block := by simpa [Value.ownBlock] using e2
            omega
      have HAP := Lib.hid hap
      rw [show ((p + 1 : Nat) : Int) - 1 = (p : Int) by omega]
      have k1 : (0 : Int) ≤ (p : Int) := by omega
      have k2 : (p : Int) < (n : Int) := by omega
      have hor := ho.next ((Below.refl _ _).alloc (Nat.le_refl _) (.cells #[.slice x l d] 31 (0, 0)))
      have hpa := hpr.alloc (.cells #[.slice x l d] 31 (0, 0))
      have hba := hb.alloc hsz (.cells #[.slice x l d] 31 (0, 0))
      clear h hp hfz hfn hpl hlo hap hc ho hpr
      by_cases hat : (p : Int) = at'
      · subst hat
        go_wp2_with (first
          | (at_make; go_must (refine wpList_mk rfl _ _ rfl _ _ _ _ 64 rfl rfl rfl rfl (by omega) ?_); intro w3 hb3 hl3
             have ho3 := (ho2.next hl3).next ((Below.refl _ _).alloc (Nat.le_refl _) (.cells #[.slice none 0 0, .slice (some ⟨w2.heap.size, 0, none⟩) 64 64] 31 (0, 0)))
             have hB3 := (hb2.trans (hl3.mono hs2)).alloc (Nat.le_trans hs2 hl3.size) (.cells #[.slice none 0 0, .slice (some ⟨w2.heap.size, 0, none⟩) 64 64] 31 (0, 0))
             have hp3 := (hb3.pin (AllB.zeros 64) (by simp) (Nat.le_refl 64) (by omega)).alloc (.cells #[.slice none 0 0, .slice (some ⟨w2.heap.size, 0, none⟩) 64 64] 31 (0, 0))
             have HAP3 := Lib.hid (apart3 (m := m + 1) (c2 := c2) HLO2.out)
             have hs3 := hl3.size
             clear ho2 hb2 hb3 hl3)
          | (at_builtin; first
             | (refine wpList_apR rfl (.tmp 20) (.tmp 25) rfl w1.heap.size _ m g rfl hor wr.heap.size rfl x l d zs (by simp) hpa HAP.out (by omega) (by simp; omega) w1 hba ?_
                intro v2 w2 ho2 hb2 _ _
                obtain ⟨a2, c2, rfl, _, _, _, hlo2⟩ := ho2.rws
                have HLO2 := Lib.hid hlo2
                have hs2 := hb2.size
                clear hor hpa hba hb y1 hlo2)
             | (refine wpList_apR2 rfl (.tmp 30) (.tmp 32) rfl w1.heap.size _ (m + 1) _ rfl ho3 w3.heap.size rfl ⟨none, 0, 0, []⟩ ⟨some ⟨w2.heap.size, 0, none⟩, 64, 64, List.replicate 64 0⟩ (by simp) (by simp) (Pin.zero _) hp3 (.inl rfl) HAP3.out (by omega) (by simp; omega) w1 hB3 ?_
                intro v4 w4 ho4 hb4)))
        go_roundw
        case rel =>
          refine ⟨p, m + 1 + 2, _, by omega, by omega, by go_num, ho4, ((HS.out.more (by omega) HF.out.symm).blank nil_blank).blank zero_blank, fun j hj => ?_, hb4⟩
          rcases Nat.lt_or_ge j (m + 1) with h1 | h1
          · rw [snoc_old (by omega), snoc_old h1]
            rcases Nat.lt_or_ge j m with h2 | h2
            · rw [snoc_old h2]; exact HG.out j h2
            · obtain rfl : j = m := by omega
              rw [snoc_new]; exact hln
          · rcases (by omega : j = m + 1 ∨ j = m + 1 + 1) with rfl | rfl
            · rw [snoc_old (by omega), snoc_new]; exact Nat.zero_le _
            · rw [snoc_new]; show 64 ≤ 10000; omega
        case measure => simp [intOf]
      · have hat2 : ((p : Int) == at') = false := by simpa using hat
        go_wp2_with (at_builtin; go_must (refine wpList_apR rfl (.tmp 20) (.tmp 25) rfl w1.heap.size _ m g rfl hor wr.heap.size rfl x l d zs (by simp) hpa HAP.out (by omega) (by simp; omega) w1 hba ?_); intro v2 w2 ho2 hb2 _ _)
        go_roundw
        case rel =>
          refine ⟨p, m + 1, _, by omega, by omega, by go_num, ho2, HS.out.more (by omega) HF.out.symm, fun j hj => ?_, hb2⟩
          rcases Nat.lt_or_ge j m with h1 | h1
          · rw [snoc_old h1]; exact HG.out j h1
          · obtain rfl : j = m := by omega
            rw [snoc_new]; exact hln
        case measure => simp [intOf]

end Go.Proofs.Ytgdkcdgomopnfaa
