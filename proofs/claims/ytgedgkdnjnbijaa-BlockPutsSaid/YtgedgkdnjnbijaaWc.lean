/-
  The law BlockCuts, walked (of any map that does as its contracts say).
-/
import Derived.Test.YtgedgkdnjnbijaaAl
namespace Go.Proofs.Ytgedgkdnjnbijaa
open Go.RowKit
set_option linter.unusedVariables false
set_option linter.unusedSimpArgs false

theorem nwO_len {ks : List Int} (h : nwO ks = true) : ks.length ≤ 828 ∧ ∀ i, i < ks.length → 0 ≤ num ks i ∧ num ks i ≤ 65535 := by
  simp only [nwO, Bool.and_eq_true, decide_eq_true_eq] at h
  exact ⟨h.1, fun i hi => ptO_iff.1 (all_pt.1 h.2 i hi)⟩
theorem cut_hi {A : Nat → Int} {n : Int} {k : Nat} (hk : k < 828) (h : n ≤ k) : adO (cutF 0 A (ctN n) 828) k = 0 := by
  rw [adO_yes _ hk, cutF, if_pos ⟨by unfold ctN; omega, hk⟩]
theorem cut_lo {A : Nat → Int} {n : Int} {k : Nat} (hk : k < 828) (h : (k : Int) < n) : adO (cutF 0 A (ctN n) 828) k = A k := by
  rw [adO_yes _ hk, cutF, if_neg (by unfold ctN; omega)]
theorem cut_last {A : Nat → Int} {n z : Int} (h : z ∈ selL (theP (cutF 0 A (ctN n) 828) (cutF [] (fun _ => []) (ctN n) 828)) 828) : z < n := by
  obtain ⟨k, hk, hp, rfl⟩ := selL_mem.1 h
  have e : cutF (α := List Int) [] (fun _ => []) (ctN n) 828 k = [] := by unfold cutF; split <;> rfl
  rw [theP, e] at hp
  have h2 : 0 < cutF 0 A (ctN n) 828 k := by simpa using hp
  unfold cutF at h2
  by_cases hc : ctN n ≤ k ∧ k < 828
  · rw [if_pos hc] at h2; omega
  · unfold ctN at hc; omega
theorem cut_there {Pmp : Pred} (H : MapOk Pmp) {w : World} {p : Nat} {T D : Nat → Prop} {A : Nat → Int} {n : Int} (h : Pmp w p T D (cutF 0 A (ctN n) 828) (cutF [] (fun _ => []) (ctN n) 828)) :
    Calls Try.prog 23 #[.pointer (some ⟨p, 0, none⟩)] w fun e w' => ∃ a m c l, e = .returned (.slice a m c) ∧ Ins w' a m l ∧ (∀ z ∈ l, z < n) ∧ m ≤ 828 ∧ Below w.heap.size w w' := by
  refine (H.there h).mono fun e w' ⟨a, c, he, hi, _, hb⟩ => ?_
  exact ⟨a, _, c, _, he, hi, fun z hz => cut_last hz, selL_len _ _, hb⟩
theorem num_mem {ks : List Int} {i : Nat} (h : i < ks.length) : num ks i ∈ ks := by
  rw [show num ks i = ks[i] by simp [num, List.getD, h]]
  exact List.getElem_mem h
set_option maxRecDepth 100000 in
set_option maxHeartbeats 8000000 in
theorem cuts_any {Pmp : Pred} (H : MapOk Pmp) (a0 : Option Addr) (n0 c0 : Nat) (ks : List Int) (n : Int) (w : World) (h0 : Ins w a0 n0 ks) (z0 : a0 = none → n0 = 0 ∧ c0 = 0) (hw : (Lit.int .i64 n).wf = true) :
    Calls Try.prog 5 #[.slice a0 n0 c0, .int .i64 n] w fun e w' => e = .returned (.bool true) ∧ Below w.heap.size w w' := by
  have HH := Lib.hid H
  have HL := Lib.hid h0
  have HZ := Lib.hid z0
  have HWF := Lib.hid hw
  have hlen := h0.len
  clear H h0 z0 hw
  by_cases g0 : 828 < n0
  · have k0 : (828 : Int) < (n0 : Int) := by omega
    clear g0
    go_enter Try.func5, Try.ntmps5
    go_wp2_with (fail)
    refine (alive_any HH.out w).mono ?_
    rintro e wb ⟨rfl, hb⟩
    have HB := Lib.hid hb
    clear hb
    go_wp2_with (fail)
    go_ret
    exact ⟨rfl, HB.out⟩
  · have k0 : ¬ (828 : Int) < (n0 : Int) := by omega
    have HN := Lib.hid (show n0 ≤ 828 by omega)
    have HLE := Lib.hid hlen
    clear g0 hlen
    go_enter Try.func5, Try.ntmps5
    go_wp2_with (fail)
    refine (alive_any HH.out w).mono ?_
    rintro e wb ⟨rfl, hb⟩
    have HB := Lib.hid hb
    clear hb
    go_wp2_with (fail)
    refine (HH.out.new a0 n0 c0 ks wb (HL.out.next HB.out) HZ.out (by have := HN.out; omega)).mono ?_
    rintro e wc ⟨h1, h2, hb⟩
    have HB2 := Lib.hid (HB.out.trans (hb.mono HB.out.size))
    cases hnw : nwO ks with
    | false =>
      obtain rfl := h2 hnw
      clear h1 h2 hb hnw
      go_wp2_with (fail)
      go_ret
      exact ⟨rfl, HB2.out⟩
    | true =>
      obtain ⟨p, T, D, rfl, hP, hD⟩ := h1 hnw
      have HP := Lib.hid hP
      have HD := Lib.hid (show ∀ j, D j → w.heap.size ≤ j from fun j hj => Nat.le_trans HB.out.size (hD j hj))
      have HW := Lib.hid hnw
      clear h1 h2 hb hnw hP hD
      go_wp2_with (fail)
      refine (HH.out.cut HP.out n HWF.out).mono ?_
      rintro e wd ⟨rfl, hl⟩
      have hbl := hl.below HB2.out.size (fun j hj => HD.out j (HH.out.td HP.out j hj))
      obtain ⟨ht, T2, D2, hP2, _, _⟩ := hl
      replace HB := Lib.hid (HB2.out.trans hbl)
      have HP2 := Lib.hid hP2
      clear hbl ht hP2 HP HB2
      go_wp2_with (fail)
      go_loopw [7, 8] (fun v _p wr => ∃ k : Nat, k ≤ n0 ∧ v = .int .i64 k ∧ Pmp wr p T2 D2 (cutF 0 (num ks) (ctN n) 828) (cutF [] (fun _ => []) (ctN n) 828) ∧ Below w.heap.size w wr) (fun v _ _ => n0 - (RowKit.intOf v).toNat)
      case atStart => exact ⟨0, by omega, rfl, HP2.out, HB.out⟩
      case round =>
        obtain ⟨k, hk, rfl, hP3, hB3⟩ := hrel
        have HP3 := Lib.hid hP3
        have HB3 := Lib.hid hB3
        clear hP3 hB3 HP2 HB
        by_cases hlt : k < n0
        · obtain ⟨b, off, rfl, hbl, hcs⟩ := (HL.out.next HB3.out).at (by omega : 0 < n0)
          have hc1 := hcs k hlt
          have hk828 : k < 828 := by have := HN.out; omega
          obtain ⟨z, hz⟩ : ∃ z, z = num ks k := ⟨_, rfl⟩
          rw [← hz] at hc1
          have had := HH.out.ad HP3.out (k : Int)
          by_cases hkn : n ≤ (k : Int)
          · rw [cut_hi hk828 hkn] at had
            clear hcs hz
            go_wp2_with (fail)
            refine had.mono ?_
            rintro e we ⟨rfl, hb⟩
            replace HP3 := Lib.hid (HH.out.next HP3.out hb)
            replace HB3 := Lib.hid (HB3.out.trans (hb.mono HB3.out.size))
            clear hb had
            go_wp2_with (fail)
            go_roundw
            case rel => exact ⟨k + 1, by omega, by go_num, HP3.out, HB3.out⟩
            case measure => simp [RowKit.intOf]; omega
          · rw [cut_lo hk828 (by omega), ← hz] at had
            have d1 : (z != z) = false := by simp
            clear hcs hz
            go_wp2_with (fail)
            refine had.mono ?_
            rintro e we ⟨rfl, hb⟩
            replace HP3 := Lib.hid (HH.out.next HP3.out hb)
            replace HB3 := Lib.hid (HB3.out.trans (hb.mono HB3.out.size))
            clear hb had
            go_wp2_with (fail)
            go_roundw
            case rel => exact ⟨k + 1, by omega, by go_num, HP3.out, HB3.out⟩
            case measure => simp [RowKit.intOf]; omega
        · obtain rfl : k = n0 := by omega
          go_wp2_with (fail)
          refine (cut_there HH.out HP3.out).mono ?_
          rintro e we ⟨a, m, c, l, rfl, hi, hlast, hsl, hb⟩
          have hml := hi.len
          have HB4 := Lib.hid (HB3.out.trans (hb.mono HB3.out.size))
          clear hb HP3 HB3
          by_cases hm0 : m = 0
          · subst hm0
            clear hi hlast hml
            go_wp2_with (fail)
            go_ret
            exact ⟨rfl, HB4.out⟩
          · obtain ⟨j, hj⟩ : ∃ j, m = j + 1 := ⟨m - 1, by omega⟩
            obtain ⟨b, off, rfl, hbl, hcs⟩ := hi.at (by omega)
            have hc1 := hcs j (by omega)
            have hz1 := hlast (num l j) (num_mem (by omega))
            obtain ⟨z, hz⟩ : ∃ z, z = num l j := ⟨_, rfl⟩
            rw [← hz] at hc1 hz1
            have w1 : IntKind.i64.wrap ((m : Int) - 1) = (j : Int) := by rw [show (m : Int) - 1 = (j : Int) by omega]; exact IntWalk.i64_in _ (by omega)
            have d1 : ((m : Int) == 0) = false := by simp; omega
            have k2 : (j : Int) < (m : Int) := by omega
            have k3 : (0 : Int) ≤ (j : Int) := by omega
            have HJ := Lib.hid hj
            clear hcs hi hlast hz hm0 hj hml
            go_wp2_with (fail)
            go_ret
            exact ⟨ret_bool (by simp), HB4.out⟩
end Go.Proofs.Ytgedgkdnjnbijaa
