/-
  Each front of a path's names is a path, in which it is: the walk.
-/
import Derived.Test.YthoblenoijkglaaDoorWw
namespace Go.Proofs.YthoblenoijkglaaDoor
open Go.RowKit
set_option linter.unusedVariables false
set_option linter.unusedSimpArgs false

set_option maxHeartbeats 8000000 in
theorem fronts_any (s : ByteArray) (n : Int) (W : World) (hn : n ≤ 9223372036854775807) : Calls Tryd.prog 6 #[.string s, .int .i64 n] W fun e w' => e = .returned (.bool true) ∧ Below W.heap.size W w' := by
  have hal := alive_any W
  by_cases hs : 3000 < s.size
  · have ks : (3000 : Int) < (s.size : Int) := by omega
    go_enter Tryd.func6, Tryd.ntmps6
    go_wp2_with (fail)
    refine hal.mono ?_
    rintro e w1 ⟨rfl, hb1⟩
    go_wp2_with (fail)
    go_ret
    exact ⟨rfl, hb1⟩
  have ks : ¬ (3000 : Int) < (s.size : Int) := by omega
  have hsp := fun w1 => split_any s w1 (by omega)
  have H3 := Lib.hid hsp
  have HSZ := Lib.hid hs
  clear hsp hs
  go_enter Tryd.func6, Tryd.ntmps6
  go_wp2_with (fail)
  refine hal.mono ?_
  rintro e w1 ⟨rfl, hb1⟩
  have HB1 := Lib.hid hb1
  clear hal hb1
  go_wp2_with (fail)
  refine (H3.out w1).mono ?_
  rintro e w2 ⟨hv, hb2⟩
  have HB2 := Lib.hid (HB1.out.trans (hb2.mono HB1.out.size))
  clear hb2
  cases ho : spl s.data.toList with
  | none =>
    rw [ho] at hv
    cases hv
    clear ho
    go_wp2_with (fail)
    go_ret
    exact ⟨rfl, HB2.out⟩
  | some L =>
    rw [ho] at hv
    obtain ⟨v, he, hown⟩ := hv
    subst he
    obtain ⟨a1, c1, rfl, hS1, hnc1, _, hz1, _⟩ := hown.sts
    have hA := spl_arP ho
    have h8 := arP_len hA
    have HA := Lib.hid hA
    have HO := Lib.hid ho
    have HS := Lib.hid hS1
    clear ho hown hA hS1
    by_cases hneg : n < 0
    · have q1 : decide (n < 0) = true := decide_eq_true hneg
      go_wp2_with (fail)
      go_ret
      exact ⟨rfl, HB2.out⟩
    by_cases hbig : (L.length : Int) < n
    · go_wp2_with (fail)
      go_ret
      exact ⟨rfl, HB2.out⟩
    go_wp2_with (fail)
    go_loopw [7] (fun vi wr => ∃ k : Nat, k ≤ L.length ∧ vi = .int .i64 k ∧ Below w2.heap.size w2 wr) (fun vi _ => L.length - (RowKit.intOf vi).toNat)
    case atStart => exact ⟨0, by omega, rfl, Below.refl _ _⟩
    case round =>
      obtain ⟨k, hk, rfl, hB⟩ := hrel
      have HB := Lib.hid hB
      by_cases hlt : k < L.length
      · obtain ⟨b, off, rfl, hbl, hc⟩ := HS.out.at (by omega)
        have k0 : (0 : Int) ≤ (k : Int) := by omega
        have k1 : (k : Int) < (L.length : Int) := by omega
        have x1 := (hB.cell (p := ⟨b, off + k, none⟩) hbl).trans (hc k hlt)
        have hcall := name_any (tx (tat L k)) wr
        rw [data_tx, arP_all HA.out (tat_mem hlt)] at hcall
        clear hc hB
        go_wp2_with (fail)
        refine hcall.mono ?_
        rintro e w' ⟨rfl, hb'⟩
        have HB' := Lib.hid (HB.out.trans (hb'.mono HB.out.size))
        clear hb' hcall
        go_wp2_with (fail)
        go_roundw
        case rel => exact ⟨k + 1, by omega, by go_num, HB'.out⟩
        case measure => simp [RowKit.intOf]; omega
      · obtain rfl : k = L.length := by omega
        obtain ⟨m, rfl⟩ : ∃ m : Nat, n = m := ⟨n.toNat, by omega⟩
        have hm : m ≤ L.length := by omega
        have HB3 := Lib.hid (HB2.out.trans (hB.mono HB2.out.size))
        have HS3 := Lib.hid (HS.out.next hB)
        clear hB
        obtain ⟨p, hp, hsp⟩ := joi_some (arP_take HA.out m)
        have hpl : p.length ≤ 200 := by
          unfold joi at hp
          split at hp
          · next hA => cases hp; have := joi_len hA; simp; omega
          · cases hp
        have hwf : wit s.data.toList p = true := wit_front HO.out hsp
        obtain ⟨q, hq⟩ : ∃ q, ((m : Int) == (L.length : Int)) = q := ⟨_, rfl⟩
        have hwl : wit p s.data.toList = q := by
          by_cases h : m = L.length
          · rw [← hq, beq_iff_eq.2 (by omega : (m : Int) = (L.length : Int))]
            rw [h, List.take_of_length_le (Nat.le_refl _)] at hsp
            rw [wit_eq hsp HO.out]; simp
          · rw [← hq, beq_eq_false_iff_ne.2 (by omega : (m : Int) ≠ (L.length : Int))]
            exact wit_longer HO.out hsp (by rw [List.length_take]; omega)
        have hwa : ∀ w1, Calls Tryd.prog 16 #[.string s, .string (tx p)] w1 fun e w' => e = .returned (.bool true) ∧ Below w1.heap.size w1 w' := fun w1 => by
          have := within_any s (tx p) w1 (by have := HSZ.out; omega) (by rw [tx_size]; omega)
          rw [data_tx, hwf] at this
          exact this
        have hwb : ∀ w1, Calls Tryd.prog 16 #[.string (tx p), .string s] w1 fun e w' => e = .returned (.bool q) ∧ Below w1.heap.size w1 w' := fun w1 => by
          have := within_any (tx p) s w1 (by rw [tx_size]; omega) (by have := HSZ.out; omega)
          rw [data_tx, hwl] at this
          exact this
        have hjn : ∀ a c, a1 = a → m ≤ c → (a = none → m = 0) → Calls Tryd.prog 14 #[.slice a m c] wr fun e w' => JoiV (some p) e ∧ Below wr.heap.size wr w' := fun a c e hmc hz => by
          subst e
          have := join_any wr a1 m c (L.take m) (HS3.out.front hm) hmc hz
          rw [hp] at this
          exact this
        have HWA := Lib.hid hwa
        have HWB := Lib.hid hwb
        have HJ := Lib.hid hjn
        clear hp hsp hpl hwf hwl hwa hwb hjn hneg hbig
        have k6 : ¬ (L.length : Int) < (L.length : Int) := by omega
        rcases a1 with _ | p1
        · obtain ⟨hz0, rfl⟩ := hz1 rfl
          obtain rfl : L = [] := List.length_eq_zero_iff.1 hz0
          obtain rfl : m = 0 := by simp at hm; exact hm
          have hj := HJ.out none 0 rfl (Nat.le_refl _) (fun _ => rfl)
          have hq1 : q = true := by rw [← hq]; rfl
          subst hq1
          clear hz1 hz0 hnc1 hm h8 hq HS3 HJ
          go_wp2_with (fail)
          refine hj.mono ?_
          rintro e w4 ⟨hv, hb4⟩
          cases hv
          have HB4 := Lib.hid (HB3.out.trans (hb4.mono HB3.out.size))
          clear hb4 hj
          go_wp2_with (fail)
          refine (HWA.out w4).mono ?_
          rintro e w5 ⟨rfl, hb5⟩
          have HB5 := Lib.hid (HB4.out.trans (hb5.mono HB4.out.size))
          clear hb5
          go_wp2_with (fail)
          refine (HWB.out w5).mono ?_
          rintro e w6 ⟨rfl, hb6⟩
          have HB6 := Lib.hid (HB5.out.trans (hb6.mono HB5.out.size))
          clear hb6
          go_wp2_with (fail)
          go_ret
          exact ⟨rfl, HB6.out⟩
        · have hj := HJ.out (some p1) c1 rfl (by omega) (fun e => by cases e)
          have k7 : (m : Int) ≤ (c1 : Int) := by omega
          have k8 : (0 : Int) ≤ (m : Int) := by omega
          have hqq : (q == q) = true := by simp
          clear hz1 HJ
          go_wp2_with (fail)
          refine hj.mono ?_
          rintro e w4 ⟨hv, hb4⟩
          cases hv
          have HB4 := Lib.hid (HB3.out.trans (hb4.mono HB3.out.size))
          clear hb4 hj
          go_wp2_with (fail)
          refine (HWA.out w4).mono ?_
          rintro e w5 ⟨rfl, hb5⟩
          have HB5 := Lib.hid (HB4.out.trans (hb5.mono HB4.out.size))
          clear hb5
          go_wp2_with (fail)
          refine (HWB.out w5).mono ?_
          rintro e w6 ⟨rfl, hb6⟩
          have HB6 := Lib.hid (HB5.out.trans (hb6.mono HB5.out.size))
          clear hb6
          go_wp2_with (fail)
          go_ret
          exact ⟨rfl, HB6.out⟩
end Go.Proofs.YthoblenoijkglaaDoor
