/-
  DirentOrder, walked.
-/
import Derived.Test.YtiedapiepklhlaaWp
namespace Go.Proofs.Ytiedapiepklhlaa
open Go.RowKit
set_option linter.unusedVariables false
set_option linter.unusedSimpArgs false

theorem Or1.fit {ls a : List En} {k : Nat} (h : Or1 ls k a) (hf : Fit ls) : Fit a := fun x hx => hf x (List.mem_of_mem_take ((h.mem x).1 hx))
theorem Or2.fit {ls b : List En} {k : Nat} (h : Or2 ls k b) (hf : Fit ls) : Fit b := fun x hx => hf x (List.mem_of_mem_drop ((h.mem x).1 hx))
set_option maxHeartbeats 8000000 in
theorem order_any (a0 : Option Addr) (n0 c0 : Nat) (L : List En) (W : World) (h0 : Ens W a0 n0 L) (m0 : n0 ≤ 9223372036854775807) (r0 : ∀ x ∈ L, x.s.size ≤ 4611686018427387904) :
    Calls Try.prog 7 #[.slice a0 n0 c0] W fun e w' => e = .returned (.bool true) ∧ Below W.heap.size W w' := by
  have ha := alive_any W
  have H0 := Lib.hid h0
  have hl := h0.len
  have R0 := Lib.hid r0
  clear h0 r0
  go_enter Try.func7, Try.ntmps7
  go_wp2_with (fail)
  refine ha.mono ?_
  rintro e w1 ⟨rfl, hb1⟩
  have K1 := Lib.hid hb1
  have hlo := long_any a0 n0 c0 L w1 (H0.out.next K1.out) m0 R0.out
  clear ha hb1
  go_wp2_with (fail)
  refine hlo.mono ?_
  rintro e w' ⟨r, rfl, hr, rfl⟩
  cases r with
  | true =>
    clear hlo hr
    go_wp2_with (fail)
    go_ret
    exact ⟨rfl, K1.out⟩
  | false =>
    have HS := Lib.hid (hr rfl)
    clear hlo hr
    by_cases h5 : 60 < n0
    · have k5 : (60 : Int) < (n0 : Int) := by omega
      go_wp2_with (fail)
      go_ret
      exact ⟨rfl, K1.out⟩
    have k5 : ¬ (60 : Int) < (n0 : Int) := by omega
    have hn60 : n0 ≤ 60 := by omega
    clear h5
    go_wp2_with (fail)
    go_loopw [3, 4, 5, 6] (fun v3 v4 _ _ wr => ∃ (k : Nat) (A : List En), k ≤ n0 ∧ v4 = .int .i64 k ∧ Or1 L k A ∧ OwnE wr W.heap.size v3 k A ∧ Below W.heap.size W wr) (fun _ v4 _ _ _ => n0 - (RowKit.intOf v4).toNat)
    case atStart => exact ⟨0, [], by omega, rfl, Or1.start _, ownE_none _ _ K1.out.size, K1.out.alloc K1.out.size _⟩
    case round =>
      obtain ⟨k, A, hk, rfl, hO1, hO, hB⟩ := hrel
      have HO1 := Lib.hid hO1
      have HO := Lib.hid hO
      have HB := Lib.hid hB
      obtain ⟨va, vc, rfl, hE, _⟩ := hO.ens
      by_cases hlt : k < n0
      · have q0 : (0 : Int) ≤ (k : Int) := by omega
        have q1 : (k : Int) < (n0 : Int) := by omega
        obtain ⟨b, off, rfl, hbW, hr0, hr1⟩ := H0.out.at hlt
        have hd0 := (hB.cell (p := ⟨b, off + k * 2, none⟩) hbW).trans hr0
        have hfi := find_any va k vc A (eat L k).s wr hE (by omega)
        have HR := Lib.hid (And.intro hbW (And.intro hr0 hr1))
        clear hO1 hO hB hE hbW hr0 hr1
        cases hh : ehas A (eat L k).s with
        | true =>
          rw [hh] at hfi
          go_wp2_with (fail)
          refine hfi.mono ?_
          rintro e w2 ⟨rfl, hb2⟩
          have K2 := Lib.hid (HB.out.trans (hb2.mono HB.out.size))
          clear hfi hb2
          go_wp2_with (fail)
          go_ret
          exact ⟨rfl, K2.out⟩
        | false =>
          rw [hh] at hfi
          have HST := Lib.hid (HO1.out.step (by omega) hh)
          have hpl := Lib.hid (eput_len_not hh)
          go_wp2_with (fail)
          refine hfi.mono ?_
          rintro e w2 ⟨rfl, hb2⟩
          have K2 := Lib.hid (HB.out.trans (hb2.mono HB.out.size))
          have hd0 := (K2.out.cell (p := ⟨b, off + k * 2, none⟩) HR.out.1).trans HR.out.2.1
          have hd1 := (K2.out.cell (p := ⟨b, off + k * 2 + 1, none⟩) HR.out.1).trans HR.out.2.2
          have hE2 := (HO.out.next hb2).ens
          obtain ⟨_, _, hq, hE2, _⟩ := hE2
          cases hq
          have hput := put_any va k vc A (eat L k) w2 hE2 (by omega) (HO1.out.fit HS.out.fit) (Nat.le_trans (wei_mem (eat_mem (by omega))) (Nat.le_trans HS.out.2 (by decide)))
          rw [hpl.out, HO1.out.len] at hput
          unfold env at hput
          clear hfi hb2 hE2 hh
          go_wp2_with (fail)
          refine hput.mono ?_
          rintro e w3 ⟨v3, rfl, ho3, hb3⟩
          have HO3 := Lib.hid (ho3.lower K2.out.size)
          have HB3 := Lib.hid (bt K2.out hb3)
          clear hput ho3 hb3
          go_wp2_with (fail)
          go_roundw
          case rel => exact ⟨k + 1, eput A (eat L k), by omega, by go_num, HST.out, HO3.out, HB3.out⟩
          case measure => simp [RowKit.intOf]; omega
      · obtain rfl : k = n0 := by omega
        have q1 : ¬ (k : Int) < (k : Int) := by omega
        obtain ⟨wE, hwE⟩ : ∃ wE, wE = wr := ⟨_, rfl⟩
        have HWE := Lib.hid hwE
        have wn : IntKind.i64.wrap ((k : Int) - 1) = (k : Int) - 1 := IntWalk.i64_in _ (by omega)
        have HEA := Lib.hid hE
        clear hO1 hO hB hE
        rw [← hwE] at HEA HO HB ⊢
        clear hwE HWE
        go_wp2_with (fail)
        go_loopw [7, 8] (fun v7 v8 wr => ∃ (j nb : Nat) (Bl : List En), j ≤ k ∧ v8 = .int .i64 ((j : Int) - 1) ∧ Or2 L j Bl ∧ OwnE wr wE.heap.size v7 nb Bl ∧ Below wE.heap.size wE wr) (fun _ v8 _ => (RowKit.intOf v8 + 1).toNat)
        case atStart => exact ⟨k, 0, [], by omega, rfl, by rw [← hl]; exact Or2.start _, ownE_none _ _ (Nat.le_refl _), (Below.refl _ _).alloc (Nat.le_refl _) _⟩
        case round =>
          obtain ⟨j, nb, Bl, hj, rfl, hO2, hO, hB⟩ := hrel
          have HO2 := Lib.hid hO2
          have HOB := Lib.hid hO
          have HBB := Lib.hid hB
          have hbl := hO2.len
          have hnb := hO.len
          have hnb60 : nb ≤ 60 := by omega
          have HNB := Lib.hid hnb
          clear hbl hnb
          obtain ⟨vb, vd, rfl, hE, _⟩ := hO.ens
          by_cases h0 : j = 0
          · subst h0
            have q0 : ¬ (0 : Int) ≤ ((0 : Nat) : Int) - 1 := by omega
            have hAB : A = Bl := by
              have h1 := HO1.out
              rw [← hl] at h1
              exact h1.all HO2.out
            subst hAB
            have hblk : nb = k := by rw [← HNB.out]; exact HO1.out.len
            subst hblk
            have hEA := HEA.out.next hB
            have hse := sameE_any va vb nb nb vc vd A A wr hEA hE (by omega) (by omega)
            rw [sameE_refl] at hse
            clear hO2 hO hB hE
            go_wp2_with (fail)
            refine hse.mono ?_
            rintro e w2 ⟨rfl, hb2⟩
            have hri := rising_any va nb vc A w2 (hEA.next hb2) (by omega)
            rw [(ris_rp A).2 HO1.out.rp] at hri
            have K2 := Lib.hid (HB.out.trans ((bt HBB.out hb2).mono HB.out.size))
            clear hse hb2 hEA
            go_wp2_with (fail)
            refine hri.mono ?_
            rintro e w3 ⟨rfl, hb3⟩
            have K3 := Lib.hid (bt K2.out hb3)
            clear hri hb3
            go_wp2_with (fail)
            go_ret
            exact ⟨rfl, K3.out⟩
          · obtain ⟨m, rfl⟩ : ∃ m, j = m + 1 := ⟨j - 1, by omega⟩
            have e1 : ((m + 1 : Nat) : Int) - 1 = (m : Int) := by omega
            rw [e1]
            have q0 : (0 : Int) ≤ (m : Int) := by omega
            have q1' : (m : Int) < (k : Int) := by omega
            have wm : IntKind.i64.wrap ((m : Int) - 1) = (m : Int) - 1 := IntWalk.i64_in _ (by omega)
            obtain ⟨b, off, rfl, hbW, hr0, hr1⟩ := H0.out.at (i := m) (by omega)
            have hBW := HB.out.trans (hB.mono HB.out.size)
            have hd0 := (hBW.cell (p := ⟨b, off + m * 2, none⟩) hbW).trans hr0
            have hd1 := (hBW.cell (p := ⟨b, off + m * 2 + 1, none⟩) hbW).trans hr1
            have hst := HO2.out.step (i := m) (by omega) (by have h1 := HO1.out; rw [← hl] at h1; exact h1.dist_all)
            have HST := Lib.hid hst
            have hput := put_any vb nb vd Bl (eat L m) wr hE (by omega) (HO2.out.fit HS.out.fit) (Nat.le_trans (wei_mem (eat_mem (by omega))) (Nat.le_trans HS.out.2 (by decide)))
            unfold env at hput
            clear hO2 hO hB hE hbW hr0 hr1 hBW hst e1
            go_wp2_with (fail)
            refine hput.mono ?_
            rintro e w3 ⟨v3, rfl, ho3, hb3⟩
            have HO3 := Lib.hid (ho3.lower HBB.out.size)
            have HB3 := Lib.hid (bt HBB.out hb3)
            clear hput ho3 hb3
            go_wp2_with (fail)
            go_roundw
            case rel => exact ⟨m, _, eput Bl (eat L m), by omega, rfl, HST.out, HO3.out, HB3.out⟩
            case measure => simp [RowKit.intOf]
end Go.Proofs.Ytiedapiepklhlaa
