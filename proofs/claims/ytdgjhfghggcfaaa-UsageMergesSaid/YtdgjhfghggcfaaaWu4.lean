/-
  The law UsageRoom, walked.
-/
import Derived.Test.YtdgjhfghggcfaaaMg
import Derived.Test.YtdgjhfghggcfaaaCp
namespace Go.Proofs.Ytdgjhfghggcfaaa
open Go.RowKit Go.Maps
set_option linter.unusedVariables false

theorem cL_le {S D : Nat} (hD : 0 < D) (L : List Int) : ∀ k ∈ cL S D L, k ≤ (D : Int) := by
  intro k hk
  unfold cL at hk
  obtain ⟨j, _, rfl⟩ := List.mem_map.1 hk
  have := cU_le hD L j (S * D)
  omega
theorem sum_bd {M : Nat} {ks : List Int} (h : ∀ x ∈ ks, 0 ≤ x ∧ x ≤ (M : Int)) : ∀ k, 0 ≤ sumL (ks.take k) ∧ sumL (ks.take k) ≤ ((k * M : Nat) : Int)
  | 0 => by simp [sumL]
  | k + 1 => by
    obtain ⟨a, b⟩ := sum_bd h k
    by_cases hk : k < ks.length
    · rw [sumL_take hk, Nat.add_mul, Nat.one_mul, Int.natCast_add]
      have := h _ (num_mem hk)
      omega
    · rw [List.take_of_length_le (by omega)]
      rw [List.take_of_length_le (by omega)] at a b
      rw [Nat.add_mul, Nat.one_mul, Int.natCast_add]
      omega
set_option maxRecDepth 100000 in
set_option maxHeartbeats 16000000 in
theorem room_any (d r s : Int) (a1 : Option Addr) (n1 c1 : Nat) (L : List Int) (old data more : Int) (w : World) (hL : Ins w a1 n1 L) (hwf : ∀ z ∈ L, (Lit.int .i64 z).wf = true) (o1 : old ≤ 9223372036854775807) (o2 : data ≤ 9223372036854775807) (o3 : more ≤ 9223372036854775807) :
    Calls Try.prog 7 #[gv d r s, .slice a1 n1 c1, .int .i64 old, .int .i64 data, .int .i64 more] w fun e w' => e = .returned (.bool true) ∧ Below w.heap.size w w' := by
  have x1 := Bx.mk' w d r s 23
  have hb1 : Below w.heap.size w (w.alloc (.cells #[.int .i64 d, .int .i64 r, .int .i64 s] 23 (0, 0))) := (Below.refl _ _).alloc (Nat.le_refl _) _
  have HL := Lib.hid hL
  have HWF := Lib.hid hwf
  have HX1 := Lib.hid x1
  have HB1 := Lib.hid hb1
  clear hL hwf x1 hb1
  go_enter Try.func7, Try.ntmps7
  go_wp2_with (fail)
  refine (alive_any _).mono ?_
  rintro e w2 ⟨rfl, hb⟩
  have x2 := HX1.out.next hb
  have HB2 := Lib.hid (HB1.out.trans (hb.mono HB1.out.size))
  have HX2 := Lib.hid x2
  clear hb x2
  by_cases hn1 : n1 ≤ 5000
  · have hn1' : decide ((5000 : Int) < (n1 : Int)) = false := decide_eq_false (by omega)
    have y0 := HX2.out.c0
    have y1 := HX2.out.c1
    have y2 := HX2.out.c2
    have hcn := count_any d r s a1 n1 c1 L w2 (HL.out.below (Nat.le_refl _) HB2.out) (by omega) HWF.out
    go_wp2_with (fail)
    refine hcn.mono ?_
    clear hcn
    rintro e w3 ⟨l, ok, ⟨a3, c3, he, hi3, hlo3, hb⟩, hc3⟩
    have x3 := HX2.out.next hb
    have HB3 := Lib.hid (HB2.out.trans (hb.mono HB2.out.size))
    have HX3 := Lib.hid x3
    clear y0 y1 y2 x3
    by_cases hok : Rt d r s ∧ AdOk (s.toNat * (PL d r).toNat) L
    · obtain ⟨hR, hA⟩ := hok
      obtain ⟨p1, p2, _, _⟩ := PL_bd hR.d1 hR.d2 hR.r1 hR.r2
      have s1 := hR.s1
      have s2 := hR.s2
      obtain ⟨rfl, rfl⟩ := hc3.1 hR hA
      obtain ⟨S, rfl⟩ := Int.eq_ofNat_of_zero_le (show 0 ≤ s by omega)
      obtain ⟨D, hD⟩ := Int.eq_ofNat_of_zero_le (show 0 ≤ PL d r by omega)
      rw [Int.toNat_natCast, hD, Int.toNat_natCast] at hi3 hA
      have he' : e = .returned (.tuple #[.slice a3 S c3, .bool true]) := by rw [he, Int.toNat_natCast, hD, Int.toNat_natCast, cL_len]
      rw [cL_len] at hi3
      subst he'
      rw [hD] at p1 p2
      have HD := Lib.hid hD
      have HR := Lib.hid hR
      have HA := Lib.hid hA
      have HI3 := Lib.hid hi3
      have HNN : Hid (noneNeg (cL S D L)) := Lib.hid fun k hk => by
        unfold cL at hk
        obtain ⟨j, _, rfl⟩ := List.mem_map.1 hk
        omega
      clear hc3 he hb hR hA hi3 hlo3 hD
      have hle : Hid (∀ k ∈ cL S D L, k ≤ (D : Int)) := Lib.hid (cL_le (by omega) L)
      have y0 := HX3.out.c0
      have y1 := HX3.out.c1
      have y2 := HX3.out.c2
      go_wp2_with (fail)
      refine (caps_yes d r S _ HR.out).mono ?_
      rintro e w4 ⟨rfl, hb⟩
      have HB4 := Lib.hid (HB3.out.trans (hb.mono HB3.out.size))
      have x4 := HX3.out.next hb
      have HX4 := Lib.hid x4
      have HI4 := Lib.hid (HI3.out.next hb)
      clear hb y0 y1 y2
      have y0 := x4.c0
      have y1 := x4.c1
      have y2 := x4.c2
      clear x4
      have hpl := places_yes d r S w4 HR.out
      rw [HD.out] at hpl
      go_wp2_with (fail)
      refine hpl.mono ?_
      clear hpl
      rintro e w5 ⟨rfl, hb⟩
      have HB5 := Lib.hid (HB4.out.trans (hb.mono HB4.out.size))
      have x5 := HX4.out.next hb
      have HX5 := Lib.hid x5
      have hi5 := HI4.out.next hb
      have HI5 := Lib.hid hi5
      clear hb y0 y1 y2
      have y0 := x5.c0
      have y1 := x5.c1
      have y2 := x5.c2
      clear x5
      obtain ⟨p, hp⟩ : ∃ p, p = PC (S : Int) := ⟨_, rfl⟩
      obtain ⟨q, hq⟩ : ∃ q, q = QC (S : Int) := ⟨_, rfl⟩
      have hq2 : 2 ≤ q ∧ q ≤ 9 := by rw [hq]; exact QC_bd s1 s2
      have hp2 : 0 ≤ p ∧ p ≤ 64 ∧ 3 * p + 2 * q + 2 ≤ (S : Int) := by rw [hp, hq]; unfold PC QC; omega
      rw [← hp, ← hq]
      obtain ⟨pD, hpD⟩ : ∃ x, x = p * (D : Int) := ⟨_, rfl⟩
      obtain ⟨qD, hqD⟩ : ∃ x, x = q * (D : Int) := ⟨_, rfl⟩
      have hpD2 : 0 ≤ pD ∧ pD ≤ 64 * 59 := by rw [hpD]; exact mul_bd hp2.1 hp2.2.1 (by omega) p2
      have hqD2 : 0 ≤ qD ∧ qD ≤ 9 * 59 := by rw [hqD]; exact mul_bd (by omega) hq2.2 (by omega) p2
      have W1 : IntKind.i64.wrap (p * (D : Int)) = pD := by rw [← hpD]; exact IntWalk.i64_in _ (by omega)
      have W2 : IntKind.i64.wrap (q * (D : Int)) = qD := by rw [← hqD]; exact IntWalk.i64_in _ (by omega)
      have HPD := Lib.hid hpD
      have HQD := Lib.hid hqD
      clear hp hq hpD hqD
      go_wp2_with (fail)
      go_loopw [16, 17] (fun u i wr => ∃ k : Nat, k ≤ S ∧ i = .int .i64 k ∧ u = .int .i64 (sumL ((cL S D L).take k)) ∧ wr = w5) (fun _ i _ => S - (RowKit.intOf i).toNat)
      case atStart => exact ⟨0, by omega, rfl, by simp [sumL], rfl⟩
      case round =>
        obtain ⟨k, hkS, rfl, rfl, rfl⟩ := hrel
        have hsb := sum_bd (M := 59) (ks := cL S D L) (fun x hx => ⟨HNN.out x hx, by have := hle.out x hx; omega⟩) k
        have hst : Hid (k < S → sumL ((cL S D L).take (k + 1)) = sumL ((cL S D L).take k) + num (cL S D L) k) := Lib.hid fun hk => sumL_take (by rw [cL_len]; exact hk)
        have hnb : k < S → 0 ≤ num (cL S D L) k ∧ num (cL S D L) k ≤ 59 := fun hk => by
          have hm := num_mem (ks := cL S D L) (i := k) (by rw [cL_len]; exact hk)
          exact ⟨HNN.out _ hm, by have := hle.out _ hm; omega⟩
        have hfull : Hid ((cL S D L).take S = cL S D L) := Lib.hid (List.take_of_length_le (by rw [cL_len]; omega))
        have k0 : (0 : Int) ≤ (k : Int) := by omega
        by_cases hlt : k < S
        · have k1 : (k : Int) < (S : Int) := by omega
          obtain ⟨b, off, rfl, hbl, hc⟩ := hi5.at (by omega)
          have y := hc k hlt
          have hn2 := hnb hlt
          have HST := Lib.hid (hst.out hlt)
          obtain ⟨al, hal⟩ : ∃ al, al = sumL ((cL S D L).take k) := ⟨_, rfl⟩
          rw [← hal] at hsb HST ⊢
          clear hc hi5 hnb hst hal
          go_wp2_with (fail)
          go_roundw
          case rel => exact ⟨k + 1, by omega, by go_num, by rw [HST.out], by first | rfl | trivial⟩
          case measure => simp [RowKit.intOf]; omega
        · obtain rfl : k = S := by omega
          have k1 : decide ((k : Int) < (k : Int)) = false := decide_eq_false (by omega)
          rw [hfull.out] at hsb ⊢
          obtain ⟨al, hal⟩ : ∃ al, al = sumL (cL k D L) := ⟨_, rfl⟩
          rw [← hal] at hsb ⊢
          have HAL := Lib.hid hal
          clear hal hst hnb hi5 hfull
          by_cases g1 : pD < al
          · have f1 : decide (pD < al) = true := decide_eq_true g1
            go_wp2_with (fail)
            all_goals go_ret
            all_goals exact ⟨rfl, HB5.out⟩
          have f1 : decide (pD < al) = false := decide_eq_false g1
          by_cases g2 : old < 0
          · have f2 : decide (old < 0) = true := decide_eq_true g2
            go_wp2_with (fail)
            all_goals go_ret
            all_goals exact ⟨rfl, HB5.out⟩
          have f2 : decide (old < 0) = false := decide_eq_false g2
          by_cases g3 : q < old
          · have f3 : decide (q < old) = true := decide_eq_true g3
            go_wp2_with (fail)
            all_goals go_ret
            all_goals exact ⟨rfl, HB5.out⟩
          have f3 : decide (q < old) = false := decide_eq_false g3
          by_cases g4 : data < 0
          · have f4 : decide (data < 0) = true := decide_eq_true g4
            go_wp2_with (fail)
            all_goals go_ret
            all_goals exact ⟨rfl, HB5.out⟩
          have f4 : decide (data < 0) = false := decide_eq_false g4
          by_cases g5 : pD < data
          · have f5 : decide (pD < data) = true := decide_eq_true g5
            go_wp2_with (fail)
            all_goals go_ret
            all_goals exact ⟨rfl, HB5.out⟩
          have f5 : decide (pD < data) = false := decide_eq_false g5
          by_cases g6 : more < 0
          · have f6 : decide (more < 0) = true := decide_eq_true g6
            go_wp2_with (fail)
            all_goals go_ret
            all_goals exact ⟨rfl, HB5.out⟩
          have f6 : decide (more < 0) = false := decide_eq_false g6
          by_cases g7 : qD < more
          · have f7 : decide (qD < more) = true := decide_eq_true g7
            go_wp2_with (fail)
            all_goals go_ret
            all_goals exact ⟨rfl, HB5.out⟩
          have f7 : decide (qD < more) = false := decide_eq_false g7
          have hvi := victims_any d r k a3 none k c3 0 0 (cL k D L) [] wr HI5.out ⟨rfl, .inl rfl⟩ (by omega) (by omega)
          go_wp2_with (fail)
          refine hvi.mono ?_
          clear hvi
          rintro e w6 ⟨l, ⟨a6, c6, rfl, hi6, hb⟩, _, hiv⟩
          have hv := hiv HR.out
          rw [HD.out, Int.toNat_natCast] at hv
          have HV := Lib.hid hv
          have HB6 := Lib.hid (HB5.out.trans (hb.mono HB5.out.size))
          have x6 := HX5.out.next hb
          have HI6 := Lib.hid (HI5.out.next hb)
          clear hiv hv hi6 hb y0 y1 y2
          have y0 := x6.c0
          have y1 := x6.c1
          have y2 := x6.c2
          clear x6
          by_cases hl : l.length = 0
          · have hl' : decide ((0 : Int) < (l.length : Int)) = false := decide_eq_false (by omega)
            have hnil : l = [] := List.eq_nil_of_length_eq_zero hl
            have HFP : Hid (fitP (D : Int) (k : Int) (upN (cL k D L) : Nat) old data more = true) := Lib.hid (by
              have hv := HV.out
              rw [hnil] at hv
              refine room (p := p) (q := q) p1 HNN.out hle.out (by rw [cL_len]; exact hv) hp2.2.2 ?_ (by omega) (by omega) (by omega) ?_ (by omega) ?_
              · rw [← HAL.out, ← HPD.out]; omega
              · rw [← HPD.out]; omega
              · rw [← HQD.out]; omega)
            have hfi := fits_any d r k a3 k c3 (cL k D L) old data more w6 o1 o2 o3 HI6.out (by omega)
            clear hnil
            go_wp2_with (fail)
            refine hfi.mono ?_
            clear hfi
            rintro e w7 ⟨⟨b7, rfl, hf7⟩, hb⟩
            have hbt : b7 = true := by rw [hf7.2.2 HR.out HNN.out, HD.out]; exact HFP.out
            subst hbt
            have HB7 := Lib.hid (HB6.out.trans (hb.mono HB6.out.size))
            clear hf7 hb
            go_wp2_with (fail)
            go_ret
            exact ⟨rfl, HB7.out⟩
          · have hl' : decide ((0 : Int) < (l.length : Int)) = true := decide_eq_true (by omega)
            go_wp2_with (fail)
            all_goals go_ret
            all_goals exact ⟨rfl, HB6.out⟩
    · obtain ⟨rfl, rfl⟩ := hc3.2 hok
      have he' : e = .returned (.tuple #[.slice a3 0 c3, .bool false]) := he
      subst he'
      clear hok he hi3 hlo3 hb hc3
      go_wp2_with (fail)
      go_ret
      exact ⟨rfl, HB3.out⟩
  · have hn1' : decide ((5000 : Int) < (n1 : Int)) = true := decide_eq_true (by omega)
    go_wp2_with (fail)
    go_ret
    exact ⟨rfl, HB2.out⟩
end Go.Proofs.Ytdgjhfghggcfaaa
