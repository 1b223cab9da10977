/-
  The law NeedParts walked: the blocks of bytes behind whole blocks are told with their numbers.
-/
import Derived.Test.YtijhmpdeohbjhaaWn
set_option linter.unusedVariables false
set_option linter.unusedSimpArgs false
namespace Go.Proofs.Ytijhmpdeohbjhaa
open Go.RowKit
set_option linter.unusedVariables false
set_option linter.unusedSimpArgs false

theorem thr_len (b : List Int) : (thr b).length ≤ nBl b.length := Nat.le_trans (List.length_filter_le _ _) (Nat.le_of_eq List.length_range)
theorem Ins.front {w : World} {a : Option Addr} {T U : List Nat} {N M K : Nat} (h : Ins w a K (ofN (T ++ U))) (hK : K = N + M) (hN : T.length = N) : Ins w a N (ofN T) := by
  subst hK
  refine ⟨by rw [ofN_len]; exact hN, ?_⟩
  rcases h.place with h0 | ⟨b, off, e, hlt, hc⟩
  · exact .inl (by omega)
  · refine .inr ⟨b, off, e, hlt, fun i hi => ?_⟩
    rw [hc i (by omega)]
    congr 2
    rw [ofN_at (show i < (T ++ U).length by rw [List.length_append]; omega), ofN_at (show i < T.length by omega)]
    rw [List.getElem_append_left (by omega)]
set_option maxRecDepth 100000 in
set_option maxHeartbeats 8000000 in
theorem parts_any (a0 : Option Addr) (n0 c0 : Nat) (x0 : List Int) (a1 : Option Addr) (n1 c1 : Nat) (x1 : List Int) (w : World) (h0 : Pin w a0 n0 c0 x0) (h1 : Pin w a1 n1 c1 x1) :
    Calls Try.prog 5 #[.slice a0 n0 c0, .slice a1 n1 c1] w fun e w' => e = .returned (.bool true) ∧ Below w.heap.size w w' := by
  have HP := Lib.hid h0
  have HQ := Lib.hid h1
  have hcap := h0.cap
  have hmax := h0.max
  have hcap1 := h1.cap
  have hmax1 := h1.max
  have HL0 := Lib.hid h0.len
  have HL1 := Lib.hid h1.len
  clear h0 h1
  go_enter Try.func5, Try.ntmps5
  go_wp2_with (fail)
  refine (alive_any w).mono ?_
  rintro e w2 ⟨rfl, hb2⟩
  have HB2 := Lib.hid hb2
  clear hb2
  by_cases g1 : 50000 < n0
  · have k1 : (50000 : Int) < (n0 : Int) := by omega
    go_wp2_with (fail)
    go_ret
    exact ⟨rfl, HB2.out⟩
  have k1 : ¬ (50000 : Int) < (n0 : Int) := by omega
  by_cases g2 : 50000 < n1
  · have k2 : (50000 : Int) < (n1 : Int) := by omega
    go_wp2_with (fail)
    go_ret
    exact ⟨rfl, HB2.out⟩
  have k2 : ¬ (50000 : Int) < (n1 : Int) := by omega
  have htm : Int.tmod (n0 : Int) 56 = ((n0 % 56 : Nat) : Int) := by rw [Int.tmod_eq_emod_of_nonneg (by omega)]; omega
  by_cases g3 : ¬ n0 % 56 = 0
  · have k3 : ((n0 : Int) % 56 != 0) = true := by simp; omega
    go_wp2_with (fail)
    go_ret
    exact ⟨rfl, HB2.out⟩
  have g3 : n0 % 56 = 0 := Decidable.not_not.1 g3
  rw [g3] at htm
  have htm' : Int.tmod (n0 : Int) 56 = 0 := htm
  obtain ⟨m, hm⟩ : ∃ m, n0 = 56 * m := ⟨n0 / 56, by omega⟩
  have htd : Int.tdiv (n0 : Int) 56 = (m : Int) := by rw [Int.tdiv_eq_ediv_of_nonneg (by omega)]; omega
  obtain ⟨T0, hT0⟩ : ∃ T, thr x0 = T := ⟨_, rfl⟩
  obtain ⟨N0, hN0⟩ : ∃ N, T0.length = N := ⟨_, rfl⟩
  obtain ⟨T1, hT1⟩ : ∃ T, thr x1 = T := ⟨_, rfl⟩
  obtain ⟨N1, hN1⟩ : ∃ N, T1.length = N := ⟨_, rfl⟩
  have HT0 := Lib.hid hT0
  have HT1 := Lib.hid hT1
  have HN0 := Lib.hid hN0
  have HN1 := Lib.hid hN1
  have hT : thr (x0 ++ x1) = T0 ++ T1.map (m + ·) := by rw [thr_parts (by rw [HL0.out]; exact hm), hT0, hT1]
  have HT := Lib.hid hT
  obtain ⟨N, hN⟩ : ∃ N, N = N0 + N1 := ⟨_, rfl⟩
  have HN : Hid ((T0 ++ T1.map (m + ·)).length = N) := Lib.hid (by rw [List.length_append, List.length_map, hN0, hN1, hN])
  have HNE := Lib.hid hN
  have hb0 : N0 ≤ 1000 := by
    have h1 := thr_len x0
    rw [hT0, hN0, HL0.out] at h1
    unfold nBl at h1
    omega
  have hb1 : N1 ≤ 1000 := by
    have h1 := thr_len x1
    rw [hT1, hN1, HL1.out] at h1
    unfold nBl at h1
    omega
  have hmb : m ≤ 1000 := by omega
  have HV1 : Hid (∀ v, v ∈ T1 → v ≤ 1000) := Lib.hid (fun v hv => by
    have h1 := thr_lt (b := x1) (x := v) (by rw [hT1]; exact hv)
    rw [HL1.out] at h1
    omega)
  have HM := Lib.hid hm
  have ks : ((N0 : Int) + (N1 : Int)) = (N : Int) := by omega
  have kn : N0 ≤ N := by omega
  have kn2 : N ≤ 2000 := by omega
  clear hT0 hT1 hN0 hN1 hT hm htm hN
  have hp2 := HP.out.below (Nat.le_refl _) HB2.out
  have hq2 := HQ.out.below (Nat.le_refl _) HB2.out
  have HP2 := Lib.hid hp2
  have HQ2 := Lib.hid hq2
  clear hp2 hq2
  go_wp2_with (fail)
  refine (there_is HP2.out (by omega) HT0.out HN0.out).mono ?_
  rintro e w3 ⟨a3, c3, rfl, hi3, hc3, _, hb3⟩
  have HI3 := Lib.hid hi3
  have HB3 := Lib.hid hb3
  clear hi3 hb3
  go_wp2_with (fail)
  refine (there_is (HQ2.out.next HB3.out) (by omega) HT1.out HN1.out).mono ?_
  rintro e w4 ⟨a4, c4, rfl, hi4, hc4, _, hb4⟩
  have HI4 := Lib.hid hi4
  have HB24 := Lib.hid (HB3.out.trans (hb4.mono HB3.out.size))
  have HI3' := Lib.hid (HI3.out.next hb4)
  clear hi4 hb4 HI3 HB3
  go_wp2_with (fail)
  refine (copyB_any a0 n0 c0 x0 w4 (HP2.out.next HB24.out) (by omega)).mono ?_
  rintro e w5 ⟨l5, rfl, ho5, hb5⟩
  have HO5 : Hid (Own w5 w4.heap.size l5 n0 x0) := Lib.hid (by rw [HL0.out] at ho5; exact ho5)
  have HB5 := Lib.hid hb5
  have HZ5 := Lib.hid ((HQ2.out.next HB24.out).next hb5)
  clear ho5 hb5
  go_wp2_with (at_builtin; go_must (refine wpList_ap rfl (.tmp 32) (.tmp 33) rfl w4.heap.size _ n0 x0 rfl HO5.out a1 n1 c1 x1 rfl HZ5.out.bys HZ5.out.nil (by omega) HB5.out.size w4 HB5.out ?_); intro l6 w6 ho6 hb6; have HO6 := Lib.hid ho6; have HB6 := Lib.hid hb6; clear ho6 hb6)
  obtain ⟨a6, c6, rfl, hp6, _⟩ := HO6.out.pin
  have HP6 := Lib.hid hp6
  clear hp6
  refine (there_is HP6.out (by omega) HT.out HN.out).mono ?_
  rintro e w7 ⟨a7, c7, rfl, hi7, hc7, _, hb7⟩
  have HI7 := Lib.hid hi7
  have HB47 := Lib.hid (HB6.out.trans (hb7.mono HB6.out.size))
  have HI37 := Lib.hid (HI3'.out.next HB47.out)
  have HI47 := Lib.hid (HI4.out.next HB47.out)
  have HBX := Lib.hid (HB2.out.trans ((HB24.out.trans (HB47.out.mono HB24.out.size)).mono HB2.out.size))
  clear hi7 hb7 HI3' HI4 HP6 HO6 HO5 HB5 HB6 HZ5
  have kc : N0 ≤ c7 := by omega
  have HS := Lib.hid (sameInts_yes a7 a3 N0 c7 c3 (ofN T0) w7 (HI7.out.front HNE.out HN0.out) HI37.out (by omega))
  go_wp2_with (fail)
  refine HS.out.mono ?_
  rintro e w8 ⟨rfl, hb8⟩
  have HB8 := Lib.hid hb8
  have HI78 := Lib.hid (HI7.out.next hb8)
  have HI48 := Lib.hid (HI47.out.next hb8)
  have HBY := Lib.hid (HBX.out.trans (hb8.mono HBX.out.size))
  clear hb8 HI7 HI47 HI37 HS
  go_wp2_with (fail)
  go_loopw [9] (fun i wr => ∃ k q : Nat, k ≤ N1 ∧ i = .int .i64 k ∧ wr = w8.drewN q) (fun i _ => N1 - (RowKit.intOf i).toNat)
  case atStart => exact ⟨0, 0, Nat.zero_le _, rfl, rfl⟩
  case round =>
    obtain ⟨k, q, hk, rfl, hq⟩ := hrel
    have hB : Below w8.heap.size w8 wr := by rw [hq]; exact below_drewN (Below.refl _ _) q
    have HQQ := Lib.hid hq
    have HBQ := Lib.hid hB
    clear hq hB
    by_cases hlt : k < N1
    · have hkT : k < T1.length := by rw [HN1.out]; exact hlt
      obtain ⟨p, hp⟩ : ∃ p, p = N0 + k := ⟨_, rfl⟩
      obtain ⟨b, off, rfl, hbl, hcs⟩ := HI48.out.at (by omega)
      obtain ⟨b7, off7, rfl, hbl7, hcs7⟩ := HI78.out.at (by omega)
      have y1 := (HBQ.out.cell (p := ⟨b, off + k, none⟩) hbl).trans (hcs k hlt)
      have y2 := (HBQ.out.cell (p := ⟨b7, off7 + p, none⟩) hbl7).trans (hcs7 p (by omega))
      rw [ofN_at hkT] at y1
      have hpT : p < (T0 ++ T1.map (m + ·)).length := by rw [HN.out]; omega
      have hval : (T0 ++ T1.map (m + ·))[p] = m + T1[k] := by
        rw [List.getElem_append_right (by rw [HN0.out]; omega), List.getElem_map]
        congr 1
        have : p - T0.length = k := by rw [HN0.out]; omega
        simp only [this]
      rw [ofN_at hpT, hval] at y2
      have hvb := HV1.out T1[k] (List.getElem_mem hkT)
      obtain ⟨v, hv⟩ : ∃ v, v = T1[k] := ⟨_, rfl⟩
      rw [← hv] at y1 y2 hvb
      obtain ⟨u, hu⟩ : ∃ u, u = m + v := ⟨_, rfl⟩
      rw [← hu] at y2
      have j0 : (0 : Int) ≤ (k : Int) := by omega
      have j1 : (k : Int) < (N1 : Int) := by omega
      have j2 : (N0 : Int) + (k : Int) = (p : Int) := by omega
      have j3 : IntKind.i64.wrap ((N0 : Int) + (k : Int)) = (p : Int) := (IntWalk.i64_in _ (by omega)).trans j2
      have j4 : (0 : Int) ≤ (p : Int) := by omega
      have j5 : (p : Int) < (N : Int) := by have := HNE.out; omega
      have j6 : (v : Int) + (m : Int) = (u : Int) := by omega
      have j7 : IntKind.i64.wrap ((v : Int) + (m : Int)) = (u : Int) := (IntWalk.i64_in _ (by omega)).trans j6
      clear hcs hcs7 hv hu hp hval
      go_wp2_with (fail)
      go_quiet (fail)
      go_wp2_with (fail)
      go_roundw
      case rel => exact ⟨k + 1, q + nq, by omega, by go_num, by rw [HQQ.out, World.drewN_drewN]⟩
      case measure => simp [RowKit.intOf]; omega
    · obtain rfl : k = N1 := by omega
      have j1 : ¬ (k : Int) < (k : Int) := by omega
      go_wp2_with (fail)
      go_ret
      exact ⟨rfl, HBY.out.trans (HBQ.out.mono HBY.out.size)⟩
end Go.Proofs.Ytijhmpdeohbjhaa
