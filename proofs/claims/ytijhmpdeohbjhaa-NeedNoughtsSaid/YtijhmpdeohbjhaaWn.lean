/-
  The law NeedNoughts walked: noughts behind bytes need nothing more.
-/
import Derived.Test.YtijhmpdeohbjhaaQag
set_option linter.unusedVariables false
set_option linter.unusedSimpArgs false
namespace Go.Proofs.Ytijhmpdeohbjhaa
open Go.RowKit
set_option linter.unusedVariables false
set_option linter.unusedSimpArgs false

theorem ofN_at {l : List Nat} {i : Nat} (h : i < l.length) : inu (ofN l) i = ((l[i] : Nat) : Int) := by
  rw [inu_ofN h]
  simp [List.getD, h]
set_option maxRecDepth 100000 in
set_option maxHeartbeats 8000000 in
theorem noughts_any (a0 : Option Addr) (n0 c0 : Nat) (x0 : List Int) (a1 : Int) (w : World) (h0 : Pin w a0 n0 c0 x0) (w1 : (Lit.int .i64 a1).wf = true) :
    Calls Try.prog 3 #[.slice a0 n0 c0, .int .i64 a1] w fun e w' => e = .returned (.bool true) ∧ Below w.heap.size w w' := by
  have HP := Lib.hid h0
  have hcap := h0.cap
  have hmax := h0.max
  have HLN := Lib.hid h0.len
  clear h0 w1
  go_enter Try.func3, Try.ntmps3
  go_wp2_with (fail)
  refine (alive_any w).mono ?_
  rintro e w2 ⟨rfl, hb2⟩
  have HB2 := Lib.hid hb2
  clear hb2
  by_cases g1 : 20000 < n0
  · have k1 : (20000 : Int) < (n0 : Int) := by omega
    go_wp2_with (fail)
    go_ret
    exact ⟨rfl, HB2.out⟩
  have k1 : ¬ (20000 : Int) < (n0 : Int) := by omega
  by_cases g2 : a1 < 0
  · go_wp2_with (fail)
    go_ret
    exact ⟨rfl, HB2.out⟩
  by_cases g3 : 20000 < a1
  · go_wp2_with (fail)
    go_ret
    exact ⟨rfl, HB2.out⟩
  obtain ⟨m, rfl⟩ := Int.eq_ofNat_of_zero_le (show 0 ≤ a1 by omega)
  have g4 : m ≤ 20000 := by omega
  go_wp2_with (at_make; go_must (refine wpList_mk rfl _ _ rfl .i64 .i64 _ _ m rfl rfl rfl rfl (by omega) ?_); intro w3 hk3 hb3; have HK3 := Lib.hid hk3; have HB3 := Lib.hid (HB2.out.trans (hb3.mono HB2.out.size)); have HZ3 := Lib.hid hb3.size; clear hk3 hb3)
  obtain ⟨zb, hzb⟩ : ∃ zb, zb = w2.heap.size := ⟨_, rfl⟩
  rw [← hzb]
  have hzp : Pin w3 (some ⟨zb, 0, none⟩) m m (List.replicate m 0) := by
    rw [hzb]
    exact HK3.out.pin (AllB.zeros m) (by simp) (Nat.le_refl _) (by omega)
  have HZP := Lib.hid hzp
  have hp3 := HP.out.below (Nat.le_refl _) HB3.out
  have HP3 := Lib.hid hp3
  clear hzp hp3 hzb HZ3 HK3 HB2
  obtain ⟨T, hT⟩ : ∃ T, thr x0 = T := ⟨_, rfl⟩
  obtain ⟨N, hN⟩ : ∃ N, T.length = N := ⟨_, rfl⟩
  have HT := Lib.hid hT
  have HN := Lib.hid hN
  have HTZ : Hid (thr (x0 ++ List.replicate m 0) = T) := Lib.hid ((thr_zeros x0 m).trans hT)
  clear hT hN
  refine (there_is HP3.out (by omega) HT.out HN.out).mono ?_
  rintro e w4 ⟨a4, c4, rfl, hi4, hc4, _, hb4⟩
  have HI4 := Lib.hid hi4
  have HB4 := Lib.hid hb4
  clear hi4 hb4 hc4
  go_wp2_with (fail)
  refine (copyB_any a0 n0 c0 x0 w4 (HP3.out.next HB4.out) (by omega)).mono ?_
  rintro e w5 ⟨l5, rfl, ho5, hb5⟩
  have HO5 : Hid (Own w5 w4.heap.size l5 n0 x0) := Lib.hid (by rw [HLN.out] at ho5; exact ho5)
  have HB5 := Lib.hid hb5
  have HZ5 := Lib.hid ((HZP.out.next HB4.out).next hb5)
  clear ho5 hb5
  go_wp2_with (at_builtin; go_must (refine wpList_ap rfl (.tmp 29) (.tmp 30) rfl w4.heap.size _ n0 x0 rfl HO5.out (some ⟨zb, 0, none⟩) m m (List.replicate m 0) rfl HZ5.out.bys (by intro e; cases e) (by omega) HB5.out.size w4 HB5.out ?_); intro l6 w6 ho6 hb6; have HO6 := Lib.hid ho6; have HB6 := Lib.hid hb6; clear ho6 hb6)
  obtain ⟨a6, c6, rfl, hp6, _⟩ := HO6.out.pin
  have HP6 := Lib.hid hp6
  have HB46 := Lib.hid HB6.out
  clear hp6
  refine (there_is HP6.out (by omega) HTZ.out HN.out).mono ?_
  rintro e w7 ⟨a7, c7, rfl, hi7, hc7, _, hb7⟩
  have HI7 := Lib.hid hi7
  have HB47 := Lib.hid (HB6.out.trans (hb7.mono HB6.out.size))
  have HI4' := Lib.hid (HI4.out.next HB47.out)
  have HBX := Lib.hid ((HB3.out.trans (HB4.out.mono HB3.out.size)).trans (HB47.out.mono (Nat.le_trans HB3.out.size HB4.out.size)))
  have HZ7 := Lib.hid ((HZP.out.next HB4.out).next HB47.out)
  have HTL : Hid (T.length ≤ 1000) := Lib.hid (by
    have h1 : T.length ≤ nBl x0.length := by rw [← HT.out]; exact Nat.le_trans (List.length_filter_le _ _) (Nat.le_of_eq List.length_range)
    have h2 := HLN.out
    unfold nBl at h1
    omega)
  clear hi7 hb7 HI4 HP6 HO6 HO5 HB5 HB6 HB46 HB4 HZ5 hc7
  go_wp2_with (fail)
  go_loopw [9] (fun i wr => ∃ k q : Nat, k ≤ N ∧ i = .int .i64 k ∧ wr = w7.drewN q) (fun i _ => N - (RowKit.intOf i).toNat)
  case atStart => exact ⟨0, 0, Nat.zero_le _, rfl, rfl⟩
  case round =>
    obtain ⟨k, q, hk, rfl, hq⟩ := hrel
    have hB : Below w7.heap.size w7 wr := by rw [hq]; exact below_drewN (Below.refl _ _) q
    have HQ := Lib.hid hq
    have HBQ := Lib.hid hB
    clear hq hB
    by_cases hlt : k < N
    · have hkT : k < T.length := by rw [HN.out]; exact hlt
      obtain ⟨b, off, rfl, hbl, hcs⟩ := HI4'.out.at (by omega)
      have x1 := (HBQ.out.cell (p := ⟨b, off + k, none⟩) hbl).trans (hcs k hlt)
      rw [ofN_at hkT] at x1
      have hmem : T[k] * 56 < n0 := by
        have := thr_lt (b := x0) (x := T[k]) (by rw [HT.out]; exact List.getElem_mem hkT)
        have h2 := HLN.out
        omega
      obtain ⟨v, hv⟩ : ∃ v, v = T[k] := ⟨_, rfl⟩
      rw [← hv] at x1 hmem
      have hcs' : Hid (∀ i, i < N → w7.cell? ⟨b, off + i, none⟩ = some (.int .i64 (inu (ofN T) i))) := Lib.hid hcs
      have k1 : (k : Int) < (N : Int) := by omega
      have k0 : (0 : Int) ≤ (k : Int) := by omega
      have v0 : ¬ (v : Int) < 0 := by omega
      have v1 : ¬ (n0 : Int) ≤ (v : Int) * 56 := by omega
      have v2 : (v : Int) * 56 ≤ 9223372036854775807 := by omega
      clear hcs
      have vw : IntKind.i64.wrap ((v : Int) * 56) = (v : Int) * 56 := IntWalk.i64_in _ (by omega)
      have v3 : decide ((v : Int) < 0) = false := decide_eq_false v0
      have v4 : decide ((n0 : Int) ≤ (v : Int) * 56) = false := decide_eq_false v1
      by_cases hz : k = 0
      · subst hz
        rw [Nat.add_zero] at x1
        clear hv
        go_wp2_with (fail)
        go_quiet (fail)
        go_wp2_with (fail)
        go_roundw
        case rel => exact ⟨1, q + nq, by omega, by go_num, by rw [HQ.out, World.drewN_drewN]⟩
        case measure => simp [RowKit.intOf]; omega
      · obtain ⟨j, hj⟩ : ∃ j, k = j + 1 := ⟨k - 1, by omega⟩
        have x2 := (HBQ.out.cell (p := ⟨b, off + j, none⟩) hbl).trans (hcs'.out j (by omega))
        rw [ofN_at (show j < T.length by omega)] at x2
        obtain ⟨u, hu⟩ : ∃ u, u = T[j]'(by omega) := ⟨_, rfl⟩
        rw [← hu] at x2
        have huv : u < v := by
          have h1 := thr_rises x0
          rw [HT.out, List.pairwise_iff_getElem] at h1
          rw [hu, hv]
          exact h1 j k (by omega) hkT (by omega)
        have v5 : decide ((v : Int) ≤ (u : Int)) = false := decide_eq_false (by omega)
        have hN1 : N ≤ 1000 := by have := HTL.out; rw [HN.out] at this; exact this
        have v6 : (k : Int) - 1 = (j : Int) := by omega
        have v7 : IntKind.i64.wrap ((k : Int) - 1) = (j : Int) := (IntWalk.i64_in _ (by omega)).trans (by omega)
        have v8 : (0 : Int) < (k : Int) := by omega
        have v9 : (0 : Int) ≤ (j : Int) := by omega
        have va : (j : Int) < (N : Int) := by omega
        have vb : decide ((0 : Int) < (k : Int)) = true := decide_eq_true v8
        have vc : decide (0 < k) = true := decide_eq_true (by omega)
        have vd : decide (v ≤ u) = false := decide_eq_false (by omega)
        clear hu hv hj
        go_wp2_with (fail)
        go_quiet (fail)
        go_wp2_with (fail)
        go_roundw
        case rel => exact ⟨k + 1, q + nq, by omega, by go_num, by rw [HQ.out, World.drewN_drewN]⟩
        case measure => simp [RowKit.intOf]; omega
    · obtain rfl : k = N := by omega
      have k1 : ¬ (k : Int) < (k : Int) := by omega
      have HS := Lib.hid (sameInts_yes a4 a7 k c4 c7 (ofN T) wr (HI4'.out.next HBQ.out) (HI7.out.next HBQ.out) (by have := HTL.out; rw [HN.out] at this; omega))
      go_wp2_with (fail)
      refine HS.out.mono ?_
      rintro e w8 ⟨rfl, hb8⟩
      have HB8 := Lib.hid (HBQ.out.trans (hb8.mono HBQ.out.size))
      have HZ8 := Lib.hid (HZ7.out.next HB8.out)
      clear hb8 HS
      go_wp2_with (fail)
      refine (there_is HZ8.out (by omega) (thr_none m) rfl).mono ?_
      rintro e w9 ⟨a9, c9, rfl, _, _, _, hb9⟩
      have HB9 := Lib.hid (HBX.out.trans ((HB8.out.trans (hb9.mono HB8.out.size)).mono HBX.out.size))
      clear hb9
      have hl0 : ([] : List Nat).length = 0 := rfl
      rw [hl0]
      go_wp2_with (fail)
      go_ret
      exact ⟨rfl, HB9.out⟩
end Go.Proofs.Ytijhmpdeohbjhaa
