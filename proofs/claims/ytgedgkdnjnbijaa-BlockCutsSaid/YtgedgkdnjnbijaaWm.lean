/-
  The law BlockMoves, walked (of any map that does as its contracts say).
-/
import Derived.Test.YtgedgkdnjnbijaaWc
import Derived.Deep.RegionHeld3
namespace Go.Proofs.Ytgedgkdnjnbijaa
open Go.RowKit
set_option linter.unusedVariables false
set_option linter.unusedSimpArgs false

theorem mv_step {A : Nat → Int} {f : Int} {k : Nat} (h : A k = f) : mvN A f (k + 1) = mvN A f k + 1 := by rw [mvN, if_pos h]
theorem mv_stay {A : Nat → Int} {f : Int} {k : Nat} (h : A k ≠ f) : mvN A f (k + 1) = mvN A f k := by rw [mvN, if_neg h]; omega
theorem mv_len {ks : List Int} {f : Int} (hf : 1 ≤ f) {m : Nat} (h : ks.length ≤ m) : mvN (num ks) f m = mvN (num ks) f ks.length := by
  induction m with
  | zero => rw [show ks.length = 0 by omega]
  | succ m ih =>
    by_cases e : ks.length = m + 1
    · rw [e]
    · rw [mv_stay (by rw [num_off (by omega)]; omega), ih (by omega)]
theorem mv_back {A : Nat → Int} {f t : Int} {N : Nat} (hn : ∀ k, k < N → A k ≠ t) {m : Nat} (hm : m ≤ N) : mvN (mvA A f t N) t m = mvN A f m := by
  induction m with
  | zero => rfl
  | succ m ih =>
    rw [mvN, mvN, ih (by omega)]
    congr 1
    by_cases h : A m = f
    · have e : mvA A f t N m = t := if_pos ⟨by omega, h⟩
      rw [if_pos e, if_pos h]
    · have e : mvA A f t N m = A m := if_neg (fun h2 => h h2.2)
      rw [if_neg (by rw [e]; exact hn m (by omega)), if_neg h]
theorem mvA_back {A : Nat → Int} {f t : Int} {N : Nat} (hn : ∀ k, k < N → A k ≠ t) {k : Nat} (hk : k < N) : mvA (mvA A f t N) t f N k = A k := by
  unfold mvA
  by_cases h : A k = f
  · rw [if_pos ⟨hk, by rw [if_pos ⟨hk, h⟩]⟩, h]
  · rw [if_neg (fun h2 => by have h3 := h2.2; rw [if_neg (fun h4 => h h4.2)] at h3; exact hn k hk h3), if_neg (fun h2 => h h2.2)]
/-- Moved, where nothing is at the other address. -/
theorem move_is {Pmp : Pred} (H : MapOk Pmp) {w : World} {p : Nat} {T D : Nat → Prop} {A : Nat → Int} {X : Nat → List Int} (h : Pmp w p T D A X) {f t c : Int} (hf : 1 ≤ f ∧ f ≤ 65535) (ht : 1 ≤ t ∧ t ≤ 65535) (hc : mvN A f 828 = c) :
    Calls Try.prog 24 #[.pointer (some ⟨p, 0, none⟩), .int .i64 f, .int .i64 t] w fun e w' => e = .returned (.int .i64 c) ∧ Left Pmp w p T D (mvA A f t 828) X w' := by
  have hm : moO f t = true := decide_eq_true (by omega)
  refine (H.move h f t).mono fun e w' ⟨he, hl⟩ => ?_
  rw [hm, if_pos rfl] at he hl
  rw [← hc]
  exact ⟨he, hl⟩
set_option maxRecDepth 100000 in
set_option maxHeartbeats 8000000 in
theorem moves_any {Pmp : Pred} (H : MapOk Pmp) (a0 : Option Addr) (n0 c0 : Nat) (ks : List Int) (f t : Int) (w : World) (h0 : Ins w a0 n0 ks) (z0 : a0 = none → n0 = 0 ∧ c0 = 0) :
    Calls Try.prog 6 #[.slice a0 n0 c0, .int .i64 f, .int .i64 t] w fun e w' => e = .returned (.bool true) ∧ Below w.heap.size w w' := by
  have HH := Lib.hid H
  have HL := Lib.hid h0
  have HZ := Lib.hid z0
  have hlen := h0.len
  clear H h0 z0
  by_cases g0 : 828 < n0
  · have k0 : (828 : Int) < (n0 : Int) := by omega
    clear g0
    go_enter Try.func6, Try.ntmps6
    go_wp2_with (fail)
    refine (alive_any HH.out w).mono ?_
    rintro e wb ⟨rfl, hb⟩
    have HB := Lib.hid hb
    clear hb
    go_wp2_with (fail)
    go_ret
    exact ⟨rfl, HB.out⟩
  have k0 : ¬ (828 : Int) < (n0 : Int) := by omega
  have HN := Lib.hid (show n0 ≤ 828 by omega)
  have HLE := Lib.hid hlen
  clear g0 hlen
  by_cases gf1 : f < 1
  · go_enter Try.func6, Try.ntmps6
    go_wp2_with (fail)
    refine (alive_any HH.out w).mono ?_
    rintro e wb ⟨rfl, hb⟩
    have HB := Lib.hid hb
    clear hb
    go_wp2_with (fail)
    go_ret
    exact ⟨rfl, HB.out⟩
  by_cases g6f : 65535 < f
  · go_enter Try.func6, Try.ntmps6
    go_wp2_with (fail)
    refine (alive_any HH.out w).mono ?_
    rintro e wb ⟨rfl, hb⟩
    have HB := Lib.hid hb
    clear hb
    go_wp2_with (fail)
    go_ret
    exact ⟨rfl, HB.out⟩
  by_cases gt1 : t < 1
  · go_enter Try.func6, Try.ntmps6
    go_wp2_with (fail)
    refine (alive_any HH.out w).mono ?_
    rintro e wb ⟨rfl, hb⟩
    have HB := Lib.hid hb
    clear hb
    go_wp2_with (fail)
    go_ret
    exact ⟨rfl, HB.out⟩
  by_cases g6t : 65535 < t
  · go_enter Try.func6, Try.ntmps6
    go_wp2_with (fail)
    refine (alive_any HH.out w).mono ?_
    rintro e wb ⟨rfl, hb⟩
    have HB := Lib.hid hb
    clear hb
    go_wp2_with (fail)
    go_ret
    exact ⟨rfl, HB.out⟩
  have HF := Lib.hid (show (1 ≤ f ∧ f ≤ 65535) ∧ (1 ≤ t ∧ t ≤ 65535) by omega)
  go_enter Try.func6, Try.ntmps6
  go_wp2_with (fail)
  refine (alive_any HH.out w).mono ?_
  rintro e wb ⟨rfl, hb⟩
  have HB := Lib.hid hb
  clear hb
  go_wp2_with (fail)
  refine (HH.out.new a0 n0 c0 ks wb (HL.out.next HB.out) HZ.out (by have := HN.out; omega)).mono ?_
  rintro e wc ⟨h1, h2, hb⟩
  have HB2 := Lib.hid (HB.out.trans (hb.mono HB.out.size))
  cases hnw : nwO ks with
  | false =>
    obtain rfl := h2 hnw
    clear h1 h2 hb hnw
    go_wp2_with (fail)
    go_ret
    exact ⟨rfl, HB2.out⟩
  | true =>
    obtain ⟨p, T, D, rfl, hP, hD⟩ := h1 hnw
    have HP := Lib.hid hP
    have HD := Lib.hid (show ∀ j, D j → w.heap.size ≤ j from fun j hj => Nat.le_trans HB.out.size (hD j hj))
    have HW := Lib.hid hnw
    clear h1 h2 hb hnw hP hD
    go_wp2_with (fail)
    go_loopw [9, 10] (fun u v wr => ∃ k : Nat, k ≤ n0 ∧ v = .int .i64 k ∧ u = .int .i64 (mvN (num ks) f k) ∧ (∀ i, i < k → num ks i ≠ t) ∧ wr = wc) (fun _ v _ => n0 - (RowKit.intOf v).toNat)
    case atStart => exact ⟨0, by omega, rfl, rfl, (fun i hi => by omega), rfl⟩
    case round =>
      obtain ⟨k, hk, rfl, rfl, hI, rfl⟩ := hrel
      have HI := Lib.hid hI
      clear hI
      obtain ⟨m, hm⟩ : ∃ m, m = mvN (num ks) f k := ⟨_, rfl⟩
      have hbd := mvN_bd (num ks) f k
      rw [← hm] at hbd ⊢
      have HM := Lib.hid hm
      clear hm
      by_cases hlt : k < n0
      · obtain ⟨b, off, rfl, hbl, hcs⟩ := (HL.out.next HB2.out).at (by omega : 0 < n0)
        have hc1 := hcs k hlt
        obtain ⟨z, hz⟩ : ∃ z, z = num ks k := ⟨_, rfl⟩
        rw [← hz] at hc1
        have HZ2 := Lib.hid hz
        clear hcs hz
        by_cases hzt : z = t
        · have d1 : (z == t) = true := by simp [hzt]
          clear hzt
          go_wp2_with (fail)
          go_ret
          exact ⟨rfl, HB2.out⟩
        · have d1 : (z == t) = false := by simp [hzt]
          have HT := Lib.hid hzt
          have w1 : IntKind.i64.wrap (m + 1) = m + 1 := IntWalk.i64_in _ (by omega)
          by_cases hzf : z = f
          · have d2 : (z == f) = true := by simp [hzf]
            have HE := Lib.hid (show m + 1 = mvN (num ks) f (k + 1) by rw [mv_step (by rw [← HZ2.out, hzf]), ← HM.out])
            clear hzt hzf hbd
            go_wp2_with (fail)
            go_roundw
            case rel => exact ⟨k + 1, by omega, by go_num, by rw [← HE.out], (fun i hi => by
              by_cases hik : i = k
              · rw [hik, ← HZ2.out]; exact HT.out
              · exact HI.out i (by omega)), (by first | rfl | trivial)⟩
            case measure => simp [RowKit.intOf]; omega
          · have d2 : (z == f) = false := by simp [hzf]
            have HE := Lib.hid (show m = mvN (num ks) f (k + 1) by rw [mv_stay (by rw [← HZ2.out]; exact hzf), ← HM.out])
            clear hzt hzf hbd
            go_wp2_with (fail)
            go_roundw
            case rel => exact ⟨k + 1, by omega, by go_num, by rw [← HE.out], (fun i hi => by
              by_cases hik : i = k
              · rw [hik, ← HZ2.out]; exact HT.out
              · exact HI.out i (by omega)), (by first | rfl | trivial)⟩
            case measure => simp [RowKit.intOf]; omega
      · obtain rfl : k = n0 := by omega
        have hnt : ∀ k, k < 828 → num ks k ≠ t := fun i hi => by
          by_cases h : i < k
          · exact HI.out i h
          · rw [num_off (by have := HLE.out; omega)]; have := HF.out.2.1; omega
        have hm1 : mvN (num ks) f 828 = m := by rw [mv_len HF.out.1.1 (by have := HLE.out; have := HN.out; omega), HM.out, HLE.out]
        have hm2 : mvN (mvA (num ks) f t 828) t 828 = m := by rw [mv_back hnt (Nat.le_refl _), hm1]
        have HNT := Lib.hid hnt
        have HM2 := Lib.hid hm2
        have d1 : (m != m) = false := by simp
        clear hbd hnt hm2
        go_wp2_with (fail)
        refine (move_is HH.out HP.out HF.out.1 HF.out.2 hm1).mono ?_
        rintro e wd ⟨rfl, hl⟩
        have hbl := hl.below HB2.out.size (fun j hj => HD.out j (HH.out.td HP.out j hj))
        obtain ⟨ht, T2, D2, hP2, hT2, hD2⟩ := hl
        replace HB := Lib.hid (HB2.out.trans hbl)
        have HP2 := Lib.hid hP2
        have HD2 := Lib.hid (show ∀ j, D2 j → w.heap.size ≤ j from fun j hj => (hD2 j hj).elim (HD.out j) (fun h => Nat.le_trans HB2.out.size h))
        clear hbl ht hP2 hT2 hD2 hm1
        go_wp2_with (fail)
        refine (move_is HH.out HP2.out HF.out.2 HF.out.1 HM2.out).mono ?_
        rintro e we ⟨rfl, hl⟩
        have hbl := hl.below HB.out.size (fun j hj => HD2.out j (HH.out.td HP2.out j hj))
        obtain ⟨ht, T3, D3, hP3, _, _⟩ := hl
        replace HB := Lib.hid (HB.out.trans hbl)
        have HP3 := Lib.hid hP3
        clear hbl ht hP3 HP2 HP HB2
        go_wp2_with (fail)
        go_loopw [11] (fun v wr => ∃ j : Nat, j ≤ k ∧ v = .int .i64 j ∧ Pmp wr p T3 D3 (mvA (mvA (num ks) f t 828) t f 828) (fun _ => []) ∧ Below w.heap.size w wr) (fun v _ => k - (RowKit.intOf v).toNat)
        case atStart => exact ⟨0, by omega, rfl, HP3.out, HB.out⟩
        case round =>
          obtain ⟨j, hj, rfl, hP4, hB4⟩ := hrel
          have HP4 := Lib.hid hP4
          have HB4 := Lib.hid hB4
          clear hP4 hB4
          by_cases hlt2 : j < k
          · have hj828 : j < 828 := by have := HN.out; omega
            obtain ⟨b, off, rfl, hbl, hcs⟩ := (HL.out.next HB4.out).at (by omega : 0 < k)
            have hc1 := hcs j hlt2
            obtain ⟨z, hz⟩ : ∃ z, z = num ks j := ⟨_, rfl⟩
            rw [← hz] at hc1
            have had := HH.out.ad (HH.out.next HP4.out (below_drewN (Below.refl _ _) 1)) (j : Int)
            rw [adO_yes _ hj828, mvA_back HNT.out hj828, ← hz] at had
            have hcd : (wr.drewN 1).cell? ⟨b, off + j, none⟩ = some (.int .i64 z) := hc1
            have HC := Lib.hid (And.intro hbl hc1)
            have HBD := Lib.hid (below_drewN HB4.out 1)
            have HPD := Lib.hid (HH.out.next HP4.out (below_drewN (Below.refl _ _) 1))
            clear hcs hz
            go_upto_region 21 with fail
            refine wp_region_held_drew (S := (fun w' => w'.cell? ⟨b, off + j, none⟩ = some (.int .i64 z))) (by kernel_rfl) ?_ (fun hHeld => ?_)
            · exact hcd
            clear hc1 hcd
            refine wpAnyH_take (i := 0) (v := ?_) rfl (by kernel_rfl) (by kernel_rfl) (by kernel_rfl) (fun _ _ _ h => h) (Or.inl ⟨by rfl, fun w hSw => ?_⟩) (by assumption) ?_
            rotate_left
            · (try dsimp only at hSw); go_simp; try with_reducible rfl
            simp only [Act.put, List.setIfInBounds_toArray, List.set_cons_zero, List.set_cons_succ, List.getElem_toArray, List.getElem_cons_zero]
            refine wpAnyH_take (i := 1) (v := ?_) rfl (by kernel_rfl) (by kernel_rfl) (by kernel_rfl) (fun _ _ _ h => h) (Or.inl ⟨by rfl, fun w hSw => ?_⟩) (by assumption) ?_
            rotate_left
            · (try dsimp only at hSw); go_simp; try with_reducible rfl
            simp only [Act.put, List.setIfInBounds_toArray, List.set_cons_zero, List.set_cons_succ, List.getElem_toArray, List.getElem_cons_succ, List.getElem_cons_zero]
            refine wpAnyH_take (i := 3) (v := ?_) rfl (by kernel_rfl) (by kernel_rfl) (by kernel_rfl) (fun _ _ _ h => h) (Or.inl ⟨by rfl, fun w hSw => ?_⟩) (by assumption) ?_
            rotate_left
            · (try dsimp only at hSw); go_simp; try with_reducible rfl
            simp only [Act.put, List.setIfInBounds_toArray, List.set_cons_zero, List.set_cons_succ, List.getElem_toArray, List.getElem_cons_succ, List.getElem_cons_zero]
            refine wpAnyH_take (i := 4) (v := ?_) rfl (by kernel_rfl) (by kernel_rfl) (by kernel_rfl) (fun _ _ _ h => h) (Or.inl ⟨by rfl, fun w hSw => ?_⟩) (by assumption) ?_
            rotate_left
            · (try dsimp only at hSw); go_simp; try with_reducible rfl
            simp only [Act.put, List.setIfInBounds_toArray, List.set_cons_zero, List.set_cons_succ, List.getElem_toArray, List.getElem_cons_succ, List.getElem_cons_zero]
            refine wpAnyH_take (i := 5) (v := ?_) rfl (by kernel_rfl) (by kernel_rfl) (by kernel_rfl) (fun _ _ _ h => h) (Or.inl ⟨by rfl, fun w hSw => ?_⟩) (by assumption) ?_
            rotate_left
            · (try dsimp only at hSw); go_simp; try with_reducible rfl
            simp only [Act.put, List.setIfInBounds_toArray, List.set_cons_zero, List.set_cons_succ, List.getElem_toArray, List.getElem_cons_succ, List.getElem_cons_zero]
            refine wpAnyH_take (i := 6) (v := ?_) rfl (by kernel_rfl) (by kernel_rfl) (by kernel_rfl) (fun _ _ _ h => h) (Or.inl ⟨by rfl, fun w hSw => ?_⟩) (by assumption) ?_
            rotate_left
            · (try dsimp only at hSw); go_simp; try with_reducible rfl
            simp only [Act.put, List.setIfInBounds_toArray, List.set_cons_zero, List.set_cons_succ, List.getElem_toArray, List.getElem_cons_succ, List.getElem_cons_zero]
            refine wpAnyH_ready (rs := [2]) (by kernel_rfl) (by simp) ?_
            refine AllReadyH.cons rfl (fun K hK => ?_) AllReadyH.nil
            simp only [List.getElem_toArray, List.getElem_cons_succ, List.getElem_cons_zero]
            go_simp
            refine had.mono ?_
            rintro e wf ⟨rfl, hb⟩
            have hcw := (hb.cell (p := ⟨b, off + j, none⟩) HC.out.1).trans HC.out.2
            replace HPD := Lib.hid (HH.out.next HPD.out hb)
            replace HBD := Lib.hid (HBD.out.trans (hb.mono HBD.out.size))
            have d2 : (z != z) = false := by simp
            clear hb had
            go_wp2_with (fail)
            refine hK.out _ _ hcw (fun hHeld => ?_)
            clear hK K
            refine wpAnyH_take (i := 7) (v := ?_) rfl (by kernel_rfl) (by kernel_rfl) (by kernel_rfl) (fun _ _ _ h => h) (Or.inl ⟨by rfl, fun w hSw => ?_⟩) (by assumption) ?_
            rotate_left
            · (try dsimp only at hSw); go_simp; try with_reducible rfl
            simp only [Act.put, List.setIfInBounds_toArray, List.set_cons_zero, List.set_cons_succ, List.getElem_toArray, List.getElem_cons_succ, List.getElem_cons_zero]
            refine wpAnyH_done (by kernel_rfl) ?_ _
            clear hcw
            go_wp2_with (fail)
            exact ⟨⟨j + 1, by omega, by go_num, HPD.out, HBD.out⟩, by simp [RowKit.intOf]; omega⟩
          · obtain rfl : j = k := by omega
            go_wp2_with (fail)
            go_ret
            exact ⟨rfl, HB4.out⟩
end Go.Proofs.Ytgedgkdnjnbijaa
