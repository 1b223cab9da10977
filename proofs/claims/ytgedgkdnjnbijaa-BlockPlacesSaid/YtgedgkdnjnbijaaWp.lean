/-
  The law BlockPuts, walked (of any map that does as its contracts say).
-/
import Derived.Test.YtgedgkdnjnbijaaWm
namespace Go.Proofs.Ytgedgkdnjnbijaa
open Go.RowKit
set_option linter.unusedVariables false
set_option linter.unusedSimpArgs false

/-- Is one of the first bytes not 0? -/
def smB (x : List Int) : Nat → Bool
  | 0 => false
  | i + 1 => smB x i || (byt x i != 0)
theorem smB_iff (x : List Int) (n : Nat) : smB x n = true ↔ ∃ i, i < n ∧ byt x i ≠ 0 := by
  induction n with
  | zero => simp [smB]
  | succ n ih =>
    rw [smB, Bool.or_eq_true, ih, bne_iff_ne]
    constructor
    · rintro (⟨i, h1, h2⟩ | h)
      · exact ⟨i, by omega, h2⟩
      · exact ⟨n, by omega, h⟩
    · rintro ⟨i, h1, h2⟩
      by_cases e : i = n
      · subst e; exact .inr h2
      · exact .inl ⟨i, by omega, h2⟩
theorem smB_all (x : List Int) : smB x x.length = !noughtB x := by
  cases h : noughtB x with
  | true =>
    cases hs : smB x x.length with
    | false => rfl
    | true =>
      obtain ⟨i, h1, h2⟩ := (smB_iff x _).1 hs
      rw [noughtB_false h1 h2] at h
      cases h
  | false =>
    cases hs : smB x x.length with
    | true => rfl
    | false =>
      rw [noughtB_true (fun i hi => Classical.byContradiction fun hn => by
        rw [(smB_iff x _).2 ⟨i, hi, hn⟩] at hs
        cases hs)] at h
      cases h
/-- Bytes that are one. -/
theorem sameP {w : World} {a b : Option Addr} {n m c d : Nat} {x : List Int} (h1 : Pin w a n c x) (h2 : Pin w b m d x) (hn : n ≤ 1000000000000) :
    Calls Try.prog 18 #[.slice a n c, .slice b m d] w fun e w' => e = .returned (.bool true) ∧ Below w.heap.size w w' := by
  obtain rfl : m = n := h2.len.symm.trans h1.len
  exact same_eq a b m c d x x w h1.bys h2.bys hn rfl
theorem sel_one {p : Nat → Bool} {j : Nat} (h1 : p j = true) (h2 : ∀ k, k ≠ j → p k = false) (n : Nat) : selL p n = if j < n then [(j : Int)] else [] := by
  induction n with
  | zero => rfl
  | succ n ih =>
    by_cases e : n = j
    · subst e
      rw [selL_yes h1, ih, if_neg (by omega), if_pos (by omega)]; rfl
    · rw [selL_no (h2 n e), ih]
      by_cases h : j < n
      · rw [if_pos h, if_pos (by omega)]
      · rw [if_neg h, if_neg (by omega)]
theorem sel_none {p : Nat → Bool} (h : ∀ k, p k = false) (n : Nat) : selL p n = [] := by
  induction n with
  | zero => rfl
  | succ n ih => rw [selL_no (h n), ih]
/-- The blocks of a map in which one was put. -/
def X1 (j : Nat) (x : List Int) : Nat → List Int := upd (fun _ => []) j (bnO x)
theorem X1_by (j : Nat) (x : List Int) (hj : j < 828) : byO (X1 j x) j = !(bnO x).isEmpty ∧ byX (X1 j x) j = bnO x := by
  obtain ⟨h1, h2⟩ := by_yes (X1 j x) hj
  rw [h1, h2, X1, upd_at]
  exact ⟨rfl, rfl⟩
theorem bnO_nz {x : List Int} (h : noughtB x = false) : bnO x = x := by rw [bnO, h]; rfl
theorem bnO_z {x : List Int} (h : noughtB x = true) : bnO x = [] := by rw [bnO, h]; rfl
theorem ne_nil {x : List Int} (h : x.length = 56) : (!x.isEmpty) = true := by
  cases x with
  | nil => simp at h
  | cons a l => rfl
section
variable {Pmp : Pred} {w : World} {p : Nat} {T D : Nat → Prop} {A : Nat → Int}
theorem fresh_nz (H : MapOk Pmp) {j : Nat} {x : List Int} (hj : j < 828) (hl : x.length = 56) (hz : noughtB x = false) (h : Pmp w p T D A (X1 j x)) :
    Calls Try.prog 20 #[.pointer (some ⟨p, 0, none⟩)] w fun e w' => ∃ a c, e = .returned (.slice a 1 c) ∧ Below w.heap.size w w' := by
  have e : selL (freP (X1 j x)) 828 = [(j : Int)] := by
    rw [sel_one (j := j) (by rw [freP, X1, upd_at, bnO_nz hz]; exact ne_nil hl) (fun k hk => by rw [freP, X1, upd_off _ _ hk]; rfl), if_pos hj]
  refine (H.fresh h).mono fun e' w' ⟨a, c, he, _, _, hb⟩ => ⟨a, c, ?_, hb⟩
  rw [e] at he
  exact he
theorem fresh_z (H : MapOk Pmp) {X : Nat → List Int} (hX : ∀ k, X k = []) (h : Pmp w p T D A X) :
    Calls Try.prog 20 #[.pointer (some ⟨p, 0, none⟩)] w fun e w' => ∃ a c, e = .returned (.slice a 0 c) ∧ Below w.heap.size w w' := by
  have e : selL (freP X) 828 = [] := sel_none (fun k => by rw [freP, hX k]; rfl) _
  refine (H.fresh h).mono fun e' w' ⟨a, c, he, _, _, hb⟩ => ⟨a, c, ?_, hb⟩
  rw [e] at he
  exact he
/-- A block's Put. -/
theorem put_is (H : MapOk Pmp) {X : Nat → List Int} (h : Pmp w p T D A X) {j : Nat} (hj : j < 828) {a : Option Addr} {c : Nat} {x : List Int} (hx : Pin w a 56 c x) (hb : ∀ y, a = some y → ¬ T y.block) :
    Calls Try.prog 16 #[.pointer (some ⟨p, 0, none⟩), .int .i64 j, .slice a 56 c] w fun e w' => e = .returned (.int .i64 0) ∧ Left Pmp w p T D (upd A j 0) (upd X j (bnO x)) w' := by
  have hp : puO (j : Int) x = true := by rw [puO, inK_iff.2 (by omega), decide_eq_true hx.len]; rfl
  refine (H.put h j a 56 c x hx (fun _ => hb)).mono fun e w' ⟨he, hl⟩ => ?_
  rw [hp, if_pos rfl] at he
  rw [hp, if_pos rfl, if_pos rfl] at hl
  exact ⟨he, hl⟩
theorem place_yes (H : MapOk Pmp) {X : Nat → List Int} (h : Pmp w p T D A X) {j : Nat} {t : Int} (hp : plO X j t = true) :
    Calls Try.prog 21 #[.pointer (some ⟨p, 0, none⟩), .int .i64 j, .int .i64 t] w fun e w' => e = .returned (.int .i64 0) ∧ Left Pmp w p T D (upd A j t) (upd X j []) w' := by
  refine (H.place h j t).mono fun e w' ⟨he, hl⟩ => ?_
  rw [hp, if_pos rfl] at he
  rw [hp, if_pos rfl, if_pos rfl] at hl
  exact ⟨he, hl⟩
theorem place_nope (H : MapOk Pmp) {X : Nat → List Int} (h : Pmp w p T D A X) {j : Nat} {t : Int} (hp : plO X j t = false) :
    Calls Try.prog 21 #[.pointer (some ⟨p, 0, none⟩), .int .i64 j, .int .i64 t] w fun e w' => e = .returned (.int .i64 28) ∧ Left Pmp w p T D A X w' := by
  refine (H.place h j t).mono fun e w' ⟨he, hl⟩ => ?_
  rw [hp] at he hl
  exact ⟨he, hl⟩
end
set_option maxRecDepth 100000 in
set_option maxHeartbeats 16000000 in
theorem puts_any {Pmp : Pred} (H : MapOk Pmp) (a0 : Option Addr) (n0 c0 : Nat) (ks : List Int) (k : Int) (a2 : Option Addr) (n2 c2 : Nat) (x : List Int) (w : World) (h0 : Ins w a0 n0 ks) (z0 : a0 = none → n0 = 0 ∧ c0 = 0) (h2 : Pin w a2 n2 c2 x) :
    Calls Try.prog 4 #[.slice a0 n0 c0, .int .i64 k, .slice a2 n2 c2] w fun e w' => e = .returned (.bool true) ∧ Below w.heap.size w w' := by
  have HH := Lib.hid H
  have HL := Lib.hid h0
  have HZ := Lib.hid z0
  have HX := Lib.hid h2
  have hlen := h0.len
  clear H h0 z0 h2
  by_cases g0 : 828 < n0
  · have k0 : (828 : Int) < (n0 : Int) := by omega
    clear g0
    go_enter Try.func4, Try.ntmps4
    go_wp2_with (fail)
    refine (alive_any HH.out w).mono ?_
    rintro e wb ⟨rfl, hb⟩
    have HB := Lib.hid hb
    clear hb
    go_wp2_with (fail)
    go_ret
    exact ⟨rfl, HB.out⟩
  have k0 : ¬ (828 : Int) < (n0 : Int) := by omega
  have HN := Lib.hid (show n0 ≤ 828 by omega)
  have HLE := Lib.hid hlen
  clear g0 hlen
  by_cases g1 : ¬ n2 = 56
  · have k1 : ((n2 : Int) != 56) = true := by simp; omega
    clear g1
    go_enter Try.func4, Try.ntmps4
    go_wp2_with (fail)
    refine (alive_any HH.out w).mono ?_
    rintro e wb ⟨rfl, hb⟩
    have HB := Lib.hid hb
    clear hb
    go_wp2_with (fail)
    go_ret
    exact ⟨rfl, HB.out⟩
  obtain rfl : n2 = 56 := Classical.byContradiction g1
  clear g1
  by_cases g2 : k < 0
  · go_enter Try.func4, Try.ntmps4
    go_wp2_with (fail)
    refine (alive_any HH.out w).mono ?_
    rintro e wb ⟨rfl, hb⟩
    have HB := Lib.hid hb
    clear hb
    go_wp2_with (fail)
    go_ret
    exact ⟨rfl, HB.out⟩
  by_cases g3 : 828 ≤ k
  · go_enter Try.func4, Try.ntmps4
    go_wp2_with (fail)
    refine (alive_any HH.out w).mono ?_
    rintro e wb ⟨rfl, hb⟩
    have HB := Lib.hid hb
    clear hb
    go_wp2_with (fail)
    go_ret
    exact ⟨rfl, HB.out⟩
  obtain ⟨j, rfl⟩ := Int.eq_ofNat_of_zero_le (show 0 ≤ k by omega)
  have hj : j < 828 := by omega
  go_enter Try.func4, Try.ntmps4
  go_wp2_with (fail)
  refine (alive_any HH.out w).mono ?_
  rintro e wb ⟨rfl, hb⟩
  have HB := Lib.hid hb
  clear hb
  go_wp2_with (fail)
  refine (HH.out.new a0 n0 c0 ks wb (HL.out.next HB.out) HZ.out (by have := HN.out; omega)).mono ?_
  rintro e wc ⟨h1, h2, hb⟩
  have HB2 := Lib.hid (HB.out.trans (hb.mono HB.out.size))
  cases hnw : nwO ks with
  | false =>
    obtain rfl := h2 hnw
    clear h1 h2 hb hnw
    go_wp2_with (fail)
    go_ret
    exact ⟨rfl, HB2.out⟩
  | true =>
    obtain ⟨p, T, D, rfl, hP, hD⟩ := h1 hnw
    have HP := Lib.hid hP
    have HD := Lib.hid (show ∀ j, D j → w.heap.size ≤ j from fun j hj => Nat.le_trans HB.out.size (hD j hj))
    have HW := Lib.hid hnw
    clear h1 h2 hb hnw hP hD
    go_wp2_with (fail)
    have hx2 := HX.out.next HB2.out
    have hlx := HX.out.len
    have hxb : ∀ y, a2 = some y → y.block < w.heap.size := fun y e => by
      rcases HX.out.bys.place with h | ⟨b', off', e', hlt, _⟩
      · omega
      · rw [e] at e'; cases e'; exact hlt
    refine (put_is HH.out HP.out hj hx2 (fun y e h => by have := HD.out _ (HH.out.td HP.out _ h); have := hxb y e; omega)).mono ?_
    rintro e wd ⟨rfl, hl⟩
    have hbl := hl.below HB2.out.size (fun j hj => HD.out j (HH.out.td HP.out j hj))
    obtain ⟨ht, T2, D2, hP2, hT2, hD2⟩ := hl
    replace HB := Lib.hid (HB2.out.trans hbl)
    have HP2 := Lib.hid (show Pmp wd p T2 D2 (upd (num ks) j 0) (X1 j x) from hP2)
    have HD2 := Lib.hid (show ∀ j, D2 j → w.heap.size ≤ j from fun j hj => (hD2 j hj).elim (HD.out j) (fun h => Nat.le_trans HB2.out.size h))
    have HXB := Lib.hid hxb
    have HLX := Lib.hid hlx
    clear hbl ht hP2 hT2 hD2 hx2 hxb HP HB2 hlx
    go_wp2_with (fail)
    go_loop [9, 10] (fun u v => ∃ i : Nat, i ≤ 56 ∧ v = .int .i64 i ∧ u = .bool (smB x i)) (fun _ v => 56 - (RowKit.intOf v).toNat)
    case atStart => exact ⟨0, by omega, rfl, rfl⟩
    case round =>
      obtain ⟨i, hi, rfl, rfl⟩ := hrel
      by_cases hlt : i < 56
      · obtain ⟨b, off, rfl, hbl, hcs⟩ : ∃ b off, a2 = some ⟨b, off, none⟩ ∧ b < wd.heap.size ∧ ∀ i, i < 56 → wd.cell? ⟨b, off + i, none⟩ = some (.int .u8 (byt x i)) := by
          rcases (HX.out.next HB.out).bys.place with h | ⟨b, off, e, hlt, hc⟩
          · omega
          · exact ⟨b, off, e, hlt, hc⟩
        have hc1 := hcs i hlt
        obtain ⟨z, hz⟩ : ∃ z, z = byt x i := ⟨_, rfl⟩
        rw [← hz] at hc1
        have hE := smB_iff
        have HE := Lib.hid (show smB x (i + 1) = (smB x i || (z != 0)) by rw [smB, hz])
        obtain ⟨s, hs⟩ : ∃ s, s = smB x i := ⟨_, rfl⟩
        rw [← hs] at HE ⊢
        clear hcs hz hE hs
        cases s with
        | true =>
          go_wp2_with (fail)
          go_round
          case rel => exact ⟨i + 1, by omega, by go_num, by rw [HE.out]; rfl⟩
          case measure => simp [RowKit.intOf]; omega
        | false =>
          obtain ⟨d, hd⟩ : ∃ d, (z != 0) = d := ⟨_, rfl⟩
          have HD3 := Lib.hid hd
          go_wp2_with (fail)
          all_goals go_round
          case rel => exact ⟨i + 1, by omega, by go_num, by rw [HE.out, HD3.out]; rfl⟩
          case measure => simp [RowKit.intOf]; omega
      · obtain rfl : i = 56 := by omega
        have HS := Lib.hid (show smB x 56 = !noughtB x by rw [← smB_all, HLX.out])
        cases hz : noughtB x with
        | true =>
          rw [hz] at HS
          have HZR := Lib.hid hz
          have hby := HH.out.bytes HP2.out (j : Int)
          rw [(X1_by j x hj).1, (X1_by j x hj).2, bnO_z hz] at hby
          rw [HS.out]
          clear hz HS
          go_wp2_with (fail)
          refine hby.mono ?_
          rintro e we ⟨a3, n3, c3, rfl, _, hb⟩
          replace HP2 := Lib.hid (HH.out.next HP2.out hb)
          replace HB := Lib.hid (HB.out.trans (hb.mono HB.out.size))
          have had := HH.out.ad HP2.out (j : Int)
          rw [adO_yes _ hj, upd_at] at had
          clear hb hby
          go_wp2_with (fail)
          refine had.mono ?_
          rintro e we ⟨rfl, hb⟩
          replace HP2 := Lib.hid (HH.out.next HP2.out hb)
          replace HB := Lib.hid (HB.out.trans (hb.mono HB.out.size))
          have HX1 := Lib.hid (show ∀ k, X1 j x k = [] from fun k => by
            unfold X1 upd
            split
            · exact bnO_z HZR.out
            · rfl)
          clear hb had
          go_wp2_with (fail)
          refine (fresh_z HH.out HX1.out HP2.out).mono ?_
          rintro e we ⟨a4, c4, rfl, hb⟩
          replace HP2 := Lib.hid (HH.out.next HP2.out hb)
          replace HB := Lib.hid (HB.out.trans (hb.mono HB.out.size))
          clear hb
          go_wp2_with (fail)
          go_loopw [13] (fun v wr => ∃ i : Nat, i ≤ n0 ∧ v = .int .i64 i ∧ Pmp wr p T2 D2 (upd (num ks) j 0) (X1 j x) ∧ Below w.heap.size w wr) (fun v _ => n0 - (RowKit.intOf v).toNat)
          case atStart => exact ⟨0, by omega, rfl, HP2.out, HB.out⟩
          case round =>
            obtain ⟨i, hi, rfl, hP4, hB4⟩ := hrel
            have HP4 := Lib.hid hP4
            have HB4 := Lib.hid hB4
            clear hP4 hB4 HP2 HB
            by_cases hlt : i < n0
            · have HPD := Lib.hid (HH.out.next HP4.out (below_drewN (Below.refl _ _) 1))
              have HBD := Lib.hid (below_drewN HB4.out 1)
              by_cases hij : i = j
              · subst hij
                have d3 : ((i : Int) != (i : Int)) = false := by simp
                go_upto_region 21 with fail
                refine wp_region_held_drew (S := (fun _ => True)) (by kernel_rfl) ?_ (fun hHeld => ?_)
                · exact trivial
                refine wpAnyH_take (i := 0) (v := ?_) rfl (by kernel_rfl) (by kernel_rfl) (by kernel_rfl) (fun _ _ _ h => h) (Or.inl ⟨by rfl, fun w hSw => ?_⟩) (by assumption) ?_
                rotate_left
                · (try dsimp only at hSw); go_simp; try with_reducible rfl
                simp only [Act.put, List.setIfInBounds_toArray, List.set_cons_zero, List.set_cons_succ, List.getElem_toArray, List.getElem_cons_zero]
                refine wpAnyH_take (i := 1) (v := ?_) rfl (by kernel_rfl) (by kernel_rfl) (by kernel_rfl) (fun _ _ _ h => h) (Or.inl ⟨by rfl, fun w hSw => ?_⟩) (by assumption) ?_
                rotate_left
                · (try dsimp only at hSw); go_simp; try with_reducible rfl
                simp only [Act.put, List.setIfInBounds_toArray, List.set_cons_zero, List.set_cons_succ, List.getElem_toArray, List.getElem_cons_succ, List.getElem_cons_zero]
                refine wpAnyH_take (i := 2) (v := ?_) rfl (by kernel_rfl) (by kernel_rfl) (by kernel_rfl) (fun _ _ _ h => h) (Or.inl ⟨by rfl, fun w hSw => ?_⟩) (by assumption) ?_
                rotate_left
                · (try dsimp only at hSw); go_simp; try with_reducible rfl
                simp only [Act.put, List.setIfInBounds_toArray, List.set_cons_zero, List.set_cons_succ, List.getElem_toArray, List.getElem_cons_succ, List.getElem_cons_zero]
                refine wpAnyH_take (i := 3) (v := ?_) rfl (by kernel_rfl) (by kernel_rfl) (by kernel_rfl) (fun _ _ _ h => h) (Or.inl ⟨by rfl, fun w hSw => ?_⟩) (by assumption) ?_
                rotate_left
                · (try dsimp only at hSw); go_simp; try with_reducible rfl
                simp only [Act.put, List.setIfInBounds_toArray, List.set_cons_zero, List.set_cons_succ, List.getElem_toArray, List.getElem_cons_succ, List.getElem_cons_zero]
                refine wpAnyH_take (i := 4) (v := undef) rfl (by kernel_rfl) (by kernel_rfl) (by kernel_rfl) (fun _ _ _ h => h) (Or.inr ⟨by rfl, rfl⟩) (by assumption) ?_
                simp only [Act.put, List.setIfInBounds_toArray, List.set_cons_zero, List.set_cons_succ, List.getElem_toArray, List.getElem_cons_succ, List.getElem_cons_zero]
                refine wpAnyH_take (i := 5) (v := undef) rfl (by kernel_rfl) (by kernel_rfl) (by kernel_rfl) (fun _ _ _ h => h) (Or.inr ⟨by rfl, rfl⟩) (by assumption) ?_
                simp only [Act.put, List.setIfInBounds_toArray, List.set_cons_zero, List.set_cons_succ, List.getElem_toArray, List.getElem_cons_succ, List.getElem_cons_zero]
                refine wpAnyH_take (i := 6) (v := undef) rfl (by kernel_rfl) (by kernel_rfl) (by kernel_rfl) (fun _ _ _ h => h) (Or.inr ⟨by rfl, rfl⟩) (by assumption) ?_
                simp only [Act.put, List.setIfInBounds_toArray, List.set_cons_zero, List.set_cons_succ, List.getElem_toArray, List.getElem_cons_succ, List.getElem_cons_zero]
                refine wpAnyH_take (i := 7) (v := undef) rfl (by kernel_rfl) (by kernel_rfl) (by kernel_rfl) (fun _ _ _ h => h) (Or.inr ⟨by rfl, rfl⟩) (by assumption) ?_
                simp only [Act.put, List.setIfInBounds_toArray, List.set_cons_zero, List.set_cons_succ, List.getElem_toArray, List.getElem_cons_succ, List.getElem_cons_zero]
                refine wpAnyH_take (i := 8) (v := undef) rfl (by kernel_rfl) (by kernel_rfl) (by kernel_rfl) (fun _ _ _ h => h) (Or.inr ⟨by rfl, rfl⟩) (by assumption) ?_
                simp only [Act.put, List.setIfInBounds_toArray, List.set_cons_zero, List.set_cons_succ, List.getElem_toArray, List.getElem_cons_succ, List.getElem_cons_zero]
                refine wpAnyH_take (i := 9) (v := undef) rfl (by kernel_rfl) (by kernel_rfl) (by kernel_rfl) (fun _ _ _ h => h) (Or.inr ⟨by rfl, rfl⟩) (by assumption) ?_
                simp only [Act.put, List.setIfInBounds_toArray, List.set_cons_zero, List.set_cons_succ, List.getElem_toArray, List.getElem_cons_succ, List.getElem_cons_zero]
                refine wpAnyH_take (i := 10) (v := undef) rfl (by kernel_rfl) (by kernel_rfl) (by kernel_rfl) (fun _ _ _ h => h) (Or.inr ⟨by rfl, rfl⟩) (by assumption) ?_
                simp only [Act.put, List.setIfInBounds_toArray, List.set_cons_zero, List.set_cons_succ, List.getElem_toArray, List.getElem_cons_succ, List.getElem_cons_zero]
                refine wpAnyH_take (i := 11) (v := undef) rfl (by kernel_rfl) (by kernel_rfl) (by kernel_rfl) (fun _ _ _ h => h) (Or.inr ⟨by rfl, rfl⟩) (by assumption) ?_
                simp only [Act.put, List.setIfInBounds_toArray, List.set_cons_zero, List.set_cons_succ, List.getElem_toArray, List.getElem_cons_succ, List.getElem_cons_zero]
                refine wpAnyH_take (i := 12) (v := ?_) rfl (by kernel_rfl) (by kernel_rfl) (by kernel_rfl) (fun _ _ _ h => h) (Or.inl ⟨by rfl, fun w hSw => ?_⟩) (by assumption) ?_
                rotate_left
                · (try dsimp only at hSw); go_simp; try with_reducible rfl
                simp only [Act.put, List.setIfInBounds_toArray, List.set_cons_zero, List.set_cons_succ, List.getElem_toArray, List.getElem_cons_succ, List.getElem_cons_zero]
                refine wpAnyH_done (by kernel_rfl) ?_ _
                go_wp2_with (fail)
                exact ⟨⟨i + 1, by omega, by go_num, HPD.out, HBD.out⟩, by simp [RowKit.intOf]; omega⟩
              · have d3 : ((i : Int) != (j : Int)) = true := by simp; omega
                have hi828 : i < 828 := by have := HN.out; omega
                obtain ⟨b, off, rfl, hbl, hcs⟩ := (HL.out.next HBD.out).at (by omega : 0 < n0)
                have hc1 := hcs i hlt
                obtain ⟨z, hz⟩ : ∃ z, z = num ks i := ⟨_, rfl⟩
                rw [← hz] at hc1
                have had := HH.out.ad HPD.out (i : Int)
                rw [adO_yes _ hi828, upd_off _ _ hij, ← hz] at had
                have HC := Lib.hid (And.intro hbl hc1)
                clear hcs hz
                go_upto_region 21 with fail
                refine wp_region_held_drew (S := (fun w' => w'.cell? ⟨b, off + i, none⟩ = some (.int .i64 z))) (by kernel_rfl) ?_ (fun hHeld => ?_)
                · exact hc1
                clear hc1
                refine wpAnyH_take (i := 0) (v := ?_) rfl (by kernel_rfl) (by kernel_rfl) (by kernel_rfl) (fun _ _ _ h => h) (Or.inl ⟨by rfl, fun w hSw => ?_⟩) (by assumption) ?_
                rotate_left
                · (try dsimp only at hSw); go_simp; try with_reducible rfl
                simp only [Act.put, List.setIfInBounds_toArray, List.set_cons_zero, List.set_cons_succ, List.getElem_toArray, List.getElem_cons_zero]
                refine wpAnyH_take (i := 1) (v := ?_) rfl (by kernel_rfl) (by kernel_rfl) (by kernel_rfl) (fun _ _ _ h => h) (Or.inl ⟨by rfl, fun w hSw => ?_⟩) (by assumption) ?_
                rotate_left
                · (try dsimp only at hSw); go_simp; try with_reducible rfl
                simp only [Act.put, List.setIfInBounds_toArray, List.set_cons_zero, List.set_cons_succ, List.getElem_toArray, List.getElem_cons_succ, List.getElem_cons_zero]
                refine wpAnyH_take (i := 2) (v := ?_) rfl (by kernel_rfl) (by kernel_rfl) (by kernel_rfl) (fun _ _ _ h => h) (Or.inl ⟨by rfl, fun w hSw => ?_⟩) (by assumption) ?_
                rotate_left
                · (try dsimp only at hSw); go_simp; try with_reducible rfl
                simp only [Act.put, List.setIfInBounds_toArray, List.set_cons_zero, List.set_cons_succ, List.getElem_toArray, List.getElem_cons_succ, List.getElem_cons_zero]
                refine wpAnyH_take (i := 3) (v := ?_) rfl (by kernel_rfl) (by kernel_rfl) (by kernel_rfl) (fun _ _ _ h => h) (Or.inl ⟨by rfl, fun w hSw => ?_⟩) (by assumption) ?_
                rotate_left
                · (try dsimp only at hSw); go_simp; try with_reducible rfl
                simp only [Act.put, List.setIfInBounds_toArray, List.set_cons_zero, List.set_cons_succ, List.getElem_toArray, List.getElem_cons_succ, List.getElem_cons_zero]
                refine wpAnyH_take (i := 4) (v := ?_) rfl (by kernel_rfl) (by kernel_rfl) (by kernel_rfl) (fun _ _ _ h => h) (Or.inl ⟨by rfl, fun w hSw => ?_⟩) (by assumption) ?_
                rotate_left
                · (try dsimp only at hSw); go_simp; try with_reducible rfl
                simp only [Act.put, List.setIfInBounds_toArray, List.set_cons_zero, List.set_cons_succ, List.getElem_toArray, List.getElem_cons_succ, List.getElem_cons_zero]
                refine wpAnyH_take (i := 5) (v := ?_) rfl (by kernel_rfl) (by kernel_rfl) (by kernel_rfl) (fun _ _ _ h => h) (Or.inl ⟨by rfl, fun w hSw => ?_⟩) (by assumption) ?_
                rotate_left
                · (try dsimp only at hSw); go_simp; try with_reducible rfl
                simp only [Act.put, List.setIfInBounds_toArray, List.set_cons_zero, List.set_cons_succ, List.getElem_toArray, List.getElem_cons_succ, List.getElem_cons_zero]
                refine wpAnyH_take (i := 7) (v := ?_) rfl (by kernel_rfl) (by kernel_rfl) (by kernel_rfl) (fun _ _ _ h => h) (Or.inl ⟨by rfl, fun w hSw => ?_⟩) (by assumption) ?_
                rotate_left
                · (try dsimp only at hSw); go_simp; try with_reducible rfl
                simp only [Act.put, List.setIfInBounds_toArray, List.set_cons_zero, List.set_cons_succ, List.getElem_toArray, List.getElem_cons_succ, List.getElem_cons_zero]
                refine wpAnyH_take (i := 8) (v := ?_) rfl (by kernel_rfl) (by kernel_rfl) (by kernel_rfl) (fun _ _ _ h => h) (Or.inl ⟨by rfl, fun w hSw => ?_⟩) (by assumption) ?_
                rotate_left
                · (try dsimp only at hSw); go_simp; try with_reducible rfl
                simp only [Act.put, List.setIfInBounds_toArray, List.set_cons_zero, List.set_cons_succ, List.getElem_toArray, List.getElem_cons_succ, List.getElem_cons_zero]
                refine wpAnyH_take (i := 9) (v := ?_) rfl (by kernel_rfl) (by kernel_rfl) (by kernel_rfl) (fun _ _ _ h => h) (Or.inl ⟨by rfl, fun w hSw => ?_⟩) (by assumption) ?_
                rotate_left
                · (try dsimp only at hSw); go_simp; try with_reducible rfl
                simp only [Act.put, List.setIfInBounds_toArray, List.set_cons_zero, List.set_cons_succ, List.getElem_toArray, List.getElem_cons_succ, List.getElem_cons_zero]
                refine wpAnyH_take (i := 10) (v := ?_) rfl (by kernel_rfl) (by kernel_rfl) (by kernel_rfl) (fun _ _ _ h => h) (Or.inl ⟨by rfl, fun w hSw => ?_⟩) (by assumption) ?_
                rotate_left
                · (try dsimp only at hSw); go_simp; try with_reducible rfl
                simp only [Act.put, List.setIfInBounds_toArray, List.set_cons_zero, List.set_cons_succ, List.getElem_toArray, List.getElem_cons_succ, List.getElem_cons_zero]
                refine wpAnyH_ready (rs := [6]) (by kernel_rfl) (by simp) ?_
                refine AllReadyH.cons rfl (fun K hK => ?_) AllReadyH.nil
                simp only [List.getElem_toArray, List.getElem_cons_succ, List.getElem_cons_zero]
                go_simp
                refine had.mono ?_
                rintro e wf ⟨rfl, hb⟩
                have hcw := (hb.cell (p := ⟨b, off + i, none⟩) HC.out.1).trans HC.out.2
                replace HPD := Lib.hid (HH.out.next HPD.out hb)
                replace HBD := Lib.hid (HBD.out.trans (hb.mono HBD.out.size))
                have d2 : (z != z) = false := by simp
                clear hb had
                go_wp2_with (fail)
                refine hK.out _ _ hcw (fun hHeld => ?_)
                clear hK K
                refine wpAnyH_take (i := 11) (v := ?_) rfl (by kernel_rfl) (by kernel_rfl) (by kernel_rfl) (fun _ _ _ h => h) (Or.inl ⟨by rfl, fun w hSw => ?_⟩) (by assumption) ?_
                rotate_left
                · (try dsimp only at hSw); go_simp; try with_reducible rfl
                simp only [Act.put, List.setIfInBounds_toArray, List.set_cons_zero, List.set_cons_succ, List.getElem_toArray, List.getElem_cons_succ, List.getElem_cons_zero]
                refine wpAnyH_take (i := 12) (v := ?_) rfl (by kernel_rfl) (by kernel_rfl) (by kernel_rfl) (fun _ _ _ h => h) (Or.inl ⟨by rfl, fun w hSw => ?_⟩) (by assumption) ?_
                rotate_left
                · (try dsimp only at hSw); go_simp; try with_reducible rfl
                simp only [Act.put, List.setIfInBounds_toArray, List.set_cons_zero, List.set_cons_succ, List.getElem_toArray, List.getElem_cons_succ, List.getElem_cons_zero]
                refine wpAnyH_done (by kernel_rfl) ?_ _
                clear hcw
                go_wp2_with (fail)
                exact ⟨⟨i + 1, by omega, by go_num, HPD.out, HBD.out⟩, by simp [RowKit.intOf]; omega⟩
            · obtain rfl : i = n0 := by omega
              go_wp2_with (fail)
              refine (place_nope HH.out HP4.out (show plO (X1 j x) j 9 = false by rw [plO, (X1_by j x hj).1, bnO_z HZR.out]; rfl)).mono ?_
              rintro e wg ⟨rfl, hl⟩
              have HB5 := Lib.hid (HB4.out.trans (hl.below HB4.out.size (fun j hj => HD2.out j (HH.out.td HP4.out j hj))))
              clear hl
              go_wp2_with (fail)
              go_ret
              exact ⟨rfl, HB5.out⟩
        | false =>
          rw [hz] at HS
          have HZR := Lib.hid hz
          have hby := HH.out.bytes HP2.out (j : Int)
          rw [(X1_by j x hj).1, (X1_by j x hj).2, bnO_nz hz, ne_nil HLX.out] at hby
          rw [HS.out]
          clear hz HS
          go_wp2_with (fail)
          refine hby.mono ?_
          rintro e we ⟨a3, n3, c3, rfl, hp3, hb⟩
          have HP3 := Lib.hid hp3
          replace HP2 := Lib.hid (HH.out.next HP2.out hb)
          replace HB := Lib.hid (HB.out.trans (hb.mono HB.out.size))
          clear hb hby hp3
          go_wp2_with (fail)
          refine (sameP HP3.out (HX.out.next HB.out) (by have := HP3.out.len; have := HLX.out; omega)).mono ?_
          rintro e we ⟨rfl, hb⟩
          replace HP2 := Lib.hid (HH.out.next HP2.out hb)
          replace HB := Lib.hid (HB.out.trans (hb.mono HB.out.size))
          have had := HH.out.ad HP2.out (j : Int)
          rw [adO_yes _ hj, upd_at] at had
          clear hb HP3
          go_wp2_with (fail)
          refine had.mono ?_
          rintro e we ⟨rfl, hb⟩
          replace HP2 := Lib.hid (HH.out.next HP2.out hb)
          replace HB := Lib.hid (HB.out.trans (hb.mono HB.out.size))
          clear hb had
          go_wp2_with (fail)
          refine (fresh_nz HH.out hj HLX.out HZR.out HP2.out).mono ?_
          rintro e we ⟨a4, c4, rfl, hb⟩
          replace HP2 := Lib.hid (HH.out.next HP2.out hb)
          replace HB := Lib.hid (HB.out.trans (hb.mono HB.out.size))
          clear hb
          go_wp2_with (fail)
          go_loopw [13] (fun v wr => ∃ i : Nat, i ≤ n0 ∧ v = .int .i64 i ∧ Pmp wr p T2 D2 (upd (num ks) j 0) (X1 j x) ∧ Below w.heap.size w wr) (fun v _ => n0 - (RowKit.intOf v).toNat)
          case atStart => exact ⟨0, by omega, rfl, HP2.out, HB.out⟩
          case round =>
            obtain ⟨i, hi, rfl, hP4, hB4⟩ := hrel
            have HP4 := Lib.hid hP4
            have HB4 := Lib.hid hB4
            clear hP4 hB4 HP2 HB
            by_cases hlt : i < n0
            · have HPD := Lib.hid (HH.out.next HP4.out (below_drewN (Below.refl _ _) 1))
              have HBD := Lib.hid (below_drewN HB4.out 1)
              by_cases hij : i = j
              · subst hij
                have d3 : ((i : Int) != (i : Int)) = false := by simp
                go_upto_region 21 with fail
                refine wp_region_held_drew (S := (fun _ => True)) (by kernel_rfl) ?_ (fun hHeld => ?_)
                · exact trivial
                refine wpAnyH_take (i := 0) (v := ?_) rfl (by kernel_rfl) (by kernel_rfl) (by kernel_rfl) (fun _ _ _ h => h) (Or.inl ⟨by rfl, fun w hSw => ?_⟩) (by assumption) ?_
                rotate_left
                · (try dsimp only at hSw); go_simp; try with_reducible rfl
                simp only [Act.put, List.setIfInBounds_toArray, List.set_cons_zero, List.set_cons_succ, List.getElem_toArray, List.getElem_cons_zero]
                refine wpAnyH_take (i := 1) (v := ?_) rfl (by kernel_rfl) (by kernel_rfl) (by kernel_rfl) (fun _ _ _ h => h) (Or.inl ⟨by rfl, fun w hSw => ?_⟩) (by assumption) ?_
                rotate_left
                · (try dsimp only at hSw); go_simp; try with_reducible rfl
                simp only [Act.put, List.setIfInBounds_toArray, List.set_cons_zero, List.set_cons_succ, List.getElem_toArray, List.getElem_cons_succ, List.getElem_cons_zero]
                refine wpAnyH_take (i := 2) (v := ?_) rfl (by kernel_rfl) (by kernel_rfl) (by kernel_rfl) (fun _ _ _ h => h) (Or.inl ⟨by rfl, fun w hSw => ?_⟩) (by assumption) ?_
                rotate_left
                · (try dsimp only at hSw); go_simp; try with_reducible rfl
                simp only [Act.put, List.setIfInBounds_toArray, List.set_cons_zero, List.set_cons_succ, List.getElem_toArray, List.getElem_cons_succ, List.getElem_cons_zero]
                refine wpAnyH_take (i := 3) (v := ?_) rfl (by kernel_rfl) (by kernel_rfl) (by kernel_rfl) (fun _ _ _ h => h) (Or.inl ⟨by rfl, fun w hSw => ?_⟩) (by assumption) ?_
                rotate_left
                · (try dsimp only at hSw); go_simp; try with_reducible rfl
                simp only [Act.put, List.setIfInBounds_toArray, List.set_cons_zero, List.set_cons_succ, List.getElem_toArray, List.getElem_cons_succ, List.getElem_cons_zero]
                refine wpAnyH_take (i := 4) (v := undef) rfl (by kernel_rfl) (by kernel_rfl) (by kernel_rfl) (fun _ _ _ h => h) (Or.inr ⟨by rfl, rfl⟩) (by assumption) ?_
                simp only [Act.put, List.setIfInBounds_toArray, List.set_cons_zero, List.set_cons_succ, List.getElem_toArray, List.getElem_cons_succ, List.getElem_cons_zero]
                refine wpAnyH_take (i := 5) (v := undef) rfl (by kernel_rfl) (by kernel_rfl) (by kernel_rfl) (fun _ _ _ h => h) (Or.inr ⟨by rfl, rfl⟩) (by assumption) ?_
                simp only [Act.put, List.setIfInBounds_toArray, List.set_cons_zero, List.set_cons_succ, List.getElem_toArray, List.getElem_cons_succ, List.getElem_cons_zero]
                refine wpAnyH_take (i := 6) (v := undef) rfl (by kernel_rfl) (by kernel_rfl) (by kernel_rfl) (fun _ _ _ h => h) (Or.inr ⟨by rfl, rfl⟩) (by assumption) ?_
                simp only [Act.put, List.setIfInBounds_toArray, List.set_cons_zero, List.set_cons_succ, List.getElem_toArray, List.getElem_cons_succ, List.getElem_cons_zero]
                refine wpAnyH_take (i := 7) (v := undef) rfl (by kernel_rfl) (by kernel_rfl) (by kernel_rfl) (fun _ _ _ h => h) (Or.inr ⟨by rfl, rfl⟩) (by assumption) ?_
                simp only [Act.put, List.setIfInBounds_toArray, List.set_cons_zero, List.set_cons_succ, List.getElem_toArray, List.getElem_cons_succ, List.getElem_cons_zero]
                refine wpAnyH_take (i := 8) (v := undef) rfl (by kernel_rfl) (by kernel_rfl) (by kernel_rfl) (fun _ _ _ h => h) (Or.inr ⟨by rfl, rfl⟩) (by assumption) ?_
                simp only [Act.put, List.setIfInBounds_toArray, List.set_cons_zero, List.set_cons_succ, List.getElem_toArray, List.getElem_cons_succ, List.getElem_cons_zero]
                refine wpAnyH_take (i := 9) (v := undef) rfl (by kernel_rfl) (by kernel_rfl) (by kernel_rfl) (fun _ _ _ h => h) (Or.inr ⟨by rfl, rfl⟩) (by assumption) ?_
                simp only [Act.put, List.setIfInBounds_toArray, List.set_cons_zero, List.set_cons_succ, List.getElem_toArray, List.getElem_cons_succ, List.getElem_cons_zero]
                refine wpAnyH_take (i := 10) (v := undef) rfl (by kernel_rfl) (by kernel_rfl) (by kernel_rfl) (fun _ _ _ h => h) (Or.inr ⟨by rfl, rfl⟩) (by assumption) ?_
                simp only [Act.put, List.setIfInBounds_toArray, List.set_cons_zero, List.set_cons_succ, List.getElem_toArray, List.getElem_cons_succ, List.getElem_cons_zero]
                refine wpAnyH_take (i := 11) (v := undef) rfl (by kernel_rfl) (by kernel_rfl) (by kernel_rfl) (fun _ _ _ h => h) (Or.inr ⟨by rfl, rfl⟩) (by assumption) ?_
                simp only [Act.put, List.setIfInBounds_toArray, List.set_cons_zero, List.set_cons_succ, List.getElem_toArray, List.getElem_cons_succ, List.getElem_cons_zero]
                refine wpAnyH_take (i := 12) (v := ?_) rfl (by kernel_rfl) (by kernel_rfl) (by kernel_rfl) (fun _ _ _ h => h) (Or.inl ⟨by rfl, fun w hSw => ?_⟩) (by assumption) ?_
                rotate_left
                · (try dsimp only at hSw); go_simp; try with_reducible rfl
                simp only [Act.put, List.setIfInBounds_toArray, List.set_cons_zero, List.set_cons_succ, List.getElem_toArray, List.getElem_cons_succ, List.getElem_cons_zero]
                refine wpAnyH_done (by kernel_rfl) ?_ _
                go_wp2_with (fail)
                exact ⟨⟨i + 1, by omega, by go_num, HPD.out, HBD.out⟩, by simp [RowKit.intOf]; omega⟩
              · have d3 : ((i : Int) != (j : Int)) = true := by simp; omega
                have hi828 : i < 828 := by have := HN.out; omega
                obtain ⟨b, off, rfl, hbl, hcs⟩ := (HL.out.next HBD.out).at (by omega : 0 < n0)
                have hc1 := hcs i hlt
                obtain ⟨z, hz⟩ : ∃ z, z = num ks i := ⟨_, rfl⟩
                rw [← hz] at hc1
                have had := HH.out.ad HPD.out (i : Int)
                rw [adO_yes _ hi828, upd_off _ _ hij, ← hz] at had
                have HC := Lib.hid (And.intro hbl hc1)
                clear hcs hz
                go_upto_region 21 with fail
                refine wp_region_held_drew (S := (fun w' => w'.cell? ⟨b, off + i, none⟩ = some (.int .i64 z))) (by kernel_rfl) ?_ (fun hHeld => ?_)
                · exact hc1
                clear hc1
                refine wpAnyH_take (i := 0) (v := ?_) rfl (by kernel_rfl) (by kernel_rfl) (by kernel_rfl) (fun _ _ _ h => h) (Or.inl ⟨by rfl, fun w hSw => ?_⟩) (by assumption) ?_
                rotate_left
                · (try dsimp only at hSw); go_simp; try with_reducible rfl
                simp only [Act.put, List.setIfInBounds_toArray, List.set_cons_zero, List.set_cons_succ, List.getElem_toArray, List.getElem_cons_zero]
                refine wpAnyH_take (i := 1) (v := ?_) rfl (by kernel_rfl) (by kernel_rfl) (by kernel_rfl) (fun _ _ _ h => h) (Or.inl ⟨by rfl, fun w hSw => ?_⟩) (by assumption) ?_
                rotate_left
                · (try dsimp only at hSw); go_simp; try with_reducible rfl
                simp only [Act.put, List.setIfInBounds_toArray, List.set_cons_zero, List.set_cons_succ, List.getElem_toArray, List.getElem_cons_succ, List.getElem_cons_zero]
                refine wpAnyH_take (i := 2) (v := ?_) rfl (by kernel_rfl) (by kernel_rfl) (by kernel_rfl) (fun _ _ _ h => h) (Or.inl ⟨by rfl, fun w hSw => ?_⟩) (by assumption) ?_
                rotate_left
                · (try dsimp only at hSw); go_simp; try with_reducible rfl
                simp only [Act.put, List.setIfInBounds_toArray, List.set_cons_zero, List.set_cons_succ, List.getElem_toArray, List.getElem_cons_succ, List.getElem_cons_zero]
                refine wpAnyH_take (i := 3) (v := ?_) rfl (by kernel_rfl) (by kernel_rfl) (by kernel_rfl) (fun _ _ _ h => h) (Or.inl ⟨by rfl, fun w hSw => ?_⟩) (by assumption) ?_
                rotate_left
                · (try dsimp only at hSw); go_simp; try with_reducible rfl
                simp only [Act.put, List.setIfInBounds_toArray, List.set_cons_zero, List.set_cons_succ, List.getElem_toArray, List.getElem_cons_succ, List.getElem_cons_zero]
                refine wpAnyH_take (i := 4) (v := ?_) rfl (by kernel_rfl) (by kernel_rfl) (by kernel_rfl) (fun _ _ _ h => h) (Or.inl ⟨by rfl, fun w hSw => ?_⟩) (by assumption) ?_
                rotate_left
                · (try dsimp only at hSw); go_simp; try with_reducible rfl
                simp only [Act.put, List.setIfInBounds_toArray, List.set_cons_zero, List.set_cons_succ, List.getElem_toArray, List.getElem_cons_succ, List.getElem_cons_zero]
                refine wpAnyH_take (i := 5) (v := ?_) rfl (by kernel_rfl) (by kernel_rfl) (by kernel_rfl) (fun _ _ _ h => h) (Or.inl ⟨by rfl, fun w hSw => ?_⟩) (by assumption) ?_
                rotate_left
                · (try dsimp only at hSw); go_simp; try with_reducible rfl
                simp only [Act.put, List.setIfInBounds_toArray, List.set_cons_zero, List.set_cons_succ, List.getElem_toArray, List.getElem_cons_succ, List.getElem_cons_zero]
                refine wpAnyH_take (i := 7) (v := ?_) rfl (by kernel_rfl) (by kernel_rfl) (by kernel_rfl) (fun _ _ _ h => h) (Or.inl ⟨by rfl, fun w hSw => ?_⟩) (by assumption) ?_
                rotate_left
                · (try dsimp only at hSw); go_simp; try with_reducible rfl
                simp only [Act.put, List.setIfInBounds_toArray, List.set_cons_zero, List.set_cons_succ, List.getElem_toArray, List.getElem_cons_succ, List.getElem_cons_zero]
                refine wpAnyH_take (i := 8) (v := ?_) rfl (by kernel_rfl) (by kernel_rfl) (by kernel_rfl) (fun _ _ _ h => h) (Or.inl ⟨by rfl, fun w hSw => ?_⟩) (by assumption) ?_
                rotate_left
                · (try dsimp only at hSw); go_simp; try with_reducible rfl
                simp only [Act.put, List.setIfInBounds_toArray, List.set_cons_zero, List.set_cons_succ, List.getElem_toArray, List.getElem_cons_succ, List.getElem_cons_zero]
                refine wpAnyH_take (i := 9) (v := ?_) rfl (by kernel_rfl) (by kernel_rfl) (by kernel_rfl) (fun _ _ _ h => h) (Or.inl ⟨by rfl, fun w hSw => ?_⟩) (by assumption) ?_
                rotate_left
                · (try dsimp only at hSw); go_simp; try with_reducible rfl
                simp only [Act.put, List.setIfInBounds_toArray, List.set_cons_zero, List.set_cons_succ, List.getElem_toArray, List.getElem_cons_succ, List.getElem_cons_zero]
                refine wpAnyH_take (i := 10) (v := ?_) rfl (by kernel_rfl) (by kernel_rfl) (by kernel_rfl) (fun _ _ _ h => h) (Or.inl ⟨by rfl, fun w hSw => ?_⟩) (by assumption) ?_
                rotate_left
                · (try dsimp only at hSw); go_simp; try with_reducible rfl
                simp only [Act.put, List.setIfInBounds_toArray, List.set_cons_zero, List.set_cons_succ, List.getElem_toArray, List.getElem_cons_succ, List.getElem_cons_zero]
                refine wpAnyH_ready (rs := [6]) (by kernel_rfl) (by simp) ?_
                refine AllReadyH.cons rfl (fun K hK => ?_) AllReadyH.nil
                simp only [List.getElem_toArray, List.getElem_cons_succ, List.getElem_cons_zero]
                go_simp
                refine had.mono ?_
                rintro e wf ⟨rfl, hb⟩
                have hcw := (hb.cell (p := ⟨b, off + i, none⟩) HC.out.1).trans HC.out.2
                replace HPD := Lib.hid (HH.out.next HPD.out hb)
                replace HBD := Lib.hid (HBD.out.trans (hb.mono HBD.out.size))
                have d2 : (z != z) = false := by simp
                clear hb had
                go_wp2_with (fail)
                refine hK.out _ _ hcw (fun hHeld => ?_)
                clear hK K
                refine wpAnyH_take (i := 11) (v := ?_) rfl (by kernel_rfl) (by kernel_rfl) (by kernel_rfl) (fun _ _ _ h => h) (Or.inl ⟨by rfl, fun w hSw => ?_⟩) (by assumption) ?_
                rotate_left
                · (try dsimp only at hSw); go_simp; try with_reducible rfl
                simp only [Act.put, List.setIfInBounds_toArray, List.set_cons_zero, List.set_cons_succ, List.getElem_toArray, List.getElem_cons_succ, List.getElem_cons_zero]
                refine wpAnyH_take (i := 12) (v := ?_) rfl (by kernel_rfl) (by kernel_rfl) (by kernel_rfl) (fun _ _ _ h => h) (Or.inl ⟨by rfl, fun w hSw => ?_⟩) (by assumption) ?_
                rotate_left
                · (try dsimp only at hSw); go_simp; try with_reducible rfl
                simp only [Act.put, List.setIfInBounds_toArray, List.set_cons_zero, List.set_cons_succ, List.getElem_toArray, List.getElem_cons_succ, List.getElem_cons_zero]
                refine wpAnyH_done (by kernel_rfl) ?_ _
                clear hcw
                go_wp2_with (fail)
                exact ⟨⟨i + 1, by omega, by go_num, HPD.out, HBD.out⟩, by simp [RowKit.intOf]; omega⟩
            · obtain rfl : i = n0 := by omega
              go_wp2_with (fail)
              refine (place_yes HH.out HP4.out (show plO (X1 j x) j 9 = true by rw [plO, (X1_by j x hj).1, bnO_nz HZR.out, ne_nil HLX.out]; rfl)).mono ?_
              rintro e wg ⟨rfl, hl⟩
              have hbl := hl.below HB4.out.size (fun j hj => HD2.out j (HH.out.td HP4.out j hj))
              obtain ⟨_, T5, D5, hP5, _, _⟩ := hl
              have HP5 := Lib.hid hP5
              have HB5 := Lib.hid (HB4.out.trans hbl)
              have had := HH.out.ad HP5.out (j : Int)
              rw [adO_yes _ hj, upd_at] at had
              clear hbl hP5
              go_wp2_with (fail)
              refine had.mono ?_
              rintro e wh ⟨rfl, hb⟩
              replace HP5 := Lib.hid (HH.out.next HP5.out hb)
              replace HB5 := Lib.hid (HB5.out.trans (hb.mono HB5.out.size))
              clear hb had
              go_wp2_with (fail)
              refine (fresh_z HH.out (fun k => by
                unfold X1 upd
                split <;> rfl) HP5.out).mono ?_
              rintro e wi ⟨a6, c6, rfl, hb⟩
              replace HB5 := Lib.hid (HB5.out.trans (hb.mono HB5.out.size))
              clear hb
              go_wp2_with (fail)
              go_ret
              exact ⟨rfl, HB5.out⟩
end Go.Proofs.Ytgedgkdnjnbijaa
