/-
  The law UsageMerges, walked.
-/
import Derived.Test.YtdgjhfghggcfaaaWu6
namespace Go.Proofs.Ytdgjhfghggcfaaa
open Go.RowKit Go.Maps
set_option linter.unusedVariables false

/-- What the first i of these segments have together. -/
def vsum (ks l : List Int) : Nat → Int
  | 0 => 0
  | i + 1 => vsum ks l i + num ks (num l i).toNat
/-- What victims are. -/
structure VicOk (D : Int) (S : Nat) (ks ts l : List Int) : Prop where
  len : l.length ≤ S
  at' : ∀ i, i < l.length → ∃ s : Nat, num l i = (s : Int) ∧ s < S ∧ 0 < num ks s ∧ ¬ (s : Int) ∈ ts
  ne : ∀ i j, i < j → j < l.length → num l i ≠ num l j
  sum : ∀ i, i ≤ l.length → 0 ≤ vsum ks l i ∧ vsum ks l i ≤ D
  one : l.length ≠ 1
theorem VicOk.step {D : Int} {S : Nat} {ks ts l : List Int} (h : VicOk D S ks ts l) (i : Nat) (hi : i < l.length) (s : Nat) (hs : num l i = (s : Int)) : vsum ks l (i + 1) = vsum ks l i + num ks s := by
  show vsum ks l i + num ks (num l i).toNat = _
  rw [hs, Int.toNat_natCast]
theorem vsum_take {ks : List Int} : ∀ (X : List Usd), (∀ x ∈ X, ∃ s : Nat, x.s = (s : Int) ∧ x.c = num ks s) → ∀ i, i ≤ X.length → vsum ks (X.map Usd.s) i = sumL ((X.take i).map Usd.c)
  | X, _, 0, _ => by simp [vsum, sumL]
  | X, h, i + 1, hi => by
    have hx : X[i]? = some X[i] := List.getElem?_eq_getElem (by omega)
    obtain ⟨s, h1, h2⟩ := h X[i] (List.getElem_mem _)
    have hn : num (X.map Usd.s) i = (s : Int) := by
      unfold num
      rw [List.getD, List.getElem?_map, hx]
      exact h1
    show vsum ks (X.map Usd.s) i + num ks (num (X.map Usd.s) i).toNat = _
    rw [vsum_take X h i (by omega), hn, Int.toNat_natCast, List.take_add_one, hx, List.map_append, sumL_app, ← h2]
    simp [sumL]
theorem sum_front {c : Int} : ∀ (X : List Usd), (∀ x ∈ X, 0 ≤ x.c) → ∀ i, 0 ≤ sumL ((X.take i).map Usd.c) ∧ sumL ((X.take i).map Usd.c) ≤ sumL (X.map Usd.c)
  | [], _, i => by simp [sumL]
  | x :: r, h, 0 => by
    obtain ⟨a, b⟩ := sum_front (c := c) r (fun y hy => h y (by simp [hy])) 0
    have := h x (by simp)
    simp only [List.take_zero, List.map_nil, sumL, List.map_cons] at a b ⊢
    omega
  | x :: r, h, i + 1 => by
    obtain ⟨a, b⟩ := sum_front (c := c) r (fun y hy => h y (by simp [hy])) i
    have := h x (by simp)
    simp only [List.take_succ_cons, List.map_cons, sumL]
    omega
theorem IsVic.ok {D : Int} {S : Nat} {ks ts v : List Int} (h : IsVic D S ks ts v) (hD : 0 ≤ D) (hn : noneNeg ks) : VicOk D S ks ts v := by
  obtain ⟨X, hp, hs, rfl⟩ := h
  by_cases h2 : (gr D X).length < 2
  · have e : vres (gr D X) = [] := if_pos h2
    rw [e]
    exact ⟨Nat.zero_le _, (fun i hi => by simp at hi), (fun i j _ hj => by simp at hj), (fun i hi => by
      have h0 : i = 0 := Nat.le_zero.1 hi
      subst h0
      exact ⟨Int.le_refl _, hD⟩), by simp⟩
  · have e : vres (gr D X) = (gr D X).map Usd.s := if_neg h2
    rw [e]
    obtain ⟨k, hk⟩ := gr_sub D X
    have hsum := gr_sum D X hD
    rw [hk] at h2 hsum ⊢
    obtain ⟨Y, hY⟩ : ∃ Y, Y = X.take k := ⟨_, rfl⟩
    rw [← hY] at h2 hsum ⊢
    have hYs : Y.Pairwise ltU := by rw [hY]; exact hs.sublist (List.take_sublist k X)
    have hmem : ∀ x ∈ Y, ∃ s : Nat, s < S ∧ 0 < num ks s ∧ ¬ (s : Int) ∈ ts ∧ x = ⟨(s : Int), num ks s⟩ := fun x hx => usL_mem.1 (hp.mem_iff.1 (List.mem_of_mem_take (hY ▸ hx)))
    have hlen : Y.length ≤ S := by
      rw [hY, List.length_take, hp.length_eq]
      have := usL_len S ks ts
      omega
    have hat : ∀ i (hi : i < Y.length), num (Y.map Usd.s) i = Y[i].s := fun i hi => by
      unfold num
      rw [List.getD, List.getElem?_map, List.getElem?_eq_getElem hi]
      rfl
    refine ⟨by simpa using hlen, fun i hi => ?_, fun i j hij hj => ?_, fun i hi => ?_, by simp; omega⟩
    · rw [List.length_map] at hi
      obtain ⟨s, h1, h2, h3, h4⟩ := hmem Y[i] (List.getElem_mem hi)
      exact ⟨s, by rw [hat i hi, h4], h1, h2, h3⟩
    · rw [List.length_map] at hj
      rw [hat i (by omega), hat j hj]
      intro he
      obtain ⟨s, _, _, _, h4⟩ := hmem Y[i] (List.getElem_mem (by omega))
      obtain ⟨t, _, _, _, h5⟩ := hmem Y[j] (List.getElem_mem hj)
      have hlt := (List.pairwise_iff_getElem.1 hYs) i j (by omega) hj hij
      refine ltU_ne hlt ?_
      rw [h4, h5] at he ⊢
      simp only at he
      obtain rfl : s = t := by omega
      rfl
    · rw [List.length_map] at hi
      rw [vsum_take Y (fun x hx => by obtain ⟨s, _, _, _, h4⟩ := hmem x hx; exact ⟨s, by rw [h4], by rw [h4]⟩) i hi]
      obtain ⟨a, b⟩ := sum_front (c := 0) Y (fun x hx => by obtain ⟨s, _, h3, _, h4⟩ := hmem x hx; rw [h4]; exact Int.le_of_lt h3) i
      exact ⟨a, Int.le_trans b hsum⟩
set_option maxRecDepth 100000 in
set_option maxHeartbeats 16000000 in
theorem merges_any (d r s : Int) (a1 : Option Addr) (n1 c1 : Nat) (L : List Int) (a2 : Option Addr) (n2 c2 : Nat) (ts : List Int) (w : World) (hL : Ins w a1 n1 L) (hwf : ∀ z ∈ L, (Lit.int .i64 z).wf = true) (ht : Ins w a2 n2 ts) :
    Calls Try.prog 6 #[gv d r s, .slice a1 n1 c1, .slice a2 n2 c2] w fun e w' => e = .returned (.bool true) ∧ Below w.heap.size w w' := by
  have x1 := Bx.mk' w d r s 23
  have hb1 : Below w.heap.size w (w.alloc (.cells #[.int .i64 d, .int .i64 r, .int .i64 s] 23 (0, 0))) := (Below.refl _ _).alloc (Nat.le_refl _) _
  have HL := Lib.hid hL
  have HWF := Lib.hid hwf
  have HX1 := Lib.hid x1
  have HB1 := Lib.hid hb1
  have HT := Lib.hid ht
  clear ht
  clear hL hwf x1 hb1
  go_enter Try.func6, Try.ntmps6
  go_wp2_with (fail)
  refine (alive_any _).mono ?_
  rintro e w2 ⟨rfl, hb⟩
  have x2 := HX1.out.next hb
  have HB2 := Lib.hid (HB1.out.trans (hb.mono HB1.out.size))
  have HX2 := Lib.hid x2
  clear hb x2
  by_cases hn1 : n1 ≤ 5000
  · have hn1' : decide ((5000 : Int) < (n1 : Int)) = false := decide_eq_false (by omega)
    by_cases hn2 : n2 ≤ 100
    · have hn2' : decide ((100 : Int) < (n2 : Int)) = false := decide_eq_false (by omega)
      have y0 := HX2.out.c0
      have y1 := HX2.out.c1
      have y2 := HX2.out.c2
      have hcn := count_any d r s a1 n1 c1 L w2 (HL.out.below (Nat.le_refl _) HB2.out) (by omega) HWF.out
      go_wp2_with (fail)
      refine hcn.mono ?_
      clear hcn
      rintro e w3 ⟨l, ok, ⟨a3, c3, he, hi3, hlo3, hb⟩, hc3⟩
      have x3 := HX2.out.next hb
      have HB3 := Lib.hid (HB2.out.trans (hb.mono HB2.out.size))
      have HX3 := Lib.hid x3
      clear y0 y1 y2 x3
      by_cases hok : Rt d r s ∧ AdOk (s.toNat * (PL d r).toNat) L
      · obtain ⟨hR, hA⟩ := hok
        obtain ⟨p1, p2, _, _⟩ := PL_bd hR.d1 hR.d2 hR.r1 hR.r2
        have s1 := hR.s1
        have s2 := hR.s2
        obtain ⟨rfl, rfl⟩ := hc3.1 hR hA
        obtain ⟨S, rfl⟩ := Int.eq_ofNat_of_zero_le (show 0 ≤ s by omega)
        obtain ⟨D, hD⟩ := Int.eq_ofNat_of_zero_le (show 0 ≤ PL d r by omega)
        rw [Int.toNat_natCast, hD, Int.toNat_natCast] at hi3 hA
        have he' : e = .returned (.tuple #[.slice a3 S c3, .bool true]) := by rw [he, Int.toNat_natCast, hD, Int.toNat_natCast, cL_len]
        rw [cL_len] at hi3
        subst he'
        rw [hD] at p1 p2
        have HD := Lib.hid hD
        have HR := Lib.hid hR
        have HA := Lib.hid hA
        have HI3 := Lib.hid hi3
        have HNN : Hid (noneNeg (cL S D L)) := Lib.hid fun k hk => by
          unfold cL at hk
          obtain ⟨j, _, rfl⟩ := List.mem_map.1 hk
          omega
        clear hc3 he hb hR hA hi3 hlo3 hD
        have hle : Hid (∀ k ∈ cL S D L, k ≤ (D : Int)) := Lib.hid (cL_le (by omega) L)
        have y0 := HX3.out.c0
        have y1 := HX3.out.c1
        have y2 := HX3.out.c2
        have hvi := victims_any d r S a3 a2 S c3 n2 c2 (cL S D L) ts w3 HI3.out (HT.out.below (Nat.le_refl _) HB3.out) (by omega) (by omega)
        go_wp2_with (fail)
        refine hvi.mono ?_
        clear hvi
        rintro e w4 ⟨l, ⟨a4, c4, rfl, hi4, hb⟩, _, hiv⟩
        have hv := hiv HR.out
        rw [HD.out, Int.toNat_natCast] at hv
        obtain ⟨ks, hks⟩ : ∃ ks, ks = cL S D L := ⟨_, rfl⟩
        have hkl : ks.length = S := by rw [hks, cL_len]
        have hi3 := HI3.out
        rw [← hks] at hle HNN hv hi3
        have HVO := Lib.hid (hv.ok (D := (D : Int)) (by omega) HNN.out)
        have hll := HVO.out.len
        have HB4 := Lib.hid (HB3.out.trans (hb.mono HB3.out.size))
        have HX4 := Lib.hid (HX3.out.next hb)
        have HI4 := Lib.hid hi4
        have HK4 := Lib.hid (hi3.next hb)
        have HT4 := Lib.hid (HT.out.below (Nat.le_refl _) HB4.out)
        have hs2 : S ≤ 64 := by omega
        clear hiv hv hks hi3 hb y0 y1 y2 hi4
        go_wp2_with (fail)
        go_loopw [10, 11, 12, 13] (fun u v _ _ wr => ∃ i : Nat, i ≤ l.length ∧ v = .int .i64 i ∧ u = .int .i64 (vsum ks l i) ∧ ∃ q, wr = w4.drewN q) (fun _ v _ _ _ => l.length - (RowKit.intOf v).toNat)
        case atStart => exact ⟨0, by omega, rfl, rfl, 0, rfl⟩
        case round =>
          obtain ⟨i, hil, rfl, rfl, q, hq⟩ := hrel
          have i0 : (0 : Int) ≤ (i : Int) := by omega
          have hBq : Below w4.heap.size w4 wr := by rw [hq]; exact below_drewN (Below.refl _ _) q
          have HQ := Lib.hid hq
          have HBQ := Lib.hid hBq
          obtain ⟨vs0, vs1⟩ := HVO.out.sum i hil
          clear hq
          by_cases hlt : i < l.length
          · have i1 : (i : Int) < (l.length : Int) := by omega
            obtain ⟨sg, hsg, hsS, hs0, hst⟩ := HVO.out.at' i hlt
            obtain ⟨b4, o4, rfl, l4, hc4⟩ := HI4.out.at (by omega)
            obtain ⟨bk, ok', rfl, lk, hck⟩ := HK4.out.at (by omega)
            have HC4 : Hid (∀ X, Below w4.heap.size w4 X → ∀ k, k < l.length → X.cell? ⟨b4, o4 + k, none⟩ = some (.int .i64 (num l k))) := Lib.hid fun X hX k hk => (hX.cell (p := ⟨b4, o4 + k, none⟩) l4).trans (hc4 k hk)
            have HCK : Hid (∀ X, Below w4.heap.size w4 X → X.cell? ⟨bk, ok' + sg, none⟩ = some (.int .i64 (num ks sg))) := Lib.hid fun X hX => (hX.cell (p := ⟨bk, ok' + sg, none⟩) lk).trans (hck sg hsS)
            have y := HC4.out _ HBQ.out i hlt
            rw [hsg] at y
            have z := HCK.out _ HBQ.out
            have g0 : (0 : Int) ≤ (sg : Int) := by omega
            have g1 : (sg : Int) < (S : Int) := by omega
            have f1 : decide ((sg : Int) < 0) = false := decide_eq_false (by omega)
            have f2 : decide ((S : Int) ≤ (sg : Int)) = false := decide_eq_false (by omega)
            have f3 : (num ks sg == 0) = false := by simp; omega
            have HSG := Lib.hid hsg
            have HST := Lib.hid hst
            have HVS := Lib.hid (HVO.out.step i hlt sg hsg)
            obtain ⟨v0, v1⟩ := HVO.out.sum (i + 1) hlt
            rw [HVS.out] at v0 v1
            obtain ⟨sm, hsm⟩ : ∃ sm, sm = vsum ks l i := ⟨_, rfl⟩
            rw [← hsm] at vs0 vs1 v0 v1 HVS ⊢
            obtain ⟨kz, hkz⟩ : ∃ kz, kz = num ks sg := ⟨_, rfl⟩
            rw [← hkz] at z f3 hs0 HVS v0 v1 HCK
            clear hc4 hck hsm hsg hst hkz
            go_wp2_with (fail)
            go_loopw [12] (fun v wi => ∃ k : Nat, k ≤ n2 ∧ v = .int .i64 k ∧ ∃ q, wi = w4.drewN q) (fun v _ => n2 - (RowKit.intOf v).toNat)
            case atStart => exact ⟨0, by omega, rfl, q, HQ.out⟩
            case round =>
              obtain ⟨k, hk, rfl, q2, hq2⟩ := hrel
              have hB2 : Below w4.heap.size w4 wr := by rw [hq2]; exact below_drewN (Below.refl _ _) q2
              have HQ2 := Lib.hid hq2
              have k0 : (0 : Int) ≤ (k : Int) := by omega
              clear hq2 y z
              have y := HC4.out _ hB2 i hlt
              rw [HSG.out] at y
              by_cases hkt : k < n2
              · have k1 : (k : Int) < (n2 : Int) := by omega
                have hne : num ts k ≠ (sg : Int) := fun e => HST.out (e ▸ num_mem (by have := HT4.out.len; omega))
                obtain ⟨bt, ot, rfl, lt2, hct⟩ := HT4.out.at (by omega)
                have x := (hB2.cell (p := ⟨bt, ot + k, none⟩) lt2).trans (hct k hkt)
                have hne' : (num ts k == (sg : Int)) = false := by simp [hne]
                clear hct hne hB2
                go_wp2_with (fail)
                go_quiet (fail)
                go_wp2_with (fail)
                go_roundw
                case rel => exact ⟨k + 1, by omega, by go_num, q2 + nq, by rw [HQ2.out, World.drewN_drewN]⟩
                case measure => simp [RowKit.intOf]; omega
              · obtain rfl : k = n2 := by omega
                have k1 : decide ((k : Int) < (k : Int)) = false := decide_eq_false (by omega)
                clear hB2 y
                go_wp2_with (fail)
                go_loopw [13] (fun v wi => ∃ k : Nat, k ≤ i ∧ v = .int .i64 k ∧ ∃ q, wi = w4.drewN q) (fun v _ => i - (RowKit.intOf v).toNat)
                case atStart => exact ⟨0, by omega, rfl, q2, HQ2.out⟩
                case round =>
                  obtain ⟨m, hm, rfl, q3, hq3⟩ := hrel
                  have hB3 : Below w4.heap.size w4 wr := by rw [hq3]; exact below_drewN (Below.refl _ _) q3
                  have HQ3 := Lib.hid hq3
                  have m0 : (0 : Int) ≤ (m : Int) := by omega
                  clear hq3
                  have y := HC4.out _ hB3 i hlt
                  rw [HSG.out] at y
                  by_cases hmi : m < i
                  · have m1 : (m : Int) < (i : Int) := by omega
                    have m2 : (m : Int) < (l.length : Int) := by omega
                    have hne := HVO.out.ne m i hmi hlt
                    rw [HSG.out] at hne
                    have x := HC4.out _ hB3 m (by omega)
                    have hne' : (num l m == (sg : Int)) = false := by simp [hne]
                    clear hne hB3
                    go_wp2_with (fail)
                    go_quiet (fail)
                    go_wp2_with (fail)
                    go_roundw
                    case rel => exact ⟨m + 1, by omega, by go_num, q3 + nq, by rw [HQ3.out, World.drewN_drewN]⟩
                    case measure => simp [RowKit.intOf]; omega
                  · obtain rfl : m = i := by omega
                    have m1 : decide ((m : Int) < (m : Int)) = false := decide_eq_false (by omega)
                    have z := HCK.out _ hB3
                    clear hB3
                    go_wp2_with (fail)
                    go_roundw
                    case rel => exact ⟨m + 1, by omega, by go_num, by rw [HVS.out], q3, HQ3.out⟩
                    case measure => simp [RowKit.intOf]; omega
          · obtain rfl : i = l.length := by omega
            have i1 : decide ((l.length : Int) < (l.length : Int)) = false := decide_eq_false (by omega)
            have h1 : ((l.length : Int) == 1) = false := by have := HVO.out.one; simp; omega
            have x4 := HX4.out.next hBq
            have HX5 := Lib.hid x4
            have y0 := x4.c0
            have y1 := x4.c1
            have y2 := x4.c2
            have hpl := places_yes d r S wr HR.out
            rw [HD.out] at hpl
            have fs : decide ((D : Int) < vsum ks l l.length) = false := decide_eq_false (by omega)
            have HK5 := Lib.hid (HK4.out.next hBq)
            have HB5 := Lib.hid (HB4.out.trans (hBq.mono HB4.out.size))
            clear hBq x4 HVO
            go_wp2_with (fail)
            refine hpl.mono ?_
            clear hpl
            rintro e w5 ⟨rfl, hb⟩
            have HX6 := Lib.hid (HX5.out.next hb)
            have hi6 := HK5.out.next hb
            have HK6 := Lib.hid hi6
            have HB6 := Lib.hid (HB5.out.trans (hb.mono HB5.out.size))
            clear hb y0 y1 y2 vs0 vs1
            go_wp2_with (fail)
            go_loopw [14, 15, 16] (fun u a v wr => ∃ k : Nat, k ≤ S ∧ v = .int .i64 k ∧ u = .int .i64 (upN (ks.take k) : Nat) ∧ a = .int .i64 (sumL (ks.take k)) ∧ wr = w5) (fun _ _ v _ => S - (RowKit.intOf v).toNat)
            case atStart => exact ⟨0, by omega, rfl, rfl, by simp [sumL], rfl⟩
            case round =>
              obtain ⟨k, hkS, rfl, rfl, rfl, rfl⟩ := hrel
              have hsb := sum_bd (M := 59) (ks := ks) (fun x hx => ⟨HNN.out x hx, by have := hle.out x hx; omega⟩) k
              have hub : upN (ks.take k) ≤ 64 := Nat.le_trans (upN_le _) (by rw [List.length_take]; omega)
              have k0 : (0 : Int) ≤ (k : Int) := by omega
              by_cases hlt2 : k < S
              · have k1 : (k : Int) < (S : Int) := by omega
                obtain ⟨b, off, rfl, hbl, hc⟩ := hi6.at (by omega)
                have y := hc k hlt2
                have hm := num_mem (ks := ks) (i := k) (by omega)
                have hn0 := HNN.out _ hm
                have hn1 := hle.out _ hm
                have HST := Lib.hid (sumL_take (ks := ks) (k := k) (by omega))
                have HUT := Lib.hid (upN_take (ks := ks) (k := k) (by omega))
                obtain ⟨al, hal⟩ : ∃ al, al = sumL (ks.take k) := ⟨_, rfl⟩
                obtain ⟨up, hup⟩ : ∃ up, up = upN (ks.take k) := ⟨_, rfl⟩
                rw [← hal] at hsb HST ⊢
                rw [← hup] at hub HUT ⊢
                clear hc hm hal hup hi6
                by_cases hz : 0 < num ks k
                · have hz' : decide (0 < num ks k) = true := decide_eq_true hz
                  go_wp2_with (fail)
                  go_roundw
                  case rel => exact ⟨k + 1, by omega, by go_num, by rw [HUT.out, if_pos hz]; go_num, by rw [HST.out], by first | rfl | trivial⟩
                  case measure => simp [RowKit.intOf]; omega
                · have hz' : decide (0 < num ks k) = false := decide_eq_false hz
                  go_wp2_with (fail)
                  go_roundw
                  case rel => exact ⟨k + 1, by omega, by go_num, by rw [HUT.out, if_neg hz]; rfl, by rw [HST.out], by first | rfl | trivial⟩
                  case measure => simp [RowKit.intOf]; omega
              · obtain rfl : k = S := by omega
                have k1 : decide ((k : Int) < (k : Int)) = false := decide_eq_false (by omega)
                have hfk : ks.take k = ks := List.take_of_length_le (by omega)
                rw [hfk] at hsb hub ⊢
                have y0 := HX6.out.c0
                have y1 := HX6.out.c1
                have y2 := HX6.out.c2
                have hpl := places_yes d r k wr HR.out
                rw [HD.out] at hpl
                clear hfk hi6
                go_wp2_with (fail)
                refine hpl.mono ?_
                clear hpl
                rintro e w7 ⟨rfl, hb⟩
                have x7 := HX6.out.next hb
                have HX7 := Lib.hid x7
                have HK7 := Lib.hid (HK6.out.next hb)
                have HB7 := Lib.hid (HB6.out.trans (hb.mono HB6.out.size))
                clear hb y0 y1 y2
                have y0 := x7.c0
                have y1 := x7.c1
                have y2 := x7.c2
                have hvi := victims_any d r k a3 none k c3 0 0 ks [] w7 HK7.out ⟨rfl, .inl rfl⟩ (by omega) (by omega)
                clear x7
                go_wp2_with (fail)
                refine hvi.mono ?_
                clear hvi
                rintro e w8 ⟨l2, ⟨a8, c8, rfl, hi8, hb⟩, _, hiv⟩
                have hv := hiv HR.out
                rw [HD.out, Int.toNat_natCast] at hv
                have hmg : l2.length < 2 → (upN ks : Int) ≤ 2 * cei D (sumL ks) + 1 := fun h2 => merges p1 HNN.out hle.out (by rw [hkl]; exact hv) h2
                obtain ⟨c0, c1, c2⟩ := cei_bd p1 hsb.1
                have hW : Int.tdiv (sumL ks + D - 1) D = cei D (sumL ks) := Int.tdiv_eq_ediv_of_nonneg (by omega)
                have HB8 := Lib.hid (HB7.out.trans (hb.mono HB7.out.size))
                have hz1 : (D : Int) ≠ 0 := by omega
                obtain ⟨al, hal⟩ : ∃ al, al = sumL ks := ⟨_, rfl⟩
                obtain ⟨up, hup⟩ : ∃ up, up = upN ks := ⟨_, rfl⟩
                rw [← hal] at hsb hmg c0 c1 c2 hW ⊢
                rw [← hup] at hub hmg ⊢
                obtain ⟨ce, hce⟩ : ∃ ce, ce = cei D al := ⟨_, rfl⟩
                rw [← hce] at hmg c0 c2 hW
                have hcw : IntKind.i64.wrap ce = ce := IntWalk.i64_in _ (by omega)
                clear hiv hv hi8 hb hal hup hce c1 y0 y1 y2
                by_cases hfit : (up : Int) ≤ 2 * ce + 1
                · have hf' : decide ((up : Int) ≤ 2 * ce + 1) = true := decide_eq_true hfit
                  clear hmg
                  go_wp2_with (fail)
                  go_ret
                  exact ⟨rfl, HB8.out⟩
                · have hf' : decide ((up : Int) ≤ 2 * ce + 1) = false := decide_eq_false hfit
                  have hl2 : 2 ≤ l2.length := by
                    rcases Nat.lt_or_ge l2.length 2 with h | h
                    · exact absurd (hmg h) hfit
                    · exact h
                  have hl2' : (2 : Int) ≤ (l2.length : Int) := by omega
                  clear hmg
                  go_wp2_with (fail)
                  go_ret
                  exact ⟨rfl, HB8.out⟩
      · obtain ⟨rfl, rfl⟩ := hc3.2 hok
        have he' : e = .returned (.tuple #[.slice a3 0 c3, .bool false]) := he
        subst he'
        clear hok he hi3 hlo3 hb hc3
        go_wp2_with (fail)
        go_ret
        exact ⟨rfl, HB3.out⟩
    · have hn2' : decide ((100 : Int) < (n2 : Int)) = true := decide_eq_true (by omega)
      go_wp2_with (fail)
      go_ret
      exact ⟨rfl, HB2.out⟩
  · have hn1' : decide ((5000 : Int) < (n1 : Int)) = true := decide_eq_true (by omega)
    go_wp2_with (fail)
    go_ret
    exact ⟨rfl, HB2.out⟩
end Go.Proofs.Ytdgjhfghggcfaaa
