/-
  FileParts, by contract.
-/
import Derived.Test.YtegcjpocdfmpfaaWaj
set_option linter.unusedVariables false
set_option linter.unusedSimpArgs false
set_option maxRecDepth 100000
set_option maxHeartbeats 16000000
namespace Go.Proofs.Ytegcjpocdfmpfaa
open Go.RowKit

theorem rdC_two (c : Nat → Int) (s at' n m : Nat) : rdC c at' (Nat.min n (s - at')) ++ rdC c (at' + n) (Nat.min m (s - (at' + n))) = rdC c at' (Nat.min (n + m) (s - at')) := by
  obtain ⟨x, hx⟩ : ∃ x, x = Nat.min n (s - at') := ⟨_, rfl⟩
  obtain ⟨y, hy⟩ : ∃ y, y = Nat.min m (s - (at' + n)) := ⟨_, rfl⟩
  obtain ⟨z, hz⟩ : ∃ z, z = Nat.min (n + m) (s - at') := ⟨_, rfl⟩
  obtain ⟨a1, a2, a3⟩ := min_le_l hx
  obtain ⟨b1, b2, b3⟩ := min_le_l hy
  obtain ⟨c1, c2, c3⟩ := min_le_l hz
  rw [← hx, ← hy, ← hz]
  have hxy : x + y = z := by omega
  refine byt_ext (by rw [List.length_append, rdC_len, rdC_len, rdC_len, hxy]) fun i hi => ?_
  rw [List.length_append, rdC_len, rdC_len] at hi
  by_cases h : i < x
  · rw [byt_app_left (by rw [rdC_len]; exact h), rdC_byt c at' h, rdC_byt c at' (by omega)]
  · obtain ⟨j, rfl⟩ : ∃ j, i = (rdC c at' x).length + j := ⟨i - x, by rw [rdC_len]; omega⟩
    rw [byt_app_right, rdC_len]
    rw [rdC_len] at hi
    rw [rdC_byt c _ (by omega), rdC_byt c at' (by omega)]
    congr 1
    omega
theorem fileParts_any (a : Option Addr) (n c : Nat) (f : Nat → Cb) (p q r : Int) (w : World) (hc : CbsAt w a n f) :
    Calls Try.prog 9 #[.slice a n c, .int .i64 p, .int .i64 q, .int .i64 r] w fun e w' => e = .returned (.bool true) ∧ Below w.heap.size w w' := by
  have HC := Lib.hid hc
  clear hc
  go_enter Try.func9, Try.ntmps9
  go_wp2_with (fail)
  refine (falive_any w).mono ?_
  rintro e w2 ⟨rfl, hb2⟩
  go_wp2_with (fail)
  refine (fgreat_any none 0 0 (fun _ => default) a n c f w2 ⟨.inl rfl, fun i hi => by omega⟩ (by omega) (fun i hi => by omega) (HC.out.next hb2)).mono ?_
  rintro e w3 ⟨gb, rfl, hgb, hb3⟩
  have HB3 := Lib.hid (hb2.trans (hb3.mono hb2.size))
  clear hb2 hb3
  cases gb with
  | true =>
    go_wp2_with (fail)
    go_ret
    exact ⟨rfl, HB3.out⟩
  | false =>
    have HG := Lib.hid (hgb rfl)
    clear hgb
    have HC3 := Lib.hid (HC.out.next HB3.out)
    by_cases ha0 : p < 0
    · go_wp2_with (fail)
      go_ret
      exact ⟨rfl, HB3.out⟩
    by_cases hb0 : q < 0
    · go_wp2_with (fail)
      go_ret
      exact ⟨rfl, HB3.out⟩
    by_cases hc0 : r < 0
    · go_wp2_with (fail)
      go_ret
      exact ⟨rfl, HB3.out⟩
    by_cases ha1 : 1048576 < p
    · go_wp2_with (fail)
      go_ret
      exact ⟨rfl, HB3.out⟩
    by_cases hb1 : 1048576 < q
    · go_wp2_with (fail)
      go_ret
      exact ⟨rfl, HB3.out⟩
    by_cases hc1 : 1048576 < r
    · go_wp2_with (fail)
      go_ret
      exact ⟨rfl, HB3.out⟩
    obtain ⟨pn, rfl⟩ := Int.eq_ofNat_of_zero_le (by omega : 0 ≤ p)
    obtain ⟨qn, rfl⟩ := Int.eq_ofNat_of_zero_le (by omega : 0 ≤ q)
    obtain ⟨rn, rfl⟩ := Int.eq_ofNat_of_zero_le (by omega : 0 ≤ r)
    have HPQR := Lib.hid (show pn ≤ 1048576 ∧ qn ≤ 1048576 ∧ rn ≤ 1048576 by omega)
    obtain ⟨w4, hw4⟩ : ∃ w4, w4 = w3.alloc (.cells #[.slice none 0 0, .slice none 0 0] 43) := ⟨_, rfl⟩
    have hb4 : Below w3.heap.size w3 w4 := by rw [hw4]; exact (Below.refl _ _).alloc (Nat.le_refl _) _
    have HB4 := Lib.hid (HB3.out.trans (hb4.mono HB3.out.size))
    have HW4 := Lib.hid hw4
    clear hb4 hw4
    go_wp2_with (fail)
    rw [← HW4.out]
    refine (FN.new w3.heap.size w4).mono ?_
    rintro e w5 ⟨b, T0, D0, rfl, hf, hbl, hD, hb⟩
    have HF5 := Lib.hid hf
    have HB5 := Lib.hid (HB4.out.trans (hb.mono HB4.out.size))
    have HL5 := Lib.hid (show w.heap.size ≤ b ∧ ∀ j, D0 j → w.heap.size ≤ j from ⟨Nat.le_trans HB4.out.size hbl, fun j hj => Nat.le_trans HB4.out.size (hD j hj)⟩)
    clear hf hbl hD hb
    clear ha0 hb0 hc0 ha1 hb1 hc1
    go_wp2_with (fail)
    go_loopw [11] (fun v wr => ∃ (i s : Nat) (T D : Nat → Prop) (c : Nat → Int), i ≤ n ∧ v = .int .i64 i ∧ FN wr b s T D c ∧ (∀ j, T j → w.heap.size ≤ j) ∧ (∀ j, D j → w.heap.size ≤ j) ∧ Below w.heap.size w wr) (fun v _ => n - (RowKit.intOf v).toNat)
    case atStart => exact ⟨0, 0, T0, D0, fun _ => 0, by omega, rfl, HF5.out, (fun j hj => HL5.out.2 j (HF5.out.td j hj)), HL5.out.2, HB5.out⟩
    case round =>
      obtain ⟨i, s, T, D, c0, hi, rfl, hf, hT, hD, hb⟩ := hrel
      have HF := Lib.hid hf
      have HT := Lib.hid hT
      have HD := Lib.hid hD
      have HB := Lib.hid hb
      clear hf hT hD hb
      by_cases hlt : i < n
      · rcases HC.out with h0 | ⟨b1, o1, rfl, l1, r1⟩
        · omega
        have hx := r1 i hlt
        have hfew := HG.out.2.2.2 i hlt
        have hn60 := HG.out.2.2.1
        obtain ⟨x, hxe⟩ : ∃ x, x = f i := ⟨_, rfl⟩
        rw [← hxe] at hx hfew
        have HX := Lib.hid (show ∀ w', Below w.heap.size w w' → CbIn w' b1 (o1 + i * 4) x from fun w' hb => hx.next l1 hb)
        have HFW := Lib.hid hfew
        have k0 : (0 : Int) ≤ (i : Int) := by omega
        have k1 : (i : Int) < (n : Int) := by omega
        have hx2 := HX.out _ HB.out
        have d0 := hx2.k0
        have d1 := hx2.k1
        have d2 := hx2.k2
        have d3 := hx2.k3
        clear hxe hx hx2 r1 hfew l1
        by_cases h1 : x.q = 1
        · rw [h1] at d0
          have HX1 := Lib.hid h1
          clear h1
          go_upto_region 12 with fail
          refine wp_region_held_drew (S := (fun w' => w'.cell? ⟨b1, o1 + i * 4 + 1, none⟩ = some (.int .i64 x.k) ∧ w'.cell? ⟨b1, o1 + i * 4 + 3, none⟩ = some (.slice x.a x.l x.c))) (by kernel_rfl) ⟨d1, d3⟩ (fun hHeld => ?_)
          refine wpAnyH_take (i := 0) (v := ?_) rfl (by kernel_rfl) (by kernel_rfl) (by kernel_rfl) (fun _ _ _ h => h) (Or.inl ⟨by rfl, fun w hSw => ?_⟩) (by assumption) ?_
          rotate_left
          · (try dsimp only at hSw); go_simp; try with_reducible rfl
          simp only [Act.put, List.setIfInBounds_toArray, List.set_cons_zero, List.set_cons_succ, List.getElem_toArray, List.getElem_cons_zero]
          refine wpAnyH_take (i := 1) (v := ?_) rfl (by kernel_rfl) (by kernel_rfl) (by kernel_rfl) (fun _ _ _ h => h) (Or.inl ⟨by rfl, fun w hSw => ?_⟩) (by assumption) ?_
          rotate_left
          · (try dsimp only at hSw); go_simp; try with_reducible rfl
          simp only [Act.put, List.setIfInBounds_toArray, List.set_cons_zero, List.set_cons_succ, List.getElem_toArray, List.getElem_cons_succ, List.getElem_cons_zero]
          refine wpAnyH_take (i := 2) (v := ?_) rfl (by kernel_rfl) (by kernel_rfl) (by kernel_rfl) (fun _ _ _ h => h) (Or.inl ⟨by rfl, fun w hSw => ?_⟩) (by assumption) ?_
          rotate_left
          · (try dsimp only at hSw); go_simp; try with_reducible rfl
          simp only [Act.put, List.setIfInBounds_toArray, List.set_cons_zero, List.set_cons_succ, List.getElem_toArray, List.getElem_cons_succ, List.getElem_cons_zero]
          refine wpAnyH_take (i := 3) (v := ?_) rfl (by kernel_rfl) (by kernel_rfl) (by kernel_rfl) (fun _ _ _ h => h) (Or.inl ⟨by rfl, fun w hSw => ?_⟩) (by assumption) ?_
          rotate_left
          · (try dsimp only at hSw); go_simp; try with_reducible rfl
          simp only [Act.put, List.setIfInBounds_toArray, List.set_cons_zero, List.set_cons_succ, List.getElem_toArray, List.getElem_cons_succ, List.getElem_cons_zero]
          refine wpAnyH_take (i := 4) (v := ?_) rfl (by kernel_rfl) (by kernel_rfl) (by kernel_rfl) (fun _ _ _ h => h) (Or.inl ⟨by rfl, fun w hSw => ?_⟩) (by assumption) ?_
          rotate_left
          · (try dsimp only at hSw); go_simp; try with_reducible rfl
          simp only [Act.put, List.setIfInBounds_toArray, List.set_cons_zero, List.set_cons_succ, List.getElem_toArray, List.getElem_cons_succ, List.getElem_cons_zero]
          refine wpAnyH_take (i := 5) (v := ?_) rfl (by kernel_rfl) (by kernel_rfl) (by kernel_rfl) (fun _ _ _ h => h) (Or.inl ⟨by rfl, fun w hSw => ?_⟩) (by assumption) ?_
          rotate_left
          · (try dsimp only at hSw); go_simp; try with_reducible rfl
          simp only [Act.put, List.setIfInBounds_toArray, List.set_cons_zero, List.set_cons_succ, List.getElem_toArray, List.getElem_cons_succ, List.getElem_cons_zero]
          refine wpAnyH_take (i := 6) (v := ?_) rfl (by kernel_rfl) (by kernel_rfl) (by kernel_rfl) (fun _ _ _ h => h) (Or.inl ⟨by rfl, fun w hSw => ?_⟩) (by assumption) ?_
          rotate_left
          · (try dsimp only at hSw); go_simp; try with_reducible rfl
          simp only [Act.put, List.setIfInBounds_toArray, List.set_cons_zero, List.set_cons_succ, List.getElem_toArray, List.getElem_cons_succ, List.getElem_cons_zero]
          refine wpAnyH_take (i := 7) (v := ?_) rfl (by kernel_rfl) (by kernel_rfl) (by kernel_rfl) (fun _ _ _ h => h) (Or.inl ⟨by rfl, fun w hSw => ?_⟩) (by assumption) ?_
          rotate_left
          · (try dsimp only at hSw); go_simp; try with_reducible rfl
          simp only [Act.put, List.setIfInBounds_toArray, List.set_cons_zero, List.set_cons_succ, List.getElem_toArray, List.getElem_cons_succ, List.getElem_cons_zero]
          refine wpAnyH_take (i := 8) (v := ?_) rfl (by kernel_rfl) (by kernel_rfl) (by kernel_rfl) (fun _ _ _ h => h) (Or.inl ⟨by rfl, fun w hSw => ?_⟩) (by assumption) ?_
          rotate_left
          · (try dsimp only at hSw); go_simp; try with_reducible rfl
          simp only [Act.put, List.setIfInBounds_toArray, List.set_cons_zero, List.set_cons_succ, List.getElem_toArray, List.getElem_cons_succ, List.getElem_cons_zero]
          refine wpAnyH_take (i := 9) (v := ?_) rfl (by kernel_rfl) (by kernel_rfl) (by kernel_rfl) (fun _ _ _ h => h) (Or.inl ⟨by rfl, fun w hSw => ?_⟩) (by assumption) ?_
          rotate_left
          · (try dsimp only at hSw); go_simp; try with_reducible rfl
          simp only [Act.put, List.setIfInBounds_toArray, List.set_cons_zero, List.set_cons_succ, List.getElem_toArray, List.getElem_cons_succ, List.getElem_cons_zero]
          refine wpAnyH_take (i := 10) (v := ?_) rfl (by kernel_rfl) (by kernel_rfl) (by kernel_rfl) (fun _ _ _ h => h) (Or.inl ⟨by rfl, fun w hSw => ?_⟩) (by assumption) ?_
          rotate_left
          · (try dsimp only at hSw); go_simp; try with_reducible rfl
          simp only [Act.put, List.setIfInBounds_toArray, List.set_cons_zero, List.set_cons_succ, List.getElem_toArray, List.getElem_cons_succ, List.getElem_cons_zero]
          refine wpAnyH_ready (rs := [11]) (by kernel_rfl) (by simp) ?_
          refine AllReadyH.cons rfl (fun K hK => ?_) AllReadyH.nil
          simp only [List.getElem_toArray, List.getElem_cons_succ, List.getElem_cons_zero]
          go_simp
          have hdr : Below wr.heap.size wr wr.drew := below_drewN (Below.refl _ _) 1
          have hbd := HB.out.trans (hdr.mono HB.out.size)
          refine ((HF.out.next hdr).write x.k x.a x.l x.c x.zs (HX.out _ hbd).pin (by have := HFW.out; omega)).mono ?_
          rintro e w7 ⟨rfl, hl⟩
          obtain ⟨T7, D7, hf7, hT7, hD7, hb7⟩ := hl.own hbd HL5.out.1 HT.out HD.out
          have HF7 := Lib.hid hf7
          have HT7 := Lib.hid (And.intro hT7 hD7)
          have HB7 := Lib.hid hb7
          have hx7 := HX.out _ hb7
          have e1 := hx7.k1
          have e3 := hx7.k3
          have e0 := hx7.k0
          rw [HX1.out] at e0
          obtain ⟨er, her⟩ : ∃ er : Int, er = if wrBad x.k x.l = true then 28 else 0 := ⟨_, rfl⟩
          rw [← her]
          clear hf7 hT7 hD7 hb7 hx7 hl hdr hbd her d0 d1 d2 d3
          go_wp2_with (fail)
          refine hK.out _ _ ⟨e1, e3⟩ (fun hHeld => ?_)
          clear hK K
          refine wpAnyH_done (by kernel_rfl) ?_ _
          clear hHeld e1 e3
          go_wp2_with (fail)
          go_roundw
          case rel => exact ⟨i + 1, _, T7, D7, _, by omega, by go_num, HF7.out, HT7.out.1, HT7.out.2, HB7.out⟩
          case measure => simp [RowKit.intOf]; omega
        · have q1 : (x.q == 1) = false := by simpa using h1
          by_cases h2 : x.q = 2
          · rw [h2] at d0
            clear h1 q1 h2
            go_wp2_with (fail)
            refine (HF.out.trunc x.n).mono ?_
            rintro e w7 ⟨rfl, hl⟩
            obtain ⟨T7, D7, hf7, hT7, hD7, hb7⟩ := hl.own HB.out HL5.out.1 HT.out HD.out
            have HF7 := Lib.hid hf7
            have HT7 := Lib.hid (And.intro hT7 hD7)
            have HB7 := Lib.hid hb7
            obtain ⟨er, her⟩ : ∃ er : Int, er = if trBad x.n = true then 28 else 0 := ⟨_, rfl⟩
            rw [← her]
            clear hf7 hT7 hD7 hb7 hl her d0 d1 d2 d3
            go_wp2_with (fail)
            go_roundw
            case rel => exact ⟨i + 1, _, T7, D7, _, by omega, by go_num, HF7.out, HT7.out.1, HT7.out.2, HB7.out⟩
            case measure => simp [RowKit.intOf]; omega
          · have q2 : (x.q == 2) = false := by simpa using h2
            clear h1 h2
            go_wp2_with (fail)
            go_roundw
            case rel => exact ⟨i + 1, s, T, D, c0, by omega, by go_num, HF.out, HT.out, HD.out, HB.out⟩
            case measure => simp [RowKit.intOf]; omega
      · obtain rfl : i = n := by omega
        have HS := Lib.hid HF.out.sz
        have z1 : IntKind.i64.wrap ((pn : Int) + (qn : Int)) = ((pn + qn : Nat) : Int) := by rw [IntWalk.i64_in _ (by have := HPQR.out; omega)]; omega
        have z2 : IntKind.i64.wrap ((qn : Int) + (rn : Int)) = ((qn + rn : Nat) : Int) := by rw [IntWalk.i64_in _ (by have := HPQR.out; omega)]; omega
        have HTW := Lib.hid (rdC_two c0 s pn qn rn)
        obtain ⟨n1, hn1⟩ : ∃ n1, n1 = Nat.min qn (s - pn) := ⟨_, rfl⟩
        obtain ⟨n2, hn2⟩ : ∃ n2, n2 = Nat.min rn (s - (pn + qn)) := ⟨_, rfl⟩
        obtain ⟨n3, hn3⟩ : ∃ n3, n3 = Nat.min (qn + rn) (s - pn) := ⟨_, rfl⟩
        have hn12 : n1 ≤ 46368 ∧ n2 ≤ 46368 := by
          obtain ⟨a1, a2, a3⟩ := min_le_l hn1
          obtain ⟨b1, b2, b3⟩ := min_le_l hn2
          have := HS.out
          omega
        have HN12 := Lib.hid hn12
        have HN1 := Lib.hid (And.intro hn1 (And.intro hn2 hn3))
        rw [← hn1, ← hn2, ← hn3] at HTW
        clear hn12 hn1 hn2 hn3
        go_wp2_with (fail)
        have hr1 := HF.out.read pn qn (by have := HPQR.out; omega) (by have := HPQR.out; omega)
        rw [← HN1.out.1] at hr1
        refine hr1.mono ?_
        rintro e w6 ⟨a6, m6, c6, rfl, hp6, _, hb6⟩
        obtain rfl : m6 = n1 := by have := hp6.len; rw [rdC_len] at this; omega
        have HP6 := Lib.hid hp6
        have HB6 := Lib.hid (HB.out.trans (hb6.mono HB.out.size))
        have HF6 := Lib.hid (HF.out.next hb6)
        clear hr1 hp6 hb6
        go_wp2_with (fail)
        have hr2 := HF6.out.read (pn + qn) rn (by have := HPQR.out; omega) (by have := HPQR.out; omega)
        rw [← HN1.out.2.1] at hr2
        refine hr2.mono ?_
        rintro e w7 ⟨a7, m7, c7, rfl, hp7, _, hb7⟩
        obtain rfl : m7 = n2 := by have := hp7.len; rw [rdC_len] at this; omega
        have HP7 := Lib.hid hp7
        have HP67 := Lib.hid (HP6.out.next hb7)
        have HB7 := Lib.hid (HB6.out.trans (hb7.mono HB6.out.size))
        have HF7 := Lib.hid (HF6.out.next hb7)
        clear hr2 hp7 hb7
        go_wp2_with (fail)
        have hr3 := HF7.out.read pn (qn + rn) (by have := HPQR.out; omega) (by have := HPQR.out; omega)
        rw [← HN1.out.2.2] at hr3
        refine hr3.mono ?_
        rintro e w8 ⟨a8, m8, c8, rfl, hp8, _, hb8⟩
        obtain rfl : m8 = n3 := by have := hp8.len; rw [rdC_len] at this; omega
        have HP8 := Lib.hid hp8
        have HP68 := Lib.hid (HP67.out.next hb8)
        have HP78 := Lib.hid (HP7.out.next hb8)
        have HB8 := Lib.hid (HB7.out.trans (hb8.mono HB7.out.size))
        clear hr3 hp8 hb8 z1 z2
        go_wp2_with (fail)
        refine (copy_any a6 m6 c6 _ w8 HP68.out.bys HP68.out.nil (by have := HN12.out; omega)).mono ?_
        rintro e w9 ⟨v, rfl, ho, hb9⟩
        have HO9 := Lib.hid ho
        have HP79 := Lib.hid (HP78.out.next hb9)
        have HP89 := Lib.hid (HP8.out.next hb9)
        have HB9 := Lib.hid (HB8.out.trans (hb9.mono HB8.out.size))
        have HZ9 := Lib.hid hb9.size
        have H89 := Lib.hid hb9
        clear ho hb9
        go_wp2_with (first
          | (at_builtin; go_must (refine wpList_apW (by rfl) (.tmp 132) (.tmp 133) rfl w8.heap.size v m6 (rdC c0 pn m6) rfl HO9.out a7 m7 c7 (rdC c0 (pn + qn) m7) rfl HP79.out.bys HP79.out.nil (by have := HN12.out; omega) HZ9.out w9 ((Below.refl _ _).mono HZ9.out) ?_; intro v5 w10 ho5 hb5; obtain ⟨a5, c5, rfl, hp5, _⟩ := ho5.pin; have HP5 := Lib.hid hp5; have HB10 := Lib.hid hb5; clear ho5 hp5 hb5))
          | fail)
        have hB810 := H89.out.trans HB10.out
        have HB11 := Lib.hid (HB8.out.trans (hB810.mono HB8.out.size))
        have hm := same_any a5 a8 (m6 + m7) c5 m8 c8 _ _ w10 HP5.out.bys (HP8.out.next hB810).bys (by have := HN12.out; omega)
        rw [sameB_true HTW.out] at hm
        refine hm.mono ?_
        rintro e w11 ⟨rfl, q, rfl⟩
        go_wp2_with (fail)
        go_ret
        exact ⟨rfl, HB11.out.trans (below_drewN (Below.refl w10.heap.size w10) q |>.mono HB11.out.size)⟩
end Go.Proofs.Ytegcjpocdfmpfaa
