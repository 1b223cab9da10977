/-
  The law UsageLess, walked.
-/
import Derived.Test.YtdgjhfghggcfaaaWu2
namespace Go.Proofs.Ytdgjhfghggcfaaa
open Go.RowKit Go.Maps
set_option linter.unusedVariables false

theorem Ins.front {w : World} {a : Option Addr} {n k : Nat} {ks : List Int} (h : Ins w a n ks) (hk : k ≤ n) : Ins w a k (ks.take k) := by
  refine ⟨by rw [List.length_take, h.len]; omega, ?_⟩
  rcases h.place with h0 | ⟨b, off, e, hlt, hc⟩
  · exact .inl (by omega)
  · refine .inr ⟨b, off, e, hlt, fun i hi => ?_⟩
    rw [hc i (by omega)]
    unfold num
    simp [List.getD, List.getElem?_take, hi]
theorem upN_cL (S D : Nat) (L : List Int) : upN (cL S D L) = (List.range S).countP fun s => decide (0 < cU D L s (S * D)) := by
  unfold upN cL
  rw [List.countP_map]
  refine countP_cg S fun i _ => ?_
  simp only [Function.comp]
  exact decide_eq_decide.2 (by omega)
theorem upN_front {S D : Nat} {L M : List Int} (h : ∀ a ∈ L, a ∈ M) : upN (cL S D L) ≤ upN (cL S D M) := by
  rw [upN_cL, upN_cL]
  refine List.countP_mono_left fun i _ hi => ?_
  have := cU_front (D := D) (s := i) (t := S * D) h
  simp only [decide_eq_true_eq] at hi ⊢
  omega
theorem fitP_mono {D s u u' old old' data data' more more' : Int} (hD : 1 ≤ D) (h : fitP D s u old data more = true) (hu : u' ≤ u) (o0 : 0 ≤ old') (o1 : old' ≤ old) (d0 : 0 ≤ data') (d1 : data' ≤ data) (m0 : 0 ≤ more') (m1 : more' ≤ more) : fitP D s u' old' data' more' = true := by
  obtain ⟨_, _, _, h4⟩ := of_decide_eq_true h
  have a := cei_mono (D := D) hD d1
  have b := cei_mono (D := D) hD m1
  refine decide_eq_true ⟨o0, d0, m0, ?_⟩
  omega
set_option maxRecDepth 100000 in
set_option maxHeartbeats 16000000 in
theorem less_any (d r s : Int) (a1 : Option Addr) (n1 c1 : Nat) (L : List Int) (old data more : Int) (w : World) (hL : Ins w a1 n1 L) (hwf : ∀ z ∈ L, (Lit.int .i64 z).wf = true) (hcap : n1 ≤ c1) (o1 : old ≤ 9223372036854775807) (o2 : data ≤ 9223372036854775807) (o3 : more ≤ 9223372036854775807) :
    Calls Try.prog 9 #[gv d r s, .slice a1 n1 c1, .int .i64 old, .int .i64 data, .int .i64 more] w fun e w' => e = .returned (.bool true) ∧ Below w.heap.size w w' := by
  have x1 := Bx.mk' w d r s 23
  have hb1 : Below w.heap.size w (w.alloc (.cells #[.int .i64 d, .int .i64 r, .int .i64 s] 23 (0, 0))) := (Below.refl _ _).alloc (Nat.le_refl _) _
  have HL := Lib.hid hL
  have HWF := Lib.hid hwf
  have HX1 := Lib.hid x1
  have HB1 := Lib.hid hb1
  clear hL hwf x1 hb1
  go_enter Try.func9, Try.ntmps9
  go_wp2_with (fail)
  refine (alive_any _).mono ?_
  rintro e w2 ⟨rfl, hb⟩
  have x2 := HX1.out.next hb
  have HB2 := Lib.hid (HB1.out.trans (hb.mono HB1.out.size))
  have HX2 := Lib.hid x2
  clear hb x2
  by_cases hn1 : n1 ≤ 5000
  · have hn1' : decide ((5000 : Int) < (n1 : Int)) = false := decide_eq_false (by omega)
    have y0 := HX2.out.c0
    have y1 := HX2.out.c1
    have y2 := HX2.out.c2
    have hcn := count_any d r s a1 n1 c1 L w2 (HL.out.below (Nat.le_refl _) HB2.out) (by omega) HWF.out
    go_wp2_with (fail)
    refine hcn.mono ?_
    clear hcn
    rintro e w3 ⟨l, ok, ⟨a3, c3, he, hi3, hlo3, hb⟩, hc3⟩
    have x3 := HX2.out.next hb
    have HB3 := Lib.hid (HB2.out.trans (hb.mono HB2.out.size))
    have HX3 := Lib.hid x3
    clear y0 y1 y2 x3
    by_cases hok : Rt d r s ∧ AdOk (s.toNat * (PL d r).toNat) L
    · obtain ⟨hR, hA⟩ := hok
      obtain ⟨p1, p2, _, _⟩ := PL_bd hR.d1 hR.d2 hR.r1 hR.r2
      have s1 := hR.s1
      have s2 := hR.s2
      obtain ⟨rfl, rfl⟩ := hc3.1 hR hA
      obtain ⟨S, rfl⟩ := Int.eq_ofNat_of_zero_le (show 0 ≤ s by omega)
      obtain ⟨D, hD⟩ := Int.eq_ofNat_of_zero_le (show 0 ≤ PL d r by omega)
      rw [Int.toNat_natCast, hD, Int.toNat_natCast] at hi3 hA
      have he' : e = .returned (.tuple #[.slice a3 S c3, .bool true]) := by rw [he, Int.toNat_natCast, hD, Int.toNat_natCast, cL_len]
      rw [cL_len] at hi3
      subst he'
      rw [hD] at p1 p2
      have HD := Lib.hid hD
      have HR := Lib.hid hR
      have HA := Lib.hid hA
      have HI3 := Lib.hid hi3
      have HNN : Hid (noneNeg (cL S D L)) := Lib.hid fun k hk => by
        unfold cL at hk
        obtain ⟨j, _, rfl⟩ := List.mem_map.1 hk
        omega
      clear hc3 he hb hR hA hi3 hlo3 hD
      have y0 := HX3.out.c0
      have y1 := HX3.out.c1
      have y2 := HX3.out.c2
      have hfi := fits_any d r S a3 S c3 (cL S D L) old data more w3 o1 o2 o3 HI3.out (by omega)
      go_wp2_with (fail)
      refine hfi.mono ?_
      clear hfi
      rintro e w4 ⟨⟨b, rfl, hfb⟩, hb⟩
      have HB4 := Lib.hid (HB3.out.trans (hb.mono HB3.out.size))
      have HX4 := Lib.hid (HX3.out.next hb)
      have HI4 := Lib.hid (HI3.out.next hb)
      clear hb y0 y1 y2
      cases b with
      | false =>
        clear hfb
        go_wp2_with (fail)
        go_ret
        exact ⟨rfl, HB4.out⟩
      | true =>
        have hfp := hfb.2.2 HR.out HNN.out
        rw [HD.out] at hfp
        have HFP := Lib.hid hfp.symm
        obtain ⟨k1, k2, k3, _⟩ := of_decide_eq_true hfp.symm
        have HFront : Hid (∀ X, Below w4.heap.size w4 X → Ins X a1 (n1 / 2) (L.take (n1 / 2))) := Lib.hid fun X hX => ((HL.out.below (Nat.le_refl _) HB4.out).next hX).front (by omega)
        have hA2 : AdOk (S * D) (L.take (n1 / 2)) := fun z hz => HA.out z (List.mem_of_mem_take hz)
        have HU : Hid (upN (cL S D (L.take (n1 / 2))) ≤ upN (cL S D L)) := Lib.hid (upN_front fun z hz => List.mem_of_mem_take hz)
        have HNN2 : Hid (noneNeg (cL S D (L.take (n1 / 2)))) := Lib.hid fun k hk => by
          unfold cL at hk
          obtain ⟨j, _, rfl⟩ := List.mem_map.1 hk
          omega
        have HWF2 : Hid (∀ z ∈ L.take (n1 / 2), (Lit.int .i64 z).wf = true) := Lib.hid fun z hz => HWF.out z (List.mem_of_mem_take hz)
        have hq : Int.tdiv (n1 : Int) 2 = ((n1 / 2 : Nat) : Int) := by rw [Int.tdiv_eq_ediv_of_nonneg (by omega)]; simp
        have hqc : n1 / 2 ≤ c1 := by omega
        have hq1 : ((n1 / 2 : Nat) : Int) ≤ (c1 : Int) := by omega
        obtain ⟨m, hm⟩ : ∃ m, m = n1 / 2 := ⟨_, rfl⟩
        have hmn : m ≤ n1 := by omega
        rw [← hm] at hq hqc hq1 HFront hA2 HU HNN2 HWF2
        have t1 : Int.tdiv old 2 = old / 2 := Int.tdiv_eq_ediv_of_nonneg k1
        have t2 : Int.tdiv data 2 = data / 2 := Int.tdiv_eq_ediv_of_nonneg k2
        have t3 : Int.tdiv more 2 = more / 2 := Int.tdiv_eq_ediv_of_nonneg k3
        have v1 : IntKind.i64.wrap (old / 2) = old / 2 := IntWalk.i64_in _ (by omega)
        have v2 : IntKind.i64.wrap (data / 2) = data / 2 := IntWalk.i64_in _ (by omega)
        have v3 : IntKind.i64.wrap (more / 2) = more / 2 := IntWalk.i64_in _ (by omega)
        have v4 : IntKind.i64.wrap (m : Int) = (m : Int) := IntWalk.i64_in _ (by omega)
        have HA2 := Lib.hid hA2
        have x4 := HX4.out.drew
        obtain ⟨g, hg⟩ : ∃ g, g = w.heap.size := ⟨_, rfl⟩
        rw [← hg] at x4
        clear hfb hfp hm hA2
        go_wp2_with (fail)
        rw [← hg]
        clear hg
        refine wp_region_held_drew (S := (fun w' => w'.cell? ⟨g, 0, none⟩ = some (.int .i64 d) ∧ w'.cell? ⟨g, 1, none⟩ = some (.int .i64 r) ∧ w'.cell? ⟨g, 2, none⟩ = some (.int .i64 (S : Int)))) (by kernel_rfl) ?_ (fun hHeld => ?_)
        · exact ⟨x4.c0, x4.c1, x4.c2⟩
        refine wpAnyH_take (i := 0) (v := ?_) rfl (by kernel_rfl) (by kernel_rfl) (by kernel_rfl) (fun _ _ _ h => h) (Or.inl ⟨by rfl, fun w hSw => ?_⟩) (by assumption) ?_
        rotate_left
        · (try dsimp only at hSw); go_simp; try with_reducible rfl
        simp only [Act.put, List.setIfInBounds_toArray, List.set_cons_zero, List.set_cons_succ, List.getElem_toArray, List.getElem_cons_zero]
        refine wpAnyH_take (i := 1) (v := ?_) rfl (by kernel_rfl) (by kernel_rfl) (by kernel_rfl) (fun _ _ _ h => h) (Or.inl ⟨by rfl, fun w hSw => ?_⟩) (by assumption) ?_
        rotate_left
        · (try dsimp only at hSw); go_simp; try with_reducible rfl
        simp only [Act.put, List.setIfInBounds_toArray, List.set_cons_zero, List.set_cons_succ, List.getElem_toArray, List.getElem_cons_succ, List.getElem_cons_zero]
        refine wpAnyH_take (i := 2) (v := ?_) rfl (by kernel_rfl) (by kernel_rfl) (by kernel_rfl) (fun _ _ _ h => h) (Or.inl ⟨by rfl, fun w hSw => ?_⟩) (by assumption) ?_
        rotate_left
        · (try dsimp only at hSw); go_simp; try with_reducible rfl
        simp only [Act.put, List.setIfInBounds_toArray, List.set_cons_zero, List.set_cons_succ, List.getElem_toArray, List.getElem_cons_succ, List.getElem_cons_zero]
        refine wpAnyH_take (i := 3) (v := ?_) rfl (by kernel_rfl) (by kernel_rfl) (by kernel_rfl) (fun _ _ _ h => h) (Or.inl ⟨by rfl, fun w hSw => ?_⟩) (by assumption) ?_
        rotate_left
        · (try dsimp only at hSw); go_simp; try with_reducible rfl
        simp only [Act.put, List.setIfInBounds_toArray, List.set_cons_zero, List.set_cons_succ, List.getElem_toArray, List.getElem_cons_succ, List.getElem_cons_zero]
        refine wpAnyH_take (i := 4) (v := ?_) rfl (by kernel_rfl) (by kernel_rfl) (by kernel_rfl) (fun _ _ _ h => h) (Or.inl ⟨by rfl, fun w hSw => ?_⟩) (by assumption) ?_
        rotate_left
        · (try dsimp only at hSw); go_simp; try with_reducible rfl
        simp only [Act.put, List.setIfInBounds_toArray, List.set_cons_zero, List.set_cons_succ, List.getElem_toArray, List.getElem_cons_succ, List.getElem_cons_zero]
        refine wpAnyH_take (i := 5) (v := ?_) rfl (by kernel_rfl) (by kernel_rfl) (by kernel_rfl) (fun _ _ _ h => h) (Or.inl ⟨by rfl, fun w hSw => ?_⟩) (by assumption) ?_
        rotate_left
        · (try dsimp only at hSw); go_simp; try with_reducible rfl
        simp only [Act.put, List.setIfInBounds_toArray, List.set_cons_zero, List.set_cons_succ, List.getElem_toArray, List.getElem_cons_succ, List.getElem_cons_zero]
        refine wpAnyH_ready (rs := [6]) (by kernel_rfl) (by simp) ?_
        refine AllReadyH.cons rfl (fun K hK => ?_) AllReadyH.nil
        simp only [List.getElem_toArray, List.getElem_cons_succ, List.getElem_cons_zero]
        go_simp
        refine (count_any d r S a1 m c1 (L.take m) _ (HFront.out _ ((Below.refl _ _).drew)) (by omega) HWF2.out).mono ?_
        rintro e w5 ⟨l, ok, ⟨a5, c5, he, hi5, _, hb⟩, hc5⟩
        have hAA : AdOk ((S : Int).toNat * (PL d r).toNat) (L.take m) := by rw [Int.toNat_natCast, HD.out, Int.toNat_natCast]; exact HA2.out
        obtain ⟨rfl, rfl⟩ := hc5.1 HR.out hAA
        rw [Int.toNat_natCast, HD.out, Int.toNat_natCast, cL_len] at hi5
        have he' : e = .returned (.tuple #[.slice a5 S c5, .bool true]) := by rw [he, Int.toNat_natCast, HD.out, Int.toNat_natCast, cL_len]
        subst he'
        have HB5 := Lib.hid (HB4.out.drew.trans (hb.mono HB4.out.size))
        have x5 := x4.next hb
        have HX5 := Lib.hid x5
        have HI4b := Lib.hid (HI4.out.drew.next hb)
        have HI5 := Lib.hid hi5
        clear he hi5 hc5 hAA hb x4
        go_wp2_with (fail)
        refine hK.out _ _ ⟨x5.c0, x5.c1, x5.c2⟩ (fun hHeld => ?_)
        clear hK K
        refine wpAnyH_take (i := 7) (v := ?_) rfl (by kernel_rfl) (by kernel_rfl) (by kernel_rfl) (fun _ _ _ h => h) (Or.inl ⟨by rfl, fun w hSw => ?_⟩) (by assumption) ?_
        rotate_left
        · (try dsimp only at hSw); go_simp; try with_reducible rfl
        simp only [Act.put, List.setIfInBounds_toArray, List.set_cons_zero, List.set_cons_succ, List.getElem_toArray, List.getElem_cons_succ, List.getElem_cons_zero]
        refine wpAnyH_take (i := 8) (v := ?_) rfl (by kernel_rfl) (by kernel_rfl) (by kernel_rfl) (fun _ _ _ h => h) (Or.inl ⟨by rfl, fun w hSw => ?_⟩) (by assumption) ?_
        rotate_left
        · (try dsimp only at hSw); go_simp; try with_reducible rfl
        simp only [Act.put, List.setIfInBounds_toArray, List.set_cons_zero, List.set_cons_succ, List.getElem_toArray, List.getElem_cons_succ, List.getElem_cons_zero]
        refine wpAnyH_take (i := 9) (v := ?_) rfl (by kernel_rfl) (by kernel_rfl) (by kernel_rfl) (fun _ _ _ h => h) (Or.inl ⟨by rfl, fun w hSw => ?_⟩) (by assumption) ?_
        rotate_left
        · (try dsimp only at hSw); go_simp; try with_reducible rfl
        simp only [Act.put, List.setIfInBounds_toArray, List.set_cons_zero, List.set_cons_succ, List.getElem_toArray, List.getElem_cons_succ, List.getElem_cons_zero]
        refine wpAnyH_take (i := 10) (v := ?_) rfl (by kernel_rfl) (by kernel_rfl) (by kernel_rfl) (fun _ _ _ h => h) (Or.inl ⟨by rfl, fun w hSw => ?_⟩) (by assumption) ?_
        rotate_left
        · (try dsimp only at hSw); go_simp; try with_reducible rfl
        simp only [Act.put, List.setIfInBounds_toArray, List.set_cons_zero, List.set_cons_succ, List.getElem_toArray, List.getElem_cons_succ, List.getElem_cons_zero]
        refine wpAnyH_take (i := 11) (v := ?_) rfl (by kernel_rfl) (by kernel_rfl) (by kernel_rfl) (fun _ _ _ h => h) (Or.inl ⟨by rfl, fun w hSw => ?_⟩) (by assumption) ?_
        rotate_left
        · (try dsimp only at hSw); go_simp; try with_reducible rfl
        simp only [Act.put, List.setIfInBounds_toArray, List.set_cons_zero, List.set_cons_succ, List.getElem_toArray, List.getElem_cons_succ, List.getElem_cons_zero]
        refine wpAnyH_done (by kernel_rfl) ?_ _
        have y0 := x5.c0
        have y1 := x5.c1
        have y2 := x5.c2
        have hfi := fits_any d r S a5 S c5 (cL S D (L.take m)) (old / 2) data more w5 (by omega) o2 o3 HI5.out (by omega)
        clear x5
        go_wp2_with (fail)
        refine hfi.mono ?_
        clear hfi
        rintro e w6 ⟨⟨b6, rfl, hf6⟩, hb⟩
        have hbt : b6 = true := by
          rw [hf6.2.2 HR.out HNN2.out, HD.out]
          exact fitP_mono p1 HFP.out (by have := HU.out; omega) (by omega) (by omega) k2 (Int.le_refl _) k3 (Int.le_refl _)
        subst hbt
        have HB6 := Lib.hid (HB5.out.trans (hb.mono HB5.out.size))
        have x6 := HX5.out.next hb
        have HX6 := Lib.hid x6
        have HI6 := Lib.hid (HI4b.out.next hb)
        clear hf6 hb y0 y1 y2
        have y0 := x6.c0
        have y1 := x6.c1
        have y2 := x6.c2
        have hfi := fits_any d r S a3 S c3 (cL S D L) old (data / 2) more w6 o1 (by omega) o3 HI6.out (by omega)
        clear x6
        go_wp2_with (fail)
        refine hfi.mono ?_
        clear hfi
        rintro e w7 ⟨⟨b7, rfl, hf7⟩, hb⟩
        have hbt : b7 = true := by
          rw [hf7.2.2 HR.out HNN.out, HD.out]
          exact fitP_mono p1 HFP.out (Int.le_refl _) k1 (Int.le_refl _) (by omega) (by omega) k3 (Int.le_refl _)
        subst hbt
        have HB7 := Lib.hid (HB6.out.trans (hb.mono HB6.out.size))
        have x7 := HX6.out.next hb
        have HI7 := Lib.hid (HI6.out.next hb)
        clear hf7 hb y0 y1 y2
        have y0 := x7.c0
        have y1 := x7.c1
        have y2 := x7.c2
        have hfi := fits_any d r S a3 S c3 (cL S D L) old data (more / 2) w7 o1 o2 (by omega) HI7.out (by omega)
        clear x7
        go_wp2_with (fail)
        refine hfi.mono ?_
        clear hfi
        rintro e w8 ⟨⟨b8, rfl, hf8⟩, hb⟩
        have hbt : b8 = true := by
          rw [hf8.2.2 HR.out HNN.out, HD.out]
          exact fitP_mono p1 HFP.out (Int.le_refl _) k1 (Int.le_refl _) k2 (Int.le_refl _) (by omega) (by omega)
        subst hbt
        have HB8 := Lib.hid (HB7.out.trans (hb.mono HB7.out.size))
        clear hf8 hb
        go_wp2_with (fail)
        go_ret
        exact ⟨rfl, HB8.out⟩
    · obtain ⟨rfl, rfl⟩ := hc3.2 hok
      have he' : e = .returned (.tuple #[.slice a3 0 c3, .bool false]) := he
      subst he'
      clear hok he hi3 hlo3 hb hc3
      go_wp2_with (fail)
      go_ret
      exact ⟨rfl, HB3.out⟩
  · have hn1' : decide ((5000 : Int) < (n1 : Int)) = true := decide_eq_true (by omega)
    go_wp2_with (fail)
    go_ret
    exact ⟨rfl, HB2.out⟩
end Go.Proofs.Ytdgjhfghggcfaaa
