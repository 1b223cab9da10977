/-
  The laws' 'alive', by contract.
-/
import Derived.Test.YtegmeoghonolcaaGreatGsa
import Derived.Test.YtegmeoghonolcaaGreatSuc
set_option linter.unusedSimpArgs false
set_option linter.unusedVariables false
namespace Go.Proofs.YtegmeoghonolcaaGreat
open Go.RowKit
set_option linter.unusedVariables false

theorem small8_any (w : World) : Calls Tryz.prog 9 #[] w fun e w' => e = .returned (gv 3 3 12) ∧ Below w.heap.size w w' := by
  go_enter Tryz.func9, Tryz.ntmps9
  go_wp2_with (fail)
  exact bodyPost_ret (v := gv 3 3 12) (by simp [results, Tryz.results9, go_sem]) rfl ⟨rfl, (Below.refl _ _).alloc (Nat.le_refl _) _⟩
theorem rt_small8 : Rt 3 3 12 := ⟨⟨by omega, by omega, by omega, by omega, by omega, by omega⟩, by decide⟩
theorem pl_small : PL 3 3 = 5 := by decide
theorem sum_alive : SumR 3 3 12 1 0 2 9 := ⟨rt_small8, by omega, by omega, by omega, by omega, by omega, by rw [pl_small]; omega, by unfold rootO; rw [if_pos (by omega), pl_small]; rfl⟩
theorem ins_two (w : World) (x y : Int) : Ins (w.alloc (.cells #[.int .i64 x, .int .i64 y] 3 (0, 0))) (some ⟨w.heap.size, 0, none⟩) 2 [x, y] :=
  ⟨rfl, .inr ⟨_, 0, rfl, by simp, fun i hi => by
    rcases (by omega : i = 0 ∨ i = 1) with rfl | rfl <;> simp [num]⟩⟩
/-- The two infos of 'alive'. -/
def lA : List Inf := [⟨5, 8, 2, 1, 0, 3⟩, ⟨2, 7, 2, 0, 0, 0⟩]
def kA : Kb := ⟨7, 2, [⟨2, 7, 2, 0, 0, 0⟩, ⟨5, 8, 2, 1, 0, 3⟩]⟩
theorem groups_alive {G : List Gr} (h : GroupsOf lA G) : G = [⟨7, 3, [2, 5]⟩] := by
  have hf : ∀ k ∈ [kA], k.Fine := fun k hk => by
    rw [List.mem_singleton.1 hk]
    refine ⟨fun x hx => ?_, .inl ⟨by simp [kA], rfl, ?_⟩⟩
    · simp only [kA, List.mem_cons, List.not_mem_nil, or_false] at hx
      rcases hx with rfl | rfl <;> rfl
    · intro j x hx
      match j with
      | 0 => simp [kA] at hx; subst hx; rfl
      | 1 => simp [kA] at hx; subst hx; rfl
      | j + 2 => simp [kA] at hx
  have h2 := groups_flat hf (by simp)
  have hp : lA.Perm (flatB [kA]) := by
    show [_, _].Perm [_, _]
    exact List.Perm.swap _ _ _
  have e := h.uniq h2 hp
  rw [e]
  rfl
theorem lA_w : AllW lA := fun x hx => by
  simp only [lA, List.mem_cons, List.not_mem_nil, or_false] at hx
  rcases hx with rfl | rfl <;> exact ⟨by decide, by decide⟩

set_option maxRecDepth 100000 in
set_option maxHeartbeats 8000000 in
theorem alive_any (w : World) : Calls Tryz.prog 5 #[] w fun e w' => e = .returned (.bool true) ∧ Below w.heap.size w w' := by
  obtain ⟨X, hX⟩ : ∃ X, X = w.alloc (.cells #[.int .i64 5, .int .i64 8, .int .i64 2, .int .i64 1, .int .i64 0, .int .i64 3, .int .i64 2, .int .i64 7, .int .i64 2, .int .i64 0, .int .i64 0, .int .i64 0] 59 (0, 0)) := ⟨_, rfl⟩
  have hB : Below w.heap.size w X := by rw [hX]; exact (Below.refl _ _).alloc (Nat.le_refl _) _
  have hif : Ifs X (some ⟨w.heap.size, 0, none⟩) 2 lA := by
    refine ⟨rfl, .inr ⟨_, 0, rfl, by rw [hX]; simp, fun k j x v hk hj => ?_⟩⟩
    have hr : X.heap[w.heap.size]? = some (.cells #[.int .i64 5, .int .i64 8, .int .i64 2, .int .i64 1, .int .i64 0, .int .i64 3, .int .i64 2, .int .i64 7, .int .i64 2, .int .i64 0, .int .i64 0, .int .i64 0] 59 (0, 0)) := by rw [hX]; exact (MapKept.heap_alloc _ _).1
    rw [cell_of_row X _ _ _ _ (0, 0) hr]
    match k with
    | 0 => simp [lA] at hk; subst hk; match j with
      | 0 | 1 | 2 | 3 | 4 | 5 => simpa [ifc] using hj
      | j + 6 => simp [ifc] at hj
    | 1 => simp [lA] at hk; subst hk; match j with
      | 0 | 1 | 2 | 3 | 4 | 5 => simpa [ifc] using hj
      | j + 6 => simp [ifc] at hj
    | k + 2 => simp [lA] at hk
  have hgs := groups_any (some ⟨w.heap.size, 0, none⟩) 2 2 lA X hif lA_w (by omega)
  have HG := Lib.hid hgs
  have HB := Lib.hid hB
  clear hif hgs hB
  go_enter Tryz.func5, Tryz.ntmps5
  go_wp2_with (fail)
  rw [← hX]
  clear hX
  refine HG.out.mono ?_
  rintro e w1 ⟨v, n, F, rfl, hog, hgo, _, hb1⟩
  have hF := groups_alive hgo
  obtain ⟨a, c, rfl, hgr, _, _, _⟩ := hog.grs
  -- the one group
  have hFl : F.length = 1 := by have := congrArg List.length hF; simpa using this
  obtain rfl : n = 1 := by rw [← hgr.len, hFl]
  obtain ⟨gb, go, q, r, ga, m, gc, s, rfl, gl, e0, c0, c1, c2, hin⟩ := hgr.at (k := 0) (by omega)
  have hq : (⟨q, r, s⟩ : Gr) = ⟨7, 3, [2, 5]⟩ := by
    have : (F.map Gc.gr)[0]? = some ⟨q, r, s⟩ := by rw [List.getElem?_map, e0]; rfl
    rw [hF] at this
    exact (Option.some.inj this).symm
  cases hq
  obtain rfl : m = 2 := by rw [← hin.len]; rfl
  simp only [Nat.zero_mul, Nat.add_zero] at c0 c1 c2
  have HB1 := Lib.hid (HB.out.trans (hb1.mono HB.out.size))
  have HV := Lib.hid (And.intro gl (And.intro c0 (And.intro c1 (And.intro c2 hin))))
  clear hog hgo hF hgr hFl e0 c0 c1 c2 hin gl hb1 HG HB
  go_wp2_with (fail)
  refine (small8_any w1).mono ?_
  rintro e w2 ⟨rfl, hb2⟩
  have hps := putSum_any 3 3 12 1 0 2 9 w2
  rw [sumO_yes sum_alive] at hps
  unfold umv at hps
  have HPS := Lib.hid hps
  have HB2 := Lib.hid (HB1.out.trans (hb2.mono HB1.out.size))
  have HV2 := Lib.hid hb2
  clear hps hb2
  go_wp2_with (fail)
  refine HPS.out.mono ?_
  rintro e w3 ⟨p, rfl, hp, hpl, hb3⟩
  have HB3 := Lib.hid (HB2.out.trans (hb3.mono HB2.out.size))
  have h13 := HV2.out.trans (hb3.mono HV2.out.size)
  clear HPS
  go_wp2_with (fail)
  obtain ⟨Y, hY⟩ : ∃ Y, Y = w3.alloc (.cells #[.int .i64 65535, .int .i64 0, .slice (some ⟨p, 0, none⟩) 56 56] 65 (0, 0)) := ⟨_, rfl⟩
  obtain ⟨yb, hyb⟩ : ∃ yb, yb = w3.heap.size := ⟨_, rfl⟩
  have hg := Gx.mk' w3 65535 0 (.slice (some ⟨p, 0, none⟩) 56 56) 65
  rw [← hY, ← hyb] at hg
  have hbY : Below w3.heap.size w3 Y := by rw [hY]; exact (Below.refl _ _).alloc (Nat.le_refl _) _
  have hpy : Pin Y (some ⟨p, 0, none⟩) 56 56 (sumL 1 0 2 9) := (hp.pin (sumL_small _ _ _ _) (sumL_len _ _ _ _) (Nat.le_refl _) (by omega)).next hbY
  have H1Y := Lib.hid (h13.trans (hbY.mono (Nat.le_trans h13.size (Nat.le_refl _))))
  have HBY := Lib.hid (HB3.out.trans (hbY.mono HB3.out.size))
  have HGX := Lib.hid hg
  have HPY := Lib.hid hpy
  rw [← hY, ← hyb]
  clear hY hyb hg hbY hpy h13 hb3 hp hpl HB2 HB3 HV2 HB1
  have hgO : gsO 3 3 12 65535 0 56 (sumL 1 0 2 9) = true := gsO_put sum_alive
  have htv : tv 56 (sumL 1 0 2 9) 1 = 1 ∧ tv 56 (sumL 1 0 2 9) 2 = 0 ∧ tv 56 (sumL 1 0 2 9) 3 = 2 ∧ tv 56 (sumL 1 0 2 9) 4 = 9 := tv_sum (by omega) (by omega) (by omega) (by omega)
  have hget : ∀ W, Below Y.heap.size Y W → Calls Tryz.prog 25 #[gv 3 3 12, .agg #[.int .i64 65535, .int .i64 0, .slice (some ⟨p, 0, none⟩) 56 56]] W fun e w' => e = .returned (.tuple #[.agg #[.int .i64 1, .int .i64 0, .int .i64 2, .int .i64 9], .bool true]) ∧ Below W.heap.size W w' := fun W hb => by
    have := getSum_any 3 3 12 65535 0 (some ⟨p, 0, none⟩) 56 56 (sumL 1 0 2 9) W (HPY.out.next hb).bys (by omega)
    rw [hgO, htv.1, htv.2.1, htv.2.2.1, htv.2.2.2] at this
    exact this
  have HGET := Lib.hid hget
  clear hget htv hgO
  refine wp_region_held_drew (S := (fun w' => w'.cell? ⟨yb, 0, none⟩ = some (.int .i64 65535) ∧ w'.cell? ⟨yb, 1, none⟩ = some (.int .i64 0) ∧ w'.cell? ⟨yb, 2, none⟩ = some (.slice (some ⟨p, 0, none⟩) 56 56))) (by kernel_rfl) ?_ (fun hHeld => ?_)
  · exact ⟨HGX.out.c0, HGX.out.c1, HGX.out.c2⟩
  have HBd : Hid (Below Y.heap.size Y Y.drew) := below_drewN (Below.refl _ _) 1
  generalize hY1 : Y.drew = Y1 at *
  clear hY1
  refine rgY 1 ?_ rfl (by kernel_rfl) (fun _ _ _ h => h) (.inl ⟨by rfl, fun w hSw => ?_⟩) (by assumption) ?_
  rotate_left
  · (try dsimp only at hSw); go_simp; try with_reducible rfl
  simp only [Act.put, rg1, rg2, rg3, rg4, rg5, rg6]
  refine wpAnyH_ready (rs := [0, 6]) (by kernel_rfl) (by simp) ?_
  refine AllReadyH.cons rfl (fun K hK => ?_) (AllReadyH.cons rfl (fun K hK => ?_) AllReadyH.nil)
  · simp only [List.getElem_toArray, List.getElem_cons_succ, List.getElem_cons_zero]
    go_simp
    refine (small8_any _).mono ?_
    rintro e w4 ⟨rfl, hb4⟩
    have HB4 := Lib.hid (HBd.out.trans (hb4.mono HBd.out.size))
    have hg4 := HGX.out.next HB4.out
    clear hb4
    go_wp2_with (fail)
    refine hK.out _ _ ⟨hg4.c0, hg4.c1, hg4.c2⟩ (fun hHeld => ?_)
    clear hK K hg4
    refine wpAnyH_ready (rs := [2, 6]) (by kernel_rfl) (by simp) ?_
    refine AllReadyH.cons rfl (fun K hK => ?_) (AllReadyH.cons rfl (fun K hK => ?_) AllReadyH.nil)
    · simp only [List.getElem_toArray, List.getElem_cons_succ, List.getElem_cons_zero]
      go_simp
      refine (HGET.out _ HB4.out).mono ?_
      rintro e w5 ⟨rfl, hb5⟩
      have HB5 := Lib.hid (HB4.out.trans (hb5.mono HB4.out.size))
      have hg5 := HGX.out.next HB5.out
      clear hb5
      go_wp2_with (fail)
      refine hK.out _ _ ⟨hg5.c0, hg5.c1, hg5.c2⟩ (fun hHeld => ?_)
      clear hK K
      refine rgY 3 ?_ rfl (by kernel_rfl) (fun _ _ _ h => h) (.inl ⟨by rfl, fun w hSw => ?_⟩) (by assumption) ?_
      rotate_left
      · (try dsimp only at hSw); go_simp; try with_reducible rfl
      simp only [Act.put, rg1, rg2, rg3, rg4, rg5, rg6]
      refine rgY 4 ?_ rfl (by kernel_rfl) (fun _ _ _ h => h) (.inl ⟨by rfl, fun w hSw => ?_⟩) (by assumption) ?_
      rotate_left
      · (try dsimp only at hSw); go_simp; try with_reducible rfl
      simp only [Act.put, rg1, rg2, rg3, rg4, rg5, rg6]
      refine rgY 5 ?_ rfl (by kernel_rfl) (fun _ _ _ h => h) (.inl ⟨by rfl, fun w hSw => ?_⟩) (by assumption) ?_
      rotate_left
      · (try dsimp only at hSw); go_simp; try with_reducible rfl
      simp only [Act.put, rg1, rg2, rg3, rg4, rg5, rg6]
      refine wpAnyH_ready (rs := [6]) (by kernel_rfl) (by simp) ?_
      refine AllReadyH.cons rfl (fun K hK => ?_) AllReadyH.nil
      simp only [List.getElem_toArray, List.getElem_cons_succ, List.getElem_cons_zero]
      go_simp
      have hg6 := hg5.next ((Below.refl _ _).alloc (Nat.le_refl _) (.cells #[.int .i64 0, .int .i64 0, .int .i64 0, .int .i64 0] 57 (0, 0)))
      refine hK.out _ _ ⟨hg6.c0, hg6.c1, hg6.c2⟩ (fun hHeld => ?_)
      clear hK K hg6
      refine wpAnyH_ready (rs := [7]) (by kernel_rfl) (by simp) ?_
      refine AllReadyH.cons rfl (fun K hK => ?_) AllReadyH.nil
      simp only [List.getElem_toArray, List.getElem_cons_succ, List.getElem_cons_zero]
      go_simp
      have hg7 := hg5.next ((Below.refl _ _).alloc (Nat.le_refl _) (.cells #[.int .i64 1, .int .i64 0, .int .i64 2, .int .i64 9] 57 (0, 0)))
      refine hK.out _ _ ⟨hg7.c0, hg7.c1, hg7.c2⟩ (fun hHeld => ?_)
      clear hK K hg7 hg5
      refine rgY 8 ?_ rfl (by kernel_rfl) (fun _ _ _ h => h) (.inl ⟨by rfl, fun w hSw => ?_⟩) (by assumption) ?_
      rotate_left
      · (try dsimp only at hSw); go_simp; try with_reducible rfl
      simp only [Act.put, rg1, rg2, rg3, rg4, rg5, rg6]
      obtain ⟨Z, hZ⟩ : ∃ Z, Z = w5.alloc (.cells #[.int .i64 1, .int .i64 0, .int .i64 2, .int .i64 9] 57 (0, 0)) := ⟨_, rfl⟩
      obtain ⟨tb, htb⟩ : ∃ tb, tb = w5.heap.size := ⟨_, rfl⟩
      have hm := M4.mk' w5 1 0 2 9 57
      have hbz : Below Y.heap.size Y Z := by rw [hZ]; exact HB5.out.alloc HB5.out.size _
      rw [← hZ, ← htb] at hm ⊢
      clear hZ htb
      have hz1 := H1Y.out.trans (hbz.mono H1Y.out.size)
      have hzw := HBY.out.trans (hbz.mono HBY.out.size)
      have k0 := (hz1.cell (p := ⟨gb, go, none⟩) HV.out.1).trans HV.out.2.1
      have k1 := (hz1.cell (p := ⟨gb, go + 1, none⟩) HV.out.1).trans HV.out.2.2.1
      have k2 := (hz1.cell (p := ⟨gb, go + 2, none⟩) HV.out.1).trans HV.out.2.2.2.1
      have kl : gb < Z.heap.size := Nat.lt_of_lt_of_le HV.out.1 hz1.size
      have hal : Below Z.heap.size Z (Z.alloc (.cells #[.int .i64 2, .int .i64 5] 3 (0, 0))) := (Below.refl _ _).alloc (Nat.le_refl _) _
      have hsi := sameInts_yes ga (some ⟨Z.heap.size, 0, none⟩) 2 gc 2 [2, 5] (Z.alloc (.cells #[.int .i64 2, .int .i64 5] 3 (0, 0))) ((HV.out.2.2.2.2.next hz1).next hal) (ins_two Z 2 5) (by omega)
      have HSI := Lib.hid hsi
      have HM9 := Lib.hid (hm.next hal)
      have HZ9 := Lib.hid (hzw.trans (hal.mono hzw.size))
      clear hsi hm hz1 hzw hbz hal
      refine wpAnyH_done (by kernel_rfl) ?_ _
      clear hHeld
      go_wp2_with (fail)
      refine HSI.out.mono ?_
      rintro e w9 ⟨rfl, hb9⟩
      have hm9 := HM9.out.next hb9
      have m0 := hm9.c0
      have m1 := hm9.c1
      have m2 := hm9.c2
      have m3 := hm9.c3
      have HB9 := Lib.hid (HZ9.out.trans (hb9.mono HZ9.out.size))
      clear hb9 hm9 HSI k0 k1 k2 kl
      go_wp2_with (fail)
      go_ret
      exact ⟨rfl, HB9.out⟩
    · simp only [List.getElem_toArray, List.getElem_cons_succ, List.getElem_cons_zero]
      go_simp
      obtain ⟨tb, htb⟩ : ∃ tb, tb = w4.heap.size := ⟨_, rfl⟩
      obtain ⟨w4a, hw4a⟩ : ∃ w4a, w4a = w4.alloc (.cells #[.int .i64 0, .int .i64 0, .int .i64 0, .int .i64 0] 57 (0, 0)) := ⟨_, rfl⟩
      have hm4 : M4 w4a tb 0 0 0 0 := by rw [hw4a, htb]; exact M4.mk' _ _ _ _ _ _
      have hb4a : Below Y.heap.size Y w4a := by rw [hw4a]; exact HB4.out.alloc HB4.out.size _
      have htl : Y.heap.size ≤ tb := by rw [htb]; exact HB4.out.size
      have hg4 := HGX.out.next hb4a
      rw [← hw4a, ← htb]
      clear hw4a htb
      refine hK.out _ _ ⟨hg4.c0, hg4.c1, hg4.c2⟩ (fun hHeld => ?_)
      clear hK K hg4
      refine wpAnyH_ready (rs := [2]) (by kernel_rfl) (by simp) ?_
      refine AllReadyH.cons rfl (fun K hK => ?_) AllReadyH.nil
      simp only [List.getElem_toArray, List.getElem_cons_succ, List.getElem_cons_zero]
      go_simp
      refine (HGET.out _ hb4a).mono ?_
      rintro e w5 ⟨rfl, hb5⟩
      have HB5 := Lib.hid (hb4a.trans (hb5.mono hb4a.size))
      have hg5 := HGX.out.next HB5.out
      have hm5 := hm4.next hb5
      clear hb5 hm4 hb4a
      go_wp2_with (fail)
      refine hK.out _ _ ⟨hg5.c0, hg5.c1, hg5.c2⟩ (fun hHeld => ?_)
      clear hK K
      refine rgY 3 ?_ rfl (by kernel_rfl) (fun _ _ _ h => h) (.inl ⟨by rfl, fun w hSw => ?_⟩) (by assumption) ?_
      rotate_left
      · (try dsimp only at hSw); go_simp; try with_reducible rfl
      simp only [Act.put, rg1, rg2, rg3, rg4, rg5, rg6]
      refine rgY 4 ?_ rfl (by kernel_rfl) (fun _ _ _ h => h) (.inl ⟨by rfl, fun w hSw => ?_⟩) (by assumption) ?_
      rotate_left
      · (try dsimp only at hSw); go_simp; try with_reducible rfl
      simp only [Act.put, rg1, rg2, rg3, rg4, rg5, rg6]
      refine rgY 5 ?_ rfl (by kernel_rfl) (fun _ _ _ h => h) (.inl ⟨by rfl, fun w hSw => ?_⟩) (by assumption) ?_
      rotate_left
      · (try dsimp only at hSw); go_simp; try with_reducible rfl
      simp only [Act.put, rg1, rg2, rg3, rg4, rg5, rg6]
      have HM5 := Lib.hid hm5
      have HTB : Hid (Y.heap.size ≤ tb) := htl
      have r0 := hm5.c0
      have r1 := hm5.c1
      have r2 := hm5.c2
      have r3 := hm5.c3
      have q0 := hm5.f0
      have q1 := hm5.f1
      have q2 := hm5.f2
      have q3 := hm5.f3
      have htne : yb ≠ tb := by have := HGX.out.lt; omega
      have hg7 : Gx (set4 w5 tb 1 0 2 9) yb 65535 0 (.slice (some ⟨p, 0, none⟩) 56 56) := by
        have hne : ∀ j k : Nat, (⟨tb, j, none⟩ : Addr) ≠ ⟨yb, k, none⟩ := fun j k e => htne (congrArg Addr.block e).symm
        refine ⟨by simpa [set4] using hg5.lt, ?_, ?_, ?_, by simpa [set4] using hg5.f0, by simpa [set4] using hg5.f1, by simpa [set4] using hg5.f2⟩
        · rw [set4, set_othG (hne _ _), set_othG (hne _ _), set_othG (hne _ _), set_othG (hne _ _)]; exact hg5.c0
        · rw [set4, set_othG (hne _ _), set_othG (hne _ _), set_othG (hne _ _), set_othG (hne _ _)]; exact hg5.c1
        · rw [set4, set_othG (hne _ _), set_othG (hne _ _), set_othG (hne _ _), set_othG (hne _ _)]; exact hg5.c2
      clear hm5 htl htne
      refine wpAnyH_ready (rs := [7]) (by kernel_rfl) (by simp) ?_
      refine AllReadyH.cons rfl (fun K hK => ?_) AllReadyH.nil
      simp only [List.getElem_toArray, List.getElem_cons_succ, List.getElem_cons_zero]
      go_simp
      refine hK.out _ _ ⟨hg7.c0, hg7.c1, hg7.c2⟩ (fun hHeld => ?_)
      clear hK K hg7 hg5 r0 r1 r2 r3 q0 q1 q2 q3
      refine rgY 8 ?_ rfl (by kernel_rfl) (fun _ _ _ h => h) (.inl ⟨by rfl, fun w hSw => ?_⟩) (by assumption) ?_
      rotate_left
      · (try dsimp only at hSw); go_simp; try with_reducible rfl
      simp only [Act.put, rg1, rg2, rg3, rg4, rg5, rg6]
      obtain ⟨Z, hZ⟩ : ∃ Z, Z = (((w5.setCell ⟨tb, 0, none⟩ (.int .i64 1)).setCell ⟨tb, 1, none⟩ (.int .i64 0)).setCell ⟨tb, 2, none⟩ (.int .i64 2)).setCell ⟨tb, 3, none⟩ (.int .i64 9) := ⟨_, rfl⟩
      have hm : M4 Z tb 1 0 2 9 := by rw [hZ]; exact HM5.out.set 1 0 2 9
      have hbz : Below Y.heap.size Y Z := by rw [hZ]; exact HB5.out.set4 HTB.out
      rw [← hZ]
      clear hZ
      have hz1 := H1Y.out.trans (hbz.mono H1Y.out.size)
      have hzw := HBY.out.trans (hbz.mono HBY.out.size)
      have k0 := (hz1.cell (p := ⟨gb, go, none⟩) HV.out.1).trans HV.out.2.1
      have k1 := (hz1.cell (p := ⟨gb, go + 1, none⟩) HV.out.1).trans HV.out.2.2.1
      have k2 := (hz1.cell (p := ⟨gb, go + 2, none⟩) HV.out.1).trans HV.out.2.2.2.1
      have kl : gb < Z.heap.size := Nat.lt_of_lt_of_le HV.out.1 hz1.size
      have hal : Below Z.heap.size Z (Z.alloc (.cells #[.int .i64 2, .int .i64 5] 3 (0, 0))) := (Below.refl _ _).alloc (Nat.le_refl _) _
      have hsi := sameInts_yes ga (some ⟨Z.heap.size, 0, none⟩) 2 gc 2 [2, 5] (Z.alloc (.cells #[.int .i64 2, .int .i64 5] 3 (0, 0))) ((HV.out.2.2.2.2.next hz1).next hal) (ins_two Z 2 5) (by omega)
      have HSI := Lib.hid hsi
      have HM9 := Lib.hid (hm.next hal)
      have HZ9 := Lib.hid (hzw.trans (hal.mono hzw.size))
      clear hsi hm hz1 hzw hbz hal
      refine wpAnyH_done (by kernel_rfl) ?_ _
      clear hHeld
      go_wp2_with (fail)
      refine HSI.out.mono ?_
      rintro e w9 ⟨rfl, hb9⟩
      have hm9 := HM9.out.next hb9
      have m0 := hm9.c0
      have m1 := hm9.c1
      have m2 := hm9.c2
      have m3 := hm9.c3
      have HB9 := Lib.hid (HZ9.out.trans (hb9.mono HZ9.out.size))
      clear hb9 hm9 HSI k0 k1 k2 kl
      go_wp2_with (fail)
      go_ret
      exact ⟨rfl, HB9.out⟩
  · simp only [List.getElem_toArray, List.getElem_cons_succ, List.getElem_cons_zero]
    go_simp
    obtain ⟨tb, htb⟩ : ∃ tb, tb = Y1.heap.size := ⟨_, rfl⟩
    obtain ⟨w3a, hw3a⟩ : ∃ w3a, w3a = Y1.alloc (.cells #[.int .i64 0, .int .i64 0, .int .i64 0, .int .i64 0] 57 (0, 0)) := ⟨_, rfl⟩
    have hm3 : M4 w3a tb 0 0 0 0 := by rw [hw3a, htb]; exact M4.mk' _ _ _ _ _ _
    have hb3a : Below Y.heap.size Y w3a := by rw [hw3a]; exact HBd.out.alloc HBd.out.size _
    have htl : Y.heap.size ≤ tb := by rw [htb]; exact HBd.out.size
    have hg3 := HGX.out.next hb3a
    rw [← hw3a, ← htb]
    clear hw3a htb
    refine hK.out _ _ ⟨hg3.c0, hg3.c1, hg3.c2⟩ (fun hHeld => ?_)
    clear hK K hg3
    refine wpAnyH_ready (rs := [0]) (by kernel_rfl) (by simp) ?_
    refine AllReadyH.cons rfl (fun K hK => ?_) AllReadyH.nil
    simp only [List.getElem_toArray, List.getElem_cons_succ, List.getElem_cons_zero]
    go_simp
    refine (small8_any _).mono ?_
    rintro e w4 ⟨rfl, hb4⟩
    have hb4a := hb3a.trans (hb4.mono hb3a.size)
    have hm4 := hm3.next hb4
    have hg4 := HGX.out.next hb4a
    clear hb4 hm3 hb3a
    go_wp2_with (fail)
    refine hK.out _ _ ⟨hg4.c0, hg4.c1, hg4.c2⟩ (fun hHeld => ?_)
    clear hK K hg4
    refine wpAnyH_ready (rs := [2]) (by kernel_rfl) (by simp) ?_
    refine AllReadyH.cons rfl (fun K hK => ?_) AllReadyH.nil
    simp only [List.getElem_toArray, List.getElem_cons_succ, List.getElem_cons_zero]
    go_simp
    refine (HGET.out _ hb4a).mono ?_
    rintro e w5 ⟨rfl, hb5⟩
    have HB5 := Lib.hid (hb4a.trans (hb5.mono hb4a.size))
    have hg5 := HGX.out.next HB5.out
    have hm5 := hm4.next hb5
    clear hb5 hm4 hb4a
    go_wp2_with (fail)
    refine hK.out _ _ ⟨hg5.c0, hg5.c1, hg5.c2⟩ (fun hHeld => ?_)
    clear hK K
    refine rgY 3 ?_ rfl (by kernel_rfl) (fun _ _ _ h => h) (.inl ⟨by rfl, fun w hSw => ?_⟩) (by assumption) ?_
    rotate_left
    · (try dsimp only at hSw); go_simp; try with_reducible rfl
    simp only [Act.put, rg1, rg2, rg3, rg4, rg5, rg6]
    refine rgY 4 ?_ rfl (by kernel_rfl) (fun _ _ _ h => h) (.inl ⟨by rfl, fun w hSw => ?_⟩) (by assumption) ?_
    rotate_left
    · (try dsimp only at hSw); go_simp; try with_reducible rfl
    simp only [Act.put, rg1, rg2, rg3, rg4, rg5, rg6]
    refine rgY 5 ?_ rfl (by kernel_rfl) (fun _ _ _ h => h) (.inl ⟨by rfl, fun w hSw => ?_⟩) (by assumption) ?_
    rotate_left
    · (try dsimp only at hSw); go_simp; try with_reducible rfl
    simp only [Act.put, rg1, rg2, rg3, rg4, rg5, rg6]
    have HM5 := Lib.hid hm5
    have HTB : Hid (Y.heap.size ≤ tb) := htl
    have r0 := hm5.c0
    have r1 := hm5.c1
    have r2 := hm5.c2
    have r3 := hm5.c3
    have q0 := hm5.f0
    have q1 := hm5.f1
    have q2 := hm5.f2
    have q3 := hm5.f3
    have htne : yb ≠ tb := by have := HGX.out.lt; omega
    have hg7 : Gx (set4 w5 tb 1 0 2 9) yb 65535 0 (.slice (some ⟨p, 0, none⟩) 56 56) := by
      have hne : ∀ j k : Nat, (⟨tb, j, none⟩ : Addr) ≠ ⟨yb, k, none⟩ := fun j k e => htne (congrArg Addr.block e).symm
      refine ⟨by simpa [set4] using hg5.lt, ?_, ?_, ?_, by simpa [set4] using hg5.f0, by simpa [set4] using hg5.f1, by simpa [set4] using hg5.f2⟩
      · rw [set4, set_othG (hne _ _), set_othG (hne _ _), set_othG (hne _ _), set_othG (hne _ _)]; exact hg5.c0
      · rw [set4, set_othG (hne _ _), set_othG (hne _ _), set_othG (hne _ _), set_othG (hne _ _)]; exact hg5.c1
      · rw [set4, set_othG (hne _ _), set_othG (hne _ _), set_othG (hne _ _), set_othG (hne _ _)]; exact hg5.c2
    clear hm5 htl htne
    refine wpAnyH_ready (rs := [7]) (by kernel_rfl) (by simp) ?_
    refine AllReadyH.cons rfl (fun K hK => ?_) AllReadyH.nil
    simp only [List.getElem_toArray, List.getElem_cons_succ, List.getElem_cons_zero]
    go_simp
    refine hK.out _ _ ⟨hg7.c0, hg7.c1, hg7.c2⟩ (fun hHeld => ?_)
    clear hK K hg7 hg5 r0 r1 r2 r3 q0 q1 q2 q3
    refine rgY 8 ?_ rfl (by kernel_rfl) (fun _ _ _ h => h) (.inl ⟨by rfl, fun w hSw => ?_⟩) (by assumption) ?_
    rotate_left
    · (try dsimp only at hSw); go_simp; try with_reducible rfl
    simp only [Act.put, rg1, rg2, rg3, rg4, rg5, rg6]
    obtain ⟨Z, hZ⟩ : ∃ Z, Z = (((w5.setCell ⟨tb, 0, none⟩ (.int .i64 1)).setCell ⟨tb, 1, none⟩ (.int .i64 0)).setCell ⟨tb, 2, none⟩ (.int .i64 2)).setCell ⟨tb, 3, none⟩ (.int .i64 9) := ⟨_, rfl⟩
    have hm : M4 Z tb 1 0 2 9 := by rw [hZ]; exact HM5.out.set 1 0 2 9
    have hbz : Below Y.heap.size Y Z := by rw [hZ]; exact HB5.out.set4 HTB.out
    rw [← hZ]
    clear hZ
    have hz1 := H1Y.out.trans (hbz.mono H1Y.out.size)
    have hzw := HBY.out.trans (hbz.mono HBY.out.size)
    have k0 := (hz1.cell (p := ⟨gb, go, none⟩) HV.out.1).trans HV.out.2.1
    have k1 := (hz1.cell (p := ⟨gb, go + 1, none⟩) HV.out.1).trans HV.out.2.2.1
    have k2 := (hz1.cell (p := ⟨gb, go + 2, none⟩) HV.out.1).trans HV.out.2.2.2.1
    have kl : gb < Z.heap.size := Nat.lt_of_lt_of_le HV.out.1 hz1.size
    have hal : Below Z.heap.size Z (Z.alloc (.cells #[.int .i64 2, .int .i64 5] 3 (0, 0))) := (Below.refl _ _).alloc (Nat.le_refl _) _
    have hsi := sameInts_yes ga (some ⟨Z.heap.size, 0, none⟩) 2 gc 2 [2, 5] (Z.alloc (.cells #[.int .i64 2, .int .i64 5] 3 (0, 0))) ((HV.out.2.2.2.2.next hz1).next hal) (ins_two Z 2 5) (by omega)
    have HSI := Lib.hid hsi
    have HM9 := Lib.hid (hm.next hal)
    have HZ9 := Lib.hid (hzw.trans (hal.mono hzw.size))
    clear hsi hm hz1 hzw hbz hal
    refine wpAnyH_done (by kernel_rfl) ?_ _
    clear hHeld
    go_wp2_with (fail)
    refine HSI.out.mono ?_
    rintro e w9 ⟨rfl, hb9⟩
    have hm9 := HM9.out.next hb9
    have m0 := hm9.c0
    have m1 := hm9.c1
    have m2 := hm9.c2
    have m3 := hm9.c3
    have HB9 := Lib.hid (HZ9.out.trans (hb9.mono HZ9.out.size))
    clear hb9 hm9 HSI k0 k1 k2 kl
    go_wp2_with (fail)
    go_ret
    exact ⟨rfl, HB9.out⟩
end Go.Proofs.YtegmeoghonolcaaGreat
