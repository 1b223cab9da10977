/-
  The program's Fresh and There by contract.
-/
import Derived.Test.YtgedgkdnjnbijaaKs
namespace Go.Proofs.Ytgedgkdnjnbijaa
open Go.RowKit Go.Maps Go.ChangeMaps Go.MapKept Go.Sort Go.Shelf
set_option linter.unusedVariables false
set_option linter.unusedSimpArgs false

theorem pres_X (X : Nat → List Int) : pres (fX X) = freP X := by
  funext k
  unfold pres fX freP
  cases X k with
  | nil => rfl
  | cons y l => simp
theorem pres_A {A : Nat → Int} {X : Nat → List Int} (h : Fits A X) (k : Nat) : pres (fA A) k = decide (0 < A k) := by
  unfold pres fA
  have := h.rg k
  by_cases h0 : A k = 0
  · rw [if_pos h0, h0]; rfl
  · rw [if_neg h0, decide_eq_true (by omega)]; rfl
theorem there_sort {A : Nat → Int} {X : Nat → List Int} (h : Fits A X) (N : Nat) : ((selL (pres (fA A)) N ++ selL (pres (fX X)) N).mergeSort fun x y => decide (x ≤ y)) = selL (theP A X) N := by
  have hp : (selL (pres (fA A)) N ++ selL (pres (fX X)) N).Perm (selL (theP A X) N) := by
    refine (List.perm_ext_iff_of_nodup ?_ (selL_nodup _ _)).2 fun x => ?_
    · refine List.nodup_append.2 ⟨selL_nodup _ _, selL_nodup _ _, fun a ha b hb e => ?_⟩
      subst e
      obtain ⟨k, _, h1, rfl⟩ := selL_mem.1 ha
      obtain ⟨k', _, h2, e⟩ := selL_mem.1 hb
      obtain rfl : k = k' := by omega
      rw [pres_A h] at h1
      rw [pres_X] at h2
      have h3 := of_decide_eq_true h1
      rcases h.dj k with h4 | h4
      · unfold freP at h2; rw [h4] at h2; cases h2
      · omega
    · rw [List.mem_append, selL_mem, selL_mem, selL_mem, pres_X]
      constructor
      · rintro (⟨k, hk, h1, rfl⟩ | ⟨k, hk, h1, rfl⟩)
        · rw [pres_A h] at h1
          exact ⟨k, hk, by unfold theP; rw [h1, Bool.or_true], rfl⟩
        · unfold freP at h1
          exact ⟨k, hk, by unfold theP; rw [h1, Bool.true_or], rfl⟩
      · rintro ⟨k, hk, h1, rfl⟩
        unfold theP at h1
        rw [Bool.or_eq_true] at h1
        rcases h1 with h1 | h1
        · exact .inr ⟨k, hk, h1, rfl⟩
        · exact .inl ⟨k, hk, by rw [pres_A h]; exact h1, rfl⟩
  have e := mergeSort_of_perm_i hp
  exact e.trans (List.mergeSort_of_pairwise (selL_le _ _))
theorem pfresh_any {w : World} {p b c N : Nat} {A : Nat → Int} {X : Nat → List Int} (h : PmpAt w p b c A X) (hN : N = 828) :
    Calls Try.prog 20 #[.pointer (some ⟨p, 0, none⟩)] w (NumP w (selL (freP X) N)) := by
  have c1 := h.c1
  have HS := Lib.hid (numbersX_any h.mx hN)
  rw [pres_X] at HS
  obtain ⟨L, hL⟩ : ∃ L, L = selL (freP X) N := ⟨_, rfl⟩
  rw [← hL] at HS ⊢
  clear h hN hL
  go_enter Try.func20, Try.ntmps20
  go_wp2_with (fail)
  refine HS.out.mono ?_
  rintro e w3 ⟨v, rfl, hO, hb3⟩
  have HO := Lib.hid hO
  have HB3 := Lib.hid hb3
  clear hO hb3
  go_wp2_with (fail)
  go_ret
  exact ⟨_, rfl, HO.out, HB3.out⟩
/-- 'append(s, l...)' of numbers. -/
theorem app_run {w : World} {B : Nat} {v : Value} {n : Nat} {ks : List Int} (hown : OwnI w B v n ks) {u : Value} {m : Nat} {ys : List Int} {B' : Nat} (hu : OwnI w B' u m ys) (hnm : n + m ≤ 1000000000000) (hB : B ≤ w.heap.size) (ty : TypeId) {w0 : World} (hb : Below B w0 w) :
    ∃ v' w', (Builtin.append_ #[22, 22] ty #[v, u]).run Try.prog w = .ok v' w' ∧ OwnI w' B v' (n + m) (ks ++ ys) ∧ Below B w0 w' := by
  obtain ⟨i0, hi, hz0, hz1, hz2⟩ := info_parts info3
  rcases hu.2 with ⟨rfl, hm0⟩ | ⟨g, cap, cur, rfl, hbase, hg, hnc, hcm, hsz, htake⟩
  · have hy : ys = [] := by
      have := hu.1
      rw [hm0] at this
      simpa using this
    subst hm0 hy
    refine ⟨v, w, run_append_owned_none (P := Try.prog) (w := w) B 22 ty 3 i0 1 Try.underlying22 hi v n _ hown, by rw [List.append_nil]; exact hown, hb⟩
  · obtain ⟨v', w', hr, h2, h3, _, _⟩ := run_append_own_at (P := Try.prog) w B 22 ty 3 i0 (.int .i64 0) 1 8 Try.underlying22 hi hz0 hz1 hz2 rfl (by decide) v n _ hown ⟨g, 0, none⟩ m cap (ys.map (Value.int .i64)) (by simpa using hu.1)
      (fun j x hj => by
        have hj' : j < (ys.map (Value.int .i64)).length := by
          rcases Nat.lt_or_ge j (ys.map (Value.int .i64)).length with h | h
          · exact h
          · rw [List.getElem?_eq_none h] at hj; cases hj
        have := hu.cellAt j (by have := hu.1; omega)
        rw [show (⟨g, 0, none⟩ : Addr).add j = ⟨g, j, none⟩ by unfold Addr.add; split <;> simp_all, this]
        exact hj)
      (fun x hx => by obtain ⟨z, _, rfl⟩ := List.mem_map.1 hx; rfl) (by unfold maxLen; omega) (by omega) hB
    exact ⟨v', w', hr, by unfold OwnI; rw [List.map_append]; exact h2, hb.grown h3 hB fun k hk => (hown.lt k hk).1⟩
theorem wp_app {o : Oper} {a : Act} {w w' : World} {K : Act → World → Prop} {Q : Exit → Act → World → Prop} (s x : Operand) (t : TypeId)
    (ho : o.op = .call { callee := .builtin .append, args := #[s, x], argTypes := #[t, t] }) (v u v' : Value) (hs : a.eval s = v) (hx : a.eval x = u)
    (hr : (Builtin.append_ #[t, t] o.type #[v, u]).run Try.prog w = .ok v' w') (h : K (a.put o.dst v') w') : o.wp Try.prog a w K Q := by
  unfold Oper.wp execOp
  simp only [ho, resolve, invoke, builtin, Sem.run_bind, Sem.run_pure, Result.andThen_ok, List.map_toArray, List.map_cons, List.map_nil, hs, hx, hr]
  exact h
/-- 'slices.Sort' of numbers of the call's own. -/
theorem sort_any {w : World} {B : Nat} {v : Value} {n : Nat} {ks : List Int} (h : OwnI w B v n ks) (hn : n ≤ 1000000000000) :
    Calls Try.prog 45 #[v] w fun e w' => e = .returned (.tuple #[]) ∧ OwnI w' B v n (ks.mergeSort fun x y => decide (x ≤ y)) ∧ w.grownBy w' v.ownBlock := by
  rcases h.2 with ⟨rfl, hz⟩ | ⟨g, cap, cur, rfl, hbase, hgb, r1, r2, r3, r4⟩
  · have hks : ks = [] := by
      have := h.1
      rw [hz] at this
      simpa using this
    subst hz hks
    refine (AnyM.slices_Sort_int_none sortA none 0 w).mono ?_
    rintro e w' ⟨rfl, rfl⟩
    exact ⟨rfl, by simpa using h, World.grownBy.refl _ _⟩
  · have hl : ks.length = n := by simpa using h.1
    subst hl
    have hH : Holds encZ w g 0 ks.toArray := holds_of_block_i hgb (by simpa using r4)
    refine (AnyM.slices_Sort_int sortA g 0 cap ks w hH (Array.getElem?_eq_some_iff.1 hgb).1 (by omega)).mono ?_
    rintro e w' ⟨rfl, m, os, rfl⟩
    exact ⟨rfl, ownsRow_sorted_i (by simp) hbase hgb r1 r2 r3, grownBy_sorted_i _⟩
set_option maxHeartbeats 4000000 in
set_option maxRecDepth 10000 in
theorem pthere_any {w : World} {p b c N : Nat} {A : Nat → Int} {X : Nat → List Int} (h : PmpAt w p b c A X) (hN : N = 828) :
    Calls Try.prog 23 #[.pointer (some ⟨p, 0, none⟩)] w (NumP w (selL (theP A X) N)) := by
  have HP := Lib.hid h
  have h0 := h.next (below_drewN (Below.refl _ _) 1)
  have HD := Lib.hid (show PmpAt w.drew p b c A X from h0)
  have HE := Lib.hid (there_sort h.ok N)
  have HN := Lib.hid hN
  obtain ⟨L1, hL1⟩ : ∃ L, L = selL (pres (fA A)) N := ⟨_, rfl⟩
  obtain ⟨L2, hL2⟩ : ∃ L, L = selL (pres (fX X)) N := ⟨_, rfl⟩
  obtain ⟨L3, hL3⟩ : ∃ L, L = selL (theP A X) N := ⟨_, rfl⟩
  have HLe := Lib.hid (show L1.length ≤ 828 ∧ L2.length ≤ 828 by rw [hL1, hL2, ← hN]; exact ⟨selL_len _ _, selL_len _ _⟩)
  rw [← hL1, ← hL2, ← hL3] at HE
  rw [← hL3]
  have HL1 := Lib.hid hL1
  have HL2 := Lib.hid hL2
  clear h h0 hN hL1 hL2 hL3
  go_enter Try.func23, Try.ntmps23
  go_upto_region 1 with fail
  refine wp_region_held_drew (S := (fun w' => w'.cell? ⟨p, 0, none⟩ = some (.map (some b)) ∧ w'.cell? ⟨p, 1, none⟩ = some (.map (some c)))) (by kernel_rfl) ?_ (fun hHeld => ?_)
  · exact ⟨HD.out.c0, HD.out.c1⟩
  refine wpAnyH_take (i := 0) (v := ?_) rfl (by kernel_rfl) (by kernel_rfl) (by kernel_rfl) (fun _ _ _ h => h) (Or.inl ⟨by rfl, fun w hSw => ?_⟩) (by assumption) ?_
  rotate_left
  · (try dsimp only at hSw); go_simp; try with_reducible rfl
  simp only [Act.put, List.setIfInBounds_toArray, List.set_cons_zero, List.set_cons_succ, List.getElem_toArray, List.getElem_cons_zero]
  refine wpAnyH_take (i := 1) (v := ?_) rfl (by kernel_rfl) (by kernel_rfl) (by kernel_rfl) (fun _ _ _ h => h) (Or.inl ⟨by rfl, fun w hSw => ?_⟩) (by assumption) ?_
  rotate_left
  · (try dsimp only at hSw); go_simp; try with_reducible rfl
  simp only [Act.put, List.setIfInBounds_toArray, List.set_cons_zero, List.set_cons_succ, List.getElem_toArray, List.getElem_cons_succ, List.getElem_cons_zero]
  refine wpAnyH_take (i := 2) (v := ?_) rfl (by kernel_rfl) (by kernel_rfl) (by kernel_rfl) (fun _ _ _ h => h) (Or.inl ⟨by rfl, fun w hSw => ?_⟩) (by assumption) ?_
  rotate_left
  · (try dsimp only at hSw); go_simp; try with_reducible rfl
  simp only [Act.put, List.setIfInBounds_toArray, List.set_cons_zero, List.set_cons_succ, List.getElem_toArray, List.getElem_cons_succ, List.getElem_cons_zero]
  refine wpAnyH_take (i := 3) (v := ?_) rfl (by kernel_rfl) (by kernel_rfl) (by kernel_rfl) (fun _ _ _ h => h) (Or.inl ⟨by rfl, fun w hSw => ?_⟩) (by assumption) ?_
  rotate_left
  · (try dsimp only at hSw); go_simp; try with_reducible rfl
  simp only [Act.put, List.setIfInBounds_toArray, List.set_cons_zero, List.set_cons_succ, List.getElem_toArray, List.getElem_cons_succ, List.getElem_cons_zero]
  refine wpAnyH_take (i := 5) (v := ?_) rfl (by kernel_rfl) (by kernel_rfl) (by kernel_rfl) (fun _ _ _ h => h) (Or.inl ⟨by rfl, fun w hSw => ?_⟩) (by assumption) ?_
  rotate_left
  · (try dsimp only at hSw); go_simp; try with_reducible rfl
  simp only [Act.put, List.setIfInBounds_toArray, List.set_cons_zero, List.set_cons_succ, List.getElem_toArray, List.getElem_cons_succ, List.getElem_cons_zero]
  refine wpAnyH_take (i := 6) (v := ?_) rfl (by kernel_rfl) (by kernel_rfl) (by kernel_rfl) (fun _ _ _ h => h) (Or.inl ⟨by rfl, fun w hSw => ?_⟩) (by assumption) ?_
  rotate_left
  · (try dsimp only at hSw); go_simp; try with_reducible rfl
  simp only [Act.put, List.setIfInBounds_toArray, List.set_cons_zero, List.set_cons_succ, List.getElem_toArray, List.getElem_cons_succ, List.getElem_cons_zero]
  refine wpAnyH_take (i := 7) (v := ?_) rfl (by kernel_rfl) (by kernel_rfl) (by kernel_rfl) (fun _ _ _ h => h) (Or.inl ⟨by rfl, fun w hSw => ?_⟩) (by assumption) ?_
  rotate_left
  · (try dsimp only at hSw); go_simp; try with_reducible rfl
  simp only [Act.put, List.setIfInBounds_toArray, List.set_cons_zero, List.set_cons_succ, List.getElem_toArray, List.getElem_cons_succ, List.getElem_cons_zero]
  refine wpAnyH_take (i := 8) (v := ?_) rfl (by kernel_rfl) (by kernel_rfl) (by kernel_rfl) (fun _ _ _ h => h) (Or.inl ⟨by rfl, fun w hSw => ?_⟩) (by assumption) ?_
  rotate_left
  · (try dsimp only at hSw); go_simp; try with_reducible rfl
  simp only [Act.put, List.setIfInBounds_toArray, List.set_cons_zero, List.set_cons_succ, List.getElem_toArray, List.getElem_cons_succ, List.getElem_cons_zero]
  refine wpAnyH_ready (rs := [4]) (by kernel_rfl) (by simp) ?_
  refine AllReadyH.cons rfl (fun K hK => ?_) AllReadyH.nil
  simp only [List.getElem_toArray, List.getElem_cons_succ, List.getElem_cons_zero]
  go_simp
  refine (numbersA_any HD.out.ma HN.out).mono ?_
  rintro e w2 ⟨v1, rfl, hO1, hb2⟩
  rw [← HL1.out] at hO1
  have HO1 := Lib.hid hO1
  have HP2 := Lib.hid (HD.out.next hb2)
  have HB2 := Lib.hid ((below_drewN (Below.refl w.heap.size w) 1).trans hb2)
  clear hO1 hb2
  go_wp2_with (fail)
  refine hK.out _ _ ⟨HP2.out.c0, HP2.out.c1⟩ (fun hHeld => ?_)
  clear hK K
  refine wpAnyH_ready (rs := [9]) (by kernel_rfl) (by simp) ?_
  refine AllReadyH.cons rfl (fun K hK => ?_) AllReadyH.nil
  simp only [List.getElem_toArray, List.getElem_cons_succ, List.getElem_cons_zero]
  go_simp
  refine (numbersX_any HP2.out.mx HN.out).mono ?_
  rintro e w3 ⟨v2, rfl, hO2, hb3⟩
  rw [← HL2.out] at hO2
  have HO2 := Lib.hid hO2
  have HO1b := Lib.hid (HO1.out.next hb3)
  have HP3 := Lib.hid (HP2.out.next hb3)
  have HB3 := Lib.hid (HB2.out.trans (hb3.mono HB2.out.size))
  clear hO2 hb3
  go_wp2_with (fail)
  refine hK.out _ _ ⟨HP3.out.c0, HP3.out.c1⟩ (fun hHeld => ?_)
  clear hK K
  obtain ⟨v4, w4, hr4, hO4, hb4⟩ := app_run HO1b.out HO2.out (by have := HLe.out; omega) HB3.out.size 22 HB3.out
  have HO4 := Lib.hid hO4
  have HB4 := Lib.hid hb4
  clear hO4 hb4
  refine wpAnyH_ready (rs := [10]) (by kernel_rfl) (by simp) ?_
  refine AllReadyH.cons rfl (fun K hK => ?_) AllReadyH.nil
  simp only [List.getElem_toArray, List.getElem_cons_succ, List.getElem_cons_zero]
  rw [if_pos (by rfl)]
  refine wp_app (.tmp 8) (.tmp 13) 22 rfl v1 v2 v4 rfl rfl hr4 ?_
  simp only [Act.put, List.setIfInBounds_toArray, List.set_cons_zero, List.set_cons_succ, List.getElem_toArray, List.getElem_cons_succ, List.getElem_cons_zero]
  have HP4 := Lib.hid (HP.out.next HB4.out)
  refine hK.out _ _ ⟨HP4.out.c0, HP4.out.c1⟩ (fun hHeld => ?_)
  clear hK K hr4
  refine wpAnyH_take (i := 11) (v := ?_) rfl (by kernel_rfl) (by kernel_rfl) (by kernel_rfl) (fun _ _ _ h => h) (Or.inl ⟨by rfl, fun w hSw => ?_⟩) (by assumption) ?_
  rotate_left
  · (try dsimp only at hSw); go_simp; try with_reducible rfl
  simp only [Act.put, List.setIfInBounds_toArray, List.set_cons_zero, List.set_cons_succ, List.getElem_toArray, List.getElem_cons_succ, List.getElem_cons_zero]
  refine wpAnyH_done (by kernel_rfl) ?_ _
  have HC := Lib.hid (sort_any HO4.out (by have := HLe.out; omega))
  go_wp2_with (fail)
  refine HC.out.mono ?_
  rintro e w5 ⟨rfl, hO5, hg5⟩
  rw [HE.out] at hO5
  have HO5 := Lib.hid hO5
  have HB5 := Lib.hid (HB4.out.grown hg5 HB4.out.size fun k hk => (HO4.out.lt k hk).1)
  clear hO5 hg5
  go_wp2_with (fail)
  go_ret
  refine ⟨_, rfl, ?_, HB5.out⟩
  have hl : L3.length = L1.length + L2.length := by simpa using HO5.out.1
  rw [hl]
  exact HO5.out
end Go.Proofs.Ytgedgkdnjnbijaa
