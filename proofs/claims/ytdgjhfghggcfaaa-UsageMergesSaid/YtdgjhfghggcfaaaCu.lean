/-
  The comparison that the segments in use are sorted by.
-/
import Derived.Test.YtdgjhfghggcfaaaFr
import Derived.Sort.Grow
namespace Go.Proofs.Ytdgjhfghggcfaaa
open Go.RowKit Go.Sort
set_option linter.unusedVariables false

/-- cmp.Compare of numbers. -/
def cmpI (x y : Int) : Int := if x < y then -1 else if y < x then 1 else 0
theorem isNaN_any (x : Int) (w : World) : Calls Try.prog 47 #[.int .i64 x] w fun e w' => e = .returned (.bool false) ∧ w' = w := by
  go_enter Try.func47, Try.ntmps47
  go_wp2_with (fail)
  go_ret
  exact ⟨rfl, rfl⟩
set_option maxHeartbeats 1000000 in
theorem cmp_any (x y : Int) (w : World) : Calls Try.prog 42 #[.int .i64 x, .int .i64 y] w fun e w' => e = .returned (.int .i64 (cmpI x y)) ∧ w' = w := by
  unfold cmpI
  go_enter Try.func42, Try.ntmps42
  go_wp2_with (first | (go_at_call 47; refine (isNaN_any _ _).mono ?_; rintro e w' ⟨rfl, rfl⟩))
  all_goals go_ret
  all_goals exact ⟨rfl, rfl⟩
/-- cmp.Or of two numbers. -/
def orI (x y : Int) : Int := if x = 0 then y else x
set_option maxHeartbeats 1000000 in
theorem or_any (b c : Nat) (x y : Int) (w : World) (h0 : w.cell? ⟨b, 0, none⟩ = some (.int .i64 x)) (h1 : w.cell? ⟨b, 1, none⟩ = some (.int .i64 y)) :
    Calls Try.prog 41 #[.slice (some ⟨b, 0, none⟩) 2 c] w fun e w' => e = .returned (.int .i64 (orI x y)) ∧ w' = w := by
  unfold orI
  by_cases hx : x = 0
  · subst hx
    by_cases hy : y = 0
    · subst hy
      go_enter Try.func41, Try.ntmps41
      go_wp2_with (fail)
      refine wp_loop_rounds 3 ?_
      rw [rounds_succ]
      go_wp2_with (fail)
      rw [rounds_succ]
      go_wp2_with (fail)
      rw [rounds_succ]
      go_wp2_with (fail)
      go_ret
      exact ⟨rfl, rfl⟩
    · have d1 : decide (y = 0) = false := decide_eq_false hy
      go_enter Try.func41, Try.ntmps41
      go_wp2_with (fail)
      refine wp_loop_rounds 2 ?_
      rw [rounds_succ]
      go_wp2_with (fail)
      rw [rounds_succ]
      go_wp2_with (fail)
      go_ret
      exact ⟨rfl, rfl⟩
  · have d1 : decide (x = 0) = false := decide_eq_false hx
    rw [if_neg hx]
    go_enter Try.func41, Try.ntmps41
    go_wp2_with (fail)
    refine wp_loop_rounds 1 ?_
    rw [rounds_succ]
    go_wp2_with (fail)
    go_ret
    exact ⟨rfl, rfl⟩

set_option maxHeartbeats 1000000 in
theorem clU_any (q n q' n' : Int) (W : World) :
    Calls Try.prog 40 #[.agg #[.int .i64 n, .int .i64 q], .agg #[.int .i64 n', .int .i64 q']] W fun e w' => e = .returned (.int .i64 (orI (cmpI q q') (cmpI n n'))) ∧ ∃ q os', w' = grow (W.drewN q) os' := by
  obtain ⟨X, hX⟩ : ∃ X, X = (W.alloc (.cells #[.int .i64 n, .int .i64 q] 51 (0, 0))).alloc (.cells #[.int .i64 n', .int .i64 q'] 51 (0, 0)) := ⟨_, rfl⟩
  have x0 : X.cell? ⟨W.heap.size, 1, none⟩ = some (.int .i64 q) := by rw [hX]; simp
  have x2 : X.cell? ⟨W.heap.size, 0, none⟩ = some (.int .i64 n) := by rw [hX]; simp
  have y0 : X.cell? ⟨W.heap.size + 1, 1, none⟩ = some (.int .i64 q') := by rw [hX]; simp
  have y2 : X.cell? ⟨W.heap.size + 1, 0, none⟩ = some (.int .i64 n') := by rw [hX]; simp
  have HX := Lib.hid hX
  have HG1 : Hid (W.heap.size < X.heap.size) := Lib.hid (by rw [hX]; simp; omega)
  have HG2 : Hid (W.heap.size + 1 < X.heap.size) := Lib.hid (by rw [hX]; simp)
  obtain ⟨g, hg⟩ : ∃ g, g = W.heap.size := ⟨_, rfl⟩
  rw [← hg] at x0 x2 y0 y2 HG1 HG2
  obtain ⟨k, hk⟩ : ∃ k, k = cmpI q q' := ⟨_, rfl⟩
  obtain ⟨l, hl⟩ : ∃ l, l = cmpI n n' := ⟨_, rfl⟩
  have h1 : ∀ w, Calls Try.prog 42 #[.int .i64 q, .int .i64 q'] w fun e w' => e = .returned (.int .i64 k) ∧ w' = w := by rw [hk]; exact cmp_any q q'
  have h2 : ∀ w, Calls Try.prog 42 #[.int .i64 n, .int .i64 n'] w fun e w' => e = .returned (.int .i64 l) ∧ w' = w := by rw [hl]; exact cmp_any n n'
  rw [← hk, ← hl]
  clear hk hl
  go_enter Try.func40, Try.ntmps40
  go_wp2_with (fail)
  rw [← hX, ← hg]
  clear hX hg
  refine wp_region_held_drew (S := (fun w' => w'.cell? ⟨g, 1, none⟩ = some (.int .i64 q) ∧ w'.cell? ⟨g, 0, none⟩ = some (.int .i64 n) ∧ w'.cell? ⟨g + 1, 1, none⟩ = some (.int .i64 q') ∧ w'.cell? ⟨g + 1, 0, none⟩ = some (.int .i64 n'))) (by kernel_rfl) ?_ (fun hHeld => ?_)
  · exact ⟨x0, x2, y0, y2⟩
  refine wpAnyH_take (i := 0) (v := ?_) rfl (by kernel_rfl) (by kernel_rfl) (by kernel_rfl) (fun _ _ _ h => h) (Or.inl ⟨by rfl, fun w hSw => ?_⟩) (by assumption) ?_
  rotate_left
  · (try dsimp only at hSw); go_simp; try with_reducible rfl
  simp only [Act.put, List.setIfInBounds_toArray, List.set_cons_zero, List.set_cons_succ, List.getElem_toArray, List.getElem_cons_zero]
  refine wpAnyH_take (i := 1) (v := ?_) rfl (by kernel_rfl) (by kernel_rfl) (by kernel_rfl) (fun _ _ _ h => h) (Or.inl ⟨by rfl, fun w hSw => ?_⟩) (by assumption) ?_
  rotate_left
  · (try dsimp only at hSw); go_simp; try with_reducible rfl
  simp only [Act.put, List.setIfInBounds_toArray, List.set_cons_zero, List.set_cons_succ, List.getElem_toArray, List.getElem_cons_succ, List.getElem_cons_zero]
  refine wpAnyH_take (i := 2) (v := ?_) rfl (by kernel_rfl) (by kernel_rfl) (by kernel_rfl) (fun _ _ _ h => h) (Or.inl ⟨by rfl, fun w hSw => ?_⟩) (by assumption) ?_
  rotate_left
  · (try dsimp only at hSw); go_simp; try with_reducible rfl
  simp only [Act.put, List.setIfInBounds_toArray, List.set_cons_zero, List.set_cons_succ, List.getElem_toArray, List.getElem_cons_succ, List.getElem_cons_zero]
  refine wpAnyH_take (i := 3) (v := ?_) rfl (by kernel_rfl) (by kernel_rfl) (by kernel_rfl) (fun _ _ _ h => h) (Or.inl ⟨by rfl, fun w hSw => ?_⟩) (by assumption) ?_
  rotate_left
  · (try dsimp only at hSw); go_simp; try with_reducible rfl
  simp only [Act.put, List.setIfInBounds_toArray, List.set_cons_zero, List.set_cons_succ, List.getElem_toArray, List.getElem_cons_succ, List.getElem_cons_zero]
  refine wpAnyH_take (i := 5) (v := ?_) rfl (by kernel_rfl) (by kernel_rfl) (by kernel_rfl) (fun _ _ _ h => h) (Or.inl ⟨by rfl, fun w hSw => ?_⟩) (by assumption) ?_
  rotate_left
  · (try dsimp only at hSw); go_simp; try with_reducible rfl
  simp only [Act.put, List.setIfInBounds_toArray, List.set_cons_zero, List.set_cons_succ, List.getElem_toArray, List.getElem_cons_succ, List.getElem_cons_zero]
  refine wpAnyH_take (i := 6) (v := ?_) rfl (by kernel_rfl) (by kernel_rfl) (by kernel_rfl) (fun _ _ _ h => h) (Or.inl ⟨by rfl, fun w hSw => ?_⟩) (by assumption) ?_
  rotate_left
  · (try dsimp only at hSw); go_simp; try with_reducible rfl
  simp only [Act.put, List.setIfInBounds_toArray, List.set_cons_zero, List.set_cons_succ, List.getElem_toArray, List.getElem_cons_succ, List.getElem_cons_zero]
  refine wpAnyH_take (i := 7) (v := ?_) rfl (by kernel_rfl) (by kernel_rfl) (by kernel_rfl) (fun _ _ _ h => h) (Or.inl ⟨by rfl, fun w hSw => ?_⟩) (by assumption) ?_
  rotate_left
  · (try dsimp only at hSw); go_simp; try with_reducible rfl
  simp only [Act.put, List.setIfInBounds_toArray, List.set_cons_zero, List.set_cons_succ, List.getElem_toArray, List.getElem_cons_succ, List.getElem_cons_zero]
  refine wpAnyH_take (i := 8) (v := ?_) rfl (by kernel_rfl) (by kernel_rfl) (by kernel_rfl) (fun _ _ _ h => h) (Or.inl ⟨by rfl, fun w hSw => ?_⟩) (by assumption) ?_
  rotate_left
  · (try dsimp only at hSw); go_simp; try with_reducible rfl
  simp only [Act.put, List.setIfInBounds_toArray, List.set_cons_zero, List.set_cons_succ, List.getElem_toArray, List.getElem_cons_succ, List.getElem_cons_zero]
  refine wpAnyH_ready (rs := [4]) (by kernel_rfl) (by simp) ?_
  refine AllReadyH.cons rfl (fun K hK => ?_) AllReadyH.nil
  simp only [List.getElem_toArray, List.getElem_cons_succ, List.getElem_cons_zero]
  go_simp
  refine (h1 _).mono ?_
  rintro e w4 ⟨rfl, rfl⟩
  go_wp2_with (fail)
  refine hK.out _ _ ⟨x0, x2, y0, y2⟩ (fun hHeld => ?_)
  clear hK K
  refine wpAnyH_ready (rs := [9]) (by kernel_rfl) (by simp) ?_
  refine AllReadyH.cons rfl (fun K hK => ?_) AllReadyH.nil
  simp only [List.getElem_toArray, List.getElem_cons_succ, List.getElem_cons_zero]
  go_simp
  refine (h2 _).mono ?_
  rintro e w5 ⟨rfl, rfl⟩
  go_wp2_with (fail)
  refine hK.out _ _ ⟨x0, x2, y0, y2⟩ (fun hHeld => ?_)
  clear hK K
  refine wpAnyH_ready (rs := [10]) (by kernel_rfl) (by simp) ?_
  refine AllReadyH.cons rfl (fun K hK => ?_) AllReadyH.nil
  simp only [List.getElem_toArray, List.getElem_cons_succ, List.getElem_cons_zero]
  go_simp
  have hb5 : Below X.heap.size X ((X.alloc (.cells #[.int .i64 k, .int .i64 l] 3 (0, 0))).drew) := below_drewN ((Below.refl _ _).alloc (Nat.le_refl _) _) 1
  have z0 : ((X.alloc (.cells #[.int .i64 k, .int .i64 l] 3 (0, 0))).drew).cell? ⟨X.heap.size, 0, none⟩ = some (.int .i64 k) := by
    show (X.alloc (.cells #[.int .i64 k, .int .i64 l] 3 (0, 0))).cell? ⟨X.heap.size, 0, none⟩ = _
    simp
  have z1 : ((X.alloc (.cells #[.int .i64 k, .int .i64 l] 3 (0, 0))).drew).cell? ⟨X.heap.size, 1, none⟩ = some (.int .i64 l) := by
    show (X.alloc (.cells #[.int .i64 k, .int .i64 l] 3 (0, 0))).cell? ⟨X.heap.size, 1, none⟩ = _
    simp
  have HU := Lib.hid (And.intro ((hb5.cell (p := ⟨g, 1, none⟩) HG1.out).trans x0) (And.intro ((hb5.cell (p := ⟨g, 0, none⟩) HG1.out).trans x2) (And.intro ((hb5.cell (p := ⟨g + 1, 1, none⟩) HG2.out).trans y0) ((hb5.cell (p := ⟨g + 1, 0, none⟩) HG2.out).trans y2))))
  refine hK.out _ _ HU.out (fun hHeld => ?_)
  clear hK K hb5
  have hor := or_any X.heap.size 2 k l _ z0 z1
  clear z0 z1 x0 x2 y0 y2
  refine wpAnyH_ready (rs := [11]) (by kernel_rfl) (by simp) ?_
  refine AllReadyH.cons rfl (fun K hK => ?_) AllReadyH.nil
  simp only [List.getElem_toArray, List.getElem_cons_succ, List.getElem_cons_zero]
  go_simp
  refine hor.mono ?_
  rintro e w6 ⟨rfl, rfl⟩
  go_wp2_with (fail)
  refine hK.out _ _ HU.out (fun hHeld => ?_)
  clear hK K
  refine wpAnyH_take (i := 12) (v := ?_) rfl (by kernel_rfl) (by kernel_rfl) (by kernel_rfl) (fun _ _ _ h => h) (Or.inl ⟨by rfl, fun w hSw => ?_⟩) (by assumption) ?_
  rotate_left
  · (try dsimp only at hSw); go_simp; try with_reducible rfl
  simp only [Act.put, List.setIfInBounds_toArray, List.set_cons_zero, List.set_cons_succ, List.getElem_toArray, List.getElem_cons_succ, List.getElem_cons_zero]
  refine wpAnyH_done (by kernel_rfl) ?_ _
  go_wp2_with (fail)
  go_ret
  refine ⟨rfl, 1, #[.cells #[.int .i64 n, .int .i64 q] 51 (0, 0), .cells #[.int .i64 n', .int .i64 q'] 51 (0, 0), .cells #[.int .i64 k, .int .i64 l] 3 (0, 0)], ?_⟩
  rw [HX.out]
  rw [alloc_eq_grow, alloc_eq_grow, alloc_eq_grow, grow_grow, grow_grow]
  rfl
end Go.Proofs.Ytdgjhfghggcfaaa
