/-
  The two comparisons that infos and groups are sorted by.
-/
import Derived.Test.YtacnhlmhibhlhaaGreatGpa
import Derived.Sort.Grow
set_option linter.unusedSimpArgs false
set_option linter.unusedVariables false
namespace Go.Proofs.YtacnhlmhibhlhaaGreat
open Go.RowKit Go.Sort
set_option linter.unusedVariables false

/-- cmp.Or of two numbers. -/
def orI (x y : Int) : Int := if x = 0 then y else x
set_option maxHeartbeats 1000000 in
theorem or_any (b c : Nat) (x y : Int) (w : World) (h0 : w.cell? ⟨b, 0, none⟩ = some (.int .i64 x)) (h1 : w.cell? ⟨b, 1, none⟩ = some (.int .i64 y)) :
    Calls Tryz.prog 64 #[.slice (some ⟨b, 0, none⟩) 2 c] w fun e w' => e = .returned (.int .i64 (orI x y)) ∧ w' = w := by
  unfold orI
  by_cases hx : x = 0
  · subst hx
    by_cases hy : y = 0
    · subst hy
      go_enter Tryz.func64, Tryz.ntmps64
      go_wp2_with (fail)
      refine wp_loop_rounds 3 ?_
      rw [rounds_succ]
      go_wp2_with (fail)
      rw [rounds_succ]
      go_wp2_with (fail)
      rw [rounds_succ]
      go_wp2_with (fail)
      go_ret
      exact ⟨rfl, rfl⟩
    · have d1 : decide (y = 0) = false := decide_eq_false hy
      go_enter Tryz.func64, Tryz.ntmps64
      go_wp2_with (fail)
      refine wp_loop_rounds 2 ?_
      rw [rounds_succ]
      go_wp2_with (fail)
      rw [rounds_succ]
      go_wp2_with (fail)
      go_ret
      exact ⟨rfl, rfl⟩
  · have d1 : decide (x = 0) = false := decide_eq_false hx
    rw [if_neg hx]
    go_enter Tryz.func64, Tryz.ntmps64
    go_wp2_with (fail)
    refine wp_loop_rounds 1 ?_
    rw [rounds_succ]
    go_wp2_with (fail)
    go_ret
    exact ⟨rfl, rfl⟩

/-- By Index. -/
theorem cl1_any (x y : Inf) (W : World) : Calls Tryz.prog 58 #[ifv x, ifv y] W fun e w' => e = .returned (.int .i64 (cmpI x.i y.i)) ∧ ∃ q os', w' = grow (W.drewN q) os' := by
  obtain ⟨g, q, c, i, b, r⟩ := x
  obtain ⟨g', q', c', i', b', r'⟩ := y
  unfold ifv
  simp only
  go_enter Tryz.func58, Tryz.ntmps58
  go_wp2_with (go_at_call 59; refine (cmp_any _ _ _).mono ?_; rintro e w' ⟨rfl, rfl⟩)
  go_ret
  exact ⟨rfl, 0, _, by rw [alloc_eq_grow, alloc_eq_grow, grow_grow]; rfl⟩

/-- By Seq, then by how many segments. -/
def cmpG (q q' : Int) (n n' : Nat) : Int := orI (cmpI q q') (cmpI n n')
set_option maxHeartbeats 1000000 in
theorem cl2_any (q r : Int) (a : Option Addr) (n c : Nat) (q' r' : Int) (a' : Option Addr) (n' c' : Nat) (W : World) :
    Calls Tryz.prog 63 #[.agg #[.int .i64 q, .int .i64 r, .slice a n c], .agg #[.int .i64 q', .int .i64 r', .slice a' n' c']] W fun e w' => e = .returned (.int .i64 (cmpG q q' n n')) ∧ ∃ q os', w' = grow (W.drewN q) os' := by
  obtain ⟨X, hX⟩ : ∃ X, X = (W.alloc (.cells #[.int .i64 q, .int .i64 r, .slice a n c] 63 (0, 0))).alloc (.cells #[.int .i64 q', .int .i64 r', .slice a' n' c'] 63 (0, 0)) := ⟨_, rfl⟩
  have x0 : X.cell? ⟨W.heap.size, 0, none⟩ = some (.int .i64 q) := by rw [hX]; simp
  have x2 : X.cell? ⟨W.heap.size, 2, none⟩ = some (.slice a n c) := by rw [hX]; simp
  have y0 : X.cell? ⟨W.heap.size + 1, 0, none⟩ = some (.int .i64 q') := by rw [hX]; simp
  have y2 : X.cell? ⟨W.heap.size + 1, 2, none⟩ = some (.slice a' n' c') := by rw [hX]; simp
  have HX := Lib.hid hX
  have HG1 : Hid (W.heap.size < X.heap.size) := Lib.hid (by rw [hX]; simp; omega)
  have HG2 : Hid (W.heap.size + 1 < X.heap.size) := Lib.hid (by rw [hX]; simp)
  obtain ⟨g, hg⟩ : ∃ g, g = W.heap.size := ⟨_, rfl⟩
  rw [← hg] at x0 x2 y0 y2 HG1 HG2
  obtain ⟨k, hk⟩ : ∃ k, k = cmpI q q' := ⟨_, rfl⟩
  obtain ⟨l, hl⟩ : ∃ l, l = cmpI n n' := ⟨_, rfl⟩
  have h1 : ∀ w, Calls Tryz.prog 59 #[.int .i64 q, .int .i64 q'] w fun e w' => e = .returned (.int .i64 k) ∧ w' = w := by rw [hk]; exact cmp_any q q'
  have h2 : ∀ w, Calls Tryz.prog 59 #[.int .i64 n, .int .i64 n'] w fun e w' => e = .returned (.int .i64 l) ∧ w' = w := by rw [hl]; exact cmp_any n n'
  unfold cmpG
  rw [← hk, ← hl]
  clear hk hl
  go_enter Tryz.func63, Tryz.ntmps63
  go_wp2_with (fail)
  rw [← hX, ← hg]
  clear hX hg
  refine wp_region_held_drew (S := (fun w' => w'.cell? ⟨g, 0, none⟩ = some (.int .i64 q) ∧ w'.cell? ⟨g, 2, none⟩ = some (.slice a n c) ∧ w'.cell? ⟨g + 1, 0, none⟩ = some (.int .i64 q') ∧ w'.cell? ⟨g + 1, 2, none⟩ = some (.slice a' n' c'))) (by kernel_rfl) ?_ (fun hHeld => ?_)
  · exact ⟨x0, x2, y0, y2⟩
  refine rgY 0 ?_ rfl (by kernel_rfl) (fun _ _ _ h => h) (.inl ⟨by rfl, fun w hSw => ?_⟩) (by assumption) ?_
  rotate_left
  · (try dsimp only at hSw); go_simp; try with_reducible rfl
  simp only [Act.put, rg1, rg2, rg3, rg4, rg6]
  refine rgY 1 ?_ rfl (by kernel_rfl) (fun _ _ _ h => h) (.inl ⟨by rfl, fun w hSw => ?_⟩) (by assumption) ?_
  rotate_left
  · (try dsimp only at hSw); go_simp; try with_reducible rfl
  simp only [Act.put, rg1, rg2, rg3, rg4, rg5, rg6]
  refine rgY 2 ?_ rfl (by kernel_rfl) (fun _ _ _ h => h) (.inl ⟨by rfl, fun w hSw => ?_⟩) (by assumption) ?_
  rotate_left
  · (try dsimp only at hSw); go_simp; try with_reducible rfl
  simp only [Act.put, rg1, rg2, rg3, rg4, rg5, rg6]
  refine rgY 3 ?_ rfl (by kernel_rfl) (fun _ _ _ h => h) (.inl ⟨by rfl, fun w hSw => ?_⟩) (by assumption) ?_
  rotate_left
  · (try dsimp only at hSw); go_simp; try with_reducible rfl
  simp only [Act.put, rg1, rg2, rg3, rg4, rg5, rg6]
  refine rgY 5 ?_ rfl (by kernel_rfl) (fun _ _ _ h => h) (.inl ⟨by rfl, fun w hSw => ?_⟩) (by assumption) ?_
  rotate_left
  · (try dsimp only at hSw); go_simp; try with_reducible rfl
  simp only [Act.put, rg1, rg2, rg3, rg4, rg5, rg6]
  refine rgY 6 ?_ rfl (by kernel_rfl) (fun _ _ _ h => h) (.inl ⟨by rfl, fun w hSw => ?_⟩) (by assumption) ?_
  rotate_left
  · (try dsimp only at hSw); go_simp; try with_reducible rfl
  simp only [Act.put, rg1, rg2, rg3, rg4, rg5, rg6]
  refine rgY 7 ?_ rfl (by kernel_rfl) (fun _ _ _ h => h) (.inl ⟨by rfl, fun w hSw => ?_⟩) (by assumption) ?_
  rotate_left
  · (try dsimp only at hSw); go_simp; try with_reducible rfl
  simp only [Act.put, rg1, rg2, rg3, rg4, rg5, rg6]
  refine rgY 8 ?_ rfl (by kernel_rfl) (fun _ _ _ h => h) (.inl ⟨by rfl, fun w hSw => ?_⟩) (by assumption) ?_
  rotate_left
  · (try dsimp only at hSw); go_simp; try with_reducible rfl
  simp only [Act.put, rg1, rg2, rg3, rg4, rg5, rg6]
  refine rgY 9 ?_ rfl (by kernel_rfl) (fun _ _ _ h => h) (.inl ⟨by rfl, fun w hSw => ?_⟩) (by assumption) ?_
  rotate_left
  · (try dsimp only at hSw); go_simp; try with_reducible rfl
  simp only [Act.put, rg1, rg2, rg3, rg4, rg5, rg6]
  refine rgY 10 ?_ rfl (by kernel_rfl) (fun _ _ _ h => h) (.inl ⟨by rfl, fun w hSw => ?_⟩) (by assumption) ?_
  rotate_left
  · (try dsimp only at hSw); go_simp; try with_reducible rfl
  simp only [Act.put, rg1, rg2, rg3, rg4, rg5, rg6]
  refine wpAnyH_ready (rs := [4]) (by kernel_rfl) (by simp) ?_
  refine AllReadyH.cons rfl (fun K hK => ?_) AllReadyH.nil
  simp only [List.getElem_toArray, List.getElem_cons_succ, List.getElem_cons_zero]
  go_simp
  refine (h1 _).mono ?_
  rintro e w4 ⟨rfl, rfl⟩
  go_wp2_with (fail)
  refine hK.out _ _ ⟨x0, x2, y0, y2⟩ (fun hHeld => ?_)
  clear hK K
  refine wpAnyH_ready (rs := [11]) (by kernel_rfl) (by simp) ?_
  refine AllReadyH.cons rfl (fun K hK => ?_) AllReadyH.nil
  simp only [List.getElem_toArray, List.getElem_cons_succ, List.getElem_cons_zero]
  go_simp
  refine (h2 _).mono ?_
  rintro e w5 ⟨rfl, rfl⟩
  go_wp2_with (fail)
  refine hK.out _ _ ⟨x0, x2, y0, y2⟩ (fun hHeld => ?_)
  clear hK K
  refine wpAnyH_ready (rs := [12]) (by kernel_rfl) (by simp) ?_
  refine AllReadyH.cons rfl (fun K hK => ?_) AllReadyH.nil
  simp only [List.getElem_toArray, List.getElem_cons_succ, List.getElem_cons_zero]
  go_simp
  have hb5 : Below X.heap.size X ((X.alloc (.cells #[.int .i64 k, .int .i64 l] 3 (0, 0))).drew) := below_drewN ((Below.refl _ _).alloc (Nat.le_refl _) _) 1
  have z0 : ((X.alloc (.cells #[.int .i64 k, .int .i64 l] 3 (0, 0))).drew).cell? ⟨X.heap.size, 0, none⟩ = some (.int .i64 k) := by
    show (X.alloc (.cells #[.int .i64 k, .int .i64 l] 3 (0, 0))).cell? ⟨X.heap.size, 0, none⟩ = _
    simp
  have z1 : ((X.alloc (.cells #[.int .i64 k, .int .i64 l] 3 (0, 0))).drew).cell? ⟨X.heap.size, 1, none⟩ = some (.int .i64 l) := by
    show (X.alloc (.cells #[.int .i64 k, .int .i64 l] 3 (0, 0))).cell? ⟨X.heap.size, 1, none⟩ = _
    simp
  have HU := Lib.hid (And.intro ((hb5.cell (p := ⟨g, 0, none⟩) HG1.out).trans x0) (And.intro ((hb5.cell (p := ⟨g, 2, none⟩) HG1.out).trans x2) (And.intro ((hb5.cell (p := ⟨g + 1, 0, none⟩) HG2.out).trans y0) ((hb5.cell (p := ⟨g + 1, 2, none⟩) HG2.out).trans y2))))
  refine hK.out _ _ HU.out (fun hHeld => ?_)
  clear hK K hb5
  have hor := or_any X.heap.size 2 k l _ z0 z1
  clear z0 z1 x0 x2 y0 y2
  refine wpAnyH_ready (rs := [13]) (by kernel_rfl) (by simp) ?_
  refine AllReadyH.cons rfl (fun K hK => ?_) AllReadyH.nil
  simp only [List.getElem_toArray, List.getElem_cons_succ, List.getElem_cons_zero]
  go_simp
  refine hor.mono ?_
  rintro e w6 ⟨rfl, rfl⟩
  go_wp2_with (fail)
  refine hK.out _ _ HU.out (fun hHeld => ?_)
  clear hK K
  refine rgY 14 ?_ rfl (by kernel_rfl) (fun _ _ _ h => h) (.inl ⟨by rfl, fun w hSw => ?_⟩) (by assumption) ?_
  rotate_left
  · (try dsimp only at hSw); go_simp; try with_reducible rfl
  simp only [Act.put, rg1, rg2, rg3, rg4, rg5, rg6]
  refine wpAnyH_done (by kernel_rfl) ?_ _
  go_wp2_with (fail)
  go_ret
  refine ⟨rfl, 1, #[.cells #[.int .i64 q, .int .i64 r, .slice a n c] 63 (0, 0), .cells #[.int .i64 q', .int .i64 r', .slice a' n' c'] 63 (0, 0), .cells #[.int .i64 k, .int .i64 l] 3 (0, 0)], ?_⟩
  rw [HX.out]
  rw [alloc_eq_grow, alloc_eq_grow, alloc_eq_grow, grow_grow, grow_grow]
  rfl
end Go.Proofs.YtacnhlmhibhlhaaGreat
