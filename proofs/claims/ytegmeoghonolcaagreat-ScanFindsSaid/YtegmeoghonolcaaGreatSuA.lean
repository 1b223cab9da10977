/-
  Is a summary right? The program's, by one contract for every way out.
-/
import Derived.Test.YtegmeoghonolcaaGreatSu0
set_option linter.unusedSimpArgs false
set_option linter.unusedVariables false
namespace Go.Proofs.YtegmeoghonolcaaGreat
open Go.RowKit
set_option linter.unusedVariables false

set_option maxRecDepth 100000 in
set_option maxHeartbeats 2000000 in
theorem isRight_0 (d r s c i n t : Int) (w : World)  (h0 : ¬ (Rt d r s)) :
    Calls Tryz.prog 49 #[gv d r s, umv c i n t] w fun e w' => e = .returned (.bool false) ∧ Below w.heap.size w w' := by
  obtain ⟨X, hX⟩ : ∃ X, X = (w.alloc (.cells #[.int .i64 d, .int .i64 r, .int .i64 s] 33 (0, 0))).alloc (.cells #[.int .i64 c, .int .i64 i, .int .i64 n, .int .i64 t] 57 (0, 0)) := ⟨_, rfl⟩
  have hu : Gu X w.heap.size d r s c i n t := by rw [hX]; exact Gu.mk' w d r s c i n t
  have hB : Below w.heap.size w X := by rw [hX]; exact bel2 _ _ _
  obtain ⟨g, hg⟩ : ∃ g, g = w.heap.size := ⟨_, rfl⟩
  have HB := Lib.hid hB
  rw [← hg] at hu
  have HU := Lib.hid hu.drew
  clear hu hB
  unfold umv
  skip
  go_enter Tryz.func49, Tryz.ntmps49
  go_wp2_with (fail)
  rw [← hX, ← hg]
  clear hX hg
  refine wp_region_held_drew (S := (fun w' => w'.cell? ⟨g, 0, none⟩ = some (.int .i64 d) ∧ w'.cell? ⟨g, 1, none⟩ = some (.int .i64 r) ∧ w'.cell? ⟨g, 2, none⟩ = some (.int .i64 s) ∧ w'.cell? ⟨g + 1, 0, none⟩ = some (.int .i64 c) ∧ w'.cell? ⟨g + 1, 1, none⟩ = some (.int .i64 i) ∧ w'.cell? ⟨g + 1, 2, none⟩ = some (.int .i64 n) ∧ w'.cell? ⟨g + 1, 3, none⟩ = some (.int .i64 t))) (by kernel_rfl) ?_ (fun hHeld => ?_)
  · exact ⟨HU.out.b0, HU.out.b1, HU.out.b2, HU.out.u0, HU.out.u1, HU.out.u2, HU.out.u3⟩
  have HB1 : Hid (Below w.heap.size w X.drew) := below_drewN HB.out 1
  generalize hX1 : X.drew = X1 at *
  clear hX1 HB
  rename Hid (Below _ w _) => HB
  refine rgY 0 ?_ rfl (by kernel_rfl) (fun _ _ _ h => h) (.inl ⟨by rfl, fun w hSw => ?_⟩) (by assumption) ?_
  rotate_left
  · (try dsimp only at hSw); go_simp; try with_reducible rfl
  simp only [Act.put, rg1, rg2, rg3, rg4, rg6]
  refine wpAnyH_ready (rs := [1]) (by kernel_rfl) (by simp) ?_
  refine AllReadyH.cons rfl (fun K hK => ?_) AllReadyH.nil
  simp only [List.getElem_toArray, List.getElem_cons_succ, List.getElem_cons_zero]
  go_simp
  refine (right_no d r s _ h0).mono ?_
  rintro e w2 ⟨rfl, hb2⟩
  have HU2 := Lib.hid (HU.out.next hb2)
  have HB2 := Lib.hid (HB.out.trans (hb2.mono (by have := HB.out.size; exact this)))
  clear hb2
  go_wp2_with (fail)
  refine hK.out _ _ ⟨HU2.out.b0, HU2.out.b1, HU2.out.b2, HU2.out.u0, HU2.out.u1, HU2.out.u2, HU2.out.u3⟩ (fun hHeld => ?_)
  clear hK K HU HB
  rename Hid (Gu _ _ _ _ _ _ _ _ _) => HU
  rename Hid (Below _ w _) => HB
  refine rgY 2 ?_ rfl (by kernel_rfl) (fun _ _ _ h => h) (.inl ⟨by rfl, fun w hSw => ?_⟩) (by assumption) ?_
  rotate_left
  · (try dsimp only at hSw); go_simp; try with_reducible rfl
  simp only [Act.put, rg1, rg2, rg3, rg4, rg5, rg6]
  refine rgY 3 undef rfl (by kernel_rfl) (fun _ _ _ h => h) (.inr ⟨by rfl, rfl⟩) (by assumption) ?_
  simp only [Act.put, rg1, rg2, rg3, rg4, rg5, rg6]
  refine rgY 4 undef rfl (by kernel_rfl) (fun _ _ _ h => h) (.inr ⟨by rfl, rfl⟩) (by assumption) ?_
  simp only [Act.put, rg1, rg2, rg3, rg4, rg5, rg6]
  refine rgY 5 undef rfl (by kernel_rfl) (fun _ _ _ h => h) (.inr ⟨by rfl, rfl⟩) (by assumption) ?_
  simp only [Act.put, rg1, rg2, rg3, rg4, rg5, rg6]
  refine rgY 6 ?_ rfl (by kernel_rfl) (fun _ _ _ h => h) (.inl ⟨by rfl, fun w hSw => ?_⟩) (by assumption) ?_
  rotate_left
  · (try dsimp only at hSw); go_simp; try with_reducible rfl
  simp only [Act.put, rg1, rg2, rg3, rg4, rg5, rg6]
  refine rgY 7 ?_ rfl (by kernel_rfl) (fun _ _ _ h => h) (.inl ⟨by rfl, fun w hSw => ?_⟩) (by assumption) ?_
  rotate_left
  · (try dsimp only at hSw); go_simp; try with_reducible rfl
  simp only [Act.put, rg1, rg2, rg3, rg4, rg5, rg6]
  refine rgY 8 undef rfl (by kernel_rfl) (fun _ _ _ h => h) (.inr ⟨by rfl, rfl⟩) (by assumption) ?_
  simp only [Act.put, rg1, rg2, rg3, rg4, rg5, rg6]
  refine rgY 9 undef rfl (by kernel_rfl) (fun _ _ _ h => h) (.inr ⟨by rfl, rfl⟩) (by assumption) ?_
  simp only [Act.put, rg1, rg2, rg3, rg4, rg5, rg6]
  refine rgY 10 undef rfl (by kernel_rfl) (fun _ _ _ h => h) (.inr ⟨by rfl, rfl⟩) (by assumption) ?_
  simp only [Act.put, rg1, rg2, rg3, rg4, rg5, rg6]
  refine rgY 11 undef rfl (by kernel_rfl) (fun _ _ _ h => h) (.inr ⟨by rfl, rfl⟩) (by assumption) ?_
  simp only [Act.put, rg1, rg2, rg3, rg4, rg5, rg6]
  refine rgY 12 undef rfl (by kernel_rfl) (fun _ _ _ h => h) (.inr ⟨by rfl, rfl⟩) (by assumption) ?_
  simp only [Act.put, rg1, rg2, rg3, rg4, rg5, rg6]
  refine rgY 13 ?_ rfl (by kernel_rfl) (fun _ _ _ h => h) (.inl ⟨by rfl, fun w hSw => ?_⟩) (by assumption) ?_
  rotate_left
  · (try dsimp only at hSw); go_simp; try with_reducible rfl
  simp only [Act.put, rg1, rg2, rg3, rg4, rg5, rg6]
  refine rgY 14 ?_ rfl (by kernel_rfl) (fun _ _ _ h => h) (.inl ⟨by rfl, fun w hSw => ?_⟩) (by assumption) ?_
  rotate_left
  · (try dsimp only at hSw); go_simp; try with_reducible rfl
  simp only [Act.put, rg1, rg2, rg3, rg4, rg5, rg6]
  refine rgY 15 undef rfl (by kernel_rfl) (fun _ _ _ h => h) (.inr ⟨by rfl, rfl⟩) (by assumption) ?_
  simp only [Act.put, rg1, rg2, rg3, rg4, rg5, rg6]
  refine rgY 16 undef rfl (by kernel_rfl) (fun _ _ _ h => h) (.inr ⟨by rfl, rfl⟩) (by assumption) ?_
  simp only [Act.put, rg1, rg2, rg3, rg4, rg5, rg6]
  refine rgY 17 undef rfl (by kernel_rfl) (fun _ _ _ h => h) (.inr ⟨by rfl, rfl⟩) (by assumption) ?_
  simp only [Act.put, rg1, rg2, rg3, rg4, rg5, rg6]
  refine rgY 18 ?_ rfl (by kernel_rfl) (fun _ _ _ h => h) (.inl ⟨by rfl, fun w hSw => ?_⟩) (by assumption) ?_
  rotate_left
  · (try dsimp only at hSw); go_simp; try with_reducible rfl
  simp only [Act.put, rg1, rg2, rg3, rg4, rg5, rg6]
  refine rgY 19 ?_ rfl (by kernel_rfl) (fun _ _ _ h => h) (.inl ⟨by rfl, fun w hSw => ?_⟩) (by assumption) ?_
  rotate_left
  · (try dsimp only at hSw); go_simp; try with_reducible rfl
  simp only [Act.put, rg1, rg2, rg3, rg4, rg5, rg6]
  refine rgY 20 undef rfl (by kernel_rfl) (fun _ _ _ h => h) (.inr ⟨by rfl, rfl⟩) (by assumption) ?_
  simp only [Act.put, rg1, rg2, rg3, rg4, rg5, rg6]
  refine rgY 21 undef rfl (by kernel_rfl) (fun _ _ _ h => h) (.inr ⟨by rfl, rfl⟩) (by assumption) ?_
  simp only [Act.put, rg1, rg2, rg3, rg4, rg5, rg6]
  refine rgY 22 undef rfl (by kernel_rfl) (fun _ _ _ h => h) (.inr ⟨by rfl, rfl⟩) (by assumption) ?_
  simp only [Act.put, rg1, rg2, rg3, rg4, rg5, rg6]
  refine rgY 23 undef rfl (by kernel_rfl) (fun _ _ _ h => h) (.inr ⟨by rfl, rfl⟩) (by assumption) ?_
  simp only [Act.put, rg1, rg2, rg3, rg4, rg5, rg6]
  refine rgY 24 undef rfl (by kernel_rfl) (fun _ _ _ h => h) (.inr ⟨by rfl, rfl⟩) (by assumption) ?_
  simp only [Act.put, rg1, rg2, rg3, rg4, rg5, rg6]
  refine rgY 25 ?_ rfl (by kernel_rfl) (fun _ _ _ h => h) (.inl ⟨by rfl, fun w hSw => ?_⟩) (by assumption) ?_
  rotate_left
  · (try dsimp only at hSw); go_simp; try with_reducible rfl
  simp only [Act.put, rg1, rg2, rg3, rg4, rg5, rg6]
  refine rgY 26 ?_ rfl (by kernel_rfl) (fun _ _ _ h => h) (.inl ⟨by rfl, fun w hSw => ?_⟩) (by assumption) ?_
  rotate_left
  · (try dsimp only at hSw); go_simp; try with_reducible rfl
  simp only [Act.put, rg1, rg2, rg3, rg4, rg5, rg6]
  refine rgY 27 undef rfl (by kernel_rfl) (fun _ _ _ h => h) (.inr ⟨by rfl, rfl⟩) (by assumption) ?_
  simp only [Act.put, rg1, rg2, rg3, rg4, rg5, rg6]
  refine rgY 28 undef rfl (by kernel_rfl) (fun _ _ _ h => h) (.inr ⟨by rfl, rfl⟩) (by assumption) ?_
  simp only [Act.put, rg1, rg2, rg3, rg4, rg5, rg6]
  refine rgY 29 undef rfl (by kernel_rfl) (fun _ _ _ h => h) (.inr ⟨by rfl, rfl⟩) (by assumption) ?_
  simp only [Act.put, rg1, rg2, rg3, rg4, rg5, rg6]
  refine rgY 30 ?_ rfl (by kernel_rfl) (fun _ _ _ h => h) (.inl ⟨by rfl, fun w hSw => ?_⟩) (by assumption) ?_
  rotate_left
  · (try dsimp only at hSw); go_simp; try with_reducible rfl
  simp only [Act.put, rg1, rg2, rg3, rg4, rg5, rg6]
  refine rgY 31 ?_ rfl (by kernel_rfl) (fun _ _ _ h => h) (.inl ⟨by rfl, fun w hSw => ?_⟩) (by assumption) ?_
  rotate_left
  · (try dsimp only at hSw); go_simp; try with_reducible rfl
  simp only [Act.put, rg1, rg2, rg3, rg4, rg5, rg6]
  refine rgY 32 undef rfl (by kernel_rfl) (fun _ _ _ h => h) (.inr ⟨by rfl, rfl⟩) (by assumption) ?_
  simp only [Act.put, rg1, rg2, rg3, rg4, rg5, rg6]
  refine rgY 33 undef rfl (by kernel_rfl) (fun _ _ _ h => h) (.inr ⟨by rfl, rfl⟩) (by assumption) ?_
  simp only [Act.put, rg1, rg2, rg3, rg4, rg5, rg6]
  refine rgY 34 undef rfl (by kernel_rfl) (fun _ _ _ h => h) (.inr ⟨by rfl, rfl⟩) (by assumption) ?_
  simp only [Act.put, rg1, rg2, rg3, rg4, rg5, rg6]
  refine rgY 35 undef rfl (by kernel_rfl) (fun _ _ _ h => h) (.inr ⟨by rfl, rfl⟩) (by assumption) ?_
  simp only [Act.put, rg1, rg2, rg3, rg4, rg5, rg6]
  refine rgY 36 undef rfl (by kernel_rfl) (fun _ _ _ h => h) (.inr ⟨by rfl, rfl⟩) (by assumption) ?_
  simp only [Act.put, rg1, rg2, rg3, rg4, rg5, rg6]
  refine rgY 37 ?_ rfl (by kernel_rfl) (fun _ _ _ h => h) (.inl ⟨by rfl, fun w hSw => ?_⟩) (by assumption) ?_
  rotate_left
  · (try dsimp only at hSw); go_simp; try with_reducible rfl
  simp only [Act.put, rg1, rg2, rg3, rg4, rg5, rg6]
  refine rgY 38 ?_ rfl (by kernel_rfl) (fun _ _ _ h => h) (.inl ⟨by rfl, fun w hSw => ?_⟩) (by assumption) ?_
  rotate_left
  · (try dsimp only at hSw); go_simp; try with_reducible rfl
  simp only [Act.put, rg1, rg2, rg3, rg4, rg5, rg6]
  refine rgY 39 undef rfl (by kernel_rfl) (fun _ _ _ h => h) (.inr ⟨by rfl, rfl⟩) (by assumption) ?_
  simp only [Act.put, rg1, rg2, rg3, rg4, rg5, rg6]
  refine rgY 40 undef rfl (by kernel_rfl) (fun _ _ _ h => h) (.inr ⟨by rfl, rfl⟩) (by assumption) ?_
  simp only [Act.put, rg1, rg2, rg3, rg4, rg5, rg6]
  refine rgY 41 undef rfl (by kernel_rfl) (fun _ _ _ h => h) (.inr ⟨by rfl, rfl⟩) (by assumption) ?_
  simp only [Act.put, rg1, rg2, rg3, rg4, rg5, rg6]
  refine rgY 42 ?_ rfl (by kernel_rfl) (fun _ _ _ h => h) (.inl ⟨by rfl, fun w hSw => ?_⟩) (by assumption) ?_
  rotate_left
  · (try dsimp only at hSw); go_simp; try with_reducible rfl
  simp only [Act.put, rg1, rg2, rg3, rg4, rg5, rg6]
  refine rgY 43 ?_ rfl (by kernel_rfl) (fun _ _ _ h => h) (.inl ⟨by rfl, fun w hSw => ?_⟩) (by assumption) ?_
  rotate_left
  · (try dsimp only at hSw); go_simp; try with_reducible rfl
  simp only [Act.put, rg1, rg2, rg3, rg4, rg5, rg6]
  refine wpAnyH_done (by kernel_rfl) ?_ _
  go_wp2_with (fail)
  go_ret
  exact ⟨rfl, HB.out⟩

set_option maxRecDepth 100000 in
set_option maxHeartbeats 2000000 in
theorem isRight_1 (d r s c i n t : Int) (w : World) (h0 : Rt d r s) (h1 : ¬ (1 ≤ c)) :
    Calls Tryz.prog 49 #[gv d r s, umv c i n t] w fun e w' => e = .returned (.bool false) ∧ Below w.heap.size w w' := by
  obtain ⟨X, hX⟩ : ∃ X, X = (w.alloc (.cells #[.int .i64 d, .int .i64 r, .int .i64 s] 33 (0, 0))).alloc (.cells #[.int .i64 c, .int .i64 i, .int .i64 n, .int .i64 t] 57 (0, 0)) := ⟨_, rfl⟩
  have hu : Gu X w.heap.size d r s c i n t := by rw [hX]; exact Gu.mk' w d r s c i n t
  have hB : Below w.heap.size w X := by rw [hX]; exact bel2 _ _ _
  obtain ⟨g, hg⟩ : ∃ g, g = w.heap.size := ⟨_, rfl⟩
  have HB := Lib.hid hB
  rw [← hg] at hu
  have HU := Lib.hid hu.drew
  clear hu hB
  unfold umv
  have d1 : decide (1 ≤ c) = false := decide_eq_false h1
  have H0 := Lib.hid h0
  clear h1
  obtain ⟨P, hP⟩ : ∃ P, P = PL d r := ⟨_, rfl⟩
  have hpl : ∀ w, Calls Tryz.prog 95 #[gv d r s] w fun e w' => e = .returned (.int .i64 P) ∧ Below w.heap.size w w' := by rw [hP]; exact fun w => places_yes d r s w H0.out
  clear hP
  go_enter Tryz.func49, Tryz.ntmps49
  go_wp2_with (fail)
  rw [← hX, ← hg]
  clear hX hg
  refine wp_region_held_drew (S := (fun w' => w'.cell? ⟨g, 0, none⟩ = some (.int .i64 d) ∧ w'.cell? ⟨g, 1, none⟩ = some (.int .i64 r) ∧ w'.cell? ⟨g, 2, none⟩ = some (.int .i64 s) ∧ w'.cell? ⟨g + 1, 0, none⟩ = some (.int .i64 c) ∧ w'.cell? ⟨g + 1, 1, none⟩ = some (.int .i64 i) ∧ w'.cell? ⟨g + 1, 2, none⟩ = some (.int .i64 n) ∧ w'.cell? ⟨g + 1, 3, none⟩ = some (.int .i64 t))) (by kernel_rfl) ?_ (fun hHeld => ?_)
  · exact ⟨HU.out.b0, HU.out.b1, HU.out.b2, HU.out.u0, HU.out.u1, HU.out.u2, HU.out.u3⟩
  have HB1 : Hid (Below w.heap.size w X.drew) := below_drewN HB.out 1
  generalize hX1 : X.drew = X1 at *
  clear hX1 HB
  rename Hid (Below _ w _) => HB
  refine rgY 0 ?_ rfl (by kernel_rfl) (fun _ _ _ h => h) (.inl ⟨by rfl, fun w hSw => ?_⟩) (by assumption) ?_
  rotate_left
  · (try dsimp only at hSw); go_simp; try with_reducible rfl
  simp only [Act.put, rg1, rg2, rg3, rg4, rg6]
  refine wpAnyH_ready (rs := [1]) (by kernel_rfl) (by simp) ?_
  refine AllReadyH.cons rfl (fun K hK => ?_) AllReadyH.nil
  simp only [List.getElem_toArray, List.getElem_cons_succ, List.getElem_cons_zero]
  go_simp
  refine (right_yes d r s _ H0.out).mono ?_
  rintro e w2 ⟨rfl, hb2⟩
  have HU2 := Lib.hid (HU.out.next hb2)
  have HB2 := Lib.hid (HB.out.trans (hb2.mono (by have := HB.out.size; exact this)))
  clear hb2
  go_wp2_with (fail)
  refine hK.out _ _ ⟨HU2.out.b0, HU2.out.b1, HU2.out.b2, HU2.out.u0, HU2.out.u1, HU2.out.u2, HU2.out.u3⟩ (fun hHeld => ?_)
  clear hK K HU HB
  rename Hid (Gu _ _ _ _ _ _ _ _ _) => HU
  rename Hid (Below _ w _) => HB
  refine rgY 2 ?_ rfl (by kernel_rfl) (fun _ _ _ h => h) (.inl ⟨by rfl, fun w hSw => ?_⟩) (by assumption) ?_
  rotate_left
  · (try dsimp only at hSw); go_simp; try with_reducible rfl
  simp only [Act.put, rg1, rg2, rg3, rg4, rg5, rg6]
  refine rgY 3 ?_ rfl (by kernel_rfl) (fun _ _ _ h => h) (.inl ⟨by rfl, fun w hSw => ?_⟩) (by assumption) ?_
  rotate_left
  · (try dsimp only at hSw); go_simp; try with_reducible rfl
  simp only [Act.put, rg1, rg2, rg3, rg4, rg5, rg6]
  refine rgY 4 ?_ rfl (by kernel_rfl) (fun _ _ _ h => h) (.inl ⟨by rfl, fun w hSw => ?_⟩) (by assumption) ?_
  rotate_left
  · (try dsimp only at hSw); go_simp; try with_reducible rfl
  simp only [Act.put, rg1, rg2, rg3, rg4, rg5, rg6]
  refine rgY 5 ?_ rfl (by kernel_rfl) (fun _ _ _ h => h) (.inl ⟨by rfl, fun w hSw => ?_⟩) (by assumption) ?_
  rotate_left
  · (try dsimp only at hSw); go_simp; try with_reducible rfl
  simp only [Act.put, rg1, rg2, rg3, rg4, rg5, rg6]
  refine rgY 6 ?_ rfl (by kernel_rfl) (fun _ _ _ h => h) (.inl ⟨by rfl, fun w hSw => ?_⟩) (by assumption) ?_
  rotate_left
  · (try dsimp only at hSw); go_simp; try with_reducible rfl
  simp only [Act.put, rg1, rg2, rg3, rg4, rg5, rg6]
  refine rgY 7 ?_ rfl (by kernel_rfl) (fun _ _ _ h => h) (.inl ⟨by rfl, fun w hSw => ?_⟩) (by assumption) ?_
  rotate_left
  · (try dsimp only at hSw); go_simp; try with_reducible rfl
  simp only [Act.put, rg1, rg2, rg3, rg4, rg5, rg6]
  refine rgY 8 undef rfl (by kernel_rfl) (fun _ _ _ h => h) (.inr ⟨by rfl, rfl⟩) (by assumption) ?_
  simp only [Act.put, rg1, rg2, rg3, rg4, rg5, rg6]
  refine rgY 9 undef rfl (by kernel_rfl) (fun _ _ _ h => h) (.inr ⟨by rfl, rfl⟩) (by assumption) ?_
  simp only [Act.put, rg1, rg2, rg3, rg4, rg5, rg6]
  refine rgY 10 undef rfl (by kernel_rfl) (fun _ _ _ h => h) (.inr ⟨by rfl, rfl⟩) (by assumption) ?_
  simp only [Act.put, rg1, rg2, rg3, rg4, rg5, rg6]
  refine rgY 11 undef rfl (by kernel_rfl) (fun _ _ _ h => h) (.inr ⟨by rfl, rfl⟩) (by assumption) ?_
  simp only [Act.put, rg1, rg2, rg3, rg4, rg5, rg6]
  refine rgY 12 undef rfl (by kernel_rfl) (fun _ _ _ h => h) (.inr ⟨by rfl, rfl⟩) (by assumption) ?_
  simp only [Act.put, rg1, rg2, rg3, rg4, rg5, rg6]
  refine rgY 13 ?_ rfl (by kernel_rfl) (fun _ _ _ h => h) (.inl ⟨by rfl, fun w hSw => ?_⟩) (by assumption) ?_
  rotate_left
  · (try dsimp only at hSw); go_simp; try with_reducible rfl
  simp only [Act.put, rg1, rg2, rg3, rg4, rg5, rg6]
  refine rgY 14 ?_ rfl (by kernel_rfl) (fun _ _ _ h => h) (.inl ⟨by rfl, fun w hSw => ?_⟩) (by assumption) ?_
  rotate_left
  · (try dsimp only at hSw); go_simp; try with_reducible rfl
  simp only [Act.put, rg1, rg2, rg3, rg4, rg5, rg6]
  refine rgY 15 undef rfl (by kernel_rfl) (fun _ _ _ h => h) (.inr ⟨by rfl, rfl⟩) (by assumption) ?_
  simp only [Act.put, rg1, rg2, rg3, rg4, rg5, rg6]
  refine rgY 16 undef rfl (by kernel_rfl) (fun _ _ _ h => h) (.inr ⟨by rfl, rfl⟩) (by assumption) ?_
  simp only [Act.put, rg1, rg2, rg3, rg4, rg5, rg6]
  refine rgY 17 undef rfl (by kernel_rfl) (fun _ _ _ h => h) (.inr ⟨by rfl, rfl⟩) (by assumption) ?_
  simp only [Act.put, rg1, rg2, rg3, rg4, rg5, rg6]
  refine rgY 18 ?_ rfl (by kernel_rfl) (fun _ _ _ h => h) (.inl ⟨by rfl, fun w hSw => ?_⟩) (by assumption) ?_
  rotate_left
  · (try dsimp only at hSw); go_simp; try with_reducible rfl
  simp only [Act.put, rg1, rg2, rg3, rg4, rg5, rg6]
  refine rgY 19 ?_ rfl (by kernel_rfl) (fun _ _ _ h => h) (.inl ⟨by rfl, fun w hSw => ?_⟩) (by assumption) ?_
  rotate_left
  · (try dsimp only at hSw); go_simp; try with_reducible rfl
  simp only [Act.put, rg1, rg2, rg3, rg4, rg5, rg6]
  refine rgY 20 undef rfl (by kernel_rfl) (fun _ _ _ h => h) (.inr ⟨by rfl, rfl⟩) (by assumption) ?_
  simp only [Act.put, rg1, rg2, rg3, rg4, rg5, rg6]
  refine rgY 21 undef rfl (by kernel_rfl) (fun _ _ _ h => h) (.inr ⟨by rfl, rfl⟩) (by assumption) ?_
  simp only [Act.put, rg1, rg2, rg3, rg4, rg5, rg6]
  refine rgY 22 undef rfl (by kernel_rfl) (fun _ _ _ h => h) (.inr ⟨by rfl, rfl⟩) (by assumption) ?_
  simp only [Act.put, rg1, rg2, rg3, rg4, rg5, rg6]
  refine rgY 23 undef rfl (by kernel_rfl) (fun _ _ _ h => h) (.inr ⟨by rfl, rfl⟩) (by assumption) ?_
  simp only [Act.put, rg1, rg2, rg3, rg4, rg5, rg6]
  refine rgY 24 undef rfl (by kernel_rfl) (fun _ _ _ h => h) (.inr ⟨by rfl, rfl⟩) (by assumption) ?_
  simp only [Act.put, rg1, rg2, rg3, rg4, rg5, rg6]
  refine rgY 25 ?_ rfl (by kernel_rfl) (fun _ _ _ h => h) (.inl ⟨by rfl, fun w hSw => ?_⟩) (by assumption) ?_
  rotate_left
  · (try dsimp only at hSw); go_simp; try with_reducible rfl
  simp only [Act.put, rg1, rg2, rg3, rg4, rg5, rg6]
  refine rgY 26 ?_ rfl (by kernel_rfl) (fun _ _ _ h => h) (.inl ⟨by rfl, fun w hSw => ?_⟩) (by assumption) ?_
  rotate_left
  · (try dsimp only at hSw); go_simp; try with_reducible rfl
  simp only [Act.put, rg1, rg2, rg3, rg4, rg5, rg6]
  refine rgY 27 undef rfl (by kernel_rfl) (fun _ _ _ h => h) (.inr ⟨by rfl, rfl⟩) (by assumption) ?_
  simp only [Act.put, rg1, rg2, rg3, rg4, rg5, rg6]
  refine rgY 28 undef rfl (by kernel_rfl) (fun _ _ _ h => h) (.inr ⟨by rfl, rfl⟩) (by assumption) ?_
  simp only [Act.put, rg1, rg2, rg3, rg4, rg5, rg6]
  refine rgY 29 undef rfl (by kernel_rfl) (fun _ _ _ h => h) (.inr ⟨by rfl, rfl⟩) (by assumption) ?_
  simp only [Act.put, rg1, rg2, rg3, rg4, rg5, rg6]
  refine rgY 30 ?_ rfl (by kernel_rfl) (fun _ _ _ h => h) (.inl ⟨by rfl, fun w hSw => ?_⟩) (by assumption) ?_
  rotate_left
  · (try dsimp only at hSw); go_simp; try with_reducible rfl
  simp only [Act.put, rg1, rg2, rg3, rg4, rg5, rg6]
  refine rgY 31 ?_ rfl (by kernel_rfl) (fun _ _ _ h => h) (.inl ⟨by rfl, fun w hSw => ?_⟩) (by assumption) ?_
  rotate_left
  · (try dsimp only at hSw); go_simp; try with_reducible rfl
  simp only [Act.put, rg1, rg2, rg3, rg4, rg5, rg6]
  refine rgY 32 undef rfl (by kernel_rfl) (fun _ _ _ h => h) (.inr ⟨by rfl, rfl⟩) (by assumption) ?_
  simp only [Act.put, rg1, rg2, rg3, rg4, rg5, rg6]
  refine rgY 33 undef rfl (by kernel_rfl) (fun _ _ _ h => h) (.inr ⟨by rfl, rfl⟩) (by assumption) ?_
  simp only [Act.put, rg1, rg2, rg3, rg4, rg5, rg6]
  refine rgY 34 undef rfl (by kernel_rfl) (fun _ _ _ h => h) (.inr ⟨by rfl, rfl⟩) (by assumption) ?_
  simp only [Act.put, rg1, rg2, rg3, rg4, rg5, rg6]
  refine rgY 35 undef rfl (by kernel_rfl) (fun _ _ _ h => h) (.inr ⟨by rfl, rfl⟩) (by assumption) ?_
  simp only [Act.put, rg1, rg2, rg3, rg4, rg5, rg6]
  refine rgY 36 undef rfl (by kernel_rfl) (fun _ _ _ h => h) (.inr ⟨by rfl, rfl⟩) (by assumption) ?_
  simp only [Act.put, rg1, rg2, rg3, rg4, rg5, rg6]
  refine rgY 37 ?_ rfl (by kernel_rfl) (fun _ _ _ h => h) (.inl ⟨by rfl, fun w hSw => ?_⟩) (by assumption) ?_
  rotate_left
  · (try dsimp only at hSw); go_simp; try with_reducible rfl
  simp only [Act.put, rg1, rg2, rg3, rg4, rg5, rg6]
  refine rgY 38 ?_ rfl (by kernel_rfl) (fun _ _ _ h => h) (.inl ⟨by rfl, fun w hSw => ?_⟩) (by assumption) ?_
  rotate_left
  · (try dsimp only at hSw); go_simp; try with_reducible rfl
  simp only [Act.put, rg1, rg2, rg3, rg4, rg5, rg6]
  refine rgY 39 undef rfl (by kernel_rfl) (fun _ _ _ h => h) (.inr ⟨by rfl, rfl⟩) (by assumption) ?_
  simp only [Act.put, rg1, rg2, rg3, rg4, rg5, rg6]
  refine rgY 40 undef rfl (by kernel_rfl) (fun _ _ _ h => h) (.inr ⟨by rfl, rfl⟩) (by assumption) ?_
  simp only [Act.put, rg1, rg2, rg3, rg4, rg5, rg6]
  refine rgY 41 undef rfl (by kernel_rfl) (fun _ _ _ h => h) (.inr ⟨by rfl, rfl⟩) (by assumption) ?_
  simp only [Act.put, rg1, rg2, rg3, rg4, rg5, rg6]
  refine rgY 42 ?_ rfl (by kernel_rfl) (fun _ _ _ h => h) (.inl ⟨by rfl, fun w hSw => ?_⟩) (by assumption) ?_
  rotate_left
  · (try dsimp only at hSw); go_simp; try with_reducible rfl
  simp only [Act.put, rg1, rg2, rg3, rg4, rg5, rg6]
  refine rgY 43 ?_ rfl (by kernel_rfl) (fun _ _ _ h => h) (.inl ⟨by rfl, fun w hSw => ?_⟩) (by assumption) ?_
  rotate_left
  · (try dsimp only at hSw); go_simp; try with_reducible rfl
  simp only [Act.put, rg1, rg2, rg3, rg4, rg5, rg6]
  refine wpAnyH_done (by kernel_rfl) ?_ _
  go_wp2_with (fail)
  go_ret
  exact ⟨rfl, HB.out⟩

set_option maxRecDepth 100000 in
set_option maxHeartbeats 2000000 in
theorem isRight_2 (d r s c i n t : Int) (w : World) (h0 : Rt d r s) (h1 : 1 ≤ c) (h2 : ¬ (c ≤ s)) :
    Calls Tryz.prog 49 #[gv d r s, umv c i n t] w fun e w' => e = .returned (.bool false) ∧ Below w.heap.size w w' := by
  obtain ⟨X, hX⟩ : ∃ X, X = (w.alloc (.cells #[.int .i64 d, .int .i64 r, .int .i64 s] 33 (0, 0))).alloc (.cells #[.int .i64 c, .int .i64 i, .int .i64 n, .int .i64 t] 57 (0, 0)) := ⟨_, rfl⟩
  have hu : Gu X w.heap.size d r s c i n t := by rw [hX]; exact Gu.mk' w d r s c i n t
  have hB : Below w.heap.size w X := by rw [hX]; exact bel2 _ _ _
  obtain ⟨g, hg⟩ : ∃ g, g = w.heap.size := ⟨_, rfl⟩
  have HB := Lib.hid hB
  rw [← hg] at hu
  have HU := Lib.hid hu.drew
  clear hu hB
  unfold umv
  have d1 : decide (1 ≤ c) = true := decide_eq_true h1
  have d2 : decide (c ≤ s) = false := decide_eq_false h2
  have H0 := Lib.hid h0
  clear h1 h2
  obtain ⟨P, hP⟩ : ∃ P, P = PL d r := ⟨_, rfl⟩
  have hpl : ∀ w, Calls Tryz.prog 95 #[gv d r s] w fun e w' => e = .returned (.int .i64 P) ∧ Below w.heap.size w w' := by rw [hP]; exact fun w => places_yes d r s w H0.out
  clear hP
  go_enter Tryz.func49, Tryz.ntmps49
  go_wp2_with (fail)
  rw [← hX, ← hg]
  clear hX hg
  refine wp_region_held_drew (S := (fun w' => w'.cell? ⟨g, 0, none⟩ = some (.int .i64 d) ∧ w'.cell? ⟨g, 1, none⟩ = some (.int .i64 r) ∧ w'.cell? ⟨g, 2, none⟩ = some (.int .i64 s) ∧ w'.cell? ⟨g + 1, 0, none⟩ = some (.int .i64 c) ∧ w'.cell? ⟨g + 1, 1, none⟩ = some (.int .i64 i) ∧ w'.cell? ⟨g + 1, 2, none⟩ = some (.int .i64 n) ∧ w'.cell? ⟨g + 1, 3, none⟩ = some (.int .i64 t))) (by kernel_rfl) ?_ (fun hHeld => ?_)
  · exact ⟨HU.out.b0, HU.out.b1, HU.out.b2, HU.out.u0, HU.out.u1, HU.out.u2, HU.out.u3⟩
  have HB1 : Hid (Below w.heap.size w X.drew) := below_drewN HB.out 1
  generalize hX1 : X.drew = X1 at *
  clear hX1 HB
  rename Hid (Below _ w _) => HB
  refine rgY 0 ?_ rfl (by kernel_rfl) (fun _ _ _ h => h) (.inl ⟨by rfl, fun w hSw => ?_⟩) (by assumption) ?_
  rotate_left
  · (try dsimp only at hSw); go_simp; try with_reducible rfl
  simp only [Act.put, rg1, rg2, rg3, rg4, rg6]
  refine wpAnyH_ready (rs := [1]) (by kernel_rfl) (by simp) ?_
  refine AllReadyH.cons rfl (fun K hK => ?_) AllReadyH.nil
  simp only [List.getElem_toArray, List.getElem_cons_succ, List.getElem_cons_zero]
  go_simp
  refine (right_yes d r s _ H0.out).mono ?_
  rintro e w2 ⟨rfl, hb2⟩
  have HU2 := Lib.hid (HU.out.next hb2)
  have HB2 := Lib.hid (HB.out.trans (hb2.mono (by have := HB.out.size; exact this)))
  clear hb2
  go_wp2_with (fail)
  refine hK.out _ _ ⟨HU2.out.b0, HU2.out.b1, HU2.out.b2, HU2.out.u0, HU2.out.u1, HU2.out.u2, HU2.out.u3⟩ (fun hHeld => ?_)
  clear hK K HU HB
  rename Hid (Gu _ _ _ _ _ _ _ _ _) => HU
  rename Hid (Below _ w _) => HB
  refine rgY 2 ?_ rfl (by kernel_rfl) (fun _ _ _ h => h) (.inl ⟨by rfl, fun w hSw => ?_⟩) (by assumption) ?_
  rotate_left
  · (try dsimp only at hSw); go_simp; try with_reducible rfl
  simp only [Act.put, rg1, rg2, rg3, rg4, rg5, rg6]
  refine rgY 3 ?_ rfl (by kernel_rfl) (fun _ _ _ h => h) (.inl ⟨by rfl, fun w hSw => ?_⟩) (by assumption) ?_
  rotate_left
  · (try dsimp only at hSw); go_simp; try with_reducible rfl
  simp only [Act.put, rg1, rg2, rg3, rg4, rg5, rg6]
  refine rgY 4 ?_ rfl (by kernel_rfl) (fun _ _ _ h => h) (.inl ⟨by rfl, fun w hSw => ?_⟩) (by assumption) ?_
  rotate_left
  · (try dsimp only at hSw); go_simp; try with_reducible rfl
  simp only [Act.put, rg1, rg2, rg3, rg4, rg5, rg6]
  refine rgY 5 ?_ rfl (by kernel_rfl) (fun _ _ _ h => h) (.inl ⟨by rfl, fun w hSw => ?_⟩) (by assumption) ?_
  rotate_left
  · (try dsimp only at hSw); go_simp; try with_reducible rfl
  simp only [Act.put, rg1, rg2, rg3, rg4, rg5, rg6]
  refine rgY 6 ?_ rfl (by kernel_rfl) (fun _ _ _ h => h) (.inl ⟨by rfl, fun w hSw => ?_⟩) (by assumption) ?_
  rotate_left
  · (try dsimp only at hSw); go_simp; try with_reducible rfl
  simp only [Act.put, rg1, rg2, rg3, rg4, rg5, rg6]
  refine rgY 7 ?_ rfl (by kernel_rfl) (fun _ _ _ h => h) (.inl ⟨by rfl, fun w hSw => ?_⟩) (by assumption) ?_
  rotate_left
  · (try dsimp only at hSw); go_simp; try with_reducible rfl
  simp only [Act.put, rg1, rg2, rg3, rg4, rg5, rg6]
  refine rgY 8 ?_ rfl (by kernel_rfl) (fun _ _ _ h => h) (.inl ⟨by rfl, fun w hSw => ?_⟩) (by assumption) ?_
  rotate_left
  · (try dsimp only at hSw); go_simp; try with_reducible rfl
  simp only [Act.put, rg1, rg2, rg3, rg4, rg5, rg6]
  refine rgY 9 ?_ rfl (by kernel_rfl) (fun _ _ _ h => h) (.inl ⟨by rfl, fun w hSw => ?_⟩) (by assumption) ?_
  rotate_left
  · (try dsimp only at hSw); go_simp; try with_reducible rfl
  simp only [Act.put, rg1, rg2, rg3, rg4, rg5, rg6]
  refine rgY 10 ?_ rfl (by kernel_rfl) (fun _ _ _ h => h) (.inl ⟨by rfl, fun w hSw => ?_⟩) (by assumption) ?_
  rotate_left
  · (try dsimp only at hSw); go_simp; try with_reducible rfl
  simp only [Act.put, rg1, rg2, rg3, rg4, rg5, rg6]
  refine rgY 11 ?_ rfl (by kernel_rfl) (fun _ _ _ h => h) (.inl ⟨by rfl, fun w hSw => ?_⟩) (by assumption) ?_
  rotate_left
  · (try dsimp only at hSw); go_simp; try with_reducible rfl
  simp only [Act.put, rg1, rg2, rg3, rg4, rg5, rg6]
  refine rgY 12 ?_ rfl (by kernel_rfl) (fun _ _ _ h => h) (.inl ⟨by rfl, fun w hSw => ?_⟩) (by assumption) ?_
  rotate_left
  · (try dsimp only at hSw); go_simp; try with_reducible rfl
  simp only [Act.put, rg1, rg2, rg3, rg4, rg5, rg6]
  refine rgY 13 ?_ rfl (by kernel_rfl) (fun _ _ _ h => h) (.inl ⟨by rfl, fun w hSw => ?_⟩) (by assumption) ?_
  rotate_left
  · (try dsimp only at hSw); go_simp; try with_reducible rfl
  simp only [Act.put, rg1, rg2, rg3, rg4, rg5, rg6]
  refine rgY 14 ?_ rfl (by kernel_rfl) (fun _ _ _ h => h) (.inl ⟨by rfl, fun w hSw => ?_⟩) (by assumption) ?_
  rotate_left
  · (try dsimp only at hSw); go_simp; try with_reducible rfl
  simp only [Act.put, rg1, rg2, rg3, rg4, rg5, rg6]
  refine rgY 15 undef rfl (by kernel_rfl) (fun _ _ _ h => h) (.inr ⟨by rfl, rfl⟩) (by assumption) ?_
  simp only [Act.put, rg1, rg2, rg3, rg4, rg5, rg6]
  refine rgY 16 undef rfl (by kernel_rfl) (fun _ _ _ h => h) (.inr ⟨by rfl, rfl⟩) (by assumption) ?_
  simp only [Act.put, rg1, rg2, rg3, rg4, rg5, rg6]
  refine rgY 17 undef rfl (by kernel_rfl) (fun _ _ _ h => h) (.inr ⟨by rfl, rfl⟩) (by assumption) ?_
  simp only [Act.put, rg1, rg2, rg3, rg4, rg5, rg6]
  refine rgY 18 ?_ rfl (by kernel_rfl) (fun _ _ _ h => h) (.inl ⟨by rfl, fun w hSw => ?_⟩) (by assumption) ?_
  rotate_left
  · (try dsimp only at hSw); go_simp; try with_reducible rfl
  simp only [Act.put, rg1, rg2, rg3, rg4, rg5, rg6]
  refine rgY 19 ?_ rfl (by kernel_rfl) (fun _ _ _ h => h) (.inl ⟨by rfl, fun w hSw => ?_⟩) (by assumption) ?_
  rotate_left
  · (try dsimp only at hSw); go_simp; try with_reducible rfl
  simp only [Act.put, rg1, rg2, rg3, rg4, rg5, rg6]
  refine rgY 20 undef rfl (by kernel_rfl) (fun _ _ _ h => h) (.inr ⟨by rfl, rfl⟩) (by assumption) ?_
  simp only [Act.put, rg1, rg2, rg3, rg4, rg5, rg6]
  refine rgY 21 undef rfl (by kernel_rfl) (fun _ _ _ h => h) (.inr ⟨by rfl, rfl⟩) (by assumption) ?_
  simp only [Act.put, rg1, rg2, rg3, rg4, rg5, rg6]
  refine rgY 22 undef rfl (by kernel_rfl) (fun _ _ _ h => h) (.inr ⟨by rfl, rfl⟩) (by assumption) ?_
  simp only [Act.put, rg1, rg2, rg3, rg4, rg5, rg6]
  refine rgY 23 undef rfl (by kernel_rfl) (fun _ _ _ h => h) (.inr ⟨by rfl, rfl⟩) (by assumption) ?_
  simp only [Act.put, rg1, rg2, rg3, rg4, rg5, rg6]
  refine rgY 24 undef rfl (by kernel_rfl) (fun _ _ _ h => h) (.inr ⟨by rfl, rfl⟩) (by assumption) ?_
  simp only [Act.put, rg1, rg2, rg3, rg4, rg5, rg6]
  refine rgY 25 ?_ rfl (by kernel_rfl) (fun _ _ _ h => h) (.inl ⟨by rfl, fun w hSw => ?_⟩) (by assumption) ?_
  rotate_left
  · (try dsimp only at hSw); go_simp; try with_reducible rfl
  simp only [Act.put, rg1, rg2, rg3, rg4, rg5, rg6]
  refine rgY 26 ?_ rfl (by kernel_rfl) (fun _ _ _ h => h) (.inl ⟨by rfl, fun w hSw => ?_⟩) (by assumption) ?_
  rotate_left
  · (try dsimp only at hSw); go_simp; try with_reducible rfl
  simp only [Act.put, rg1, rg2, rg3, rg4, rg5, rg6]
  refine rgY 27 undef rfl (by kernel_rfl) (fun _ _ _ h => h) (.inr ⟨by rfl, rfl⟩) (by assumption) ?_
  simp only [Act.put, rg1, rg2, rg3, rg4, rg5, rg6]
  refine rgY 28 undef rfl (by kernel_rfl) (fun _ _ _ h => h) (.inr ⟨by rfl, rfl⟩) (by assumption) ?_
  simp only [Act.put, rg1, rg2, rg3, rg4, rg5, rg6]
  refine rgY 29 undef rfl (by kernel_rfl) (fun _ _ _ h => h) (.inr ⟨by rfl, rfl⟩) (by assumption) ?_
  simp only [Act.put, rg1, rg2, rg3, rg4, rg5, rg6]
  refine rgY 30 ?_ rfl (by kernel_rfl) (fun _ _ _ h => h) (.inl ⟨by rfl, fun w hSw => ?_⟩) (by assumption) ?_
  rotate_left
  · (try dsimp only at hSw); go_simp; try with_reducible rfl
  simp only [Act.put, rg1, rg2, rg3, rg4, rg5, rg6]
  refine rgY 31 ?_ rfl (by kernel_rfl) (fun _ _ _ h => h) (.inl ⟨by rfl, fun w hSw => ?_⟩) (by assumption) ?_
  rotate_left
  · (try dsimp only at hSw); go_simp; try with_reducible rfl
  simp only [Act.put, rg1, rg2, rg3, rg4, rg5, rg6]
  refine rgY 32 undef rfl (by kernel_rfl) (fun _ _ _ h => h) (.inr ⟨by rfl, rfl⟩) (by assumption) ?_
  simp only [Act.put, rg1, rg2, rg3, rg4, rg5, rg6]
  refine rgY 33 undef rfl (by kernel_rfl) (fun _ _ _ h => h) (.inr ⟨by rfl, rfl⟩) (by assumption) ?_
  simp only [Act.put, rg1, rg2, rg3, rg4, rg5, rg6]
  refine rgY 34 undef rfl (by kernel_rfl) (fun _ _ _ h => h) (.inr ⟨by rfl, rfl⟩) (by assumption) ?_
  simp only [Act.put, rg1, rg2, rg3, rg4, rg5, rg6]
  refine rgY 35 undef rfl (by kernel_rfl) (fun _ _ _ h => h) (.inr ⟨by rfl, rfl⟩) (by assumption) ?_
  simp only [Act.put, rg1, rg2, rg3, rg4, rg5, rg6]
  refine rgY 36 undef rfl (by kernel_rfl) (fun _ _ _ h => h) (.inr ⟨by rfl, rfl⟩) (by assumption) ?_
  simp only [Act.put, rg1, rg2, rg3, rg4, rg5, rg6]
  refine rgY 37 ?_ rfl (by kernel_rfl) (fun _ _ _ h => h) (.inl ⟨by rfl, fun w hSw => ?_⟩) (by assumption) ?_
  rotate_left
  · (try dsimp only at hSw); go_simp; try with_reducible rfl
  simp only [Act.put, rg1, rg2, rg3, rg4, rg5, rg6]
  refine rgY 38 ?_ rfl (by kernel_rfl) (fun _ _ _ h => h) (.inl ⟨by rfl, fun w hSw => ?_⟩) (by assumption) ?_
  rotate_left
  · (try dsimp only at hSw); go_simp; try with_reducible rfl
  simp only [Act.put, rg1, rg2, rg3, rg4, rg5, rg6]
  refine rgY 39 undef rfl (by kernel_rfl) (fun _ _ _ h => h) (.inr ⟨by rfl, rfl⟩) (by assumption) ?_
  simp only [Act.put, rg1, rg2, rg3, rg4, rg5, rg6]
  refine rgY 40 undef rfl (by kernel_rfl) (fun _ _ _ h => h) (.inr ⟨by rfl, rfl⟩) (by assumption) ?_
  simp only [Act.put, rg1, rg2, rg3, rg4, rg5, rg6]
  refine rgY 41 undef rfl (by kernel_rfl) (fun _ _ _ h => h) (.inr ⟨by rfl, rfl⟩) (by assumption) ?_
  simp only [Act.put, rg1, rg2, rg3, rg4, rg5, rg6]
  refine rgY 42 ?_ rfl (by kernel_rfl) (fun _ _ _ h => h) (.inl ⟨by rfl, fun w hSw => ?_⟩) (by assumption) ?_
  rotate_left
  · (try dsimp only at hSw); go_simp; try with_reducible rfl
  simp only [Act.put, rg1, rg2, rg3, rg4, rg5, rg6]
  refine rgY 43 ?_ rfl (by kernel_rfl) (fun _ _ _ h => h) (.inl ⟨by rfl, fun w hSw => ?_⟩) (by assumption) ?_
  rotate_left
  · (try dsimp only at hSw); go_simp; try with_reducible rfl
  simp only [Act.put, rg1, rg2, rg3, rg4, rg5, rg6]
  refine wpAnyH_done (by kernel_rfl) ?_ _
  go_wp2_with (fail)
  go_ret
  exact ⟨rfl, HB.out⟩

set_option maxRecDepth 100000 in
set_option maxHeartbeats 2000000 in
theorem isRight_3 (d r s c i n t : Int) (w : World) (h0 : Rt d r s) (h1 : 1 ≤ c) (h2 : c ≤ s) (h3 : ¬ (0 ≤ i)) :
    Calls Tryz.prog 49 #[gv d r s, umv c i n t] w fun e w' => e = .returned (.bool false) ∧ Below w.heap.size w w' := by
  obtain ⟨X, hX⟩ : ∃ X, X = (w.alloc (.cells #[.int .i64 d, .int .i64 r, .int .i64 s] 33 (0, 0))).alloc (.cells #[.int .i64 c, .int .i64 i, .int .i64 n, .int .i64 t] 57 (0, 0)) := ⟨_, rfl⟩
  have hu : Gu X w.heap.size d r s c i n t := by rw [hX]; exact Gu.mk' w d r s c i n t
  have hB : Below w.heap.size w X := by rw [hX]; exact bel2 _ _ _
  obtain ⟨g, hg⟩ : ∃ g, g = w.heap.size := ⟨_, rfl⟩
  have HB := Lib.hid hB
  rw [← hg] at hu
  have HU := Lib.hid hu.drew
  clear hu hB
  unfold umv
  have d1 : decide (1 ≤ c) = true := decide_eq_true h1
  have d2 : decide (c ≤ s) = true := decide_eq_true h2
  have d3 : decide (0 ≤ i) = false := decide_eq_false h3
  have H0 := Lib.hid h0
  clear h1 h2 h3
  obtain ⟨P, hP⟩ : ∃ P, P = PL d r := ⟨_, rfl⟩
  have hpl : ∀ w, Calls Tryz.prog 95 #[gv d r s] w fun e w' => e = .returned (.int .i64 P) ∧ Below w.heap.size w w' := by rw [hP]; exact fun w => places_yes d r s w H0.out
  clear hP
  go_enter Tryz.func49, Tryz.ntmps49
  go_wp2_with (fail)
  rw [← hX, ← hg]
  clear hX hg
  refine wp_region_held_drew (S := (fun w' => w'.cell? ⟨g, 0, none⟩ = some (.int .i64 d) ∧ w'.cell? ⟨g, 1, none⟩ = some (.int .i64 r) ∧ w'.cell? ⟨g, 2, none⟩ = some (.int .i64 s) ∧ w'.cell? ⟨g + 1, 0, none⟩ = some (.int .i64 c) ∧ w'.cell? ⟨g + 1, 1, none⟩ = some (.int .i64 i) ∧ w'.cell? ⟨g + 1, 2, none⟩ = some (.int .i64 n) ∧ w'.cell? ⟨g + 1, 3, none⟩ = some (.int .i64 t))) (by kernel_rfl) ?_ (fun hHeld => ?_)
  · exact ⟨HU.out.b0, HU.out.b1, HU.out.b2, HU.out.u0, HU.out.u1, HU.out.u2, HU.out.u3⟩
  have HB1 : Hid (Below w.heap.size w X.drew) := below_drewN HB.out 1
  generalize hX1 : X.drew = X1 at *
  clear hX1 HB
  rename Hid (Below _ w _) => HB
  refine rgY 0 ?_ rfl (by kernel_rfl) (fun _ _ _ h => h) (.inl ⟨by rfl, fun w hSw => ?_⟩) (by assumption) ?_
  rotate_left
  · (try dsimp only at hSw); go_simp; try with_reducible rfl
  simp only [Act.put, rg1, rg2, rg3, rg4, rg6]
  refine wpAnyH_ready (rs := [1]) (by kernel_rfl) (by simp) ?_
  refine AllReadyH.cons rfl (fun K hK => ?_) AllReadyH.nil
  simp only [List.getElem_toArray, List.getElem_cons_succ, List.getElem_cons_zero]
  go_simp
  refine (right_yes d r s _ H0.out).mono ?_
  rintro e w2 ⟨rfl, hb2⟩
  have HU2 := Lib.hid (HU.out.next hb2)
  have HB2 := Lib.hid (HB.out.trans (hb2.mono (by have := HB.out.size; exact this)))
  clear hb2
  go_wp2_with (fail)
  refine hK.out _ _ ⟨HU2.out.b0, HU2.out.b1, HU2.out.b2, HU2.out.u0, HU2.out.u1, HU2.out.u2, HU2.out.u3⟩ (fun hHeld => ?_)
  clear hK K HU HB
  rename Hid (Gu _ _ _ _ _ _ _ _ _) => HU
  rename Hid (Below _ w _) => HB
  refine rgY 2 ?_ rfl (by kernel_rfl) (fun _ _ _ h => h) (.inl ⟨by rfl, fun w hSw => ?_⟩) (by assumption) ?_
  rotate_left
  · (try dsimp only at hSw); go_simp; try with_reducible rfl
  simp only [Act.put, rg1, rg2, rg3, rg4, rg5, rg6]
  refine rgY 3 ?_ rfl (by kernel_rfl) (fun _ _ _ h => h) (.inl ⟨by rfl, fun w hSw => ?_⟩) (by assumption) ?_
  rotate_left
  · (try dsimp only at hSw); go_simp; try with_reducible rfl
  simp only [Act.put, rg1, rg2, rg3, rg4, rg5, rg6]
  refine rgY 4 ?_ rfl (by kernel_rfl) (fun _ _ _ h => h) (.inl ⟨by rfl, fun w hSw => ?_⟩) (by assumption) ?_
  rotate_left
  · (try dsimp only at hSw); go_simp; try with_reducible rfl
  simp only [Act.put, rg1, rg2, rg3, rg4, rg5, rg6]
  refine rgY 5 ?_ rfl (by kernel_rfl) (fun _ _ _ h => h) (.inl ⟨by rfl, fun w hSw => ?_⟩) (by assumption) ?_
  rotate_left
  · (try dsimp only at hSw); go_simp; try with_reducible rfl
  simp only [Act.put, rg1, rg2, rg3, rg4, rg5, rg6]
  refine rgY 6 ?_ rfl (by kernel_rfl) (fun _ _ _ h => h) (.inl ⟨by rfl, fun w hSw => ?_⟩) (by assumption) ?_
  rotate_left
  · (try dsimp only at hSw); go_simp; try with_reducible rfl
  simp only [Act.put, rg1, rg2, rg3, rg4, rg5, rg6]
  refine rgY 7 ?_ rfl (by kernel_rfl) (fun _ _ _ h => h) (.inl ⟨by rfl, fun w hSw => ?_⟩) (by assumption) ?_
  rotate_left
  · (try dsimp only at hSw); go_simp; try with_reducible rfl
  simp only [Act.put, rg1, rg2, rg3, rg4, rg5, rg6]
  refine rgY 8 ?_ rfl (by kernel_rfl) (fun _ _ _ h => h) (.inl ⟨by rfl, fun w hSw => ?_⟩) (by assumption) ?_
  rotate_left
  · (try dsimp only at hSw); go_simp; try with_reducible rfl
  simp only [Act.put, rg1, rg2, rg3, rg4, rg5, rg6]
  refine rgY 9 ?_ rfl (by kernel_rfl) (fun _ _ _ h => h) (.inl ⟨by rfl, fun w hSw => ?_⟩) (by assumption) ?_
  rotate_left
  · (try dsimp only at hSw); go_simp; try with_reducible rfl
  simp only [Act.put, rg1, rg2, rg3, rg4, rg5, rg6]
  refine rgY 10 ?_ rfl (by kernel_rfl) (fun _ _ _ h => h) (.inl ⟨by rfl, fun w hSw => ?_⟩) (by assumption) ?_
  rotate_left
  · (try dsimp only at hSw); go_simp; try with_reducible rfl
  simp only [Act.put, rg1, rg2, rg3, rg4, rg5, rg6]
  refine rgY 11 ?_ rfl (by kernel_rfl) (fun _ _ _ h => h) (.inl ⟨by rfl, fun w hSw => ?_⟩) (by assumption) ?_
  rotate_left
  · (try dsimp only at hSw); go_simp; try with_reducible rfl
  simp only [Act.put, rg1, rg2, rg3, rg4, rg5, rg6]
  refine rgY 12 ?_ rfl (by kernel_rfl) (fun _ _ _ h => h) (.inl ⟨by rfl, fun w hSw => ?_⟩) (by assumption) ?_
  rotate_left
  · (try dsimp only at hSw); go_simp; try with_reducible rfl
  simp only [Act.put, rg1, rg2, rg3, rg4, rg5, rg6]
  refine rgY 13 ?_ rfl (by kernel_rfl) (fun _ _ _ h => h) (.inl ⟨by rfl, fun w hSw => ?_⟩) (by assumption) ?_
  rotate_left
  · (try dsimp only at hSw); go_simp; try with_reducible rfl
  simp only [Act.put, rg1, rg2, rg3, rg4, rg5, rg6]
  refine rgY 14 ?_ rfl (by kernel_rfl) (fun _ _ _ h => h) (.inl ⟨by rfl, fun w hSw => ?_⟩) (by assumption) ?_
  rotate_left
  · (try dsimp only at hSw); go_simp; try with_reducible rfl
  simp only [Act.put, rg1, rg2, rg3, rg4, rg5, rg6]
  refine rgY 15 ?_ rfl (by kernel_rfl) (fun _ _ _ h => h) (.inl ⟨by rfl, fun w hSw => ?_⟩) (by assumption) ?_
  rotate_left
  · (try dsimp only at hSw); go_simp; try with_reducible rfl
  simp only [Act.put, rg1, rg2, rg3, rg4, rg5, rg6]
  refine rgY 16 ?_ rfl (by kernel_rfl) (fun _ _ _ h => h) (.inl ⟨by rfl, fun w hSw => ?_⟩) (by assumption) ?_
  rotate_left
  · (try dsimp only at hSw); go_simp; try with_reducible rfl
  simp only [Act.put, rg1, rg2, rg3, rg4, rg5, rg6]
  refine rgY 17 ?_ rfl (by kernel_rfl) (fun _ _ _ h => h) (.inl ⟨by rfl, fun w hSw => ?_⟩) (by assumption) ?_
  rotate_left
  · (try dsimp only at hSw); go_simp; try with_reducible rfl
  simp only [Act.put, rg1, rg2, rg3, rg4, rg5, rg6]
  refine rgY 18 ?_ rfl (by kernel_rfl) (fun _ _ _ h => h) (.inl ⟨by rfl, fun w hSw => ?_⟩) (by assumption) ?_
  rotate_left
  · (try dsimp only at hSw); go_simp; try with_reducible rfl
  simp only [Act.put, rg1, rg2, rg3, rg4, rg5, rg6]
  refine rgY 19 ?_ rfl (by kernel_rfl) (fun _ _ _ h => h) (.inl ⟨by rfl, fun w hSw => ?_⟩) (by assumption) ?_
  rotate_left
  · (try dsimp only at hSw); go_simp; try with_reducible rfl
  simp only [Act.put, rg1, rg2, rg3, rg4, rg5, rg6]
  refine rgY 20 undef rfl (by kernel_rfl) (fun _ _ _ h => h) (.inr ⟨by rfl, rfl⟩) (by assumption) ?_
  simp only [Act.put, rg1, rg2, rg3, rg4, rg5, rg6]
  refine rgY 21 undef rfl (by kernel_rfl) (fun _ _ _ h => h) (.inr ⟨by rfl, rfl⟩) (by assumption) ?_
  simp only [Act.put, rg1, rg2, rg3, rg4, rg5, rg6]
  refine rgY 22 undef rfl (by kernel_rfl) (fun _ _ _ h => h) (.inr ⟨by rfl, rfl⟩) (by assumption) ?_
  simp only [Act.put, rg1, rg2, rg3, rg4, rg5, rg6]
  refine rgY 23 undef rfl (by kernel_rfl) (fun _ _ _ h => h) (.inr ⟨by rfl, rfl⟩) (by assumption) ?_
  simp only [Act.put, rg1, rg2, rg3, rg4, rg5, rg6]
  refine rgY 24 undef rfl (by kernel_rfl) (fun _ _ _ h => h) (.inr ⟨by rfl, rfl⟩) (by assumption) ?_
  simp only [Act.put, rg1, rg2, rg3, rg4, rg5, rg6]
  refine rgY 25 ?_ rfl (by kernel_rfl) (fun _ _ _ h => h) (.inl ⟨by rfl, fun w hSw => ?_⟩) (by assumption) ?_
  rotate_left
  · (try dsimp only at hSw); go_simp; try with_reducible rfl
  simp only [Act.put, rg1, rg2, rg3, rg4, rg5, rg6]
  refine rgY 26 ?_ rfl (by kernel_rfl) (fun _ _ _ h => h) (.inl ⟨by rfl, fun w hSw => ?_⟩) (by assumption) ?_
  rotate_left
  · (try dsimp only at hSw); go_simp; try with_reducible rfl
  simp only [Act.put, rg1, rg2, rg3, rg4, rg5, rg6]
  refine rgY 27 undef rfl (by kernel_rfl) (fun _ _ _ h => h) (.inr ⟨by rfl, rfl⟩) (by assumption) ?_
  simp only [Act.put, rg1, rg2, rg3, rg4, rg5, rg6]
  refine rgY 28 undef rfl (by kernel_rfl) (fun _ _ _ h => h) (.inr ⟨by rfl, rfl⟩) (by assumption) ?_
  simp only [Act.put, rg1, rg2, rg3, rg4, rg5, rg6]
  refine rgY 29 undef rfl (by kernel_rfl) (fun _ _ _ h => h) (.inr ⟨by rfl, rfl⟩) (by assumption) ?_
  simp only [Act.put, rg1, rg2, rg3, rg4, rg5, rg6]
  refine rgY 30 ?_ rfl (by kernel_rfl) (fun _ _ _ h => h) (.inl ⟨by rfl, fun w hSw => ?_⟩) (by assumption) ?_
  rotate_left
  · (try dsimp only at hSw); go_simp; try with_reducible rfl
  simp only [Act.put, rg1, rg2, rg3, rg4, rg5, rg6]
  refine rgY 31 ?_ rfl (by kernel_rfl) (fun _ _ _ h => h) (.inl ⟨by rfl, fun w hSw => ?_⟩) (by assumption) ?_
  rotate_left
  · (try dsimp only at hSw); go_simp; try with_reducible rfl
  simp only [Act.put, rg1, rg2, rg3, rg4, rg5, rg6]
  refine rgY 32 undef rfl (by kernel_rfl) (fun _ _ _ h => h) (.inr ⟨by rfl, rfl⟩) (by assumption) ?_
  simp only [Act.put, rg1, rg2, rg3, rg4, rg5, rg6]
  refine rgY 33 undef rfl (by kernel_rfl) (fun _ _ _ h => h) (.inr ⟨by rfl, rfl⟩) (by assumption) ?_
  simp only [Act.put, rg1, rg2, rg3, rg4, rg5, rg6]
  refine rgY 34 undef rfl (by kernel_rfl) (fun _ _ _ h => h) (.inr ⟨by rfl, rfl⟩) (by assumption) ?_
  simp only [Act.put, rg1, rg2, rg3, rg4, rg5, rg6]
  refine rgY 35 undef rfl (by kernel_rfl) (fun _ _ _ h => h) (.inr ⟨by rfl, rfl⟩) (by assumption) ?_
  simp only [Act.put, rg1, rg2, rg3, rg4, rg5, rg6]
  refine rgY 36 undef rfl (by kernel_rfl) (fun _ _ _ h => h) (.inr ⟨by rfl, rfl⟩) (by assumption) ?_
  simp only [Act.put, rg1, rg2, rg3, rg4, rg5, rg6]
  refine rgY 37 ?_ rfl (by kernel_rfl) (fun _ _ _ h => h) (.inl ⟨by rfl, fun w hSw => ?_⟩) (by assumption) ?_
  rotate_left
  · (try dsimp only at hSw); go_simp; try with_reducible rfl
  simp only [Act.put, rg1, rg2, rg3, rg4, rg5, rg6]
  refine rgY 38 ?_ rfl (by kernel_rfl) (fun _ _ _ h => h) (.inl ⟨by rfl, fun w hSw => ?_⟩) (by assumption) ?_
  rotate_left
  · (try dsimp only at hSw); go_simp; try with_reducible rfl
  simp only [Act.put, rg1, rg2, rg3, rg4, rg5, rg6]
  refine rgY 39 undef rfl (by kernel_rfl) (fun _ _ _ h => h) (.inr ⟨by rfl, rfl⟩) (by assumption) ?_
  simp only [Act.put, rg1, rg2, rg3, rg4, rg5, rg6]
  refine rgY 40 undef rfl (by kernel_rfl) (fun _ _ _ h => h) (.inr ⟨by rfl, rfl⟩) (by assumption) ?_
  simp only [Act.put, rg1, rg2, rg3, rg4, rg5, rg6]
  refine rgY 41 undef rfl (by kernel_rfl) (fun _ _ _ h => h) (.inr ⟨by rfl, rfl⟩) (by assumption) ?_
  simp only [Act.put, rg1, rg2, rg3, rg4, rg5, rg6]
  refine rgY 42 ?_ rfl (by kernel_rfl) (fun _ _ _ h => h) (.inl ⟨by rfl, fun w hSw => ?_⟩) (by assumption) ?_
  rotate_left
  · (try dsimp only at hSw); go_simp; try with_reducible rfl
  simp only [Act.put, rg1, rg2, rg3, rg4, rg5, rg6]
  refine rgY 43 ?_ rfl (by kernel_rfl) (fun _ _ _ h => h) (.inl ⟨by rfl, fun w hSw => ?_⟩) (by assumption) ?_
  rotate_left
  · (try dsimp only at hSw); go_simp; try with_reducible rfl
  simp only [Act.put, rg1, rg2, rg3, rg4, rg5, rg6]
  refine wpAnyH_done (by kernel_rfl) ?_ _
  go_wp2_with (fail)
  go_ret
  exact ⟨rfl, HB.out⟩

set_option maxRecDepth 100000 in
set_option maxHeartbeats 2000000 in
theorem isRight_4 (d r s c i n t : Int) (w : World) (h0 : Rt d r s) (h1 : 1 ≤ c) (h2 : c ≤ s) (h3 : 0 ≤ i) (h4 : ¬ (i < c)) :
    Calls Tryz.prog 49 #[gv d r s, umv c i n t] w fun e w' => e = .returned (.bool false) ∧ Below w.heap.size w w' := by
  obtain ⟨X, hX⟩ : ∃ X, X = (w.alloc (.cells #[.int .i64 d, .int .i64 r, .int .i64 s] 33 (0, 0))).alloc (.cells #[.int .i64 c, .int .i64 i, .int .i64 n, .int .i64 t] 57 (0, 0)) := ⟨_, rfl⟩
  have hu : Gu X w.heap.size d r s c i n t := by rw [hX]; exact Gu.mk' w d r s c i n t
  have hB : Below w.heap.size w X := by rw [hX]; exact bel2 _ _ _
  obtain ⟨g, hg⟩ : ∃ g, g = w.heap.size := ⟨_, rfl⟩
  have HB := Lib.hid hB
  rw [← hg] at hu
  have HU := Lib.hid hu.drew
  clear hu hB
  unfold umv
  have d1 : decide (1 ≤ c) = true := decide_eq_true h1
  have d2 : decide (c ≤ s) = true := decide_eq_true h2
  have d3 : decide (0 ≤ i) = true := decide_eq_true h3
  have d4 : decide (i < c) = false := decide_eq_false h4
  have H0 := Lib.hid h0
  clear h1 h2 h3 h4
  obtain ⟨P, hP⟩ : ∃ P, P = PL d r := ⟨_, rfl⟩
  have hpl : ∀ w, Calls Tryz.prog 95 #[gv d r s] w fun e w' => e = .returned (.int .i64 P) ∧ Below w.heap.size w w' := by rw [hP]; exact fun w => places_yes d r s w H0.out
  clear hP
  go_enter Tryz.func49, Tryz.ntmps49
  go_wp2_with (fail)
  rw [← hX, ← hg]
  clear hX hg
  refine wp_region_held_drew (S := (fun w' => w'.cell? ⟨g, 0, none⟩ = some (.int .i64 d) ∧ w'.cell? ⟨g, 1, none⟩ = some (.int .i64 r) ∧ w'.cell? ⟨g, 2, none⟩ = some (.int .i64 s) ∧ w'.cell? ⟨g + 1, 0, none⟩ = some (.int .i64 c) ∧ w'.cell? ⟨g + 1, 1, none⟩ = some (.int .i64 i) ∧ w'.cell? ⟨g + 1, 2, none⟩ = some (.int .i64 n) ∧ w'.cell? ⟨g + 1, 3, none⟩ = some (.int .i64 t))) (by kernel_rfl) ?_ (fun hHeld => ?_)
  · exact ⟨HU.out.b0, HU.out.b1, HU.out.b2, HU.out.u0, HU.out.u1, HU.out.u2, HU.out.u3⟩
  have HB1 : Hid (Below w.heap.size w X.drew) := below_drewN HB.out 1
  generalize hX1 : X.drew = X1 at *
  clear hX1 HB
  rename Hid (Below _ w _) => HB
  refine rgY 0 ?_ rfl (by kernel_rfl) (fun _ _ _ h => h) (.inl ⟨by rfl, fun w hSw => ?_⟩) (by assumption) ?_
  rotate_left
  · (try dsimp only at hSw); go_simp; try with_reducible rfl
  simp only [Act.put, rg1, rg2, rg3, rg4, rg6]
  refine wpAnyH_ready (rs := [1]) (by kernel_rfl) (by simp) ?_
  refine AllReadyH.cons rfl (fun K hK => ?_) AllReadyH.nil
  simp only [List.getElem_toArray, List.getElem_cons_succ, List.getElem_cons_zero]
  go_simp
  refine (right_yes d r s _ H0.out).mono ?_
  rintro e w2 ⟨rfl, hb2⟩
  have HU2 := Lib.hid (HU.out.next hb2)
  have HB2 := Lib.hid (HB.out.trans (hb2.mono (by have := HB.out.size; exact this)))
  clear hb2
  go_wp2_with (fail)
  refine hK.out _ _ ⟨HU2.out.b0, HU2.out.b1, HU2.out.b2, HU2.out.u0, HU2.out.u1, HU2.out.u2, HU2.out.u3⟩ (fun hHeld => ?_)
  clear hK K HU HB
  rename Hid (Gu _ _ _ _ _ _ _ _ _) => HU
  rename Hid (Below _ w _) => HB
  refine rgY 2 ?_ rfl (by kernel_rfl) (fun _ _ _ h => h) (.inl ⟨by rfl, fun w hSw => ?_⟩) (by assumption) ?_
  rotate_left
  · (try dsimp only at hSw); go_simp; try with_reducible rfl
  simp only [Act.put, rg1, rg2, rg3, rg4, rg5, rg6]
  refine rgY 3 ?_ rfl (by kernel_rfl) (fun _ _ _ h => h) (.inl ⟨by rfl, fun w hSw => ?_⟩) (by assumption) ?_
  rotate_left
  · (try dsimp only at hSw); go_simp; try with_reducible rfl
  simp only [Act.put, rg1, rg2, rg3, rg4, rg5, rg6]
  refine rgY 4 ?_ rfl (by kernel_rfl) (fun _ _ _ h => h) (.inl ⟨by rfl, fun w hSw => ?_⟩) (by assumption) ?_
  rotate_left
  · (try dsimp only at hSw); go_simp; try with_reducible rfl
  simp only [Act.put, rg1, rg2, rg3, rg4, rg5, rg6]
  refine rgY 5 ?_ rfl (by kernel_rfl) (fun _ _ _ h => h) (.inl ⟨by rfl, fun w hSw => ?_⟩) (by assumption) ?_
  rotate_left
  · (try dsimp only at hSw); go_simp; try with_reducible rfl
  simp only [Act.put, rg1, rg2, rg3, rg4, rg5, rg6]
  refine rgY 6 ?_ rfl (by kernel_rfl) (fun _ _ _ h => h) (.inl ⟨by rfl, fun w hSw => ?_⟩) (by assumption) ?_
  rotate_left
  · (try dsimp only at hSw); go_simp; try with_reducible rfl
  simp only [Act.put, rg1, rg2, rg3, rg4, rg5, rg6]
  refine rgY 7 ?_ rfl (by kernel_rfl) (fun _ _ _ h => h) (.inl ⟨by rfl, fun w hSw => ?_⟩) (by assumption) ?_
  rotate_left
  · (try dsimp only at hSw); go_simp; try with_reducible rfl
  simp only [Act.put, rg1, rg2, rg3, rg4, rg5, rg6]
  refine rgY 8 ?_ rfl (by kernel_rfl) (fun _ _ _ h => h) (.inl ⟨by rfl, fun w hSw => ?_⟩) (by assumption) ?_
  rotate_left
  · (try dsimp only at hSw); go_simp; try with_reducible rfl
  simp only [Act.put, rg1, rg2, rg3, rg4, rg5, rg6]
  refine rgY 9 ?_ rfl (by kernel_rfl) (fun _ _ _ h => h) (.inl ⟨by rfl, fun w hSw => ?_⟩) (by assumption) ?_
  rotate_left
  · (try dsimp only at hSw); go_simp; try with_reducible rfl
  simp only [Act.put, rg1, rg2, rg3, rg4, rg5, rg6]
  refine rgY 10 ?_ rfl (by kernel_rfl) (fun _ _ _ h => h) (.inl ⟨by rfl, fun w hSw => ?_⟩) (by assumption) ?_
  rotate_left
  · (try dsimp only at hSw); go_simp; try with_reducible rfl
  simp only [Act.put, rg1, rg2, rg3, rg4, rg5, rg6]
  refine rgY 11 ?_ rfl (by kernel_rfl) (fun _ _ _ h => h) (.inl ⟨by rfl, fun w hSw => ?_⟩) (by assumption) ?_
  rotate_left
  · (try dsimp only at hSw); go_simp; try with_reducible rfl
  simp only [Act.put, rg1, rg2, rg3, rg4, rg5, rg6]
  refine rgY 12 ?_ rfl (by kernel_rfl) (fun _ _ _ h => h) (.inl ⟨by rfl, fun w hSw => ?_⟩) (by assumption) ?_
  rotate_left
  · (try dsimp only at hSw); go_simp; try with_reducible rfl
  simp only [Act.put, rg1, rg2, rg3, rg4, rg5, rg6]
  refine rgY 13 ?_ rfl (by kernel_rfl) (fun _ _ _ h => h) (.inl ⟨by rfl, fun w hSw => ?_⟩) (by assumption) ?_
  rotate_left
  · (try dsimp only at hSw); go_simp; try with_reducible rfl
  simp only [Act.put, rg1, rg2, rg3, rg4, rg5, rg6]
  refine rgY 14 ?_ rfl (by kernel_rfl) (fun _ _ _ h => h) (.inl ⟨by rfl, fun w hSw => ?_⟩) (by assumption) ?_
  rotate_left
  · (try dsimp only at hSw); go_simp; try with_reducible rfl
  simp only [Act.put, rg1, rg2, rg3, rg4, rg5, rg6]
  refine rgY 15 ?_ rfl (by kernel_rfl) (fun _ _ _ h => h) (.inl ⟨by rfl, fun w hSw => ?_⟩) (by assumption) ?_
  rotate_left
  · (try dsimp only at hSw); go_simp; try with_reducible rfl
  simp only [Act.put, rg1, rg2, rg3, rg4, rg5, rg6]
  refine rgY 16 ?_ rfl (by kernel_rfl) (fun _ _ _ h => h) (.inl ⟨by rfl, fun w hSw => ?_⟩) (by assumption) ?_
  rotate_left
  · (try dsimp only at hSw); go_simp; try with_reducible rfl
  simp only [Act.put, rg1, rg2, rg3, rg4, rg5, rg6]
  refine rgY 17 ?_ rfl (by kernel_rfl) (fun _ _ _ h => h) (.inl ⟨by rfl, fun w hSw => ?_⟩) (by assumption) ?_
  rotate_left
  · (try dsimp only at hSw); go_simp; try with_reducible rfl
  simp only [Act.put, rg1, rg2, rg3, rg4, rg5, rg6]
  refine rgY 18 ?_ rfl (by kernel_rfl) (fun _ _ _ h => h) (.inl ⟨by rfl, fun w hSw => ?_⟩) (by assumption) ?_
  rotate_left
  · (try dsimp only at hSw); go_simp; try with_reducible rfl
  simp only [Act.put, rg1, rg2, rg3, rg4, rg5, rg6]
  refine rgY 19 ?_ rfl (by kernel_rfl) (fun _ _ _ h => h) (.inl ⟨by rfl, fun w hSw => ?_⟩) (by assumption) ?_
  rotate_left
  · (try dsimp only at hSw); go_simp; try with_reducible rfl
  simp only [Act.put, rg1, rg2, rg3, rg4, rg5, rg6]
  refine rgY 20 ?_ rfl (by kernel_rfl) (fun _ _ _ h => h) (.inl ⟨by rfl, fun w hSw => ?_⟩) (by assumption) ?_
  rotate_left
  · (try dsimp only at hSw); go_simp; try with_reducible rfl
  simp only [Act.put, rg1, rg2, rg3, rg4, rg5, rg6]
  refine rgY 21 ?_ rfl (by kernel_rfl) (fun _ _ _ h => h) (.inl ⟨by rfl, fun w hSw => ?_⟩) (by assumption) ?_
  rotate_left
  · (try dsimp only at hSw); go_simp; try with_reducible rfl
  simp only [Act.put, rg1, rg2, rg3, rg4, rg5, rg6]
  refine rgY 22 ?_ rfl (by kernel_rfl) (fun _ _ _ h => h) (.inl ⟨by rfl, fun w hSw => ?_⟩) (by assumption) ?_
  rotate_left
  · (try dsimp only at hSw); go_simp; try with_reducible rfl
  simp only [Act.put, rg1, rg2, rg3, rg4, rg5, rg6]
  refine rgY 23 ?_ rfl (by kernel_rfl) (fun _ _ _ h => h) (.inl ⟨by rfl, fun w hSw => ?_⟩) (by assumption) ?_
  rotate_left
  · (try dsimp only at hSw); go_simp; try with_reducible rfl
  simp only [Act.put, rg1, rg2, rg3, rg4, rg5, rg6]
  refine rgY 24 ?_ rfl (by kernel_rfl) (fun _ _ _ h => h) (.inl ⟨by rfl, fun w hSw => ?_⟩) (by assumption) ?_
  rotate_left
  · (try dsimp only at hSw); go_simp; try with_reducible rfl
  simp only [Act.put, rg1, rg2, rg3, rg4, rg5, rg6]
  refine rgY 25 ?_ rfl (by kernel_rfl) (fun _ _ _ h => h) (.inl ⟨by rfl, fun w hSw => ?_⟩) (by assumption) ?_
  rotate_left
  · (try dsimp only at hSw); go_simp; try with_reducible rfl
  simp only [Act.put, rg1, rg2, rg3, rg4, rg5, rg6]
  refine rgY 26 ?_ rfl (by kernel_rfl) (fun _ _ _ h => h) (.inl ⟨by rfl, fun w hSw => ?_⟩) (by assumption) ?_
  rotate_left
  · (try dsimp only at hSw); go_simp; try with_reducible rfl
  simp only [Act.put, rg1, rg2, rg3, rg4, rg5, rg6]
  refine rgY 27 undef rfl (by kernel_rfl) (fun _ _ _ h => h) (.inr ⟨by rfl, rfl⟩) (by assumption) ?_
  simp only [Act.put, rg1, rg2, rg3, rg4, rg5, rg6]
  refine rgY 28 undef rfl (by kernel_rfl) (fun _ _ _ h => h) (.inr ⟨by rfl, rfl⟩) (by assumption) ?_
  simp only [Act.put, rg1, rg2, rg3, rg4, rg5, rg6]
  refine rgY 29 undef rfl (by kernel_rfl) (fun _ _ _ h => h) (.inr ⟨by rfl, rfl⟩) (by assumption) ?_
  simp only [Act.put, rg1, rg2, rg3, rg4, rg5, rg6]
  refine rgY 30 ?_ rfl (by kernel_rfl) (fun _ _ _ h => h) (.inl ⟨by rfl, fun w hSw => ?_⟩) (by assumption) ?_
  rotate_left
  · (try dsimp only at hSw); go_simp; try with_reducible rfl
  simp only [Act.put, rg1, rg2, rg3, rg4, rg5, rg6]
  refine rgY 31 ?_ rfl (by kernel_rfl) (fun _ _ _ h => h) (.inl ⟨by rfl, fun w hSw => ?_⟩) (by assumption) ?_
  rotate_left
  · (try dsimp only at hSw); go_simp; try with_reducible rfl
  simp only [Act.put, rg1, rg2, rg3, rg4, rg5, rg6]
  refine rgY 32 undef rfl (by kernel_rfl) (fun _ _ _ h => h) (.inr ⟨by rfl, rfl⟩) (by assumption) ?_
  simp only [Act.put, rg1, rg2, rg3, rg4, rg5, rg6]
  refine rgY 33 undef rfl (by kernel_rfl) (fun _ _ _ h => h) (.inr ⟨by rfl, rfl⟩) (by assumption) ?_
  simp only [Act.put, rg1, rg2, rg3, rg4, rg5, rg6]
  refine rgY 34 undef rfl (by kernel_rfl) (fun _ _ _ h => h) (.inr ⟨by rfl, rfl⟩) (by assumption) ?_
  simp only [Act.put, rg1, rg2, rg3, rg4, rg5, rg6]
  refine rgY 35 undef rfl (by kernel_rfl) (fun _ _ _ h => h) (.inr ⟨by rfl, rfl⟩) (by assumption) ?_
  simp only [Act.put, rg1, rg2, rg3, rg4, rg5, rg6]
  refine rgY 36 undef rfl (by kernel_rfl) (fun _ _ _ h => h) (.inr ⟨by rfl, rfl⟩) (by assumption) ?_
  simp only [Act.put, rg1, rg2, rg3, rg4, rg5, rg6]
  refine rgY 37 ?_ rfl (by kernel_rfl) (fun _ _ _ h => h) (.inl ⟨by rfl, fun w hSw => ?_⟩) (by assumption) ?_
  rotate_left
  · (try dsimp only at hSw); go_simp; try with_reducible rfl
  simp only [Act.put, rg1, rg2, rg3, rg4, rg5, rg6]
  refine rgY 38 ?_ rfl (by kernel_rfl) (fun _ _ _ h => h) (.inl ⟨by rfl, fun w hSw => ?_⟩) (by assumption) ?_
  rotate_left
  · (try dsimp only at hSw); go_simp; try with_reducible rfl
  simp only [Act.put, rg1, rg2, rg3, rg4, rg5, rg6]
  refine rgY 39 undef rfl (by kernel_rfl) (fun _ _ _ h => h) (.inr ⟨by rfl, rfl⟩) (by assumption) ?_
  simp only [Act.put, rg1, rg2, rg3, rg4, rg5, rg6]
  refine rgY 40 undef rfl (by kernel_rfl) (fun _ _ _ h => h) (.inr ⟨by rfl, rfl⟩) (by assumption) ?_
  simp only [Act.put, rg1, rg2, rg3, rg4, rg5, rg6]
  refine rgY 41 undef rfl (by kernel_rfl) (fun _ _ _ h => h) (.inr ⟨by rfl, rfl⟩) (by assumption) ?_
  simp only [Act.put, rg1, rg2, rg3, rg4, rg5, rg6]
  refine rgY 42 ?_ rfl (by kernel_rfl) (fun _ _ _ h => h) (.inl ⟨by rfl, fun w hSw => ?_⟩) (by assumption) ?_
  rotate_left
  · (try dsimp only at hSw); go_simp; try with_reducible rfl
  simp only [Act.put, rg1, rg2, rg3, rg4, rg5, rg6]
  refine rgY 43 ?_ rfl (by kernel_rfl) (fun _ _ _ h => h) (.inl ⟨by rfl, fun w hSw => ?_⟩) (by assumption) ?_
  rotate_left
  · (try dsimp only at hSw); go_simp; try with_reducible rfl
  simp only [Act.put, rg1, rg2, rg3, rg4, rg5, rg6]
  refine wpAnyH_done (by kernel_rfl) ?_ _
  go_wp2_with (fail)
  go_ret
  exact ⟨rfl, HB.out⟩

set_option maxRecDepth 100000 in
set_option maxHeartbeats 2000000 in
theorem isRight_5 (d r s c i n t : Int) (w : World) (h0 : Rt d r s) (h1 : 1 ≤ c) (h2 : c ≤ s) (h3 : 0 ≤ i) (h4 : i < c) (h5 : ¬ (0 ≤ n)) :
    Calls Tryz.prog 49 #[gv d r s, umv c i n t] w fun e w' => e = .returned (.bool false) ∧ Below w.heap.size w w' := by
  obtain ⟨X, hX⟩ : ∃ X, X = (w.alloc (.cells #[.int .i64 d, .int .i64 r, .int .i64 s] 33 (0, 0))).alloc (.cells #[.int .i64 c, .int .i64 i, .int .i64 n, .int .i64 t] 57 (0, 0)) := ⟨_, rfl⟩
  have hu : Gu X w.heap.size d r s c i n t := by rw [hX]; exact Gu.mk' w d r s c i n t
  have hB : Below w.heap.size w X := by rw [hX]; exact bel2 _ _ _
  obtain ⟨g, hg⟩ : ∃ g, g = w.heap.size := ⟨_, rfl⟩
  have HB := Lib.hid hB
  rw [← hg] at hu
  have HU := Lib.hid hu.drew
  clear hu hB
  unfold umv
  have d1 : decide (1 ≤ c) = true := decide_eq_true h1
  have d2 : decide (c ≤ s) = true := decide_eq_true h2
  have d3 : decide (0 ≤ i) = true := decide_eq_true h3
  have d4 : decide (i < c) = true := decide_eq_true h4
  have d5 : decide (0 ≤ n) = false := decide_eq_false h5
  have H0 := Lib.hid h0
  clear h1 h2 h3 h4 h5
  obtain ⟨P, hP⟩ : ∃ P, P = PL d r := ⟨_, rfl⟩
  have hpl : ∀ w, Calls Tryz.prog 95 #[gv d r s] w fun e w' => e = .returned (.int .i64 P) ∧ Below w.heap.size w w' := by rw [hP]; exact fun w => places_yes d r s w H0.out
  clear hP
  go_enter Tryz.func49, Tryz.ntmps49
  go_wp2_with (fail)
  rw [← hX, ← hg]
  clear hX hg
  refine wp_region_held_drew (S := (fun w' => w'.cell? ⟨g, 0, none⟩ = some (.int .i64 d) ∧ w'.cell? ⟨g, 1, none⟩ = some (.int .i64 r) ∧ w'.cell? ⟨g, 2, none⟩ = some (.int .i64 s) ∧ w'.cell? ⟨g + 1, 0, none⟩ = some (.int .i64 c) ∧ w'.cell? ⟨g + 1, 1, none⟩ = some (.int .i64 i) ∧ w'.cell? ⟨g + 1, 2, none⟩ = some (.int .i64 n) ∧ w'.cell? ⟨g + 1, 3, none⟩ = some (.int .i64 t))) (by kernel_rfl) ?_ (fun hHeld => ?_)
  · exact ⟨HU.out.b0, HU.out.b1, HU.out.b2, HU.out.u0, HU.out.u1, HU.out.u2, HU.out.u3⟩
  have HB1 : Hid (Below w.heap.size w X.drew) := below_drewN HB.out 1
  generalize hX1 : X.drew = X1 at *
  clear hX1 HB
  rename Hid (Below _ w _) => HB
  refine rgY 0 ?_ rfl (by kernel_rfl) (fun _ _ _ h => h) (.inl ⟨by rfl, fun w hSw => ?_⟩) (by assumption) ?_
  rotate_left
  · (try dsimp only at hSw); go_simp; try with_reducible rfl
  simp only [Act.put, rg1, rg2, rg3, rg4, rg6]
  refine wpAnyH_ready (rs := [1]) (by kernel_rfl) (by simp) ?_
  refine AllReadyH.cons rfl (fun K hK => ?_) AllReadyH.nil
  simp only [List.getElem_toArray, List.getElem_cons_succ, List.getElem_cons_zero]
  go_simp
  refine (right_yes d r s _ H0.out).mono ?_
  rintro e w2 ⟨rfl, hb2⟩
  have HU2 := Lib.hid (HU.out.next hb2)
  have HB2 := Lib.hid (HB.out.trans (hb2.mono (by have := HB.out.size; exact this)))
  clear hb2
  go_wp2_with (fail)
  refine hK.out _ _ ⟨HU2.out.b0, HU2.out.b1, HU2.out.b2, HU2.out.u0, HU2.out.u1, HU2.out.u2, HU2.out.u3⟩ (fun hHeld => ?_)
  clear hK K HU HB
  rename Hid (Gu _ _ _ _ _ _ _ _ _) => HU
  rename Hid (Below _ w _) => HB
  refine rgY 2 ?_ rfl (by kernel_rfl) (fun _ _ _ h => h) (.inl ⟨by rfl, fun w hSw => ?_⟩) (by assumption) ?_
  rotate_left
  · (try dsimp only at hSw); go_simp; try with_reducible rfl
  simp only [Act.put, rg1, rg2, rg3, rg4, rg5, rg6]
  refine rgY 3 ?_ rfl (by kernel_rfl) (fun _ _ _ h => h) (.inl ⟨by rfl, fun w hSw => ?_⟩) (by assumption) ?_
  rotate_left
  · (try dsimp only at hSw); go_simp; try with_reducible rfl
  simp only [Act.put, rg1, rg2, rg3, rg4, rg5, rg6]
  refine rgY 4 ?_ rfl (by kernel_rfl) (fun _ _ _ h => h) (.inl ⟨by rfl, fun w hSw => ?_⟩) (by assumption) ?_
  rotate_left
  · (try dsimp only at hSw); go_simp; try with_reducible rfl
  simp only [Act.put, rg1, rg2, rg3, rg4, rg5, rg6]
  refine rgY 5 ?_ rfl (by kernel_rfl) (fun _ _ _ h => h) (.inl ⟨by rfl, fun w hSw => ?_⟩) (by assumption) ?_
  rotate_left
  · (try dsimp only at hSw); go_simp; try with_reducible rfl
  simp only [Act.put, rg1, rg2, rg3, rg4, rg5, rg6]
  refine rgY 6 ?_ rfl (by kernel_rfl) (fun _ _ _ h => h) (.inl ⟨by rfl, fun w hSw => ?_⟩) (by assumption) ?_
  rotate_left
  · (try dsimp only at hSw); go_simp; try with_reducible rfl
  simp only [Act.put, rg1, rg2, rg3, rg4, rg5, rg6]
  refine rgY 7 ?_ rfl (by kernel_rfl) (fun _ _ _ h => h) (.inl ⟨by rfl, fun w hSw => ?_⟩) (by assumption) ?_
  rotate_left
  · (try dsimp only at hSw); go_simp; try with_reducible rfl
  simp only [Act.put, rg1, rg2, rg3, rg4, rg5, rg6]
  refine rgY 8 ?_ rfl (by kernel_rfl) (fun _ _ _ h => h) (.inl ⟨by rfl, fun w hSw => ?_⟩) (by assumption) ?_
  rotate_left
  · (try dsimp only at hSw); go_simp; try with_reducible rfl
  simp only [Act.put, rg1, rg2, rg3, rg4, rg5, rg6]
  refine rgY 9 ?_ rfl (by kernel_rfl) (fun _ _ _ h => h) (.inl ⟨by rfl, fun w hSw => ?_⟩) (by assumption) ?_
  rotate_left
  · (try dsimp only at hSw); go_simp; try with_reducible rfl
  simp only [Act.put, rg1, rg2, rg3, rg4, rg5, rg6]
  refine rgY 10 ?_ rfl (by kernel_rfl) (fun _ _ _ h => h) (.inl ⟨by rfl, fun w hSw => ?_⟩) (by assumption) ?_
  rotate_left
  · (try dsimp only at hSw); go_simp; try with_reducible rfl
  simp only [Act.put, rg1, rg2, rg3, rg4, rg5, rg6]
  refine rgY 11 ?_ rfl (by kernel_rfl) (fun _ _ _ h => h) (.inl ⟨by rfl, fun w hSw => ?_⟩) (by assumption) ?_
  rotate_left
  · (try dsimp only at hSw); go_simp; try with_reducible rfl
  simp only [Act.put, rg1, rg2, rg3, rg4, rg5, rg6]
  refine rgY 12 ?_ rfl (by kernel_rfl) (fun _ _ _ h => h) (.inl ⟨by rfl, fun w hSw => ?_⟩) (by assumption) ?_
  rotate_left
  · (try dsimp only at hSw); go_simp; try with_reducible rfl
  simp only [Act.put, rg1, rg2, rg3, rg4, rg5, rg6]
  refine rgY 13 ?_ rfl (by kernel_rfl) (fun _ _ _ h => h) (.inl ⟨by rfl, fun w hSw => ?_⟩) (by assumption) ?_
  rotate_left
  · (try dsimp only at hSw); go_simp; try with_reducible rfl
  simp only [Act.put, rg1, rg2, rg3, rg4, rg5, rg6]
  refine rgY 14 ?_ rfl (by kernel_rfl) (fun _ _ _ h => h) (.inl ⟨by rfl, fun w hSw => ?_⟩) (by assumption) ?_
  rotate_left
  · (try dsimp only at hSw); go_simp; try with_reducible rfl
  simp only [Act.put, rg1, rg2, rg3, rg4, rg5, rg6]
  refine rgY 15 ?_ rfl (by kernel_rfl) (fun _ _ _ h => h) (.inl ⟨by rfl, fun w hSw => ?_⟩) (by assumption) ?_
  rotate_left
  · (try dsimp only at hSw); go_simp; try with_reducible rfl
  simp only [Act.put, rg1, rg2, rg3, rg4, rg5, rg6]
  refine rgY 16 ?_ rfl (by kernel_rfl) (fun _ _ _ h => h) (.inl ⟨by rfl, fun w hSw => ?_⟩) (by assumption) ?_
  rotate_left
  · (try dsimp only at hSw); go_simp; try with_reducible rfl
  simp only [Act.put, rg1, rg2, rg3, rg4, rg5, rg6]
  refine rgY 17 ?_ rfl (by kernel_rfl) (fun _ _ _ h => h) (.inl ⟨by rfl, fun w hSw => ?_⟩) (by assumption) ?_
  rotate_left
  · (try dsimp only at hSw); go_simp; try with_reducible rfl
  simp only [Act.put, rg1, rg2, rg3, rg4, rg5, rg6]
  refine rgY 18 ?_ rfl (by kernel_rfl) (fun _ _ _ h => h) (.inl ⟨by rfl, fun w hSw => ?_⟩) (by assumption) ?_
  rotate_left
  · (try dsimp only at hSw); go_simp; try with_reducible rfl
  simp only [Act.put, rg1, rg2, rg3, rg4, rg5, rg6]
  refine rgY 19 ?_ rfl (by kernel_rfl) (fun _ _ _ h => h) (.inl ⟨by rfl, fun w hSw => ?_⟩) (by assumption) ?_
  rotate_left
  · (try dsimp only at hSw); go_simp; try with_reducible rfl
  simp only [Act.put, rg1, rg2, rg3, rg4, rg5, rg6]
  refine rgY 20 ?_ rfl (by kernel_rfl) (fun _ _ _ h => h) (.inl ⟨by rfl, fun w hSw => ?_⟩) (by assumption) ?_
  rotate_left
  · (try dsimp only at hSw); go_simp; try with_reducible rfl
  simp only [Act.put, rg1, rg2, rg3, rg4, rg5, rg6]
  refine rgY 21 ?_ rfl (by kernel_rfl) (fun _ _ _ h => h) (.inl ⟨by rfl, fun w hSw => ?_⟩) (by assumption) ?_
  rotate_left
  · (try dsimp only at hSw); go_simp; try with_reducible rfl
  simp only [Act.put, rg1, rg2, rg3, rg4, rg5, rg6]
  refine rgY 22 ?_ rfl (by kernel_rfl) (fun _ _ _ h => h) (.inl ⟨by rfl, fun w hSw => ?_⟩) (by assumption) ?_
  rotate_left
  · (try dsimp only at hSw); go_simp; try with_reducible rfl
  simp only [Act.put, rg1, rg2, rg3, rg4, rg5, rg6]
  refine rgY 23 ?_ rfl (by kernel_rfl) (fun _ _ _ h => h) (.inl ⟨by rfl, fun w hSw => ?_⟩) (by assumption) ?_
  rotate_left
  · (try dsimp only at hSw); go_simp; try with_reducible rfl
  simp only [Act.put, rg1, rg2, rg3, rg4, rg5, rg6]
  refine rgY 24 ?_ rfl (by kernel_rfl) (fun _ _ _ h => h) (.inl ⟨by rfl, fun w hSw => ?_⟩) (by assumption) ?_
  rotate_left
  · (try dsimp only at hSw); go_simp; try with_reducible rfl
  simp only [Act.put, rg1, rg2, rg3, rg4, rg5, rg6]
  refine rgY 25 ?_ rfl (by kernel_rfl) (fun _ _ _ h => h) (.inl ⟨by rfl, fun w hSw => ?_⟩) (by assumption) ?_
  rotate_left
  · (try dsimp only at hSw); go_simp; try with_reducible rfl
  simp only [Act.put, rg1, rg2, rg3, rg4, rg5, rg6]
  refine rgY 26 ?_ rfl (by kernel_rfl) (fun _ _ _ h => h) (.inl ⟨by rfl, fun w hSw => ?_⟩) (by assumption) ?_
  rotate_left
  · (try dsimp only at hSw); go_simp; try with_reducible rfl
  simp only [Act.put, rg1, rg2, rg3, rg4, rg5, rg6]
  refine rgY 27 ?_ rfl (by kernel_rfl) (fun _ _ _ h => h) (.inl ⟨by rfl, fun w hSw => ?_⟩) (by assumption) ?_
  rotate_left
  · (try dsimp only at hSw); go_simp; try with_reducible rfl
  simp only [Act.put, rg1, rg2, rg3, rg4, rg5, rg6]
  refine rgY 28 ?_ rfl (by kernel_rfl) (fun _ _ _ h => h) (.inl ⟨by rfl, fun w hSw => ?_⟩) (by assumption) ?_
  rotate_left
  · (try dsimp only at hSw); go_simp; try with_reducible rfl
  simp only [Act.put, rg1, rg2, rg3, rg4, rg5, rg6]
  refine rgY 29 ?_ rfl (by kernel_rfl) (fun _ _ _ h => h) (.inl ⟨by rfl, fun w hSw => ?_⟩) (by assumption) ?_
  rotate_left
  · (try dsimp only at hSw); go_simp; try with_reducible rfl
  simp only [Act.put, rg1, rg2, rg3, rg4, rg5, rg6]
  refine rgY 30 ?_ rfl (by kernel_rfl) (fun _ _ _ h => h) (.inl ⟨by rfl, fun w hSw => ?_⟩) (by assumption) ?_
  rotate_left
  · (try dsimp only at hSw); go_simp; try with_reducible rfl
  simp only [Act.put, rg1, rg2, rg3, rg4, rg5, rg6]
  refine rgY 31 ?_ rfl (by kernel_rfl) (fun _ _ _ h => h) (.inl ⟨by rfl, fun w hSw => ?_⟩) (by assumption) ?_
  rotate_left
  · (try dsimp only at hSw); go_simp; try with_reducible rfl
  simp only [Act.put, rg1, rg2, rg3, rg4, rg5, rg6]
  refine rgY 32 undef rfl (by kernel_rfl) (fun _ _ _ h => h) (.inr ⟨by rfl, rfl⟩) (by assumption) ?_
  simp only [Act.put, rg1, rg2, rg3, rg4, rg5, rg6]
  refine rgY 33 undef rfl (by kernel_rfl) (fun _ _ _ h => h) (.inr ⟨by rfl, rfl⟩) (by assumption) ?_
  simp only [Act.put, rg1, rg2, rg3, rg4, rg5, rg6]
  refine rgY 34 undef rfl (by kernel_rfl) (fun _ _ _ h => h) (.inr ⟨by rfl, rfl⟩) (by assumption) ?_
  simp only [Act.put, rg1, rg2, rg3, rg4, rg5, rg6]
  refine rgY 35 undef rfl (by kernel_rfl) (fun _ _ _ h => h) (.inr ⟨by rfl, rfl⟩) (by assumption) ?_
  simp only [Act.put, rg1, rg2, rg3, rg4, rg5, rg6]
  refine rgY 36 undef rfl (by kernel_rfl) (fun _ _ _ h => h) (.inr ⟨by rfl, rfl⟩) (by assumption) ?_
  simp only [Act.put, rg1, rg2, rg3, rg4, rg5, rg6]
  refine rgY 37 ?_ rfl (by kernel_rfl) (fun _ _ _ h => h) (.inl ⟨by rfl, fun w hSw => ?_⟩) (by assumption) ?_
  rotate_left
  · (try dsimp only at hSw); go_simp; try with_reducible rfl
  simp only [Act.put, rg1, rg2, rg3, rg4, rg5, rg6]
  refine rgY 38 ?_ rfl (by kernel_rfl) (fun _ _ _ h => h) (.inl ⟨by rfl, fun w hSw => ?_⟩) (by assumption) ?_
  rotate_left
  · (try dsimp only at hSw); go_simp; try with_reducible rfl
  simp only [Act.put, rg1, rg2, rg3, rg4, rg5, rg6]
  refine rgY 39 undef rfl (by kernel_rfl) (fun _ _ _ h => h) (.inr ⟨by rfl, rfl⟩) (by assumption) ?_
  simp only [Act.put, rg1, rg2, rg3, rg4, rg5, rg6]
  refine rgY 40 undef rfl (by kernel_rfl) (fun _ _ _ h => h) (.inr ⟨by rfl, rfl⟩) (by assumption) ?_
  simp only [Act.put, rg1, rg2, rg3, rg4, rg5, rg6]
  refine rgY 41 undef rfl (by kernel_rfl) (fun _ _ _ h => h) (.inr ⟨by rfl, rfl⟩) (by assumption) ?_
  simp only [Act.put, rg1, rg2, rg3, rg4, rg5, rg6]
  refine rgY 42 ?_ rfl (by kernel_rfl) (fun _ _ _ h => h) (.inl ⟨by rfl, fun w hSw => ?_⟩) (by assumption) ?_
  rotate_left
  · (try dsimp only at hSw); go_simp; try with_reducible rfl
  simp only [Act.put, rg1, rg2, rg3, rg4, rg5, rg6]
  refine rgY 43 ?_ rfl (by kernel_rfl) (fun _ _ _ h => h) (.inl ⟨by rfl, fun w hSw => ?_⟩) (by assumption) ?_
  rotate_left
  · (try dsimp only at hSw); go_simp; try with_reducible rfl
  simp only [Act.put, rg1, rg2, rg3, rg4, rg5, rg6]
  refine wpAnyH_done (by kernel_rfl) ?_ _
  go_wp2_with (fail)
  go_ret
  exact ⟨rfl, HB.out⟩

set_option maxRecDepth 100000 in
set_option maxHeartbeats 2000000 in
theorem isRight_6 (d r s c i n t : Int) (w : World) (h0 : Rt d r s) (h1 : 1 ≤ c) (h2 : c ≤ s) (h3 : 0 ≤ i) (h4 : i < c) (h5 : 0 ≤ n) (h6 : ¬ (n ≤ PL d r)) :
    Calls Tryz.prog 49 #[gv d r s, umv c i n t] w fun e w' => e = .returned (.bool false) ∧ Below w.heap.size w w' := by
  obtain ⟨X, hX⟩ : ∃ X, X = (w.alloc (.cells #[.int .i64 d, .int .i64 r, .int .i64 s] 33 (0, 0))).alloc (.cells #[.int .i64 c, .int .i64 i, .int .i64 n, .int .i64 t] 57 (0, 0)) := ⟨_, rfl⟩
  have hu : Gu X w.heap.size d r s c i n t := by rw [hX]; exact Gu.mk' w d r s c i n t
  have hB : Below w.heap.size w X := by rw [hX]; exact bel2 _ _ _
  obtain ⟨g, hg⟩ : ∃ g, g = w.heap.size := ⟨_, rfl⟩
  have HB := Lib.hid hB
  rw [← hg] at hu
  have HU := Lib.hid hu.drew
  clear hu hB
  unfold umv
  have d1 : decide (1 ≤ c) = true := decide_eq_true h1
  have d2 : decide (c ≤ s) = true := decide_eq_true h2
  have d3 : decide (0 ≤ i) = true := decide_eq_true h3
  have d4 : decide (i < c) = true := decide_eq_true h4
  have d5 : decide (0 ≤ n) = true := decide_eq_true h5
  have d6 : decide (n ≤ PL d r) = false := decide_eq_false h6
  have H0 := Lib.hid h0
  clear h1 h2 h3 h4 h5 h6
  obtain ⟨P, hP⟩ : ∃ P, P = PL d r := ⟨_, rfl⟩
  have hpl : ∀ w, Calls Tryz.prog 95 #[gv d r s] w fun e w' => e = .returned (.int .i64 P) ∧ Below w.heap.size w w' := by rw [hP]; exact fun w => places_yes d r s w H0.out
  rw [← hP] at d6
  clear hP
  go_enter Tryz.func49, Tryz.ntmps49
  go_wp2_with (fail)
  rw [← hX, ← hg]
  clear hX hg
  refine wp_region_held_drew (S := (fun w' => w'.cell? ⟨g, 0, none⟩ = some (.int .i64 d) ∧ w'.cell? ⟨g, 1, none⟩ = some (.int .i64 r) ∧ w'.cell? ⟨g, 2, none⟩ = some (.int .i64 s) ∧ w'.cell? ⟨g + 1, 0, none⟩ = some (.int .i64 c) ∧ w'.cell? ⟨g + 1, 1, none⟩ = some (.int .i64 i) ∧ w'.cell? ⟨g + 1, 2, none⟩ = some (.int .i64 n) ∧ w'.cell? ⟨g + 1, 3, none⟩ = some (.int .i64 t))) (by kernel_rfl) ?_ (fun hHeld => ?_)
  · exact ⟨HU.out.b0, HU.out.b1, HU.out.b2, HU.out.u0, HU.out.u1, HU.out.u2, HU.out.u3⟩
  have HB1 : Hid (Below w.heap.size w X.drew) := below_drewN HB.out 1
  generalize hX1 : X.drew = X1 at *
  clear hX1 HB
  rename Hid (Below _ w _) => HB
  refine rgY 0 ?_ rfl (by kernel_rfl) (fun _ _ _ h => h) (.inl ⟨by rfl, fun w hSw => ?_⟩) (by assumption) ?_
  rotate_left
  · (try dsimp only at hSw); go_simp; try with_reducible rfl
  simp only [Act.put, rg1, rg2, rg3, rg4, rg6]
  refine wpAnyH_ready (rs := [1]) (by kernel_rfl) (by simp) ?_
  refine AllReadyH.cons rfl (fun K hK => ?_) AllReadyH.nil
  simp only [List.getElem_toArray, List.getElem_cons_succ, List.getElem_cons_zero]
  go_simp
  refine (right_yes d r s _ H0.out).mono ?_
  rintro e w2 ⟨rfl, hb2⟩
  have HU2 := Lib.hid (HU.out.next hb2)
  have HB2 := Lib.hid (HB.out.trans (hb2.mono (by have := HB.out.size; exact this)))
  clear hb2
  go_wp2_with (fail)
  refine hK.out _ _ ⟨HU2.out.b0, HU2.out.b1, HU2.out.b2, HU2.out.u0, HU2.out.u1, HU2.out.u2, HU2.out.u3⟩ (fun hHeld => ?_)
  clear hK K HU HB
  rename Hid (Gu _ _ _ _ _ _ _ _ _) => HU
  rename Hid (Below _ w _) => HB
  refine rgY 2 ?_ rfl (by kernel_rfl) (fun _ _ _ h => h) (.inl ⟨by rfl, fun w hSw => ?_⟩) (by assumption) ?_
  rotate_left
  · (try dsimp only at hSw); go_simp; try with_reducible rfl
  simp only [Act.put, rg1, rg2, rg3, rg4, rg5, rg6]
  refine rgY 3 ?_ rfl (by kernel_rfl) (fun _ _ _ h => h) (.inl ⟨by rfl, fun w hSw => ?_⟩) (by assumption) ?_
  rotate_left
  · (try dsimp only at hSw); go_simp; try with_reducible rfl
  simp only [Act.put, rg1, rg2, rg3, rg4, rg5, rg6]
  refine rgY 4 ?_ rfl (by kernel_rfl) (fun _ _ _ h => h) (.inl ⟨by rfl, fun w hSw => ?_⟩) (by assumption) ?_
  rotate_left
  · (try dsimp only at hSw); go_simp; try with_reducible rfl
  simp only [Act.put, rg1, rg2, rg3, rg4, rg5, rg6]
  refine rgY 5 ?_ rfl (by kernel_rfl) (fun _ _ _ h => h) (.inl ⟨by rfl, fun w hSw => ?_⟩) (by assumption) ?_
  rotate_left
  · (try dsimp only at hSw); go_simp; try with_reducible rfl
  simp only [Act.put, rg1, rg2, rg3, rg4, rg5, rg6]
  refine rgY 6 ?_ rfl (by kernel_rfl) (fun _ _ _ h => h) (.inl ⟨by rfl, fun w hSw => ?_⟩) (by assumption) ?_
  rotate_left
  · (try dsimp only at hSw); go_simp; try with_reducible rfl
  simp only [Act.put, rg1, rg2, rg3, rg4, rg5, rg6]
  refine rgY 7 ?_ rfl (by kernel_rfl) (fun _ _ _ h => h) (.inl ⟨by rfl, fun w hSw => ?_⟩) (by assumption) ?_
  rotate_left
  · (try dsimp only at hSw); go_simp; try with_reducible rfl
  simp only [Act.put, rg1, rg2, rg3, rg4, rg5, rg6]
  refine rgY 8 ?_ rfl (by kernel_rfl) (fun _ _ _ h => h) (.inl ⟨by rfl, fun w hSw => ?_⟩) (by assumption) ?_
  rotate_left
  · (try dsimp only at hSw); go_simp; try with_reducible rfl
  simp only [Act.put, rg1, rg2, rg3, rg4, rg5, rg6]
  refine rgY 9 ?_ rfl (by kernel_rfl) (fun _ _ _ h => h) (.inl ⟨by rfl, fun w hSw => ?_⟩) (by assumption) ?_
  rotate_left
  · (try dsimp only at hSw); go_simp; try with_reducible rfl
  simp only [Act.put, rg1, rg2, rg3, rg4, rg5, rg6]
  refine rgY 10 ?_ rfl (by kernel_rfl) (fun _ _ _ h => h) (.inl ⟨by rfl, fun w hSw => ?_⟩) (by assumption) ?_
  rotate_left
  · (try dsimp only at hSw); go_simp; try with_reducible rfl
  simp only [Act.put, rg1, rg2, rg3, rg4, rg5, rg6]
  refine rgY 11 ?_ rfl (by kernel_rfl) (fun _ _ _ h => h) (.inl ⟨by rfl, fun w hSw => ?_⟩) (by assumption) ?_
  rotate_left
  · (try dsimp only at hSw); go_simp; try with_reducible rfl
  simp only [Act.put, rg1, rg2, rg3, rg4, rg5, rg6]
  refine rgY 12 ?_ rfl (by kernel_rfl) (fun _ _ _ h => h) (.inl ⟨by rfl, fun w hSw => ?_⟩) (by assumption) ?_
  rotate_left
  · (try dsimp only at hSw); go_simp; try with_reducible rfl
  simp only [Act.put, rg1, rg2, rg3, rg4, rg5, rg6]
  refine rgY 13 ?_ rfl (by kernel_rfl) (fun _ _ _ h => h) (.inl ⟨by rfl, fun w hSw => ?_⟩) (by assumption) ?_
  rotate_left
  · (try dsimp only at hSw); go_simp; try with_reducible rfl
  simp only [Act.put, rg1, rg2, rg3, rg4, rg5, rg6]
  refine rgY 14 ?_ rfl (by kernel_rfl) (fun _ _ _ h => h) (.inl ⟨by rfl, fun w hSw => ?_⟩) (by assumption) ?_
  rotate_left
  · (try dsimp only at hSw); go_simp; try with_reducible rfl
  simp only [Act.put, rg1, rg2, rg3, rg4, rg5, rg6]
  refine rgY 15 ?_ rfl (by kernel_rfl) (fun _ _ _ h => h) (.inl ⟨by rfl, fun w hSw => ?_⟩) (by assumption) ?_
  rotate_left
  · (try dsimp only at hSw); go_simp; try with_reducible rfl
  simp only [Act.put, rg1, rg2, rg3, rg4, rg5, rg6]
  refine rgY 16 ?_ rfl (by kernel_rfl) (fun _ _ _ h => h) (.inl ⟨by rfl, fun w hSw => ?_⟩) (by assumption) ?_
  rotate_left
  · (try dsimp only at hSw); go_simp; try with_reducible rfl
  simp only [Act.put, rg1, rg2, rg3, rg4, rg5, rg6]
  refine rgY 17 ?_ rfl (by kernel_rfl) (fun _ _ _ h => h) (.inl ⟨by rfl, fun w hSw => ?_⟩) (by assumption) ?_
  rotate_left
  · (try dsimp only at hSw); go_simp; try with_reducible rfl
  simp only [Act.put, rg1, rg2, rg3, rg4, rg5, rg6]
  refine rgY 18 ?_ rfl (by kernel_rfl) (fun _ _ _ h => h) (.inl ⟨by rfl, fun w hSw => ?_⟩) (by assumption) ?_
  rotate_left
  · (try dsimp only at hSw); go_simp; try with_reducible rfl
  simp only [Act.put, rg1, rg2, rg3, rg4, rg5, rg6]
  refine rgY 19 ?_ rfl (by kernel_rfl) (fun _ _ _ h => h) (.inl ⟨by rfl, fun w hSw => ?_⟩) (by assumption) ?_
  rotate_left
  · (try dsimp only at hSw); go_simp; try with_reducible rfl
  simp only [Act.put, rg1, rg2, rg3, rg4, rg5, rg6]
  refine rgY 20 ?_ rfl (by kernel_rfl) (fun _ _ _ h => h) (.inl ⟨by rfl, fun w hSw => ?_⟩) (by assumption) ?_
  rotate_left
  · (try dsimp only at hSw); go_simp; try with_reducible rfl
  simp only [Act.put, rg1, rg2, rg3, rg4, rg5, rg6]
  refine rgY 21 ?_ rfl (by kernel_rfl) (fun _ _ _ h => h) (.inl ⟨by rfl, fun w hSw => ?_⟩) (by assumption) ?_
  rotate_left
  · (try dsimp only at hSw); go_simp; try with_reducible rfl
  simp only [Act.put, rg1, rg2, rg3, rg4, rg5, rg6]
  refine rgY 22 ?_ rfl (by kernel_rfl) (fun _ _ _ h => h) (.inl ⟨by rfl, fun w hSw => ?_⟩) (by assumption) ?_
  rotate_left
  · (try dsimp only at hSw); go_simp; try with_reducible rfl
  simp only [Act.put, rg1, rg2, rg3, rg4, rg5, rg6]
  refine rgY 23 ?_ rfl (by kernel_rfl) (fun _ _ _ h => h) (.inl ⟨by rfl, fun w hSw => ?_⟩) (by assumption) ?_
  rotate_left
  · (try dsimp only at hSw); go_simp; try with_reducible rfl
  simp only [Act.put, rg1, rg2, rg3, rg4, rg5, rg6]
  refine rgY 24 ?_ rfl (by kernel_rfl) (fun _ _ _ h => h) (.inl ⟨by rfl, fun w hSw => ?_⟩) (by assumption) ?_
  rotate_left
  · (try dsimp only at hSw); go_simp; try with_reducible rfl
  simp only [Act.put, rg1, rg2, rg3, rg4, rg5, rg6]
  refine rgY 25 ?_ rfl (by kernel_rfl) (fun _ _ _ h => h) (.inl ⟨by rfl, fun w hSw => ?_⟩) (by assumption) ?_
  rotate_left
  · (try dsimp only at hSw); go_simp; try with_reducible rfl
  simp only [Act.put, rg1, rg2, rg3, rg4, rg5, rg6]
  refine rgY 26 ?_ rfl (by kernel_rfl) (fun _ _ _ h => h) (.inl ⟨by rfl, fun w hSw => ?_⟩) (by assumption) ?_
  rotate_left
  · (try dsimp only at hSw); go_simp; try with_reducible rfl
  simp only [Act.put, rg1, rg2, rg3, rg4, rg5, rg6]
  refine rgY 27 ?_ rfl (by kernel_rfl) (fun _ _ _ h => h) (.inl ⟨by rfl, fun w hSw => ?_⟩) (by assumption) ?_
  rotate_left
  · (try dsimp only at hSw); go_simp; try with_reducible rfl
  simp only [Act.put, rg1, rg2, rg3, rg4, rg5, rg6]
  refine rgY 28 ?_ rfl (by kernel_rfl) (fun _ _ _ h => h) (.inl ⟨by rfl, fun w hSw => ?_⟩) (by assumption) ?_
  rotate_left
  · (try dsimp only at hSw); go_simp; try with_reducible rfl
  simp only [Act.put, rg1, rg2, rg3, rg4, rg5, rg6]
  refine rgY 29 ?_ rfl (by kernel_rfl) (fun _ _ _ h => h) (.inl ⟨by rfl, fun w hSw => ?_⟩) (by assumption) ?_
  rotate_left
  · (try dsimp only at hSw); go_simp; try with_reducible rfl
  simp only [Act.put, rg1, rg2, rg3, rg4, rg5, rg6]
  refine rgY 30 ?_ rfl (by kernel_rfl) (fun _ _ _ h => h) (.inl ⟨by rfl, fun w hSw => ?_⟩) (by assumption) ?_
  rotate_left
  · (try dsimp only at hSw); go_simp; try with_reducible rfl
  simp only [Act.put, rg1, rg2, rg3, rg4, rg5, rg6]
  refine rgY 31 ?_ rfl (by kernel_rfl) (fun _ _ _ h => h) (.inl ⟨by rfl, fun w hSw => ?_⟩) (by assumption) ?_
  rotate_left
  · (try dsimp only at hSw); go_simp; try with_reducible rfl
  simp only [Act.put, rg1, rg2, rg3, rg4, rg5, rg6]
  refine rgY 32 ?_ rfl (by kernel_rfl) (fun _ _ _ h => h) (.inl ⟨by rfl, fun w hSw => ?_⟩) (by assumption) ?_
  rotate_left
  · (try dsimp only at hSw); go_simp; try with_reducible rfl
  simp only [Act.put, rg1, rg2, rg3, rg4, rg5, rg6]
  refine rgY 33 ?_ rfl (by kernel_rfl) (fun _ _ _ h => h) (.inl ⟨by rfl, fun w hSw => ?_⟩) (by assumption) ?_
  rotate_left
  · (try dsimp only at hSw); go_simp; try with_reducible rfl
  simp only [Act.put, rg1, rg2, rg3, rg4, rg5, rg6]
  refine rgY 34 ?_ rfl (by kernel_rfl) (fun _ _ _ h => h) (.inl ⟨by rfl, fun w hSw => ?_⟩) (by assumption) ?_
  rotate_left
  · (try dsimp only at hSw); go_simp; try with_reducible rfl
  simp only [Act.put, rg1, rg2, rg3, rg4, rg5, rg6]
  refine wpAnyH_ready (rs := [35]) (by kernel_rfl) (by simp) ?_
  refine AllReadyH.cons rfl (fun K hK => ?_) AllReadyH.nil
  simp only [List.getElem_toArray, List.getElem_cons_succ, List.getElem_cons_zero]
  go_simp
  refine (hpl _).mono ?_
  rintro e w2 ⟨rfl, hb2⟩
  have HU2 := Lib.hid (HU.out.next hb2)
  have HB2 := Lib.hid (HB.out.trans (hb2.mono (by have := HB.out.size; exact this)))
  clear hb2
  go_wp2_with (fail)
  refine hK.out _ _ ⟨HU2.out.b0, HU2.out.b1, HU2.out.b2, HU2.out.u0, HU2.out.u1, HU2.out.u2, HU2.out.u3⟩ (fun hHeld => ?_)
  clear hK K HU HB
  rename Hid (Gu _ _ _ _ _ _ _ _ _) => HU
  rename Hid (Below _ w _) => HB
  refine rgY 36 ?_ rfl (by kernel_rfl) (fun _ _ _ h => h) (.inl ⟨by rfl, fun w hSw => ?_⟩) (by assumption) ?_
  rotate_left
  · (try dsimp only at hSw); go_simp; try with_reducible rfl
  simp only [Act.put, rg1, rg2, rg3, rg4, rg5, rg6]
  refine rgY 37 ?_ rfl (by kernel_rfl) (fun _ _ _ h => h) (.inl ⟨by rfl, fun w hSw => ?_⟩) (by assumption) ?_
  rotate_left
  · (try dsimp only at hSw); go_simp; try with_reducible rfl
  simp only [Act.put, rg1, rg2, rg3, rg4, rg5, rg6]
  refine rgY 38 ?_ rfl (by kernel_rfl) (fun _ _ _ h => h) (.inl ⟨by rfl, fun w hSw => ?_⟩) (by assumption) ?_
  rotate_left
  · (try dsimp only at hSw); go_simp; try with_reducible rfl
  simp only [Act.put, rg1, rg2, rg3, rg4, rg5, rg6]
  refine rgY 39 undef rfl (by kernel_rfl) (fun _ _ _ h => h) (.inr ⟨by rfl, rfl⟩) (by assumption) ?_
  simp only [Act.put, rg1, rg2, rg3, rg4, rg5, rg6]
  refine rgY 40 undef rfl (by kernel_rfl) (fun _ _ _ h => h) (.inr ⟨by rfl, rfl⟩) (by assumption) ?_
  simp only [Act.put, rg1, rg2, rg3, rg4, rg5, rg6]
  refine rgY 41 undef rfl (by kernel_rfl) (fun _ _ _ h => h) (.inr ⟨by rfl, rfl⟩) (by assumption) ?_
  simp only [Act.put, rg1, rg2, rg3, rg4, rg5, rg6]
  refine rgY 42 ?_ rfl (by kernel_rfl) (fun _ _ _ h => h) (.inl ⟨by rfl, fun w hSw => ?_⟩) (by assumption) ?_
  rotate_left
  · (try dsimp only at hSw); go_simp; try with_reducible rfl
  simp only [Act.put, rg1, rg2, rg3, rg4, rg5, rg6]
  refine rgY 43 ?_ rfl (by kernel_rfl) (fun _ _ _ h => h) (.inl ⟨by rfl, fun w hSw => ?_⟩) (by assumption) ?_
  rotate_left
  · (try dsimp only at hSw); go_simp; try with_reducible rfl
  simp only [Act.put, rg1, rg2, rg3, rg4, rg5, rg6]
  refine wpAnyH_done (by kernel_rfl) ?_ _
  go_wp2_with (fail)
  go_ret
  exact ⟨rfl, HB.out⟩

set_option maxRecDepth 100000 in
set_option maxHeartbeats 2000000 in
theorem isRight_7 (d r s c i n t : Int) (w : World) (h0 : Rt d r s) (h1 : 1 ≤ c) (h2 : c ≤ s) (h3 : 0 ≤ i) (h4 : i < c) (h5 : 0 ≤ n) (h6 : n ≤ PL d r) (ok : Bool) (hr : ∀ w, Calls Tryz.prog 96 #[gv d r s, umv c i n t] w fun e w' => e = .returned (.bool ok) ∧ Below w.heap.size w w') :
    Calls Tryz.prog 49 #[gv d r s, umv c i n t] w fun e w' => e = .returned (.bool ok) ∧ Below w.heap.size w w' := by
  obtain ⟨X, hX⟩ : ∃ X, X = (w.alloc (.cells #[.int .i64 d, .int .i64 r, .int .i64 s] 33 (0, 0))).alloc (.cells #[.int .i64 c, .int .i64 i, .int .i64 n, .int .i64 t] 57 (0, 0)) := ⟨_, rfl⟩
  have hu : Gu X w.heap.size d r s c i n t := by rw [hX]; exact Gu.mk' w d r s c i n t
  have hB : Below w.heap.size w X := by rw [hX]; exact bel2 _ _ _
  obtain ⟨g, hg⟩ : ∃ g, g = w.heap.size := ⟨_, rfl⟩
  have HB := Lib.hid hB
  rw [← hg] at hu
  have HU := Lib.hid hu.drew
  clear hu hB
  unfold umv
  have d1 : decide (1 ≤ c) = true := decide_eq_true h1
  have d2 : decide (c ≤ s) = true := decide_eq_true h2
  have d3 : decide (0 ≤ i) = true := decide_eq_true h3
  have d4 : decide (i < c) = true := decide_eq_true h4
  have d5 : decide (0 ≤ n) = true := decide_eq_true h5
  have d6 : decide (n ≤ PL d r) = true := decide_eq_true h6
  have H0 := Lib.hid h0
  clear h1 h2 h3 h4 h5 h6
  unfold umv at hr
  obtain ⟨P, hP⟩ : ∃ P, P = PL d r := ⟨_, rfl⟩
  have hpl : ∀ w, Calls Tryz.prog 95 #[gv d r s] w fun e w' => e = .returned (.int .i64 P) ∧ Below w.heap.size w w' := by rw [hP]; exact fun w => places_yes d r s w H0.out
  rw [← hP] at d6
  clear hP
  go_enter Tryz.func49, Tryz.ntmps49
  go_wp2_with (fail)
  rw [← hX, ← hg]
  clear hX hg
  refine wp_region_held_drew (S := (fun w' => w'.cell? ⟨g, 0, none⟩ = some (.int .i64 d) ∧ w'.cell? ⟨g, 1, none⟩ = some (.int .i64 r) ∧ w'.cell? ⟨g, 2, none⟩ = some (.int .i64 s) ∧ w'.cell? ⟨g + 1, 0, none⟩ = some (.int .i64 c) ∧ w'.cell? ⟨g + 1, 1, none⟩ = some (.int .i64 i) ∧ w'.cell? ⟨g + 1, 2, none⟩ = some (.int .i64 n) ∧ w'.cell? ⟨g + 1, 3, none⟩ = some (.int .i64 t))) (by kernel_rfl) ?_ (fun hHeld => ?_)
  · exact ⟨HU.out.b0, HU.out.b1, HU.out.b2, HU.out.u0, HU.out.u1, HU.out.u2, HU.out.u3⟩
  have HB1 : Hid (Below w.heap.size w X.drew) := below_drewN HB.out 1
  generalize hX1 : X.drew = X1 at *
  clear hX1 HB
  rename Hid (Below _ w _) => HB
  refine rgY 0 ?_ rfl (by kernel_rfl) (fun _ _ _ h => h) (.inl ⟨by rfl, fun w hSw => ?_⟩) (by assumption) ?_
  rotate_left
  · (try dsimp only at hSw); go_simp; try with_reducible rfl
  simp only [Act.put, rg1, rg2, rg3, rg4, rg6]
  refine wpAnyH_ready (rs := [1]) (by kernel_rfl) (by simp) ?_
  refine AllReadyH.cons rfl (fun K hK => ?_) AllReadyH.nil
  simp only [List.getElem_toArray, List.getElem_cons_succ, List.getElem_cons_zero]
  go_simp
  refine (right_yes d r s _ H0.out).mono ?_
  rintro e w2 ⟨rfl, hb2⟩
  have HU2 := Lib.hid (HU.out.next hb2)
  have HB2 := Lib.hid (HB.out.trans (hb2.mono (by have := HB.out.size; exact this)))
  clear hb2
  go_wp2_with (fail)
  refine hK.out _ _ ⟨HU2.out.b0, HU2.out.b1, HU2.out.b2, HU2.out.u0, HU2.out.u1, HU2.out.u2, HU2.out.u3⟩ (fun hHeld => ?_)
  clear hK K HU HB
  rename Hid (Gu _ _ _ _ _ _ _ _ _) => HU
  rename Hid (Below _ w _) => HB
  refine rgY 2 ?_ rfl (by kernel_rfl) (fun _ _ _ h => h) (.inl ⟨by rfl, fun w hSw => ?_⟩) (by assumption) ?_
  rotate_left
  · (try dsimp only at hSw); go_simp; try with_reducible rfl
  simp only [Act.put, rg1, rg2, rg3, rg4, rg5, rg6]
  refine rgY 3 ?_ rfl (by kernel_rfl) (fun _ _ _ h => h) (.inl ⟨by rfl, fun w hSw => ?_⟩) (by assumption) ?_
  rotate_left
  · (try dsimp only at hSw); go_simp; try with_reducible rfl
  simp only [Act.put, rg1, rg2, rg3, rg4, rg5, rg6]
  refine rgY 4 ?_ rfl (by kernel_rfl) (fun _ _ _ h => h) (.inl ⟨by rfl, fun w hSw => ?_⟩) (by assumption) ?_
  rotate_left
  · (try dsimp only at hSw); go_simp; try with_reducible rfl
  simp only [Act.put, rg1, rg2, rg3, rg4, rg5, rg6]
  refine rgY 5 ?_ rfl (by kernel_rfl) (fun _ _ _ h => h) (.inl ⟨by rfl, fun w hSw => ?_⟩) (by assumption) ?_
  rotate_left
  · (try dsimp only at hSw); go_simp; try with_reducible rfl
  simp only [Act.put, rg1, rg2, rg3, rg4, rg5, rg6]
  refine rgY 6 ?_ rfl (by kernel_rfl) (fun _ _ _ h => h) (.inl ⟨by rfl, fun w hSw => ?_⟩) (by assumption) ?_
  rotate_left
  · (try dsimp only at hSw); go_simp; try with_reducible rfl
  simp only [Act.put, rg1, rg2, rg3, rg4, rg5, rg6]
  refine rgY 7 ?_ rfl (by kernel_rfl) (fun _ _ _ h => h) (.inl ⟨by rfl, fun w hSw => ?_⟩) (by assumption) ?_
  rotate_left
  · (try dsimp only at hSw); go_simp; try with_reducible rfl
  simp only [Act.put, rg1, rg2, rg3, rg4, rg5, rg6]
  refine rgY 8 ?_ rfl (by kernel_rfl) (fun _ _ _ h => h) (.inl ⟨by rfl, fun w hSw => ?_⟩) (by assumption) ?_
  rotate_left
  · (try dsimp only at hSw); go_simp; try with_reducible rfl
  simp only [Act.put, rg1, rg2, rg3, rg4, rg5, rg6]
  refine rgY 9 ?_ rfl (by kernel_rfl) (fun _ _ _ h => h) (.inl ⟨by rfl, fun w hSw => ?_⟩) (by assumption) ?_
  rotate_left
  · (try dsimp only at hSw); go_simp; try with_reducible rfl
  simp only [Act.put, rg1, rg2, rg3, rg4, rg5, rg6]
  refine rgY 10 ?_ rfl (by kernel_rfl) (fun _ _ _ h => h) (.inl ⟨by rfl, fun w hSw => ?_⟩) (by assumption) ?_
  rotate_left
  · (try dsimp only at hSw); go_simp; try with_reducible rfl
  simp only [Act.put, rg1, rg2, rg3, rg4, rg5, rg6]
  refine rgY 11 ?_ rfl (by kernel_rfl) (fun _ _ _ h => h) (.inl ⟨by rfl, fun w hSw => ?_⟩) (by assumption) ?_
  rotate_left
  · (try dsimp only at hSw); go_simp; try with_reducible rfl
  simp only [Act.put, rg1, rg2, rg3, rg4, rg5, rg6]
  refine rgY 12 ?_ rfl (by kernel_rfl) (fun _ _ _ h => h) (.inl ⟨by rfl, fun w hSw => ?_⟩) (by assumption) ?_
  rotate_left
  · (try dsimp only at hSw); go_simp; try with_reducible rfl
  simp only [Act.put, rg1, rg2, rg3, rg4, rg5, rg6]
  refine rgY 13 ?_ rfl (by kernel_rfl) (fun _ _ _ h => h) (.inl ⟨by rfl, fun w hSw => ?_⟩) (by assumption) ?_
  rotate_left
  · (try dsimp only at hSw); go_simp; try with_reducible rfl
  simp only [Act.put, rg1, rg2, rg3, rg4, rg5, rg6]
  refine rgY 14 ?_ rfl (by kernel_rfl) (fun _ _ _ h => h) (.inl ⟨by rfl, fun w hSw => ?_⟩) (by assumption) ?_
  rotate_left
  · (try dsimp only at hSw); go_simp; try with_reducible rfl
  simp only [Act.put, rg1, rg2, rg3, rg4, rg5, rg6]
  refine rgY 15 ?_ rfl (by kernel_rfl) (fun _ _ _ h => h) (.inl ⟨by rfl, fun w hSw => ?_⟩) (by assumption) ?_
  rotate_left
  · (try dsimp only at hSw); go_simp; try with_reducible rfl
  simp only [Act.put, rg1, rg2, rg3, rg4, rg5, rg6]
  refine rgY 16 ?_ rfl (by kernel_rfl) (fun _ _ _ h => h) (.inl ⟨by rfl, fun w hSw => ?_⟩) (by assumption) ?_
  rotate_left
  · (try dsimp only at hSw); go_simp; try with_reducible rfl
  simp only [Act.put, rg1, rg2, rg3, rg4, rg5, rg6]
  refine rgY 17 ?_ rfl (by kernel_rfl) (fun _ _ _ h => h) (.inl ⟨by rfl, fun w hSw => ?_⟩) (by assumption) ?_
  rotate_left
  · (try dsimp only at hSw); go_simp; try with_reducible rfl
  simp only [Act.put, rg1, rg2, rg3, rg4, rg5, rg6]
  refine rgY 18 ?_ rfl (by kernel_rfl) (fun _ _ _ h => h) (.inl ⟨by rfl, fun w hSw => ?_⟩) (by assumption) ?_
  rotate_left
  · (try dsimp only at hSw); go_simp; try with_reducible rfl
  simp only [Act.put, rg1, rg2, rg3, rg4, rg5, rg6]
  refine rgY 19 ?_ rfl (by kernel_rfl) (fun _ _ _ h => h) (.inl ⟨by rfl, fun w hSw => ?_⟩) (by assumption) ?_
  rotate_left
  · (try dsimp only at hSw); go_simp; try with_reducible rfl
  simp only [Act.put, rg1, rg2, rg3, rg4, rg5, rg6]
  refine rgY 20 ?_ rfl (by kernel_rfl) (fun _ _ _ h => h) (.inl ⟨by rfl, fun w hSw => ?_⟩) (by assumption) ?_
  rotate_left
  · (try dsimp only at hSw); go_simp; try with_reducible rfl
  simp only [Act.put, rg1, rg2, rg3, rg4, rg5, rg6]
  refine rgY 21 ?_ rfl (by kernel_rfl) (fun _ _ _ h => h) (.inl ⟨by rfl, fun w hSw => ?_⟩) (by assumption) ?_
  rotate_left
  · (try dsimp only at hSw); go_simp; try with_reducible rfl
  simp only [Act.put, rg1, rg2, rg3, rg4, rg5, rg6]
  refine rgY 22 ?_ rfl (by kernel_rfl) (fun _ _ _ h => h) (.inl ⟨by rfl, fun w hSw => ?_⟩) (by assumption) ?_
  rotate_left
  · (try dsimp only at hSw); go_simp; try with_reducible rfl
  simp only [Act.put, rg1, rg2, rg3, rg4, rg5, rg6]
  refine rgY 23 ?_ rfl (by kernel_rfl) (fun _ _ _ h => h) (.inl ⟨by rfl, fun w hSw => ?_⟩) (by assumption) ?_
  rotate_left
  · (try dsimp only at hSw); go_simp; try with_reducible rfl
  simp only [Act.put, rg1, rg2, rg3, rg4, rg5, rg6]
  refine rgY 24 ?_ rfl (by kernel_rfl) (fun _ _ _ h => h) (.inl ⟨by rfl, fun w hSw => ?_⟩) (by assumption) ?_
  rotate_left
  · (try dsimp only at hSw); go_simp; try with_reducible rfl
  simp only [Act.put, rg1, rg2, rg3, rg4, rg5, rg6]
  refine rgY 25 ?_ rfl (by kernel_rfl) (fun _ _ _ h => h) (.inl ⟨by rfl, fun w hSw => ?_⟩) (by assumption) ?_
  rotate_left
  · (try dsimp only at hSw); go_simp; try with_reducible rfl
  simp only [Act.put, rg1, rg2, rg3, rg4, rg5, rg6]
  refine rgY 26 ?_ rfl (by kernel_rfl) (fun _ _ _ h => h) (.inl ⟨by rfl, fun w hSw => ?_⟩) (by assumption) ?_
  rotate_left
  · (try dsimp only at hSw); go_simp; try with_reducible rfl
  simp only [Act.put, rg1, rg2, rg3, rg4, rg5, rg6]
  refine rgY 27 ?_ rfl (by kernel_rfl) (fun _ _ _ h => h) (.inl ⟨by rfl, fun w hSw => ?_⟩) (by assumption) ?_
  rotate_left
  · (try dsimp only at hSw); go_simp; try with_reducible rfl
  simp only [Act.put, rg1, rg2, rg3, rg4, rg5, rg6]
  refine rgY 28 ?_ rfl (by kernel_rfl) (fun _ _ _ h => h) (.inl ⟨by rfl, fun w hSw => ?_⟩) (by assumption) ?_
  rotate_left
  · (try dsimp only at hSw); go_simp; try with_reducible rfl
  simp only [Act.put, rg1, rg2, rg3, rg4, rg5, rg6]
  refine rgY 29 ?_ rfl (by kernel_rfl) (fun _ _ _ h => h) (.inl ⟨by rfl, fun w hSw => ?_⟩) (by assumption) ?_
  rotate_left
  · (try dsimp only at hSw); go_simp; try with_reducible rfl
  simp only [Act.put, rg1, rg2, rg3, rg4, rg5, rg6]
  refine rgY 30 ?_ rfl (by kernel_rfl) (fun _ _ _ h => h) (.inl ⟨by rfl, fun w hSw => ?_⟩) (by assumption) ?_
  rotate_left
  · (try dsimp only at hSw); go_simp; try with_reducible rfl
  simp only [Act.put, rg1, rg2, rg3, rg4, rg5, rg6]
  refine rgY 31 ?_ rfl (by kernel_rfl) (fun _ _ _ h => h) (.inl ⟨by rfl, fun w hSw => ?_⟩) (by assumption) ?_
  rotate_left
  · (try dsimp only at hSw); go_simp; try with_reducible rfl
  simp only [Act.put, rg1, rg2, rg3, rg4, rg5, rg6]
  refine rgY 32 ?_ rfl (by kernel_rfl) (fun _ _ _ h => h) (.inl ⟨by rfl, fun w hSw => ?_⟩) (by assumption) ?_
  rotate_left
  · (try dsimp only at hSw); go_simp; try with_reducible rfl
  simp only [Act.put, rg1, rg2, rg3, rg4, rg5, rg6]
  refine rgY 33 ?_ rfl (by kernel_rfl) (fun _ _ _ h => h) (.inl ⟨by rfl, fun w hSw => ?_⟩) (by assumption) ?_
  rotate_left
  · (try dsimp only at hSw); go_simp; try with_reducible rfl
  simp only [Act.put, rg1, rg2, rg3, rg4, rg5, rg6]
  refine rgY 34 ?_ rfl (by kernel_rfl) (fun _ _ _ h => h) (.inl ⟨by rfl, fun w hSw => ?_⟩) (by assumption) ?_
  rotate_left
  · (try dsimp only at hSw); go_simp; try with_reducible rfl
  simp only [Act.put, rg1, rg2, rg3, rg4, rg5, rg6]
  refine wpAnyH_ready (rs := [35]) (by kernel_rfl) (by simp) ?_
  refine AllReadyH.cons rfl (fun K hK => ?_) AllReadyH.nil
  simp only [List.getElem_toArray, List.getElem_cons_succ, List.getElem_cons_zero]
  go_simp
  refine (hpl _).mono ?_
  rintro e w2 ⟨rfl, hb2⟩
  have HU2 := Lib.hid (HU.out.next hb2)
  have HB2 := Lib.hid (HB.out.trans (hb2.mono (by have := HB.out.size; exact this)))
  clear hb2
  go_wp2_with (fail)
  refine hK.out _ _ ⟨HU2.out.b0, HU2.out.b1, HU2.out.b2, HU2.out.u0, HU2.out.u1, HU2.out.u2, HU2.out.u3⟩ (fun hHeld => ?_)
  clear hK K HU HB
  rename Hid (Gu _ _ _ _ _ _ _ _ _) => HU
  rename Hid (Below _ w _) => HB
  refine rgY 36 ?_ rfl (by kernel_rfl) (fun _ _ _ h => h) (.inl ⟨by rfl, fun w hSw => ?_⟩) (by assumption) ?_
  rotate_left
  · (try dsimp only at hSw); go_simp; try with_reducible rfl
  simp only [Act.put, rg1, rg2, rg3, rg4, rg5, rg6]
  refine rgY 37 ?_ rfl (by kernel_rfl) (fun _ _ _ h => h) (.inl ⟨by rfl, fun w hSw => ?_⟩) (by assumption) ?_
  rotate_left
  · (try dsimp only at hSw); go_simp; try with_reducible rfl
  simp only [Act.put, rg1, rg2, rg3, rg4, rg5, rg6]
  refine rgY 38 ?_ rfl (by kernel_rfl) (fun _ _ _ h => h) (.inl ⟨by rfl, fun w hSw => ?_⟩) (by assumption) ?_
  rotate_left
  · (try dsimp only at hSw); go_simp; try with_reducible rfl
  simp only [Act.put, rg1, rg2, rg3, rg4, rg5, rg6]
  refine rgY 39 ?_ rfl (by kernel_rfl) (fun _ _ _ h => h) (.inl ⟨by rfl, fun w hSw => ?_⟩) (by assumption) ?_
  rotate_left
  · (try dsimp only at hSw); go_simp; try with_reducible rfl
  simp only [Act.put, rg1, rg2, rg3, rg4, rg5, rg6]
  refine rgY 40 ?_ rfl (by kernel_rfl) (fun _ _ _ h => h) (.inl ⟨by rfl, fun w hSw => ?_⟩) (by assumption) ?_
  rotate_left
  · (try dsimp only at hSw); go_simp; try with_reducible rfl
  simp only [Act.put, rg1, rg2, rg3, rg4, rg5, rg6]
  refine wpAnyH_ready (rs := [41]) (by kernel_rfl) (by simp) ?_
  refine AllReadyH.cons rfl (fun K hK => ?_) AllReadyH.nil
  simp only [List.getElem_toArray, List.getElem_cons_succ, List.getElem_cons_zero]
  go_simp
  refine (hr _).mono ?_
  rintro e w2 ⟨rfl, hb2⟩
  have HU2 := Lib.hid (HU.out.next hb2)
  have HB2 := Lib.hid (HB.out.trans (hb2.mono (by have := HB.out.size; exact this)))
  clear hb2
  go_wp2_with (fail)
  refine hK.out _ _ ⟨HU2.out.b0, HU2.out.b1, HU2.out.b2, HU2.out.u0, HU2.out.u1, HU2.out.u2, HU2.out.u3⟩ (fun hHeld => ?_)
  clear hK K HU HB
  rename Hid (Gu _ _ _ _ _ _ _ _ _) => HU
  rename Hid (Below _ w _) => HB
  refine rgY 42 ?_ rfl (by kernel_rfl) (fun _ _ _ h => h) (.inl ⟨by rfl, fun w hSw => ?_⟩) (by assumption) ?_
  rotate_left
  · (try dsimp only at hSw); go_simp; try with_reducible rfl
  simp only [Act.put, rg1, rg2, rg3, rg4, rg5, rg6]
  refine rgY 43 ?_ rfl (by kernel_rfl) (fun _ _ _ h => h) (.inl ⟨by rfl, fun w hSw => ?_⟩) (by assumption) ?_
  rotate_left
  · (try dsimp only at hSw); go_simp; try with_reducible rfl
  simp only [Act.put, rg1, rg2, rg3, rg4, rg5, rg6]
  refine wpAnyH_done (by kernel_rfl) ?_ _
  go_wp2_with (fail)
  go_ret
  exact ⟨rfl, HB.out⟩

end Go.Proofs.YtegmeoghonolcaaGreat
