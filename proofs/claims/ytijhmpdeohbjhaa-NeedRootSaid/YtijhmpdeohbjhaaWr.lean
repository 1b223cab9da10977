/-
  The law NeedRoot walked: a root alone fits each right geometry.
-/
import Derived.Test.YtijhmpdeohbjhaaQag
set_option linter.unusedVariables false
set_option linter.unusedSimpArgs false
namespace Go.Proofs.Ytijhmpdeohbjhaa
open Go.RowKit
set_option linter.unusedVariables false
set_option linter.unusedSimpArgs false

set_option maxRecDepth 100000 in
set_option maxHeartbeats 4000000 in
theorem root_any (d r s : Int) (w : World) : Calls Try.prog 4 #[gv d r s] w fun e w' => e = .returned (.bool true) ∧ Below w.heap.size w w' := by
  obtain ⟨X, hX⟩ : ∃ X, X = w.alloc (.cells #[.int .i64 d, .int .i64 r, .int .i64 s] 30 (0, 0)) := ⟨_, rfl⟩
  have hb1 : Below w.heap.size w X := by rw [hX]; exact (Below.refl _ _).alloc (Nat.le_refl _) _
  have hz : X.heap.size = w.heap.size + 1 := by rw [hX]; simp
  obtain ⟨g, hg⟩ : ∃ g, g = w.heap.size := ⟨_, rfl⟩
  have g0 : X.cell? ⟨g, 0, none⟩ = some (.int .i64 d) := by rw [hX, hg]; go_simp
  have g1 : X.cell? ⟨g, 1, none⟩ = some (.int .i64 r) := by rw [hX, hg]; go_simp
  have g2 : X.cell? ⟨g, 2, none⟩ = some (.int .i64 s) := by rw [hX, hg]; go_simp
  have HK : Hid (∀ X', Below X.heap.size X X' → (X'.cell? ⟨g, 0, none⟩ = some (.int .i64 d) ∧ X'.cell? ⟨g, 1, none⟩ = some (.int .i64 r) ∧ X'.cell? ⟨g, 2, none⟩ = some (.int .i64 s)) ∧ Below w.heap.size w X') := Lib.hid fun X' hb' =>
    ⟨⟨(hb'.cell (p := ⟨g, 0, none⟩) (by simp; omega)).trans g0, (hb'.cell (p := ⟨g, 1, none⟩) (by simp; omega)).trans g1, (hb'.cell (p := ⟨g, 2, none⟩) (by simp; omega)).trans g2⟩, hb1.trans (hb'.mono hb1.size)⟩
  clear hb1 hz g0 g1 g2
  go_enter Try.func4, Try.ntmps4
  go_wp2_with (fail)
  rw [← hX, ← hg]
  clear hX hg
  refine (alive_any X).mono ?_
  rintro e w2 ⟨rfl, hb2⟩
  have HB2 := Lib.hid hb2
  obtain ⟨hS, _⟩ := HK.out w2 HB2.out
  clear hb2
  have hfr : ∃ x : Bool, (∀ (b : Nat) (w : World), Rot w b → Calls Try.prog 10 #[gv d r s, .agg #[.slice (some ⟨b, 0, none⟩) 1 1]] w fun e w' => e = .returned (.bool x) ∧ Below w.heap.size w w') ∧ ∀ w : World, Calls Try.prog 12 #[gv d r s] w fun e w' => e = .returned (.bool x) ∧ Below w.heap.size w w' := by
    by_cases h : Rt d r s
    · exact ⟨true, fun b w hr => fits_yes d r s b w h hr, fun w => right_yes d r s w h⟩
    · exact ⟨false, fun b w hr => fits_no d r s b w h hr, fun w => right_no d r s w h⟩
  obtain ⟨x, hf, hr⟩ := hfr
  have HF := Lib.hid hf
  have HR := Lib.hid hr
  clear hf hr
  have hxx : (x == x) = true := by simp
  go_wp2_with (fail)
  refine wp_region_held_drew (S := fun w' => w'.cell? ⟨g, 0, none⟩ = some (.int .i64 d) ∧ w'.cell? ⟨g, 1, none⟩ = some (.int .i64 r) ∧ w'.cell? ⟨g, 2, none⟩ = some (.int .i64 s)) (by kernel_rfl) ?_ (fun hHeld => ?_)
  · exact hS
  refine wpAnyH_take (i := 0) (v := ?_) rfl (by kernel_rfl) (by kernel_rfl) (by kernel_rfl) (fun _ _ _ h => h) (Or.inl ⟨by rfl, fun w hSw => ?_⟩) (by assumption) ?_
  rotate_left
  · (try dsimp only at hSw); go_simp; try with_reducible rfl
  simp only [Act.put, List.setIfInBounds_toArray, List.set_cons_zero, List.set_cons_succ, List.getElem_toArray, List.getElem_cons_zero]
  refine wpAnyH_take (i := 3) (v := ?_) rfl (by kernel_rfl) (by kernel_rfl) (by kernel_rfl) (fun _ _ _ h => h) (Or.inl ⟨by rfl, fun w hSw => ?_⟩) (by assumption) ?_
  rotate_left
  · (try dsimp only at hSw); go_simp; try with_reducible rfl
  simp only [Act.put, List.setIfInBounds_toArray, List.set_cons_zero, List.set_cons_succ, List.getElem_toArray, List.getElem_cons_succ, List.getElem_cons_zero]
  refine wpAnyH_ready (rs := [1]) (by kernel_rfl) (by simp) ?_
  refine AllReadyH.cons rfl (fun K hK => ?_) AllReadyH.nil
  simp only [List.getElem_toArray, List.getElem_cons_succ, List.getElem_cons_zero]
  go_simp
  refine (new_root _).mono ?_
  rintro e w3 ⟨b, rfl, hro, _, hb3⟩
  have HB3 := Lib.hid (HB2.out.trans ((undrew hb3).mono HB2.out.size))
  have HRO := Lib.hid hro
  obtain ⟨hS3, _⟩ := HK.out w3 HB3.out
  clear hb3 hro hS hHeld
  go_wp2_with (fail)
  refine hK.out _ _ hS3 (fun hHeld => ?_)
  clear hK K
  refine wpAnyH_ready (rs := [2]) (by kernel_rfl) (by simp) ?_
  refine AllReadyH.cons rfl (fun K hK => ?_) AllReadyH.nil
  simp only [List.getElem_toArray, List.getElem_cons_succ, List.getElem_cons_zero]
  go_simp
  refine (HF.out b _ HRO.out).mono ?_
  rintro e w4 ⟨rfl, hb4⟩
  have HB4 := Lib.hid (HB3.out.trans (hb4.mono HB3.out.size))
  obtain ⟨hS4, _⟩ := HK.out w4 HB4.out
  clear hb4 hS3 hHeld HB3
  go_wp2_with (fail)
  refine hK.out _ _ hS4 (fun hHeld => ?_)
  clear hK K
  refine wpAnyH_ready (rs := [4]) (by kernel_rfl) (by simp) ?_
  refine AllReadyH.cons rfl (fun K hK => ?_) AllReadyH.nil
  simp only [List.getElem_toArray, List.getElem_cons_succ, List.getElem_cons_zero]
  go_simp
  refine (HR.out _).mono ?_
  rintro e w5 ⟨rfl, hb5⟩
  have HB5 := Lib.hid (HB4.out.trans (hb5.mono HB4.out.size))
  obtain ⟨hS5, hend⟩ := HK.out w5 HB5.out
  have HE := Lib.hid hend
  clear hb5 hS4 hHeld HB4 hend
  go_wp2_with (fail)
  refine hK.out _ _ hS5 (fun hHeld => ?_)
  clear hK K
  refine wpAnyH_take (i := 5) (v := ?_) rfl (by kernel_rfl) (by kernel_rfl) (by kernel_rfl) (fun _ _ _ h => h) (Or.inl ⟨by rfl, fun w hSw => ?_⟩) (by assumption) ?_
  rotate_left
  · (try dsimp only at hSw); go_simp; try with_reducible rfl
  simp only [Act.put, List.setIfInBounds_toArray, List.set_cons_zero, List.set_cons_succ, List.getElem_toArray, List.getElem_cons_succ, List.getElem_cons_zero]
  refine wpAnyH_take (i := 6) (v := ?_) rfl (by kernel_rfl) (by kernel_rfl) (by kernel_rfl) (fun _ _ _ h => h) (Or.inl ⟨by rfl, fun w hSw => ?_⟩) (by assumption) ?_
  rotate_left
  · (try dsimp only at hSw); go_simp; try with_reducible rfl
  simp only [Act.put, List.setIfInBounds_toArray, List.set_cons_zero, List.set_cons_succ, List.getElem_toArray, List.getElem_cons_succ, List.getElem_cons_zero]
  refine wpAnyH_done (by kernel_rfl) ?_ _
  clear hHeld
  go_wp2_with (fail)
  go_ret
  exact ⟨rfl, HE.out⟩
end Go.Proofs.Ytijhmpdeohbjhaa
