/-
  The reference's Gets, by contract.
-/
import Derived.Test.YtgdkcdgomopnfaaRefF
namespace Go.Proofs.Ytgdkcdgomopnfaa
open Go.RowKit

theorem M1.set0 {w : World} {b : Nat} {s : Int} (h : M1 w b s) (t : Int) : (w.setCell ⟨b, 0, none⟩ (.int .i64 t)).cell? ⟨b, 0, none⟩ = some (.int .i64 t) := (h.set t).c0
set_option maxHeartbeats 1000000 in
theorem refGetMark_any (a : Option Addr) (n c : Nat) (x : List Int) (w : World) (hx : Pin w a n c x) :
    Calls Try.prog 21 #[.slice a n c] w (MarkPost w x) := by
  have HI := Lib.hid (gmO_iff hx.bys.small)
  have h1 := M1.mk' w 0 27
  have hB1 := bel_a1 w (.cells #[.int .i64 0] 27 (0, 0))
  go_enter Try.func21, Try.ntmps21
  go_wp2_with (fail)
  refine (fields_any 2 a _ n c 1 1 x _ (by omega) ((hx.alloc _).alloc _) (ins_one' 4 (by simp)) wl2).mono ?_
  rintro e w2 ⟨a2, n2, c2, rfl, hi2, hb2⟩
  have h2 := (h1.alloc _).next hb2
  have hB2 : Below w.heap.size w w2 := (hB1.alloc (Nat.le_of_lt h1.lt) _).trans (hb2.mono (by simp; omega))
  rw [show sizW 2 = 4 from rfl, ← HI.out] at hi2 ⊢
  clear h1 hB1 hb2 hx
  have z1 := h2.c0
  have f1 := h2.f0
  cases ho : gmO x
  · have HO := Lib.hid ho
    have HV : Hid (gmV x = 0) := by show _ = _; rw [gmV, ho]; rfl
    clear ho hi2
    go_wp2_with (fail)
    have k0 := h2.set0 0
    exact bodyPost_ret (v := .tuple #[mv 0, .bool false]) (by simp [results, Try.results21, go_sem, k0]) rfl ⟨by rw [HV.out, HO.out], hB2.setCell (Nat.le_refl _) _⟩
  · obtain ⟨hn, hi, _⟩ := hi2 ho
    obtain rfl : n2 = 1 := hn
    have HO := Lib.hid ho
    have HV : Hid (gmV x = gmN x) := by show _ = _; rw [gmV, ho]; rfl
    obtain ⟨ba, oa, rfl, hlt, hca⟩ := hi.at (by omega)
    have y1 : w2.cell? ⟨ba, oa, none⟩ = some (.int .i64 (gmN x)) := hca 0 (by omega)
    obtain ⟨s, hs⟩ : ∃ s, s = gmN x := ⟨_, rfl⟩
    rw [← hs] at y1
    have HS := Lib.hid hs
    clear ho hi hi2 hca hs
    go_wp2_with (fail)
    have k0 := h2.set0 s
    exact bodyPost_ret (v := .tuple #[mv s, .bool true]) (by simp [results, Try.results21, go_sem, k0]) rfl ⟨by rw [HV.out, HO.out, HS.out], hB2.setCell (Nat.le_refl _) _⟩
theorem memR_B {s t : Int} (hs : 0 ≤ s) (ht : 0 ≤ t) : memR s t = memB s t := by
  unfold memR memB
  by_cases h : s < 16 ∧ t ≤ 2 ∧ (t ≠ 0 ∨ s = 0)
  · rw [decide_eq_true h, decide_eq_true (by omega)]
  · rw [decide_eq_false h, decide_eq_false (by omega)]
theorem gb_iff {x : List Int} (hx : AllB x) : gbO x = (fldO 3 6 x && memR (gb2 x) (gb3 x)) := by
  have h2 := (getV_w (p := 8) (m := 1) hx (by omega) (by omega)).1
  have h3 := (getV_w (p := 9) (m := 1) hx (by omega) (by omega)).1
  rw [gbO_iff hx, show memR (gb2 x) (gb3 x) = memB (gb2 x) (gb3 x) from memR_B h2 h3]
theorem mem_any (e s t : Int) (w : World) : Calls Try.prog 36 #[.agg #[.int .i64 e, .int .i64 s, .int .i64 t]] w fun e w' => e = .returned (.bool (memR s t)) ∧ Below w.heap.size w w' := refMember_any e s t w

set_option maxHeartbeats 4000000 in
theorem refGetSuper_any (a : Option Addr) (n c : Nat) (x : List Int) (w : World) (hx : Pin w a n c x) :
    Calls Try.prog 19 #[.slice a n c] w (SuperPost w x) := by
  have HI := Lib.hid (gsO_iff hx.bys.small)
  have h1 := M3.mk' w 0 0 0 25
  have hB1 := bel_a1 w (.cells #[.int .i64 0, .int .i64 0, .int .i64 0] 25 (0, 0))
  go_enter Try.func19, Try.ntmps19
  go_wp2_with (fail)
  refine (fields_any 1 a _ n c 3 3 x _ (by omega) ((hx.alloc _).alloc _) (ins_three' 1 1 1 (by simp)) wl1).mono ?_
  rintro e w2 ⟨a2, n2, c2, rfl, hi2, hb2⟩
  have h2 := (h1.alloc _).next hb2
  have hB2 : Below w.heap.size w w2 := (hB1.alloc (Nat.le_of_lt h1.lt) _).trans (hb2.mono (by simp; omega))
  rw [show sizW 1 = 3 from rfl] at hi2 ⊢
  clear h1 hB1 hb2 hx
  obtain ⟨O, hO⟩ : ∃ O, O = fldO 1 3 x := ⟨_, rfl⟩
  rw [← hO] at HI hi2 ⊢
  clear hO
  have h2d : M3 w2.drew w.heap.size 0 0 0 := h2.drew
  have hBd : Below w.heap.size w w2.drew := below_drewN hB2 1
  have hlo2 := h2.lt
  cases O
  · have HO : Hid (gsO x = false) := by show _ = _; rw [HI.out]; rfl
    have HV : Hid (gsV x = sv 0 0 0) := by show _ = _; rw [gsV, HO.out]; rfl
    clear hi2 HI
    go_wp2_with (fail)
    refine wp_region_held_drew (S := (fun w' => w'.cell? ⟨w.heap.size, 0, none⟩ = some (.int .i64 0))) (by kernel_rfl) ?_ (fun hHeld => ?_)
    · exact h2d.c0
    generalize hw2 : w2.drew = w3 at *
    clear hw2
    refine wpAnyH_take (i := 0) (v := ?_) rfl (by kernel_rfl) (by kernel_rfl) (by kernel_rfl) (fun _ _ _ h => h) (Or.inl ⟨by rfl, fun w hSw => ?_⟩) (by assumption) ?_
    rotate_left
    · (try dsimp only at hSw); go_simp; try with_reducible rfl
    simp only [Act.put, List.setIfInBounds_toArray, List.set_cons_zero, List.set_cons_succ, List.getElem_toArray, List.getElem_cons_zero]
    refine wpAnyH_take (i := 1) (v := ?_) rfl (by kernel_rfl) (by kernel_rfl) (by kernel_rfl) (fun _ _ _ h => h) (Or.inl ⟨by rfl, fun w hSw => ?_⟩) (by assumption) ?_
    rotate_left
    · (try dsimp only at hSw); go_simp; try with_reducible rfl
    simp only [Act.put, List.setIfInBounds_toArray, List.set_cons_zero, List.set_cons_succ, List.getElem_toArray, List.getElem_cons_succ, List.getElem_cons_zero]
    refine wpAnyH_take (i := 2) (v := ?_) rfl (by kernel_rfl) (by kernel_rfl) (by kernel_rfl) (fun _ _ _ h => h) (Or.inl ⟨by rfl, fun w hSw => ?_⟩) (by assumption) ?_
    rotate_left
    · (try dsimp only at hSw); go_simp; try with_reducible rfl
    simp only [Act.put, List.setIfInBounds_toArray, List.set_cons_zero, List.set_cons_succ, List.getElem_toArray, List.getElem_cons_succ, List.getElem_cons_zero]
    refine wpAnyH_take (i := 3) (v := undef) rfl (by kernel_rfl) (by kernel_rfl) (by kernel_rfl) (fun _ _ _ h => h) (Or.inr ⟨by rfl, rfl⟩) (by assumption) ?_
    simp only [Act.put, List.setIfInBounds_toArray, List.set_cons_zero, List.set_cons_succ, List.getElem_toArray, List.getElem_cons_succ, List.getElem_cons_zero]
    refine wpAnyH_take (i := 4) (v := undef) rfl (by kernel_rfl) (by kernel_rfl) (by kernel_rfl) (fun _ _ _ h => h) (Or.inr ⟨by rfl, rfl⟩) (by assumption) ?_
    simp only [Act.put, List.setIfInBounds_toArray, List.set_cons_zero, List.set_cons_succ, List.getElem_toArray, List.getElem_cons_succ, List.getElem_cons_zero]
    refine wpAnyH_take (i := 5) (v := undef) rfl (by kernel_rfl) (by kernel_rfl) (by kernel_rfl) (fun _ _ _ h => h) (Or.inr ⟨by rfl, rfl⟩) (by assumption) ?_
    simp only [Act.put, List.setIfInBounds_toArray, List.set_cons_zero, List.set_cons_succ, List.getElem_toArray, List.getElem_cons_succ, List.getElem_cons_zero]
    refine wpAnyH_take (i := 6) (v := undef) rfl (by kernel_rfl) (by kernel_rfl) (by kernel_rfl) (fun _ _ _ h => h) (Or.inr ⟨by rfl, rfl⟩) (by assumption) ?_
    simp only [Act.put, List.setIfInBounds_toArray, List.set_cons_zero, List.set_cons_succ, List.getElem_toArray, List.getElem_cons_succ, List.getElem_cons_zero]
    refine wpAnyH_take (i := 7) (v := undef) rfl (by kernel_rfl) (by kernel_rfl) (by kernel_rfl) (fun _ _ _ h => h) (Or.inr ⟨by rfl, rfl⟩) (by assumption) ?_
    simp only [Act.put, List.setIfInBounds_toArray, List.set_cons_zero, List.set_cons_succ, List.getElem_toArray, List.getElem_cons_succ, List.getElem_cons_zero]
    refine wpAnyH_take (i := 8) (v := undef) rfl (by kernel_rfl) (by kernel_rfl) (by kernel_rfl) (fun _ _ _ h => h) (Or.inr ⟨by rfl, rfl⟩) (by assumption) ?_
    simp only [Act.put, List.setIfInBounds_toArray, List.set_cons_zero, List.set_cons_succ, List.getElem_toArray, List.getElem_cons_succ, List.getElem_cons_zero]
    refine wpAnyH_take (i := 9) (v := undef) rfl (by kernel_rfl) (by kernel_rfl) (by kernel_rfl) (fun _ _ _ h => h) (Or.inr ⟨by rfl, rfl⟩) (by assumption) ?_
    simp only [Act.put, List.setIfInBounds_toArray, List.set_cons_zero, List.set_cons_succ, List.getElem_toArray, List.getElem_cons_succ, List.getElem_cons_zero]
    refine wpAnyH_take (i := 10) (v := undef) rfl (by kernel_rfl) (by kernel_rfl) (by kernel_rfl) (fun _ _ _ h => h) (Or.inr ⟨by rfl, rfl⟩) (by assumption) ?_
    simp only [Act.put, List.setIfInBounds_toArray, List.set_cons_zero, List.set_cons_succ, List.getElem_toArray, List.getElem_cons_succ, List.getElem_cons_zero]
    refine wpAnyH_take (i := 11) (v := undef) rfl (by kernel_rfl) (by kernel_rfl) (by kernel_rfl) (fun _ _ _ h => h) (Or.inr ⟨by rfl, rfl⟩) (by assumption) ?_
    simp only [Act.put, List.setIfInBounds_toArray, List.set_cons_zero, List.set_cons_succ, List.getElem_toArray, List.getElem_cons_succ, List.getElem_cons_zero]
    refine wpAnyH_take (i := 12) (v := undef) rfl (by kernel_rfl) (by kernel_rfl) (by kernel_rfl) (fun _ _ _ h => h) (Or.inr ⟨by rfl, rfl⟩) (by assumption) ?_
    simp only [Act.put, List.setIfInBounds_toArray, List.set_cons_zero, List.set_cons_succ, List.getElem_toArray, List.getElem_cons_succ, List.getElem_cons_zero]
    refine wpAnyH_take (i := 13) (v := undef) rfl (by kernel_rfl) (by kernel_rfl) (by kernel_rfl) (fun _ _ _ h => h) (Or.inr ⟨by rfl, rfl⟩) (by assumption) ?_
    simp only [Act.put, List.setIfInBounds_toArray, List.set_cons_zero, List.set_cons_succ, List.getElem_toArray, List.getElem_cons_succ, List.getElem_cons_zero]
    refine wpAnyH_take (i := 14) (v := undef) rfl (by kernel_rfl) (by kernel_rfl) (by kernel_rfl) (fun _ _ _ h => h) (Or.inr ⟨by rfl, rfl⟩) (by assumption) ?_
    simp only [Act.put, List.setIfInBounds_toArray, List.set_cons_zero, List.set_cons_succ, List.getElem_toArray, List.getElem_cons_succ, List.getElem_cons_zero]
    refine wpAnyH_take (i := 15) (v := ?_) rfl (by kernel_rfl) (by kernel_rfl) (by kernel_rfl) (fun _ _ _ h => h) (Or.inl ⟨by rfl, fun w hSw => ?_⟩) (by assumption) ?_
    rotate_left
    · (try dsimp only at hSw); go_simp; try with_reducible rfl
    simp only [Act.put, List.setIfInBounds_toArray, List.set_cons_zero, List.set_cons_succ, List.getElem_toArray, List.getElem_cons_succ, List.getElem_cons_zero]
    refine wpAnyH_done (by kernel_rfl) ?_ _
    have z1 := h2d.c0
    have z2 := h2d.c1
    have z3 := h2d.c2
    have f1 := h2d.f0
    have f2 := h2d.f1
    have f3 := h2d.f2
    clear hHeld h2
    go_wp2_with (fail)
    have k := h2d.set 0 0 0
    have k0 := k.c0
    have k1 := k.c1
    have k2 := k.c2
    unfold setH at k0 k1 k2
    exact bodyPost_ret (v := .tuple #[sv 0 0 0, .bool false]) (by simp [results, Try.results19, go_sem, k0, k1, k2]) rfl ⟨by rw [HV.out, HO.out], hBd.setH (Nat.le_refl _)⟩
  · obtain ⟨hn, hi, hnew⟩ := hi2 rfl
    obtain rfl : n2 = 3 := hn
    obtain ⟨ba, oa, rfl, hlt, hca⟩ := hi.drew.at (by omega)
    have hne : w.heap.size ≠ ba := by have := hnew _ rfl; simp at this; omega
    clear hnew
    have y1 : w2.drew.cell? ⟨ba, oa, none⟩ = some (.int .i64 (gs1 x)) := hca 0 (by omega)
    have y2 : w2.drew.cell? ⟨ba, oa + 1, none⟩ = some (.int .i64 (gs2 x)) := hca 1 (by omega)
    have y3 : w2.drew.cell? ⟨ba, oa + 2, none⟩ = some (.int .i64 (gs3 x)) := hca 2 (by omega)
    have HV : Hid (gsV x = if gsO x then sv (gs1 x) (gs2 x) (gs3 x) else sv 0 0 0) := by show _ = _; rw [gsV]
    obtain ⟨d, hd⟩ : ∃ s, s = gs1 x := ⟨_, rfl⟩
    obtain ⟨r, hr⟩ : ∃ s, s = gs2 x := ⟨_, rfl⟩
    obtain ⟨s, hs⟩ : ∃ s, s = gs3 x := ⟨_, rfl⟩
    rw [← hd] at y1 HV HI
    rw [← hr] at y2 HV HI
    rw [← hs] at y3 HV HI
    rw [Bool.true_and] at HI
    clear hi hi2 hca hd hr hs
    go_wp2_with (fail)
    refine wp_region_held_drew (S := (fun w' => w'.cell? ⟨ba, oa, none⟩ = some (.int .i64 d) ∧ w'.cell? ⟨ba, oa + 1, none⟩ = some (.int .i64 r) ∧ w'.cell? ⟨ba, oa + 2, none⟩ = some (.int .i64 s))) (by kernel_rfl) ?_ (fun hHeld => ?_)
    · exact ⟨y1, y2, y3⟩
    generalize hw2 : w2.drew = w3 at *
    clear hw2
    refine wpAnyH_take (i := 0) (v := ?_) rfl (by kernel_rfl) (by kernel_rfl) (by kernel_rfl) (fun _ _ _ h => h) (Or.inl ⟨by rfl, fun w hSw => ?_⟩) (by assumption) ?_
    rotate_left
    · (try dsimp only at hSw); go_simp; try with_reducible rfl
    simp only [Act.put, List.setIfInBounds_toArray, List.set_cons_zero, List.set_cons_succ, List.getElem_toArray, List.getElem_cons_zero]
    refine wpAnyH_take (i := 1) (v := ?_) rfl (by kernel_rfl) (by kernel_rfl) (by kernel_rfl) (fun _ _ _ h => h) (Or.inl ⟨by rfl, fun w hSw => ?_⟩) (by assumption) ?_
    rotate_left
    · (try dsimp only at hSw); go_simp; try with_reducible rfl
    simp only [Act.put, List.setIfInBounds_toArray, List.set_cons_zero, List.set_cons_succ, List.getElem_toArray, List.getElem_cons_succ, List.getElem_cons_zero]
    refine wpAnyH_take (i := 2) (v := ?_) rfl (by kernel_rfl) (by kernel_rfl) (by kernel_rfl) (fun _ _ _ h => h) (Or.inl ⟨by rfl, fun w hSw => ?_⟩) (by assumption) ?_
    rotate_left
    · (try dsimp only at hSw); go_simp; try with_reducible rfl
    simp only [Act.put, List.setIfInBounds_toArray, List.set_cons_zero, List.set_cons_succ, List.getElem_toArray, List.getElem_cons_succ, List.getElem_cons_zero]
    refine wpAnyH_take (i := 3) (v := ?_) rfl (by kernel_rfl) (by kernel_rfl) (by kernel_rfl) (fun _ _ _ h => h) (Or.inl ⟨by rfl, fun w hSw => ?_⟩) (by assumption) ?_
    rotate_left
    · (try dsimp only at hSw); go_simp; try with_reducible rfl
    simp only [Act.put, List.setIfInBounds_toArray, List.set_cons_zero, List.set_cons_succ, List.getElem_toArray, List.getElem_cons_succ, List.getElem_cons_zero]
    refine wpAnyH_take (i := 4) (v := ?_) rfl (by kernel_rfl) (by kernel_rfl) (by kernel_rfl) (fun _ _ _ h => h) (Or.inl ⟨by rfl, fun w hSw => ?_⟩) (by assumption) ?_
    rotate_left
    · (try dsimp only at hSw); go_simp; try with_reducible rfl
    simp only [Act.put, List.setIfInBounds_toArray, List.set_cons_zero, List.set_cons_succ, List.getElem_toArray, List.getElem_cons_succ, List.getElem_cons_zero]
    refine wpAnyH_take (i := 5) (v := ?_) rfl (by kernel_rfl) (by kernel_rfl) (by kernel_rfl) (fun _ _ _ h => h) (Or.inl ⟨by rfl, fun w hSw => ?_⟩) (by assumption) ?_
    rotate_left
    · (try dsimp only at hSw); go_simp; try with_reducible rfl
    simp only [Act.put, List.setIfInBounds_toArray, List.set_cons_zero, List.set_cons_succ, List.getElem_toArray, List.getElem_cons_succ, List.getElem_cons_zero]
    refine wpAnyH_take (i := 6) (v := ?_) rfl (by kernel_rfl) (by kernel_rfl) (by kernel_rfl) (fun _ _ _ h => h) (Or.inl ⟨by rfl, fun w hSw => ?_⟩) (by assumption) ?_
    rotate_left
    · (try dsimp only at hSw); go_simp; try with_reducible rfl
    simp only [Act.put, List.setIfInBounds_toArray, List.set_cons_zero, List.set_cons_succ, List.getElem_toArray, List.getElem_cons_succ, List.getElem_cons_zero]
    refine wpAnyH_take (i := 7) (v := ?_) rfl (by kernel_rfl) (by kernel_rfl) (by kernel_rfl) (fun _ _ _ h => h) (Or.inl ⟨by rfl, fun w hSw => ?_⟩) (by assumption) ?_
    rotate_left
    · (try dsimp only at hSw); go_simp; try with_reducible rfl
    simp only [Act.put, List.setIfInBounds_toArray, List.set_cons_zero, List.set_cons_succ, List.getElem_toArray, List.getElem_cons_succ, List.getElem_cons_zero]
    refine wpAnyH_take (i := 8) (v := ?_) rfl (by kernel_rfl) (by kernel_rfl) (by kernel_rfl) (fun _ _ _ h => h) (Or.inl ⟨by rfl, fun w hSw => ?_⟩) (by assumption) ?_
    rotate_left
    · (try dsimp only at hSw); go_simp; try with_reducible rfl
    simp only [Act.put, List.setIfInBounds_toArray, List.set_cons_zero, List.set_cons_succ, List.getElem_toArray, List.getElem_cons_succ, List.getElem_cons_zero]
    refine wpAnyH_take (i := 9) (v := ?_) rfl (by kernel_rfl) (by kernel_rfl) (by kernel_rfl) (fun _ _ _ h => h) (Or.inl ⟨by rfl, fun w hSw => ?_⟩) (by assumption) ?_
    rotate_left
    · (try dsimp only at hSw); go_simp; try with_reducible rfl
    simp only [Act.put, List.setIfInBounds_toArray, List.set_cons_zero, List.set_cons_succ, List.getElem_toArray, List.getElem_cons_succ, List.getElem_cons_zero]
    refine wpAnyH_take (i := 10) (v := ?_) rfl (by kernel_rfl) (by kernel_rfl) (by kernel_rfl) (fun _ _ _ h => h) (Or.inl ⟨by rfl, fun w hSw => ?_⟩) (by assumption) ?_
    rotate_left
    · (try dsimp only at hSw); go_simp; try with_reducible rfl
    simp only [Act.put, List.setIfInBounds_toArray, List.set_cons_zero, List.set_cons_succ, List.getElem_toArray, List.getElem_cons_succ, List.getElem_cons_zero]
    refine wpAnyH_take (i := 11) (v := ?_) rfl (by kernel_rfl) (by kernel_rfl) (by kernel_rfl) (fun _ _ _ h => h) (Or.inl ⟨by rfl, fun w hSw => ?_⟩) (by assumption) ?_
    rotate_left
    · (try dsimp only at hSw); go_simp; try with_reducible rfl
    simp only [Act.put, List.setIfInBounds_toArray, List.set_cons_zero, List.set_cons_succ, List.getElem_toArray, List.getElem_cons_succ, List.getElem_cons_zero]
    refine wpAnyH_take (i := 12) (v := ?_) rfl (by kernel_rfl) (by kernel_rfl) (by kernel_rfl) (fun _ _ _ h => h) (Or.inl ⟨by rfl, fun w hSw => ?_⟩) (by assumption) ?_
    rotate_left
    · (try dsimp only at hSw); go_simp; try with_reducible rfl
    simp only [Act.put, List.setIfInBounds_toArray, List.set_cons_zero, List.set_cons_succ, List.getElem_toArray, List.getElem_cons_succ, List.getElem_cons_zero]
    refine wpAnyH_ready (rs := [13]) (by kernel_rfl) (by simp) ?_
    refine AllReadyH.cons rfl (fun K hK => ?_) AllReadyH.nil
    simp only [List.getElem_toArray, List.getElem_cons_succ, List.getElem_cons_zero]
    go_simp
    refine (rright_any d r s w3).mono ?_
    rintro e w4 ⟨rfl, hb4⟩
    have h4 := h2d.next hb4
    have hB4 : Below w.heap.size w w4 := hBd.trans (hb4.mono (Nat.le_of_lt h2d.lt))
    have e1 := (hb4.cell (p := ⟨ba, oa, none⟩) hlt).trans y1
    have e2 := (hb4.cell (p := ⟨ba, oa + 1, none⟩) hlt).trans y2
    have e3 := (hb4.cell (p := ⟨ba, oa + 2, none⟩) hlt).trans y3
    have hlt4 := Nat.lt_of_lt_of_le hlt hb4.size
    clear hHeld h2 y1 y2 y3 hBd hb4
    go_wp2_with (fail)
    refine hK.out _ _ ⟨e1, e2, e3⟩ (fun hHeld => ?_)
    clear hK K
    refine wpAnyH_take (i := 14) (v := ?_) rfl (by kernel_rfl) (by kernel_rfl) (by kernel_rfl) (fun _ _ _ h => h) (Or.inl ⟨by rfl, fun w hSw => ?_⟩) (by assumption) ?_
    rotate_left
    · (try dsimp only at hSw); go_simp; try with_reducible rfl
    simp only [Act.put, List.setIfInBounds_toArray, List.set_cons_zero, List.set_cons_succ, List.getElem_toArray, List.getElem_cons_succ, List.getElem_cons_zero]
    refine wpAnyH_take (i := 15) (v := ?_) rfl (by kernel_rfl) (by kernel_rfl) (by kernel_rfl) (fun _ _ _ h => h) (Or.inl ⟨by rfl, fun w hSw => ?_⟩) (by assumption) ?_
    rotate_left
    · (try dsimp only at hSw); go_simp; try with_reducible rfl
    simp only [Act.put, List.setIfInBounds_toArray, List.set_cons_zero, List.set_cons_succ, List.getElem_toArray, List.getElem_cons_succ, List.getElem_cons_zero]
    refine wpAnyH_done (by kernel_rfl) ?_ _
    clear hHeld
    have z1 := h4.c0
    have z2 := h4.c1
    have z3 := h4.c2
    have f1 := h4.f0
    have f2 := h4.f1
    have f3 := h4.f2
    cases hq : rtB d r s
    · have HO : Hid (gsO x = false) := by show _ = _; rw [HI.out]; exact hq
      rw [HO.out] at HV
      clear hq HI
      go_wp2_with (fail)
      have k := h4.set 0 0 0
      have k0 := k.c0
      have k1 := k.c1
      have k2 := k.c2
      unfold setH at k0 k1 k2
      exact bodyPost_ret (v := .tuple #[sv 0 0 0, .bool false]) (by simp [results, Try.results19, go_sem, k0, k1, k2]) rfl ⟨by rw [HV.out, HO.out]; rfl, hB4.setH (Nat.le_refl _)⟩
    · have HO : Hid (gsO x = true) := by show _ = _; rw [HI.out]; exact hq
      rw [HO.out] at HV
      clear hq HI
      go_wp2_with (fail)
      have hz4 : M3 w4.drew w.heap.size 0 0 0 := h4.drew
      have hB5 : Below w.heap.size w w4.drew := below_drewN hB4 1
      have g1 : w4.drew.cell? ⟨ba, oa, none⟩ = some (.int .i64 d) := e1
      have g2 : w4.drew.cell? ⟨ba, oa + 1, none⟩ = some (.int .i64 r) := e2
      have g3 : w4.drew.cell? ⟨ba, oa + 2, none⟩ = some (.int .i64 s) := e3
      clear e1 e2 e3 h4 hB4 z1 z2 z3 f1 f2 f3
      refine wp_region_held_drew (S := (fun w' => w'.cell? ⟨ba, oa, none⟩ = some (.int .i64 d) ∧ w'.cell? ⟨ba, oa + 1, none⟩ = some (.int .i64 r) ∧ w'.cell? ⟨ba, oa + 2, none⟩ = some (.int .i64 s))) (by kernel_rfl) ?_ (fun hHeld => ?_)
      · exact ⟨g1, g2, g3⟩
      generalize hw5 : w4.drew = w5 at *
      clear hw5
      refine wpAnyH_take (i := 0) (v := ?_) rfl (by kernel_rfl) (by kernel_rfl) (by kernel_rfl) (fun _ _ _ h => h) (Or.inl ⟨by rfl, fun w hSw => ?_⟩) (by assumption) ?_
      rotate_left
      · (try dsimp only at hSw); go_simp; try with_reducible rfl
      simp only [Act.put, List.setIfInBounds_toArray, List.set_cons_zero, List.set_cons_succ, List.getElem_toArray, List.getElem_cons_zero]
      refine wpAnyH_take (i := 1) (v := ?_) rfl (by kernel_rfl) (by kernel_rfl) (by kernel_rfl) (fun _ _ _ h => h) (Or.inl ⟨by rfl, fun w hSw => ?_⟩) (by assumption) ?_
      rotate_left
      · (try dsimp only at hSw); go_simp; try with_reducible rfl
      simp only [Act.put, List.setIfInBounds_toArray, List.set_cons_zero, List.set_cons_succ, List.getElem_toArray, List.getElem_cons_succ, List.getElem_cons_zero]
      refine wpAnyH_take (i := 2) (v := ?_) rfl (by kernel_rfl) (by kernel_rfl) (by kernel_rfl) (fun _ _ _ h => h) (Or.inl ⟨by rfl, fun w hSw => ?_⟩) (by assumption) ?_
      rotate_left
      · (try dsimp only at hSw); go_simp; try with_reducible rfl
      simp only [Act.put, List.setIfInBounds_toArray, List.set_cons_zero, List.set_cons_succ, List.getElem_toArray, List.getElem_cons_succ, List.getElem_cons_zero]
      refine wpAnyH_take (i := 3) (v := ?_) rfl (by kernel_rfl) (by kernel_rfl) (by kernel_rfl) (fun _ _ _ h => h) (Or.inl ⟨by rfl, fun w hSw => ?_⟩) (by assumption) ?_
      rotate_left
      · (try dsimp only at hSw); go_simp; try with_reducible rfl
      simp only [Act.put, List.setIfInBounds_toArray, List.set_cons_zero, List.set_cons_succ, List.getElem_toArray, List.getElem_cons_succ, List.getElem_cons_zero]
      refine wpAnyH_take (i := 4) (v := ?_) rfl (by kernel_rfl) (by kernel_rfl) (by kernel_rfl) (fun _ _ _ h => h) (Or.inl ⟨by rfl, fun w hSw => ?_⟩) (by assumption) ?_
      rotate_left
      · (try dsimp only at hSw); go_simp; try with_reducible rfl
      simp only [Act.put, List.setIfInBounds_toArray, List.set_cons_zero, List.set_cons_succ, List.getElem_toArray, List.getElem_cons_succ, List.getElem_cons_zero]
      refine wpAnyH_take (i := 5) (v := ?_) rfl (by kernel_rfl) (by kernel_rfl) (by kernel_rfl) (fun _ _ _ h => h) (Or.inl ⟨by rfl, fun w hSw => ?_⟩) (by assumption) ?_
      rotate_left
      · (try dsimp only at hSw); go_simp; try with_reducible rfl
      simp only [Act.put, List.setIfInBounds_toArray, List.set_cons_zero, List.set_cons_succ, List.getElem_toArray, List.getElem_cons_succ, List.getElem_cons_zero]
      refine wpAnyH_take (i := 6) (v := ?_) rfl (by kernel_rfl) (by kernel_rfl) (by kernel_rfl) (fun _ _ _ h => h) (Or.inl ⟨by rfl, fun w hSw => ?_⟩) (by assumption) ?_
      rotate_left
      · (try dsimp only at hSw); go_simp; try with_reducible rfl
      simp only [Act.put, List.setIfInBounds_toArray, List.set_cons_zero, List.set_cons_succ, List.getElem_toArray, List.getElem_cons_succ, List.getElem_cons_zero]
      refine wpAnyH_take (i := 7) (v := ?_) rfl (by kernel_rfl) (by kernel_rfl) (by kernel_rfl) (fun _ _ _ h => h) (Or.inl ⟨by rfl, fun w hSw => ?_⟩) (by assumption) ?_
      rotate_left
      · (try dsimp only at hSw); go_simp; try with_reducible rfl
      simp only [Act.put, List.setIfInBounds_toArray, List.set_cons_zero, List.set_cons_succ, List.getElem_toArray, List.getElem_cons_succ, List.getElem_cons_zero]
      refine wpAnyH_take (i := 8) (v := ?_) rfl (by kernel_rfl) (by kernel_rfl) (by kernel_rfl) (fun _ _ _ h => h) (Or.inl ⟨by rfl, fun w hSw => ?_⟩) (by assumption) ?_
      rotate_left
      · (try dsimp only at hSw); go_simp; try with_reducible rfl
      simp only [Act.put, List.setIfInBounds_toArray, List.set_cons_zero, List.set_cons_succ, List.getElem_toArray, List.getElem_cons_succ, List.getElem_cons_zero]
      refine wpAnyH_take (i := 9) (v := ?_) rfl (by kernel_rfl) (by kernel_rfl) (by kernel_rfl) (fun _ _ _ h => h) (Or.inl ⟨by rfl, fun w hSw => ?_⟩) (by assumption) ?_
      rotate_left
      · (try dsimp only at hSw); go_simp; try with_reducible rfl
      simp only [Act.put, List.setIfInBounds_toArray, List.set_cons_zero, List.set_cons_succ, List.getElem_toArray, List.getElem_cons_succ, List.getElem_cons_zero]
      refine wpAnyH_take (i := 10) (v := ?_) rfl (by kernel_rfl) (by kernel_rfl) (by kernel_rfl) (fun _ _ _ h => h) (Or.inl ⟨by rfl, fun w hSw => ?_⟩) (by assumption) ?_
      rotate_left
      · (try dsimp only at hSw); go_simp; try with_reducible rfl
      simp only [Act.put, List.setIfInBounds_toArray, List.set_cons_zero, List.set_cons_succ, List.getElem_toArray, List.getElem_cons_succ, List.getElem_cons_zero]
      have z1 := hz4.c0
      have z2 := hz4.c1
      have z3 := hz4.c2
      have f1 := hz4.f0
      have f2 := hz4.f1
      have f3 := hz4.f2
      refine wpAnyH_ready (rs := [11]) (by kernel_rfl) (by simp) ?_
      refine AllReadyH.cons rfl (fun K hK => ?_) AllReadyH.nil
      simp only [List.getElem_toArray, List.getElem_cons_succ, List.getElem_cons_zero]
      go_simp
      have hr4 := hz4.set d r s
      have hne' : ∀ k, w.heap.size ≠ (⟨ba, k, none⟩ : Addr).block := fun k e => hne e
      refine hK.out _ (setH w5 w.heap.size d r s) ⟨(setH_other d r s (hne' _)).trans g1, (setH_other d r s (hne' _)).trans g2, (setH_other d r s (hne' _)).trans g3⟩ (fun hHeld => ?_)
      clear hK K
      have hB6 : Below w.heap.size w (setH w5 w.heap.size d r s) := hB5.setH (Nat.le_refl _)
      obtain ⟨w6, hw6⟩ : ∃ w6, w6 = setH w5 w.heap.size d r s := ⟨_, rfl⟩
      rw [← hw6] at hr4 hB6 hHeld ⊢
      clear hw6
      refine wpAnyH_take (i := 12) (v := ?_) rfl (by kernel_rfl) (by kernel_rfl) (by kernel_rfl) (fun _ _ _ h => h) (Or.inl ⟨by rfl, fun w hSw => ?_⟩) (by assumption) ?_
      rotate_left
      · (try dsimp only at hSw); go_simp; try with_reducible rfl
      simp only [Act.put, List.setIfInBounds_toArray, List.set_cons_zero, List.set_cons_succ, List.getElem_toArray, List.getElem_cons_succ, List.getElem_cons_zero]
      refine wpAnyH_done (by kernel_rfl) ?_ _
      go_wp2_with (fail)
      have k0 := hr4.c0
      have k1 := hr4.c1
      have k2 := hr4.c2
      exact bodyPost_ret (v := .tuple #[sv d r s, .bool true]) (by simp [results, Try.results19, go_sem, k0, k1, k2]) rfl ⟨by rw [HV.out, HO.out]; rfl, hB6⟩

set_option maxHeartbeats 4000000 in
theorem refGetMember_any (a : Option Addr) (n c : Nat) (x : List Int) (w : World) (hx : Pin w a n c x) :
    Calls Try.prog 23 #[.slice a n c] w (MemberPost w x) := by
  have HI := Lib.hid (gb_iff hx.bys.small)
  have h1 := M3.mk' w 0 0 0 29
  have hB1 := bel_a1 w (.cells #[.int .i64 0, .int .i64 0, .int .i64 0] 29 (0, 0))
  go_enter Try.func23, Try.ntmps23
  go_wp2_with (fail)
  refine (fields_any 3 a _ n c 3 3 x _ (by omega) ((hx.alloc _).alloc _) (ins_three' 4 1 1 (by simp)) wl3).mono ?_
  rintro e w2 ⟨a2, n2, c2, rfl, hi2, hb2⟩
  have h2 := (h1.alloc _).next hb2
  have hB2 : Below w.heap.size w w2 := (hB1.alloc (Nat.le_of_lt h1.lt) _).trans (hb2.mono (by simp; omega))
  rw [show sizW 3 = 6 from rfl] at hi2 ⊢
  clear h1 hB1 hb2 hx
  obtain ⟨O, hO⟩ : ∃ O, O = fldO 3 6 x := ⟨_, rfl⟩
  rw [← hO] at HI hi2 ⊢
  clear hO
  have h2d : M3 w2.drew w.heap.size 0 0 0 := h2.drew
  have hBd : Below w.heap.size w w2.drew := below_drewN hB2 1
  have hlo2 := h2.lt
  cases O
  · have HO : Hid (gbO x = false) := by show _ = _; rw [HI.out]; rfl
    have HV : Hid (gbV x = bv 0 0 0) := by show _ = _; rw [gbV, HO.out]; rfl
    clear hi2 HI
    go_wp2_with (fail)
    refine wp_region_held_drew (S := (fun w' => w'.cell? ⟨w.heap.size, 0, none⟩ = some (.int .i64 0))) (by kernel_rfl) ?_ (fun hHeld => ?_)
    · exact h2d.c0
    generalize hw2 : w2.drew = w3 at *
    clear hw2
    refine wpAnyH_take (i := 0) (v := ?_) rfl (by kernel_rfl) (by kernel_rfl) (by kernel_rfl) (fun _ _ _ h => h) (Or.inl ⟨by rfl, fun w hSw => ?_⟩) (by assumption) ?_
    rotate_left
    · (try dsimp only at hSw); go_simp; try with_reducible rfl
    simp only [Act.put, List.setIfInBounds_toArray, List.set_cons_zero, List.set_cons_succ, List.getElem_toArray, List.getElem_cons_zero]
    refine wpAnyH_take (i := 1) (v := ?_) rfl (by kernel_rfl) (by kernel_rfl) (by kernel_rfl) (fun _ _ _ h => h) (Or.inl ⟨by rfl, fun w hSw => ?_⟩) (by assumption) ?_
    rotate_left
    · (try dsimp only at hSw); go_simp; try with_reducible rfl
    simp only [Act.put, List.setIfInBounds_toArray, List.set_cons_zero, List.set_cons_succ, List.getElem_toArray, List.getElem_cons_succ, List.getElem_cons_zero]
    refine wpAnyH_take (i := 2) (v := ?_) rfl (by kernel_rfl) (by kernel_rfl) (by kernel_rfl) (fun _ _ _ h => h) (Or.inl ⟨by rfl, fun w hSw => ?_⟩) (by assumption) ?_
    rotate_left
    · (try dsimp only at hSw); go_simp; try with_reducible rfl
    simp only [Act.put, List.setIfInBounds_toArray, List.set_cons_zero, List.set_cons_succ, List.getElem_toArray, List.getElem_cons_succ, List.getElem_cons_zero]
    refine wpAnyH_take (i := 3) (v := undef) rfl (by kernel_rfl) (by kernel_rfl) (by kernel_rfl) (fun _ _ _ h => h) (Or.inr ⟨by rfl, rfl⟩) (by assumption) ?_
    simp only [Act.put, List.setIfInBounds_toArray, List.set_cons_zero, List.set_cons_succ, List.getElem_toArray, List.getElem_cons_succ, List.getElem_cons_zero]
    refine wpAnyH_take (i := 4) (v := undef) rfl (by kernel_rfl) (by kernel_rfl) (by kernel_rfl) (fun _ _ _ h => h) (Or.inr ⟨by rfl, rfl⟩) (by assumption) ?_
    simp only [Act.put, List.setIfInBounds_toArray, List.set_cons_zero, List.set_cons_succ, List.getElem_toArray, List.getElem_cons_succ, List.getElem_cons_zero]
    refine wpAnyH_take (i := 5) (v := undef) rfl (by kernel_rfl) (by kernel_rfl) (by kernel_rfl) (fun _ _ _ h => h) (Or.inr ⟨by rfl, rfl⟩) (by assumption) ?_
    simp only [Act.put, List.setIfInBounds_toArray, List.set_cons_zero, List.set_cons_succ, List.getElem_toArray, List.getElem_cons_succ, List.getElem_cons_zero]
    refine wpAnyH_take (i := 6) (v := undef) rfl (by kernel_rfl) (by kernel_rfl) (by kernel_rfl) (fun _ _ _ h => h) (Or.inr ⟨by rfl, rfl⟩) (by assumption) ?_
    simp only [Act.put, List.setIfInBounds_toArray, List.set_cons_zero, List.set_cons_succ, List.getElem_toArray, List.getElem_cons_succ, List.getElem_cons_zero]
    refine wpAnyH_take (i := 7) (v := undef) rfl (by kernel_rfl) (by kernel_rfl) (by kernel_rfl) (fun _ _ _ h => h) (Or.inr ⟨by rfl, rfl⟩) (by assumption) ?_
    simp only [Act.put, List.setIfInBounds_toArray, List.set_cons_zero, List.set_cons_succ, List.getElem_toArray, List.getElem_cons_succ, List.getElem_cons_zero]
    refine wpAnyH_take (i := 8) (v := undef) rfl (by kernel_rfl) (by kernel_rfl) (by kernel_rfl) (fun _ _ _ h => h) (Or.inr ⟨by rfl, rfl⟩) (by assumption) ?_
    simp only [Act.put, List.setIfInBounds_toArray, List.set_cons_zero, List.set_cons_succ, List.getElem_toArray, List.getElem_cons_succ, List.getElem_cons_zero]
    refine wpAnyH_take (i := 9) (v := undef) rfl (by kernel_rfl) (by kernel_rfl) (by kernel_rfl) (fun _ _ _ h => h) (Or.inr ⟨by rfl, rfl⟩) (by assumption) ?_
    simp only [Act.put, List.setIfInBounds_toArray, List.set_cons_zero, List.set_cons_succ, List.getElem_toArray, List.getElem_cons_succ, List.getElem_cons_zero]
    refine wpAnyH_take (i := 10) (v := undef) rfl (by kernel_rfl) (by kernel_rfl) (by kernel_rfl) (fun _ _ _ h => h) (Or.inr ⟨by rfl, rfl⟩) (by assumption) ?_
    simp only [Act.put, List.setIfInBounds_toArray, List.set_cons_zero, List.set_cons_succ, List.getElem_toArray, List.getElem_cons_succ, List.getElem_cons_zero]
    refine wpAnyH_take (i := 11) (v := undef) rfl (by kernel_rfl) (by kernel_rfl) (by kernel_rfl) (fun _ _ _ h => h) (Or.inr ⟨by rfl, rfl⟩) (by assumption) ?_
    simp only [Act.put, List.setIfInBounds_toArray, List.set_cons_zero, List.set_cons_succ, List.getElem_toArray, List.getElem_cons_succ, List.getElem_cons_zero]
    refine wpAnyH_take (i := 12) (v := undef) rfl (by kernel_rfl) (by kernel_rfl) (by kernel_rfl) (fun _ _ _ h => h) (Or.inr ⟨by rfl, rfl⟩) (by assumption) ?_
    simp only [Act.put, List.setIfInBounds_toArray, List.set_cons_zero, List.set_cons_succ, List.getElem_toArray, List.getElem_cons_succ, List.getElem_cons_zero]
    refine wpAnyH_take (i := 13) (v := undef) rfl (by kernel_rfl) (by kernel_rfl) (by kernel_rfl) (fun _ _ _ h => h) (Or.inr ⟨by rfl, rfl⟩) (by assumption) ?_
    simp only [Act.put, List.setIfInBounds_toArray, List.set_cons_zero, List.set_cons_succ, List.getElem_toArray, List.getElem_cons_succ, List.getElem_cons_zero]
    refine wpAnyH_take (i := 14) (v := undef) rfl (by kernel_rfl) (by kernel_rfl) (by kernel_rfl) (fun _ _ _ h => h) (Or.inr ⟨by rfl, rfl⟩) (by assumption) ?_
    simp only [Act.put, List.setIfInBounds_toArray, List.set_cons_zero, List.set_cons_succ, List.getElem_toArray, List.getElem_cons_succ, List.getElem_cons_zero]
    refine wpAnyH_take (i := 15) (v := ?_) rfl (by kernel_rfl) (by kernel_rfl) (by kernel_rfl) (fun _ _ _ h => h) (Or.inl ⟨by rfl, fun w hSw => ?_⟩) (by assumption) ?_
    rotate_left
    · (try dsimp only at hSw); go_simp; try with_reducible rfl
    simp only [Act.put, List.setIfInBounds_toArray, List.set_cons_zero, List.set_cons_succ, List.getElem_toArray, List.getElem_cons_succ, List.getElem_cons_zero]
    refine wpAnyH_done (by kernel_rfl) ?_ _
    have z1 := h2d.c0
    have z2 := h2d.c1
    have z3 := h2d.c2
    have f1 := h2d.f0
    have f2 := h2d.f1
    have f3 := h2d.f2
    clear hHeld h2
    go_wp2_with (fail)
    have k := h2d.set 0 0 0
    have k0 := k.c0
    have k1 := k.c1
    have k2 := k.c2
    unfold setH at k0 k1 k2
    exact bodyPost_ret (v := .tuple #[bv 0 0 0, .bool false]) (by simp [results, Try.results23, go_sem, k0, k1, k2]) rfl ⟨by rw [HV.out, HO.out], hBd.setH (Nat.le_refl _)⟩
  · obtain ⟨hn, hi, hnew⟩ := hi2 rfl
    obtain rfl : n2 = 3 := hn
    obtain ⟨ba, oa, rfl, hlt, hca⟩ := hi.drew.at (by omega)
    have hne : w.heap.size ≠ ba := by have := hnew _ rfl; simp at this; omega
    clear hnew
    have y1 : w2.drew.cell? ⟨ba, oa, none⟩ = some (.int .i64 (gb1 x)) := hca 0 (by omega)
    have y2 : w2.drew.cell? ⟨ba, oa + 1, none⟩ = some (.int .i64 (gb2 x)) := hca 1 (by omega)
    have y3 : w2.drew.cell? ⟨ba, oa + 2, none⟩ = some (.int .i64 (gb3 x)) := hca 2 (by omega)
    have HV : Hid (gbV x = if gbO x then bv (gb1 x) (gb2 x) (gb3 x) else bv 0 0 0) := by show _ = _; rw [gbV]
    obtain ⟨d, hd⟩ : ∃ s, s = gb1 x := ⟨_, rfl⟩
    obtain ⟨r, hr⟩ : ∃ s, s = gb2 x := ⟨_, rfl⟩
    obtain ⟨s, hs⟩ : ∃ s, s = gb3 x := ⟨_, rfl⟩
    rw [← hd] at y1 HV
    rw [← hr] at y2 HV HI
    rw [← hs] at y3 HV HI
    rw [Bool.true_and] at HI
    clear hi hi2 hca hd hr hs
    go_wp2_with (fail)
    refine wp_region_held_drew (S := (fun w' => w'.cell? ⟨ba, oa, none⟩ = some (.int .i64 d) ∧ w'.cell? ⟨ba, oa + 1, none⟩ = some (.int .i64 r) ∧ w'.cell? ⟨ba, oa + 2, none⟩ = some (.int .i64 s))) (by kernel_rfl) ?_ (fun hHeld => ?_)
    · exact ⟨y1, y2, y3⟩
    generalize hw2 : w2.drew = w3 at *
    clear hw2
    refine wpAnyH_take (i := 0) (v := ?_) rfl (by kernel_rfl) (by kernel_rfl) (by kernel_rfl) (fun _ _ _ h => h) (Or.inl ⟨by rfl, fun w hSw => ?_⟩) (by assumption) ?_
    rotate_left
    · (try dsimp only at hSw); go_simp; try with_reducible rfl
    simp only [Act.put, List.setIfInBounds_toArray, List.set_cons_zero, List.set_cons_succ, List.getElem_toArray, List.getElem_cons_zero]
    refine wpAnyH_take (i := 1) (v := ?_) rfl (by kernel_rfl) (by kernel_rfl) (by kernel_rfl) (fun _ _ _ h => h) (Or.inl ⟨by rfl, fun w hSw => ?_⟩) (by assumption) ?_
    rotate_left
    · (try dsimp only at hSw); go_simp; try with_reducible rfl
    simp only [Act.put, List.setIfInBounds_toArray, List.set_cons_zero, List.set_cons_succ, List.getElem_toArray, List.getElem_cons_succ, List.getElem_cons_zero]
    refine wpAnyH_take (i := 2) (v := ?_) rfl (by kernel_rfl) (by kernel_rfl) (by kernel_rfl) (fun _ _ _ h => h) (Or.inl ⟨by rfl, fun w hSw => ?_⟩) (by assumption) ?_
    rotate_left
    · (try dsimp only at hSw); go_simp; try with_reducible rfl
    simp only [Act.put, List.setIfInBounds_toArray, List.set_cons_zero, List.set_cons_succ, List.getElem_toArray, List.getElem_cons_succ, List.getElem_cons_zero]
    refine wpAnyH_take (i := 3) (v := ?_) rfl (by kernel_rfl) (by kernel_rfl) (by kernel_rfl) (fun _ _ _ h => h) (Or.inl ⟨by rfl, fun w hSw => ?_⟩) (by assumption) ?_
    rotate_left
    · (try dsimp only at hSw); go_simp; try with_reducible rfl
    simp only [Act.put, List.setIfInBounds_toArray, List.set_cons_zero, List.set_cons_succ, List.getElem_toArray, List.getElem_cons_succ, List.getElem_cons_zero]
    refine wpAnyH_take (i := 4) (v := ?_) rfl (by kernel_rfl) (by kernel_rfl) (by kernel_rfl) (fun _ _ _ h => h) (Or.inl ⟨by rfl, fun w hSw => ?_⟩) (by assumption) ?_
    rotate_left
    · (try dsimp only at hSw); go_simp; try with_reducible rfl
    simp only [Act.put, List.setIfInBounds_toArray, List.set_cons_zero, List.set_cons_succ, List.getElem_toArray, List.getElem_cons_succ, List.getElem_cons_zero]
    refine wpAnyH_take (i := 5) (v := ?_) rfl (by kernel_rfl) (by kernel_rfl) (by kernel_rfl) (fun _ _ _ h => h) (Or.inl ⟨by rfl, fun w hSw => ?_⟩) (by assumption) ?_
    rotate_left
    · (try dsimp only at hSw); go_simp; try with_reducible rfl
    simp only [Act.put, List.setIfInBounds_toArray, List.set_cons_zero, List.set_cons_succ, List.getElem_toArray, List.getElem_cons_succ, List.getElem_cons_zero]
    refine wpAnyH_take (i := 6) (v := ?_) rfl (by kernel_rfl) (by kernel_rfl) (by kernel_rfl) (fun _ _ _ h => h) (Or.inl ⟨by rfl, fun w hSw => ?_⟩) (by assumption) ?_
    rotate_left
    · (try dsimp only at hSw); go_simp; try with_reducible rfl
    simp only [Act.put, List.setIfInBounds_toArray, List.set_cons_zero, List.set_cons_succ, List.getElem_toArray, List.getElem_cons_succ, List.getElem_cons_zero]
    refine wpAnyH_take (i := 7) (v := ?_) rfl (by kernel_rfl) (by kernel_rfl) (by kernel_rfl) (fun _ _ _ h => h) (Or.inl ⟨by rfl, fun w hSw => ?_⟩) (by assumption) ?_
    rotate_left
    · (try dsimp only at hSw); go_simp; try with_reducible rfl
    simp only [Act.put, List.setIfInBounds_toArray, List.set_cons_zero, List.set_cons_succ, List.getElem_toArray, List.getElem_cons_succ, List.getElem_cons_zero]
    refine wpAnyH_take (i := 8) (v := ?_) rfl (by kernel_rfl) (by kernel_rfl) (by kernel_rfl) (fun _ _ _ h => h) (Or.inl ⟨by rfl, fun w hSw => ?_⟩) (by assumption) ?_
    rotate_left
    · (try dsimp only at hSw); go_simp; try with_reducible rfl
    simp only [Act.put, List.setIfInBounds_toArray, List.set_cons_zero, List.set_cons_succ, List.getElem_toArray, List.getElem_cons_succ, List.getElem_cons_zero]
    refine wpAnyH_take (i := 9) (v := ?_) rfl (by kernel_rfl) (by kernel_rfl) (by kernel_rfl) (fun _ _ _ h => h) (Or.inl ⟨by rfl, fun w hSw => ?_⟩) (by assumption) ?_
    rotate_left
    · (try dsimp only at hSw); go_simp; try with_reducible rfl
    simp only [Act.put, List.setIfInBounds_toArray, List.set_cons_zero, List.set_cons_succ, List.getElem_toArray, List.getElem_cons_succ, List.getElem_cons_zero]
    refine wpAnyH_take (i := 10) (v := ?_) rfl (by kernel_rfl) (by kernel_rfl) (by kernel_rfl) (fun _ _ _ h => h) (Or.inl ⟨by rfl, fun w hSw => ?_⟩) (by assumption) ?_
    rotate_left
    · (try dsimp only at hSw); go_simp; try with_reducible rfl
    simp only [Act.put, List.setIfInBounds_toArray, List.set_cons_zero, List.set_cons_succ, List.getElem_toArray, List.getElem_cons_succ, List.getElem_cons_zero]
    refine wpAnyH_take (i := 11) (v := ?_) rfl (by kernel_rfl) (by kernel_rfl) (by kernel_rfl) (fun _ _ _ h => h) (Or.inl ⟨by rfl, fun w hSw => ?_⟩) (by assumption) ?_
    rotate_left
    · (try dsimp only at hSw); go_simp; try with_reducible rfl
    simp only [Act.put, List.setIfInBounds_toArray, List.set_cons_zero, List.set_cons_succ, List.getElem_toArray, List.getElem_cons_succ, List.getElem_cons_zero]
    refine wpAnyH_take (i := 12) (v := ?_) rfl (by kernel_rfl) (by kernel_rfl) (by kernel_rfl) (fun _ _ _ h => h) (Or.inl ⟨by rfl, fun w hSw => ?_⟩) (by assumption) ?_
    rotate_left
    · (try dsimp only at hSw); go_simp; try with_reducible rfl
    simp only [Act.put, List.setIfInBounds_toArray, List.set_cons_zero, List.set_cons_succ, List.getElem_toArray, List.getElem_cons_succ, List.getElem_cons_zero]
    refine wpAnyH_ready (rs := [13]) (by kernel_rfl) (by simp) ?_
    refine AllReadyH.cons rfl (fun K hK => ?_) AllReadyH.nil
    simp only [List.getElem_toArray, List.getElem_cons_succ, List.getElem_cons_zero]
    go_simp
    refine (mem_any d r s w3).mono ?_
    rintro e w4 ⟨rfl, hb4⟩
    have h4 := h2d.next hb4
    have hB4 : Below w.heap.size w w4 := hBd.trans (hb4.mono (Nat.le_of_lt h2d.lt))
    have e1 := (hb4.cell (p := ⟨ba, oa, none⟩) hlt).trans y1
    have e2 := (hb4.cell (p := ⟨ba, oa + 1, none⟩) hlt).trans y2
    have e3 := (hb4.cell (p := ⟨ba, oa + 2, none⟩) hlt).trans y3
    have hlt4 := Nat.lt_of_lt_of_le hlt hb4.size
    clear hHeld h2 y1 y2 y3 hBd hb4
    go_wp2_with (fail)
    refine hK.out _ _ ⟨e1, e2, e3⟩ (fun hHeld => ?_)
    clear hK K
    refine wpAnyH_take (i := 14) (v := ?_) rfl (by kernel_rfl) (by kernel_rfl) (by kernel_rfl) (fun _ _ _ h => h) (Or.inl ⟨by rfl, fun w hSw => ?_⟩) (by assumption) ?_
    rotate_left
    · (try dsimp only at hSw); go_simp; try with_reducible rfl
    simp only [Act.put, List.setIfInBounds_toArray, List.set_cons_zero, List.set_cons_succ, List.getElem_toArray, List.getElem_cons_succ, List.getElem_cons_zero]
    refine wpAnyH_take (i := 15) (v := ?_) rfl (by kernel_rfl) (by kernel_rfl) (by kernel_rfl) (fun _ _ _ h => h) (Or.inl ⟨by rfl, fun w hSw => ?_⟩) (by assumption) ?_
    rotate_left
    · (try dsimp only at hSw); go_simp; try with_reducible rfl
    simp only [Act.put, List.setIfInBounds_toArray, List.set_cons_zero, List.set_cons_succ, List.getElem_toArray, List.getElem_cons_succ, List.getElem_cons_zero]
    refine wpAnyH_done (by kernel_rfl) ?_ _
    clear hHeld
    have z1 := h4.c0
    have z2 := h4.c1
    have z3 := h4.c2
    have f1 := h4.f0
    have f2 := h4.f1
    have f3 := h4.f2
    cases hq : memR r s
    · have HO : Hid (gbO x = false) := by show _ = _; rw [HI.out]; exact hq
      rw [HO.out] at HV
      clear hq HI
      go_wp2_with (fail)
      have k := h4.set 0 0 0
      have k0 := k.c0
      have k1 := k.c1
      have k2 := k.c2
      unfold setH at k0 k1 k2
      exact bodyPost_ret (v := .tuple #[bv 0 0 0, .bool false]) (by simp [results, Try.results23, go_sem, k0, k1, k2]) rfl ⟨by rw [HV.out, HO.out]; rfl, hB4.setH (Nat.le_refl _)⟩
    · have HO : Hid (gbO x = true) := by show _ = _; rw [HI.out]; exact hq
      rw [HO.out] at HV
      clear hq HI
      go_wp2_with (fail)
      have hz4 : M3 w4.drew w.heap.size 0 0 0 := h4.drew
      have hB5 : Below w.heap.size w w4.drew := below_drewN hB4 1
      have g1 : w4.drew.cell? ⟨ba, oa, none⟩ = some (.int .i64 d) := e1
      have g2 : w4.drew.cell? ⟨ba, oa + 1, none⟩ = some (.int .i64 r) := e2
      have g3 : w4.drew.cell? ⟨ba, oa + 2, none⟩ = some (.int .i64 s) := e3
      clear e1 e2 e3 h4 hB4 z1 z2 z3 f1 f2 f3
      refine wp_region_held_drew (S := (fun w' => w'.cell? ⟨ba, oa, none⟩ = some (.int .i64 d) ∧ w'.cell? ⟨ba, oa + 1, none⟩ = some (.int .i64 r) ∧ w'.cell? ⟨ba, oa + 2, none⟩ = some (.int .i64 s))) (by kernel_rfl) ?_ (fun hHeld => ?_)
      · exact ⟨g1, g2, g3⟩
      generalize hw5 : w4.drew = w5 at *
      clear hw5
      refine wpAnyH_take (i := 0) (v := ?_) rfl (by kernel_rfl) (by kernel_rfl) (by kernel_rfl) (fun _ _ _ h => h) (Or.inl ⟨by rfl, fun w hSw => ?_⟩) (by assumption) ?_
      rotate_left
      · (try dsimp only at hSw); go_simp; try with_reducible rfl
      simp only [Act.put, List.setIfInBounds_toArray, List.set_cons_zero, List.set_cons_succ, List.getElem_toArray, List.getElem_cons_zero]
      refine wpAnyH_take (i := 1) (v := ?_) rfl (by kernel_rfl) (by kernel_rfl) (by kernel_rfl) (fun _ _ _ h => h) (Or.inl ⟨by rfl, fun w hSw => ?_⟩) (by assumption) ?_
      rotate_left
      · (try dsimp only at hSw); go_simp; try with_reducible rfl
      simp only [Act.put, List.setIfInBounds_toArray, List.set_cons_zero, List.set_cons_succ, List.getElem_toArray, List.getElem_cons_succ, List.getElem_cons_zero]
      refine wpAnyH_take (i := 2) (v := ?_) rfl (by kernel_rfl) (by kernel_rfl) (by kernel_rfl) (fun _ _ _ h => h) (Or.inl ⟨by rfl, fun w hSw => ?_⟩) (by assumption) ?_
      rotate_left
      · (try dsimp only at hSw); go_simp; try with_reducible rfl
      simp only [Act.put, List.setIfInBounds_toArray, List.set_cons_zero, List.set_cons_succ, List.getElem_toArray, List.getElem_cons_succ, List.getElem_cons_zero]
      refine wpAnyH_take (i := 3) (v := ?_) rfl (by kernel_rfl) (by kernel_rfl) (by kernel_rfl) (fun _ _ _ h => h) (Or.inl ⟨by rfl, fun w hSw => ?_⟩) (by assumption) ?_
      rotate_left
      · (try dsimp only at hSw); go_simp; try with_reducible rfl
      simp only [Act.put, List.setIfInBounds_toArray, List.set_cons_zero, List.set_cons_succ, List.getElem_toArray, List.getElem_cons_succ, List.getElem_cons_zero]
      refine wpAnyH_take (i := 4) (v := ?_) rfl (by kernel_rfl) (by kernel_rfl) (by kernel_rfl) (fun _ _ _ h => h) (Or.inl ⟨by rfl, fun w hSw => ?_⟩) (by assumption) ?_
      rotate_left
      · (try dsimp only at hSw); go_simp; try with_reducible rfl
      simp only [Act.put, List.setIfInBounds_toArray, List.set_cons_zero, List.set_cons_succ, List.getElem_toArray, List.getElem_cons_succ, List.getElem_cons_zero]
      refine wpAnyH_take (i := 5) (v := ?_) rfl (by kernel_rfl) (by kernel_rfl) (by kernel_rfl) (fun _ _ _ h => h) (Or.inl ⟨by rfl, fun w hSw => ?_⟩) (by assumption) ?_
      rotate_left
      · (try dsimp only at hSw); go_simp; try with_reducible rfl
      simp only [Act.put, List.setIfInBounds_toArray, List.set_cons_zero, List.set_cons_succ, List.getElem_toArray, List.getElem_cons_succ, List.getElem_cons_zero]
      refine wpAnyH_take (i := 6) (v := ?_) rfl (by kernel_rfl) (by kernel_rfl) (by kernel_rfl) (fun _ _ _ h => h) (Or.inl ⟨by rfl, fun w hSw => ?_⟩) (by assumption) ?_
      rotate_left
      · (try dsimp only at hSw); go_simp; try with_reducible rfl
      simp only [Act.put, List.setIfInBounds_toArray, List.set_cons_zero, List.set_cons_succ, List.getElem_toArray, List.getElem_cons_succ, List.getElem_cons_zero]
      refine wpAnyH_take (i := 7) (v := ?_) rfl (by kernel_rfl) (by kernel_rfl) (by kernel_rfl) (fun _ _ _ h => h) (Or.inl ⟨by rfl, fun w hSw => ?_⟩) (by assumption) ?_
      rotate_left
      · (try dsimp only at hSw); go_simp; try with_reducible rfl
      simp only [Act.put, List.setIfInBounds_toArray, List.set_cons_zero, List.set_cons_succ, List.getElem_toArray, List.getElem_cons_succ, List.getElem_cons_zero]
      refine wpAnyH_take (i := 8) (v := ?_) rfl (by kernel_rfl) (by kernel_rfl) (by kernel_rfl) (fun _ _ _ h => h) (Or.inl ⟨by rfl, fun w hSw => ?_⟩) (by assumption) ?_
      rotate_left
      · (try dsimp only at hSw); go_simp; try with_reducible rfl
      simp only [Act.put, List.setIfInBounds_toArray, List.set_cons_zero, List.set_cons_succ, List.getElem_toArray, List.getElem_cons_succ, List.getElem_cons_zero]
      refine wpAnyH_take (i := 9) (v := ?_) rfl (by kernel_rfl) (by kernel_rfl) (by kernel_rfl) (fun _ _ _ h => h) (Or.inl ⟨by rfl, fun w hSw => ?_⟩) (by assumption) ?_
      rotate_left
      · (try dsimp only at hSw); go_simp; try with_reducible rfl
      simp only [Act.put, List.setIfInBounds_toArray, List.set_cons_zero, List.set_cons_succ, List.getElem_toArray, List.getElem_cons_succ, List.getElem_cons_zero]
      have z1 := hz4.c0
      have z2 := hz4.c1
      have z3 := hz4.c2
      have f1 := hz4.f0
      have f2 := hz4.f1
      have f3 := hz4.f2
      refine wpAnyH_ready (rs := [10]) (by kernel_rfl) (by simp) ?_
      refine AllReadyH.cons rfl (fun K hK => ?_) AllReadyH.nil
      simp only [List.getElem_toArray, List.getElem_cons_succ, List.getElem_cons_zero]
      go_simp
      have hr4 := hz4.set d r s
      have hne' : ∀ k, w.heap.size ≠ (⟨ba, k, none⟩ : Addr).block := fun k e => hne e
      refine hK.out _ (setH w5 w.heap.size d r s) ⟨(setH_other d r s (hne' _)).trans g1, (setH_other d r s (hne' _)).trans g2, (setH_other d r s (hne' _)).trans g3⟩ (fun hHeld => ?_)
      clear hK K
      have hB6 : Below w.heap.size w (setH w5 w.heap.size d r s) := hB5.setH (Nat.le_refl _)
      obtain ⟨w6, hw6⟩ : ∃ w6, w6 = setH w5 w.heap.size d r s := ⟨_, rfl⟩
      rw [← hw6] at hr4 hB6 hHeld ⊢
      clear hw6
      refine wpAnyH_take (i := 11) (v := ?_) rfl (by kernel_rfl) (by kernel_rfl) (by kernel_rfl) (fun _ _ _ h => h) (Or.inl ⟨by rfl, fun w hSw => ?_⟩) (by assumption) ?_
      rotate_left
      · (try dsimp only at hSw); go_simp; try with_reducible rfl
      simp only [Act.put, List.setIfInBounds_toArray, List.set_cons_zero, List.set_cons_succ, List.getElem_toArray, List.getElem_cons_succ, List.getElem_cons_zero]
      refine wpAnyH_done (by kernel_rfl) ?_ _
      go_wp2_with (fail)
      have k0 := hr4.c0
      have k1 := hr4.c1
      have k2 := hr4.c2
      exact bodyPost_ret (v := .tuple #[bv d r s, .bool true]) (by simp [results, Try.results23, go_sem, k0, k1, k2]) rfl ⟨by rw [HV.out, HO.out]; rfl, hB6⟩

end Go.Proofs.Ytgdkcdgomopnfaa
