/-
  The reference's Fits and Open, by contract.
-/
import Derived.Test.YtacnhlmhibhlhaaGreatBkb
import Derived.Test.YtacnhlmhibhlhaaGreatGe
import Derived.Deep.RegionHeld3
set_option linter.unusedSimpArgs false
set_option linter.unusedVariables false
namespace Go.Proofs.YtacnhlmhibhlhaaGreat
open Go.RowKit Go.Maps
set_option linter.unusedVariables false

/-- The reference's bank B, of the rack in block p, lies in block b. -/
structure RbAt (w : World) (b p : Nat) (B : Bn) : Prop where
  row : w.heap[b]? = some (.cells #[.pointer (some ⟨p, 0, none⟩), .int .i64 B.d, .int .i64 B.r, .int .i64 B.s, .int .i64 B.e, .int .i64 B.sl, .int .i64 B.st] 92 (0, 0))
theorem rfits_any (d r s e sl st : Int) (w : World) : Calls Tryz.prog 35 #[gv d r s, mb e sl st] w fun e w' => e = .returned (.bool (memOk d sl st)) ∧ Below w.heap.size w w' := by
  have hb : ∀ x y : Obj, Below w.heap.size w ((w.alloc x).alloc y) := fun x y => ((Below.refl _ _).alloc (Nat.le_refl _) _).alloc (by simp) _
  by_cases h0 : st < 0
  · rw [show memOk d sl st = false from decide_eq_false (by omega)]
    go_enter Tryz.func35, Tryz.ntmps35
    go_wp2_with (fail)
    go_ret
    exact ⟨rfl, hb _ _⟩
  · have g0 : decide (0 ≤ st) = true := decide_eq_true (by omega)
    by_cases h1 : 2 < st
    · rw [show memOk d sl st = false from decide_eq_false (by omega)]
      have g1 : decide (st ≤ 2) = false := decide_eq_false (by omega)
      clear h0 h1
      go_enter Tryz.func35, Tryz.ntmps35
      go_wp2_with (fail)
      go_ret
      exact ⟨rfl, hb _ _⟩
    · have g1 : decide (st ≤ 2) = true := decide_eq_true (by omega)
      by_cases h2 : st = 0
      · subst h2
        rw [show memOk d sl 0 = true from decide_eq_true (.inl rfl)]
        clear h0 h1 g0 g1
        go_enter Tryz.func35, Tryz.ntmps35
        go_wp2_with (fail)
        go_ret
        exact ⟨rfl, hb _ _⟩
      · have g2 : (st == 0) = false := by simpa using h2
        rw [show memOk d sl st = hasSl d sl by unfold memOk hasSl; rw [decide_eq_decide]; omega]
        by_cases h3 : 0 ≤ sl
        · by_cases h4 : sl < d
          · rw [show hasSl d sl = true from decide_eq_true ⟨h3, h4⟩]
            clear h0 h1 h2
            go_enter Tryz.func35, Tryz.ntmps35
            go_wp2_with (fail)
            go_ret
            exact ⟨rfl, hb _ _⟩
          · rw [show hasSl d sl = false from decide_eq_false (fun x => h4 x.2)]
            clear h0 h1 h2
            go_enter Tryz.func35, Tryz.ntmps35
            go_wp2_with (fail)
            go_ret
            exact ⟨rfl, hb _ _⟩
        · rw [show hasSl d sl = false from decide_eq_false (fun x => h3 x.1)]
          clear h0 h1 h2
          go_enter Tryz.func35, Tryz.ntmps35
          go_wp2_with (fail)
          go_ret
          exact ⟨rfl, hb _ _⟩

theorem q_next {w w' : World} {q : Nat} {x y : Value} (h : w.cell? ⟨q, 0, none⟩ = some x ∧ w.cell? ⟨q, 1, none⟩ = some y) (hl : q < w.heap.size) (hb : Below w.heap.size w w') : w'.cell? ⟨q, 0, none⟩ = some x ∧ w'.cell? ⟨q, 1, none⟩ = some y :=
  ⟨(hb.cell (p := ⟨q, 0, none⟩) hl).trans h.1, (hb.cell (p := ⟨q, 1, none⟩) hl).trans h.2⟩
/-- What the reference's Open answers. -/
noncomputable def ROpenPost (p : Nat) (R : Rk) (d r s e sl st : Int) (w : World) (en : Ending) (w' : World) : Prop :=
  Below w.heap.size w w' ∧ if openOk R d r s sl st then ∃ b, en = .returned (.tuple #[.pointer (some ⟨b, 0, none⟩), .int .i64 0]) ∧ w.heap.size ≤ b ∧ RbAt w' b p ⟨d, r, s, e, sl, st⟩
    else en = .returned (.tuple #[.pointer none, .int .i64 10])
theorem ROpenPost.no {R : Rk} {p : Nat} {d r s e sl st : Int} {w w' : World} (hb : Below w.heap.size w w') (h : openOk R d r s sl st = false) : ROpenPost p R d r s e sl st w (.returned (.tuple #[.pointer none, .int .i64 10])) w' :=
  ⟨hb, by rw [h]; rfl⟩
theorem ROpenPost.yes {R : Rk} {p b : Nat} {d r s e sl st : Int} {w w' : World} (hb : Below w.heap.size w w') (h : openOk R d r s sl st = true) (hlt : w.heap.size ≤ b) (hB : RbAt w' b p ⟨d, r, s, e, sl, st⟩) : ROpenPost p R d r s e sl st w (.returned (.tuple #[.pointer (some ⟨b, 0, none⟩), .int .i64 0])) w' :=
  ⟨hb, by rw [h]; exact ⟨b, rfl, hlt, hB⟩⟩

set_option maxRecDepth 100000 in
set_option maxHeartbeats 4000000 in
theorem ropen_any (R : Rk) (q n m : Nat) (d r s e sl st : Int) (w : World) (hn : R.n = n) (hm : R.S = m) (hq : w.cell? ⟨q, 0, none⟩ = some (.int .i64 n) ∧ w.cell? ⟨q, 1, none⟩ = some (.int .i64 m)) :
    Calls Tryz.prog 16 #[.pointer (some ⟨q, 0, none⟩), gv d r s, mb e sl st] w (ROpenPost q R d r s e sl st w) := by
  have hql : q < w.heap.size := World.block_lt_of_cell? w _ hq.1
  have hbb : Below w.heap.size w ((w.alloc (.cells #[.int .i64 d, .int .i64 r, .int .i64 s] 33)).alloc (.cells #[.int .i64 e, .int .i64 sl, .int .i64 st] 23)) := ((Below.refl _ _).alloc (Nat.le_refl _) _).alloc (by simp) _
  have hxx := Bx6.new w d r s e sl st 33 23
  have HBB := Lib.hid hbb
  have HXX := Lib.hid hxx
  have HQQ := Lib.hid (q_next hq hql hbb)
  have HQL := Lib.hid (Nat.lt_of_lt_of_le hql hbb.size)
  clear hbb hxx hq hql
  by_cases hR : Rt d r s
  · cases hnb : ((n : Int) == d + 1) with
    | false =>
      have hnf : (((n : Nat) : Int) == d + 1) = false := hnb
      have HOK : Hid (openOk R d r s sl st = false) := by unfold Hid openOk rackOk; rw [hn, hnf, Bool.false_and, Bool.false_and, Bool.and_false]
      have hne : (((n : Nat) : Int) != d + 1) = true := by rw [bne, hnf]; rfl
      clear hnf
      clear hnb
      go_enter Tryz.func16, Tryz.ntmps16
      go_wp2_with (fail)
      generalize hW0 : (w.alloc (.cells #[.int .i64 d, .int .i64 r, .int .i64 s] 33)).alloc (.cells #[.int .i64 e, .int .i64 sl, .int .i64 st] 23) = W0 at *
      have hx0 := HXX.out.next (below_drewN (Below.refl _ W0) 1)
      have hq0 := q_next HQQ.out HQL.out (below_drewN (Below.refl _ W0) 1)
      have hql0 : q < W0.drew.heap.size := HQL.out
      have hB0 : Below w.heap.size w W0.drew := below_drewN HBB.out 1
      change Bx6 W0.drew _ _ _ _ _ _ _ at hx0
      change W0.drew.cell? _ = _ ∧ W0.drew.cell? _ = _ at hq0
      generalize hp : w.heap.size = p at hx0 ⊢
      clear hW0 HXX HQQ HBB HQL
      have hg := rright_yes d r s W0.drew hR
      have ed : IntKind.i64.wrap (d + 1) = d + 1 := IntWalk.i64_in _ (by have := hR.d1; have := hR.d2; omega)
      clear hR
      refine wp_region_held_drew (S := fun w' => w'.cell? ⟨p, 0, none⟩ = some (.int .i64 d) ∧ w'.cell? ⟨p, 1, none⟩ = some (.int .i64 r) ∧ w'.cell? ⟨p, 2, none⟩ = some (.int .i64 s) ∧ w'.cell? ⟨p + 1, 0, none⟩ = some (.int .i64 e) ∧ w'.cell? ⟨p + 1, 1, none⟩ = some (.int .i64 sl) ∧ w'.cell? ⟨p + 1, 2, none⟩ = some (.int .i64 st) ∧ w'.cell? ⟨q, 0, none⟩ = some (.int .i64 n) ∧ w'.cell? ⟨q, 1, none⟩ = some (.int .i64 m)) (by kernel_rfl) ?_ (fun hHeld => ?_)
      · exact ⟨hx0.g0, hx0.g1, hx0.g2, hx0.m0, hx0.m1, hx0.m2, hq0.1, hq0.2⟩
      refine rgY 0 ?_ rfl (by kernel_rfl) (fun _ _ _ h => h) (.inl ⟨by rfl, fun w hSw => ?_⟩) (by assumption) ?_
      rotate_left
      · (try dsimp only at hSw); go_simp; try with_reducible rfl
      simp only [Act.put, rg1, rg2, rg3, rg4, rg6]
      refine wpAnyH_ready (rs := [1]) (by kernel_rfl) (by simp) ?_
      refine AllReadyH.cons rfl (fun K hK => ?_) AllReadyH.nil
      simp only [List.getElem_toArray, List.getElem_cons_succ, List.getElem_cons_zero]
      go_simp
      refine (hg).mono ?_
      rintro e1 w1 ⟨rfl, hb1⟩
      have hx1 := hx0.next hb1
      have hq1 := q_next hq0 hql0 hb1
      have hql1 := Nat.lt_of_lt_of_le hql0 hb1.size
      have hB1 := hB0.trans (hb1.mono hB0.size)
      go_wp2_with (fail)
      refine hK.out _ _ ⟨hx1.g0, hx1.g1, hx1.g2, hx1.m0, hx1.m1, hx1.m2, hq1.1, hq1.2⟩ (fun hHeld => ?_)
      clear hK K
      refine rgY 2 ?_ rfl (by kernel_rfl) (fun _ _ _ h => h) (.inl ⟨by rfl, fun w hSw => ?_⟩) (by assumption) ?_
      rotate_left
      · (try dsimp only at hSw); go_simp; try with_reducible rfl
      simp only [Act.put, rg1, rg2, rg3, rg4, rg5, rg6]
      refine rgY 3 ?_ rfl (by kernel_rfl) (fun _ _ _ h => h) (.inl ⟨by rfl, fun w hSw => ?_⟩) (by assumption) ?_
      rotate_left
      · (try dsimp only at hSw); go_simp; try with_reducible rfl
      simp only [Act.put, rg1, rg2, rg3, rg4, rg5, rg6]
      refine rgY 4 ?_ rfl (by kernel_rfl) (fun _ _ _ h => h) (.inl ⟨by rfl, fun w hSw => ?_⟩) (by assumption) ?_
      rotate_left
      · (try dsimp only at hSw); go_simp; try with_reducible rfl
      simp only [Act.put, rg1, rg2, rg3, rg4, rg5, rg6]
      refine rgY 5 ?_ rfl (by kernel_rfl) (fun _ _ _ h => h) (.inl ⟨by rfl, fun w hSw => ?_⟩) (by assumption) ?_
      rotate_left
      · (try dsimp only at hSw); go_simp; try with_reducible rfl
      simp only [Act.put, rg1, rg2, rg3, rg4, rg5, rg6]
      refine rgY 6 ?_ rfl (by kernel_rfl) (fun _ _ _ h => h) (.inl ⟨by rfl, fun w hSw => ?_⟩) (by assumption) ?_
      rotate_left
      · (try dsimp only at hSw); go_simp; try with_reducible rfl
      simp only [Act.put, rg1, rg2, rg3, rg4, rg5, rg6]
      refine rgY 7 ?_ rfl (by kernel_rfl) (fun _ _ _ h => h) (.inl ⟨by rfl, fun w hSw => ?_⟩) (by assumption) ?_
      rotate_left
      · (try dsimp only at hSw); go_simp; try with_reducible rfl
      simp only [Act.put, rg1, rg2, rg3, rg4, rg5, rg6]
      refine rgY 8 ?_ rfl (by kernel_rfl) (fun _ _ _ h => h) (.inl ⟨by rfl, fun w hSw => ?_⟩) (by assumption) ?_
      rotate_left
      · (try dsimp only at hSw); go_simp; try with_reducible rfl
      simp only [Act.put, rg1, rg2, rg3, rg4, rg5, rg6]
      refine rgY 9 ?_ rfl (by kernel_rfl) (fun _ _ _ h => h) (.inl ⟨by rfl, fun w hSw => ?_⟩) (by assumption) ?_
      rotate_left
      · (try dsimp only at hSw); go_simp; try with_reducible rfl
      simp only [Act.put, rg1, rg2, rg3, rg4, rg5, rg6]
      refine rgY 10 ?_ rfl (by kernel_rfl) (fun _ _ _ h => h) (.inl ⟨by rfl, fun w hSw => ?_⟩) (by assumption) ?_
      rotate_left
      · (try dsimp only at hSw); go_simp; try with_reducible rfl
      simp only [Act.put, rg1, rg2, rg3, rg4, rg5, rg6]
      refine rgY 11 ?_ rfl (by kernel_rfl) (fun _ _ _ h => h) (.inl ⟨by rfl, fun w hSw => ?_⟩) (by assumption) ?_
      rotate_left
      · (try dsimp only at hSw); go_simp; try with_reducible rfl
      simp only [Act.put, rg1, rg2, rg3, rg4, rg5, rg6]
      refine rgY 12 ?_ rfl (by kernel_rfl) (fun _ _ _ h => h) (.inl ⟨by rfl, fun w hSw => ?_⟩) (by assumption) ?_
      rotate_left
      · (try dsimp only at hSw); go_simp; try with_reducible rfl
      simp only [Act.put, rg1, rg2, rg3, rg4, rg5, rg6]
      refine rgY 13 ?_ rfl (by kernel_rfl) (fun _ _ _ h => h) (.inl ⟨by rfl, fun w hSw => ?_⟩) (by assumption) ?_
      rotate_left
      · (try dsimp only at hSw); go_simp; try with_reducible rfl
      simp only [Act.put, rg1, rg2, rg3, rg4, rg5, rg6]
      refine rgY 14 undef rfl (by kernel_rfl) (fun _ _ _ h => h) (.inr ⟨by rfl, rfl⟩) (by assumption) ?_
      simp only [Act.put, rg1, rg2, rg3, rg4, rg5, rg6]
      refine rgY 15 undef rfl (by kernel_rfl) (fun _ _ _ h => h) (.inr ⟨by rfl, rfl⟩) (by assumption) ?_
      simp only [Act.put, rg1, rg2, rg3, rg4, rg5, rg6]
      refine rgY 16 undef rfl (by kernel_rfl) (fun _ _ _ h => h) (.inr ⟨by rfl, rfl⟩) (by assumption) ?_
      simp only [Act.put, rg1, rg2, rg3, rg4, rg5, rg6]
      refine rgY 17 undef rfl (by kernel_rfl) (fun _ _ _ h => h) (.inr ⟨by rfl, rfl⟩) (by assumption) ?_
      simp only [Act.put, rg1, rg2, rg3, rg4, rg5, rg6]
      refine rgY 18 undef rfl (by kernel_rfl) (fun _ _ _ h => h) (.inr ⟨by rfl, rfl⟩) (by assumption) ?_
      simp only [Act.put, rg1, rg2, rg3, rg4, rg5, rg6]
      refine rgY 19 undef rfl (by kernel_rfl) (fun _ _ _ h => h) (.inr ⟨by rfl, rfl⟩) (by assumption) ?_
      simp only [Act.put, rg1, rg2, rg3, rg4, rg5, rg6]
      refine rgY 20 undef rfl (by kernel_rfl) (fun _ _ _ h => h) (.inr ⟨by rfl, rfl⟩) (by assumption) ?_
      simp only [Act.put, rg1, rg2, rg3, rg4, rg5, rg6]
      refine rgY 21 ?_ rfl (by kernel_rfl) (fun _ _ _ h => h) (.inl ⟨by rfl, fun w hSw => ?_⟩) (by assumption) ?_
      rotate_left
      · (try dsimp only at hSw); go_simp; try with_reducible rfl
      simp only [Act.put, rg1, rg2, rg3, rg4, rg5, rg6]
      refine rgY 22 ?_ rfl (by kernel_rfl) (fun _ _ _ h => h) (.inl ⟨by rfl, fun w hSw => ?_⟩) (by assumption) ?_
      rotate_left
      · (try dsimp only at hSw); go_simp; try with_reducible rfl
      simp only [Act.put, rg1, rg2, rg3, rg4, rg5, rg6]
      refine rgY 23 undef rfl (by kernel_rfl) (fun _ _ _ h => h) (.inr ⟨by rfl, rfl⟩) (by assumption) ?_
      simp only [Act.put, rg1, rg2, rg3, rg4, rg5, rg6]
      refine rgY 24 undef rfl (by kernel_rfl) (fun _ _ _ h => h) (.inr ⟨by rfl, rfl⟩) (by assumption) ?_
      simp only [Act.put, rg1, rg2, rg3, rg4, rg5, rg6]
      refine rgY 25 undef rfl (by kernel_rfl) (fun _ _ _ h => h) (.inr ⟨by rfl, rfl⟩) (by assumption) ?_
      simp only [Act.put, rg1, rg2, rg3, rg4, rg5, rg6]
      refine rgY 26 undef rfl (by kernel_rfl) (fun _ _ _ h => h) (.inr ⟨by rfl, rfl⟩) (by assumption) ?_
      simp only [Act.put, rg1, rg2, rg3, rg4, rg5, rg6]
      refine rgY 27 ?_ rfl (by kernel_rfl) (fun _ _ _ h => h) (.inl ⟨by rfl, fun w hSw => ?_⟩) (by assumption) ?_
      rotate_left
      · (try dsimp only at hSw); go_simp; try with_reducible rfl
      simp only [Act.put, rg1, rg2, rg3, rg4, rg5, rg6]
      refine wpAnyH_done (by kernel_rfl) ?_ _
      go_wp2_with (fail)
      go_ret2
      exact ROpenPost.no hB1 HOK.out
    | true =>
      have hnt : (((n : Nat) : Int) == d + 1) = true := hnb
      have hne : (((n : Nat) : Int) != d + 1) = false := by rw [bne, hnt]; rfl
      clear hnb
      cases hmb : ((m : Int) == sect d r s) with
      | false =>
        have hmf : (((m : Nat) : Int) == sect d r s) = false := hmb
        have HOK : Hid (openOk R d r s sl st = false) := by unfold Hid openOk rackOk; rw [hn, hm, hnt, hmf, Bool.and_false, Bool.false_and, Bool.and_false]
        have hme : (((m : Nat) : Int) != sect d r s) = true := by rw [bne, hmf]; rfl
        clear hmb hnt hmf
        go_enter Tryz.func16, Tryz.ntmps16
        go_wp2_with (fail)
        generalize hW0 : (w.alloc (.cells #[.int .i64 d, .int .i64 r, .int .i64 s] 33)).alloc (.cells #[.int .i64 e, .int .i64 sl, .int .i64 st] 23) = W0 at *
        have hx0 := HXX.out.next (below_drewN (Below.refl _ W0) 1)
        have hq0 := q_next HQQ.out HQL.out (below_drewN (Below.refl _ W0) 1)
        have hql0 : q < W0.drew.heap.size := HQL.out
        have hB0 : Below w.heap.size w W0.drew := below_drewN HBB.out 1
        change Bx6 W0.drew _ _ _ _ _ _ _ at hx0
        change W0.drew.cell? _ = _ ∧ W0.drew.cell? _ = _ at hq0
        generalize hp : w.heap.size = p at hx0 ⊢
        clear hW0 HXX HQQ HBB HQL
        have hg := rright_yes d r s W0.drew hR
        have ed : IntKind.i64.wrap (d + 1) = d + 1 := IntWalk.i64_in _ (by have := hR.d1; have := hR.d2; omega)
        have HS : Hid (∀ w, Calls Tryz.prog 34 #[gv d r s] w fun e w' => e = .returned (.int .i64 (sect d r s)) ∧ Below w.heap.size w w') := fun w => by rw [show sect d r s = 5 + s * r by unfold sect; rw [if_pos hR]]; exact rsectors_yes d r s w hR
        clear hR
        refine wp_region_held_drew (S := fun w' => w'.cell? ⟨p, 0, none⟩ = some (.int .i64 d) ∧ w'.cell? ⟨p, 1, none⟩ = some (.int .i64 r) ∧ w'.cell? ⟨p, 2, none⟩ = some (.int .i64 s) ∧ w'.cell? ⟨p + 1, 0, none⟩ = some (.int .i64 e) ∧ w'.cell? ⟨p + 1, 1, none⟩ = some (.int .i64 sl) ∧ w'.cell? ⟨p + 1, 2, none⟩ = some (.int .i64 st) ∧ w'.cell? ⟨q, 0, none⟩ = some (.int .i64 n) ∧ w'.cell? ⟨q, 1, none⟩ = some (.int .i64 m)) (by kernel_rfl) ?_ (fun hHeld => ?_)
        · exact ⟨hx0.g0, hx0.g1, hx0.g2, hx0.m0, hx0.m1, hx0.m2, hq0.1, hq0.2⟩
        refine rgY 0 ?_ rfl (by kernel_rfl) (fun _ _ _ h => h) (.inl ⟨by rfl, fun w hSw => ?_⟩) (by assumption) ?_
        rotate_left
        · (try dsimp only at hSw); go_simp; try with_reducible rfl
        simp only [Act.put, rg1, rg2, rg3, rg4, rg6]
        refine wpAnyH_ready (rs := [1]) (by kernel_rfl) (by simp) ?_
        refine AllReadyH.cons rfl (fun K hK => ?_) AllReadyH.nil
        simp only [List.getElem_toArray, List.getElem_cons_succ, List.getElem_cons_zero]
        go_simp
        refine (hg).mono ?_
        rintro e1 w1 ⟨rfl, hb1⟩
        have hx1 := hx0.next hb1
        have hq1 := q_next hq0 hql0 hb1
        have hql1 := Nat.lt_of_lt_of_le hql0 hb1.size
        have hB1 := hB0.trans (hb1.mono hB0.size)
        go_wp2_with (fail)
        refine hK.out _ _ ⟨hx1.g0, hx1.g1, hx1.g2, hx1.m0, hx1.m1, hx1.m2, hq1.1, hq1.2⟩ (fun hHeld => ?_)
        clear hK K
        refine rgY 2 ?_ rfl (by kernel_rfl) (fun _ _ _ h => h) (.inl ⟨by rfl, fun w hSw => ?_⟩) (by assumption) ?_
        rotate_left
        · (try dsimp only at hSw); go_simp; try with_reducible rfl
        simp only [Act.put, rg1, rg2, rg3, rg4, rg5, rg6]
        refine rgY 3 ?_ rfl (by kernel_rfl) (fun _ _ _ h => h) (.inl ⟨by rfl, fun w hSw => ?_⟩) (by assumption) ?_
        rotate_left
        · (try dsimp only at hSw); go_simp; try with_reducible rfl
        simp only [Act.put, rg1, rg2, rg3, rg4, rg5, rg6]
        refine rgY 4 ?_ rfl (by kernel_rfl) (fun _ _ _ h => h) (.inl ⟨by rfl, fun w hSw => ?_⟩) (by assumption) ?_
        rotate_left
        · (try dsimp only at hSw); go_simp; try with_reducible rfl
        simp only [Act.put, rg1, rg2, rg3, rg4, rg5, rg6]
        refine rgY 5 ?_ rfl (by kernel_rfl) (fun _ _ _ h => h) (.inl ⟨by rfl, fun w hSw => ?_⟩) (by assumption) ?_
        rotate_left
        · (try dsimp only at hSw); go_simp; try with_reducible rfl
        simp only [Act.put, rg1, rg2, rg3, rg4, rg5, rg6]
        refine rgY 6 ?_ rfl (by kernel_rfl) (fun _ _ _ h => h) (.inl ⟨by rfl, fun w hSw => ?_⟩) (by assumption) ?_
        rotate_left
        · (try dsimp only at hSw); go_simp; try with_reducible rfl
        simp only [Act.put, rg1, rg2, rg3, rg4, rg5, rg6]
        refine rgY 7 ?_ rfl (by kernel_rfl) (fun _ _ _ h => h) (.inl ⟨by rfl, fun w hSw => ?_⟩) (by assumption) ?_
        rotate_left
        · (try dsimp only at hSw); go_simp; try with_reducible rfl
        simp only [Act.put, rg1, rg2, rg3, rg4, rg5, rg6]
        refine rgY 8 ?_ rfl (by kernel_rfl) (fun _ _ _ h => h) (.inl ⟨by rfl, fun w hSw => ?_⟩) (by assumption) ?_
        rotate_left
        · (try dsimp only at hSw); go_simp; try with_reducible rfl
        simp only [Act.put, rg1, rg2, rg3, rg4, rg5, rg6]
        refine rgY 9 ?_ rfl (by kernel_rfl) (fun _ _ _ h => h) (.inl ⟨by rfl, fun w hSw => ?_⟩) (by assumption) ?_
        rotate_left
        · (try dsimp only at hSw); go_simp; try with_reducible rfl
        simp only [Act.put, rg1, rg2, rg3, rg4, rg5, rg6]
        refine rgY 10 ?_ rfl (by kernel_rfl) (fun _ _ _ h => h) (.inl ⟨by rfl, fun w hSw => ?_⟩) (by assumption) ?_
        rotate_left
        · (try dsimp only at hSw); go_simp; try with_reducible rfl
        simp only [Act.put, rg1, rg2, rg3, rg4, rg5, rg6]
        refine rgY 11 ?_ rfl (by kernel_rfl) (fun _ _ _ h => h) (.inl ⟨by rfl, fun w hSw => ?_⟩) (by assumption) ?_
        rotate_left
        · (try dsimp only at hSw); go_simp; try with_reducible rfl
        simp only [Act.put, rg1, rg2, rg3, rg4, rg5, rg6]
        refine rgY 12 ?_ rfl (by kernel_rfl) (fun _ _ _ h => h) (.inl ⟨by rfl, fun w hSw => ?_⟩) (by assumption) ?_
        rotate_left
        · (try dsimp only at hSw); go_simp; try with_reducible rfl
        simp only [Act.put, rg1, rg2, rg3, rg4, rg5, rg6]
        refine rgY 13 ?_ rfl (by kernel_rfl) (fun _ _ _ h => h) (.inl ⟨by rfl, fun w hSw => ?_⟩) (by assumption) ?_
        rotate_left
        · (try dsimp only at hSw); go_simp; try with_reducible rfl
        simp only [Act.put, rg1, rg2, rg3, rg4, rg5, rg6]
        refine rgY 14 ?_ rfl (by kernel_rfl) (fun _ _ _ h => h) (.inl ⟨by rfl, fun w hSw => ?_⟩) (by assumption) ?_
        rotate_left
        · (try dsimp only at hSw); go_simp; try with_reducible rfl
        simp only [Act.put, rg1, rg2, rg3, rg4, rg5, rg6]
        refine rgY 15 ?_ rfl (by kernel_rfl) (fun _ _ _ h => h) (.inl ⟨by rfl, fun w hSw => ?_⟩) (by assumption) ?_
        rotate_left
        · (try dsimp only at hSw); go_simp; try with_reducible rfl
        simp only [Act.put, rg1, rg2, rg3, rg4, rg5, rg6]
        refine rgY 16 ?_ rfl (by kernel_rfl) (fun _ _ _ h => h) (.inl ⟨by rfl, fun w hSw => ?_⟩) (by assumption) ?_
        rotate_left
        · (try dsimp only at hSw); go_simp; try with_reducible rfl
        simp only [Act.put, rg1, rg2, rg3, rg4, rg5, rg6]
        refine rgY 17 ?_ rfl (by kernel_rfl) (fun _ _ _ h => h) (.inl ⟨by rfl, fun w hSw => ?_⟩) (by assumption) ?_
        rotate_left
        · (try dsimp only at hSw); go_simp; try with_reducible rfl
        simp only [Act.put, rg1, rg2, rg3, rg4, rg5, rg6]
        refine rgY 18 ?_ rfl (by kernel_rfl) (fun _ _ _ h => h) (.inl ⟨by rfl, fun w hSw => ?_⟩) (by assumption) ?_
        rotate_left
        · (try dsimp only at hSw); go_simp; try with_reducible rfl
        simp only [Act.put, rg1, rg2, rg3, rg4, rg5, rg6]
        refine wpAnyH_ready (rs := [19]) (by kernel_rfl) (by simp) ?_
        refine AllReadyH.cons rfl (fun K hK => ?_) AllReadyH.nil
        simp only [List.getElem_toArray, List.getElem_cons_succ, List.getElem_cons_zero]
        go_simp
        refine (HS.out _).mono ?_
        rintro e2 w2 ⟨rfl, hb2⟩
        have hx2 := hx1.next hb2
        have hq2 := q_next hq1 hql1 hb2
        have hql2 := Nat.lt_of_lt_of_le hql1 hb2.size
        have hB2 := hB1.trans (hb2.mono hB1.size)
        go_wp2_with (fail)
        refine hK.out _ _ ⟨hx2.g0, hx2.g1, hx2.g2, hx2.m0, hx2.m1, hx2.m2, hq2.1, hq2.2⟩ (fun hHeld => ?_)
        clear hK K
        refine rgY 20 ?_ rfl (by kernel_rfl) (fun _ _ _ h => h) (.inl ⟨by rfl, fun w hSw => ?_⟩) (by assumption) ?_
        rotate_left
        · (try dsimp only at hSw); go_simp; try with_reducible rfl
        simp only [Act.put, rg1, rg2, rg3, rg4, rg5, rg6]
        refine rgY 21 ?_ rfl (by kernel_rfl) (fun _ _ _ h => h) (.inl ⟨by rfl, fun w hSw => ?_⟩) (by assumption) ?_
        rotate_left
        · (try dsimp only at hSw); go_simp; try with_reducible rfl
        simp only [Act.put, rg1, rg2, rg3, rg4, rg5, rg6]
        refine rgY 22 ?_ rfl (by kernel_rfl) (fun _ _ _ h => h) (.inl ⟨by rfl, fun w hSw => ?_⟩) (by assumption) ?_
        rotate_left
        · (try dsimp only at hSw); go_simp; try with_reducible rfl
        simp only [Act.put, rg1, rg2, rg3, rg4, rg5, rg6]
        refine rgY 23 undef rfl (by kernel_rfl) (fun _ _ _ h => h) (.inr ⟨by rfl, rfl⟩) (by assumption) ?_
        simp only [Act.put, rg1, rg2, rg3, rg4, rg5, rg6]
        refine rgY 24 undef rfl (by kernel_rfl) (fun _ _ _ h => h) (.inr ⟨by rfl, rfl⟩) (by assumption) ?_
        simp only [Act.put, rg1, rg2, rg3, rg4, rg5, rg6]
        refine rgY 25 undef rfl (by kernel_rfl) (fun _ _ _ h => h) (.inr ⟨by rfl, rfl⟩) (by assumption) ?_
        simp only [Act.put, rg1, rg2, rg3, rg4, rg5, rg6]
        refine rgY 26 undef rfl (by kernel_rfl) (fun _ _ _ h => h) (.inr ⟨by rfl, rfl⟩) (by assumption) ?_
        simp only [Act.put, rg1, rg2, rg3, rg4, rg5, rg6]
        refine rgY 27 ?_ rfl (by kernel_rfl) (fun _ _ _ h => h) (.inl ⟨by rfl, fun w hSw => ?_⟩) (by assumption) ?_
        rotate_left
        · (try dsimp only at hSw); go_simp; try with_reducible rfl
        simp only [Act.put, rg1, rg2, rg3, rg4, rg5, rg6]
        refine wpAnyH_done (by kernel_rfl) ?_ _
        go_wp2_with (fail)
        go_ret2
        exact ROpenPost.no hB2 HOK.out
      | true =>
        have hmt : (((m : Nat) : Int) == sect d r s) = true := hmb
        have HOK : Hid (openOk R d r s sl st = memOk d sl st) := by unfold Hid openOk rackOk; rw [hn, hm, hnt, hmt, decide_eq_true hR]; rfl
        have HF : Hid (∀ w, Calls Tryz.prog 35 #[gv d r s, mb e sl st] w fun e w' => e = .returned (.bool (memOk d sl st)) ∧ Below w.heap.size w w') := fun w => rfits_any d r s e sl st w
        have hme : (((m : Nat) : Int) != sect d r s) = false := by rw [bne, hmt]; rfl
        clear hmb hnt hmt
        cases hmo : memOk d sl st with
        | false =>
          rw [hmo] at HOK HF
          clear hmo
          go_enter Tryz.func16, Tryz.ntmps16
          go_wp2_with (fail)
          generalize hW0 : (w.alloc (.cells #[.int .i64 d, .int .i64 r, .int .i64 s] 33)).alloc (.cells #[.int .i64 e, .int .i64 sl, .int .i64 st] 23) = W0 at *
          have hx0 := HXX.out.next (below_drewN (Below.refl _ W0) 1)
          have hq0 := q_next HQQ.out HQL.out (below_drewN (Below.refl _ W0) 1)
          have hql0 : q < W0.drew.heap.size := HQL.out
          have hB0 : Below w.heap.size w W0.drew := below_drewN HBB.out 1
          change Bx6 W0.drew _ _ _ _ _ _ _ at hx0
          change W0.drew.cell? _ = _ ∧ W0.drew.cell? _ = _ at hq0
          generalize hp : w.heap.size = p at hx0 ⊢
          clear hW0 HXX HQQ HBB HQL
          have hg := rright_yes d r s W0.drew hR
          have ed : IntKind.i64.wrap (d + 1) = d + 1 := IntWalk.i64_in _ (by have := hR.d1; have := hR.d2; omega)
          have HS : Hid (∀ w, Calls Tryz.prog 34 #[gv d r s] w fun e w' => e = .returned (.int .i64 (sect d r s)) ∧ Below w.heap.size w w') := fun w => by rw [show sect d r s = 5 + s * r by unfold sect; rw [if_pos hR]]; exact rsectors_yes d r s w hR
          clear hR
          refine wp_region_held_drew (S := fun w' => w'.cell? ⟨p, 0, none⟩ = some (.int .i64 d) ∧ w'.cell? ⟨p, 1, none⟩ = some (.int .i64 r) ∧ w'.cell? ⟨p, 2, none⟩ = some (.int .i64 s) ∧ w'.cell? ⟨p + 1, 0, none⟩ = some (.int .i64 e) ∧ w'.cell? ⟨p + 1, 1, none⟩ = some (.int .i64 sl) ∧ w'.cell? ⟨p + 1, 2, none⟩ = some (.int .i64 st) ∧ w'.cell? ⟨q, 0, none⟩ = some (.int .i64 n) ∧ w'.cell? ⟨q, 1, none⟩ = some (.int .i64 m)) (by kernel_rfl) ?_ (fun hHeld => ?_)
          · exact ⟨hx0.g0, hx0.g1, hx0.g2, hx0.m0, hx0.m1, hx0.m2, hq0.1, hq0.2⟩
          refine rgY 0 ?_ rfl (by kernel_rfl) (fun _ _ _ h => h) (.inl ⟨by rfl, fun w hSw => ?_⟩) (by assumption) ?_
          rotate_left
          · (try dsimp only at hSw); go_simp; try with_reducible rfl
          simp only [Act.put, rg1, rg2, rg3, rg4, rg6]
          refine wpAnyH_ready (rs := [1]) (by kernel_rfl) (by simp) ?_
          refine AllReadyH.cons rfl (fun K hK => ?_) AllReadyH.nil
          simp only [List.getElem_toArray, List.getElem_cons_succ, List.getElem_cons_zero]
          go_simp
          refine (hg).mono ?_
          rintro e1 w1 ⟨rfl, hb1⟩
          have hx1 := hx0.next hb1
          have hq1 := q_next hq0 hql0 hb1
          have hql1 := Nat.lt_of_lt_of_le hql0 hb1.size
          have hB1 := hB0.trans (hb1.mono hB0.size)
          go_wp2_with (fail)
          refine hK.out _ _ ⟨hx1.g0, hx1.g1, hx1.g2, hx1.m0, hx1.m1, hx1.m2, hq1.1, hq1.2⟩ (fun hHeld => ?_)
          clear hK K
          refine rgY 2 ?_ rfl (by kernel_rfl) (fun _ _ _ h => h) (.inl ⟨by rfl, fun w hSw => ?_⟩) (by assumption) ?_
          rotate_left
          · (try dsimp only at hSw); go_simp; try with_reducible rfl
          simp only [Act.put, rg1, rg2, rg3, rg4, rg5, rg6]
          refine rgY 3 ?_ rfl (by kernel_rfl) (fun _ _ _ h => h) (.inl ⟨by rfl, fun w hSw => ?_⟩) (by assumption) ?_
          rotate_left
          · (try dsimp only at hSw); go_simp; try with_reducible rfl
          simp only [Act.put, rg1, rg2, rg3, rg4, rg5, rg6]
          refine rgY 4 ?_ rfl (by kernel_rfl) (fun _ _ _ h => h) (.inl ⟨by rfl, fun w hSw => ?_⟩) (by assumption) ?_
          rotate_left
          · (try dsimp only at hSw); go_simp; try with_reducible rfl
          simp only [Act.put, rg1, rg2, rg3, rg4, rg5, rg6]
          refine rgY 5 ?_ rfl (by kernel_rfl) (fun _ _ _ h => h) (.inl ⟨by rfl, fun w hSw => ?_⟩) (by assumption) ?_
          rotate_left
          · (try dsimp only at hSw); go_simp; try with_reducible rfl
          simp only [Act.put, rg1, rg2, rg3, rg4, rg5, rg6]
          refine rgY 6 ?_ rfl (by kernel_rfl) (fun _ _ _ h => h) (.inl ⟨by rfl, fun w hSw => ?_⟩) (by assumption) ?_
          rotate_left
          · (try dsimp only at hSw); go_simp; try with_reducible rfl
          simp only [Act.put, rg1, rg2, rg3, rg4, rg5, rg6]
          refine rgY 7 ?_ rfl (by kernel_rfl) (fun _ _ _ h => h) (.inl ⟨by rfl, fun w hSw => ?_⟩) (by assumption) ?_
          rotate_left
          · (try dsimp only at hSw); go_simp; try with_reducible rfl
          simp only [Act.put, rg1, rg2, rg3, rg4, rg5, rg6]
          refine rgY 8 ?_ rfl (by kernel_rfl) (fun _ _ _ h => h) (.inl ⟨by rfl, fun w hSw => ?_⟩) (by assumption) ?_
          rotate_left
          · (try dsimp only at hSw); go_simp; try with_reducible rfl
          simp only [Act.put, rg1, rg2, rg3, rg4, rg5, rg6]
          refine rgY 9 ?_ rfl (by kernel_rfl) (fun _ _ _ h => h) (.inl ⟨by rfl, fun w hSw => ?_⟩) (by assumption) ?_
          rotate_left
          · (try dsimp only at hSw); go_simp; try with_reducible rfl
          simp only [Act.put, rg1, rg2, rg3, rg4, rg5, rg6]
          refine rgY 10 ?_ rfl (by kernel_rfl) (fun _ _ _ h => h) (.inl ⟨by rfl, fun w hSw => ?_⟩) (by assumption) ?_
          rotate_left
          · (try dsimp only at hSw); go_simp; try with_reducible rfl
          simp only [Act.put, rg1, rg2, rg3, rg4, rg5, rg6]
          refine rgY 11 ?_ rfl (by kernel_rfl) (fun _ _ _ h => h) (.inl ⟨by rfl, fun w hSw => ?_⟩) (by assumption) ?_
          rotate_left
          · (try dsimp only at hSw); go_simp; try with_reducible rfl
          simp only [Act.put, rg1, rg2, rg3, rg4, rg5, rg6]
          refine rgY 12 ?_ rfl (by kernel_rfl) (fun _ _ _ h => h) (.inl ⟨by rfl, fun w hSw => ?_⟩) (by assumption) ?_
          rotate_left
          · (try dsimp only at hSw); go_simp; try with_reducible rfl
          simp only [Act.put, rg1, rg2, rg3, rg4, rg5, rg6]
          refine rgY 13 ?_ rfl (by kernel_rfl) (fun _ _ _ h => h) (.inl ⟨by rfl, fun w hSw => ?_⟩) (by assumption) ?_
          rotate_left
          · (try dsimp only at hSw); go_simp; try with_reducible rfl
          simp only [Act.put, rg1, rg2, rg3, rg4, rg5, rg6]
          refine rgY 14 ?_ rfl (by kernel_rfl) (fun _ _ _ h => h) (.inl ⟨by rfl, fun w hSw => ?_⟩) (by assumption) ?_
          rotate_left
          · (try dsimp only at hSw); go_simp; try with_reducible rfl
          simp only [Act.put, rg1, rg2, rg3, rg4, rg5, rg6]
          refine rgY 15 ?_ rfl (by kernel_rfl) (fun _ _ _ h => h) (.inl ⟨by rfl, fun w hSw => ?_⟩) (by assumption) ?_
          rotate_left
          · (try dsimp only at hSw); go_simp; try with_reducible rfl
          simp only [Act.put, rg1, rg2, rg3, rg4, rg5, rg6]
          refine rgY 16 ?_ rfl (by kernel_rfl) (fun _ _ _ h => h) (.inl ⟨by rfl, fun w hSw => ?_⟩) (by assumption) ?_
          rotate_left
          · (try dsimp only at hSw); go_simp; try with_reducible rfl
          simp only [Act.put, rg1, rg2, rg3, rg4, rg5, rg6]
          refine rgY 17 ?_ rfl (by kernel_rfl) (fun _ _ _ h => h) (.inl ⟨by rfl, fun w hSw => ?_⟩) (by assumption) ?_
          rotate_left
          · (try dsimp only at hSw); go_simp; try with_reducible rfl
          simp only [Act.put, rg1, rg2, rg3, rg4, rg5, rg6]
          refine rgY 18 ?_ rfl (by kernel_rfl) (fun _ _ _ h => h) (.inl ⟨by rfl, fun w hSw => ?_⟩) (by assumption) ?_
          rotate_left
          · (try dsimp only at hSw); go_simp; try with_reducible rfl
          simp only [Act.put, rg1, rg2, rg3, rg4, rg5, rg6]
          refine wpAnyH_ready (rs := [19]) (by kernel_rfl) (by simp) ?_
          refine AllReadyH.cons rfl (fun K hK => ?_) AllReadyH.nil
          simp only [List.getElem_toArray, List.getElem_cons_succ, List.getElem_cons_zero]
          go_simp
          refine (HS.out _).mono ?_
          rintro e2 w2 ⟨rfl, hb2⟩
          have hx2 := hx1.next hb2
          have hq2 := q_next hq1 hql1 hb2
          have hql2 := Nat.lt_of_lt_of_le hql1 hb2.size
          have hB2 := hB1.trans (hb2.mono hB1.size)
          go_wp2_with (fail)
          refine hK.out _ _ ⟨hx2.g0, hx2.g1, hx2.g2, hx2.m0, hx2.m1, hx2.m2, hq2.1, hq2.2⟩ (fun hHeld => ?_)
          clear hK K
          refine rgY 20 ?_ rfl (by kernel_rfl) (fun _ _ _ h => h) (.inl ⟨by rfl, fun w hSw => ?_⟩) (by assumption) ?_
          rotate_left
          · (try dsimp only at hSw); go_simp; try with_reducible rfl
          simp only [Act.put, rg1, rg2, rg3, rg4, rg5, rg6]
          refine rgY 21 ?_ rfl (by kernel_rfl) (fun _ _ _ h => h) (.inl ⟨by rfl, fun w hSw => ?_⟩) (by assumption) ?_
          rotate_left
          · (try dsimp only at hSw); go_simp; try with_reducible rfl
          simp only [Act.put, rg1, rg2, rg3, rg4, rg5, rg6]
          refine rgY 22 ?_ rfl (by kernel_rfl) (fun _ _ _ h => h) (.inl ⟨by rfl, fun w hSw => ?_⟩) (by assumption) ?_
          rotate_left
          · (try dsimp only at hSw); go_simp; try with_reducible rfl
          simp only [Act.put, rg1, rg2, rg3, rg4, rg5, rg6]
          refine rgY 23 ?_ rfl (by kernel_rfl) (fun _ _ _ h => h) (.inl ⟨by rfl, fun w hSw => ?_⟩) (by assumption) ?_
          rotate_left
          · (try dsimp only at hSw); go_simp; try with_reducible rfl
          simp only [Act.put, rg1, rg2, rg3, rg4, rg5, rg6]
          refine rgY 24 ?_ rfl (by kernel_rfl) (fun _ _ _ h => h) (.inl ⟨by rfl, fun w hSw => ?_⟩) (by assumption) ?_
          rotate_left
          · (try dsimp only at hSw); go_simp; try with_reducible rfl
          simp only [Act.put, rg1, rg2, rg3, rg4, rg5, rg6]
          refine wpAnyH_ready (rs := [25]) (by kernel_rfl) (by simp) ?_
          refine AllReadyH.cons rfl (fun K hK => ?_) AllReadyH.nil
          simp only [List.getElem_toArray, List.getElem_cons_succ, List.getElem_cons_zero]
          go_simp
          refine (HF.out _).mono ?_
          rintro e3 w3 ⟨rfl, hb3⟩
          have hx3 := hx2.next hb3
          have hq3 := q_next hq2 hql2 hb3
          have hql3 := Nat.lt_of_lt_of_le hql2 hb3.size
          have hB3 := hB2.trans (hb3.mono hB2.size)
          go_wp2_with (fail)
          refine hK.out _ _ ⟨hx3.g0, hx3.g1, hx3.g2, hx3.m0, hx3.m1, hx3.m2, hq3.1, hq3.2⟩ (fun hHeld => ?_)
          clear hK K
          refine rgY 26 ?_ rfl (by kernel_rfl) (fun _ _ _ h => h) (.inl ⟨by rfl, fun w hSw => ?_⟩) (by assumption) ?_
          rotate_left
          · (try dsimp only at hSw); go_simp; try with_reducible rfl
          simp only [Act.put, rg1, rg2, rg3, rg4, rg5, rg6]
          refine rgY 27 ?_ rfl (by kernel_rfl) (fun _ _ _ h => h) (.inl ⟨by rfl, fun w hSw => ?_⟩) (by assumption) ?_
          rotate_left
          · (try dsimp only at hSw); go_simp; try with_reducible rfl
          simp only [Act.put, rg1, rg2, rg3, rg4, rg5, rg6]
          refine wpAnyH_done (by kernel_rfl) ?_ _
          go_wp2_with (fail)
          go_ret2
          exact ROpenPost.no hB3 HOK.out
        | true =>
          rw [hmo] at HOK HF
          clear hmo
          go_enter Tryz.func16, Tryz.ntmps16
          go_wp2_with (fail)
          generalize hW0 : (w.alloc (.cells #[.int .i64 d, .int .i64 r, .int .i64 s] 33)).alloc (.cells #[.int .i64 e, .int .i64 sl, .int .i64 st] 23) = W0 at *
          have hx0 := HXX.out.next (below_drewN (Below.refl _ W0) 1)
          have hq0 := q_next HQQ.out HQL.out (below_drewN (Below.refl _ W0) 1)
          have hql0 : q < W0.drew.heap.size := HQL.out
          have hB0 : Below w.heap.size w W0.drew := below_drewN HBB.out 1
          change Bx6 W0.drew _ _ _ _ _ _ _ at hx0
          change W0.drew.cell? _ = _ ∧ W0.drew.cell? _ = _ at hq0
          generalize hp : w.heap.size = p at hx0 ⊢
          clear hW0 HXX HQQ HBB HQL
          have hg := rright_yes d r s W0.drew hR
          have ed : IntKind.i64.wrap (d + 1) = d + 1 := IntWalk.i64_in _ (by have := hR.d1; have := hR.d2; omega)
          have HS : Hid (∀ w, Calls Tryz.prog 34 #[gv d r s] w fun e w' => e = .returned (.int .i64 (sect d r s)) ∧ Below w.heap.size w w') := fun w => by rw [show sect d r s = 5 + s * r by unfold sect; rw [if_pos hR]]; exact rsectors_yes d r s w hR
          clear hR
          refine wp_region_held_drew (S := fun w' => w'.cell? ⟨p, 0, none⟩ = some (.int .i64 d) ∧ w'.cell? ⟨p, 1, none⟩ = some (.int .i64 r) ∧ w'.cell? ⟨p, 2, none⟩ = some (.int .i64 s) ∧ w'.cell? ⟨p + 1, 0, none⟩ = some (.int .i64 e) ∧ w'.cell? ⟨p + 1, 1, none⟩ = some (.int .i64 sl) ∧ w'.cell? ⟨p + 1, 2, none⟩ = some (.int .i64 st) ∧ w'.cell? ⟨q, 0, none⟩ = some (.int .i64 n) ∧ w'.cell? ⟨q, 1, none⟩ = some (.int .i64 m)) (by kernel_rfl) ?_ (fun hHeld => ?_)
          · exact ⟨hx0.g0, hx0.g1, hx0.g2, hx0.m0, hx0.m1, hx0.m2, hq0.1, hq0.2⟩
          refine rgY 0 ?_ rfl (by kernel_rfl) (fun _ _ _ h => h) (.inl ⟨by rfl, fun w hSw => ?_⟩) (by assumption) ?_
          rotate_left
          · (try dsimp only at hSw); go_simp; try with_reducible rfl
          simp only [Act.put, rg1, rg2, rg3, rg4, rg6]
          refine wpAnyH_ready (rs := [1]) (by kernel_rfl) (by simp) ?_
          refine AllReadyH.cons rfl (fun K hK => ?_) AllReadyH.nil
          simp only [List.getElem_toArray, List.getElem_cons_succ, List.getElem_cons_zero]
          go_simp
          refine (hg).mono ?_
          rintro e1 w1 ⟨rfl, hb1⟩
          have hx1 := hx0.next hb1
          have hq1 := q_next hq0 hql0 hb1
          have hql1 := Nat.lt_of_lt_of_le hql0 hb1.size
          have hB1 := hB0.trans (hb1.mono hB0.size)
          go_wp2_with (fail)
          refine hK.out _ _ ⟨hx1.g0, hx1.g1, hx1.g2, hx1.m0, hx1.m1, hx1.m2, hq1.1, hq1.2⟩ (fun hHeld => ?_)
          clear hK K
          refine rgY 2 ?_ rfl (by kernel_rfl) (fun _ _ _ h => h) (.inl ⟨by rfl, fun w hSw => ?_⟩) (by assumption) ?_
          rotate_left
          · (try dsimp only at hSw); go_simp; try with_reducible rfl
          simp only [Act.put, rg1, rg2, rg3, rg4, rg5, rg6]
          refine rgY 3 ?_ rfl (by kernel_rfl) (fun _ _ _ h => h) (.inl ⟨by rfl, fun w hSw => ?_⟩) (by assumption) ?_
          rotate_left
          · (try dsimp only at hSw); go_simp; try with_reducible rfl
          simp only [Act.put, rg1, rg2, rg3, rg4, rg5, rg6]
          refine rgY 4 ?_ rfl (by kernel_rfl) (fun _ _ _ h => h) (.inl ⟨by rfl, fun w hSw => ?_⟩) (by assumption) ?_
          rotate_left
          · (try dsimp only at hSw); go_simp; try with_reducible rfl
          simp only [Act.put, rg1, rg2, rg3, rg4, rg5, rg6]
          refine rgY 5 ?_ rfl (by kernel_rfl) (fun _ _ _ h => h) (.inl ⟨by rfl, fun w hSw => ?_⟩) (by assumption) ?_
          rotate_left
          · (try dsimp only at hSw); go_simp; try with_reducible rfl
          simp only [Act.put, rg1, rg2, rg3, rg4, rg5, rg6]
          refine rgY 6 ?_ rfl (by kernel_rfl) (fun _ _ _ h => h) (.inl ⟨by rfl, fun w hSw => ?_⟩) (by assumption) ?_
          rotate_left
          · (try dsimp only at hSw); go_simp; try with_reducible rfl
          simp only [Act.put, rg1, rg2, rg3, rg4, rg5, rg6]
          refine rgY 7 ?_ rfl (by kernel_rfl) (fun _ _ _ h => h) (.inl ⟨by rfl, fun w hSw => ?_⟩) (by assumption) ?_
          rotate_left
          · (try dsimp only at hSw); go_simp; try with_reducible rfl
          simp only [Act.put, rg1, rg2, rg3, rg4, rg5, rg6]
          refine rgY 8 ?_ rfl (by kernel_rfl) (fun _ _ _ h => h) (.inl ⟨by rfl, fun w hSw => ?_⟩) (by assumption) ?_
          rotate_left
          · (try dsimp only at hSw); go_simp; try with_reducible rfl
          simp only [Act.put, rg1, rg2, rg3, rg4, rg5, rg6]
          refine rgY 9 ?_ rfl (by kernel_rfl) (fun _ _ _ h => h) (.inl ⟨by rfl, fun w hSw => ?_⟩) (by assumption) ?_
          rotate_left
          · (try dsimp only at hSw); go_simp; try with_reducible rfl
          simp only [Act.put, rg1, rg2, rg3, rg4, rg5, rg6]
          refine rgY 10 ?_ rfl (by kernel_rfl) (fun _ _ _ h => h) (.inl ⟨by rfl, fun w hSw => ?_⟩) (by assumption) ?_
          rotate_left
          · (try dsimp only at hSw); go_simp; try with_reducible rfl
          simp only [Act.put, rg1, rg2, rg3, rg4, rg5, rg6]
          refine rgY 11 ?_ rfl (by kernel_rfl) (fun _ _ _ h => h) (.inl ⟨by rfl, fun w hSw => ?_⟩) (by assumption) ?_
          rotate_left
          · (try dsimp only at hSw); go_simp; try with_reducible rfl
          simp only [Act.put, rg1, rg2, rg3, rg4, rg5, rg6]
          refine rgY 12 ?_ rfl (by kernel_rfl) (fun _ _ _ h => h) (.inl ⟨by rfl, fun w hSw => ?_⟩) (by assumption) ?_
          rotate_left
          · (try dsimp only at hSw); go_simp; try with_reducible rfl
          simp only [Act.put, rg1, rg2, rg3, rg4, rg5, rg6]
          refine rgY 13 ?_ rfl (by kernel_rfl) (fun _ _ _ h => h) (.inl ⟨by rfl, fun w hSw => ?_⟩) (by assumption) ?_
          rotate_left
          · (try dsimp only at hSw); go_simp; try with_reducible rfl
          simp only [Act.put, rg1, rg2, rg3, rg4, rg5, rg6]
          refine rgY 14 ?_ rfl (by kernel_rfl) (fun _ _ _ h => h) (.inl ⟨by rfl, fun w hSw => ?_⟩) (by assumption) ?_
          rotate_left
          · (try dsimp only at hSw); go_simp; try with_reducible rfl
          simp only [Act.put, rg1, rg2, rg3, rg4, rg5, rg6]
          refine rgY 15 ?_ rfl (by kernel_rfl) (fun _ _ _ h => h) (.inl ⟨by rfl, fun w hSw => ?_⟩) (by assumption) ?_
          rotate_left
          · (try dsimp only at hSw); go_simp; try with_reducible rfl
          simp only [Act.put, rg1, rg2, rg3, rg4, rg5, rg6]
          refine rgY 16 ?_ rfl (by kernel_rfl) (fun _ _ _ h => h) (.inl ⟨by rfl, fun w hSw => ?_⟩) (by assumption) ?_
          rotate_left
          · (try dsimp only at hSw); go_simp; try with_reducible rfl
          simp only [Act.put, rg1, rg2, rg3, rg4, rg5, rg6]
          refine rgY 17 ?_ rfl (by kernel_rfl) (fun _ _ _ h => h) (.inl ⟨by rfl, fun w hSw => ?_⟩) (by assumption) ?_
          rotate_left
          · (try dsimp only at hSw); go_simp; try with_reducible rfl
          simp only [Act.put, rg1, rg2, rg3, rg4, rg5, rg6]
          refine rgY 18 ?_ rfl (by kernel_rfl) (fun _ _ _ h => h) (.inl ⟨by rfl, fun w hSw => ?_⟩) (by assumption) ?_
          rotate_left
          · (try dsimp only at hSw); go_simp; try with_reducible rfl
          simp only [Act.put, rg1, rg2, rg3, rg4, rg5, rg6]
          refine wpAnyH_ready (rs := [19]) (by kernel_rfl) (by simp) ?_
          refine AllReadyH.cons rfl (fun K hK => ?_) AllReadyH.nil
          simp only [List.getElem_toArray, List.getElem_cons_succ, List.getElem_cons_zero]
          go_simp
          refine (HS.out _).mono ?_
          rintro e2 w2 ⟨rfl, hb2⟩
          have hx2 := hx1.next hb2
          have hq2 := q_next hq1 hql1 hb2
          have hql2 := Nat.lt_of_lt_of_le hql1 hb2.size
          have hB2 := hB1.trans (hb2.mono hB1.size)
          go_wp2_with (fail)
          refine hK.out _ _ ⟨hx2.g0, hx2.g1, hx2.g2, hx2.m0, hx2.m1, hx2.m2, hq2.1, hq2.2⟩ (fun hHeld => ?_)
          clear hK K
          refine rgY 20 ?_ rfl (by kernel_rfl) (fun _ _ _ h => h) (.inl ⟨by rfl, fun w hSw => ?_⟩) (by assumption) ?_
          rotate_left
          · (try dsimp only at hSw); go_simp; try with_reducible rfl
          simp only [Act.put, rg1, rg2, rg3, rg4, rg5, rg6]
          refine rgY 21 ?_ rfl (by kernel_rfl) (fun _ _ _ h => h) (.inl ⟨by rfl, fun w hSw => ?_⟩) (by assumption) ?_
          rotate_left
          · (try dsimp only at hSw); go_simp; try with_reducible rfl
          simp only [Act.put, rg1, rg2, rg3, rg4, rg5, rg6]
          refine rgY 22 ?_ rfl (by kernel_rfl) (fun _ _ _ h => h) (.inl ⟨by rfl, fun w hSw => ?_⟩) (by assumption) ?_
          rotate_left
          · (try dsimp only at hSw); go_simp; try with_reducible rfl
          simp only [Act.put, rg1, rg2, rg3, rg4, rg5, rg6]
          refine rgY 23 ?_ rfl (by kernel_rfl) (fun _ _ _ h => h) (.inl ⟨by rfl, fun w hSw => ?_⟩) (by assumption) ?_
          rotate_left
          · (try dsimp only at hSw); go_simp; try with_reducible rfl
          simp only [Act.put, rg1, rg2, rg3, rg4, rg5, rg6]
          refine rgY 24 ?_ rfl (by kernel_rfl) (fun _ _ _ h => h) (.inl ⟨by rfl, fun w hSw => ?_⟩) (by assumption) ?_
          rotate_left
          · (try dsimp only at hSw); go_simp; try with_reducible rfl
          simp only [Act.put, rg1, rg2, rg3, rg4, rg5, rg6]
          refine wpAnyH_ready (rs := [25]) (by kernel_rfl) (by simp) ?_
          refine AllReadyH.cons rfl (fun K hK => ?_) AllReadyH.nil
          simp only [List.getElem_toArray, List.getElem_cons_succ, List.getElem_cons_zero]
          go_simp
          refine (HF.out _).mono ?_
          rintro e3 w3 ⟨rfl, hb3⟩
          have hx3 := hx2.next hb3
          have hq3 := q_next hq2 hql2 hb3
          have hql3 := Nat.lt_of_lt_of_le hql2 hb3.size
          have hB3 := hB2.trans (hb3.mono hB2.size)
          go_wp2_with (fail)
          refine hK.out _ _ ⟨hx3.g0, hx3.g1, hx3.g2, hx3.m0, hx3.m1, hx3.m2, hq3.1, hq3.2⟩ (fun hHeld => ?_)
          clear hK K
          refine rgY 26 ?_ rfl (by kernel_rfl) (fun _ _ _ h => h) (.inl ⟨by rfl, fun w hSw => ?_⟩) (by assumption) ?_
          rotate_left
          · (try dsimp only at hSw); go_simp; try with_reducible rfl
          simp only [Act.put, rg1, rg2, rg3, rg4, rg5, rg6]
          refine rgY 27 ?_ rfl (by kernel_rfl) (fun _ _ _ h => h) (.inl ⟨by rfl, fun w hSw => ?_⟩) (by assumption) ?_
          rotate_left
          · (try dsimp only at hSw); go_simp; try with_reducible rfl
          simp only [Act.put, rg1, rg2, rg3, rg4, rg5, rg6]
          refine wpAnyH_done (by kernel_rfl) ?_ _
          have z0 := hx3.g0
          have z1 := hx3.g1
          have z2 := hx3.g2
          have z3 := hx3.m0
          have z4 := hx3.m1
          have z5 := hx3.m2
          go_wp2_with (fail)
          go_ret2
          exact ROpenPost.yes (hB3.alloc hB3.size _) HOK.out hB3.size ⟨heap_alloc_new w3 _⟩
  · have h0 := trivial
    have HOK : Hid (openOk R d r s sl st = false) := by unfold Hid openOk; rw [decide_eq_false hR, Bool.false_and]
    go_enter Tryz.func16, Tryz.ntmps16
    go_wp2_with (fail)
    generalize hW0 : (w.alloc (.cells #[.int .i64 d, .int .i64 r, .int .i64 s] 33)).alloc (.cells #[.int .i64 e, .int .i64 sl, .int .i64 st] 23) = W0 at *
    have hx0 := HXX.out.next (below_drewN (Below.refl _ W0) 1)
    have hq0 := q_next HQQ.out HQL.out (below_drewN (Below.refl _ W0) 1)
    have hql0 : q < W0.drew.heap.size := HQL.out
    have hB0 : Below w.heap.size w W0.drew := below_drewN HBB.out 1
    change Bx6 W0.drew _ _ _ _ _ _ _ at hx0
    change W0.drew.cell? _ = _ ∧ W0.drew.cell? _ = _ at hq0
    generalize hp : w.heap.size = p at hx0 ⊢
    clear hW0 HXX HQQ HBB HQL
    have hg := rright_no d r s W0.drew hR
    clear hR
    refine wp_region_held_drew (S := fun w' => w'.cell? ⟨p, 0, none⟩ = some (.int .i64 d) ∧ w'.cell? ⟨p, 1, none⟩ = some (.int .i64 r) ∧ w'.cell? ⟨p, 2, none⟩ = some (.int .i64 s) ∧ w'.cell? ⟨p + 1, 0, none⟩ = some (.int .i64 e) ∧ w'.cell? ⟨p + 1, 1, none⟩ = some (.int .i64 sl) ∧ w'.cell? ⟨p + 1, 2, none⟩ = some (.int .i64 st) ∧ w'.cell? ⟨q, 0, none⟩ = some (.int .i64 n) ∧ w'.cell? ⟨q, 1, none⟩ = some (.int .i64 m)) (by kernel_rfl) ?_ (fun hHeld => ?_)
    · exact ⟨hx0.g0, hx0.g1, hx0.g2, hx0.m0, hx0.m1, hx0.m2, hq0.1, hq0.2⟩
    refine rgY 0 ?_ rfl (by kernel_rfl) (fun _ _ _ h => h) (.inl ⟨by rfl, fun w hSw => ?_⟩) (by assumption) ?_
    rotate_left
    · (try dsimp only at hSw); go_simp; try with_reducible rfl
    simp only [Act.put, rg1, rg2, rg3, rg4, rg6]
    refine wpAnyH_ready (rs := [1]) (by kernel_rfl) (by simp) ?_
    refine AllReadyH.cons rfl (fun K hK => ?_) AllReadyH.nil
    simp only [List.getElem_toArray, List.getElem_cons_succ, List.getElem_cons_zero]
    go_simp
    refine (hg).mono ?_
    rintro e1 w1 ⟨rfl, hb1⟩
    have hx1 := hx0.next hb1
    have hq1 := q_next hq0 hql0 hb1
    have hql1 := Nat.lt_of_lt_of_le hql0 hb1.size
    have hB1 := hB0.trans (hb1.mono hB0.size)
    go_wp2_with (fail)
    refine hK.out _ _ ⟨hx1.g0, hx1.g1, hx1.g2, hx1.m0, hx1.m1, hx1.m2, hq1.1, hq1.2⟩ (fun hHeld => ?_)
    clear hK K
    refine rgY 2 ?_ rfl (by kernel_rfl) (fun _ _ _ h => h) (.inl ⟨by rfl, fun w hSw => ?_⟩) (by assumption) ?_
    rotate_left
    · (try dsimp only at hSw); go_simp; try with_reducible rfl
    simp only [Act.put, rg1, rg2, rg3, rg4, rg5, rg6]
    refine rgY 3 ?_ rfl (by kernel_rfl) (fun _ _ _ h => h) (.inl ⟨by rfl, fun w hSw => ?_⟩) (by assumption) ?_
    rotate_left
    · (try dsimp only at hSw); go_simp; try with_reducible rfl
    simp only [Act.put, rg1, rg2, rg3, rg4, rg5, rg6]
    refine rgY 4 undef rfl (by kernel_rfl) (fun _ _ _ h => h) (.inr ⟨by rfl, rfl⟩) (by assumption) ?_
    simp only [Act.put, rg1, rg2, rg3, rg4, rg5, rg6]
    refine rgY 5 undef rfl (by kernel_rfl) (fun _ _ _ h => h) (.inr ⟨by rfl, rfl⟩) (by assumption) ?_
    simp only [Act.put, rg1, rg2, rg3, rg4, rg5, rg6]
    refine rgY 6 undef rfl (by kernel_rfl) (fun _ _ _ h => h) (.inr ⟨by rfl, rfl⟩) (by assumption) ?_
    simp only [Act.put, rg1, rg2, rg3, rg4, rg5, rg6]
    refine rgY 7 undef rfl (by kernel_rfl) (fun _ _ _ h => h) (.inr ⟨by rfl, rfl⟩) (by assumption) ?_
    simp only [Act.put, rg1, rg2, rg3, rg4, rg5, rg6]
    refine rgY 8 undef rfl (by kernel_rfl) (fun _ _ _ h => h) (.inr ⟨by rfl, rfl⟩) (by assumption) ?_
    simp only [Act.put, rg1, rg2, rg3, rg4, rg5, rg6]
    refine rgY 9 undef rfl (by kernel_rfl) (fun _ _ _ h => h) (.inr ⟨by rfl, rfl⟩) (by assumption) ?_
    simp only [Act.put, rg1, rg2, rg3, rg4, rg5, rg6]
    refine rgY 10 undef rfl (by kernel_rfl) (fun _ _ _ h => h) (.inr ⟨by rfl, rfl⟩) (by assumption) ?_
    simp only [Act.put, rg1, rg2, rg3, rg4, rg5, rg6]
    refine rgY 11 undef rfl (by kernel_rfl) (fun _ _ _ h => h) (.inr ⟨by rfl, rfl⟩) (by assumption) ?_
    simp only [Act.put, rg1, rg2, rg3, rg4, rg5, rg6]
    refine rgY 12 ?_ rfl (by kernel_rfl) (fun _ _ _ h => h) (.inl ⟨by rfl, fun w hSw => ?_⟩) (by assumption) ?_
    rotate_left
    · (try dsimp only at hSw); go_simp; try with_reducible rfl
    simp only [Act.put, rg1, rg2, rg3, rg4, rg5, rg6]
    refine rgY 13 ?_ rfl (by kernel_rfl) (fun _ _ _ h => h) (.inl ⟨by rfl, fun w hSw => ?_⟩) (by assumption) ?_
    rotate_left
    · (try dsimp only at hSw); go_simp; try with_reducible rfl
    simp only [Act.put, rg1, rg2, rg3, rg4, rg5, rg6]
    refine rgY 14 undef rfl (by kernel_rfl) (fun _ _ _ h => h) (.inr ⟨by rfl, rfl⟩) (by assumption) ?_
    simp only [Act.put, rg1, rg2, rg3, rg4, rg5, rg6]
    refine rgY 15 undef rfl (by kernel_rfl) (fun _ _ _ h => h) (.inr ⟨by rfl, rfl⟩) (by assumption) ?_
    simp only [Act.put, rg1, rg2, rg3, rg4, rg5, rg6]
    refine rgY 16 undef rfl (by kernel_rfl) (fun _ _ _ h => h) (.inr ⟨by rfl, rfl⟩) (by assumption) ?_
    simp only [Act.put, rg1, rg2, rg3, rg4, rg5, rg6]
    refine rgY 17 undef rfl (by kernel_rfl) (fun _ _ _ h => h) (.inr ⟨by rfl, rfl⟩) (by assumption) ?_
    simp only [Act.put, rg1, rg2, rg3, rg4, rg5, rg6]
    refine rgY 18 undef rfl (by kernel_rfl) (fun _ _ _ h => h) (.inr ⟨by rfl, rfl⟩) (by assumption) ?_
    simp only [Act.put, rg1, rg2, rg3, rg4, rg5, rg6]
    refine rgY 19 undef rfl (by kernel_rfl) (fun _ _ _ h => h) (.inr ⟨by rfl, rfl⟩) (by assumption) ?_
    simp only [Act.put, rg1, rg2, rg3, rg4, rg5, rg6]
    refine rgY 20 undef rfl (by kernel_rfl) (fun _ _ _ h => h) (.inr ⟨by rfl, rfl⟩) (by assumption) ?_
    simp only [Act.put, rg1, rg2, rg3, rg4, rg5, rg6]
    refine rgY 21 ?_ rfl (by kernel_rfl) (fun _ _ _ h => h) (.inl ⟨by rfl, fun w hSw => ?_⟩) (by assumption) ?_
    rotate_left
    · (try dsimp only at hSw); go_simp; try with_reducible rfl
    simp only [Act.put, rg1, rg2, rg3, rg4, rg5, rg6]
    refine rgY 22 ?_ rfl (by kernel_rfl) (fun _ _ _ h => h) (.inl ⟨by rfl, fun w hSw => ?_⟩) (by assumption) ?_
    rotate_left
    · (try dsimp only at hSw); go_simp; try with_reducible rfl
    simp only [Act.put, rg1, rg2, rg3, rg4, rg5, rg6]
    refine rgY 23 undef rfl (by kernel_rfl) (fun _ _ _ h => h) (.inr ⟨by rfl, rfl⟩) (by assumption) ?_
    simp only [Act.put, rg1, rg2, rg3, rg4, rg5, rg6]
    refine rgY 24 undef rfl (by kernel_rfl) (fun _ _ _ h => h) (.inr ⟨by rfl, rfl⟩) (by assumption) ?_
    simp only [Act.put, rg1, rg2, rg3, rg4, rg5, rg6]
    refine rgY 25 undef rfl (by kernel_rfl) (fun _ _ _ h => h) (.inr ⟨by rfl, rfl⟩) (by assumption) ?_
    simp only [Act.put, rg1, rg2, rg3, rg4, rg5, rg6]
    refine rgY 26 undef rfl (by kernel_rfl) (fun _ _ _ h => h) (.inr ⟨by rfl, rfl⟩) (by assumption) ?_
    simp only [Act.put, rg1, rg2, rg3, rg4, rg5, rg6]
    refine rgY 27 ?_ rfl (by kernel_rfl) (fun _ _ _ h => h) (.inl ⟨by rfl, fun w hSw => ?_⟩) (by assumption) ?_
    rotate_left
    · (try dsimp only at hSw); go_simp; try with_reducible rfl
    simp only [Act.put, rg1, rg2, rg3, rg4, rg5, rg6]
    refine wpAnyH_done (by kernel_rfl) ?_ _
    go_wp2_with (fail)
    go_ret2
    exact ROpenPost.no hB1 HOK.out

end Go.Proofs.YtacnhlmhibhlhaaGreat
