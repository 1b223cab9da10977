/-
  The document's answers of geo, by counting: Right, Sectors, Places, Caps, Address.
-/
import Derived.Test.YtciddoeeiamndaaGreatGb
import Derived.Test.YtciddoeeiamndaaGreatOpn
import Derived.Deep.RegionHeld3
import Derived.Test.YtciddoeeiamndaaGreatRkb
import Derived.Test.YtciddoeeiamndaaGreatBad
namespace Go.Proofs.YtciddoeeiamndaaGreat
open Go.RowKit

set_option maxHeartbeats 1000000 in
theorem rright_d1 (d r s : Int) (w : World) (h : d < 3) :
    Calls Tryz.prog 28 #[gv d r s] w fun e w' => e = .returned (.bool false) ∧ Below w.heap.size w w' := by
  have x1 := Bx.mk' w d r s 41
  go_enter Tryz.func28, Tryz.ntmps28
  go_wp2_with (fail)
  go_ret
  exact ⟨rfl, (Below.refl _ _).alloc (Nat.le_refl _) _⟩
set_option maxHeartbeats 1000000 in
theorem rright_d2 (d r s : Int) (w : World) (h : 16 < d) :
    Calls Tryz.prog 28 #[gv d r s] w fun e w' => e = .returned (.bool false) ∧ Below w.heap.size w w' := by
  have x1 := Bx.mk' w d r s 41
  have f1 : decide (d < 3) = false := decide_eq_false (by omega)
  go_enter Tryz.func28, Tryz.ntmps28
  go_wp2_with (fail)
  go_ret
  exact ⟨rfl, (Below.refl _ _).alloc (Nat.le_refl _) _⟩
set_option maxHeartbeats 1000000 in
theorem rright_r1 (d r s : Int) (w : World) (d1 : 3 ≤ d) (d2 : d ≤ 16) (h : r < 1) :
    Calls Tryz.prog 28 #[gv d r s] w fun e w' => e = .returned (.bool false) ∧ Below w.heap.size w w' := by
  have x1 := Bx.mk' w d r s 41
  have f1 : decide (d < 3) = false := decide_eq_false (by omega)
  have f2 : decide (16 < d) = false := decide_eq_false (by omega)
  go_enter Tryz.func28, Tryz.ntmps28
  go_wp2_with (fail)
  go_ret
  exact ⟨rfl, (Below.refl _ _).alloc (Nat.le_refl _) _⟩
set_option maxHeartbeats 1000000 in
theorem rright_r2 (d r s : Int) (w : World) (d1 : 3 ≤ d) (d2 : d ≤ 16) (h : 4 < r) :
    Calls Tryz.prog 28 #[gv d r s] w fun e w' => e = .returned (.bool false) ∧ Below w.heap.size w w' := by
  have x1 := Bx.mk' w d r s 41
  have f1 : decide (d < 3) = false := decide_eq_false (by omega)
  have f2 : decide (16 < d) = false := decide_eq_false (by omega)
  have f3 : decide (r < 1) = false := decide_eq_false (by omega)
  go_enter Tryz.func28, Tryz.ntmps28
  go_wp2_with (fail)
  go_ret
  exact ⟨rfl, (Below.refl _ _).alloc (Nat.le_refl _) _⟩
set_option maxHeartbeats 1000000 in
theorem rright_s1 (d r s : Int) (w : World) (d1 : 3 ≤ d) (d2 : d ≤ 16) (r1 : 1 ≤ r) (r2 : r ≤ 4) (h : s < 12) :
    Calls Tryz.prog 28 #[gv d r s] w fun e w' => e = .returned (.bool false) ∧ Below w.heap.size w w' := by
  have x1 := Bx.mk' w d r s 41
  have f1 : decide (d < 3) = false := decide_eq_false (by omega)
  have f2 : decide (16 < d) = false := decide_eq_false (by omega)
  have f3 : decide (r < 1) = false := decide_eq_false (by omega)
  have f4 : decide (4 < r) = false := decide_eq_false (by omega)
  go_enter Tryz.func28, Tryz.ntmps28
  go_wp2_with (fail)
  go_ret
  exact ⟨rfl, (Below.refl _ _).alloc (Nat.le_refl _) _⟩
set_option maxHeartbeats 1000000 in
theorem rright_s2 (d r s : Int) (w : World) (d1 : 3 ≤ d) (d2 : d ≤ 16) (r1 : 1 ≤ r) (r2 : r ≤ 4) (h : 64 < s) :
    Calls Tryz.prog 28 #[gv d r s] w fun e w' => e = .returned (.bool false) ∧ Below w.heap.size w w' := by
  have x1 := Bx.mk' w d r s 41
  have f1 : decide (d < 3) = false := decide_eq_false (by omega)
  have f2 : decide (16 < d) = false := decide_eq_false (by omega)
  have f3 : decide (r < 1) = false := decide_eq_false (by omega)
  have f4 : decide (4 < r) = false := decide_eq_false (by omega)
  have f5 : decide (s < 12) = false := decide_eq_false (by omega)
  go_enter Tryz.func28, Tryz.ntmps28
  go_wp2_with (fail)
  go_ret
  exact ⟨rfl, (Below.refl _ _).alloc (Nat.le_refl _) _⟩
set_option maxHeartbeats 1000000 in
theorem rright_bd (d r s : Int) (w : World) (h : Bd d r s) :
    Calls Tryz.prog 28 #[gv d r s] w fun e w' => e = .returned (.bool (decide (8 ≤ QC s * PL d r))) ∧ Below w.heap.size w w' := by
  obtain ⟨p1, p2, p3, p4⟩ := PL_bd h.d1 h.d2 h.r1 h.r2
  obtain ⟨q1, q2⟩ := QP_bd h
  obtain ⟨d1, d2, r1, r2, s1, s2⟩ := h
  have f1 : decide (d < 3) = false := decide_eq_false (by omega)
  have f2 : decide (16 < d) = false := decide_eq_false (by omega)
  have f3 : decide (r < 1) = false := decide_eq_false (by omega)
  have f4 : decide (4 < r) = false := decide_eq_false (by omega)
  have f5 : decide (s < 12) = false := decide_eq_false (by omega)
  have f6 : decide (64 < s) = false := decide_eq_false (by omega)
  unfold QC PL at q1 q2 ⊢
  go_enter Tryz.func28, Tryz.ntmps28
  go_wp2_with (fail)
  go_ret
  exact ⟨rfl, (Below.refl _ _).alloc (Nat.le_refl _) _⟩
theorem rright_yes (d r s : Int) (w : World) (h : Rt d r s) : Calls Tryz.prog 28 #[gv d r s] w fun e w' => e = .returned (.bool true) ∧ Below w.heap.size w w' := by
  have := rright_bd d r s w h.toBd
  rwa [decide_eq_true h.q] at this
theorem rright_no (d r s : Int) (w : World) (h : ¬ Rt d r s) : Calls Tryz.prog 28 #[gv d r s] w fun e w' => e = .returned (.bool false) ∧ Below w.heap.size w w' := by
  by_cases hb : Bd d r s
  · have := rright_bd d r s w hb
    rwa [decide_eq_false (fun q => h ⟨hb, q⟩)] at this
  · rcases not_Bd hb with h1 | ⟨h0, h1⟩ | ⟨h0, h00, h1⟩
    · rcases h1 with h1 | h1
      · exact rright_d1 d r s w h1
      · exact rright_d2 d r s w h1
    · rcases h1 with h1 | h1
      · exact rright_r1 d r s w h0.1 h0.2 h1
      · exact rright_r2 d r s w h0.1 h0.2 h1
    · rcases h1 with h1 | h1
      · exact rright_s1 d r s w h0.1 h0.2 h00.1 h00.2 h1
      · exact rright_s2 d r s w h0.1 h0.2 h00.1 h00.2 h1

set_option maxHeartbeats 1000000 in
theorem rsectors_yes (d r s : Int) (w : World) (h : Rt d r s) : Calls Tryz.prog 29 #[gv d r s] w fun e w' => e = .returned (.int .i64 (5 + s * r)) ∧ Below w.heap.size w w' := by
  have x1 := Bx.mk' w d r s 41
  have hB1 : Below w.heap.size w (w.alloc (.cells #[.int .i64 d, .int .i64 r, .int .i64 s] 41 (0, 0))) := (Below.refl _ _).alloc (Nat.le_refl _) _
  have m := mul_bd (a := s) (b := r) (x := 64) (y := 4) (by have := h.s1; omega) h.s2 (by have := h.r1; omega) h.r2
  go_enter Tryz.func29, Tryz.ntmps29
  go_wp2_with (fail)
  refine (rright_yes d r s _ h).mono ?_
  rintro e w2 ⟨rfl, hb2⟩
  have x2 := x1.next hb2
  have hB2 := hB1.trans (hb2.mono (Nat.le_of_lt x1.lt))
  clear x1 hB1
  have y1 := x2.c0
  have y2 := x2.c1
  have y3 := x2.c2
  go_wp2_with (fail)
  go_ret
  exact ⟨rfl, hB2⟩
set_option maxHeartbeats 1000000 in
theorem rsectors_no (d r s : Int) (w : World) (h : ¬ Rt d r s) : Calls Tryz.prog 29 #[gv d r s] w fun e w' => e = .returned (.int .i64 0) ∧ Below w.heap.size w w' := by
  have x1 := Bx.mk' w d r s 41
  have hB1 : Below w.heap.size w (w.alloc (.cells #[.int .i64 d, .int .i64 r, .int .i64 s] 41 (0, 0))) := (Below.refl _ _).alloc (Nat.le_refl _) _
  go_enter Tryz.func29, Tryz.ntmps29
  go_wp2_with (fail)
  refine (rright_no d r s _ h).mono ?_
  rintro e w2 ⟨rfl, hb2⟩
  have x2 := x1.next hb2
  have hB2 := hB1.trans (hb2.mono (Nat.le_of_lt x1.lt))
  clear x1 hB1
  have y1 := x2.c0
  have y2 := x2.c1
  have y3 := x2.c2
  go_wp2_with (fail)
  go_ret
  exact ⟨rfl, hB2⟩
set_option maxHeartbeats 1000000 in
theorem rplaces_yes (d r s : Int) (w : World) (h : Rt d r s) : Calls Tryz.prog 77 #[gv d r s] w fun e w' => e = .returned (.int .i64 (PL d r)) ∧ Below w.heap.size w w' := by
  have x1 := Bx.mk' w d r s 41
  have hB1 : Below w.heap.size w (w.alloc (.cells #[.int .i64 d, .int .i64 r, .int .i64 s] 41 (0, 0))) := (Below.refl _ _).alloc (Nat.le_refl _) _
  obtain ⟨p1, p2, p3, p4⟩ := PL_bd h.d1 h.d2 h.r1 h.r2
  have d1 := h.d1
  have d2 := h.d2
  unfold PL
  go_enter Tryz.func77, Tryz.ntmps77
  go_wp2_with (fail)
  refine (rright_yes d r s _ h).mono ?_
  rintro e w2 ⟨rfl, hb2⟩
  have x2 := x1.next hb2
  have hB2 := hB1.trans (hb2.mono (Nat.le_of_lt x1.lt))
  clear x1 hB1
  have y1 := x2.c0
  have y2 := x2.c1
  have y3 := x2.c2
  go_wp2_with (fail)
  go_ret
  exact ⟨rfl, hB2⟩
set_option maxHeartbeats 1000000 in
theorem rplaces_no (d r s : Int) (w : World) (h : ¬ Rt d r s) : Calls Tryz.prog 77 #[gv d r s] w fun e w' => e = .returned (.int .i64 0) ∧ Below w.heap.size w w' := by
  have x1 := Bx.mk' w d r s 41
  have hB1 : Below w.heap.size w (w.alloc (.cells #[.int .i64 d, .int .i64 r, .int .i64 s] 41 (0, 0))) := (Below.refl _ _).alloc (Nat.le_refl _) _
  go_enter Tryz.func77, Tryz.ntmps77
  go_wp2_with (fail)
  refine (rright_no d r s _ h).mono ?_
  rintro e w2 ⟨rfl, hb2⟩
  have x2 := x1.next hb2
  have hB2 := hB1.trans (hb2.mono (Nat.le_of_lt x1.lt))
  clear x1 hB1
  have y1 := x2.c0
  have y2 := x2.c1
  have y3 := x2.c2
  go_wp2_with (fail)
  go_ret
  exact ⟨rfl, hB2⟩
end Go.Proofs.YtciddoeeiamndaaGreat

/-
  The reference's Fits and Open, by contract.
-/
namespace Go.Proofs.YtciddoeeiamndaaGreat
open Go.RowKit Go.Maps
set_option linter.unusedVariables false

/-- The reference's bank B, of the rack in block p, lies in block b. -/
structure RbAt (w : World) (b p : Nat) (B : Bn) : Prop where
  row : w.heap[b]? = some (.cells #[.pointer (some ⟨p, 0, none⟩), .int .i64 B.d, .int .i64 B.r, .int .i64 B.s, .int .i64 B.e, .int .i64 B.sl, .int .i64 B.st] 76 (0, 0))
theorem rfits_any (d r s e sl st : Int) (w : World) : Calls Tryz.prog 30 #[gv d r s, mb e sl st] w fun e w' => e = .returned (.bool (memOk d sl st)) ∧ Below w.heap.size w w' := by
  have hb : ∀ x y : Obj, Below w.heap.size w ((w.alloc x).alloc y) := fun x y => ((Below.refl _ _).alloc (Nat.le_refl _) _).alloc (by simp) _
  by_cases h0 : st < 0
  · rw [show memOk d sl st = false from decide_eq_false (by omega)]
    go_enter Tryz.func30, Tryz.ntmps30
    go_wp2_with (fail)
    go_ret
    exact ⟨rfl, hb _ _⟩
  · have g0 : decide (0 ≤ st) = true := decide_eq_true (by omega)
    by_cases h1 : 2 < st
    · rw [show memOk d sl st = false from decide_eq_false (by omega)]
      have g1 : decide (st ≤ 2) = false := decide_eq_false (by omega)
      clear h0 h1
      go_enter Tryz.func30, Tryz.ntmps30
      go_wp2_with (fail)
      go_ret
      exact ⟨rfl, hb _ _⟩
    · have g1 : decide (st ≤ 2) = true := decide_eq_true (by omega)
      by_cases h2 : st = 0
      · subst h2
        rw [show memOk d sl 0 = true from decide_eq_true (.inl rfl)]
        clear h0 h1 g0 g1
        go_enter Tryz.func30, Tryz.ntmps30
        go_wp2_with (fail)
        go_ret
        exact ⟨rfl, hb _ _⟩
      · have g2 : (st == 0) = false := by simpa using h2
        rw [show memOk d sl st = hasSl d sl by unfold memOk hasSl; rw [decide_eq_decide]; omega]
        by_cases h3 : 0 ≤ sl
        · by_cases h4 : sl < d
          · rw [show hasSl d sl = true from decide_eq_true ⟨h3, h4⟩]
            clear h0 h1 h2
            go_enter Tryz.func30, Tryz.ntmps30
            go_wp2_with (fail)
            go_ret
            exact ⟨rfl, hb _ _⟩
          · rw [show hasSl d sl = false from decide_eq_false (fun x => h4 x.2)]
            clear h0 h1 h2
            go_enter Tryz.func30, Tryz.ntmps30
            go_wp2_with (fail)
            go_ret
            exact ⟨rfl, hb _ _⟩
        · rw [show hasSl d sl = false from decide_eq_false (fun x => h3 x.1)]
          clear h0 h1 h2
          go_enter Tryz.func30, Tryz.ntmps30
          go_wp2_with (fail)
          go_ret
          exact ⟨rfl, hb _ _⟩

theorem q_next {w w' : World} {q : Nat} {x y : Value} (h : w.cell? ⟨q, 0, none⟩ = some x ∧ w.cell? ⟨q, 1, none⟩ = some y) (hl : q < w.heap.size) (hb : Below w.heap.size w w') : w'.cell? ⟨q, 0, none⟩ = some x ∧ w'.cell? ⟨q, 1, none⟩ = some y :=
  ⟨(hb.cell (p := ⟨q, 0, none⟩) hl).trans h.1, (hb.cell (p := ⟨q, 1, none⟩) hl).trans h.2⟩
/-- What the reference's Open answers. -/
noncomputable def ROpenPost (p : Nat) (R : Rk) (d r s e sl st : Int) (w : World) (en : Ending) (w' : World) : Prop :=
  Below w.heap.size w w' ∧ if openOk R d r s sl st then ∃ b, en = .returned (.tuple #[.pointer (some ⟨b, 0, none⟩), .int .i64 0]) ∧ w.heap.size ≤ b ∧ RbAt w' b p ⟨d, r, s, e, sl, st⟩
    else en = .returned (.tuple #[.pointer none, .int .i64 10])
theorem ROpenPost.no {R : Rk} {p : Nat} {d r s e sl st : Int} {w w' : World} (hb : Below w.heap.size w w') (h : openOk R d r s sl st = false) : ROpenPost p R d r s e sl st w (.returned (.tuple #[.pointer none, .int .i64 10])) w' :=
  ⟨hb, by rw [h]; rfl⟩
theorem ROpenPost.yes {R : Rk} {p b : Nat} {d r s e sl st : Int} {w w' : World} (hb : Below w.heap.size w w') (h : openOk R d r s sl st = true) (hlt : w.heap.size ≤ b) (hB : RbAt w' b p ⟨d, r, s, e, sl, st⟩) : ROpenPost p R d r s e sl st w (.returned (.tuple #[.pointer (some ⟨b, 0, none⟩), .int .i64 0])) w' :=
  ⟨hb, by rw [h]; exact ⟨b, rfl, hlt, hB⟩⟩

set_option maxRecDepth 100000 in
set_option maxHeartbeats 4000000 in
theorem ropen_any (R : Rk) (q n m : Nat) (d r s e sl st : Int) (w : World) (hn : R.n = n) (hm : R.S = m) (hq : w.cell? ⟨q, 0, none⟩ = some (.int .i64 n) ∧ w.cell? ⟨q, 1, none⟩ = some (.int .i64 m)) :
    Calls Tryz.prog 11 #[.pointer (some ⟨q, 0, none⟩), gv d r s, mb e sl st] w (ROpenPost q R d r s e sl st w) := by
  have hql : q < w.heap.size := World.block_lt_of_cell? w _ hq.1
  have hbb : Below w.heap.size w ((w.alloc (.cells #[.int .i64 d, .int .i64 r, .int .i64 s] 41)).alloc (.cells #[.int .i64 e, .int .i64 sl, .int .i64 st] 23)) := ((Below.refl _ _).alloc (Nat.le_refl _) _).alloc (by simp) _
  have hxx := Bx6.new w d r s e sl st 41 23
  have HBB := Lib.hid hbb
  have HXX := Lib.hid hxx
  have HQQ := Lib.hid (q_next hq hql hbb)
  have HQL := Lib.hid (Nat.lt_of_lt_of_le hql hbb.size)
  clear hbb hxx hq hql
  by_cases hR : Rt d r s
  · cases hnb : ((n : Int) == d + 1) with
    | false =>
      have hnf : (((n : Nat) : Int) == d + 1) = false := hnb
      have HOK : Hid (openOk R d r s sl st = false) := by unfold Hid openOk rackOk; rw [hn, hnf, Bool.false_and, Bool.false_and, Bool.and_false]
      have hne : (((n : Nat) : Int) != d + 1) = true := by rw [bne, hnf]; rfl
      clear hnf
      clear hnb
      go_enter Tryz.func11, Tryz.ntmps11
      go_wp2_with (fail)
      generalize hW0 : (w.alloc (.cells #[.int .i64 d, .int .i64 r, .int .i64 s] 41)).alloc (.cells #[.int .i64 e, .int .i64 sl, .int .i64 st] 23) = W0 at *
      have hx0 := HXX.out.next (below_drewN (Below.refl _ W0) 1)
      have hq0 := q_next HQQ.out HQL.out (below_drewN (Below.refl _ W0) 1)
      have hql0 : q < W0.drew.heap.size := HQL.out
      have hB0 : Below w.heap.size w W0.drew := below_drewN HBB.out 1
      change Bx6 W0.drew _ _ _ _ _ _ _ at hx0
      change W0.drew.cell? _ = _ ∧ W0.drew.cell? _ = _ at hq0
      generalize hp : w.heap.size = p at hx0 ⊢
      clear hW0 HXX HQQ HBB HQL
      have hg := rright_yes d r s W0.drew hR
      have ed : IntKind.i64.wrap (d + 1) = d + 1 := IntWalk.i64_in _ (by have := hR.d1; have := hR.d2; omega)
      clear hR
      refine wp_region_held_drew (S := fun w' => w'.cell? ⟨p, 0, none⟩ = some (.int .i64 d) ∧ w'.cell? ⟨p, 1, none⟩ = some (.int .i64 r) ∧ w'.cell? ⟨p, 2, none⟩ = some (.int .i64 s) ∧ w'.cell? ⟨p + 1, 0, none⟩ = some (.int .i64 e) ∧ w'.cell? ⟨p + 1, 1, none⟩ = some (.int .i64 sl) ∧ w'.cell? ⟨p + 1, 2, none⟩ = some (.int .i64 st) ∧ w'.cell? ⟨q, 0, none⟩ = some (.int .i64 n) ∧ w'.cell? ⟨q, 1, none⟩ = some (.int .i64 m)) (by kernel_rfl) ?_ (fun hHeld => ?_)
      · exact ⟨hx0.g0, hx0.g1, hx0.g2, hx0.m0, hx0.m1, hx0.m2, hq0.1, hq0.2⟩
      refine wpAnyH_take (i := 0) (v := ?_) rfl (by kernel_rfl) (by kernel_rfl) (by kernel_rfl) (fun _ _ _ h => h) (Or.inl ⟨by rfl, fun w hSw => ?_⟩) (by assumption) ?_
      rotate_left
      · (try dsimp only at hSw); go_simp; try with_reducible rfl
      simp only [Act.put, List.setIfInBounds_toArray, List.set_cons_zero, List.set_cons_succ, List.getElem_toArray, List.getElem_cons_zero]
      refine wpAnyH_ready (rs := [1]) (by kernel_rfl) (by simp) ?_
      refine AllReadyH.cons rfl (fun K hK => ?_) AllReadyH.nil
      simp only [List.getElem_toArray, List.getElem_cons_succ, List.getElem_cons_zero]
      go_simp
      refine (hg).mono ?_
      rintro e1 w1 ⟨rfl, hb1⟩
      have hx1 := hx0.next hb1
      have hq1 := q_next hq0 hql0 hb1
      have hql1 := Nat.lt_of_lt_of_le hql0 hb1.size
      have hB1 := hB0.trans (hb1.mono hB0.size)
      go_wp2_with (fail)
      refine hK.out _ _ ⟨hx1.g0, hx1.g1, hx1.g2, hx1.m0, hx1.m1, hx1.m2, hq1.1, hq1.2⟩ (fun hHeld => ?_)
      clear hK K
      refine wpAnyH_take (i := 2) (v := ?_) rfl (by kernel_rfl) (by kernel_rfl) (by kernel_rfl) (fun _ _ _ h => h) (Or.inl ⟨by rfl, fun w hSw => ?_⟩) (by assumption) ?_
      rotate_left
      · (try dsimp only at hSw); go_simp; try with_reducible rfl
      simp only [Act.put, List.setIfInBounds_toArray, List.set_cons_zero, List.set_cons_succ, List.getElem_toArray, List.getElem_cons_succ, List.getElem_cons_zero]
      refine wpAnyH_take (i := 3) (v := ?_) rfl (by kernel_rfl) (by kernel_rfl) (by kernel_rfl) (fun _ _ _ h => h) (Or.inl ⟨by rfl, fun w hSw => ?_⟩) (by assumption) ?_
      rotate_left
      · (try dsimp only at hSw); go_simp; try with_reducible rfl
      simp only [Act.put, List.setIfInBounds_toArray, List.set_cons_zero, List.set_cons_succ, List.getElem_toArray, List.getElem_cons_succ, List.getElem_cons_zero]
      refine wpAnyH_take (i := 4) (v := ?_) rfl (by kernel_rfl) (by kernel_rfl) (by kernel_rfl) (fun _ _ _ h => h) (Or.inl ⟨by rfl, fun w hSw => ?_⟩) (by assumption) ?_
      rotate_left
      · (try dsimp only at hSw); go_simp; try with_reducible rfl
      simp only [Act.put, List.setIfInBounds_toArray, List.set_cons_zero, List.set_cons_succ, List.getElem_toArray, List.getElem_cons_succ, List.getElem_cons_zero]
      refine wpAnyH_take (i := 5) (v := ?_) rfl (by kernel_rfl) (by kernel_rfl) (by kernel_rfl) (fun _ _ _ h => h) (Or.inl ⟨by rfl, fun w hSw => ?_⟩) (by assumption) ?_
      rotate_left
      · (try dsimp only at hSw); go_simp; try with_reducible rfl
      simp only [Act.put, List.setIfInBounds_toArray, List.set_cons_zero, List.set_cons_succ, List.getElem_toArray, List.getElem_cons_succ, List.getElem_cons_zero]
      refine wpAnyH_take (i := 6) (v := ?_) rfl (by kernel_rfl) (by kernel_rfl) (by kernel_rfl) (fun _ _ _ h => h) (Or.inl ⟨by rfl, fun w hSw => ?_⟩) (by assumption) ?_
      rotate_left
      · (try dsimp only at hSw); go_simp; try with_reducible rfl
      simp only [Act.put, List.setIfInBounds_toArray, List.set_cons_zero, List.set_cons_succ, List.getElem_toArray, List.getElem_cons_succ, List.getElem_cons_zero]
      refine wpAnyH_take (i := 7) (v := ?_) rfl (by kernel_rfl) (by kernel_rfl) (by kernel_rfl) (fun _ _ _ h => h) (Or.inl ⟨by rfl, fun w hSw => ?_⟩) (by assumption) ?_
      rotate_left
      · (try dsimp only at hSw); go_simp; try with_reducible rfl
      simp only [Act.put, List.setIfInBounds_toArray, List.set_cons_zero, List.set_cons_succ, List.getElem_toArray, List.getElem_cons_succ, List.getElem_cons_zero]
      refine wpAnyH_take (i := 8) (v := ?_) rfl (by kernel_rfl) (by kernel_rfl) (by kernel_rfl) (fun _ _ _ h => h) (Or.inl ⟨by rfl, fun w hSw => ?_⟩) (by assumption) ?_
      rotate_left
      · (try dsimp only at hSw); go_simp; try with_reducible rfl
      simp only [Act.put, List.setIfInBounds_toArray, List.set_cons_zero, List.set_cons_succ, List.getElem_toArray, List.getElem_cons_succ, List.getElem_cons_zero]
      refine wpAnyH_take (i := 9) (v := ?_) rfl (by kernel_rfl) (by kernel_rfl) (by kernel_rfl) (fun _ _ _ h => h) (Or.inl ⟨by rfl, fun w hSw => ?_⟩) (by assumption) ?_
      rotate_left
      · (try dsimp only at hSw); go_simp; try with_reducible rfl
      simp only [Act.put, List.setIfInBounds_toArray, List.set_cons_zero, List.set_cons_succ, List.getElem_toArray, List.getElem_cons_succ, List.getElem_cons_zero]
      refine wpAnyH_take (i := 10) (v := ?_) rfl (by kernel_rfl) (by kernel_rfl) (by kernel_rfl) (fun _ _ _ h => h) (Or.inl ⟨by rfl, fun w hSw => ?_⟩) (by assumption) ?_
      rotate_left
      · (try dsimp only at hSw); go_simp; try with_reducible rfl
      simp only [Act.put, List.setIfInBounds_toArray, List.set_cons_zero, List.set_cons_succ, List.getElem_toArray, List.getElem_cons_succ, List.getElem_cons_zero]
      refine wpAnyH_take (i := 11) (v := ?_) rfl (by kernel_rfl) (by kernel_rfl) (by kernel_rfl) (fun _ _ _ h => h) (Or.inl ⟨by rfl, fun w hSw => ?_⟩) (by assumption) ?_
      rotate_left
      · (try dsimp only at hSw); go_simp; try with_reducible rfl
      simp only [Act.put, List.setIfInBounds_toArray, List.set_cons_zero, List.set_cons_succ, List.getElem_toArray, List.getElem_cons_succ, List.getElem_cons_zero]
      refine wpAnyH_take (i := 12) (v := ?_) rfl (by kernel_rfl) (by kernel_rfl) (by kernel_rfl) (fun _ _ _ h => h) (Or.inl ⟨by rfl, fun w hSw => ?_⟩) (by assumption) ?_
      rotate_left
      · (try dsimp only at hSw); go_simp; try with_reducible rfl
      simp only [Act.put, List.setIfInBounds_toArray, List.set_cons_zero, List.set_cons_succ, List.getElem_toArray, List.getElem_cons_succ, List.getElem_cons_zero]
      refine wpAnyH_take (i := 13) (v := ?_) rfl (by kernel_rfl) (by kernel_rfl) (by kernel_rfl) (fun _ _ _ h => h) (Or.inl ⟨by rfl, fun w hSw => ?_⟩) (by assumption) ?_
      rotate_left
      · (try dsimp only at hSw); go_simp; try with_reducible rfl
      simp only [Act.put, List.setIfInBounds_toArray, List.set_cons_zero, List.set_cons_succ, List.getElem_toArray, List.getElem_cons_succ, List.getElem_cons_zero]
      refine wpAnyH_take (i := 14) (v := undef) rfl (by kernel_rfl) (by kernel_rfl) (by kernel_rfl) (fun _ _ _ h => h) (Or.inr ⟨by rfl, rfl⟩) (by assumption) ?_
      simp only [Act.put, List.setIfInBounds_toArray, List.set_cons_zero, List.set_cons_succ, List.getElem_toArray, List.getElem_cons_succ, List.getElem_cons_zero]
      refine wpAnyH_take (i := 15) (v := undef) rfl (by kernel_rfl) (by kernel_rfl) (by kernel_rfl) (fun _ _ _ h => h) (Or.inr ⟨by rfl, rfl⟩) (by assumption) ?_
      simp only [Act.put, List.setIfInBounds_toArray, List.set_cons_zero, List.set_cons_succ, List.getElem_toArray, List.getElem_cons_succ, List.getElem_cons_zero]
      refine wpAnyH_take (i := 16) (v := undef) rfl (by kernel_rfl) (by kernel_rfl) (by kernel_rfl) (fun _ _ _ h => h) (Or.inr ⟨by rfl, rfl⟩) (by assumption) ?_
      simp only [Act.put, List.setIfInBounds_toArray, List.set_cons_zero, List.set_cons_succ, List.getElem_toArray, List.getElem_cons_succ, List.getElem_cons_zero]
      refine wpAnyH_take (i := 17) (v := undef) rfl (by kernel_rfl) (by kernel_rfl) (by kernel_rfl) (fun _ _ _ h => h) (Or.inr ⟨by rfl, rfl⟩) (by assumption) ?_
      simp only [Act.put, List.setIfInBounds_toArray, List.set_cons_zero, List.set_cons_succ, List.getElem_toArray, List.getElem_cons_succ, List.getElem_cons_zero]
      refine wpAnyH_take (i := 18) (v := undef) rfl (by kernel_rfl) (by kernel_rfl) (by kernel_rfl) (fun _ _ _ h => h) (Or.inr ⟨by rfl, rfl⟩) (by assumption) ?_
      simp only [Act.put, List.setIfInBounds_toArray, List.set_cons_zero, List.set_cons_succ, List.getElem_toArray, List.getElem_cons_succ, List.getElem_cons_zero]
      refine wpAnyH_take (i := 19) (v := undef) rfl (by kernel_rfl) (by kernel_rfl) (by kernel_rfl) (fun _ _ _ h => h) (Or.inr ⟨by rfl, rfl⟩) (by assumption) ?_
      simp only [Act.put, List.setIfInBounds_toArray, List.set_cons_zero, List.set_cons_succ, List.getElem_toArray, List.getElem_cons_succ, List.getElem_cons_zero]
      refine wpAnyH_take (i := 20) (v := undef) rfl (by kernel_rfl) (by kernel_rfl) (by kernel_rfl) (fun _ _ _ h => h) (Or.inr ⟨by rfl, rfl⟩) (by assumption) ?_
      simp only [Act.put, List.setIfInBounds_toArray, List.set_cons_zero, List.set_cons_succ, List.getElem_toArray, List.getElem_cons_succ, List.getElem_cons_zero]
      refine wpAnyH_take (i := 21) (v := ?_) rfl (by kernel_rfl) (by kernel_rfl) (by kernel_rfl) (fun _ _ _ h => h) (Or.inl ⟨by rfl, fun w hSw => ?_⟩) (by assumption) ?_
      rotate_left
      · (try dsimp only at hSw); go_simp; try with_reducible rfl
      simp only [Act.put, List.setIfInBounds_toArray, List.set_cons_zero, List.set_cons_succ, List.getElem_toArray, List.getElem_cons_succ, List.getElem_cons_zero]
      refine wpAnyH_take (i := 22) (v := ?_) rfl (by kernel_rfl) (by kernel_rfl) (by kernel_rfl) (fun _ _ _ h => h) (Or.inl ⟨by rfl, fun w hSw => ?_⟩) (by assumption) ?_
      rotate_left
      · (try dsimp only at hSw); go_simp; try with_reducible rfl
      simp only [Act.put, List.setIfInBounds_toArray, List.set_cons_zero, List.set_cons_succ, List.getElem_toArray, List.getElem_cons_succ, List.getElem_cons_zero]
      refine wpAnyH_take (i := 23) (v := undef) rfl (by kernel_rfl) (by kernel_rfl) (by kernel_rfl) (fun _ _ _ h => h) (Or.inr ⟨by rfl, rfl⟩) (by assumption) ?_
      simp only [Act.put, List.setIfInBounds_toArray, List.set_cons_zero, List.set_cons_succ, List.getElem_toArray, List.getElem_cons_succ, List.getElem_cons_zero]
      refine wpAnyH_take (i := 24) (v := undef) rfl (by kernel_rfl) (by kernel_rfl) (by kernel_rfl) (fun _ _ _ h => h) (Or.inr ⟨by rfl, rfl⟩) (by assumption) ?_
      simp only [Act.put, List.setIfInBounds_toArray, List.set_cons_zero, List.set_cons_succ, List.getElem_toArray, List.getElem_cons_succ, List.getElem_cons_zero]
      refine wpAnyH_take (i := 25) (v := undef) rfl (by kernel_rfl) (by kernel_rfl) (by kernel_rfl) (fun _ _ _ h => h) (Or.inr ⟨by rfl, rfl⟩) (by assumption) ?_
      simp only [Act.put, List.setIfInBounds_toArray, List.set_cons_zero, List.set_cons_succ, List.getElem_toArray, List.getElem_cons_succ, List.getElem_cons_zero]
      refine wpAnyH_take (i := 26) (v := undef) rfl (by kernel_rfl) (by kernel_rfl) (by kernel_rfl) (fun _ _ _ h => h) (Or.inr ⟨by rfl, rfl⟩) (by assumption) ?_
      simp only [Act.put, List.setIfInBounds_toArray, List.set_cons_zero, List.set_cons_succ, List.getElem_toArray, List.getElem_cons_succ, List.getElem_cons_zero]
      refine wpAnyH_take (i := 27) (v := ?_) rfl (by kernel_rfl) (by kernel_rfl) (by kernel_rfl) (fun _ _ _ h => h) (Or.inl ⟨by rfl, fun w hSw => ?_⟩) (by assumption) ?_
      rotate_left
      · (try dsimp only at hSw); go_simp; try with_reducible rfl
      simp only [Act.put, List.setIfInBounds_toArray, List.set_cons_zero, List.set_cons_succ, List.getElem_toArray, List.getElem_cons_succ, List.getElem_cons_zero]
      refine wpAnyH_done (by kernel_rfl) ?_ _
      go_wp2_with (fail)
      go_ret2
      exact ROpenPost.no hB1 HOK.out
    | true =>
      have hnt : (((n : Nat) : Int) == d + 1) = true := hnb
      have hne : (((n : Nat) : Int) != d + 1) = false := by rw [bne, hnt]; rfl
      clear hnb
      cases hmb : ((m : Int) == sect d r s) with
      | false =>
        have hmf : (((m : Nat) : Int) == sect d r s) = false := hmb
        have HOK : Hid (openOk R d r s sl st = false) := by unfold Hid openOk rackOk; rw [hn, hm, hnt, hmf, Bool.and_false, Bool.false_and, Bool.and_false]
        have hme : (((m : Nat) : Int) != sect d r s) = true := by rw [bne, hmf]; rfl
        clear hmb hnt hmf
        go_enter Tryz.func11, Tryz.ntmps11
        go_wp2_with (fail)
        generalize hW0 : (w.alloc (.cells #[.int .i64 d, .int .i64 r, .int .i64 s] 41)).alloc (.cells #[.int .i64 e, .int .i64 sl, .int .i64 st] 23) = W0 at *
        have hx0 := HXX.out.next (below_drewN (Below.refl _ W0) 1)
        have hq0 := q_next HQQ.out HQL.out (below_drewN (Below.refl _ W0) 1)
        have hql0 : q < W0.drew.heap.size := HQL.out
        have hB0 : Below w.heap.size w W0.drew := below_drewN HBB.out 1
        change Bx6 W0.drew _ _ _ _ _ _ _ at hx0
        change W0.drew.cell? _ = _ ∧ W0.drew.cell? _ = _ at hq0
        generalize hp : w.heap.size = p at hx0 ⊢
        clear hW0 HXX HQQ HBB HQL
        have hg := rright_yes d r s W0.drew hR
        have ed : IntKind.i64.wrap (d + 1) = d + 1 := IntWalk.i64_in _ (by have := hR.d1; have := hR.d2; omega)
        have HS : Hid (∀ w, Calls Tryz.prog 29 #[gv d r s] w fun e w' => e = .returned (.int .i64 (sect d r s)) ∧ Below w.heap.size w w') := fun w => by rw [show sect d r s = 5 + s * r by unfold sect; rw [if_pos hR]]; exact rsectors_yes d r s w hR
        clear hR
        refine wp_region_held_drew (S := fun w' => w'.cell? ⟨p, 0, none⟩ = some (.int .i64 d) ∧ w'.cell? ⟨p, 1, none⟩ = some (.int .i64 r) ∧ w'.cell? ⟨p, 2, none⟩ = some (.int .i64 s) ∧ w'.cell? ⟨p + 1, 0, none⟩ = some (.int .i64 e) ∧ w'.cell? ⟨p + 1, 1, none⟩ = some (.int .i64 sl) ∧ w'.cell? ⟨p + 1, 2, none⟩ = some (.int .i64 st) ∧ w'.cell? ⟨q, 0, none⟩ = some (.int .i64 n) ∧ w'.cell? ⟨q, 1, none⟩ = some (.int .i64 m)) (by kernel_rfl) ?_ (fun hHeld => ?_)
        · exact ⟨hx0.g0, hx0.g1, hx0.g2, hx0.m0, hx0.m1, hx0.m2, hq0.1, hq0.2⟩
        refine wpAnyH_take (i := 0) (v := ?_) rfl (by kernel_rfl) (by kernel_rfl) (by kernel_rfl) (fun _ _ _ h => h) (Or.inl ⟨by rfl, fun w hSw => ?_⟩) (by assumption) ?_
        rotate_left
        · (try dsimp only at hSw); go_simp; try with_reducible rfl
        simp only [Act.put, List.setIfInBounds_toArray, List.set_cons_zero, List.set_cons_succ, List.getElem_toArray, List.getElem_cons_zero]
        refine wpAnyH_ready (rs := [1]) (by kernel_rfl) (by simp) ?_
        refine AllReadyH.cons rfl (fun K hK => ?_) AllReadyH.nil
        simp only [List.getElem_toArray, List.getElem_cons_succ, List.getElem_cons_zero]
        go_simp
        refine (hg).mono ?_
        rintro e1 w1 ⟨rfl, hb1⟩
        have hx1 := hx0.next hb1
        have hq1 := q_next hq0 hql0 hb1
        have hql1 := Nat.lt_of_lt_of_le hql0 hb1.size
        have hB1 := hB0.trans (hb1.mono hB0.size)
        go_wp2_with (fail)
        refine hK.out _ _ ⟨hx1.g0, hx1.g1, hx1.g2, hx1.m0, hx1.m1, hx1.m2, hq1.1, hq1.2⟩ (fun hHeld => ?_)
        clear hK K
        refine wpAnyH_take (i := 2) (v := ?_) rfl (by kernel_rfl) (by kernel_rfl) (by kernel_rfl) (fun _ _ _ h => h) (Or.inl ⟨by rfl, fun w hSw => ?_⟩) (by assumption) ?_
        rotate_left
        · (try dsimp only at hSw); go_simp; try with_reducible rfl
        simp only [Act.put, List.setIfInBounds_toArray, List.set_cons_zero, List.set_cons_succ, List.getElem_toArray, List.getElem_cons_succ, List.getElem_cons_zero]
        refine wpAnyH_take (i := 3) (v := ?_) rfl (by kernel_rfl) (by kernel_rfl) (by kernel_rfl) (fun _ _ _ h => h) (Or.inl ⟨by rfl, fun w hSw => ?_⟩) (by assumption) ?_
        rotate_left
        · (try dsimp only at hSw); go_simp; try with_reducible rfl
        simp only [Act.put, List.setIfInBounds_toArray, List.set_cons_zero, List.set_cons_succ, List.getElem_toArray, List.getElem_cons_succ, List.getElem_cons_zero]
        refine wpAnyH_take (i := 4) (v := ?_) rfl (by kernel_rfl) (by kernel_rfl) (by kernel_rfl) (fun _ _ _ h => h) (Or.inl ⟨by rfl, fun w hSw => ?_⟩) (by assumption) ?_
        rotate_left
        · (try dsimp only at hSw); go_simp; try with_reducible rfl
        simp only [Act.put, List.setIfInBounds_toArray, List.set_cons_zero, List.set_cons_succ, List.getElem_toArray, List.getElem_cons_succ, List.getElem_cons_zero]
        refine wpAnyH_take (i := 5) (v := ?_) rfl (by kernel_rfl) (by kernel_rfl) (by kernel_rfl) (fun _ _ _ h => h) (Or.inl ⟨by rfl, fun w hSw => ?_⟩) (by assumption) ?_
        rotate_left
        · (try dsimp only at hSw); go_simp; try with_reducible rfl
        simp only [Act.put, List.setIfInBounds_toArray, List.set_cons_zero, List.set_cons_succ, List.getElem_toArray, List.getElem_cons_succ, List.getElem_cons_zero]
        refine wpAnyH_take (i := 6) (v := ?_) rfl (by kernel_rfl) (by kernel_rfl) (by kernel_rfl) (fun _ _ _ h => h) (Or.inl ⟨by rfl, fun w hSw => ?_⟩) (by assumption) ?_
        rotate_left
        · (try dsimp only at hSw); go_simp; try with_reducible rfl
        simp only [Act.put, List.setIfInBounds_toArray, List.set_cons_zero, List.set_cons_succ, List.getElem_toArray, List.getElem_cons_succ, List.getElem_cons_zero]
        refine wpAnyH_take (i := 7) (v := ?_) rfl (by kernel_rfl) (by kernel_rfl) (by kernel_rfl) (fun _ _ _ h => h) (Or.inl ⟨by rfl, fun w hSw => ?_⟩) (by assumption) ?_
        rotate_left
        · (try dsimp only at hSw); go_simp; try with_reducible rfl
        simp only [Act.put, List.setIfInBounds_toArray, List.set_cons_zero, List.set_cons_succ, List.getElem_toArray, List.getElem_cons_succ, List.getElem_cons_zero]
        refine wpAnyH_take (i := 8) (v := ?_) rfl (by kernel_rfl) (by kernel_rfl) (by kernel_rfl) (fun _ _ _ h => h) (Or.inl ⟨by rfl, fun w hSw => ?_⟩) (by assumption) ?_
        rotate_left
        · (try dsimp only at hSw); go_simp; try with_reducible rfl
        simp only [Act.put, List.setIfInBounds_toArray, List.set_cons_zero, List.set_cons_succ, List.getElem_toArray, List.getElem_cons_succ, List.getElem_cons_zero]
        refine wpAnyH_take (i := 9) (v := ?_) rfl (by kernel_rfl) (by kernel_rfl) (by kernel_rfl) (fun _ _ _ h => h) (Or.inl ⟨by rfl, fun w hSw => ?_⟩) (by assumption) ?_
        rotate_left
        · (try dsimp only at hSw); go_simp; try with_reducible rfl
        simp only [Act.put, List.setIfInBounds_toArray, List.set_cons_zero, List.set_cons_succ, List.getElem_toArray, List.getElem_cons_succ, List.getElem_cons_zero]
        refine wpAnyH_take (i := 10) (v := ?_) rfl (by kernel_rfl) (by kernel_rfl) (by kernel_rfl) (fun _ _ _ h => h) (Or.inl ⟨by rfl, fun w hSw => ?_⟩) (by assumption) ?_
        rotate_left
        · (try dsimp only at hSw); go_simp; try with_reducible rfl
        simp only [Act.put, List.setIfInBounds_toArray, List.set_cons_zero, List.set_cons_succ, List.getElem_toArray, List.getElem_cons_succ, List.getElem_cons_zero]
        refine wpAnyH_take (i := 11) (v := ?_) rfl (by kernel_rfl) (by kernel_rfl) (by kernel_rfl) (fun _ _ _ h => h) (Or.inl ⟨by rfl, fun w hSw => ?_⟩) (by assumption) ?_
        rotate_left
        · (try dsimp only at hSw); go_simp; try with_reducible rfl
        simp only [Act.put, List.setIfInBounds_toArray, List.set_cons_zero, List.set_cons_succ, List.getElem_toArray, List.getElem_cons_succ, List.getElem_cons_zero]
        refine wpAnyH_take (i := 12) (v := ?_) rfl (by kernel_rfl) (by kernel_rfl) (by kernel_rfl) (fun _ _ _ h => h) (Or.inl ⟨by rfl, fun w hSw => ?_⟩) (by assumption) ?_
        rotate_left
        · (try dsimp only at hSw); go_simp; try with_reducible rfl
        simp only [Act.put, List.setIfInBounds_toArray, List.set_cons_zero, List.set_cons_succ, List.getElem_toArray, List.getElem_cons_succ, List.getElem_cons_zero]
        refine wpAnyH_take (i := 13) (v := ?_) rfl (by kernel_rfl) (by kernel_rfl) (by kernel_rfl) (fun _ _ _ h => h) (Or.inl ⟨by rfl, fun w hSw => ?_⟩) (by assumption) ?_
        rotate_left
        · (try dsimp only at hSw); go_simp; try with_reducible rfl
        simp only [Act.put, List.setIfInBounds_toArray, List.set_cons_zero, List.set_cons_succ, List.getElem_toArray, List.getElem_cons_succ, List.getElem_cons_zero]
        refine wpAnyH_take (i := 14) (v := ?_) rfl (by kernel_rfl) (by kernel_rfl) (by kernel_rfl) (fun _ _ _ h => h) (Or.inl ⟨by rfl, fun w hSw => ?_⟩) (by assumption) ?_
        rotate_left
        · (try dsimp only at hSw); go_simp; try with_reducible rfl
        simp only [Act.put, List.setIfInBounds_toArray, List.set_cons_zero, List.set_cons_succ, List.getElem_toArray, List.getElem_cons_succ, List.getElem_cons_zero]
        refine wpAnyH_take (i := 15) (v := ?_) rfl (by kernel_rfl) (by kernel_rfl) (by kernel_rfl) (fun _ _ _ h => h) (Or.inl ⟨by rfl, fun w hSw => ?_⟩) (by assumption) ?_
        rotate_left
        · (try dsimp only at hSw); go_simp; try with_reducible rfl
        simp only [Act.put, List.setIfInBounds_toArray, List.set_cons_zero, List.set_cons_succ, List.getElem_toArray, List.getElem_cons_succ, List.getElem_cons_zero]
        refine wpAnyH_take (i := 16) (v := ?_) rfl (by kernel_rfl) (by kernel_rfl) (by kernel_rfl) (fun _ _ _ h => h) (Or.inl ⟨by rfl, fun w hSw => ?_⟩) (by assumption) ?_
        rotate_left
        · (try dsimp only at hSw); go_simp; try with_reducible rfl
        simp only [Act.put, List.setIfInBounds_toArray, List.set_cons_zero, List.set_cons_succ, List.getElem_toArray, List.getElem_cons_succ, List.getElem_cons_zero]
        refine wpAnyH_take (i := 17) (v := ?_) rfl (by kernel_rfl) (by kernel_rfl) (by kernel_rfl) (fun _ _ _ h => h) (Or.inl ⟨by rfl, fun w hSw => ?_⟩) (by assumption) ?_
        rotate_left
        · (try dsimp only at hSw); go_simp; try with_reducible rfl
        simp only [Act.put, List.setIfInBounds_toArray, List.set_cons_zero, List.set_cons_succ, List.getElem_toArray, List.getElem_cons_succ, List.getElem_cons_zero]
        refine wpAnyH_take (i := 18) (v := ?_) rfl (by kernel_rfl) (by kernel_rfl) (by kernel_rfl) (fun _ _ _ h => h) (Or.inl ⟨by rfl, fun w hSw => ?_⟩) (by assumption) ?_
        rotate_left
        · (try dsimp only at hSw); go_simp; try with_reducible rfl
        simp only [Act.put, List.setIfInBounds_toArray, List.set_cons_zero, List.set_cons_succ, List.getElem_toArray, List.getElem_cons_succ, List.getElem_cons_zero]
        refine wpAnyH_ready (rs := [19]) (by kernel_rfl) (by simp) ?_
        refine AllReadyH.cons rfl (fun K hK => ?_) AllReadyH.nil
        simp only [List.getElem_toArray, List.getElem_cons_succ, List.getElem_cons_zero]
        go_simp
        refine (HS.out _).mono ?_
        rintro e2 w2 ⟨rfl, hb2⟩
        have hx2 := hx1.next hb2
        have hq2 := q_next hq1 hql1 hb2
        have hql2 := Nat.lt_of_lt_of_le hql1 hb2.size
        have hB2 := hB1.trans (hb2.mono hB1.size)
        go_wp2_with (fail)
        refine hK.out _ _ ⟨hx2.g0, hx2.g1, hx2.g2, hx2.m0, hx2.m1, hx2.m2, hq2.1, hq2.2⟩ (fun hHeld => ?_)
        clear hK K
        refine wpAnyH_take (i := 20) (v := ?_) rfl (by kernel_rfl) (by kernel_rfl) (by kernel_rfl) (fun _ _ _ h => h) (Or.inl ⟨by rfl, fun w hSw => ?_⟩) (by assumption) ?_
        rotate_left
        · (try dsimp only at hSw); go_simp; try with_reducible rfl
        simp only [Act.put, List.setIfInBounds_toArray, List.set_cons_zero, List.set_cons_succ, List.getElem_toArray, List.getElem_cons_succ, List.getElem_cons_zero]
        refine wpAnyH_take (i := 21) (v := ?_) rfl (by kernel_rfl) (by kernel_rfl) (by kernel_rfl) (fun _ _ _ h => h) (Or.inl ⟨by rfl, fun w hSw => ?_⟩) (by assumption) ?_
        rotate_left
        · (try dsimp only at hSw); go_simp; try with_reducible rfl
        simp only [Act.put, List.setIfInBounds_toArray, List.set_cons_zero, List.set_cons_succ, List.getElem_toArray, List.getElem_cons_succ, List.getElem_cons_zero]
        refine wpAnyH_take (i := 22) (v := ?_) rfl (by kernel_rfl) (by kernel_rfl) (by kernel_rfl) (fun _ _ _ h => h) (Or.inl ⟨by rfl, fun w hSw => ?_⟩) (by assumption) ?_
        rotate_left
        · (try dsimp only at hSw); go_simp; try with_reducible rfl
        simp only [Act.put, List.setIfInBounds_toArray, List.set_cons_zero, List.set_cons_succ, List.getElem_toArray, List.getElem_cons_succ, List.getElem_cons_zero]
        refine wpAnyH_take (i := 23) (v := undef) rfl (by kernel_rfl) (by kernel_rfl) (by kernel_rfl) (fun _ _ _ h => h) (Or.inr ⟨by rfl, rfl⟩) (by assumption) ?_
        simp only [Act.put, List.setIfInBounds_toArray, List.set_cons_zero, List.set_cons_succ, List.getElem_toArray, List.getElem_cons_succ, List.getElem_cons_zero]
        refine wpAnyH_take (i := 24) (v := undef) rfl (by kernel_rfl) (by kernel_rfl) (by kernel_rfl) (fun _ _ _ h => h) (Or.inr ⟨by rfl, rfl⟩) (by assumption) ?_
        simp only [Act.put, List.setIfInBounds_toArray, List.set_cons_zero, List.set_cons_succ, List.getElem_toArray, List.getElem_cons_succ, List.getElem_cons_zero]
        refine wpAnyH_take (i := 25) (v := undef) rfl (by kernel_rfl) (by kernel_rfl) (by kernel_rfl) (fun _ _ _ h => h) (Or.inr ⟨by rfl, rfl⟩) (by assumption) ?_
        simp only [Act.put, List.setIfInBounds_toArray, List.set_cons_zero, List.set_cons_succ, List.getElem_toArray, List.getElem_cons_succ, List.getElem_cons_zero]
        refine wpAnyH_take (i := 26) (v := undef) rfl (by kernel_rfl) (by kernel_rfl) (by kernel_rfl) (fun _ _ _ h => h) (Or.inr ⟨by rfl, rfl⟩) (by assumption) ?_
        simp only [Act.put, List.setIfInBounds_toArray, List.set_cons_zero, List.set_cons_succ, List.getElem_toArray, List.getElem_cons_succ, List.getElem_cons_zero]
        refine wpAnyH_take (i := 27) (v := ?_) rfl (by kernel_rfl) (by kernel_rfl) (by kernel_rfl) (fun _ _ _ h => h) (Or.inl ⟨by rfl, fun w hSw => ?_⟩) (by assumption) ?_
        rotate_left
        · (try dsimp only at hSw); go_simp; try with_reducible rfl
        simp only [Act.put, List.setIfInBounds_toArray, List.set_cons_zero, List.set_cons_succ, List.getElem_toArray, List.getElem_cons_succ, List.getElem_cons_zero]
        refine wpAnyH_done (by kernel_rfl) ?_ _
        go_wp2_with (fail)
        go_ret2
        exact ROpenPost.no hB2 HOK.out
      | true =>
        have hmt : (((m : Nat) : Int) == sect d r s) = true := hmb
        have HOK : Hid (openOk R d r s sl st = memOk d sl st) := by unfold Hid openOk rackOk; rw [hn, hm, hnt, hmt, decide_eq_true hR]; rfl
        have HF : Hid (∀ w, Calls Tryz.prog 30 #[gv d r s, mb e sl st] w fun e w' => e = .returned (.bool (memOk d sl st)) ∧ Below w.heap.size w w') := fun w => rfits_any d r s e sl st w
        have hme : (((m : Nat) : Int) != sect d r s) = false := by rw [bne, hmt]; rfl
        clear hmb hnt hmt
        cases hmo : memOk d sl st with
        | false =>
          rw [hmo] at HOK HF
          clear hmo
          go_enter Tryz.func11, Tryz.ntmps11
          go_wp2_with (fail)
          generalize hW0 : (w.alloc (.cells #[.int .i64 d, .int .i64 r, .int .i64 s] 41)).alloc (.cells #[.int .i64 e, .int .i64 sl, .int .i64 st] 23) = W0 at *
          have hx0 := HXX.out.next (below_drewN (Below.refl _ W0) 1)
          have hq0 := q_next HQQ.out HQL.out (below_drewN (Below.refl _ W0) 1)
          have hql0 : q < W0.drew.heap.size := HQL.out
          have hB0 : Below w.heap.size w W0.drew := below_drewN HBB.out 1
          change Bx6 W0.drew _ _ _ _ _ _ _ at hx0
          change W0.drew.cell? _ = _ ∧ W0.drew.cell? _ = _ at hq0
          generalize hp : w.heap.size = p at hx0 ⊢
          clear hW0 HXX HQQ HBB HQL
          have hg := rright_yes d r s W0.drew hR
          have ed : IntKind.i64.wrap (d + 1) = d + 1 := IntWalk.i64_in _ (by have := hR.d1; have := hR.d2; omega)
          have HS : Hid (∀ w, Calls Tryz.prog 29 #[gv d r s] w fun e w' => e = .returned (.int .i64 (sect d r s)) ∧ Below w.heap.size w w') := fun w => by rw [show sect d r s = 5 + s * r by unfold sect; rw [if_pos hR]]; exact rsectors_yes d r s w hR
          clear hR
          refine wp_region_held_drew (S := fun w' => w'.cell? ⟨p, 0, none⟩ = some (.int .i64 d) ∧ w'.cell? ⟨p, 1, none⟩ = some (.int .i64 r) ∧ w'.cell? ⟨p, 2, none⟩ = some (.int .i64 s) ∧ w'.cell? ⟨p + 1, 0, none⟩ = some (.int .i64 e) ∧ w'.cell? ⟨p + 1, 1, none⟩ = some (.int .i64 sl) ∧ w'.cell? ⟨p + 1, 2, none⟩ = some (.int .i64 st) ∧ w'.cell? ⟨q, 0, none⟩ = some (.int .i64 n) ∧ w'.cell? ⟨q, 1, none⟩ = some (.int .i64 m)) (by kernel_rfl) ?_ (fun hHeld => ?_)
          · exact ⟨hx0.g0, hx0.g1, hx0.g2, hx0.m0, hx0.m1, hx0.m2, hq0.1, hq0.2⟩
          refine wpAnyH_take (i := 0) (v := ?_) rfl (by kernel_rfl) (by kernel_rfl) (by kernel_rfl) (fun _ _ _ h => h) (Or.inl ⟨by rfl, fun w hSw => ?_⟩) (by assumption) ?_
          rotate_left
          · (try dsimp only at hSw); go_simp; try with_reducible rfl
          simp only [Act.put, List.setIfInBounds_toArray, List.set_cons_zero, List.set_cons_succ, List.getElem_toArray, List.getElem_cons_zero]
          refine wpAnyH_ready (rs := [1]) (by kernel_rfl) (by simp) ?_
          refine AllReadyH.cons rfl (fun K hK => ?_) AllReadyH.nil
          simp only [List.getElem_toArray, List.getElem_cons_succ, List.getElem_cons_zero]
          go_simp
          refine (hg).mono ?_
          rintro e1 w1 ⟨rfl, hb1⟩
          have hx1 := hx0.next hb1
          have hq1 := q_next hq0 hql0 hb1
          have hql1 := Nat.lt_of_lt_of_le hql0 hb1.size
          have hB1 := hB0.trans (hb1.mono hB0.size)
          go_wp2_with (fail)
          refine hK.out _ _ ⟨hx1.g0, hx1.g1, hx1.g2, hx1.m0, hx1.m1, hx1.m2, hq1.1, hq1.2⟩ (fun hHeld => ?_)
          clear hK K
          refine wpAnyH_take (i := 2) (v := ?_) rfl (by kernel_rfl) (by kernel_rfl) (by kernel_rfl) (fun _ _ _ h => h) (Or.inl ⟨by rfl, fun w hSw => ?_⟩) (by assumption) ?_
          rotate_left
          · (try dsimp only at hSw); go_simp; try with_reducible rfl
          simp only [Act.put, List.setIfInBounds_toArray, List.set_cons_zero, List.set_cons_succ, List.getElem_toArray, List.getElem_cons_succ, List.getElem_cons_zero]
          refine wpAnyH_take (i := 3) (v := ?_) rfl (by kernel_rfl) (by kernel_rfl) (by kernel_rfl) (fun _ _ _ h => h) (Or.inl ⟨by rfl, fun w hSw => ?_⟩) (by assumption) ?_
          rotate_left
          · (try dsimp only at hSw); go_simp; try with_reducible rfl
          simp only [Act.put, List.setIfInBounds_toArray, List.set_cons_zero, List.set_cons_succ, List.getElem_toArray, List.getElem_cons_succ, List.getElem_cons_zero]
          refine wpAnyH_take (i := 4) (v := ?_) rfl (by kernel_rfl) (by kernel_rfl) (by kernel_rfl) (fun _ _ _ h => h) (Or.inl ⟨by rfl, fun w hSw => ?_⟩) (by assumption) ?_
          rotate_left
          · (try dsimp only at hSw); go_simp; try with_reducible rfl
          simp only [Act.put, List.setIfInBounds_toArray, List.set_cons_zero, List.set_cons_succ, List.getElem_toArray, List.getElem_cons_succ, List.getElem_cons_zero]
          refine wpAnyH_take (i := 5) (v := ?_) rfl (by kernel_rfl) (by kernel_rfl) (by kernel_rfl) (fun _ _ _ h => h) (Or.inl ⟨by rfl, fun w hSw => ?_⟩) (by assumption) ?_
          rotate_left
          · (try dsimp only at hSw); go_simp; try with_reducible rfl
          simp only [Act.put, List.setIfInBounds_toArray, List.set_cons_zero, List.set_cons_succ, List.getElem_toArray, List.getElem_cons_succ, List.getElem_cons_zero]
          refine wpAnyH_take (i := 6) (v := ?_) rfl (by kernel_rfl) (by kernel_rfl) (by kernel_rfl) (fun _ _ _ h => h) (Or.inl ⟨by rfl, fun w hSw => ?_⟩) (by assumption) ?_
          rotate_left
          · (try dsimp only at hSw); go_simp; try with_reducible rfl
          simp only [Act.put, List.setIfInBounds_toArray, List.set_cons_zero, List.set_cons_succ, List.getElem_toArray, List.getElem_cons_succ, List.getElem_cons_zero]
          refine wpAnyH_take (i := 7) (v := ?_) rfl (by kernel_rfl) (by kernel_rfl) (by kernel_rfl) (fun _ _ _ h => h) (Or.inl ⟨by rfl, fun w hSw => ?_⟩) (by assumption) ?_
          rotate_left
          · (try dsimp only at hSw); go_simp; try with_reducible rfl
          simp only [Act.put, List.setIfInBounds_toArray, List.set_cons_zero, List.set_cons_succ, List.getElem_toArray, List.getElem_cons_succ, List.getElem_cons_zero]
          refine wpAnyH_take (i := 8) (v := ?_) rfl (by kernel_rfl) (by kernel_rfl) (by kernel_rfl) (fun _ _ _ h => h) (Or.inl ⟨by rfl, fun w hSw => ?_⟩) (by assumption) ?_
          rotate_left
          · (try dsimp only at hSw); go_simp; try with_reducible rfl
          simp only [Act.put, List.setIfInBounds_toArray, List.set_cons_zero, List.set_cons_succ, List.getElem_toArray, List.getElem_cons_succ, List.getElem_cons_zero]
          refine wpAnyH_take (i := 9) (v := ?_) rfl (by kernel_rfl) (by kernel_rfl) (by kernel_rfl) (fun _ _ _ h => h) (Or.inl ⟨by rfl, fun w hSw => ?_⟩) (by assumption) ?_
          rotate_left
          · (try dsimp only at hSw); go_simp; try with_reducible rfl
          simp only [Act.put, List.setIfInBounds_toArray, List.set_cons_zero, List.set_cons_succ, List.getElem_toArray, List.getElem_cons_succ, List.getElem_cons_zero]
          refine wpAnyH_take (i := 10) (v := ?_) rfl (by kernel_rfl) (by kernel_rfl) (by kernel_rfl) (fun _ _ _ h => h) (Or.inl ⟨by rfl, fun w hSw => ?_⟩) (by assumption) ?_
          rotate_left
          · (try dsimp only at hSw); go_simp; try with_reducible rfl
          simp only [Act.put, List.setIfInBounds_toArray, List.set_cons_zero, List.set_cons_succ, List.getElem_toArray, List.getElem_cons_succ, List.getElem_cons_zero]
          refine wpAnyH_take (i := 11) (v := ?_) rfl (by kernel_rfl) (by kernel_rfl) (by kernel_rfl) (fun _ _ _ h => h) (Or.inl ⟨by rfl, fun w hSw => ?_⟩) (by assumption) ?_
          rotate_left
          · (try dsimp only at hSw); go_simp; try with_reducible rfl
          simp only [Act.put, List.setIfInBounds_toArray, List.set_cons_zero, List.set_cons_succ, List.getElem_toArray, List.getElem_cons_succ, List.getElem_cons_zero]
          refine wpAnyH_take (i := 12) (v := ?_) rfl (by kernel_rfl) (by kernel_rfl) (by kernel_rfl) (fun _ _ _ h => h) (Or.inl ⟨by rfl, fun w hSw => ?_⟩) (by assumption) ?_
          rotate_left
          · (try dsimp only at hSw); go_simp; try with_reducible rfl
          simp only [Act.put, List.setIfInBounds_toArray, List.set_cons_zero, List.set_cons_succ, List.getElem_toArray, List.getElem_cons_succ, List.getElem_cons_zero]
          refine wpAnyH_take (i := 13) (v := ?_) rfl (by kernel_rfl) (by kernel_rfl) (by kernel_rfl) (fun _ _ _ h => h) (Or.inl ⟨by rfl, fun w hSw => ?_⟩) (by assumption) ?_
          rotate_left
          · (try dsimp only at hSw); go_simp; try with_reducible rfl
          simp only [Act.put, List.setIfInBounds_toArray, List.set_cons_zero, List.set_cons_succ, List.getElem_toArray, List.getElem_cons_succ, List.getElem_cons_zero]
          refine wpAnyH_take (i := 14) (v := ?_) rfl (by kernel_rfl) (by kernel_rfl) (by kernel_rfl) (fun _ _ _ h => h) (Or.inl ⟨by rfl, fun w hSw => ?_⟩) (by assumption) ?_
          rotate_left
          · (try dsimp only at hSw); go_simp; try with_reducible rfl
          simp only [Act.put, List.setIfInBounds_toArray, List.set_cons_zero, List.set_cons_succ, List.getElem_toArray, List.getElem_cons_succ, List.getElem_cons_zero]
          refine wpAnyH_take (i := 15) (v := ?_) rfl (by kernel_rfl) (by kernel_rfl) (by kernel_rfl) (fun _ _ _ h => h) (Or.inl ⟨by rfl, fun w hSw => ?_⟩) (by assumption) ?_
          rotate_left
          · (try dsimp only at hSw); go_simp; try with_reducible rfl
          simp only [Act.put, List.setIfInBounds_toArray, List.set_cons_zero, List.set_cons_succ, List.getElem_toArray, List.getElem_cons_succ, List.getElem_cons_zero]
          refine wpAnyH_take (i := 16) (v := ?_) rfl (by kernel_rfl) (by kernel_rfl) (by kernel_rfl) (fun _ _ _ h => h) (Or.inl ⟨by rfl, fun w hSw => ?_⟩) (by assumption) ?_
          rotate_left
          · (try dsimp only at hSw); go_simp; try with_reducible rfl
          simp only [Act.put, List.setIfInBounds_toArray, List.set_cons_zero, List.set_cons_succ, List.getElem_toArray, List.getElem_cons_succ, List.getElem_cons_zero]
          refine wpAnyH_take (i := 17) (v := ?_) rfl (by kernel_rfl) (by kernel_rfl) (by kernel_rfl) (fun _ _ _ h => h) (Or.inl ⟨by rfl, fun w hSw => ?_⟩) (by assumption) ?_
          rotate_left
          · (try dsimp only at hSw); go_simp; try with_reducible rfl
          simp only [Act.put, List.setIfInBounds_toArray, List.set_cons_zero, List.set_cons_succ, List.getElem_toArray, List.getElem_cons_succ, List.getElem_cons_zero]
          refine wpAnyH_take (i := 18) (v := ?_) rfl (by kernel_rfl) (by kernel_rfl) (by kernel_rfl) (fun _ _ _ h => h) (Or.inl ⟨by rfl, fun w hSw => ?_⟩) (by assumption) ?_
          rotate_left
          · (try dsimp only at hSw); go_simp; try with_reducible rfl
          simp only [Act.put, List.setIfInBounds_toArray, List.set_cons_zero, List.set_cons_succ, List.getElem_toArray, List.getElem_cons_succ, List.getElem_cons_zero]
          refine wpAnyH_ready (rs := [19]) (by kernel_rfl) (by simp) ?_
          refine AllReadyH.cons rfl (fun K hK => ?_) AllReadyH.nil
          simp only [List.getElem_toArray, List.getElem_cons_succ, List.getElem_cons_zero]
          go_simp
          refine (HS.out _).mono ?_
          rintro e2 w2 ⟨rfl, hb2⟩
          have hx2 := hx1.next hb2
          have hq2 := q_next hq1 hql1 hb2
          have hql2 := Nat.lt_of_lt_of_le hql1 hb2.size
          have hB2 := hB1.trans (hb2.mono hB1.size)
          go_wp2_with (fail)
          refine hK.out _ _ ⟨hx2.g0, hx2.g1, hx2.g2, hx2.m0, hx2.m1, hx2.m2, hq2.1, hq2.2⟩ (fun hHeld => ?_)
          clear hK K
          refine wpAnyH_take (i := 20) (v := ?_) rfl (by kernel_rfl) (by kernel_rfl) (by kernel_rfl) (fun _ _ _ h => h) (Or.inl ⟨by rfl, fun w hSw => ?_⟩) (by assumption) ?_
          rotate_left
          · (try dsimp only at hSw); go_simp; try with_reducible rfl
          simp only [Act.put, List.setIfInBounds_toArray, List.set_cons_zero, List.set_cons_succ, List.getElem_toArray, List.getElem_cons_succ, List.getElem_cons_zero]
          refine wpAnyH_take (i := 21) (v := ?_) rfl (by kernel_rfl) (by kernel_rfl) (by kernel_rfl) (fun _ _ _ h => h) (Or.inl ⟨by rfl, fun w hSw => ?_⟩) (by assumption) ?_
          rotate_left
          · (try dsimp only at hSw); go_simp; try with_reducible rfl
          simp only [Act.put, List.setIfInBounds_toArray, List.set_cons_zero, List.set_cons_succ, List.getElem_toArray, List.getElem_cons_succ, List.getElem_cons_zero]
          refine wpAnyH_take (i := 22) (v := ?_) rfl (by kernel_rfl) (by kernel_rfl) (by kernel_rfl) (fun _ _ _ h => h) (Or.inl ⟨by rfl, fun w hSw => ?_⟩) (by assumption) ?_
          rotate_left
          · (try dsimp only at hSw); go_simp; try with_reducible rfl
          simp only [Act.put, List.setIfInBounds_toArray, List.set_cons_zero, List.set_cons_succ, List.getElem_toArray, List.getElem_cons_succ, List.getElem_cons_zero]
          refine wpAnyH_take (i := 23) (v := ?_) rfl (by kernel_rfl) (by kernel_rfl) (by kernel_rfl) (fun _ _ _ h => h) (Or.inl ⟨by rfl, fun w hSw => ?_⟩) (by assumption) ?_
          rotate_left
          · (try dsimp only at hSw); go_simp; try with_reducible rfl
          simp only [Act.put, List.setIfInBounds_toArray, List.set_cons_zero, List.set_cons_succ, List.getElem_toArray, List.getElem_cons_succ, List.getElem_cons_zero]
          refine wpAnyH_take (i := 24) (v := ?_) rfl (by kernel_rfl) (by kernel_rfl) (by kernel_rfl) (fun _ _ _ h => h) (Or.inl ⟨by rfl, fun w hSw => ?_⟩) (by assumption) ?_
          rotate_left
          · (try dsimp only at hSw); go_simp; try with_reducible rfl
          simp only [Act.put, List.setIfInBounds_toArray, List.set_cons_zero, List.set_cons_succ, List.getElem_toArray, List.getElem_cons_succ, List.getElem_cons_zero]
          refine wpAnyH_ready (rs := [25]) (by kernel_rfl) (by simp) ?_
          refine AllReadyH.cons rfl (fun K hK => ?_) AllReadyH.nil
          simp only [List.getElem_toArray, List.getElem_cons_succ, List.getElem_cons_zero]
          go_simp
          refine (HF.out _).mono ?_
          rintro e3 w3 ⟨rfl, hb3⟩
          have hx3 := hx2.next hb3
          have hq3 := q_next hq2 hql2 hb3
          have hql3 := Nat.lt_of_lt_of_le hql2 hb3.size
          have hB3 := hB2.trans (hb3.mono hB2.size)
          go_wp2_with (fail)
          refine hK.out _ _ ⟨hx3.g0, hx3.g1, hx3.g2, hx3.m0, hx3.m1, hx3.m2, hq3.1, hq3.2⟩ (fun hHeld => ?_)
          clear hK K
          refine wpAnyH_take (i := 26) (v := ?_) rfl (by kernel_rfl) (by kernel_rfl) (by kernel_rfl) (fun _ _ _ h => h) (Or.inl ⟨by rfl, fun w hSw => ?_⟩) (by assumption) ?_
          rotate_left
          · (try dsimp only at hSw); go_simp; try with_reducible rfl
          simp only [Act.put, List.setIfInBounds_toArray, List.set_cons_zero, List.set_cons_succ, List.getElem_toArray, List.getElem_cons_succ, List.getElem_cons_zero]
          refine wpAnyH_take (i := 27) (v := ?_) rfl (by kernel_rfl) (by kernel_rfl) (by kernel_rfl) (fun _ _ _ h => h) (Or.inl ⟨by rfl, fun w hSw => ?_⟩) (by assumption) ?_
          rotate_left
          · (try dsimp only at hSw); go_simp; try with_reducible rfl
          simp only [Act.put, List.setIfInBounds_toArray, List.set_cons_zero, List.set_cons_succ, List.getElem_toArray, List.getElem_cons_succ, List.getElem_cons_zero]
          refine wpAnyH_done (by kernel_rfl) ?_ _
          go_wp2_with (fail)
          go_ret2
          exact ROpenPost.no hB3 HOK.out
        | true =>
          rw [hmo] at HOK HF
          clear hmo
          go_enter Tryz.func11, Tryz.ntmps11
          go_wp2_with (fail)
          generalize hW0 : (w.alloc (.cells #[.int .i64 d, .int .i64 r, .int .i64 s] 41)).alloc (.cells #[.int .i64 e, .int .i64 sl, .int .i64 st] 23) = W0 at *
          have hx0 := HXX.out.next (below_drewN (Below.refl _ W0) 1)
          have hq0 := q_next HQQ.out HQL.out (below_drewN (Below.refl _ W0) 1)
          have hql0 : q < W0.drew.heap.size := HQL.out
          have hB0 : Below w.heap.size w W0.drew := below_drewN HBB.out 1
          change Bx6 W0.drew _ _ _ _ _ _ _ at hx0
          change W0.drew.cell? _ = _ ∧ W0.drew.cell? _ = _ at hq0
          generalize hp : w.heap.size = p at hx0 ⊢
          clear hW0 HXX HQQ HBB HQL
          have hg := rright_yes d r s W0.drew hR
          have ed : IntKind.i64.wrap (d + 1) = d + 1 := IntWalk.i64_in _ (by have := hR.d1; have := hR.d2; omega)
          have HS : Hid (∀ w, Calls Tryz.prog 29 #[gv d r s] w fun e w' => e = .returned (.int .i64 (sect d r s)) ∧ Below w.heap.size w w') := fun w => by rw [show sect d r s = 5 + s * r by unfold sect; rw [if_pos hR]]; exact rsectors_yes d r s w hR
          clear hR
          refine wp_region_held_drew (S := fun w' => w'.cell? ⟨p, 0, none⟩ = some (.int .i64 d) ∧ w'.cell? ⟨p, 1, none⟩ = some (.int .i64 r) ∧ w'.cell? ⟨p, 2, none⟩ = some (.int .i64 s) ∧ w'.cell? ⟨p + 1, 0, none⟩ = some (.int .i64 e) ∧ w'.cell? ⟨p + 1, 1, none⟩ = some (.int .i64 sl) ∧ w'.cell? ⟨p + 1, 2, none⟩ = some (.int .i64 st) ∧ w'.cell? ⟨q, 0, none⟩ = some (.int .i64 n) ∧ w'.cell? ⟨q, 1, none⟩ = some (.int .i64 m)) (by kernel_rfl) ?_ (fun hHeld => ?_)
          · exact ⟨hx0.g0, hx0.g1, hx0.g2, hx0.m0, hx0.m1, hx0.m2, hq0.1, hq0.2⟩
          refine wpAnyH_take (i := 0) (v := ?_) rfl (by kernel_rfl) (by kernel_rfl) (by kernel_rfl) (fun _ _ _ h => h) (Or.inl ⟨by rfl, fun w hSw => ?_⟩) (by assumption) ?_
          rotate_left
          · (try dsimp only at hSw); go_simp; try with_reducible rfl
          simp only [Act.put, List.setIfInBounds_toArray, List.set_cons_zero, List.set_cons_succ, List.getElem_toArray, List.getElem_cons_zero]
          refine wpAnyH_ready (rs := [1]) (by kernel_rfl) (by simp) ?_
          refine AllReadyH.cons rfl (fun K hK => ?_) AllReadyH.nil
          simp only [List.getElem_toArray, List.getElem_cons_succ, List.getElem_cons_zero]
          go_simp
          refine (hg).mono ?_
          rintro e1 w1 ⟨rfl, hb1⟩
          have hx1 := hx0.next hb1
          have hq1 := q_next hq0 hql0 hb1
          have hql1 := Nat.lt_of_lt_of_le hql0 hb1.size
          have hB1 := hB0.trans (hb1.mono hB0.size)
          go_wp2_with (fail)
          refine hK.out _ _ ⟨hx1.g0, hx1.g1, hx1.g2, hx1.m0, hx1.m1, hx1.m2, hq1.1, hq1.2⟩ (fun hHeld => ?_)
          clear hK K
          refine wpAnyH_take (i := 2) (v := ?_) rfl (by kernel_rfl) (by kernel_rfl) (by kernel_rfl) (fun _ _ _ h => h) (Or.inl ⟨by rfl, fun w hSw => ?_⟩) (by assumption) ?_
          rotate_left
          · (try dsimp only at hSw); go_simp; try with_reducible rfl
          simp only [Act.put, List.setIfInBounds_toArray, List.set_cons_zero, List.set_cons_succ, List.getElem_toArray, List.getElem_cons_succ, List.getElem_cons_zero]
          refine wpAnyH_take (i := 3) (v := ?_) rfl (by kernel_rfl) (by kernel_rfl) (by kernel_rfl) (fun _ _ _ h => h) (Or.inl ⟨by rfl, fun w hSw => ?_⟩) (by assumption) ?_
          rotate_left
          · (try dsimp only at hSw); go_simp; try with_reducible rfl
          simp only [Act.put, List.setIfInBounds_toArray, List.set_cons_zero, List.set_cons_succ, List.getElem_toArray, List.getElem_cons_succ, List.getElem_cons_zero]
          refine wpAnyH_take (i := 4) (v := ?_) rfl (by kernel_rfl) (by kernel_rfl) (by kernel_rfl) (fun _ _ _ h => h) (Or.inl ⟨by rfl, fun w hSw => ?_⟩) (by assumption) ?_
          rotate_left
          · (try dsimp only at hSw); go_simp; try with_reducible rfl
          simp only [Act.put, List.setIfInBounds_toArray, List.set_cons_zero, List.set_cons_succ, List.getElem_toArray, List.getElem_cons_succ, List.getElem_cons_zero]
          refine wpAnyH_take (i := 5) (v := ?_) rfl (by kernel_rfl) (by kernel_rfl) (by kernel_rfl) (fun _ _ _ h => h) (Or.inl ⟨by rfl, fun w hSw => ?_⟩) (by assumption) ?_
          rotate_left
          · (try dsimp only at hSw); go_simp; try with_reducible rfl
          simp only [Act.put, List.setIfInBounds_toArray, List.set_cons_zero, List.set_cons_succ, List.getElem_toArray, List.getElem_cons_succ, List.getElem_cons_zero]
          refine wpAnyH_take (i := 6) (v := ?_) rfl (by kernel_rfl) (by kernel_rfl) (by kernel_rfl) (fun _ _ _ h => h) (Or.inl ⟨by rfl, fun w hSw => ?_⟩) (by assumption) ?_
          rotate_left
          · (try dsimp only at hSw); go_simp; try with_reducible rfl
          simp only [Act.put, List.setIfInBounds_toArray, List.set_cons_zero, List.set_cons_succ, List.getElem_toArray, List.getElem_cons_succ, List.getElem_cons_zero]
          refine wpAnyH_take (i := 7) (v := ?_) rfl (by kernel_rfl) (by kernel_rfl) (by kernel_rfl) (fun _ _ _ h => h) (Or.inl ⟨by rfl, fun w hSw => ?_⟩) (by assumption) ?_
          rotate_left
          · (try dsimp only at hSw); go_simp; try with_reducible rfl
          simp only [Act.put, List.setIfInBounds_toArray, List.set_cons_zero, List.set_cons_succ, List.getElem_toArray, List.getElem_cons_succ, List.getElem_cons_zero]
          refine wpAnyH_take (i := 8) (v := ?_) rfl (by kernel_rfl) (by kernel_rfl) (by kernel_rfl) (fun _ _ _ h => h) (Or.inl ⟨by rfl, fun w hSw => ?_⟩) (by assumption) ?_
          rotate_left
          · (try dsimp only at hSw); go_simp; try with_reducible rfl
          simp only [Act.put, List.setIfInBounds_toArray, List.set_cons_zero, List.set_cons_succ, List.getElem_toArray, List.getElem_cons_succ, List.getElem_cons_zero]
          refine wpAnyH_take (i := 9) (v := ?_) rfl (by kernel_rfl) (by kernel_rfl) (by kernel_rfl) (fun _ _ _ h => h) (Or.inl ⟨by rfl, fun w hSw => ?_⟩) (by assumption) ?_
          rotate_left
          · (try dsimp only at hSw); go_simp; try with_reducible rfl
          simp only [Act.put, List.setIfInBounds_toArray, List.set_cons_zero, List.set_cons_succ, List.getElem_toArray, List.getElem_cons_succ, List.getElem_cons_zero]
          refine wpAnyH_take (i := 10) (v := ?_) rfl (by kernel_rfl) (by kernel_rfl) (by kernel_rfl) (fun _ _ _ h => h) (Or.inl ⟨by rfl, fun w hSw => ?_⟩) (by assumption) ?_
          rotate_left
          · (try dsimp only at hSw); go_simp; try with_reducible rfl
          simp only [Act.put, List.setIfInBounds_toArray, List.set_cons_zero, List.set_cons_succ, List.getElem_toArray, List.getElem_cons_succ, List.getElem_cons_zero]
          refine wpAnyH_take (i := 11) (v := ?_) rfl (by kernel_rfl) (by kernel_rfl) (by kernel_rfl) (fun _ _ _ h => h) (Or.inl ⟨by rfl, fun w hSw => ?_⟩) (by assumption) ?_
          rotate_left
          · (try dsimp only at hSw); go_simp; try with_reducible rfl
          simp only [Act.put, List.setIfInBounds_toArray, List.set_cons_zero, List.set_cons_succ, List.getElem_toArray, List.getElem_cons_succ, List.getElem_cons_zero]
          refine wpAnyH_take (i := 12) (v := ?_) rfl (by kernel_rfl) (by kernel_rfl) (by kernel_rfl) (fun _ _ _ h => h) (Or.inl ⟨by rfl, fun w hSw => ?_⟩) (by assumption) ?_
          rotate_left
          · (try dsimp only at hSw); go_simp; try with_reducible rfl
          simp only [Act.put, List.setIfInBounds_toArray, List.set_cons_zero, List.set_cons_succ, List.getElem_toArray, List.getElem_cons_succ, List.getElem_cons_zero]
          refine wpAnyH_take (i := 13) (v := ?_) rfl (by kernel_rfl) (by kernel_rfl) (by kernel_rfl) (fun _ _ _ h => h) (Or.inl ⟨by rfl, fun w hSw => ?_⟩) (by assumption) ?_
          rotate_left
          · (try dsimp only at hSw); go_simp; try with_reducible rfl
          simp only [Act.put, List.setIfInBounds_toArray, List.set_cons_zero, List.set_cons_succ, List.getElem_toArray, List.getElem_cons_succ, List.getElem_cons_zero]
          refine wpAnyH_take (i := 14) (v := ?_) rfl (by kernel_rfl) (by kernel_rfl) (by kernel_rfl) (fun _ _ _ h => h) (Or.inl ⟨by rfl, fun w hSw => ?_⟩) (by assumption) ?_
          rotate_left
          · (try dsimp only at hSw); go_simp; try with_reducible rfl
          simp only [Act.put, List.setIfInBounds_toArray, List.set_cons_zero, List.set_cons_succ, List.getElem_toArray, List.getElem_cons_succ, List.getElem_cons_zero]
          refine wpAnyH_take (i := 15) (v := ?_) rfl (by kernel_rfl) (by kernel_rfl) (by kernel_rfl) (fun _ _ _ h => h) (Or.inl ⟨by rfl, fun w hSw => ?_⟩) (by assumption) ?_
          rotate_left
          · (try dsimp only at hSw); go_simp; try with_reducible rfl
          simp only [Act.put, List.setIfInBounds_toArray, List.set_cons_zero, List.set_cons_succ, List.getElem_toArray, List.getElem_cons_succ, List.getElem_cons_zero]
          refine wpAnyH_take (i := 16) (v := ?_) rfl (by kernel_rfl) (by kernel_rfl) (by kernel_rfl) (fun _ _ _ h => h) (Or.inl ⟨by rfl, fun w hSw => ?_⟩) (by assumption) ?_
          rotate_left
          · (try dsimp only at hSw); go_simp; try with_reducible rfl
          simp only [Act.put, List.setIfInBounds_toArray, List.set_cons_zero, List.set_cons_succ, List.getElem_toArray, List.getElem_cons_succ, List.getElem_cons_zero]
          refine wpAnyH_take (i := 17) (v := ?_) rfl (by kernel_rfl) (by kernel_rfl) (by kernel_rfl) (fun _ _ _ h => h) (Or.inl ⟨by rfl, fun w hSw => ?_⟩) (by assumption) ?_
          rotate_left
          · (try dsimp only at hSw); go_simp; try with_reducible rfl
          simp only [Act.put, List.setIfInBounds_toArray, List.set_cons_zero, List.set_cons_succ, List.getElem_toArray, List.getElem_cons_succ, List.getElem_cons_zero]
          refine wpAnyH_take (i := 18) (v := ?_) rfl (by kernel_rfl) (by kernel_rfl) (by kernel_rfl) (fun _ _ _ h => h) (Or.inl ⟨by rfl, fun w hSw => ?_⟩) (by assumption) ?_
          rotate_left
          · (try dsimp only at hSw); go_simp; try with_reducible rfl
          simp only [Act.put, List.setIfInBounds_toArray, List.set_cons_zero, List.set_cons_succ, List.getElem_toArray, List.getElem_cons_succ, List.getElem_cons_zero]
          refine wpAnyH_ready (rs := [19]) (by kernel_rfl) (by simp) ?_
          refine AllReadyH.cons rfl (fun K hK => ?_) AllReadyH.nil
          simp only [List.getElem_toArray, List.getElem_cons_succ, List.getElem_cons_zero]
          go_simp
          refine (HS.out _).mono ?_
          rintro e2 w2 ⟨rfl, hb2⟩
          have hx2 := hx1.next hb2
          have hq2 := q_next hq1 hql1 hb2
          have hql2 := Nat.lt_of_lt_of_le hql1 hb2.size
          have hB2 := hB1.trans (hb2.mono hB1.size)
          go_wp2_with (fail)
          refine hK.out _ _ ⟨hx2.g0, hx2.g1, hx2.g2, hx2.m0, hx2.m1, hx2.m2, hq2.1, hq2.2⟩ (fun hHeld => ?_)
          clear hK K
          refine wpAnyH_take (i := 20) (v := ?_) rfl (by kernel_rfl) (by kernel_rfl) (by kernel_rfl) (fun _ _ _ h => h) (Or.inl ⟨by rfl, fun w hSw => ?_⟩) (by assumption) ?_
          rotate_left
          · (try dsimp only at hSw); go_simp; try with_reducible rfl
          simp only [Act.put, List.setIfInBounds_toArray, List.set_cons_zero, List.set_cons_succ, List.getElem_toArray, List.getElem_cons_succ, List.getElem_cons_zero]
          refine wpAnyH_take (i := 21) (v := ?_) rfl (by kernel_rfl) (by kernel_rfl) (by kernel_rfl) (fun _ _ _ h => h) (Or.inl ⟨by rfl, fun w hSw => ?_⟩) (by assumption) ?_
          rotate_left
          · (try dsimp only at hSw); go_simp; try with_reducible rfl
          simp only [Act.put, List.setIfInBounds_toArray, List.set_cons_zero, List.set_cons_succ, List.getElem_toArray, List.getElem_cons_succ, List.getElem_cons_zero]
          refine wpAnyH_take (i := 22) (v := ?_) rfl (by kernel_rfl) (by kernel_rfl) (by kernel_rfl) (fun _ _ _ h => h) (Or.inl ⟨by rfl, fun w hSw => ?_⟩) (by assumption) ?_
          rotate_left
          · (try dsimp only at hSw); go_simp; try with_reducible rfl
          simp only [Act.put, List.setIfInBounds_toArray, List.set_cons_zero, List.set_cons_succ, List.getElem_toArray, List.getElem_cons_succ, List.getElem_cons_zero]
          refine wpAnyH_take (i := 23) (v := ?_) rfl (by kernel_rfl) (by kernel_rfl) (by kernel_rfl) (fun _ _ _ h => h) (Or.inl ⟨by rfl, fun w hSw => ?_⟩) (by assumption) ?_
          rotate_left
          · (try dsimp only at hSw); go_simp; try with_reducible rfl
          simp only [Act.put, List.setIfInBounds_toArray, List.set_cons_zero, List.set_cons_succ, List.getElem_toArray, List.getElem_cons_succ, List.getElem_cons_zero]
          refine wpAnyH_take (i := 24) (v := ?_) rfl (by kernel_rfl) (by kernel_rfl) (by kernel_rfl) (fun _ _ _ h => h) (Or.inl ⟨by rfl, fun w hSw => ?_⟩) (by assumption) ?_
          rotate_left
          · (try dsimp only at hSw); go_simp; try with_reducible rfl
          simp only [Act.put, List.setIfInBounds_toArray, List.set_cons_zero, List.set_cons_succ, List.getElem_toArray, List.getElem_cons_succ, List.getElem_cons_zero]
          refine wpAnyH_ready (rs := [25]) (by kernel_rfl) (by simp) ?_
          refine AllReadyH.cons rfl (fun K hK => ?_) AllReadyH.nil
          simp only [List.getElem_toArray, List.getElem_cons_succ, List.getElem_cons_zero]
          go_simp
          refine (HF.out _).mono ?_
          rintro e3 w3 ⟨rfl, hb3⟩
          have hx3 := hx2.next hb3
          have hq3 := q_next hq2 hql2 hb3
          have hql3 := Nat.lt_of_lt_of_le hql2 hb3.size
          have hB3 := hB2.trans (hb3.mono hB2.size)
          go_wp2_with (fail)
          refine hK.out _ _ ⟨hx3.g0, hx3.g1, hx3.g2, hx3.m0, hx3.m1, hx3.m2, hq3.1, hq3.2⟩ (fun hHeld => ?_)
          clear hK K
          refine wpAnyH_take (i := 26) (v := ?_) rfl (by kernel_rfl) (by kernel_rfl) (by kernel_rfl) (fun _ _ _ h => h) (Or.inl ⟨by rfl, fun w hSw => ?_⟩) (by assumption) ?_
          rotate_left
          · (try dsimp only at hSw); go_simp; try with_reducible rfl
          simp only [Act.put, List.setIfInBounds_toArray, List.set_cons_zero, List.set_cons_succ, List.getElem_toArray, List.getElem_cons_succ, List.getElem_cons_zero]
          refine wpAnyH_take (i := 27) (v := ?_) rfl (by kernel_rfl) (by kernel_rfl) (by kernel_rfl) (fun _ _ _ h => h) (Or.inl ⟨by rfl, fun w hSw => ?_⟩) (by assumption) ?_
          rotate_left
          · (try dsimp only at hSw); go_simp; try with_reducible rfl
          simp only [Act.put, List.setIfInBounds_toArray, List.set_cons_zero, List.set_cons_succ, List.getElem_toArray, List.getElem_cons_succ, List.getElem_cons_zero]
          refine wpAnyH_done (by kernel_rfl) ?_ _
          have z0 := hx3.g0
          have z1 := hx3.g1
          have z2 := hx3.g2
          have z3 := hx3.m0
          have z4 := hx3.m1
          have z5 := hx3.m2
          go_wp2_with (fail)
          go_ret2
          exact ROpenPost.yes (hB3.alloc hB3.size _) HOK.out hB3.size ⟨heap_alloc_new w3 _⟩
  · have h0 := trivial
    have HOK : Hid (openOk R d r s sl st = false) := by unfold Hid openOk; rw [decide_eq_false hR, Bool.false_and]
    go_enter Tryz.func11, Tryz.ntmps11
    go_wp2_with (fail)
    generalize hW0 : (w.alloc (.cells #[.int .i64 d, .int .i64 r, .int .i64 s] 41)).alloc (.cells #[.int .i64 e, .int .i64 sl, .int .i64 st] 23) = W0 at *
    have hx0 := HXX.out.next (below_drewN (Below.refl _ W0) 1)
    have hq0 := q_next HQQ.out HQL.out (below_drewN (Below.refl _ W0) 1)
    have hql0 : q < W0.drew.heap.size := HQL.out
    have hB0 : Below w.heap.size w W0.drew := below_drewN HBB.out 1
    change Bx6 W0.drew _ _ _ _ _ _ _ at hx0
    change W0.drew.cell? _ = _ ∧ W0.drew.cell? _ = _ at hq0
    generalize hp : w.heap.size = p at hx0 ⊢
    clear hW0 HXX HQQ HBB HQL
    have hg := rright_no d r s W0.drew hR
    clear hR
    refine wp_region_held_drew (S := fun w' => w'.cell? ⟨p, 0, none⟩ = some (.int .i64 d) ∧ w'.cell? ⟨p, 1, none⟩ = some (.int .i64 r) ∧ w'.cell? ⟨p, 2, none⟩ = some (.int .i64 s) ∧ w'.cell? ⟨p + 1, 0, none⟩ = some (.int .i64 e) ∧ w'.cell? ⟨p + 1, 1, none⟩ = some (.int .i64 sl) ∧ w'.cell? ⟨p + 1, 2, none⟩ = some (.int .i64 st) ∧ w'.cell? ⟨q, 0, none⟩ = some (.int .i64 n) ∧ w'.cell? ⟨q, 1, none⟩ = some (.int .i64 m)) (by kernel_rfl) ?_ (fun hHeld => ?_)
    · exact ⟨hx0.g0, hx0.g1, hx0.g2, hx0.m0, hx0.m1, hx0.m2, hq0.1, hq0.2⟩
    refine wpAnyH_take (i := 0) (v := ?_) rfl (by kernel_rfl) (by kernel_rfl) (by kernel_rfl) (fun _ _ _ h => h) (Or.inl ⟨by rfl, fun w hSw => ?_⟩) (by assumption) ?_
    rotate_left
    · (try dsimp only at hSw); go_simp; try with_reducible rfl
    simp only [Act.put, List.setIfInBounds_toArray, List.set_cons_zero, List.set_cons_succ, List.getElem_toArray, List.getElem_cons_zero]
    refine wpAnyH_ready (rs := [1]) (by kernel_rfl) (by simp) ?_
    refine AllReadyH.cons rfl (fun K hK => ?_) AllReadyH.nil
    simp only [List.getElem_toArray, List.getElem_cons_succ, List.getElem_cons_zero]
    go_simp
    refine (hg).mono ?_
    rintro e1 w1 ⟨rfl, hb1⟩
    have hx1 := hx0.next hb1
    have hq1 := q_next hq0 hql0 hb1
    have hql1 := Nat.lt_of_lt_of_le hql0 hb1.size
    have hB1 := hB0.trans (hb1.mono hB0.size)
    go_wp2_with (fail)
    refine hK.out _ _ ⟨hx1.g0, hx1.g1, hx1.g2, hx1.m0, hx1.m1, hx1.m2, hq1.1, hq1.2⟩ (fun hHeld => ?_)
    clear hK K
    refine wpAnyH_take (i := 2) (v := ?_) rfl (by kernel_rfl) (by kernel_rfl) (by kernel_rfl) (fun _ _ _ h => h) (Or.inl ⟨by rfl, fun w hSw => ?_⟩) (by assumption) ?_
    rotate_left
    · (try dsimp only at hSw); go_simp; try with_reducible rfl
    simp only [Act.put, List.setIfInBounds_toArray, List.set_cons_zero, List.set_cons_succ, List.getElem_toArray, List.getElem_cons_succ, List.getElem_cons_zero]
    refine wpAnyH_take (i := 3) (v := ?_) rfl (by kernel_rfl) (by kernel_rfl) (by kernel_rfl) (fun _ _ _ h => h) (Or.inl ⟨by rfl, fun w hSw => ?_⟩) (by assumption) ?_
    rotate_left
    · (try dsimp only at hSw); go_simp; try with_reducible rfl
    simp only [Act.put, List.setIfInBounds_toArray, List.set_cons_zero, List.set_cons_succ, List.getElem_toArray, List.getElem_cons_succ, List.getElem_cons_zero]
    refine wpAnyH_take (i := 4) (v := undef) rfl (by kernel_rfl) (by kernel_rfl) (by kernel_rfl) (fun _ _ _ h => h) (Or.inr ⟨by rfl, rfl⟩) (by assumption) ?_
    simp only [Act.put, List.setIfInBounds_toArray, List.set_cons_zero, List.set_cons_succ, List.getElem_toArray, List.getElem_cons_succ, List.getElem_cons_zero]
    refine wpAnyH_take (i := 5) (v := undef) rfl (by kernel_rfl) (by kernel_rfl) (by kernel_rfl) (fun _ _ _ h => h) (Or.inr ⟨by rfl, rfl⟩) (by assumption) ?_
    simp only [Act.put, List.setIfInBounds_toArray, List.set_cons_zero, List.set_cons_succ, List.getElem_toArray, List.getElem_cons_succ, List.getElem_cons_zero]
    refine wpAnyH_take (i := 6) (v := undef) rfl (by kernel_rfl) (by kernel_rfl) (by kernel_rfl) (fun _ _ _ h => h) (Or.inr ⟨by rfl, rfl⟩) (by assumption) ?_
    simp only [Act.put, List.setIfInBounds_toArray, List.set_cons_zero, List.set_cons_succ, List.getElem_toArray, List.getElem_cons_succ, List.getElem_cons_zero]
    refine wpAnyH_take (i := 7) (v := undef) rfl (by kernel_rfl) (by kernel_rfl) (by kernel_rfl) (fun _ _ _ h => h) (Or.inr ⟨by rfl, rfl⟩) (by assumption) ?_
    simp only [Act.put, List.setIfInBounds_toArray, List.set_cons_zero, List.set_cons_succ, List.getElem_toArray, List.getElem_cons_succ, List.getElem_cons_zero]
    refine wpAnyH_take (i := 8) (v := undef) rfl (by kernel_rfl) (by kernel_rfl) (by kernel_rfl) (fun _ _ _ h => h) (Or.inr ⟨by rfl, rfl⟩) (by assumption) ?_
    simp only [Act.put, List.setIfInBounds_toArray, List.set_cons_zero, List.set_cons_succ, List.getElem_toArray, List.getElem_cons_succ, List.getElem_cons_zero]
    refine wpAnyH_take (i := 9) (v := undef) rfl (by kernel_rfl) (by kernel_rfl) (by kernel_rfl) (fun _ _ _ h => h) (Or.inr ⟨by rfl, rfl⟩) (by assumption) ?_
    simp only [Act.put, List.setIfInBounds_toArray, List.set_cons_zero, List.set_cons_succ, List.getElem_toArray, List.getElem_cons_succ, List.getElem_cons_zero]
    refine wpAnyH_take (i := 10) (v := undef) rfl (by kernel_rfl) (by kernel_rfl) (by kernel_rfl) (fun _ _ _ h => h) (Or.inr ⟨by rfl, rfl⟩) (by assumption) ?_
    simp only [Act.put, List.setIfInBounds_toArray, List.set_cons_zero, List.set_cons_succ, List.getElem_toArray, List.getElem_cons_succ, List.getElem_cons_zero]
    refine wpAnyH_take (i := 11) (v := undef) rfl (by kernel_rfl) (by kernel_rfl) (by kernel_rfl) (fun _ _ _ h => h) (Or.inr ⟨by rfl, rfl⟩) (by assumption) ?_
    simp only [Act.put, List.setIfInBounds_toArray, List.set_cons_zero, List.set_cons_succ, List.getElem_toArray, List.getElem_cons_succ, List.getElem_cons_zero]
    refine wpAnyH_take (i := 12) (v := ?_) rfl (by kernel_rfl) (by kernel_rfl) (by kernel_rfl) (fun _ _ _ h => h) (Or.inl ⟨by rfl, fun w hSw => ?_⟩) (by assumption) ?_
    rotate_left
    · (try dsimp only at hSw); go_simp; try with_reducible rfl
    simp only [Act.put, List.setIfInBounds_toArray, List.set_cons_zero, List.set_cons_succ, List.getElem_toArray, List.getElem_cons_succ, List.getElem_cons_zero]
    refine wpAnyH_take (i := 13) (v := ?_) rfl (by kernel_rfl) (by kernel_rfl) (by kernel_rfl) (fun _ _ _ h => h) (Or.inl ⟨by rfl, fun w hSw => ?_⟩) (by assumption) ?_
    rotate_left
    · (try dsimp only at hSw); go_simp; try with_reducible rfl
    simp only [Act.put, List.setIfInBounds_toArray, List.set_cons_zero, List.set_cons_succ, List.getElem_toArray, List.getElem_cons_succ, List.getElem_cons_zero]
    refine wpAnyH_take (i := 14) (v := undef) rfl (by kernel_rfl) (by kernel_rfl) (by kernel_rfl) (fun _ _ _ h => h) (Or.inr ⟨by rfl, rfl⟩) (by assumption) ?_
    simp only [Act.put, List.setIfInBounds_toArray, List.set_cons_zero, List.set_cons_succ, List.getElem_toArray, List.getElem_cons_succ, List.getElem_cons_zero]
    refine wpAnyH_take (i := 15) (v := undef) rfl (by kernel_rfl) (by kernel_rfl) (by kernel_rfl) (fun _ _ _ h => h) (Or.inr ⟨by rfl, rfl⟩) (by assumption) ?_
    simp only [Act.put, List.setIfInBounds_toArray, List.set_cons_zero, List.set_cons_succ, List.getElem_toArray, List.getElem_cons_succ, List.getElem_cons_zero]
    refine wpAnyH_take (i := 16) (v := undef) rfl (by kernel_rfl) (by kernel_rfl) (by kernel_rfl) (fun _ _ _ h => h) (Or.inr ⟨by rfl, rfl⟩) (by assumption) ?_
    simp only [Act.put, List.setIfInBounds_toArray, List.set_cons_zero, List.set_cons_succ, List.getElem_toArray, List.getElem_cons_succ, List.getElem_cons_zero]
    refine wpAnyH_take (i := 17) (v := undef) rfl (by kernel_rfl) (by kernel_rfl) (by kernel_rfl) (fun _ _ _ h => h) (Or.inr ⟨by rfl, rfl⟩) (by assumption) ?_
    simp only [Act.put, List.setIfInBounds_toArray, List.set_cons_zero, List.set_cons_succ, List.getElem_toArray, List.getElem_cons_succ, List.getElem_cons_zero]
    refine wpAnyH_take (i := 18) (v := undef) rfl (by kernel_rfl) (by kernel_rfl) (by kernel_rfl) (fun _ _ _ h => h) (Or.inr ⟨by rfl, rfl⟩) (by assumption) ?_
    simp only [Act.put, List.setIfInBounds_toArray, List.set_cons_zero, List.set_cons_succ, List.getElem_toArray, List.getElem_cons_succ, List.getElem_cons_zero]
    refine wpAnyH_take (i := 19) (v := undef) rfl (by kernel_rfl) (by kernel_rfl) (by kernel_rfl) (fun _ _ _ h => h) (Or.inr ⟨by rfl, rfl⟩) (by assumption) ?_
    simp only [Act.put, List.setIfInBounds_toArray, List.set_cons_zero, List.set_cons_succ, List.getElem_toArray, List.getElem_cons_succ, List.getElem_cons_zero]
    refine wpAnyH_take (i := 20) (v := undef) rfl (by kernel_rfl) (by kernel_rfl) (by kernel_rfl) (fun _ _ _ h => h) (Or.inr ⟨by rfl, rfl⟩) (by assumption) ?_
    simp only [Act.put, List.setIfInBounds_toArray, List.set_cons_zero, List.set_cons_succ, List.getElem_toArray, List.getElem_cons_succ, List.getElem_cons_zero]
    refine wpAnyH_take (i := 21) (v := ?_) rfl (by kernel_rfl) (by kernel_rfl) (by kernel_rfl) (fun _ _ _ h => h) (Or.inl ⟨by rfl, fun w hSw => ?_⟩) (by assumption) ?_
    rotate_left
    · (try dsimp only at hSw); go_simp; try with_reducible rfl
    simp only [Act.put, List.setIfInBounds_toArray, List.set_cons_zero, List.set_cons_succ, List.getElem_toArray, List.getElem_cons_succ, List.getElem_cons_zero]
    refine wpAnyH_take (i := 22) (v := ?_) rfl (by kernel_rfl) (by kernel_rfl) (by kernel_rfl) (fun _ _ _ h => h) (Or.inl ⟨by rfl, fun w hSw => ?_⟩) (by assumption) ?_
    rotate_left
    · (try dsimp only at hSw); go_simp; try with_reducible rfl
    simp only [Act.put, List.setIfInBounds_toArray, List.set_cons_zero, List.set_cons_succ, List.getElem_toArray, List.getElem_cons_succ, List.getElem_cons_zero]
    refine wpAnyH_take (i := 23) (v := undef) rfl (by kernel_rfl) (by kernel_rfl) (by kernel_rfl) (fun _ _ _ h => h) (Or.inr ⟨by rfl, rfl⟩) (by assumption) ?_
    simp only [Act.put, List.setIfInBounds_toArray, List.set_cons_zero, List.set_cons_succ, List.getElem_toArray, List.getElem_cons_succ, List.getElem_cons_zero]
    refine wpAnyH_take (i := 24) (v := undef) rfl (by kernel_rfl) (by kernel_rfl) (by kernel_rfl) (fun _ _ _ h => h) (Or.inr ⟨by rfl, rfl⟩) (by assumption) ?_
    simp only [Act.put, List.setIfInBounds_toArray, List.set_cons_zero, List.set_cons_succ, List.getElem_toArray, List.getElem_cons_succ, List.getElem_cons_zero]
    refine wpAnyH_take (i := 25) (v := undef) rfl (by kernel_rfl) (by kernel_rfl) (by kernel_rfl) (fun _ _ _ h => h) (Or.inr ⟨by rfl, rfl⟩) (by assumption) ?_
    simp only [Act.put, List.setIfInBounds_toArray, List.set_cons_zero, List.set_cons_succ, List.getElem_toArray, List.getElem_cons_succ, List.getElem_cons_zero]
    refine wpAnyH_take (i := 26) (v := undef) rfl (by kernel_rfl) (by kernel_rfl) (by kernel_rfl) (fun _ _ _ h => h) (Or.inr ⟨by rfl, rfl⟩) (by assumption) ?_
    simp only [Act.put, List.setIfInBounds_toArray, List.set_cons_zero, List.set_cons_succ, List.getElem_toArray, List.getElem_cons_succ, List.getElem_cons_zero]
    refine wpAnyH_take (i := 27) (v := ?_) rfl (by kernel_rfl) (by kernel_rfl) (by kernel_rfl) (fun _ _ _ h => h) (Or.inl ⟨by rfl, fun w hSw => ?_⟩) (by assumption) ?_
    rotate_left
    · (try dsimp only at hSw); go_simp; try with_reducible rfl
    simp only [Act.put, List.setIfInBounds_toArray, List.set_cons_zero, List.set_cons_succ, List.getElem_toArray, List.getElem_cons_succ, List.getElem_cons_zero]
    refine wpAnyH_done (by kernel_rfl) ?_ _
    go_wp2_with (fail)
    go_ret2
    exact ROpenPost.no hB1 HOK.out

end Go.Proofs.YtciddoeeiamndaaGreat

/-
  The reference's bank: its disk, disks, Read, Write, Join, by contract.
-/
namespace Go.Proofs.YtciddoeeiamndaaGreat
open Go.RowKit Go.Maps
set_option linter.unusedVariables false

section
variable {M : Nat → Prop} {L : RLay} {F : Rf} {w : World}
theorem rreadO_ok (i s : Nat) (h : RefAt w M L F) (hd : F.dead = false) (hi : i < F.n) (hs : s < F.S) (hb : F.bad i = false) :
    Calls Tryz.prog 14 #[.pointer (some ⟨L.p, 0, none⟩), .int .i64 i, .int .i64 s] w (RetP w (F.rd (i * F.S + s)) 0) := by
  have ht := there_yes M L F w i s h (hasB_yes (by omega) (by omega) (by omega) (by omega))
  obtain ⟨fl, fc, h⟩ := h
  have few := h.few
  have fewS := h.fewS
  obtain ⟨k, N, hN, hk, hkN, hkE, m0, m1⟩ := place hi hs few fewS
  have c7 := h.c7
  have c4 := h.c4
  have c1 := h.c1
  have c2 := h.c2
  have c3 := h.c3
  have b0 := h.cb.cell hi
  have l0 := h.cl.cell (k := k) (by rw [← hN.out]; exact hkN)
  have l1 := h.cc.cell (k := k) (by rw [← hN.out]; exact hkN)
  have hL := h.last k (by rw [← hN.out]; exact hkN)
  have hC := h.cach k (by rw [← hN.out]; exact hkN)
  rw [← hk.out]
  rw [← hN.out] at c2 c3
  rw [hd] at c7
  simp only [hb] at b0
  clear hd hb
  rcases hC with ⟨e0, e1⟩ | ⟨zs, e0, g, c, e1, hg, hy⟩
  · obtain ⟨g, c, e2, hg, hy⟩ := hL
    have er : F.rd k = F.L k := by simp [Rf.rd, e0]
    rw [er]
    rw [e1] at l1
    rw [e2] at l0
    have hcp := copy_any (some ⟨g, 0, none⟩) 64 c _ w hy (fun e => by cases e) (by omega)
    clear e0 e1 e2 er hy
    go_enter Tryz.func14, Tryz.ntmps14
    go_wp2_with (first
      | (go_at_call 49; refine ht.mono ?_; rintro e w' ⟨rfl, rfl⟩)
      | (go_at_call 50; refine hcp.mono ?_; rintro e w1 ⟨v1, rfl, ho1, hb1⟩))
    go_ret2
    exact ⟨v1, rfl, own_len ho1, hb1⟩
  · have er : F.rd k = zs := by simp [Rf.rd, e0]
    rw [er]
    rw [e1] at l1
    have hcp := copy_any (some ⟨g, 0, none⟩) 64 c _ w hy (fun e => by cases e) (by omega)
    clear e0 e1 er hy
    go_enter Tryz.func14, Tryz.ntmps14
    go_wp2_with (first
      | (go_at_call 49; refine ht.mono ?_; rintro e w' ⟨rfl, rfl⟩)
      | (go_at_call 50; refine hcp.mono ?_; rintro e w1 ⟨v1, rfl, ho1, hb1⟩))
    go_ret2
    exact ⟨v1, rfl, own_len ho1, hb1⟩

theorem rreadP_all (i s : Int) (h : RefAt w M L F) :
    Calls Tryz.prog 14 #[.pointer (some ⟨L.p, 0, none⟩), .int .i64 i, .int .i64 s] w (RetP w (F.rdV i s) (F.rdE i s)) := by
  unfold Rf.rdV
  cases ho : F.dead with
  | true =>
    refine (rread_dead M L F w i s h ho).mono fun e w' he => ?_
    have : F.rdE i s = 12 := by simp [Rf.rdE, ho]
    rw [this]
    exact RetP.nil w 12 he
  | false =>
    by_cases hb : hasB F.n F.S i s = true
    · obtain ⟨x, y, rfl, rfl, hx, hy⟩ := hasB_nat hb
      cases hbad : F.bad x with
      | true =>
        refine (rread_failed M L F w x y h ho hx hy hbad).mono fun e w' he => ?_
        have : F.rdE x y = 13 := by simp [Rf.rdE, ho, hb, hbad]
        rw [this]
        exact RetP.nil w 13 he
      | false =>
        have : F.rdE x y = 0 := by simp [Rf.rdE, ho, hb, hbad]
        rw [this, if_pos rfl, Int.toNat_natCast, Int.toNat_natCast]
        exact rreadO_ok x y h ho hx hy hbad
    · have hb' : hasB F.n F.S i s = false := by simpa using hb
      refine (rread_bad M L F w i s h ho hb').mono fun e w' he => ?_
      have : F.rdE i s = 11 := by simp [Rf.rdE, ho, hb']
      rw [this]
      exact RetP.nil w 11 he
end

section
variable {w w' : World} {b p : Nat} {B : Bn}
theorem RbAt.lt (h : RbAt w b p B) : b < w.heap.size := lt_of_block h.row
theorem RbAt.c0 (h : RbAt w b p B) : w.cell? ⟨b, 0, none⟩ = some (.pointer (some ⟨p, 0, none⟩)) := by rw [cell_of_row w _ _ _ _ (0, 0) h.row]; rfl
theorem RbAt.c1 (h : RbAt w b p B) : w.cell? ⟨b, 1, none⟩ = some (.int .i64 B.d) := by rw [cell_of_row w _ _ _ _ (0, 0) h.row]; rfl
theorem RbAt.c2 (h : RbAt w b p B) : w.cell? ⟨b, 2, none⟩ = some (.int .i64 B.r) := by rw [cell_of_row w _ _ _ _ (0, 0) h.row]; rfl
theorem RbAt.c3 (h : RbAt w b p B) : w.cell? ⟨b, 3, none⟩ = some (.int .i64 B.s) := by rw [cell_of_row w _ _ _ _ (0, 0) h.row]; rfl
theorem RbAt.c4 (h : RbAt w b p B) : w.cell? ⟨b, 4, none⟩ = some (.int .i64 B.e) := by rw [cell_of_row w _ _ _ _ (0, 0) h.row]; rfl
theorem RbAt.c5 (h : RbAt w b p B) : w.cell? ⟨b, 5, none⟩ = some (.int .i64 B.sl) := by rw [cell_of_row w _ _ _ _ (0, 0) h.row]; rfl
theorem RbAt.c6 (h : RbAt w b p B) : w.cell? ⟨b, 6, none⟩ = some (.int .i64 B.st) := by rw [cell_of_row w _ _ _ _ (0, 0) h.row]; rfl
theorem RbAt.fr (h : RbAt w b p B) (i : Nat) : w.frozen? ⟨b, i, none⟩ = false := frozen_of_row w _ i _ _ h.row
theorem RbAt.turn {N : Nat → Prop} (h : RbAt w b p B) (ht : Turn N w w') (hn : ¬ N b) : RbAt w' b p B := ⟨(ht.block _ h.lt hn).trans h.row⟩
theorem RbAt.next (h : RbAt w b p B) (hb : Below w.heap.size w w') : RbAt w' b p B := ⟨(hb.block _ h.lt).trans h.row⟩
theorem RbAt.drew (h : RbAt w b p B) : RbAt w.drew b p B := ⟨h.row⟩
theorem RbAt.drewN (h : RbAt w b p B) (q : Nat) : RbAt (w.drewN q) b p B := h.next (below_drewN (Below.refl _ _) q)
end

section
variable {w : World} {b p : Nat} {B : Bn}
theorem rdisk_any (i : Int) (h : RbAt w b p B) : Calls Tryz.prog 94 #[.pointer (some ⟨b, 0, none⟩), .int .i64 i] w fun e w' => e = .returned (.int .i64 (B.disk i)) ∧ w' = w := by
  have c1 := h.c1
  have c5 := h.c5
  have c6 := h.c6
  unfold Bn.disk
  by_cases h0 : B.st = 0
  · rw [if_neg (by simp [h0])]
    have h2 : (B.st != 0) = false := by simp [h0]
    clear h0
    go_enter Tryz.func94, Tryz.ntmps94
    go_wp2_with (fail)
    go_ret
    exact ⟨rfl, rfl⟩
  · have h2 : (B.st != 0) = true := by simpa using h0
    by_cases h1 : i = B.sl
    · rw [if_pos ⟨h0, h1⟩]
      have h3 : (B.sl == i) = true := by simp [h1]
      clear h0 h1
      go_enter Tryz.func94, Tryz.ntmps94
      go_wp2_with (fail)
      go_ret
      exact ⟨rfl, rfl⟩
    · rw [if_neg (fun x => h1 x.2)]
      have h3 : (B.sl == i) = false := by simpa using Ne.symm h1
      clear h0 h1
      go_enter Tryz.func94, Tryz.ntmps94
      go_wp2_with (fail)
      go_ret
      exact ⟨rfl, rfl⟩

/-- The disks of the first i slots. -/
def Bn.ds (B : Bn) : Nat → List Int
  | 0 => []
  | i + 1 => B.ds i ++ [B.disk (i : Int)]
theorem ds_len (B : Bn) : ∀ i, (B.ds i).length = i
  | 0 => rfl
  | i + 1 => by unfold Bn.ds; rw [List.length_append, ds_len B i]; rfl
theorem ds_at (B : Bn) {i j : Nat} (h : j < i) : (B.ds i).getD j 0 = B.disk (j : Int) := by
  induction i with
  | zero => omega
  | succ i ih =>
    unfold Bn.ds
    rcases Nat.lt_or_ge j i with h1 | h1
    · rw [← ih h1]
      simp [List.getD, List.getElem?_append_left (show j < (B.ds i).length by rw [ds_len]; exact h1)]
    · obtain rfl : j = i := by omega
      have := ds_len B j
      simp [List.getD, this]
end

def rcV (B : Bn) (F : Rf) (i k : Int) : List Int := if hasSl B.d i then F.rdV (B.disk i) k else []
def rcE (B : Bn) (F : Rf) (i k : Int) : Int := if hasSl B.d i then F.rdE (B.disk i) k else 11
def rwE (B : Bn) (F : Rf) (i k : Int) (zs : List Int) : Int := if hasSl B.d i then F.wrE (B.disk i) k zs else 11
def rw' (B : Bn) (F : Rf) (i k : Int) (zs : List Int) : Rf := if hasSl B.d i then F.wr (B.disk i) k zs else F

section
variable {M : Nat → Prop} {L : RLay} {F : Rf} {w : World} {b : Nat} {B : Bn}
theorem hasSl_cases (d i : Int) : (i < 0 ∧ hasSl d i = false) ∨ (decide (i < 0) = false ∧ d ≤ i ∧ hasSl d i = false) ∨ (decide (i < 0) = false ∧ decide (d ≤ i) = false ∧ hasSl d i = true) := by
  by_cases h0 : i < 0
  · exact .inl ⟨h0, decide_eq_false (by omega)⟩
  · by_cases h1 : d ≤ i
    · exact .inr (.inl ⟨decide_eq_false h0, h1, decide_eq_false (by omega)⟩)
    · exact .inr (.inr ⟨decide_eq_false h0, decide_eq_false h1, decide_eq_true (by omega)⟩)
set_option maxHeartbeats 1000000 in
theorem rbread_any (i k : Int) (hr : RefAt w M L F) (hb : RbAt w b L.p B) :
    Calls Tryz.prog 85 #[.pointer (some ⟨b, 0, none⟩), .int .i64 i, .int .i64 k] w (RetP w (rcV B F i k) (rcE B F i k)) := by
  unfold rcV rcE
  have c1 := hb.c1
  rcases hasSl_cases B.d i with ⟨h0, e⟩ | ⟨h0, h1, e⟩ | ⟨h0, h1, e⟩
  · rw [e]
    clear hr hb e
    go_enter Tryz.func85, Tryz.ntmps85
    go_wp2_with (fail)
    go_ret2
    exact ⟨_, rfl, own_nil _ _, Below.refl _ _⟩
  · rw [e]
    clear hr hb e
    go_enter Tryz.func85, Tryz.ntmps85
    go_wp2_with (fail)
    go_ret2
    exact ⟨_, rfl, own_nil _ _, Below.refl _ _⟩
  · rw [e]
    have hbk1 := hb.drew
    have hrk1 := hr.below (below_drewN (Below.refl _ w) 1)
    change RefAt w.drew M L F at hrk1
    have k0 := hbk1.c0
    clear hr hb e
    go_enter Tryz.func85, Tryz.ntmps85
    go_wp2_with (fail)
    refine wp_region_held_drew (S := fun w' => w'.cell? ⟨b, 0, none⟩ = some (.pointer (some ⟨L.p, 0, none⟩))) (by kernel_rfl) ?_ (fun hHeld => ?_)
    · exact k0
    refine wpAnyH_take (i := 0) (v := ?_) rfl (by kernel_rfl) (by kernel_rfl) (by kernel_rfl) (fun _ _ _ h => h) (Or.inl ⟨by rfl, fun w hSw => ?_⟩) (by assumption) ?_
    rotate_left
    · (try dsimp only at hSw); go_simp; try with_reducible rfl
    simp only [Act.put, List.setIfInBounds_toArray, List.set_cons_zero, List.set_cons_succ, List.getElem_toArray, List.getElem_cons_zero]
    refine wpAnyH_take (i := 1) (v := ?_) rfl (by kernel_rfl) (by kernel_rfl) (by kernel_rfl) (fun _ _ _ h => h) (Or.inl ⟨by rfl, fun w hSw => ?_⟩) (by assumption) ?_
    rotate_left
    · (try dsimp only at hSw); go_simp; try with_reducible rfl
    simp only [Act.put, List.setIfInBounds_toArray, List.set_cons_zero, List.set_cons_succ, List.getElem_toArray, List.getElem_cons_succ, List.getElem_cons_zero]
    refine wpAnyH_take (i := 2) (v := ?_) rfl (by kernel_rfl) (by kernel_rfl) (by kernel_rfl) (fun _ _ _ h => h) (Or.inl ⟨by rfl, fun w hSw => ?_⟩) (by assumption) ?_
    rotate_left
    · (try dsimp only at hSw); go_simp; try with_reducible rfl
    simp only [Act.put, List.setIfInBounds_toArray, List.set_cons_zero, List.set_cons_succ, List.getElem_toArray, List.getElem_cons_succ, List.getElem_cons_zero]
    refine wpAnyH_take (i := 3) (v := ?_) rfl (by kernel_rfl) (by kernel_rfl) (by kernel_rfl) (fun _ _ _ h => h) (Or.inl ⟨by rfl, fun w hSw => ?_⟩) (by assumption) ?_
    rotate_left
    · (try dsimp only at hSw); go_simp; try with_reducible rfl
    simp only [Act.put, List.setIfInBounds_toArray, List.set_cons_zero, List.set_cons_succ, List.getElem_toArray, List.getElem_cons_succ, List.getElem_cons_zero]
    refine wpAnyH_take (i := 4) (v := ?_) rfl (by kernel_rfl) (by kernel_rfl) (by kernel_rfl) (fun _ _ _ h => h) (Or.inl ⟨by rfl, fun w hSw => ?_⟩) (by assumption) ?_
    rotate_left
    · (try dsimp only at hSw); go_simp; try with_reducible rfl
    simp only [Act.put, List.setIfInBounds_toArray, List.set_cons_zero, List.set_cons_succ, List.getElem_toArray, List.getElem_cons_succ, List.getElem_cons_zero]
    refine wpAnyH_take (i := 5) (v := ?_) rfl (by kernel_rfl) (by kernel_rfl) (by kernel_rfl) (fun _ _ _ h => h) (Or.inl ⟨by rfl, fun w hSw => ?_⟩) (by assumption) ?_
    rotate_left
    · (try dsimp only at hSw); go_simp; try with_reducible rfl
    simp only [Act.put, List.setIfInBounds_toArray, List.set_cons_zero, List.set_cons_succ, List.getElem_toArray, List.getElem_cons_succ, List.getElem_cons_zero]
    refine wpAnyH_take (i := 7) (v := ?_) rfl (by kernel_rfl) (by kernel_rfl) (by kernel_rfl) (fun _ _ _ h => h) (Or.inl ⟨by rfl, fun w hSw => ?_⟩) (by assumption) ?_
    rotate_left
    · (try dsimp only at hSw); go_simp; try with_reducible rfl
    simp only [Act.put, List.setIfInBounds_toArray, List.set_cons_zero, List.set_cons_succ, List.getElem_toArray, List.getElem_cons_succ, List.getElem_cons_zero]
    refine wpAnyH_ready (rs := [6]) (by kernel_rfl) (by simp) ?_
    refine AllReadyH.cons rfl (fun K hK => ?_) AllReadyH.nil
    simp only [List.getElem_toArray, List.getElem_cons_succ, List.getElem_cons_zero]
    go_simp
    refine (rdisk_any i hbk1).mono ?_
    rintro e w2 ⟨rfl, rfl⟩
    go_wp2_with (fail)
    refine hK.out _ _ k0 (fun hHeld => ?_)
    clear hK K
    refine wpAnyH_ready (rs := [8]) (by kernel_rfl) (by simp) ?_
    refine AllReadyH.cons rfl (fun K hK => ?_) AllReadyH.nil
    simp only [List.getElem_toArray, List.getElem_cons_succ, List.getElem_cons_zero]
    go_simp
    refine (rreadP_all (B.disk i) k hrk1).mono ?_
    rintro e w3 ⟨v, rfl, hown, hb3⟩
    go_wp2_with (fail)
    refine hK.out _ _ ((hb3.cell (p := ⟨b, 0, none⟩) hbk1.lt).trans k0) (fun hHeld => ?_)
    clear hK K
    refine wpAnyH_take (i := 9) (v := ?_) rfl (by kernel_rfl) (by kernel_rfl) (by kernel_rfl) (fun _ _ _ h => h) (Or.inl ⟨by rfl, fun w hSw => ?_⟩) (by assumption) ?_
    rotate_left
    · (try dsimp only at hSw); go_simp; try with_reducible rfl
    simp only [Act.put, List.setIfInBounds_toArray, List.set_cons_zero, List.set_cons_succ, List.getElem_toArray, List.getElem_cons_succ, List.getElem_cons_zero]
    refine wpAnyH_take (i := 10) (v := ?_) rfl (by kernel_rfl) (by kernel_rfl) (by kernel_rfl) (fun _ _ _ h => h) (Or.inl ⟨by rfl, fun w hSw => ?_⟩) (by assumption) ?_
    rotate_left
    · (try dsimp only at hSw); go_simp; try with_reducible rfl
    simp only [Act.put, List.setIfInBounds_toArray, List.set_cons_zero, List.set_cons_succ, List.getElem_toArray, List.getElem_cons_succ, List.getElem_cons_zero]
    refine wpAnyH_take (i := 11) (v := ?_) rfl (by kernel_rfl) (by kernel_rfl) (by kernel_rfl) (fun _ _ _ h => h) (Or.inl ⟨by rfl, fun w hSw => ?_⟩) (by assumption) ?_
    rotate_left
    · (try dsimp only at hSw); go_simp; try with_reducible rfl
    simp only [Act.put, List.setIfInBounds_toArray, List.set_cons_zero, List.set_cons_succ, List.getElem_toArray, List.getElem_cons_succ, List.getElem_cons_zero]
    refine wpAnyH_take (i := 12) (v := ?_) rfl (by kernel_rfl) (by kernel_rfl) (by kernel_rfl) (fun _ _ _ h => h) (Or.inl ⟨by rfl, fun w hSw => ?_⟩) (by assumption) ?_
    rotate_left
    · (try dsimp only at hSw); go_simp; try with_reducible rfl
    simp only [Act.put, List.setIfInBounds_toArray, List.set_cons_zero, List.set_cons_succ, List.getElem_toArray, List.getElem_cons_succ, List.getElem_cons_zero]
    refine wpAnyH_done (by kernel_rfl) ?_ _
    go_wp2_with (fail)
    go_ret2
    exact ⟨v, rfl, hown.lower (Nat.le_refl _), undrew hb3⟩
set_option maxHeartbeats 1000000 in
theorem rbwrite_any (i k : Int) (a : Option Addr) (m c : Nat) (zs : List Int) (hr : RefAt w M L F) (hb : RbAt w b L.p B) (hbM : ¬ L.M b) (hz : Bys w a m zs) (hzM : m = 0 ∨ ∀ b off, a = some ⟨b, off, none⟩ → ¬ M b) :
    Calls Tryz.prog 41 #[.pointer (some ⟨b, 0, none⟩), .int .i64 i, .int .i64 k, .slice a m c] w (RefPost M L (rw' B F i k zs) w (.int .i64 (rwE B F i k zs))) := by
  unfold rw' rwE
  have c1 := hb.c1
  have HBM := Lib.hid hbM
  have HZM := Lib.hid hzM
  have HR := Lib.hid hr
  rcases hasSl_cases B.d i with ⟨h0, e⟩ | ⟨h0, h1, e⟩ | ⟨h0, h1, e⟩
  · rw [e]
    clear hr hb e hbM hz hzM
    go_enter Tryz.func41, Tryz.ntmps41
    go_wp2_with (fail)
    go_ret
    exact ⟨rfl, HR.out, Turn.refl _ _⟩
  · rw [e]
    clear hr hb e hbM hz hzM
    go_enter Tryz.func41, Tryz.ntmps41
    go_wp2_with (fail)
    go_ret
    exact ⟨rfl, HR.out, Turn.refl _ _⟩
  · rw [e]
    have hbk1 := hb.drew
    have hrk1 := hr.below (below_drewN (Below.refl _ w) 1)
    change RefAt w.drew M L F at hrk1
    have hz1 : Bys w.drew a m zs := hz.below (Nat.le_refl _) (below_drewN (Below.refl _ _) 1)
    have k0 := hbk1.c0
    clear hr hb e hbM hz hzM
    go_enter Tryz.func41, Tryz.ntmps41
    go_wp2_with (fail)
    refine wp_region_held_drew (S := fun w' => w'.cell? ⟨b, 0, none⟩ = some (.pointer (some ⟨L.p, 0, none⟩))) (by kernel_rfl) ?_ (fun hHeld => ?_)
    · exact k0
    refine wpAnyH_take (i := 0) (v := ?_) rfl (by kernel_rfl) (by kernel_rfl) (by kernel_rfl) (fun _ _ _ h => h) (Or.inl ⟨by rfl, fun w hSw => ?_⟩) (by assumption) ?_
    rotate_left
    · (try dsimp only at hSw); go_simp; try with_reducible rfl
    simp only [Act.put, List.setIfInBounds_toArray, List.set_cons_zero, List.set_cons_succ, List.getElem_toArray, List.getElem_cons_zero]
    refine wpAnyH_take (i := 1) (v := ?_) rfl (by kernel_rfl) (by kernel_rfl) (by kernel_rfl) (fun _ _ _ h => h) (Or.inl ⟨by rfl, fun w hSw => ?_⟩) (by assumption) ?_
    rotate_left
    · (try dsimp only at hSw); go_simp; try with_reducible rfl
    simp only [Act.put, List.setIfInBounds_toArray, List.set_cons_zero, List.set_cons_succ, List.getElem_toArray, List.getElem_cons_succ, List.getElem_cons_zero]
    refine wpAnyH_take (i := 2) (v := ?_) rfl (by kernel_rfl) (by kernel_rfl) (by kernel_rfl) (fun _ _ _ h => h) (Or.inl ⟨by rfl, fun w hSw => ?_⟩) (by assumption) ?_
    rotate_left
    · (try dsimp only at hSw); go_simp; try with_reducible rfl
    simp only [Act.put, List.setIfInBounds_toArray, List.set_cons_zero, List.set_cons_succ, List.getElem_toArray, List.getElem_cons_succ, List.getElem_cons_zero]
    refine wpAnyH_take (i := 3) (v := ?_) rfl (by kernel_rfl) (by kernel_rfl) (by kernel_rfl) (fun _ _ _ h => h) (Or.inl ⟨by rfl, fun w hSw => ?_⟩) (by assumption) ?_
    rotate_left
    · (try dsimp only at hSw); go_simp; try with_reducible rfl
    simp only [Act.put, List.setIfInBounds_toArray, List.set_cons_zero, List.set_cons_succ, List.getElem_toArray, List.getElem_cons_succ, List.getElem_cons_zero]
    refine wpAnyH_take (i := 4) (v := ?_) rfl (by kernel_rfl) (by kernel_rfl) (by kernel_rfl) (fun _ _ _ h => h) (Or.inl ⟨by rfl, fun w hSw => ?_⟩) (by assumption) ?_
    rotate_left
    · (try dsimp only at hSw); go_simp; try with_reducible rfl
    simp only [Act.put, List.setIfInBounds_toArray, List.set_cons_zero, List.set_cons_succ, List.getElem_toArray, List.getElem_cons_succ, List.getElem_cons_zero]
    refine wpAnyH_take (i := 5) (v := ?_) rfl (by kernel_rfl) (by kernel_rfl) (by kernel_rfl) (fun _ _ _ h => h) (Or.inl ⟨by rfl, fun w hSw => ?_⟩) (by assumption) ?_
    rotate_left
    · (try dsimp only at hSw); go_simp; try with_reducible rfl
    simp only [Act.put, List.setIfInBounds_toArray, List.set_cons_zero, List.set_cons_succ, List.getElem_toArray, List.getElem_cons_succ, List.getElem_cons_zero]
    refine wpAnyH_take (i := 7) (v := ?_) rfl (by kernel_rfl) (by kernel_rfl) (by kernel_rfl) (fun _ _ _ h => h) (Or.inl ⟨by rfl, fun w hSw => ?_⟩) (by assumption) ?_
    rotate_left
    · (try dsimp only at hSw); go_simp; try with_reducible rfl
    simp only [Act.put, List.setIfInBounds_toArray, List.set_cons_zero, List.set_cons_succ, List.getElem_toArray, List.getElem_cons_succ, List.getElem_cons_zero]
    refine wpAnyH_take (i := 8) (v := ?_) rfl (by kernel_rfl) (by kernel_rfl) (by kernel_rfl) (fun _ _ _ h => h) (Or.inl ⟨by rfl, fun w hSw => ?_⟩) (by assumption) ?_
    rotate_left
    · (try dsimp only at hSw); go_simp; try with_reducible rfl
    simp only [Act.put, List.setIfInBounds_toArray, List.set_cons_zero, List.set_cons_succ, List.getElem_toArray, List.getElem_cons_succ, List.getElem_cons_zero]
    refine wpAnyH_ready (rs := [6]) (by kernel_rfl) (by simp) ?_
    refine AllReadyH.cons rfl (fun K hK => ?_) AllReadyH.nil
    simp only [List.getElem_toArray, List.getElem_cons_succ, List.getElem_cons_zero]
    go_simp
    refine (rdisk_any i hbk1).mono ?_
    rintro e w2 ⟨rfl, rfl⟩
    go_wp2_with (fail)
    refine hK.out _ _ k0 (fun hHeld => ?_)
    clear hK K
    refine wpAnyH_ready (rs := [9]) (by kernel_rfl) (by simp) ?_
    refine AllReadyH.cons rfl (fun K hK => ?_) AllReadyH.nil
    simp only [List.getElem_toArray, List.getElem_cons_succ, List.getElem_cons_zero]
    go_simp
    refine (rwrite_all (B.disk i) k a m c zs hrk1 hz1 HZM.out).mono ?_
    rintro e w3 ⟨rfl, hr3, ht3⟩
    go_wp2_with (fail)
    refine hK.out _ _ ((ht3.cell (a := ⟨b, 0, none⟩) hbk1.lt HBM.out).trans k0) (fun hHeld => ?_)
    clear hK K
    refine wpAnyH_take (i := 10) (v := ?_) rfl (by kernel_rfl) (by kernel_rfl) (by kernel_rfl) (fun _ _ _ h => h) (Or.inl ⟨by rfl, fun w hSw => ?_⟩) (by assumption) ?_
    rotate_left
    · (try dsimp only at hSw); go_simp; try with_reducible rfl
    simp only [Act.put, List.setIfInBounds_toArray, List.set_cons_zero, List.set_cons_succ, List.getElem_toArray, List.getElem_cons_succ, List.getElem_cons_zero]
    refine wpAnyH_done (by kernel_rfl) ?_ _
    go_wp2_with (fail)
    go_ret
    exact ⟨rfl, hr3, ht3.undrw⟩
end

end Go.Proofs.YtciddoeeiamndaaGreat

/-
  The reference's bank: its Bad and Join, by contract.
-/
namespace Go.Proofs.YtciddoeeiamndaaGreat
open Go.RowKit Go.Maps
set_option linter.unusedVariables false

def rbadP (B : Bn) (F : Rf) (i : Int) : Bool := decide (B.st = 1 ∧ i = B.sl) || F.failed (B.disk i)
def rbadL (B : Bn) (F : Rf) : Nat → List Int
  | 0 => []
  | i + 1 => if rbadP B F (i : Int) then rbadL B F i ++ [(i : Int)] else rbadL B F i
theorem rbadL_len (B : Bn) (F : Rf) (i : Nat) : (rbadL B F i).length ≤ i := by
  induction i with
  | zero => exact Nat.le_refl _
  | succ i ih =>
    unfold rbadL
    split
    · simp; omega
    · omega

section
variable {M : Nat → Prop} {L : RLay} {F : Rf} {w : World} {b : Nat} {B : Bn}
theorem RefAt.sub (h : RefAt w M L F) : ∀ k, L.M k → M k := by obtain ⟨fl, fc, h⟩ := h; exact h.sub
theorem RefAt.low (h : RefAt w M L F) : ∀ k, M k → k < w.heap.size := by obtain ⟨fl, fc, h⟩ := h; exact h.low
set_option maxHeartbeats 4000000 in
theorem rbad_any (n : Nat) (hr : RefAt w M L F) (hb : RbAt w b L.p B) (hd : B.d = (n : Int)) (hn : n ≤ 16) :
    Calls Tryz.prog 79 #[.pointer (some ⟨b, 0, none⟩)] w (RetI w (rbadL B F n)) := by
  have HR := Lib.hid hr
  have HB := Lib.hid hb
  have HDD := Lib.hid hd
  have hbl0 : ∀ x : Obj, Below w.heap.size w (w.alloc x) := fun x => (Below.refl _ _).alloc (Nat.le_refl _) _
  have HBL0 := Lib.hid hbl0
  clear hr hb hd hbl0
  go_enter Tryz.func79, Tryz.ntmps79
  go_wp2_with (fail)
  go_loopw [3, 4] (fun u v wr => ∃ i : Nat, i ≤ n ∧ v = .int .i64 i ∧ OwnI wr w.heap.size u (rbadL B F i).length (rbadL B F i) ∧ Below w.heap.size w wr) (fun _ v _ => n - (RowKit.intOf v).toNat)
  case atStart => exact ⟨0, Nat.zero_le _, rfl, ownI_none _ _ (Nat.le_refl _), HBL0.out _⟩
  case round =>
    obtain ⟨i, hi, rfl, ho, hbl⟩ := hrel
    have hbk := HB.out.next hbl
    have c1 := hbk.c1
    rw [HDD.out] at c1
    by_cases hlt : i < n
    · have hrk := HR.out.below hbl
      have c0 := hbk.c0
      have c5 := hbk.c5
      have c6 := hbk.c6
      have HD : Hid (∀ q, Calls Tryz.prog 94 #[.pointer (some ⟨b, 0, none⟩), .int .i64 i] (wr.drewN q) fun e w' => e = .returned (.int .i64 (B.disk (i : Int))) ∧ w' = wr.drewN q) := fun q => rdisk_any (i : Int) (hbk.drewN q)
      have HF : Hid (∀ q, Calls Tryz.prog 120 #[.pointer (some ⟨L.p, 0, none⟩), .int .i64 (B.disk (i : Int))] (wr.drewN q) fun e w' => e = .returned (.bool (F.failed (B.disk (i : Int)))) ∧ w' = wr.drewN q) := fun q => (rfailed M L F (wr.drewN q) (B.disk (i : Int)) (hrk.below (below_drewN (Below.refl _ _) q))).mono fun e w' h => ⟨h.1, h.2.symm⟩
      obtain ⟨ra, rc, rfl, hins, hnc, hcm, hrb⟩ := ho.ins
      have HO := Lib.hid ho
      have HBL := Lib.hid hbl
      have hll := rbadL_len B F i
      have hJ : Hid (rbadP B F (i : Int) = (decide (B.st = 1 ∧ (i : Int) = B.sl) || F.failed (B.disk (i : Int)))) := Lib.hid rfl
      have HLL : Hid ((rbadL B F i).length + 1 ≤ 1000000000000) := by unfold Hid; omega
      have hsz := hbl.size
      clear ho hbl hins hnc hcm hrb hll hbk hrk
      cases hf : F.failed (B.disk (i : Int)) with
      | true =>
        rw [hf] at HF
        have HS : Hid (rbadL B F (i + 1) = rbadL B F i ++ [(i : Int)]) := by
          show (if _ then _ else _) = _
          rw [if_pos (by rw [hJ.out]; first | rw [hf, Bool.or_true] | rw [decide_eq_true (⟨e1, e2⟩ : B.st = 1 ∧ (i : Int) = B.sl)]; rfl)]
        clear hJ hf
        go_wp2_with (fail)
        go_quiet (first | (go_at_call 94; exact Calls.quiet_of_same (HD.out _)) | (go_at_call 120; exact Calls.quiet_of_same (HF.out _)))
        obtain ⟨W1, hW1⟩ : ∃ W1, W1 = wr.drewN nq := ⟨_, rfl⟩
        have HO1 : Hid (OwnI (W1.alloc (.cells #[.int .i64 (i : Int)] 3)) w.heap.size (.slice ra (rbadL B F i).length rc) (rbadL B F i).length (rbadL B F i)) := by rw [hW1]; exact (HO.out.next (below_drewN (Below.refl _ _) nq)).alloc _
        have HB1 : Hid (Below w.heap.size w (W1.alloc (.cells #[.int .i64 (i : Int)] 3))) := by rw [hW1]; exact (below_drewN HBL.out nq).alloc (by simpa using hsz) _
        have hsz1 : w.heap.size ≤ W1.heap.size := by rw [hW1]; simpa using hsz
        rw [← hW1]
        clear hW1
        go_wp2_with (at_builtin; go_must (refine wpList_apz rfl (.tmp 40) (.tmp 42) rfl w.heap.size _ (rbadL B F i).length (rbadL B F i) rfl HO1.out W1.heap.size (i : Int) rfl (by simp) HLL.out (by simp; omega) w HB1.out ?_); intro v2 w2 ho2 hb2)
        go_roundw
        case rel => exact ⟨i + 1, by omega, by go_num, by rw [HS.out, List.length_append, List.length_singleton]; exact ho2, hb2⟩
        case measure => simp [RowKit.intOf]; omega
      | false =>
        rw [hf] at HF
        by_cases e1 : B.st = 1
        · have g1 : (B.st == 1) = true := by simpa using e1
          by_cases e2 : (i : Int) = B.sl
          · have g2 : (B.sl == (i : Int)) = true := by simp [e2]
            have HS : Hid (rbadL B F (i + 1) = rbadL B F i ++ [(i : Int)]) := by
              show (if _ then _ else _) = _
              rw [if_pos (by rw [hJ.out]; first | rw [hf, Bool.or_true] | rw [decide_eq_true (⟨e1, e2⟩ : B.st = 1 ∧ (i : Int) = B.sl)]; rfl)]
            clear hJ hf e1 e2
            go_wp2_with (fail)
            go_quiet (first | (go_at_call 94; exact Calls.quiet_of_same (HD.out _)) | (go_at_call 120; exact Calls.quiet_of_same (HF.out _)))
            obtain ⟨W1, hW1⟩ : ∃ W1, W1 = wr.drewN nq := ⟨_, rfl⟩
            have HO1 : Hid (OwnI (W1.alloc (.cells #[.int .i64 (i : Int)] 3)) w.heap.size (.slice ra (rbadL B F i).length rc) (rbadL B F i).length (rbadL B F i)) := by rw [hW1]; exact (HO.out.next (below_drewN (Below.refl _ _) nq)).alloc _
            have HB1 : Hid (Below w.heap.size w (W1.alloc (.cells #[.int .i64 (i : Int)] 3))) := by rw [hW1]; exact (below_drewN HBL.out nq).alloc (by simpa using hsz) _
            have hsz1 : w.heap.size ≤ W1.heap.size := by rw [hW1]; simpa using hsz
            rw [← hW1]
            clear hW1
            go_wp2_with (at_builtin; go_must (refine wpList_apz rfl (.tmp 40) (.tmp 42) rfl w.heap.size _ (rbadL B F i).length (rbadL B F i) rfl HO1.out W1.heap.size (i : Int) rfl (by simp) HLL.out (by simp; omega) w HB1.out ?_); intro v2 w2 ho2 hb2)
            go_roundw
            case rel => exact ⟨i + 1, by omega, by go_num, by rw [HS.out, List.length_append, List.length_singleton]; exact ho2, hb2⟩
            case measure => simp [RowKit.intOf]; omega
          · have g2 : (B.sl == (i : Int)) = false := by simpa using Ne.symm e2
            have HS : Hid (rbadL B F (i + 1) = rbadL B F i) := by
              show (if _ then _ else _) = _
              rw [if_neg (by rw [hJ.out, hf, Bool.or_false]; simp only [decide_eq_true_eq]; first | exact fun x => e1 x.1 | exact fun x => e2 x.2)]
            clear hJ hf e1 e2
            go_wp2_with (fail)
            go_quiet (first | (go_at_call 94; exact Calls.quiet_of_same (HD.out _)) | (go_at_call 120; exact Calls.quiet_of_same (HF.out _)))
            go_wp2_with (fail)
            go_roundw
            case rel => exact ⟨i + 1, by omega, by go_num, by rw [HS.out]; exact HO.out.next (below_drewN (Below.refl _ _) nq), below_drewN HBL.out nq⟩
            case measure => simp [RowKit.intOf]; omega
        · have g1 : (B.st == 1) = false := by simpa using e1
          have HS : Hid (rbadL B F (i + 1) = rbadL B F i) := by
            show (if _ then _ else _) = _
            rw [if_neg (by rw [hJ.out, hf, Bool.or_false]; simp only [decide_eq_true_eq]; first | exact fun x => e1 x.1 | exact fun x => e2 x.2)]
          clear hJ hf e1
          go_wp2_with (fail)
          go_quiet (first | (go_at_call 94; exact Calls.quiet_of_same (HD.out _)) | (go_at_call 120; exact Calls.quiet_of_same (HF.out _)))
          go_wp2_with (fail)
          go_roundw
          case rel => exact ⟨i + 1, by omega, by go_num, by rw [HS.out]; exact HO.out.next (below_drewN (Below.refl _ _) nq), below_drewN HBL.out nq⟩
          case measure => simp [RowKit.intOf]; omega
    · obtain rfl : i = n := by omega
      have HO := Lib.hid ho
      have HBL := Lib.hid hbl
      clear ho hbl
      go_wp2_with (fail)
      go_ret
      exact ⟨_, rfl, HO.out, HBL.out⟩
end

set_option maxHeartbeats 1000000 in
theorem rjoin_any {w : World} {L : RLay} {b : Nat} {B : Bn} (e sl st : Int) (hb : RbAt w b L.p B) :
    Calls Tryz.prog 43 #[.pointer (some ⟨b, 0, none⟩), mb e sl st] w fun en w' => en = .returned (.tuple #[]) ∧ RbAt w' b L.p (B.join e sl st) ∧ Turn (· = b) w w' := by
  have HB := Lib.hid hb
  have hbl : ∀ o : Obj, Below w.heap.size w (w.alloc o) := fun o => (Below.refl _ _).alloc (Nat.le_refl _) _
  have hbk := fun o : Obj => ((hb.next (hbl o)).drew)
  have HBK := Lib.hid hbk
  have HBL := Lib.hid hbl
  have HM : Hid (∀ w, Calls Tryz.prog 30 #[gv B.d B.r B.s, mb e sl st] w fun e w' => e = .returned (.bool (memOk B.d sl st)) ∧ Below w.heap.size w w') := fun w => rfits_any B.d B.r B.s e sl st w
  clear hb hbl hbk
  cases hm : memOk B.d sl st with
  | false =>
    rw [hm] at HM
    have HJ : Hid (B.join e sl st = B) := by unfold Hid Bn.join; rw [hm]; rfl
    clear hm
    go_enter Tryz.func43, Tryz.ntmps43
    go_wp2_with (fail)
    obtain ⟨W0, hW0⟩ : ∃ W0, W0 = w.alloc (.cells #[.int .i64 e, .int .i64 sl, .int .i64 st] 23) := ⟨_, rfl⟩
    have x0 : W0.cell? ⟨w.heap.size, 0, none⟩ = some (.int .i64 e) := by rw [hW0]; simp
    have x1 : W0.cell? ⟨w.heap.size, 1, none⟩ = some (.int .i64 sl) := by rw [hW0]; simp
    have x2 : W0.cell? ⟨w.heap.size, 2, none⟩ = some (.int .i64 st) := by rw [hW0]; simp
    have hlt : w.heap.size < W0.heap.size := by rw [hW0]; simp
    have hB0 : Below w.heap.size w W0 := by rw [hW0]; exact HBL.out _
    have hbk : RbAt W0.drew b L.p B := by rw [hW0]; exact HBK.out _
    rw [← hW0]
    clear hW0
    have k1 := hbk.c1
    have k2 := hbk.c2
    have k3 := hbk.c3
    refine wp_region_held_drew (S := fun w' => w'.cell? ⟨w.heap.size, 0, none⟩ = some (.int .i64 e) ∧ w'.cell? ⟨w.heap.size, 1, none⟩ = some (.int .i64 sl) ∧ w'.cell? ⟨w.heap.size, 2, none⟩ = some (.int .i64 st) ∧ w'.cell? ⟨b, 1, none⟩ = some (.int .i64 B.d) ∧ w'.cell? ⟨b, 2, none⟩ = some (.int .i64 B.r) ∧ w'.cell? ⟨b, 3, none⟩ = some (.int .i64 B.s)) (by kernel_rfl) ?_ (fun hHeld => ?_)
    · exact ⟨x0, x1, x2, k1, k2, k3⟩
    refine wpAnyH_take (i := 0) (v := ?_) rfl (by kernel_rfl) (by kernel_rfl) (by kernel_rfl) (fun _ _ _ h => h) (Or.inl ⟨by rfl, fun w hSw => ?_⟩) (by assumption) ?_
    rotate_left
    · (try dsimp only at hSw); go_simp; try with_reducible rfl
    simp only [Act.put, List.setIfInBounds_toArray, List.set_cons_zero, List.set_cons_succ, List.getElem_toArray, List.getElem_cons_zero]
    refine wpAnyH_take (i := 1) (v := ?_) rfl (by kernel_rfl) (by kernel_rfl) (by kernel_rfl) (fun _ _ _ h => h) (Or.inl ⟨by rfl, fun w hSw => ?_⟩) (by assumption) ?_
    rotate_left
    · (try dsimp only at hSw); go_simp; try with_reducible rfl
    simp only [Act.put, List.setIfInBounds_toArray, List.set_cons_zero, List.set_cons_succ, List.getElem_toArray, List.getElem_cons_succ, List.getElem_cons_zero]
    refine wpAnyH_take (i := 2) (v := ?_) rfl (by kernel_rfl) (by kernel_rfl) (by kernel_rfl) (fun _ _ _ h => h) (Or.inl ⟨by rfl, fun w hSw => ?_⟩) (by assumption) ?_
    rotate_left
    · (try dsimp only at hSw); go_simp; try with_reducible rfl
    simp only [Act.put, List.setIfInBounds_toArray, List.set_cons_zero, List.set_cons_succ, List.getElem_toArray, List.getElem_cons_succ, List.getElem_cons_zero]
    refine wpAnyH_take (i := 3) (v := ?_) rfl (by kernel_rfl) (by kernel_rfl) (by kernel_rfl) (fun _ _ _ h => h) (Or.inl ⟨by rfl, fun w hSw => ?_⟩) (by assumption) ?_
    rotate_left
    · (try dsimp only at hSw); go_simp; try with_reducible rfl
    simp only [Act.put, List.setIfInBounds_toArray, List.set_cons_zero, List.set_cons_succ, List.getElem_toArray, List.getElem_cons_succ, List.getElem_cons_zero]
    refine wpAnyH_take (i := 4) (v := ?_) rfl (by kernel_rfl) (by kernel_rfl) (by kernel_rfl) (fun _ _ _ h => h) (Or.inl ⟨by rfl, fun w hSw => ?_⟩) (by assumption) ?_
    rotate_left
    · (try dsimp only at hSw); go_simp; try with_reducible rfl
    simp only [Act.put, List.setIfInBounds_toArray, List.set_cons_zero, List.set_cons_succ, List.getElem_toArray, List.getElem_cons_succ, List.getElem_cons_zero]
    refine wpAnyH_ready (rs := [5]) (by kernel_rfl) (by simp) ?_
    refine AllReadyH.cons rfl (fun K hK => ?_) AllReadyH.nil
    simp only [List.getElem_toArray, List.getElem_cons_succ, List.getElem_cons_zero]
    go_simp
    refine (HM.out _).mono ?_
    rintro e1 w1 ⟨rfl, hb1⟩
    have hbk1 := hbk.next hb1
    have y0 := (hb1.cell (p := ⟨w.heap.size, 0, none⟩) hlt).trans x0
    have y1 := (hb1.cell (p := ⟨w.heap.size, 1, none⟩) hlt).trans x1
    have y2 := (hb1.cell (p := ⟨w.heap.size, 2, none⟩) hlt).trans x2
    go_wp2_with (fail)
    refine hK.out _ _ ⟨y0, y1, y2, hbk1.c1, hbk1.c2, hbk1.c3⟩ (fun hHeld => ?_)
    clear hK K
    refine wpAnyH_done (by kernel_rfl) ?_ _
    have hB1 : Below w.heap.size w w1 := hB0.trans ((undrew hb1).mono hB0.size)
    clear x0 x1 x2 k1 k2 k3 hHeld hb1 hlt hB0 hbk
    go_wp2_with (fail)
    go_end0
    exact ⟨rfl, by rw [HJ.out]; exact hbk1, Turn.of_below hB1⟩
  | true =>
    rw [hm] at HM
    have HJ : Hid (B.join e sl st = ⟨B.d, B.r, B.s, e, sl, st⟩) := by unfold Hid Bn.join; rw [hm]; rfl
    clear hm
    go_enter Tryz.func43, Tryz.ntmps43
    go_wp2_with (fail)
    obtain ⟨W0, hW0⟩ : ∃ W0, W0 = w.alloc (.cells #[.int .i64 e, .int .i64 sl, .int .i64 st] 23) := ⟨_, rfl⟩
    have x0 : W0.cell? ⟨w.heap.size, 0, none⟩ = some (.int .i64 e) := by rw [hW0]; simp
    have x1 : W0.cell? ⟨w.heap.size, 1, none⟩ = some (.int .i64 sl) := by rw [hW0]; simp
    have x2 : W0.cell? ⟨w.heap.size, 2, none⟩ = some (.int .i64 st) := by rw [hW0]; simp
    have hlt : w.heap.size < W0.heap.size := by rw [hW0]; simp
    have hB0 : Below w.heap.size w W0 := by rw [hW0]; exact HBL.out _
    have hbk : RbAt W0.drew b L.p B := by rw [hW0]; exact HBK.out _
    rw [← hW0]
    clear hW0
    have k1 := hbk.c1
    have k2 := hbk.c2
    have k3 := hbk.c3
    refine wp_region_held_drew (S := fun w' => w'.cell? ⟨w.heap.size, 0, none⟩ = some (.int .i64 e) ∧ w'.cell? ⟨w.heap.size, 1, none⟩ = some (.int .i64 sl) ∧ w'.cell? ⟨w.heap.size, 2, none⟩ = some (.int .i64 st) ∧ w'.cell? ⟨b, 1, none⟩ = some (.int .i64 B.d) ∧ w'.cell? ⟨b, 2, none⟩ = some (.int .i64 B.r) ∧ w'.cell? ⟨b, 3, none⟩ = some (.int .i64 B.s)) (by kernel_rfl) ?_ (fun hHeld => ?_)
    · exact ⟨x0, x1, x2, k1, k2, k3⟩
    refine wpAnyH_take (i := 0) (v := ?_) rfl (by kernel_rfl) (by kernel_rfl) (by kernel_rfl) (fun _ _ _ h => h) (Or.inl ⟨by rfl, fun w hSw => ?_⟩) (by assumption) ?_
    rotate_left
    · (try dsimp only at hSw); go_simp; try with_reducible rfl
    simp only [Act.put, List.setIfInBounds_toArray, List.set_cons_zero, List.set_cons_succ, List.getElem_toArray, List.getElem_cons_zero]
    refine wpAnyH_take (i := 1) (v := ?_) rfl (by kernel_rfl) (by kernel_rfl) (by kernel_rfl) (fun _ _ _ h => h) (Or.inl ⟨by rfl, fun w hSw => ?_⟩) (by assumption) ?_
    rotate_left
    · (try dsimp only at hSw); go_simp; try with_reducible rfl
    simp only [Act.put, List.setIfInBounds_toArray, List.set_cons_zero, List.set_cons_succ, List.getElem_toArray, List.getElem_cons_succ, List.getElem_cons_zero]
    refine wpAnyH_take (i := 2) (v := ?_) rfl (by kernel_rfl) (by kernel_rfl) (by kernel_rfl) (fun _ _ _ h => h) (Or.inl ⟨by rfl, fun w hSw => ?_⟩) (by assumption) ?_
    rotate_left
    · (try dsimp only at hSw); go_simp; try with_reducible rfl
    simp only [Act.put, List.setIfInBounds_toArray, List.set_cons_zero, List.set_cons_succ, List.getElem_toArray, List.getElem_cons_succ, List.getElem_cons_zero]
    refine wpAnyH_take (i := 3) (v := ?_) rfl (by kernel_rfl) (by kernel_rfl) (by kernel_rfl) (fun _ _ _ h => h) (Or.inl ⟨by rfl, fun w hSw => ?_⟩) (by assumption) ?_
    rotate_left
    · (try dsimp only at hSw); go_simp; try with_reducible rfl
    simp only [Act.put, List.setIfInBounds_toArray, List.set_cons_zero, List.set_cons_succ, List.getElem_toArray, List.getElem_cons_succ, List.getElem_cons_zero]
    refine wpAnyH_take (i := 4) (v := ?_) rfl (by kernel_rfl) (by kernel_rfl) (by kernel_rfl) (fun _ _ _ h => h) (Or.inl ⟨by rfl, fun w hSw => ?_⟩) (by assumption) ?_
    rotate_left
    · (try dsimp only at hSw); go_simp; try with_reducible rfl
    simp only [Act.put, List.setIfInBounds_toArray, List.set_cons_zero, List.set_cons_succ, List.getElem_toArray, List.getElem_cons_succ, List.getElem_cons_zero]
    refine wpAnyH_ready (rs := [5]) (by kernel_rfl) (by simp) ?_
    refine AllReadyH.cons rfl (fun K hK => ?_) AllReadyH.nil
    simp only [List.getElem_toArray, List.getElem_cons_succ, List.getElem_cons_zero]
    go_simp
    refine (HM.out _).mono ?_
    rintro e1 w1 ⟨rfl, hb1⟩
    have hbk1 := hbk.next hb1
    have y0 := (hb1.cell (p := ⟨w.heap.size, 0, none⟩) hlt).trans x0
    have y1 := (hb1.cell (p := ⟨w.heap.size, 1, none⟩) hlt).trans x1
    have y2 := (hb1.cell (p := ⟨w.heap.size, 2, none⟩) hlt).trans x2
    go_wp2_with (fail)
    refine hK.out _ _ ⟨y0, y1, y2, hbk1.c1, hbk1.c2, hbk1.c3⟩ (fun hHeld => ?_)
    clear hK K
    refine wpAnyH_done (by kernel_rfl) ?_ _
    have hB1 : Below w.heap.size w w1 := hB0.trans ((undrew hb1).mono hB0.size)
    clear x0 x1 x2 k1 k2 k3 hHeld hb1 hlt hB0 hbk
    have k4 := hbk1.c4
    have k5 := hbk1.c5
    have k6 := hbk1.c6
    have f4 := hbk1.fr 4
    have f5 := hbk1.fr 5
    have f6 := hbk1.fr 6
    have hltb := hbk1.lt
    go_wp2_with (fail)
    go_end0
    refine ⟨rfl, ⟨?_⟩, (Turn.of_below hB1).trans (((turn_set _ b 4 _).trans (turn_set _ b 5 _)).trans (turn_set _ b 6 _))⟩
    rw [HJ.out]
    exact cells_set (cells_set (cells_set hbk1.row))

end Go.Proofs.YtciddoeeiamndaaGreat
