/-
  The reference's stripe, in plain words: the order of a row, what two sectors tell of the third, whichever comes first.
-/
import Derived.Test.YtacnhlmhibhlhaaGreatWra
import Derived.Test.YtacnhlmhibhlhaaGreatRkd
import Derived.Test.YtacnhlmhibhlhaaGreatRdB
import Derived.Test.YtacnhlmhibhlhaaGreatRwa
import Derived.Test.YtacnhlmhibhlhaaGreatRf
import Derived.Test.YtacnhlmhibhlhaaGreatHb
set_option linter.unusedSimpArgs false
set_option linter.unusedVariables false
namespace Go.Proofs.YtacnhlmhibhlhaaGreat
open Go.RowKit Go.Maps
set_option linter.unusedVariables false

/-- The slot of a segment's sector i, as the reference counts them, and its place there. -/
def qD (g : Int) (i : Nat) : Int := rowD 3 (g * 3 + (i / 3 : Nat)) (i % 3)
def qS (g : Int) (i : Nat) : Int := 5 + (g * 3 + (i / 3 : Nat))
theorem rowD_bd (Q : Int) (j : Nat) : 0 ≤ rowD 3 Q j ∧ rowD 3 Q j < 3 := by unfold rowD BD; omega
theorem rowD_inj {Q : Int} {i j : Nat} (hi : i < 3) (hj : j < 3) (h : rowD 3 Q i = rowD 3 Q j) : i = j := by
  unfold rowD BD at h
  omega
theorem rowD_sur (Q : Int) {x : Nat} (hx : x < 3) : ∃ j, j < 3 ∧ rowD 3 Q j = (x : Int) := by
  have h0 := rowD_bd Q 0
  have h1 := rowD_bd Q 1
  have h2 := rowD_bd Q 2
  have n01 : rowD 3 Q 0 ≠ rowD 3 Q 1 := fun e => by have := rowD_inj (by omega) (by omega) e; omega
  have n02 : rowD 3 Q 0 ≠ rowD 3 Q 2 := fun e => by have := rowD_inj (by omega) (by omega) e; omega
  have n12 : rowD 3 Q 1 ≠ rowD 3 Q 2 := fun e => by have := rowD_inj (by omega) (by omega) e; omega
  by_cases e0 : rowD 3 Q 0 = (x : Int)
  · exact ⟨0, by omega, e0⟩
  by_cases e1 : rowD 3 Q 1 = (x : Int)
  · exact ⟨1, by omega, e1⟩
  exact ⟨2, by omega, by omega⟩
theorem rowD_two (Q : Int) : rowD 3 Q 2 = PD 3 Q := rowD_par 3 Q (by omega)
theorem qD_at (g : Int) {a j : Nat} (hj : j < 3) : qD g (3 * a + j) = rowD 3 (g * 3 + a) j := by
  unfold qD
  rw [show (3 * a + j) / 3 = a by omega, show (3 * a + j) % 3 = j by omega]
theorem qS_at (g : Int) {a j : Nat} (hj : j < 3) : qS g (3 * a + j) = 5 + (g * 3 + a) := by
  unfold qS
  rw [show (3 * a + j) / 3 = a by omega]

/-- Two sectors in either order tell the same. -/
theorem par_swap {f h : Nat → Pc} (e0 : (f 0).zs = (h 1).zs) (e1 : (f 1).zs = (h 0).zs) (s0 : AllB (f 0).zs) (s1 : AllB (f 1).zs) : oneSeq f 2 = oneSeq h 2 ∧ parL f 2 = parL h 2 := by
  have key : ∀ {f h : Nat → Pc}, (f 0).zs = (h 1).zs → (f 1).zs = (h 0).zs → oneSeq f 2 = true → oneSeq h 2 = true := by
    intro f h e0 e1 ho
    have hu : oneUpto f 2 = true := by unfold oneSeq at ho; simpa using ho
    have a0 := oneUpto_at (k := 0) (by omega) hu
    have a1 := oneUpto_at (k := 1) (by omega) hu
    have : oneUpto h 2 = true := oneUpto_of fun k hk => by
      rcases (by omega : k = 0 ∨ k = 1) with rfl | rfl
      · exact ⟨by rw [← e1]; exact a1.1, rfl⟩
      · exact ⟨by rw [← e0]; exact a0.1, by rw [← e0, ← e1]; exact a1.2.symm⟩
    unfold oneSeq
    simpa using this
  have ho : oneSeq f 2 = oneSeq h 2 := by
    cases h1 : oneSeq f 2 with
    | true => exact (key e0 e1 h1).symm
    | false =>
      cases h2 : oneSeq h 2 with
      | false => rfl
      | true => rw [← h1]; exact key e1.symm e0.symm h2
  refine ⟨ho, ?_⟩
  unfold parL
  rw [← ho]
  by_cases h1 : oneSeq f 2 = true
  · rw [if_pos h1, if_pos h1]
    have hu : oneUpto f 2 = true := by unfold oneSeq at h1; simpa using h1
    have a0 := oneUpto_at (k := 0) (by omega) hu
    have a1 := oneUpto_at (k := 1) (by omega) hu
    have t0 : (f 0).zs.take 4 = (h 0).zs.take 4 := by rw [← e1, a1.2]
    rw [t0]
    congr 1
    obtain ⟨l1, b1⟩ := sum_two (f := f) rfl rfl a0.1 a1.1 s0
    obtain ⟨l2, b2⟩ := sum_two (f := h) e1.symm e0.symm a1.1 a0.1 s1
    refine byt_ext (by rw [l1, l2]) fun j hj => ?_
    rw [l1] at hj
    rw [b1 j hj, b2 j hj, xr_comm]
  · rw [if_neg h1, if_neg h1]

/-- What is read is a sector. -/
def Len64 (B : Bn) (R : Rk) : Prop := ∀ i k, brE B R i k = 0 → (brV B R i k).length = 64 ∧ AllB (brV B R i k)
section
variable {M : Nat → Prop} {L : RLay} {R : Rk} {F : Rf} {w : World} {B : Bn} {b : Nat}
theorem RefAt.len64 (h : RefAt w M L F) (hr : Rel R F) (B : Bn) : Len64 B R := by
  intro i k he
  obtain ⟨fl, fc, h⟩ := h
  rw [hr.brE] at he
  rw [hr.brV]
  unfold rcE at he
  unfold rcV
  by_cases hs : hasSl B.d i = true
  · rw [if_pos hs] at he ⊢
    unfold Rf.rdV
    rw [if_pos he]
    unfold Rf.rdE at he
    by_cases ho : F.dead = true
    · rw [if_pos ho] at he; omega
    · rw [if_neg ho] at he
      by_cases hb : hasB F.n F.S (B.disk i) k = true
      · obtain ⟨x, y, e1, e2, hx, hy⟩ := hasB_nat hb
        rw [e1, e2, Int.toNat_natCast, Int.toNat_natCast]
        have hlt : x * F.S + y < F.n * F.S := by
          have : (x + 1) * F.S ≤ F.n * F.S := Nat.mul_le_mul_right _ hx
          rw [Nat.add_mul] at this
          omega
        unfold Rf.rd
        rcases h.cach _ hlt with ⟨e, _⟩ | ⟨zs, e, g, c, _, _, hy'⟩
        · rw [e, Option.getD_none]
          obtain ⟨g, c, _, _, hy'⟩ := h.last _ hlt
          exact ⟨hy'.len, hy'.small⟩
        · rw [e, Option.getD_some]
          exact ⟨hy'.len, hy'.small⟩
      · rw [if_neg hb] at he; omega
  · rw [if_neg hs] at he; omega
theorem Len64.dec (h : Len64 B R) (i k : Int) : decO (brV B R i k) = ldO B R i k := by
  unfold decO ldO
  by_cases he : brE B R i k = 0
  · rw [decide_eq_true he, decide_eq_true (h i k he).1]
  · rw [decide_eq_false he, br_nil he]
    rfl
theorem Len64.small (h : Len64 B R) (i k : Int) : AllB (brV B R i k) := by
  by_cases he : brE B R i k = 0
  · exact (h i k he).2
  · rw [br_nil he]; intro x hx; cases hx
/-- Is each of a row's slots but x good? -/
theorem allO_of {z q : Int} {x n : Nat} (h : ∀ t : Nat, t < n → t = x ∨ rdO B R z q t = true) : allO B R z q x n = true := by
  induction n with
  | zero => rfl
  | succ n ih =>
    rw [allO, ih fun t ht => h t (by omega)]
    rcases h n (by omega) with e | e
    · rw [decide_eq_true e]; rfl
    · rw [e, Bool.or_true]; rfl
theorem resO_no {z q : Int} {x t : Nat} (ht : t < 3) (htx : t ≠ x) (h : rdO B R z q t = false) : resO B R z q x 3 = false ∧ resL B R z q x 3 = [] := by
  have e : resO B R z q x 3 = false := by
    rw [resO, allO_no (i := t + 1) ht (by rw [allO, h, decide_eq_false htx]; simp), Bool.false_and]
  exact ⟨e, by rw [resL, e]; rfl⟩
/-- What the others of a row tell, whichever comes first. -/
theorem resO_yes {z q Q : Int} {x j0 : Nat} (hl : Len64 B R) (hx : x < 3) (hj : j0 < 3) (hjx : rowD 3 Q j0 = (x : Int)) (h : ∀ t, t < 3 → t = j0 ∨ rdO B R z q (rowD 3 Q t) = true) {f : Nat → Pc} (hf : ∀ t, t < 2 → (f t).zs = brV B R (rowD 3 Q (skp j0 t)) z) :
    resO B R z q x 3 = oneSeq f 2 ∧ resL B R z q x 3 = parL f 2 := by
  have ha : allO B R z q x 3 = true := allO_of fun t ht => by
    obtain ⟨j, hj3, e⟩ := rowD_sur Q ht
    rcases h j hj3 with rfl | hh
    · left; rw [hjx] at e; omega
    · right; rwa [e] at hh
  have hs := hl.small
  have two : oneSeq f 2 = oneSeq (oth B R z x) 2 ∧ parL f 2 = parL (oth B R z x) 2 := by
    have b0 := rowD_bd Q (skp j0 0)
    have b1 := rowD_bd Q (skp j0 1)
    have k0 : skp j0 0 < 3 := by unfold skp; split <;> omega
    have k1 : skp j0 1 < 3 := by unfold skp; split <;> omega
    have c0 : skp j0 0 ≠ j0 := by unfold skp; split <;> omega
    have c1 : skp j0 1 ≠ j0 := by unfold skp; split <;> omega
    have c01 : skp j0 0 ≠ skp j0 1 := by unfold skp; split <;> split <;> omega
    have d0 : rowD 3 Q (skp j0 0) ≠ (x : Int) := fun e => c0 (rowD_inj k0 hj (e.trans hjx.symm))
    have d1 : rowD 3 Q (skp j0 1) ≠ (x : Int) := fun e => c1 (rowD_inj k1 hj (e.trans hjx.symm))
    have d01 : rowD 3 Q (skp j0 0) ≠ rowD 3 Q (skp j0 1) := fun e => c01 (rowD_inj k0 k1 e)
    have f0 := hf 0 (by omega)
    have f1 := hf 1 (by omega)
    have hsk : (((skp x 0 : Nat) : Int) = rowD 3 Q (skp j0 0) ∧ ((skp x 1 : Nat) : Int) = rowD 3 Q (skp j0 1)) ∨ (((skp x 0 : Nat) : Int) = rowD 3 Q (skp j0 1) ∧ ((skp x 1 : Nat) : Int) = rowD 3 Q (skp j0 0)) := by
      generalize rowD 3 Q (skp j0 0) = u at *
      generalize rowD 3 Q (skp j0 1) = v at *
      unfold skp
      split <;> split <;> omega
    rcases hsk with ⟨e0, e1⟩ | ⟨e0, e1⟩
    · have hc : ∀ i, i < 2 → (f i).zs = (oth B R z x i).zs := fun i hi => by
        rcases (by omega : i = 0 ∨ i = 1) with rfl | rfl
        · rw [f0]; show _ = brV B R (skp x 0 : Nat) z; rw [e0]
        · rw [f1]; show _ = brV B R (skp x 1 : Nat) z; rw [e1]
      exact ⟨oneSeq_congr hc, parL_congr hc⟩
    · refine par_swap ?_ ?_ (by rw [f0]; exact hs _ _) (by rw [f1]; exact hs _ _)
      · rw [f0]; show _ = brV B R (skp x 1 : Nat) z; rw [e1]
      · rw [f1]; show _ = brV B R (skp x 0 : Nat) z; rw [e0]
  have e : resO B R z q x 3 = oneSeq f 2 := by rw [resO, ha, two.1]; rfl
  refine ⟨e, ?_⟩
  rw [resL, e]
  by_cases h1 : oneSeq f 2 = true
  · rw [if_pos h1, two.2]
  · rw [if_neg h1, parL, if_neg h1]
end

end Go.Proofs.YtacnhlmhibhlhaaGreat

/-
  The reference's stripe: where a segment's sectors are; one sector of it.
-/
namespace Go.Proofs.YtacnhlmhibhlhaaGreat
open Go.RowKit Go.Maps
set_option linter.unusedVariables false

theorem set_three' {w : World} {g : Nat} {x0 x1 : Value} (c0 : w.cell? ⟨g, 0, none⟩ = some x0) (c1 : w.cell? ⟨g, 1, none⟩ = some x1) (u0 u1 : Value) :
    ((w.setCell ⟨g, 0, none⟩ u0).setCell ⟨g, 1, none⟩ u1).cell? ⟨g, 0, none⟩ = some u0 ∧ ((w.setCell ⟨g, 0, none⟩ u0).setCell ⟨g, 1, none⟩ u1).cell? ⟨g, 1, none⟩ = some u1 := by
  have n01 : (⟨g, 0, none⟩ : Addr) ≠ ⟨g, 1, none⟩ := by simp
  refine ⟨?_, ?_⟩
  · rw [World.cell?_setCell_other _ _ _ _ n01.symm]
    exact cell_set_same _ _ _ _ _ c0
  · exact cell_set_same _ _ _ _ _ ((World.cell?_setCell_other _ _ _ _ n01).trans c1)
theorem two_next {w W2 : World} {n : Nat} (hs' : Sx W2 n) {w2 : World} {q : Nat} (hb : Below (W2.drewN q).heap.size (W2.drewN q) w2) (hw : Below w.heap.size w W2) (hn : w.heap.size ≤ n) (x y : Int) (t : TypeId) :
    Sx (w2.alloc (.cells #[.int .i64 x, .int .i64 y] t)) n ∧ ∀ u v : Value, Below w.heap.size w (((w2.alloc (.cells #[.int .i64 x, .int .i64 y] t)).setCell ⟨n, 0, none⟩ u).setCell ⟨n, 1, none⟩ v) := by
  have h1 : Below W2.heap.size W2 w2 := (below_drewN (Below.refl _ W2) q).trans (hb.mono (Nat.le_refl _))
  have h2 := h1.alloc h1.size (.cells #[.int .i64 x, .int .i64 y] t)
  have h3 := hw.trans (h2.mono hw.size)
  exact ⟨hs'.next h2, fun u v => (h3.setCell (p := ⟨n, 0, none⟩) hn _).setCell (p := ⟨n, 1, none⟩) hn _⟩
set_option maxHeartbeats 2000000 in
theorem spot_par (g : Int) (a : Nat) (w : World) (h : Sg 3 3 12 g) (ha : a < 3) :
    Calls Tryz.prog 88 #[gv 3 3 12, .int .i64 g, .int .i64 (3 * a + 2 : Nat)] w fun e w' => e = .returned (spV (PD 3 (g * 3 + a)) (5 + (g * 3 + a))) ∧ Below w.heap.size w w' := by
  obtain ⟨hx, hs'⟩ := two w 3 3 12 33 150
  have hbt : Below w.heap.size w ((w.alloc (.cells #[.int .i64 3, .int .i64 3, .int .i64 12] 33 (0, 0))).alloc (.cells #[.int .i64 0, .int .i64 0] 150 (0, 0))) := ((Below.refl _ _).alloc (Nat.le_refl _) _).alloc (by simp) _
  obtain ⟨P, hP⟩ : ∃ P, P = PD 3 (g * 3 + (a : Int)) := ⟨_, rfl⟩
  obtain ⟨z, hz⟩ : ∃ z, z = 5 + (g * 3 + (a : Int)) := ⟨_, rfl⟩
  have hp : ∀ w, Calls Tryz.prog 127 #[gv 3 3 12, .int .i64 g, .int .i64 (a : Int)] w fun e w' => e = .returned (sv P z true) ∧ Below w.heap.size w w' := fun w => by
    rw [hP, hz]
    exact rparity_yes 3 3 12 g a w h (by omega) (by omega)
  rw [← hP, ← hz]
  clear hP hz hx h
  rcases (by omega : a = 0 ∨ a = 1 ∨ a = 2) with rfl | rfl | rfl
  all_goals
    go_enter Tryz.func88, Tryz.ntmps88
    go_wp2_with (fail)
    go_quiet (fail)
    go_wp2_with (fail)
    refine (hp _).mono ?_
    rintro e w2 ⟨rfl, hb2⟩
    obtain ⟨hs2, hB⟩ := two_next (q := nq) hs' hb2 hbt (Nat.le_succ _) P z 150
    clear hb2
    obtain ⟨hl, ⟨v1, c1⟩, ⟨v2, c2⟩, f1, f2⟩ := hs2
    go_wp2_with (fail)
    refine bodyPost_ret (v := spV P z) ?_ rfl ⟨rfl, ?_⟩
    · simp [results, Tryz.results88, go_sem, c1, c2]
    · exact hB _ _
set_option maxHeartbeats 4000000 in
theorem spot_blk (g : Int) (a c : Nat) (w : World) (h : Sg 3 3 12 g) (ha : a < 3) (hc : c < 2) :
    Calls Tryz.prog 88 #[gv 3 3 12, .int .i64 g, .int .i64 (3 * a + c : Nat)] w fun e w' => e = .returned (spV (rowD 3 (g * 3 + a) c) (5 + (g * 3 + a))) ∧ Below w.heap.size w w' := by
  obtain ⟨hx, hs'⟩ := two w 3 3 12 33 150
  have hbt : Below w.heap.size w ((w.alloc (.cells #[.int .i64 3, .int .i64 3, .int .i64 12] 33 (0, 0))).alloc (.cells #[.int .i64 0, .int .i64 0] 150 (0, 0))) := ((Below.refl _ _).alloc (Nat.le_refl _) _).alloc (by simp) _
  obtain ⟨P, hP⟩ : ∃ P, P = rowD 3 (g * 3 + (a : Int)) c := ⟨_, rfl⟩
  obtain ⟨z, hz⟩ : ∃ z, z = 5 + (g * 3 + (a : Int)) := ⟨_, rfl⟩
  have hp : ∀ w, Calls Tryz.prog 90 #[gv 3 3 12, .int .i64 g, .int .i64 (a * 2 + c : Nat)] w fun e w' => e = .returned (sv P z true) ∧ Below w.heap.size w w' := fun w => by
    have h2 := rblock_yes 3 3 12 g (a * 2 + c : Nat) w h (by omega) (by unfold PL; omega)
    rw [show ((a * 2 + c : Nat) : Int) / (3 - 1) = (a : Int) by omega, show ((a * 2 + c : Nat) : Int) % (3 - 1) = (c : Int) by omega] at h2
    rw [hP, hz]
    exact h2
  rw [← hP, ← hz]
  clear hP hz h
  obtain ⟨W2, hW2⟩ : ∃ W2, W2 = (w.alloc (.cells #[.int .i64 3, .int .i64 3, .int .i64 12] 33 (0, 0))).alloc (.cells #[.int .i64 0, .int .i64 0] 150 (0, 0)) := ⟨_, rfl⟩
  obtain ⟨p, hpp⟩ : ∃ p, p = w.heap.size := ⟨_, rfl⟩
  have HX : Hid (Bx W2 p 3 3 12) := by rw [hW2, hpp]; exact hx
  have HS : Hid (Sx W2 (p + 1)) := by rw [hW2, hpp]; exact hs'
  have HB : Hid (Below w.heap.size w W2) := by rw [hW2]; exact hbt
  clear hx hs' hbt
  rcases (by omega : (a = 0 ∧ c = 0) ∨ (a = 0 ∧ c = 1) ∨ (a = 1 ∧ c = 0) ∨ (a = 1 ∧ c = 1) ∨ (a = 2 ∧ c = 0) ∨ (a = 2 ∧ c = 1)) with ⟨rfl, rfl⟩ | ⟨rfl, rfl⟩ | ⟨rfl, rfl⟩ | ⟨rfl, rfl⟩ | ⟨rfl, rfl⟩ | ⟨rfl, rfl⟩
  all_goals
    go_enter Tryz.func88, Tryz.ntmps88
    go_wp2_with (fail)
    go_quiet (fail)
    go_wp2_with (fail)
    rw [← hW2, ← hpp]
    have HP : Hid (p = w.heap.size) := hpp
    clear hW2 hpp
    have hb0 : Below W2.heap.size W2 (W2.drewN nq).drew := below_drewN (below_drewN (Below.refl _ W2) nq) 1
    generalize hW3 : (W2.drewN nq).drew = W3 at *
    have HB0 := Lib.hid hb0
    have hx3 := HX.out.next hb0
    have x0 := hx3.c0
    have x1 := hx3.c1
    have x2 := hx3.c2
    clear hb0 hx3
    refine wp_region_held_drew (S := fun w' => w'.cell? ⟨p, 0, none⟩ = some (.int .i64 3) ∧ w'.cell? ⟨p, 1, none⟩ = some (.int .i64 3) ∧ w'.cell? ⟨p, 2, none⟩ = some (.int .i64 12)) (by kernel_rfl) ?_ (fun hHeld => ?_)
    · rw [hW3]; exact ⟨x0, x1, x2⟩
    refine rgY 0 ?_ rfl (by kernel_rfl) (fun _ _ _ h => h) (.inl ⟨by rfl, fun w hSw => ?_⟩) (by assumption) ?_
    rotate_left
    · (try dsimp only at hSw); go_simp; try with_reducible rfl
    simp only [Act.put, rg1, rg2, rg3, rg4, rg6]
    refine rgY 1 ?_ rfl (by kernel_rfl) (fun _ _ _ h => h) (.inl ⟨by rfl, fun w hSw => ?_⟩) (by assumption) ?_
    rotate_left
    · (try dsimp only at hSw); go_simp; try with_reducible rfl
    simp only [Act.put, rg1, rg2, rg3, rg4, rg5, rg6]
    refine rgY 2 ?_ rfl (by kernel_rfl) (fun _ _ _ h => h) (.inl ⟨by rfl, fun w hSw => ?_⟩) (by assumption) ?_
    rotate_left
    · (try dsimp only at hSw); go_simp; try with_reducible rfl
    simp only [Act.put, rg1, rg2, rg3, rg4, rg5, rg6]
    refine rgY 3 ?_ rfl (by kernel_rfl) (fun _ _ _ h => h) (.inl ⟨by rfl, fun w hSw => ?_⟩) (by assumption) ?_
    rotate_left
    · (try dsimp only at hSw); go_simp; try with_reducible rfl
    simp only [Act.put, rg1, rg2, rg3, rg4, rg5, rg6]
    refine rgY 4 ?_ rfl (by kernel_rfl) (fun _ _ _ h => h) (.inl ⟨by rfl, fun w hSw => ?_⟩) (by assumption) ?_
    rotate_left
    · (try dsimp only at hSw); go_simp; try with_reducible rfl
    simp only [Act.put, rg1, rg2, rg3, rg4, rg5, rg6]
    refine rgY 5 ?_ rfl (by kernel_rfl) (fun _ _ _ h => h) (.inl ⟨by rfl, fun w hSw => ?_⟩) (by assumption) ?_
    rotate_left
    · (try dsimp only at hSw); go_simp; try with_reducible rfl
    simp only [Act.put, rg1, rg2, rg3, rg4, rg5, rg6]
    refine rgY 6 ?_ rfl (by kernel_rfl) (fun _ _ _ h => h) (.inl ⟨by rfl, fun w hSw => ?_⟩) (by assumption) ?_
    rotate_left
    · (try dsimp only at hSw); go_simp; try with_reducible rfl
    simp only [Act.put, rg1, rg2, rg3, rg4, rg5, rg6]
    refine rgY 7 ?_ rfl (by kernel_rfl) (fun _ _ _ h => h) (.inl ⟨by rfl, fun w hSw => ?_⟩) (by assumption) ?_
    rotate_left
    · (try dsimp only at hSw); go_simp; try with_reducible rfl
    simp only [Act.put, rg1, rg2, rg3, rg4, rg5, rg6]
    refine rgY 8 ?_ rfl (by kernel_rfl) (fun _ _ _ h => h) (.inl ⟨by rfl, fun w hSw => ?_⟩) (by assumption) ?_
    rotate_left
    · (try dsimp only at hSw); go_simp; try with_reducible rfl
    simp only [Act.put, rg1, rg2, rg3, rg4, rg5, rg6]
    refine rgY 9 ?_ rfl (by kernel_rfl) (fun _ _ _ h => h) (.inl ⟨by rfl, fun w hSw => ?_⟩) (by assumption) ?_
    rotate_left
    · (try dsimp only at hSw); go_simp; try with_reducible rfl
    simp only [Act.put, rg1, rg2, rg3, rg4, rg5, rg6]
    refine rgY 10 ?_ rfl (by kernel_rfl) (fun _ _ _ h => h) (.inl ⟨by rfl, fun w hSw => ?_⟩) (by assumption) ?_
    rotate_left
    · (try dsimp only at hSw); go_simp; try with_reducible rfl
    simp only [Act.put, rg1, rg2, rg3, rg4, rg5, rg6]
    refine rgY 11 ?_ rfl (by kernel_rfl) (fun _ _ _ h => h) (.inl ⟨by rfl, fun w hSw => ?_⟩) (by assumption) ?_
    rotate_left
    · (try dsimp only at hSw); go_simp; try with_reducible rfl
    simp only [Act.put, rg1, rg2, rg3, rg4, rg5, rg6]
    clear x0 x1 x2
    refine wpAnyH_ready (rs := [12, 16]) (by kernel_rfl) (by simp) ?_
    refine AllReadyH.cons rfl (fun K hK => ?_) (AllReadyH.cons rfl (fun K hK => ?_) AllReadyH.nil)
    · simp only [List.getElem_toArray, List.getElem_cons_succ, List.getElem_cons_zero]
      go_simp
      refine (hp _).mono ?_
      rintro e w4 ⟨rfl, hb4⟩
      have HB4 := Lib.hid (HB0.out.trans (hb4.mono HB0.out.size))
      clear hb4
      go_wp2_with (fail)
      have hx4 := HX.out.next HB4.out
      refine hK.out _ _ ⟨hx4.c0, hx4.c1, hx4.c2⟩ (fun hHeld => ?_)
      clear hK K hx4
      refine rgY 13 ?_ rfl (by kernel_rfl) (fun _ _ _ h => h) (.inl ⟨by rfl, fun w hSw => ?_⟩) (by assumption) ?_
      rotate_left
      · (try dsimp only at hSw); go_simp; try with_reducible rfl
      simp only [Act.put, rg1, rg2, rg3, rg4, rg5, rg6]
      refine rgY 14 ?_ rfl (by kernel_rfl) (fun _ _ _ h => h) (.inl ⟨by rfl, fun w hSw => ?_⟩) (by assumption) ?_
      rotate_left
      · (try dsimp only at hSw); go_simp; try with_reducible rfl
      simp only [Act.put, rg1, rg2, rg3, rg4, rg5, rg6]
      refine rgY 15 ?_ rfl (by kernel_rfl) (fun _ _ _ h => h) (.inl ⟨by rfl, fun w hSw => ?_⟩) (by assumption) ?_
      rotate_left
      · (try dsimp only at hSw); go_simp; try with_reducible rfl
      simp only [Act.put, rg1, rg2, rg3, rg4, rg5, rg6]
      refine wpAnyH_ready (rs := [16]) (by kernel_rfl) (by simp) ?_
      refine AllReadyH.cons rfl (fun K hK => ?_) AllReadyH.nil
      simp only [List.getElem_toArray, List.getElem_cons_succ, List.getElem_cons_zero]
      go_simp
      have hb5 := HB4.out.alloc HB4.out.size (.cells #[.int .i64 0, .int .i64 0] 150)
      have hx5 := HX.out.next hb5
      have HB5 := Lib.hid hb5
      refine hK.out _ _ ⟨hx5.c0, hx5.c1, hx5.c2⟩ (fun hHeld => ?_)
      clear hK K hx5 hb5
      refine wpAnyH_ready (rs := [17]) (by kernel_rfl) (by simp) ?_
      refine AllReadyH.cons rfl (fun K hK => ?_) AllReadyH.nil
      simp only [List.getElem_toArray, List.getElem_cons_succ, List.getElem_cons_zero]
      go_simp
      have hb6 := HB4.out.alloc HB4.out.size (.cells #[.int .i64 P, .int .i64 z] 150)
      have hx6 := HX.out.next hb6
      refine hK.out _ _ ⟨hx6.c0, hx6.c1, hx6.c2⟩ (fun hHeld => ?_)
      clear hK K hx6
      refine rgY 18 ?_ rfl (by kernel_rfl) (fun _ _ _ h => h) (.inl ⟨by rfl, fun w hSw => ?_⟩) (by assumption) ?_
      rotate_left
      · (try dsimp only at hSw); go_simp; try with_reducible rfl
      simp only [Act.put, rg1, rg2, rg3, rg4, rg5, rg6]
      have hs6 := HS.out.next hb6
      have hB6 := HB.out.trans (hb6.mono HB.out.size)
      have hBE : ∀ u v : Value, Below w.heap.size w (((w4.alloc (.cells #[.int .i64 P, .int .i64 z] 150)).setCell ⟨p + 1, 0, none⟩ u).setCell ⟨p + 1, 1, none⟩ v) := fun u v => (hB6.setCell (p := ⟨p + 1, 0, none⟩) (by have := HP.out; show _ ≤ p + 1; omega) _).setCell (p := ⟨p + 1, 1, none⟩) (by have := HP.out; show _ ≤ p + 1; omega) _
      obtain ⟨hl, ⟨v1, c1⟩, ⟨v2, c2⟩, f1, f2⟩ := hs6
      refine wpAnyH_done (by kernel_rfl) ?_ _
      clear hHeld hb6 hB6
      go_wp2_with (fail)
      refine bodyPost_ret (v := spV P z) ?_ rfl ⟨rfl, ?_⟩
      · simp [results, Tryz.results88, go_sem, c1, c2]
      · exact hBE _ _
    · simp only [List.getElem_toArray, List.getElem_cons_succ, List.getElem_cons_zero]
      go_simp
      have hb4 := HB0.out.alloc HB0.out.size (.cells #[.int .i64 0, .int .i64 0] 150)
      have hx4 := HX.out.next hb4
      have HB4 := Lib.hid hb4
      have HN := Lib.hid (Sx.mk' W3 (.int .i64 0) (.int .i64 0) 150)
      have hl3 := HB0.out.size
      refine hK.out _ _ ⟨hx4.c0, hx4.c1, hx4.c2⟩ (fun hHeld => ?_)
      clear hK K hx4 hb4
      refine wpAnyH_ready (rs := [12]) (by kernel_rfl) (by simp) ?_
      refine AllReadyH.cons rfl (fun K hK => ?_) AllReadyH.nil
      simp only [List.getElem_toArray, List.getElem_cons_succ, List.getElem_cons_zero]
      go_simp
      refine (hp _).mono ?_
      rintro e w5 ⟨rfl, hb5⟩
      have HB5 := Lib.hid (HB4.out.trans (hb5.mono HB4.out.size))
      have hn5 := HN.out.next hb5
      obtain ⟨g, hg⟩ : ∃ g, g = W3.heap.size := ⟨_, rfl⟩
      rw [← hg] at hn5
      clear hb5
      go_wp2_with (fail)
      have hx5 := HX.out.next HB5.out
      refine hK.out _ _ ⟨hx5.c0, hx5.c1, hx5.c2⟩ (fun hHeld => ?_)
      clear hK K hx5
      refine rgY 13 ?_ rfl (by kernel_rfl) (fun _ _ _ h => h) (.inl ⟨by rfl, fun w hSw => ?_⟩) (by assumption) ?_
      rotate_left
      · (try dsimp only at hSw); go_simp; try with_reducible rfl
      simp only [Act.put, rg1, rg2, rg3, rg4, rg5, rg6]
      refine rgY 14 ?_ rfl (by kernel_rfl) (fun _ _ _ h => h) (.inl ⟨by rfl, fun w hSw => ?_⟩) (by assumption) ?_
      rotate_left
      · (try dsimp only at hSw); go_simp; try with_reducible rfl
      simp only [Act.put, rg1, rg2, rg3, rg4, rg5, rg6]
      refine rgY 15 ?_ rfl (by kernel_rfl) (fun _ _ _ h => h) (.inl ⟨by rfl, fun w hSw => ?_⟩) (by assumption) ?_
      rotate_left
      · (try dsimp only at hSw); go_simp; try with_reducible rfl
      simp only [Act.put, rg1, rg2, rg3, rg4, rg5, rg6]
      rw [← hg]
      have HG := Lib.hid hg
      clear hg
      obtain ⟨hl, ⟨v1, c1⟩, ⟨v2, c2⟩, f1, f2⟩ := hn5
      refine wpAnyH_ready (rs := [17]) (by kernel_rfl) (by simp) ?_
      refine AllReadyH.cons rfl (fun K hK => ?_) AllReadyH.nil
      simp only [List.getElem_toArray, List.getElem_cons_succ, List.getElem_cons_zero]
      go_simp
      have hg0 := HG.out
      have hB7 : Below W2.heap.size W2 ((w5.setCell ⟨g, 0, none⟩ (.int .i64 P)).setCell ⟨g, 1, none⟩ (.int .i64 z)) := (HB5.out.setCell (p := ⟨g, 0, none⟩) (by show _ ≤ g; omega) _).setCell (p := ⟨g, 1, none⟩) (by show _ ≤ g; omega) _
      have hx7 := HX.out.next hB7
      have hs7 := HS.out.next hB7
      have hB8 := HB.out.trans (hB7.mono HB.out.size)
      have hBE : ∀ u v : Value, Below w.heap.size w ((((w5.setCell ⟨g, 0, none⟩ (.int .i64 P)).setCell ⟨g, 1, none⟩ (.int .i64 z)).setCell ⟨p + 1, 0, none⟩ u).setCell ⟨p + 1, 1, none⟩ v) := fun u v => (hB8.setCell (p := ⟨p + 1, 0, none⟩) (by have := HP.out; show _ ≤ p + 1; omega) _).setCell (p := ⟨p + 1, 1, none⟩) (by have := HP.out; show _ ≤ p + 1; omega) _
      have y0 := (set_three' c1 c2 (.int .i64 P) (.int .i64 z)).1
      have y1 := (set_three' c1 c2 (.int .i64 P) (.int .i64 z)).2
      obtain ⟨w8, hw8⟩ : ∃ w8, w8 = (w5.setCell ⟨g, 0, none⟩ (.int .i64 P)).setCell ⟨g, 1, none⟩ (.int .i64 z) := ⟨_, rfl⟩
      rw [← hw8] at hx7 hs7 hBE y0 y1 ⊢
      clear hw8 hg0 hB7 hB8 c1 c2 f1 f2 hl
      refine hK.out _ _ ⟨hx7.c0, hx7.c1, hx7.c2⟩ (fun hHeld => ?_)
      clear hK K hx7
      refine rgY 18 ?_ rfl (by kernel_rfl) (fun _ _ _ h => h) (.inl ⟨by rfl, fun w hSw => ?_⟩) (by assumption) ?_
      rotate_left
      · (try dsimp only at hSw); go_simp; try with_reducible rfl
      simp only [Act.put, rg1, rg2, rg3, rg4, rg5, rg6]
      obtain ⟨hl, ⟨v1, c1⟩, ⟨v2, c2⟩, f1, f2⟩ := hs7
      refine wpAnyH_done (by kernel_rfl) ?_ _
      clear hHeld
      go_wp2_with (fail)
      refine bodyPost_ret (v := spV P z) ?_ rfl ⟨rfl, ?_⟩
      · simp [results, Tryz.results88, go_sem, c1, c2]
      · exact hBE _ _
theorem spot_any (g : Int) (i : Nat) (w : World) (h : Sg 3 3 12 g) (hi : i < 9) :
    Calls Tryz.prog 88 #[gv 3 3 12, .int .i64 g, .int .i64 (i : Nat)] w fun e w' => e = .returned (spV (qD g i) (qS g i)) ∧ Below w.heap.size w w' := by
  obtain ⟨a, c, ha, hc, rfl⟩ : ∃ a c : Nat, a < 3 ∧ c < 3 ∧ i = 3 * a + c := ⟨i / 3, i % 3, by omega, by omega, by omega⟩
  rw [qD_at g hc, qS_at g hc]
  by_cases h2 : c = 2
  · subst h2
    rw [rowD_two]
    exact spot_par g a w h ha
  · exact spot_blk g a c w h ha (by omega)

section
variable {M : Nat → Prop} {L : RLay} {R : Rk} {F : Rf} {w : World} {B : Bn} {b : Nat}
set_option maxRecDepth 100000 in
theorem good_any (i k q : Int) (hr : RefAt w M L F) (hb : RbAt w b L.p B) (hrel : Rel R F) :
    Calls Tryz.prog 91 #[.pointer (some ⟨b, 0, none⟩), spV i k, .int .i64 q] w (RetN w (brV B R i k) (rdO B R k q i)) := by
  have hl := hr.len64 hrel B
  have hdo := hl.dec i k
  obtain ⟨W1, hW1⟩ : ∃ W1, W1 = w.alloc (.cells #[.int .i64 i, .int .i64 k] 150 (0, 0)) := ⟨_, rfl⟩
  have hB1 : Below w.heap.size w W1 := by rw [hW1]; exact (Below.refl _ _).alloc (Nat.le_refl _) _
  have d0 : W1.cell? ⟨w.heap.size, 0, none⟩ = some (.int .i64 i) := by rw [hW1]; simp
  have d1 : W1.cell? ⟨w.heap.size, 1, none⟩ = some (.int .i64 k) := by rw [hW1]; simp
  have hrd := rbread_any i k (hr.below hB1) (hb.next hB1)
  rw [← hrel.brE, ← hrel.brV] at hrd
  by_cases h : brE B R i k = 0
  · rw [h] at hrd
    rw [show ldO B R i k = true from decide_eq_true h] at hdo
    obtain ⟨q1, hq1⟩ : ∃ q, q = decN (brV B R i k) 0 4 := ⟨_, rfl⟩
    have HE : Hid (rdO B R k q i = (q1 == q)) := by
      show _ = _
      rw [rdO, ldO, decide_eq_true h, Bool.true_and, hq1]
      rfl
    rw [HE.out]
    obtain ⟨zs, hzs⟩ : ∃ zs, zs = brV B R i k := ⟨_, rfl⟩
    rw [← hzs] at hrd hdo hq1 ⊢
    have HDO := Lib.hid hdo
    have HQ1 := Lib.hid hq1
    clear hdo hr hb h hzs hq1 hrel hl HE
    go_enter Tryz.func91, Tryz.ntmps91
    go_wp2_with (fail)
    rw [← hW1]
    clear hW1 d0 d1
    refine hrd.mono ?_
    rintro e w2 ⟨v, rfl, ho, hb2⟩
    obtain ⟨a, c, rfl, hp, hlo⟩ := ho.pin
    have hB2 := hB1.trans (hb2.mono hB1.size)
    have hlo' : Hid (∀ x, a = some x → w.heap.size ≤ x.block) := fun x hx => by have := (hlo x hx).1; have := hB1.size; omega
    have hdc := refDec_any a zs.length c zs w2 hp
    obtain ⟨n, hn⟩ : ∃ n, n = zs.length := ⟨_, rfl⟩
    rw [← hn] at hp hdc ⊢
    clear hrd ho hlo hb2 hB1 hn
    go_wp2_with (fail)
    refine hdc.mono ?_
    rintro e w3 ⟨a3, n3, c3, rfl, hp3, hb3⟩
    rw [HDO.out, ← HQ1.out]
    have hp' := hp.next hb3
    have hB3 := hB2.trans (hb3.mono hB2.size)
    clear hdc hp hp3 hB2 hb3
    go_wp2_with (fail)
    go_quiet (fail)
    go_wp2_with (fail)
    go_ret2
    exact ⟨a, n, c, rfl, (hp'.alloc _).drewN _, hlo'.out, below_drewN (hB3.alloc hB3.size _) _⟩
  · have hv := br_nil h
    rw [hv] at hrd ⊢
    rw [show rdO B R k q i = false by rw [rdO, ldO, decide_eq_false h, Bool.false_and]]
    obtain ⟨x, hx⟩ : ∃ x, x = brE B R i k := ⟨_, rfl⟩
    rw [← hx] at hrd h
    have hx0 : (x != 0) = true := by simpa using h
    clear hr hb hv hx h hdo hrel hl
    go_enter Tryz.func91, Tryz.ntmps91
    go_wp2_with (fail)
    rw [← hW1]
    clear hW1 d0 d1
    refine hrd.mono ?_
    rintro e w2 ⟨v, rfl, ho, hb2⟩
    have hB2 := hB1.trans (hb2.mono hB1.size)
    clear hrd ho hB1 hb2
    go_wp2_with (fail)
    go_ret2
    exact ⟨none, 0, 0, rfl, Pin.zero _, (fun x hx => by cases hx), hB2⟩
end

end Go.Proofs.YtacnhlmhibhlhaaGreat
