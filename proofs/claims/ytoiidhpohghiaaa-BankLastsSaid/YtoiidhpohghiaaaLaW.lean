/-
  BankLasts' walk.
-/
import Derived.Test.YtoiidhpohghiaaaAlv
import Derived.Test.YtoiidhpohghiaaaHld2
import Derived.Laws.Tables
import Derived.Laws.BitsLemmas
namespace Go.Proofs.Ytoiidhpohghiaaa
open Go.RowKit Go.Maps
set_option linter.unusedVariables false

theorem i64_and1023 (n : Int) : bits .and .i64 n 1023 = n % 1024 := by
  show IntKind.i64.wrap ((BitVec.ofInt 64 n &&& BitVec.ofInt 64 1023).toNat : Int) = _
  have h2 : (BitVec.ofInt 64 n &&& BitVec.ofInt 64 1023).toNat = (BitVec.ofInt 64 n).toNat % 1024 := by
    rw [BitVec.toNat_and]
    exact Nat.and_two_pow_sub_one_eq_mod _ 10
  rw [h2, BitVec.toNat_ofInt, IntKind.wrap_i64]
  omega
theorem and_rem (l : Int) (m : Nat) (h : 0 < m) : ∃ k : Nat, k < m ∧ (bits .and .i64 l 1023).tmod m = (k : Int) := by
  rw [i64_and1023]
  obtain ⟨a, ha⟩ := Int.eq_ofNat_of_zero_le (Int.emod_nonneg l (show (1024 : Int) ≠ 0 by omega))
  rw [ha]
  exact ⟨a % m, Nat.mod_lt _ h, by rw [Int.ofNat_tmod]⟩

/-- An array of 123 bools. -/
def bools (f : Nat → Bool) : Array Value := ((List.range 123).map fun i => Value.bool (f i)).toArray
structure BArr (w : World) (g : Nat) (f : Nat → Bool) : Prop where
  row : w.heap[g]? = some (.cells (bools f) 62 (0, 0))
section
variable {w w' : World} {g : Nat} {f : Nat → Bool}
theorem BArr.lt (h : BArr w g f) : g < w.heap.size := lt_of_block h.row
theorem BArr.cell (h : BArr w g f) {i : Nat} (hi : i < 123) : w.cell? ⟨g, i, none⟩ = some (.bool (f i)) := by
  rw [cell_of_row w g i _ _ (0, 0) h.row]
  simp [bools, hi]
theorem BArr.free (h : BArr w g f) (i : Nat) : w.frozen? ⟨g, i, none⟩ = false := frozen_of_row w g i _ _ h.row
theorem BArr.set (h : BArr w g f) {i : Nat} (hi : i < 123) : BArr (w.setCell ⟨g, i, none⟩ (.bool true)) g (setF f i) := by
  refine ⟨?_⟩
  rw [heap_setCell_same w g i _ _ _ h.row]
  congr 2
  apply Array.ext'
  unfold bools setF
  rw [Array.toList_setIfInBounds]
  apply List.ext_getElem
  · simp
  · intro j h1 h2
    simp only [List.length_set, List.length_map, List.length_range] at h1
    rw [List.getElem_set]
    by_cases e : i = j
    · subst e; simp
    · have e2 : ¬ j = i := fun x => e x.symm
      simp [e, e2]
theorem BArr.turn {M : Nat → Prop} (h : BArr w g f) (ht : Turn M w w') (hm : ¬ M g) : BArr w' g f := ⟨(ht.block g h.lt hm).trans h.row⟩
theorem BArr.next (h : BArr w g f) (hb : Below w.heap.size w w') : BArr w' g f := ⟨(hb.block g h.lt).trans h.row⟩
end

theorem St.more {w0 w w' : World} {M : Nat → Prop} {L : Lay} {b g : Nat} {R : Rk} {B : Bn} (h : St w0 M L b R B w) (hb : Below w.heap.size w w') (h1 : w.heap.size ≤ g) (h2 : g < w'.heap.size) : St w0 (also M (· = g)) L b R B w' :=
  ⟨h.rk.also hb (fun k e => by subst e; exact ⟨h1, h2⟩), h.bk.next hb, .inl h.mb, h.nb, fun k hk => hk.elim (h.lo k) (fun e => by subst e; exact Nat.le_trans h.bel.size h1), h.bel.trans (hb.mono h.bel.size)⟩
theorem St.own {w0 w w' : World} {M : Nat → Prop} {L : Lay} {b g : Nat} {R : Rk} {B : Bn} (h : St w0 M L b R B w) (ht : Turn (· = g) w w') (hg : M g) (hn : ¬ L.M R.n g) (hgb : g ≠ b) : St w0 M L b R B w' :=
  ⟨h.rk.keep ht (fun _ e => e ▸ hg) (fun _ hk e => hn (e ▸ hk)), h.bk.turn ht (fun e => hgb e.symm), h.mb, h.nb, h.lo, h.bel.trans (ht.below h.bel.size (fun k e => e ▸ h.lo g hg))⟩

set_option maxRecDepth 100000 in
set_option maxHeartbeats 4000000 in
theorem lasts_out (e sl st : Int) (a a2 : Option Addr) (n c n2 c2 : Nat) (w : World) (h : 100 < n ∨ n2 ≠ 64) :
    Calls Try.prog 6 #[mb e sl st, .slice a n c, .slice a2 n2 c2] w fun e w' => e = .returned (.bool true) ∧ Below w.heap.size w w' := by
  have hbx : ∀ o : Obj, Below w.heap.size w (w.alloc o) := fun o => (Below.refl _ _).alloc (Nat.le_refl _) _
  have HBX := Lib.hid hbx
  clear hbx
  by_cases h1 : 100 < n
  · have g1 : (100 : Int) < (n : Int) := by omega
    clear h h1
    go_enter Try.func6, Try.ntmps6
    go_wp2_with (fail)
    refine (alive_any _).mono ?_
    rintro e w1 ⟨rfl, hb1⟩
    go_wp2_with (fail)
    go_ret
    exact ⟨rfl, (HBX.out _).trans (hb1.mono (HBX.out (.cells #[.int .i64 e, .int .i64 sl, .int .i64 st] 25)).size)⟩
  · have h2 : n2 ≠ 64 := h.resolve_left h1
    have g1 : decide (100 < n) = false := decide_eq_false h1
    have g4 : decide ((100 : Int) < (n : Int)) = false := decide_eq_false (by omega)
    have g2 : ((n2 : Int) == 64) = false := by
      have : ¬ (n2 : Int) = 64 := by omega
      simpa using this
    have g3 : ¬ n2 = 64 := h2
    clear h h1 h2
    go_enter Try.func6, Try.ntmps6
    go_wp2_with (fail)
    refine (alive_any _).mono ?_
    rintro e w1 ⟨rfl, hb1⟩
    go_wp2_with (fail)
    all_goals first
      | (go_ret; exact ⟨rfl, (HBX.out _).trans (hb1.mono (HBX.out (.cells #[.int .i64 e, .int .i64 sl, .int .i64 st] 25)).size)⟩)
      | (exfalso; have hx := (by assumption : (n : Int) ≤ 100 ∧ ((n2 : Int) != 64) = false); have hy := hx.2; simp at hy; omega)

set_option maxRecDepth 100000 in
set_option maxHeartbeats 8000000 in
theorem lasts_in (e sl st : Int) (a a2 : Option Addr) (n c c2 : Nat) (ks zs : List Int) (w : World) (hx : Ins w a n ks) (hp : Pin w a2 64 c2 zs) (hn : n ≤ 100) :
    Calls Try.prog 6 #[mb e sl st, .slice a n c, .slice a2 64 c2] w fun e w' => e = .returned (.bool true) ∧ Below w.heap.size w w' := by
  have hbx : ∀ o : Obj, Below w.heap.size w (w.alloc o) := fun o => (Below.refl _ _).alloc (Nat.le_refl _) _
  have HBX := Lib.hid hbx
  have HX := Lib.hid hx
  have HP := Lib.hid hp
  have HZL := Lib.hid hp.len
  have HN := Lib.hid hn
  have g1 : decide (100 < n) = false := decide_eq_false (by omega)
  have g2 : decide ((100 : Int) < (n : Int)) = false := decide_eq_false (by omega)
  clear hbx hx hp hn
  go_enter Try.func6, Try.ntmps6
  go_wp2_with (fail)
  obtain ⟨g, hg⟩ : ∃ g, g = w.heap.size := ⟨_, rfl⟩
  obtain ⟨W0, hW0⟩ : ∃ W0, W0 = w.alloc (.cells #[.int .i64 e, .int .i64 sl, .int .i64 st] 25) := ⟨_, rfl⟩
  have x0 : W0.cell? ⟨g, 0, none⟩ = some (.int .i64 e) := by rw [hW0, hg]; simp
  have x1 : W0.cell? ⟨g, 1, none⟩ = some (.int .i64 sl) := by rw [hW0, hg]; simp
  have x2 : W0.cell? ⟨g, 2, none⟩ = some (.int .i64 st) := by rw [hW0, hg]; simp
  have hgl : g < W0.heap.size := by rw [hW0, hg]; simp
  have hB0 : Below w.heap.size w W0 := by rw [hW0]; exact HBX.out _
  rw [← hW0, ← hg]
  clear hW0 hg
  refine (alive_any W0).mono ?_
  rintro en w1 ⟨rfl, hb1⟩
  have hB1 := hB0.trans (hb1.mono hB0.size)
  have y0 := (hb1.cell (p := ⟨g, 0, none⟩) hgl).trans x0
  have y1 := (hb1.cell (p := ⟨g, 1, none⟩) hgl).trans x1
  have y2 := (hb1.cell (p := ⟨g, 2, none⟩) hgl).trans x2
  have hgl1 := Nat.lt_of_lt_of_le hgl hb1.size
  clear x0 x1 x2 hgl hb1 hB0
  go_wp2_with (fail)
  refine (small_any w1).mono ?_
  rintro en w2 ⟨rfl, hb2⟩
  have hB2 := hB1.trans (hb2.mono hB1.size)
  have x0 := (hb2.cell (p := ⟨g, 0, none⟩) hgl1).trans y0
  have x1 := (hb2.cell (p := ⟨g, 1, none⟩) hgl1).trans y1
  have x2 := (hb2.cell (p := ⟨g, 2, none⟩) hgl1).trans y2
  have hgl2 := Nat.lt_of_lt_of_le hgl1 hb2.size
  clear y0 y1 y2 hgl1 hb2 hB1 g1 g2
  go_wp2_with (fail)
  refine (sectors_all 3 3 12 w2).mono ?_
  rintro en w3 ⟨rfl, hb3⟩
  rw [sect_small]
  have hB3 := hB2.trans (hb3.mono hB2.size)
  have y0 := (hb3.cell (p := ⟨g, 0, none⟩) hgl2).trans x0
  have y1 := (hb3.cell (p := ⟨g, 1, none⟩) hgl2).trans x1
  have y2 := (hb3.cell (p := ⟨g, 2, none⟩) hgl2).trans x2
  have hgl3 := Nat.lt_of_lt_of_le hgl2 hb3.size
  clear x0 x1 x2 hgl2 hb3 hB2
  go_wp2_with (fail)
  refine (new_ok 4 41 w3 (by omega) (by omega) (by omega) (by omega)).mono ?_
  rintro en w4 ⟨L, rfl, hr4, hM0, hb4⟩
  have hB4 := hB3.trans (hb4.mono hB3.size)
  have x0 := (hb4.cell (p := ⟨g, 0, none⟩) hgl3).trans y0
  have x1 := (hb4.cell (p := ⟨g, 1, none⟩) hgl3).trans y1
  have x2 := (hb4.cell (p := ⟨g, 2, none⟩) hgl3).trans y2
  have hgl4 := Nat.lt_of_lt_of_le hgl3 hb4.size
  have hlo : Hid (∀ k, L.M 4 k → w.heap.size ≤ k) := fun k hk => Nat.le_trans hB3.size (hM0 k hk)
  have HR := Lib.hid hr4
  have HB4 := Lib.hid hB4
  clear y0 y1 y2 hM0 hgl3 hr4 hB4 hb4 hB3
  go_wp2_with (fail)
  have hsm := small_any w4.drew
  refine wp_region_held_drew (S := fun w' => w'.cell? ⟨g, 0, none⟩ = some (.int .i64 e) ∧ w'.cell? ⟨g, 1, none⟩ = some (.int .i64 sl) ∧ w'.cell? ⟨g, 2, none⟩ = some (.int .i64 st)) (by kernel_rfl) ?_ (fun hHeld => ?_)
  · exact ⟨x0, x1, x2⟩
  refine wpAnyH_take (i := 0) (v := ?_) rfl (by kernel_rfl) (by kernel_rfl) (by kernel_rfl) (fun _ _ _ h => h) (Or.inl ⟨by rfl, fun w hSw => ?_⟩) (by assumption) ?_
  rotate_left
  · (try dsimp only at hSw); go_simp; try with_reducible rfl
  simp only [Act.put, List.setIfInBounds_toArray, List.set_cons_zero, List.set_cons_succ, List.getElem_toArray, List.getElem_cons_zero]
  refine wpAnyH_take (i := 2) (v := ?_) rfl (by kernel_rfl) (by kernel_rfl) (by kernel_rfl) (fun _ _ _ h => h) (Or.inl ⟨by rfl, fun w hSw => ?_⟩) (by assumption) ?_
  rotate_left
  · (try dsimp only at hSw); go_simp; try with_reducible rfl
  simp only [Act.put, List.setIfInBounds_toArray, List.set_cons_zero, List.set_cons_succ, List.getElem_toArray, List.getElem_cons_succ, List.getElem_cons_zero]
  refine wpAnyH_ready (rs := [1]) (by kernel_rfl) (by simp) ?_
  refine AllReadyH.cons rfl (fun K hK => ?_) AllReadyH.nil
  simp only [List.getElem_toArray, List.getElem_cons_succ, List.getElem_cons_zero]
  go_simp
  refine hsm.mono ?_
  rintro en w5 ⟨rfl, hb5⟩
  have y0 := (hb5.cell (p := ⟨g, 0, none⟩) hgl4).trans x0
  have y1 := (hb5.cell (p := ⟨g, 1, none⟩) hgl4).trans x1
  have y2 := (hb5.cell (p := ⟨g, 2, none⟩) hgl4).trans x2
  have hgl5 := Nat.lt_of_lt_of_le hgl4 (undrew hb5).size
  have HR5 := Lib.hid (HR.out.below (undrew hb5))
  have HB5 := Lib.hid (HB4.out.trans ((undrew hb5).mono HB4.out.size))
  go_wp2_with (fail)
  refine hK.out _ _ ⟨y0, y1, y2⟩ (fun hHeld => ?_)
  clear hK K hsm x0 x1 x2 hb5 hgl4 HR HB4
  refine wpAnyH_ready (rs := [3]) (by kernel_rfl) (by simp) ?_
  refine AllReadyH.cons rfl (fun K hK => ?_) AllReadyH.nil
  simp only [List.getElem_toArray, List.getElem_cons_succ, List.getElem_cons_zero]
  go_simp
  refine (open_any 3 3 12 e sl st HR5.out).mono ?_
  rintro en w6 hop
  have hb6 := hop.1
  have x0 := (hb6.cell (p := ⟨g, 0, none⟩) hgl5).trans y0
  have x1 := (hb6.cell (p := ⟨g, 1, none⟩) hgl5).trans y1
  have x2 := (hb6.cell (p := ⟨g, 2, none⟩) hgl5).trans y2
  have HB6 := Lib.hid (HB5.out.trans (hb6.mono HB5.out.size))
  cases hm : memOk 3 sl st with
  | false =>
    have e1 : en = .returned (.tuple #[.pointer none, .int .i64 10]) := by
      have h := hop.2
      rw [openOk_small rfl rfl, hm] at h
      exact h
    subst e1
    clear hm
    go_wp2_with (fail)
    refine hK.out _ _ ⟨x0, x1, x2⟩ (fun hHeld => ?_)
    clear hK K hop hb6 y0 y1 y2
    refine wpAnyH_take (i := 4) (v := ?_) rfl (by kernel_rfl) (by kernel_rfl) (by kernel_rfl) (fun _ _ _ h => h) (Or.inl ⟨by rfl, fun w hSw => ?_⟩) (by assumption) ?_
    rotate_left
    · (try dsimp only at hSw); go_simp; try with_reducible rfl
    simp only [Act.put, List.setIfInBounds_toArray, List.set_cons_zero, List.set_cons_succ, List.getElem_toArray, List.getElem_cons_succ, List.getElem_cons_zero]
    refine wpAnyH_take (i := 5) (v := ?_) rfl (by kernel_rfl) (by kernel_rfl) (by kernel_rfl) (fun _ _ _ h => h) (Or.inl ⟨by rfl, fun w hSw => ?_⟩) (by assumption) ?_
    rotate_left
    · (try dsimp only at hSw); go_simp; try with_reducible rfl
    simp only [Act.put, List.setIfInBounds_toArray, List.set_cons_zero, List.set_cons_succ, List.getElem_toArray, List.getElem_cons_succ, List.getElem_cons_zero]
    refine wpAnyH_take (i := 6) (v := ?_) rfl (by kernel_rfl) (by kernel_rfl) (by kernel_rfl) (fun _ _ _ h => h) (Or.inl ⟨by rfl, fun w hSw => ?_⟩) (by assumption) ?_
    rotate_left
    · (try dsimp only at hSw); go_simp; try with_reducible rfl
    simp only [Act.put, List.setIfInBounds_toArray, List.set_cons_zero, List.set_cons_succ, List.getElem_toArray, List.getElem_cons_succ, List.getElem_cons_zero]
    refine wpAnyH_take (i := 7) (v := ?_) rfl (by kernel_rfl) (by kernel_rfl) (by kernel_rfl) (fun _ _ _ h => h) (Or.inl ⟨by rfl, fun w hSw => ?_⟩) (by assumption) ?_
    rotate_left
    · (try dsimp only at hSw); go_simp; try with_reducible rfl
    simp only [Act.put, List.setIfInBounds_toArray, List.set_cons_zero, List.set_cons_succ, List.getElem_toArray, List.getElem_cons_succ, List.getElem_cons_zero]
    refine wpAnyH_take (i := 8) (v := ?_) rfl (by kernel_rfl) (by kernel_rfl) (by kernel_rfl) (fun _ _ _ h => h) (Or.inl ⟨by rfl, fun w hSw => ?_⟩) (by assumption) ?_
    rotate_left
    · (try dsimp only at hSw); go_simp; try with_reducible rfl
    simp only [Act.put, List.setIfInBounds_toArray, List.set_cons_zero, List.set_cons_succ, List.getElem_toArray, List.getElem_cons_succ, List.getElem_cons_zero]
    refine wpAnyH_done (by kernel_rfl) ?_ _
    clear x0 x1 x2 hHeld
    go_wp2_with (fail)
    go_ret
    exact ⟨rfl, HB6.out⟩
  | true =>
    obtain ⟨b, rfl, hlt, hst⟩ := St.opened (w0 := w) HR5.out hlo.out HB5.out hop (by rw [openOk_small rfl rfl]; exact hm)
    clear hm
    go_wp2_with (fail)
    refine hK.out _ _ ⟨x0, x1, x2⟩ (fun hHeld => ?_)
    clear hK K hop hb6 y0 y1 y2
    refine wpAnyH_take (i := 4) (v := ?_) rfl (by kernel_rfl) (by kernel_rfl) (by kernel_rfl) (fun _ _ _ h => h) (Or.inl ⟨by rfl, fun w hSw => ?_⟩) (by assumption) ?_
    rotate_left
    · (try dsimp only at hSw); go_simp; try with_reducible rfl
    simp only [Act.put, List.setIfInBounds_toArray, List.set_cons_zero, List.set_cons_succ, List.getElem_toArray, List.getElem_cons_succ, List.getElem_cons_zero]
    refine wpAnyH_take (i := 5) (v := ?_) rfl (by kernel_rfl) (by kernel_rfl) (by kernel_rfl) (fun _ _ _ h => h) (Or.inl ⟨by rfl, fun w hSw => ?_⟩) (by assumption) ?_
    rotate_left
    · (try dsimp only at hSw); go_simp; try with_reducible rfl
    simp only [Act.put, List.setIfInBounds_toArray, List.set_cons_zero, List.set_cons_succ, List.getElem_toArray, List.getElem_cons_succ, List.getElem_cons_zero]
    refine wpAnyH_take (i := 6) (v := ?_) rfl (by kernel_rfl) (by kernel_rfl) (by kernel_rfl) (fun _ _ _ h => h) (Or.inl ⟨by rfl, fun w hSw => ?_⟩) (by assumption) ?_
    rotate_left
    · (try dsimp only at hSw); go_simp; try with_reducible rfl
    simp only [Act.put, List.setIfInBounds_toArray, List.set_cons_zero, List.set_cons_succ, List.getElem_toArray, List.getElem_cons_succ, List.getElem_cons_zero]
    refine wpAnyH_take (i := 7) (v := ?_) rfl (by kernel_rfl) (by kernel_rfl) (by kernel_rfl) (fun _ _ _ h => h) (Or.inl ⟨by rfl, fun w hSw => ?_⟩) (by assumption) ?_
    rotate_left
    · (try dsimp only at hSw); go_simp; try with_reducible rfl
    simp only [Act.put, List.setIfInBounds_toArray, List.set_cons_zero, List.set_cons_succ, List.getElem_toArray, List.getElem_cons_succ, List.getElem_cons_zero]
    refine wpAnyH_take (i := 8) (v := ?_) rfl (by kernel_rfl) (by kernel_rfl) (by kernel_rfl) (fun _ _ _ h => h) (Or.inl ⟨by rfl, fun w hSw => ?_⟩) (by assumption) ?_
    rotate_left
    · (try dsimp only at hSw); go_simp; try with_reducible rfl
    simp only [Act.put, List.setIfInBounds_toArray, List.set_cons_zero, List.set_cons_succ, List.getElem_toArray, List.getElem_cons_succ, List.getElem_cons_zero]
    refine wpAnyH_done (by kernel_rfl) ?_ _
    have HST := Lib.hid hst
    clear x0 x1 x2 hHeld hst HR5 HB5 HB6 hlt hgl5
    obtain ⟨M, hM⟩ : ∃ M : Nat → Prop, M = also (L.M 4) (· = b) := ⟨_, rfl⟩
    rw [← hM] at HST
    clear hM
    have hbz : Below w6.heap.size w6 (w6.alloc (.cells Try.zeroCells62 62)) := (Below.refl _ _).alloc (Nat.le_refl _) _
    have hrow : (w6.alloc (.cells Try.zeroCells62 62)).heap[w6.heap.size]? = some (.cells Try.zeroCells62 62 (0, 0)) := heap_alloc_new w6 _
    have hst7 := HST.out.more (g := w6.heap.size) hbz (Nat.le_refl _) (by simp)
    have hqM : ¬ M w6.heap.size := fun x => by have := HST.out.rk.low _ x; omega
    have hqL : ¬ L.M 4 w6.heap.size := fun x => hqM (HST.out.rk.sub _ x)
    have hqb : w6.heap.size ≠ b := fun e => hqM (e ▸ HST.out.mb)
    have hst8 := hst7.own (turn_setRow _ w6.heap.size Try.zeroCells62) (.inr rfl) hqL hqb
    have hba : BArr ((w6.alloc (.cells Try.zeroCells62 62)).setRow w6.heap.size Try.zeroCells62) w6.heap.size (fun _ => false) := ⟨(setRow_heap _ w6.heap.size _ _ _ _ hrow).trans (by rw [show bools (fun _ => false) = Try.zeroCells62 by kernel_rfl])⟩
    have HST8 := Lib.hid hst8
    have HBA := Lib.hid hba
    have HQL := Lib.hid hqL
    have HQB := Lib.hid hqb
    have HROW := Lib.hid hrow
    clear hst7 hst8 hba hbz hqL hqb hqM HST hrow
    go_wp2_with (with_reducible refine wpList_store_row rfl 62 (.tmp 10) (.tmp 52) rfl w6.heap.size Try.zeroCells62 rfl rfl 62 Try.zeroCells62 HROW.out (by kernel_rfl) rfl (by kernel_rfl) ?_)
    generalize hw8 : (w6.alloc (.cells Try.zeroCells62 62)).setRow w6.heap.size Try.zeroCells62 = w8 at *
    generalize hqe : w6.heap.size = q at *
    clear hw8 hqe HROW
    have HBY : Hid (∀ w', Below w.heap.size w w' → Bys w' a2 64 zs) := fun w' hb => HP.out.bys.below (Nat.le_refl _) hb
    have HNM : Hid ((64 : Nat) = 0 ∨ ∀ b off, a2 = some ⟨b, off, none⟩ → ¬ also M (· = q) b) := by
      rcases HP.out.bys.place with h0 | ⟨g, off, e, hl, _⟩
      · exact .inl h0
      · exact .inr fun b off e' x => by rw [e] at e'; cases e'; have := HST8.out.lo _ x; omega
    have HIX : Hid (∀ w', Below w.heap.size w w' → Ins w' a n ks) := fun w' hb => by
      obtain ⟨h1, h2⟩ := HX.out
      refine ⟨h1, h2.imp id fun ⟨b, off, e, hlt, hc⟩ => ⟨b, off, e, Nat.lt_of_lt_of_le hlt hb.size, fun i hi => (hb.cell (p := ⟨b, off + i, none⟩) hlt).trans (hc i hi)⟩⟩
    obtain ⟨B, hBd⟩ : ∃ B : Bn, B = ⟨3, 3, 12, e, sl, st⟩ := ⟨_, rfl⟩
    rw [← hBd] at HST8
    have HD : Hid (B.d = ((3 : Nat) : Int)) := by rw [hBd]; rfl
    clear hBd
    go_loopw [11, 12] (fun v _ wr => ∃ (j : Nat) (R : Rk) (C : Nat → Nat → List Int) (f : Nat → Bool), j ≤ n ∧ v = .int .i64 j ∧ Spt R B C zs f ∧ St w (also M (· = q)) L b R B wr ∧ BArr wr q f) (fun v _ _ => n - (intOf v).toNat)
    case atStart => exact ⟨0, _, _, _, Nat.zero_le _, rfl, Spt.start HD.out zs, HST8.out, HBA.out⟩
    case round =>
      obtain ⟨j, R, C, f, hj, rfl, hsp, hst, hba⟩ := hrel
      clear HST8 HBA
      have hnn : n ≤ 100 := HN.out
      have HSP := Lib.hid hsp
      have HST := Lib.hid hst
      have HB := Lib.hid hba
      have HQR : Hid (¬ L.M R.n q) := by rw [hsp.hn]; exact HQL.out
      by_cases hlt : j < n
      · have hins := HIX.out wr hst.bel
        rcases hins.2 with h0 | ⟨ba, oa, rfl, _, hca⟩
        · omega
        have hcell := hca j hlt
        obtain ⟨z, hz0⟩ : ∃ z, z = ks.getD j 0 := ⟨_, rfl⟩
        rw [← hz0] at hcell
        obtain ⟨k, hk, hkz0⟩ := and_rem z 123 (by omega)
        have hkz : (bits .and .i64 z 1023).tmod 123 = (k : Int) := hkz0
        have hw := hsp.write HD.out HZL.out hk
        have hwr := st_bwrite ((k / 41 : Nat) : Int) ((k % 41 : Nat) : Int) a2 64 c2 zs hst (HBY.out _ hst.bel) HNM.out
        rw [hw.1] at hwr
        have HW := Lib.hid hw.2
        have HK := Lib.hid hk
        have HKZ := Lib.hid hkz
        have E1 : Hid (wrap64 (((bits .and .i64 z 1023).tmod 123).tdiv 41) = ((k / 41 : Nat) : Int)) := by
          unfold Hid
          rw [hkz, Int.tdiv_eq_ediv_of_nonneg (by omega), IntWalk.wrap64_in _ (by omega)]
          omega
        have E2 : Hid ((bits .and .i64 z 1023).tmod 41 = ((k % 41 : Nat) : Int)) := by
          unfold Hid
          rw [show (bits .and .i64 z 1023).tmod 41 = ((bits .and .i64 z 1023).tmod 123).tmod 41 from (Int.tmod_tmod_of_dvd _ (by decide)).symm, hkz, Int.tmod_eq_emod_of_nonneg (by omega)]
          omega
        clear hins hca hz0 hw hsp hst hba hk hkz hkz0
        go_wp2_with (fail)
        rw [E1.out, E2.out]
        refine hwr.mono ?_
        rintro en w9 ⟨rfl, hst9, ht9⟩
        have hb9 := HB.out.turn ht9 (by rw [bw_n]; exact HQR.out)
        have hcb := hb9.cell HK.out
        have hfb := hb9.free k
        have hkk : (0 : Int) ≤ (k : Int) := by omega
        have hk2 : (k : Int) < 123 := by have := HK.out; omega
        have hst10 := hst9.own (turn_set w9 q k (.bool true)) (.inr rfl) (by rw [bw_n]; exact HQR.out) HQB.out
        have hb10 := hb9.set HK.out
        have HST10 := Lib.hid hst10
        have HB10 := Lib.hid hb10
        rw [HKZ.out]
        clear hwr E1 E2 hst9 hst10 hb9 hb10 HST HB ht9 hcell HKZ
        go_wp2_with (fail)
        go_roundw
        case rel => exact ⟨j + 1, _, _, _, by omega, by go_num, HW.out, HST10.out, HB10.out⟩
        case measure => simp [intOf]; omega
      · have hfl := st_flush (n := 3) hst HD.out (by omega)
        obtain ⟨f1, f2⟩ := hsp.flush HD.out []
        rw [f1] at hfl
        obtain ⟨R1, hR1⟩ : ∃ R1, R1 = (flG B R B.num).2.2 := ⟨_, rfl⟩
        have hn1 : R1.n = R.n := by rw [hR1]; exact flG_n B R _
        rw [← hR1] at hfl f2
        have HN1 := Lib.hid hn1
        have HH := Lib.hid f2
        clear hst hba hsp hR1 hn1 f1 f2 HST
        go_wp2_with (fail)
        refine hfl.mono ?_
        rintro en w9 ⟨rfl, hst9, ht9⟩
        have HB9 := Lib.hid (HB.out.turn ht9 (by rw [HN1.out]; exact HQR.out))
        have hrs := st_restore none 0 0 [] hst9 ⟨rfl, .inl rfl⟩ (.inl rfl) (by omega)
        clear hfl hst9 ht9 HB
        go_wp2_with (fail)
        refine hrs.mono ?_
        rintro en w10 ⟨rfl, hst10, ht10⟩
        have HB10 := Lib.hid (HB9.out.turn ht10 (by show ¬ L.M R1.n q; rw [HN1.out]; exact HQR.out))
        have HST10 := Lib.hid hst10
        clear hrs hst10 ht10 HB9
        generalize R1.restore [] = R2 at *
        go_wp2_with (fail)
        go_loopw [13, 14, 15, 16] (fun v _ _ _ wr => ∃ k : Nat, k ≤ 123 ∧ v = .int .i64 k ∧ St w (also M (· = q)) L b R2 B wr ∧ BArr wr q f) (fun v _ _ _ _ => 123 - (intOf v).toNat)
        case atStart => exact ⟨0, by omega, rfl, HST10.out, HB10.out⟩
        case round =>
          obtain ⟨k, hk, rfl, hst, hba⟩ := hrel
          clear HST10 HB10
          by_cases hlt : k < 123
          · obtain ⟨e1, e2⟩ := HSP.out.reads HH.out HD.out hlt
            have hrd := st_bread ((k / 41 : Nat) : Int) ((k % 41 : Nat) : Int) hst
            rw [e1, e2] at hrd
            have E1 : Hid (wrap64 ((k : Int).tdiv 41) = ((k / 41 : Nat) : Int)) := by
              unfold Hid
              rw [Int.tdiv_eq_ediv_of_nonneg (by omega), IntWalk.wrap64_in _ (by omega)]
              omega
            have HBA := Lib.hid hba
            clear hst hba e1 e2
            cases hf : f k with
            | true =>
              have hfk : (if f k then zs else List.replicate 64 0) = zs := by rw [hf]; rfl
              rw [hfk] at hrd
              clear hfk
              go_wp2_with (fail)
              first
                | rw [E1.out]
                | skip
              refine hrd.mono ?_
              rintro en w11 ⟨a11, c11, rfl, hp11, _, hst11, hb11⟩
              have HP11 := Lib.hid hp11
              have HST11 := Lib.hid hst11
              have HBA11 := Lib.hid (HBA.out.next hb11)
              have HF := Lib.hid hf
              clear hrd hp11 hst11 hb11 HBA E1 hf
              go_wp2_with (at_make; refine wpList_mk rfl _ _ rfl .i64 .i64 64 64 64 rfl rfl rfl rfl (by omega) ?_; intro w12 hb12 hl12; have HBA12 := Lib.hid (HBA11.out.next hl12); have hcb := HBA12.out.cell hlt; rw [HF.out] at hcb)
              have HST12 := Lib.hid (HST11.out.next hl12)
              have hsm := same_any a11 a2 zs.length c11 64 c2 zs zs w12 (HP11.out.next hl12).bys (HBY.out _ HST12.out.bel) (by first | (rw [HZL.out]; omega) | simp)
              rw [sameB_true rfl] at hsm
              refine hsm.mono ?_
              rintro en w13 ⟨rfl, q13, rfl⟩
              have HB13 := Lib.hid (HBA12.out.next (below_drewN (Below.refl _ _) q13))
              clear hsm HBA12 hcb hb12
              go_wp2_with (fail)
              go_roundw
              case rel => exact ⟨k + 1, by omega, by go_num, HST12.out.drewN q13, HB13.out⟩
              case measure => simp [intOf]; omega
            | false =>
              have hfk : (if f k then zs else List.replicate 64 0) = (List.replicate 64 (0 : Int)) := by rw [hf]; rfl
              rw [hfk] at hrd
              clear hfk
              go_wp2_with (fail)
              first
                | rw [E1.out]
                | skip
              refine hrd.mono ?_
              rintro en w11 ⟨a11, c11, rfl, hp11, _, hst11, hb11⟩
              have HP11 := Lib.hid hp11
              have HST11 := Lib.hid hst11
              have HBA11 := Lib.hid (HBA.out.next hb11)
              have HF := Lib.hid hf
              clear hrd hp11 hst11 hb11 HBA E1 hf
              go_wp2_with (at_make; refine wpList_mk rfl _ _ rfl .i64 .i64 64 64 64 rfl rfl rfl rfl (by omega) ?_; intro w12 hb12 hl12; have HBA12 := Lib.hid (HBA11.out.next hl12); have hcb := HBA12.out.cell hlt; rw [HF.out] at hcb)
              have HST12 := Lib.hid (HST11.out.next hl12)
              have hsm := same_any a11 (some ⟨w11.heap.size, 0, none⟩) (List.replicate 64 (0 : Int)).length c11 64 64 (List.replicate 64 (0 : Int)) (List.replicate 64 (0 : Int)) w12 (HP11.out.next hl12).bys (hb12.bysn (AllB.zeros _) (by simp)) (by first | (rw [HZL.out]; omega) | simp)
              rw [sameB_true rfl] at hsm
              refine hsm.mono ?_
              rintro en w13 ⟨rfl, q13, rfl⟩
              have HB13 := Lib.hid (HBA12.out.next (below_drewN (Below.refl _ _) q13))
              clear hsm HBA12 hcb hb12
              go_wp2_with (fail)
              go_roundw
              case rel => exact ⟨k + 1, by omega, by go_num, HST12.out.drewN q13, HB13.out⟩
              case measure => simp [intOf]; omega
          · obtain rfl : k = 123 := by omega
            have HBE := Lib.hid hst.bel
            clear hst hba
            go_wp2_with (fail)
            go_ret
            exact ⟨rfl, HBE.out⟩
theorem lasts_all (W : World) (e sl st : Int) (a : Option Addr) (n c : Nat) (ks : List Int) (hx : Ins W a n ks) (a2 : Option Addr) (n2 c2 : Nat) (zs : List Int) (hp : Pin W a2 n2 c2 zs) :
    Calls Try.prog 6 #[mb e sl st, .slice a n c, .slice a2 n2 c2] W fun e w' => e = .returned (.bool true) ∧ Below W.heap.size W w' := by
  by_cases h : 100 < n ∨ n2 ≠ 64
  · exact lasts_out e sl st a a2 n c n2 c2 W h
  · obtain rfl : n2 = 64 := by omega
    exact lasts_in e sl st a a2 n c c2 ks zs W hx hp (by omega)

end Go.Proofs.Ytoiidhpohghiaaa
