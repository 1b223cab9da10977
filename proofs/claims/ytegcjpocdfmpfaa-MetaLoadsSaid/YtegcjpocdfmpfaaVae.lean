/-
  Sizes, pointers and paths, the program's and the document's, by contract.
-/
import Derived.Test.YtegcjpocdfmpfaaVac
import Derived.Test.YtegcjpocdfmpfaaVad
import Derived.Deep.DeepCutAuto
import Derived.Deep.RegionHeld3
import Derived.Laws.CopyRow
import Derived.Laws.Tables
set_option linter.unusedVariables false
set_option linter.unusedSimpArgs false
set_option maxRecDepth 100000
set_option maxHeartbeats 16000000
namespace Go.Proofs.Ytegcjpocdfmpfaa
open Go.RowKit

theorem isSize_any (s : Int) (w : World) : Calls Try.prog 112 #[.int .i64 s] w fun e w' => e = .returned (.bool (szO s)) ∧ w = w' := by
  by_cases h : 0 ≤ s
  · by_cases h2 : s ≤ 46368
    · have e : szO s = true := decide_eq_true ⟨h, h2⟩
      rw [e]
      have HE := Lib.hid e
      clear e
      go_enter Try.func112, Try.ntmps112
      go_wp2
      go_ret
      exact ⟨rfl, rfl⟩
    · have e : szO s = false := decide_eq_false (by omega)
      rw [e]
      clear e
      go_enter Try.func112, Try.ntmps112
      go_wp2
      go_ret
      exact ⟨rfl, rfl⟩
  · have e : szO s = false := decide_eq_false (by omega)
    rw [e]
    clear e
    go_enter Try.func112, Try.ntmps112
    go_wp2
    go_ret
    exact ⟨rfl, rfl⟩
theorem noPtr_any (s : Int) (w : World) : Calls Try.prog 130 #[.int .i64 s] w fun e w' => e = .returned (.bool (!ptO s)) ∧ w = w' := by
  by_cases h : s < 0
  · have e : ptO s = false := decide_eq_false (by omega)
    rw [e]
    clear e
    go_enter Try.func130, Try.ntmps130
    go_wp2
    go_ret
    exact ⟨rfl, rfl⟩
  · by_cases h2 : 65535 < s
    · have e : ptO s = false := decide_eq_false (by omega)
      rw [e]
      clear e
      go_enter Try.func130, Try.ntmps130
      go_wp2
      go_ret
      exact ⟨rfl, rfl⟩
    · have e : ptO s = true := decide_eq_true (by omega)
      rw [e]
      clear e
      go_enter Try.func130, Try.ntmps130
      go_wp2
      go_ret
      exact ⟨rfl, rfl⟩
theorem rpointer_any (s : Int) (w : World) : Calls Try.prog 101 #[.int .i64 s] w fun e w' => e = .returned (.bool (ptO s)) ∧ w = w' := by
  by_cases h : 0 ≤ s
  · by_cases h2 : s ≤ 65535
    · have e : ptO s = true := decide_eq_true ⟨h, h2⟩
      rw [e]
      clear e
      go_enter Try.func101, Try.ntmps101
      go_wp2
      go_ret
      exact ⟨rfl, rfl⟩
    · have e : ptO s = false := decide_eq_false (by omega)
      rw [e]
      clear e
      go_enter Try.func101, Try.ntmps101
      go_wp2
      go_ret
      exact ⟨rfl, rfl⟩
  · have e : ptO s = false := decide_eq_false (by omega)
    rw [e]
    clear e
    go_enter Try.func101, Try.ntmps101
    go_wp2
    go_ret
    exact ⟨rfl, rfl⟩
theorem firstTold_any (i : Nat) (hi : i < 18) (w : World) : Calls Try.prog 176 #[.int .i64 i] w fun e w' => e = .returned (.int .i64 (ftI i)) ∧ w = w' := by
  unfold ftI
  by_cases h : i = 16
  · subst h
    go_enter Try.func176, Try.ntmps176
    go_wp2
    go_ret
    exact ⟨rfl, rfl⟩
  · by_cases h2 : i = 17
    · subst h2
      go_enter Try.func176, Try.ntmps176
      go_wp2
      go_ret
      exact ⟨rfl, rfl⟩
    · rw [if_neg h, if_neg h2]
      have d1 : decide ((i : Int) = 16) = false := decide_eq_false (by omega)
      have d2 : decide ((i : Int) = 17) = false := decide_eq_false (by omega)
      go_enter Try.func176, Try.ntmps176
      go_wp2
      go_ret
      exact ⟨rfl, rfl⟩
theorem wq56 {s : Int} (h0 : 0 ≤ s) (h1 : s ≤ 46368) : IntKind.i64.wrap ((s + 55).tdiv 56) = (s + 55) / 56 := by
  rw [Int.tdiv_eq_ediv_of_nonneg (by omega)]
  exact IntWalk.i64_in _ (by omega)
theorem blocks_any (s : Int) (w : World) : Calls Try.prog 71 #[.int .i64 s] w fun e w' => e = .returned (.int .i64 (blkN s)) ∧ w = w' := by
  have hc := isSize_any s w
  by_cases h : 0 ≤ s ∧ s ≤ 46368
  · have e : szO s = true := decide_eq_true h
    rw [e] at hc
    have w1 : IntKind.i64.wrap (s + 56) = s + 56 := IntWalk.i64_in _ (by omega)
    have w2 : IntKind.i64.wrap (s + 56 - 1) = s + 55 := by rw [show s + 56 - 1 = s + 55 by omega]; exact IntWalk.i64_in _ (by omega)
    have w3 := wq56 h.1 h.2
    have hb : blkN s = (s + 55) / 56 := by rw [blkN, if_pos h]
    rw [hb]
    clear e hb h
    go_enter Try.func71, Try.ntmps71
    go_wp2_with (fail)
    refine hc.mono ?_
    rintro e w2 ⟨rfl, rfl⟩
    go_wp2_with (fail)
    go_ret
    exact ⟨rfl, rfl⟩
  · have e : szO s = false := decide_eq_false h
    rw [e] at hc
    have hb : blkN s = 0 := by rw [blkN, if_neg h]
    rw [hb]
    clear e hb h
    go_enter Try.func71, Try.ntmps71
    go_wp2_with (fail)
    refine hc.mono ?_
    rintro e w2 ⟨rfl, rfl⟩
    go_wp2_with (fail)
    go_ret
    exact ⟨rfl, rfl⟩
theorem rblocks_any (s : Int) (w : World) : Calls Try.prog 59 #[.int .i64 s] w fun e w' => e = .returned (.int .i64 (blkN s)) ∧ w = w' := by
  by_cases h0 : 0 ≤ s
  · by_cases h1 : s ≤ 46368
    · have w1 : IntKind.i64.wrap (s + 55) = s + 55 := IntWalk.i64_in _ (by omega)
      have w3 := wq56 h0 h1
      have hb : blkN s = (s + 55) / 56 := by rw [blkN, if_pos ⟨h0, h1⟩]
      rw [hb]
      clear hb
      go_enter Try.func59, Try.ntmps59
      go_wp2
      go_ret
      exact ⟨rfl, rfl⟩
    · have hb : blkN s = 0 := by rw [blkN, if_neg (by omega)]
      rw [hb]
      clear hb
      go_enter Try.func59, Try.ntmps59
      go_wp2
      go_ret
      exact ⟨rfl, rfl⟩
  · have hb : blkN s = 0 := by rw [blkN, if_neg (by omega)]
    rw [hb]
    clear hb
    go_enter Try.func59, Try.ntmps59
    go_wp2
    go_ret
    exact ⟨rfl, rfl⟩


/-- A node as it lies in memory. -/
structure Nw where
  ino : Int
  kind : Int
  links : Int
  size : Int
  a : Option Addr
  n : Nat
  c : Nat
  ks : List Int
instance : Inhabited Nw := ⟨⟨0, 0, 0, 0, none, 0, 0, []⟩⟩
def Nw.nd (x : Nw) : Nd := ⟨x.ino, x.kind, x.links, x.size, x.ks⟩
abbrev nwV (x : Nw) : Value := .agg #[.int .i64 x.ino, .int .i64 x.kind, .int .i64 x.links, .int .i64 x.size, .slice x.a x.n x.c]
structure NwIn (w : World) (b o : Nat) (x : Nw) : Prop where
  c0 : w.cell? ⟨b, o, none⟩ = some (.int .i64 x.ino)
  c1 : w.cell? ⟨b, o + 1, none⟩ = some (.int .i64 x.kind)
  c2 : w.cell? ⟨b, o + 2, none⟩ = some (.int .i64 x.links)
  c3 : w.cell? ⟨b, o + 3, none⟩ = some (.int .i64 x.size)
  c4 : w.cell? ⟨b, o + 4, none⟩ = some (.slice x.a x.n x.c)
  ins : Ins w x.a x.n x.ks
  nil : x.a = none → x.n = 0 ∧ x.c = 0
  max : x.n ≤ 9223372036854775807
def NwsAt (w : World) (a : Option Addr) (len : Nat) (f : Nat → Nw) : Prop :=
  len = 0 ∨ ∃ b off, a = some ⟨b, off, none⟩ ∧ b < w.heap.size ∧ ∀ i, i < len → NwIn w b (off + i * 5) (f i)
section
variable {w w' : World} {a : Option Addr} {len b o : Nat} {f : Nat → Nw} {x : Nw}
theorem NwIn.next (h : NwIn w b o x) (hlt : b < w.heap.size) (hb : Below w.heap.size w w') : NwIn w' b o x :=
  have g := fun j => hb.cell (p := ⟨b, j, none⟩) hlt
  ⟨(g _).trans h.c0, (g _).trans h.c1, (g _).trans h.c2, (g _).trans h.c3, (g _).trans h.c4, h.ins.next hb, h.nil, h.max⟩
theorem NwsAt.next (h : NwsAt w a len f) (hb : Below w.heap.size w w') : NwsAt w' a len f := by
  rcases h with h0 | ⟨b, off, e, hlt, hc⟩
  · exact .inl h0
  · exact .inr ⟨b, off, e, Nat.lt_of_lt_of_le hlt hb.size, fun i hi => (hc i hi).next hlt hb⟩
end
/-- How many addresses there are. -/
abbrev adN (d r s : Int) : Int := s * PL d r
theorem adN_bd {d r s : Int} (h : Rt d r s) : 12 ≤ adN d r s ∧ adN d r s ≤ 3776 := by
  obtain ⟨p1, p2, _, _⟩ := PL_bd h.d1 h.d2 h.r1 h.r2
  have s1 := h.s1
  have s2 := h.s2
  unfold adN
  constructor
  · calc (12 : Int) = 12 * 1 := by omega
      _ ≤ s * PL d r := Int.mul_le_mul s1 p1 (by omega) (by omega)
  · calc s * PL d r ≤ 64 * 59 := Int.mul_le_mul s2 p2 (by omega) (by omega)
      _ = 3776 := by omega
theorem raddr_any (d r s a : Int) (w : World) (h : Rt d r s) :
    Calls Try.prog 53 #[gv d r s, .int .i64 a] w fun e w' => e = .returned (.bool (isA (adN d r s) a)) ∧ Below w.heap.size w w' := by
  have hx := Bx.mk' w d r s 23
  have hB : Below w.heap.size w (w.alloc (.cells #[.int .i64 d, .int .i64 r, .int .i64 s] 23 (0, 0))) := (Below.refl _ _).alloc (Nat.le_refl _) _
  obtain ⟨w1, hw1⟩ : ∃ w1, w1 = w.alloc (.cells #[.int .i64 d, .int .i64 r, .int .i64 s] 23 (0, 0)) := ⟨_, rfl⟩
  rw [← hw1] at hx hB
  have HW := Lib.hid hw1
  have HX := Lib.hid hx.drew
  have HB := Lib.hid (below_drewN hB 1)
  have HR := Lib.hid h
  have hN := adN_bd h
  clear hw1 hx hB h
  by_cases h1 : 1 ≤ a
  · obtain ⟨N, hNe⟩ : ∃ N, N = adN d r s := ⟨_, rfl⟩
    have hm : IntKind.i64.wrap (s * PL d r) = N := by rw [hNe]; exact IntWalk.i64_in _ (by unfold adN at hN; omega)
    have hres : isA (adN d r s) a = decide (a ≤ N) := by
      rw [← hNe, isA]
      by_cases h2 : a ≤ N
      · rw [decide_eq_true h2, decide_eq_true ⟨h1, h2⟩]
      · rw [decide_eq_false h2, decide_eq_false fun h => h2 h.2]
    rw [hres]
    have d0 : decide ((1 : Int) ≤ a) = true := decide_eq_true h1
    have HM := Lib.hid hm
    have y1 := HX.out.c0
    have y2 := HX.out.c1
    have y3 := HX.out.c2
    clear hm hN hNe hres
    go_enter Try.func53, Try.ntmps53
    go_upto_region 1 with fail
    rw [← HW.out]
    refine wp_region_held_drew (S := (fun w' => w'.cell? ⟨w.heap.size, 0, none⟩ = some (.int .i64 d) ∧ w'.cell? ⟨w.heap.size, 1, none⟩ = some (.int .i64 r) ∧ w'.cell? ⟨w.heap.size, 2, none⟩ = some (.int .i64 s))) (by kernel_rfl) ?_ (fun hHeld => ?_)
    · exact ⟨y1, y2, y3⟩
    refine wpAnyH_take (i := 0) (v := ?_) rfl (by kernel_rfl) (by kernel_rfl) (by kernel_rfl) (fun _ _ _ h => h) (Or.inl ⟨by rfl, fun w hSw => ?_⟩) (by assumption) ?_
    rotate_left
    · (try dsimp only at hSw); go_simp; try with_reducible rfl
    simp only [Act.put, List.setIfInBounds_toArray, List.set_cons_zero, List.set_cons_succ, List.getElem_toArray, List.getElem_cons_zero]
    refine wpAnyH_take (i := 1) (v := ?_) rfl (by kernel_rfl) (by kernel_rfl) (by kernel_rfl) (fun _ _ _ h => h) (Or.inl ⟨by rfl, fun w hSw => ?_⟩) (by assumption) ?_
    rotate_left
    · (try dsimp only at hSw); go_simp; try with_reducible rfl
    simp only [Act.put, List.setIfInBounds_toArray, List.set_cons_zero, List.set_cons_succ, List.getElem_toArray, List.getElem_cons_succ, List.getElem_cons_zero]
    refine wpAnyH_take (i := 2) (v := ?_) rfl (by kernel_rfl) (by kernel_rfl) (by kernel_rfl) (fun _ _ _ h => h) (Or.inl ⟨by rfl, fun w hSw => ?_⟩) (by assumption) ?_
    rotate_left
    · (try dsimp only at hSw); go_simp; try with_reducible rfl
    simp only [Act.put, List.setIfInBounds_toArray, List.set_cons_zero, List.set_cons_succ, List.getElem_toArray, List.getElem_cons_succ, List.getElem_cons_zero]
    refine wpAnyH_take (i := 3) (v := ?_) rfl (by kernel_rfl) (by kernel_rfl) (by kernel_rfl) (fun _ _ _ h => h) (Or.inl ⟨by rfl, fun w hSw => ?_⟩) (by assumption) ?_
    rotate_left
    · (try dsimp only at hSw); go_simp; try with_reducible rfl
    simp only [Act.put, List.setIfInBounds_toArray, List.set_cons_zero, List.set_cons_succ, List.getElem_toArray, List.getElem_cons_succ, List.getElem_cons_zero]
    refine wpAnyH_take (i := 4) (v := ?_) rfl (by kernel_rfl) (by kernel_rfl) (by kernel_rfl) (fun _ _ _ h => h) (Or.inl ⟨by rfl, fun w hSw => ?_⟩) (by assumption) ?_
    rotate_left
    · (try dsimp only at hSw); go_simp; try with_reducible rfl
    simp only [Act.put, List.setIfInBounds_toArray, List.set_cons_zero, List.set_cons_succ, List.getElem_toArray, List.getElem_cons_succ, List.getElem_cons_zero]
    refine wpAnyH_take (i := 5) (v := ?_) rfl (by kernel_rfl) (by kernel_rfl) (by kernel_rfl) (fun _ _ _ h => h) (Or.inl ⟨by rfl, fun w hSw => ?_⟩) (by assumption) ?_
    rotate_left
    · (try dsimp only at hSw); go_simp; try with_reducible rfl
    simp only [Act.put, List.setIfInBounds_toArray, List.set_cons_zero, List.set_cons_succ, List.getElem_toArray, List.getElem_cons_succ, List.getElem_cons_zero]
    refine wpAnyH_take (i := 6) (v := ?_) rfl (by kernel_rfl) (by kernel_rfl) (by kernel_rfl) (fun _ _ _ h => h) (Or.inl ⟨by rfl, fun w hSw => ?_⟩) (by assumption) ?_
    rotate_left
    · (try dsimp only at hSw); go_simp; try with_reducible rfl
    simp only [Act.put, List.setIfInBounds_toArray, List.set_cons_zero, List.set_cons_succ, List.getElem_toArray, List.getElem_cons_succ, List.getElem_cons_zero]
    refine wpAnyH_ready (rs := [7]) (by kernel_rfl) (by simp) ?_
    refine AllReadyH.cons rfl (fun K hK => ?_) AllReadyH.nil
    simp only [List.getElem_toArray, List.getElem_cons_succ, List.getElem_cons_zero]
    go_simp
    refine (rplaces_yes d r s _ HR.out).mono ?_
    rintro e w2 ⟨rfl, hb⟩
    have HX2 := Lib.hid (HX.out.next hb)
    have HB2 := Lib.hid (HB.out.trans (hb.mono HB.out.size))
    have w3 := HM.out
    clear hb
    go_wp2_with (fail)
    refine hK.out _ _ ⟨HX2.out.c0, HX2.out.c1, HX2.out.c2⟩ (fun hHeld => ?_)
    clear hK K
    refine wpAnyH_take (i := 8) (v := ?_) rfl (by kernel_rfl) (by kernel_rfl) (by kernel_rfl) (fun _ _ _ h => h) (Or.inl ⟨by rfl, fun w hSw => ?_⟩) (by assumption) ?_
    rotate_left
    · (try dsimp only at hSw); go_simp; try with_reducible rfl
    simp only [Act.put, List.setIfInBounds_toArray, List.set_cons_zero, List.set_cons_succ, List.getElem_toArray, List.getElem_cons_succ, List.getElem_cons_zero]
    refine wpAnyH_take (i := 9) (v := ?_) rfl (by kernel_rfl) (by kernel_rfl) (by kernel_rfl) (fun _ _ _ h => h) (Or.inl ⟨by rfl, fun w hSw => ?_⟩) (by assumption) ?_
    rotate_left
    · (try dsimp only at hSw); go_simp; try with_reducible rfl
    simp only [Act.put, List.setIfInBounds_toArray, List.set_cons_zero, List.set_cons_succ, List.getElem_toArray, List.getElem_cons_succ, List.getElem_cons_zero]
    refine wpAnyH_take (i := 10) (v := ?_) rfl (by kernel_rfl) (by kernel_rfl) (by kernel_rfl) (fun _ _ _ h => h) (Or.inl ⟨by rfl, fun w hSw => ?_⟩) (by assumption) ?_
    rotate_left
    · (try dsimp only at hSw); go_simp; try with_reducible rfl
    simp only [Act.put, List.setIfInBounds_toArray, List.set_cons_zero, List.set_cons_succ, List.getElem_toArray, List.getElem_cons_succ, List.getElem_cons_zero]
    refine wpAnyH_take (i := 11) (v := ?_) rfl (by kernel_rfl) (by kernel_rfl) (by kernel_rfl) (fun _ _ _ h => h) (Or.inl ⟨by rfl, fun w hSw => ?_⟩) (by assumption) ?_
    rotate_left
    · (try dsimp only at hSw); go_simp; try with_reducible rfl
    simp only [Act.put, List.setIfInBounds_toArray, List.set_cons_zero, List.set_cons_succ, List.getElem_toArray, List.getElem_cons_succ, List.getElem_cons_zero]
    refine wpAnyH_done (by kernel_rfl) ?_ _
    go_wp2_with (fail)
    go_ret
    exact ⟨rfl, HB2.out⟩
  · have hres : isA (adN d r s) a = false := by rw [isA]; exact decide_eq_false fun h => h1 h.1
    rw [hres]
    have d0 : decide ((1 : Int) ≤ a) = false := decide_eq_false h1
    clear hN hres
    go_enter Try.func53, Try.ntmps53
    go_upto_region 1 with fail
    rw [← HW.out]
    refine wp_region_held_drew (S := (fun _ => True)) (by kernel_rfl) ?_ (fun hHeld => ?_)
    · exact trivial
    refine wpAnyH_take (i := 0) (v := ?_) rfl (by kernel_rfl) (by kernel_rfl) (by kernel_rfl) (fun _ _ _ h => h) (Or.inl ⟨by rfl, fun w hSw => ?_⟩) (by assumption) ?_
    rotate_left
    · (try dsimp only at hSw); go_simp; try with_reducible rfl
    simp only [Act.put, List.setIfInBounds_toArray, List.set_cons_zero, List.set_cons_succ, List.getElem_toArray, List.getElem_cons_zero]
    refine wpAnyH_take (i := 1) (v := ?_) rfl (by kernel_rfl) (by kernel_rfl) (by kernel_rfl) (fun _ _ _ h => h) (Or.inl ⟨by rfl, fun w hSw => ?_⟩) (by assumption) ?_
    rotate_left
    · (try dsimp only at hSw); go_simp; try with_reducible rfl
    simp only [Act.put, List.setIfInBounds_toArray, List.set_cons_zero, List.set_cons_succ, List.getElem_toArray, List.getElem_cons_succ, List.getElem_cons_zero]
    refine wpAnyH_take (i := 2) (v := ?_) rfl (by kernel_rfl) (by kernel_rfl) (by kernel_rfl) (fun _ _ _ h => h) (Or.inl ⟨by rfl, fun w hSw => ?_⟩) (by assumption) ?_
    rotate_left
    · (try dsimp only at hSw); go_simp; try with_reducible rfl
    simp only [Act.put, List.setIfInBounds_toArray, List.set_cons_zero, List.set_cons_succ, List.getElem_toArray, List.getElem_cons_succ, List.getElem_cons_zero]
    refine wpAnyH_take (i := 3) (v := undef) rfl (by kernel_rfl) (by kernel_rfl) (by kernel_rfl) (fun _ _ _ h => h) (Or.inr ⟨by rfl, rfl⟩) (by assumption) ?_
    simp only [Act.put, List.setIfInBounds_toArray, List.set_cons_zero, List.set_cons_succ, List.getElem_toArray, List.getElem_cons_succ, List.getElem_cons_zero]
    refine wpAnyH_take (i := 4) (v := undef) rfl (by kernel_rfl) (by kernel_rfl) (by kernel_rfl) (fun _ _ _ h => h) (Or.inr ⟨by rfl, rfl⟩) (by assumption) ?_
    simp only [Act.put, List.setIfInBounds_toArray, List.set_cons_zero, List.set_cons_succ, List.getElem_toArray, List.getElem_cons_succ, List.getElem_cons_zero]
    refine wpAnyH_take (i := 5) (v := undef) rfl (by kernel_rfl) (by kernel_rfl) (by kernel_rfl) (fun _ _ _ h => h) (Or.inr ⟨by rfl, rfl⟩) (by assumption) ?_
    simp only [Act.put, List.setIfInBounds_toArray, List.set_cons_zero, List.set_cons_succ, List.getElem_toArray, List.getElem_cons_succ, List.getElem_cons_zero]
    refine wpAnyH_take (i := 6) (v := undef) rfl (by kernel_rfl) (by kernel_rfl) (by kernel_rfl) (fun _ _ _ h => h) (Or.inr ⟨by rfl, rfl⟩) (by assumption) ?_
    simp only [Act.put, List.setIfInBounds_toArray, List.set_cons_zero, List.set_cons_succ, List.getElem_toArray, List.getElem_cons_succ, List.getElem_cons_zero]
    refine wpAnyH_take (i := 7) (v := undef) rfl (by kernel_rfl) (by kernel_rfl) (by kernel_rfl) (fun _ _ _ h => h) (Or.inr ⟨by rfl, rfl⟩) (by assumption) ?_
    simp only [Act.put, List.setIfInBounds_toArray, List.set_cons_zero, List.set_cons_succ, List.getElem_toArray, List.getElem_cons_succ, List.getElem_cons_zero]
    refine wpAnyH_take (i := 8) (v := undef) rfl (by kernel_rfl) (by kernel_rfl) (by kernel_rfl) (fun _ _ _ h => h) (Or.inr ⟨by rfl, rfl⟩) (by assumption) ?_
    simp only [Act.put, List.setIfInBounds_toArray, List.set_cons_zero, List.set_cons_succ, List.getElem_toArray, List.getElem_cons_succ, List.getElem_cons_zero]
    refine wpAnyH_take (i := 9) (v := undef) rfl (by kernel_rfl) (by kernel_rfl) (by kernel_rfl) (fun _ _ _ h => h) (Or.inr ⟨by rfl, rfl⟩) (by assumption) ?_
    simp only [Act.put, List.setIfInBounds_toArray, List.set_cons_zero, List.set_cons_succ, List.getElem_toArray, List.getElem_cons_succ, List.getElem_cons_zero]
    refine wpAnyH_take (i := 10) (v := ?_) rfl (by kernel_rfl) (by kernel_rfl) (by kernel_rfl) (fun _ _ _ h => h) (Or.inl ⟨by rfl, fun w hSw => ?_⟩) (by assumption) ?_
    rotate_left
    · (try dsimp only at hSw); go_simp; try with_reducible rfl
    simp only [Act.put, List.setIfInBounds_toArray, List.set_cons_zero, List.set_cons_succ, List.getElem_toArray, List.getElem_cons_succ, List.getElem_cons_zero]
    refine wpAnyH_take (i := 11) (v := ?_) rfl (by kernel_rfl) (by kernel_rfl) (by kernel_rfl) (fun _ _ _ h => h) (Or.inl ⟨by rfl, fun w hSw => ?_⟩) (by assumption) ?_
    rotate_left
    · (try dsimp only at hSw); go_simp; try with_reducible rfl
    simp only [Act.put, List.setIfInBounds_toArray, List.set_cons_zero, List.set_cons_succ, List.getElem_toArray, List.getElem_cons_succ, List.getElem_cons_zero]
    refine wpAnyH_done (by kernel_rfl) ?_ _
    go_wp2_with (fail)
    go_ret
    exact ⟨rfl, HB.out⟩

/-- A record's numbers, as cells. -/
def rcs (f : Nat → Int) : Array Value := #[.int .i64 (f 0), .int .i64 (f 1), .int .i64 (f 2), .int .i64 (f 3), .int .i64 (f 4), .int .i64 (f 5), .int .i64 (f 6), .int .i64 (f 7), .int .i64 (f 8), .int .i64 (f 9), .int .i64 (f 10), .int .i64 (f 11), .int .i64 (f 12), .int .i64 (f 13), .int .i64 (f 14), .int .i64 (f 15), .int .i64 (f 16), .int .i64 (f 17), .int .i64 (f 18), .int .i64 (f 19), .int .i64 (f 20)]
abbrev rcv (f : Nat → Int) : Value := .agg (rcs f)
/-- Eighteen numbers, as cells. -/
def pcs (f : Nat → Int) : Array Value := #[.int .i64 (f 0), .int .i64 (f 1), .int .i64 (f 2), .int .i64 (f 3), .int .i64 (f 4), .int .i64 (f 5), .int .i64 (f 6), .int .i64 (f 7), .int .i64 (f 8), .int .i64 (f 9), .int .i64 (f 10), .int .i64 (f 11), .int .i64 (f 12), .int .i64 (f 13), .int .i64 (f 14), .int .i64 (f 15), .int .i64 (f 16), .int .i64 (f 17)]
abbrev pcv (f : Nat → Int) : Value := .agg (pcs f)
def upd (f : Nat → Int) (k : Nat) (z : Int) : Nat → Int := fun i => if i = k then z else f i
theorem rcs_get (f : Nat → Int) {i : Nat} (h : i < 21) : (rcs f)[i]? = some (.int .i64 (f i)) := by
  rcases (by omega : i = 0 ∨ i = 1 ∨ i = 2 ∨ i = 3 ∨ i = 4 ∨ i = 5 ∨ i = 6 ∨ i = 7 ∨ i = 8 ∨ i = 9 ∨ i = 10 ∨ i = 11 ∨ i = 12 ∨ i = 13 ∨ i = 14 ∨ i = 15 ∨ i = 16 ∨ i = 17 ∨ i = 18 ∨ i = 19 ∨ i = 20) with rfl | rfl | rfl | rfl | rfl | rfl | rfl | rfl | rfl | rfl | rfl | rfl | rfl | rfl | rfl | rfl | rfl | rfl | rfl | rfl | rfl <;> rfl
theorem pcs_get (f : Nat → Int) {i : Nat} (h : i < 18) : (pcs f)[i]? = some (.int .i64 (f i)) := by
  rcases (by omega : i = 0 ∨ i = 1 ∨ i = 2 ∨ i = 3 ∨ i = 4 ∨ i = 5 ∨ i = 6 ∨ i = 7 ∨ i = 8 ∨ i = 9 ∨ i = 10 ∨ i = 11 ∨ i = 12 ∨ i = 13 ∨ i = 14 ∨ i = 15 ∨ i = 16 ∨ i = 17) with rfl | rfl | rfl | rfl | rfl | rfl | rfl | rfl | rfl | rfl | rfl | rfl | rfl | rfl | rfl | rfl | rfl | rfl <;> rfl
theorem rcs_list (f : Nat → Int) : (rcs f).toList = (List.range 21).map fun i => Value.int .i64 (f i) := rfl
theorem pcs_list (f : Nat → Int) : (pcs f).toList = (List.range 18).map fun i => Value.int .i64 (f i) := rfl
theorem map_set (f : Nat → Int) (n k : Nat) (z : Int) : ((List.range n).map fun i => Value.int .i64 (f i)).set k (.int .i64 z) = (List.range n).map fun i => Value.int .i64 (upd f k z i) := by
  apply List.ext_getElem (by simp)
  intro i h1 h2
  have hi : i < n := by simpa using h2
  rw [List.getElem_set]
  by_cases e : k = i
  · subst e; simp [upd]
  · simp [upd, e, Ne.symm e]
theorem rcs_set (f : Nat → Int) (k : Nat) (z : Int) : (rcs f).setIfInBounds k (.int .i64 z) = rcs (upd f k z) := by
  apply Array.ext'
  rw [Array.toList_setIfInBounds, rcs_list, rcs_list, map_set]
theorem pcs_set (f : Nat → Int) (k : Nat) (z : Int) : (pcs f).setIfInBounds k (.int .i64 z) = pcs (upd f k z) := by
  apply Array.ext'
  rw [Array.toList_setIfInBounds, pcs_list, pcs_list, map_set]
theorem rcs_congr {f g : Nat → Int} (h : ∀ i, i < 21 → f i = g i) : rcs f = rcs g := by
  apply Array.ext'
  rw [rcs_list, rcs_list]
  exact List.map_congr_left fun i hi => by rw [h i (List.mem_range.1 hi)]
theorem pcs_congr {f g : Nat → Int} (h : ∀ i, i < 18 → f i = g i) : pcs f = pcs g := by
  apply Array.ext'
  rw [pcs_list, pcs_list]
  exact List.map_congr_left fun i hi => by rw [h i (List.mem_range.1 hi)]
/-- The record that tells nothing. -/
def noR : Nat → Int := fun _ => 0

/-- A record lies in block b. -/
structure Rcb (w : World) (b : Nat) (f : Nat → Int) : Prop where
  row : w.heap[b]? = some (.cells (rcs f) 104 (0, 0))
/-- Eighteen numbers lie in block b. -/
structure Pcb (w : World) (b : Nat) (f : Nat → Int) : Prop where
  row : w.heap[b]? = some (.cells (pcs f) 186 (0, 0))
section
variable {w w' : World} {b : Nat} {f : Nat → Int}
theorem Rcb.lt (h : Rcb w b f) : b < w.heap.size := lt_of_block h.row
theorem Rcb.cell (h : Rcb w b f) {i : Nat} (hi : i < 21) : w.cell? ⟨b, i, none⟩ = some (.int .i64 (f i)) := by
  rw [cell_of_row w b i _ _ (0, 0) h.row, rcs_get f hi]
theorem Rcb.free (h : Rcb w b f) (i : Nat) : w.frozen? ⟨b, i, none⟩ = false := frozen_of_row w b i _ _ h.row
theorem Rcb.below (h : Rcb w b f) {B : Nat} (hB : b < B) (hb : Below B w w') : Rcb w' b f := ⟨(hb.block b hB).trans h.row⟩
theorem Rcb.next (h : Rcb w b f) (hb : Below w.heap.size w w') : Rcb w' b f := h.below h.lt hb
theorem Rcb.alloc (h : Rcb w b f) (o : Obj) : Rcb (w.alloc o) b f := h.next ((Below.refl _ _).alloc (Nat.le_refl _) o)
theorem Rcb.drew (h : Rcb w b f) : Rcb w.drew b f := ⟨h.row⟩
theorem Rcb.mk' (w : World) (f : Nat → Int) : Rcb (w.alloc (.cells (rcs f) 104 (0, 0))) w.heap.size f := ⟨heap_alloc_new w _⟩
theorem Rcb.set (h : Rcb w b f) (k : Nat) (z : Int) : Rcb (w.setCell ⟨b, k, none⟩ (.int .i64 z)) b (upd f k z) := by
  refine ⟨?_⟩
  rw [heap_setCell_same w b k _ _ _ h.row, rcs_set]
theorem Rcb.load (h : Rcb w b f) : (loadVar 104 ⟨b, 0, none⟩).run Try.prog w = .ok (rcv f) w :=
  run_loadVar_row w b _ _ _ _ _ h.row Try.underlying104 rfl (by kernel_rfl)
theorem Pcb.lt (h : Pcb w b f) : b < w.heap.size := lt_of_block h.row
theorem Pcb.cell (h : Pcb w b f) {i : Nat} (hi : i < 18) : w.cell? ⟨b, i, none⟩ = some (.int .i64 (f i)) := by
  rw [cell_of_row w b i _ _ (0, 0) h.row, pcs_get f hi]
theorem Pcb.free (h : Pcb w b f) (i : Nat) : w.frozen? ⟨b, i, none⟩ = false := frozen_of_row w b i _ _ h.row
theorem Pcb.below (h : Pcb w b f) {B : Nat} (hB : b < B) (hb : Below B w w') : Pcb w' b f := ⟨(hb.block b hB).trans h.row⟩
theorem Pcb.next (h : Pcb w b f) (hb : Below w.heap.size w w') : Pcb w' b f := h.below h.lt hb
theorem Pcb.alloc (h : Pcb w b f) (o : Obj) : Pcb (w.alloc o) b f := h.next ((Below.refl _ _).alloc (Nat.le_refl _) o)
theorem Pcb.drew (h : Pcb w b f) : Pcb w.drew b f := ⟨h.row⟩
theorem Pcb.mk' (w : World) (f : Nat → Int) : Pcb (w.alloc (.cells (pcs f) 186 (0, 0))) w.heap.size f := ⟨heap_alloc_new w _⟩
theorem Pcb.set (h : Pcb w b f) (k : Nat) (z : Int) : Pcb (w.setCell ⟨b, k, none⟩ (.int .i64 z)) b (upd f k z) := by
  refine ⟨?_⟩
  rw [heap_setCell_same w b k _ _ _ h.row, pcs_set]
theorem Pcb.load (h : Pcb w b f) : (loadVar 186 ⟨b, 0, none⟩).run Try.prog w = .ok (pcv f) w :=
  run_loadVar_row w b _ _ _ _ _ h.row Try.underlying186 rfl (by kernel_rfl)
end

theorem setRow_below {w0 w : World} {B g : Nat} (h : Below B w0 w) (hB : B ≤ g) (cs : Array Value) : Below B w0 (w.setRow g cs) :=
  h.trans ⟨rfl, rfl, rfl, by simp [World.setRow], fun k hk => setRow_other w g k _ (by omega)⟩
theorem Rcb.setRow {w : World} {b g : Nat} {f : Nat → Int} (h : Rcb w b f) (hne : b ≠ g) (cs : Array Value) : Rcb (w.setRow g cs) b f := ⟨(setRow_other w g b _ hne).trans h.row⟩
theorem Pcb.setRow {w : World} {b g : Nat} {f : Nat → Int} (h : Pcb w b f) (hne : b ≠ g) (cs : Array Value) : Pcb (w.setRow g cs) b f := ⟨(setRow_other w g b _ hne).trans h.row⟩
theorem Pcb.putRow {w : World} {b : Nat} {f : Nat → Int} (h : Pcb w b f) (g : Nat → Int) : Pcb (w.setRow b (pcs g)) b g := ⟨setRow_heap w b _ _ _ _ h.row⟩
theorem Rcb.putRow {w : World} {b : Nat} {f : Nat → Int} (h : Rcb w b f) (g : Nat → Int) : Rcb (w.setRow b (rcs g)) b g := ⟨setRow_heap w b _ _ _ _ h.row⟩
theorem Pcb.setCell {w : World} {b g : Nat} {f : Nat → Int} (h : Pcb w b f) (hne : b ≠ g) (i : Nat) (v : Value) : Pcb (w.setCell ⟨g, i, none⟩ v) b f := ⟨by rw [heap_setCell_other w ⟨g, i, none⟩ b v hne]; exact h.row⟩
theorem Rcb.setCell {w : World} {b g : Nat} {f : Nat → Int} (h : Rcb w b f) (hne : b ≠ g) (i : Nat) (v : Value) : Rcb (w.setCell ⟨g, i, none⟩ v) b f := ⟨by rw [heap_setCell_other w ⟨g, i, none⟩ b v hne]; exact h.row⟩
theorem Pcb.store {w : World} {b : Nat} {f : Nat → Int} (h : Pcb w b f) (g : Nat → Int) : (storeVar 186 ⟨b, 0, none⟩ (pcv g)).run Try.prog w = .ok () (w.setRow b (pcs g)) :=
  run_storeVar_row w b _ _ _ _ h.row (by kernel_rfl) rfl (by simp [pcs, Value.oneCell'])
theorem Rcb.store {w : World} {b : Nat} {f : Nat → Int} (h : Rcb w b f) (g : Nat → Int) : (storeVar 104 ⟨b, 0, none⟩ (rcv g)).run Try.prog w = .ok () (w.setRow b (rcs g)) :=
  run_storeVar_row w b _ _ _ _ h.row (by kernel_rfl) rfl (by simp [rcs, Value.oneCell'])
theorem Pcb.loadAt {w : World} {b : Nat} {f : Nat → Int} (h : Pcb w b f) : (Instr.loadAt 186 (.pointer (some ⟨b, 0, none⟩))).run Try.prog w = .ok (pcv f) w := by
  simp only [Instr.loadAt, Instr.sureAddr, Sem.run_bind, Sem.run_pure, Result.andThen]
  exact h.load
theorem Rcb.loadAt {w : World} {b : Nat} {f : Nat → Int} (h : Rcb w b f) : (Instr.loadAt 104 (.pointer (some ⟨b, 0, none⟩))).run Try.prog w = .ok (rcv f) w := by
  simp only [Instr.loadAt, Instr.sureAddr, Sem.run_bind, Sem.run_pure, Result.andThen]
  exact h.load
theorem Pcb.storeAt {w : World} {b : Nat} {f : Nat → Int} (h : Pcb w b f) (g : Nat → Int) : (Instr.storeAt 186 (.pointer (some ⟨b, 0, none⟩)) (pcv g)).run Try.prog w = .ok () (w.setRow b (pcs g)) := by
  simp only [Instr.storeAt, Instr.sureAddr, Sem.run_bind, Sem.run_pure, Result.andThen]
  exact h.store g
theorem Rcb.storeAt {w : World} {b : Nat} {f : Nat → Int} (h : Rcb w b f) (g : Nat → Int) : (Instr.storeAt 104 (.pointer (some ⟨b, 0, none⟩)) (rcv g)).run Try.prog w = .ok () (w.setRow b (rcs g)) := by
  simp only [Instr.storeAt, Instr.sureAddr, Sem.run_bind, Sem.run_pure, Result.andThen]
  exact h.store g
theorem res_c1 {P : Program} {fn : Func} {t : Tmp} {T : TypeId} (h : fn.results = #[.cell t T]) (tmps : Array Value) (w : World) (p : Addr) (v : Value) (hp : tmps.getD t undef = .pointer (some p)) (hv : (loadVar T p).run P w = .ok v w) : (results fn tmps).run P w = .ok v w := by
  have ha : asAddr (tmps.getD t undef) = (pure p : Sem Addr) := by rw [hp]; rfl
  unfold results
  rw [h]
  simp only [List.mapM_toArray, List.mapM_cons, List.mapM_nil, ha, Sem.run_bind, Sem.run_pure, Result.andThen_ok, hv, map_eq_pure_bind]
  rfl
theorem res_ct {P : Program} {fn : Func} {t u : Tmp} {T : TypeId} (h : fn.results = #[.cell t T, .tmp u]) (tmps : Array Value) (w : World) (p : Addr) (v x : Value) (hp : tmps.getD t undef = .pointer (some p)) (hu : tmps.getD u undef = x) (hv : (loadVar T p).run P w = .ok v w) : (results fn tmps).run P w = .ok (.tuple #[v, x]) w := by
  have ha : asAddr (tmps.getD t undef) = (pure p : Sem Addr) := by rw [hp]; rfl
  unfold results
  rw [h]
  simp only [List.mapM_toArray, List.mapM_cons, List.mapM_nil, ha, hu, Sem.run_bind, Sem.run_pure, Result.andThen_ok, hv, map_eq_pure_bind]
  rfl

section
variable {ops : Array Oper} {rest : List Oper} {o : Oper} {a : Act} {w : World} {Q : Exit → Act → World → Prop}
/-- A whole record is loaded; a whole row of eighteen; and stored. -/
theorem wpList_ldR (hw : Region.wanted o (yielded ops a.tmps) = true) (x : Operand) (ho : o.op = .load 104 x) (b : Nat) (hx : a.eval x = .pointer (some ⟨b, 0, none⟩)) (f : Nat → Int) (hb : Rcb w b f)
    (h : wpList Try.prog ops Q rest (a.put o.dst (rcv f)) w) : wpList Try.prog ops Q (o :: rest) a w :=
  wpList_step fun K hK => by
    rw [if_pos hw]
    unfold Oper.wp execOp
    simp only [ho, hx, Sem.run_bind, hb.loadAt, Result.andThen_ok, Sem.run_pure]
    exact hK _ _ h
theorem wpList_ldP (hw : Region.wanted o (yielded ops a.tmps) = true) (x : Operand) (ho : o.op = .load 186 x) (b : Nat) (hx : a.eval x = .pointer (some ⟨b, 0, none⟩)) (f : Nat → Int) (hb : Pcb w b f)
    (h : wpList Try.prog ops Q rest (a.put o.dst (pcv f)) w) : wpList Try.prog ops Q (o :: rest) a w :=
  wpList_step fun K hK => by
    rw [if_pos hw]
    unfold Oper.wp execOp
    simp only [ho, hx, Sem.run_bind, hb.loadAt, Result.andThen_ok, Sem.run_pure]
    exact hK _ _ h
theorem wpList_stR (hw : Region.wanted o (yielded ops a.tmps) = true) (x y : Operand) (ho : o.op = .store 104 x y) (b : Nat) (hx : a.eval x = .pointer (some ⟨b, 0, none⟩)) (g : Nat → Int) (hy : a.eval y = rcv g) (f : Nat → Int) (hb : Rcb w b f)
    (h : ∀ w', Rcb w' b g → (∀ k, k ≠ b → w'.heap[k]? = w.heap[k]?) → (∀ B w0, B ≤ b → Below B w0 w → Below B w0 w') → wpList Try.prog ops Q rest (a.put o.dst undef) w') : wpList Try.prog ops Q (o :: rest) a w :=
  wpList_step fun K hK => by
    rw [if_pos hw]
    unfold Oper.wp execOp
    simp only [ho, hx, hy, Sem.run_bind, hb.storeAt, Result.andThen_ok, Sem.run_pure]
    exact hK _ _ (h _ (hb.putRow g) (fun k hk => setRow_other w b k _ hk) (fun B w0 hB h0 => setRow_below h0 hB _))
theorem wpList_stP (hw : Region.wanted o (yielded ops a.tmps) = true) (x y : Operand) (ho : o.op = .store 186 x y) (b : Nat) (hx : a.eval x = .pointer (some ⟨b, 0, none⟩)) (g : Nat → Int) (hy : a.eval y = pcv g) (f : Nat → Int) (hb : Pcb w b f)
    (h : ∀ w', Pcb w' b g → (∀ k, k ≠ b → w'.heap[k]? = w.heap[k]?) → (∀ B w0, B ≤ b → Below B w0 w → Below B w0 w') → wpList Try.prog ops Q rest (a.put o.dst undef) w') : wpList Try.prog ops Q (o :: rest) a w :=
  wpList_step fun K hK => by
    rw [if_pos hw]
    unfold Oper.wp execOp
    simp only [ho, hx, hy, Sem.run_bind, hb.storeAt, Result.andThen_ok, Sem.run_pure]
    exact hK _ _ (h _ (hb.putRow g) (fun k hk => setRow_other w b k _ hk) (fun B w0 hB h0 => setRow_below h0 hB _))
end
end Go.Proofs.Ytegcjpocdfmpfaa
