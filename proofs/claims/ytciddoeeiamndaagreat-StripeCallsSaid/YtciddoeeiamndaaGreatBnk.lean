/-
  A bank in memory, and its small functions by contract.
-/
import Derived.Test.YtciddoeeiamndaaGreatOver
import Derived.Test.YtciddoeeiamndaaGreatOpm
import Derived.Test.YtciddoeeiamndaaGreatRight
namespace Go.Proofs.YtciddoeeiamndaaGreat
open Go.RowKit Go.Maps

/-- What a bank is, besides its rack: a geometry and a member. -/
structure Bn where
  d : Int
  r : Int
  s : Int
  e : Int
  sl : Int
  st : Int
/-- A member, as a value. -/
abbrev mb (e sl st : Int) : Value := .agg #[.int .i64 e, .int .i64 sl, .int .i64 st]
/-- The bank B, of the rack in block p, lies in block b. -/
structure BnAt (w : World) (b p : Nat) (B : Bn) : Prop where
  row : w.heap[b]? = some (.cells #[.pointer (some ⟨p, 0, none⟩), .int .i64 B.d, .int .i64 B.r, .int .i64 B.s, .int .i64 B.e, .int .i64 B.sl, .int .i64 B.st] 110 (0, 0))

section
variable {w w' : World} {b p : Nat} {B : Bn}
theorem BnAt.lt (h : BnAt w b p B) : b < w.heap.size := lt_of_block h.row
theorem BnAt.c0 (h : BnAt w b p B) : w.cell? ⟨b, 0, none⟩ = some (.pointer (some ⟨p, 0, none⟩)) := by rw [cell_of_row w _ _ _ _ (0, 0) h.row]; rfl
theorem BnAt.c1 (h : BnAt w b p B) : w.cell? ⟨b, 1, none⟩ = some (.int .i64 B.d) := by rw [cell_of_row w _ _ _ _ (0, 0) h.row]; rfl
theorem BnAt.c2 (h : BnAt w b p B) : w.cell? ⟨b, 2, none⟩ = some (.int .i64 B.r) := by rw [cell_of_row w _ _ _ _ (0, 0) h.row]; rfl
theorem BnAt.c3 (h : BnAt w b p B) : w.cell? ⟨b, 3, none⟩ = some (.int .i64 B.s) := by rw [cell_of_row w _ _ _ _ (0, 0) h.row]; rfl
theorem BnAt.c4 (h : BnAt w b p B) : w.cell? ⟨b, 4, none⟩ = some (.int .i64 B.e) := by rw [cell_of_row w _ _ _ _ (0, 0) h.row]; rfl
theorem BnAt.c5 (h : BnAt w b p B) : w.cell? ⟨b, 5, none⟩ = some (.int .i64 B.sl) := by rw [cell_of_row w _ _ _ _ (0, 0) h.row]; rfl
theorem BnAt.c6 (h : BnAt w b p B) : w.cell? ⟨b, 6, none⟩ = some (.int .i64 B.st) := by rw [cell_of_row w _ _ _ _ (0, 0) h.row]; rfl
theorem BnAt.fr (h : BnAt w b p B) (i : Nat) : w.frozen? ⟨b, i, none⟩ = false := frozen_of_row w _ i _ _ h.row
theorem BnAt.turn {N : Nat → Prop} (h : BnAt w b p B) (ht : Turn N w w') (hn : ¬ N b) : BnAt w' b p B := ⟨(ht.block _ h.lt hn).trans h.row⟩
theorem BnAt.next (h : BnAt w b p B) (hb : Below w.heap.size w w') : BnAt w' b p B := ⟨(hb.block _ h.lt).trans h.row⟩
theorem BnAt.drew (h : BnAt w b p B) : BnAt w.drew b p B := ⟨h.row⟩
theorem BnAt.drewN (h : BnAt w b p B) (q : Nat) : BnAt (w.drewN q) b p B := h.next (below_drewN (Below.refl _ _) q)
end

/-- The disk of a slot. -/
def Bn.disk (B : Bn) (i : Int) : Int := if B.st ≠ 0 ∧ i = B.sl then B.d else i
/-- Has the array such a slot? -/
def hasSl (d i : Int) : Bool := decide (0 ≤ i ∧ i < d)
/-- Can there be such a member? -/
def memOk (d sl st : Int) : Bool := decide (st = 0 ∨ ((st = 1 ∨ st = 2) ∧ 0 ≤ sl ∧ sl < d))
/-- How many sectors a disk has to have. -/
noncomputable def sect (d r s : Int) : Int := open Classical in if Rt d r s then 5 + s * r else 0
theorem sectors_all (d r s : Int) (w : World) : Calls Tryz.prog 9 #[gv d r s] w fun e w' => e = .returned (.int .i64 (sect d r s)) ∧ Below w.heap.size w w' := by
  unfold sect
  by_cases h : Rt d r s
  · rw [if_pos h]; exact sectors_yes d r s w h
  · rw [if_neg h]; exact sectors_no d r s w h

section
variable {w : World} {b p : Nat} {B : Bn}
theorem spare_any (h : BnAt w b p B) : Calls Tryz.prog 101 #[.pointer (some ⟨b, 0, none⟩)] w fun e w' => e = .returned (.int .i64 B.d) ∧ w' = w := by
  have c1 := h.c1
  go_enter Tryz.func101, Tryz.ntmps101
  go_wp2_with (fail)
  go_ret
  exact ⟨rfl, rfl⟩
theorem disk_any (i : Int) (h : BnAt w b p B) : Calls Tryz.prog 92 #[.pointer (some ⟨b, 0, none⟩), .int .i64 i] w fun e w' => e = .returned (.int .i64 (B.disk i)) ∧ w' = w := by
  have c5 := h.c5
  have c6 := h.c6
  unfold Bn.disk
  have hs := spare_any h
  by_cases h0 : B.st = 0
  · rw [if_neg (by simp [h0])]
    go_enter Tryz.func92, Tryz.ntmps92
    go_wp2_with (fail)
    go_ret
    exact ⟨rfl, rfl⟩
  · by_cases h1 : i = B.sl
    · rw [if_pos ⟨h0, h1⟩]
      go_enter Tryz.func92, Tryz.ntmps92
      go_wp2_with (go_at_call 101; refine hs.mono ?_; rintro e w' ⟨rfl, rfl⟩)
      go_ret
      exact ⟨rfl, rfl⟩
    · rw [if_neg (fun x => h1 x.2)]
      have h2 : (i == B.sl) = false := by simpa using h1
      go_enter Tryz.func92, Tryz.ntmps92
      go_wp2_with (fail)
      go_ret
      exact ⟨rfl, rfl⟩
theorem joining_any (i : Int) (h : BnAt w b p B) : Calls Tryz.prog 108 #[.pointer (some ⟨b, 0, none⟩), .int .i64 i] w fun e w' => e = .returned (.bool (decide (B.st = 1 ∧ i = B.sl))) ∧ w' = w := by
  have c5 := h.c5
  have c6 := h.c6
  by_cases h0 : B.st = 1
  · by_cases h1 : i = B.sl
    · rw [decide_eq_true (⟨h0, h1⟩ : B.st = 1 ∧ i = B.sl)]
      go_enter Tryz.func108, Tryz.ntmps108
      go_wp2_with (fail)
      go_ret
      exact ⟨rfl, rfl⟩
    · rw [decide_eq_false (fun x : B.st = 1 ∧ i = B.sl => h1 x.2)]
      have h2 : (i == B.sl) = false := by simpa using h1
      go_enter Tryz.func108, Tryz.ntmps108
      go_wp2_with (fail)
      go_ret
      exact ⟨rfl, rfl⟩
  · rw [decide_eq_false (fun x : B.st = 1 ∧ i = B.sl => h0 x.1)]
    go_enter Tryz.func108, Tryz.ntmps108
    go_wp2_with (fail)
    go_ret
    exact ⟨rfl, rfl⟩
end
theorem hasSlot_any (d r s i : Int) (w : World) : Calls Tryz.prog 90 #[gv d r s, .int .i64 i] w fun e w' => e = .returned (.bool (hasSl d i)) ∧ Below w.heap.size w w' := by
  by_cases h0 : 0 ≤ i
  · by_cases h1 : i < d
    · rw [show hasSl d i = true from decide_eq_true ⟨h0, h1⟩]
      go_enter Tryz.func90, Tryz.ntmps90
      go_wp2_with (fail)
      go_ret
      exact ⟨rfl, (Below.refl _ _).alloc (Nat.le_refl _) _⟩
    · rw [show hasSl d i = false from decide_eq_false (fun x => h1 x.2)]
      go_enter Tryz.func90, Tryz.ntmps90
      go_wp2_with (fail)
      go_ret
      exact ⟨rfl, (Below.refl _ _).alloc (Nat.le_refl _) _⟩
  · rw [show hasSl d i = false from decide_eq_false (fun x => h0 x.1)]
    go_enter Tryz.func90, Tryz.ntmps90
    go_wp2_with (fail)
    go_ret
    exact ⟨rfl, (Below.refl _ _).alloc (Nat.le_refl _) _⟩
theorem memberOf_any (d r s e sl st : Int) (w : World) : Calls Tryz.prog 73 #[mb e sl st, gv d r s] w fun e w' => e = .returned (.bool (memOk d sl st)) ∧ Below w.heap.size w w' := by
  have hb : ∀ x y : Obj, Below w.heap.size w ((w.alloc x).alloc y) := fun x y => ((Below.refl _ _).alloc (Nat.le_refl _) _).alloc (by simp) _
  by_cases h0 : st = 0
  · rw [show memOk d sl st = true from decide_eq_true (.inl h0)]
    go_enter Tryz.func73, Tryz.ntmps73
    go_wp2_with (fail)
    go_ret
    exact ⟨rfl, hb _ _⟩
  · by_cases h1 : st = 1 ∨ st = 2
    · rw [show memOk d sl st = hasSl d sl by unfold memOk hasSl; rw [decide_eq_decide]; omega]
      have hs := fun w => hasSlot_any d r s sl w
      rcases h1 with h1 | h1
      · subst h1
        clear h0
        go_enter Tryz.func73, Tryz.ntmps73
        go_wp2_with (go_at_call 90; refine (hs _).mono ?_; rintro e w' ⟨rfl, hb'⟩)
        go_ret
        exact ⟨rfl, (hb _ _).trans (hb'.mono (hb _ _).size)⟩
      · subst h1
        clear h0
        go_enter Tryz.func73, Tryz.ntmps73
        go_wp2_with (go_at_call 90; refine (hs _).mono ?_; rintro e w' ⟨rfl, hb'⟩)
        go_ret
        exact ⟨rfl, (hb _ _).trans (hb'.mono (hb _ _).size)⟩
    · rw [show memOk d sl st = false from decide_eq_false (fun x => x.elim h0 fun y => h1 y.1)]
      have h2 : ¬ st = 1 := fun x => h1 (.inl x)
      have h3 : ¬ st = 2 := fun x => h1 (.inr x)
      clear h1
      go_enter Tryz.func73, Tryz.ntmps73
      go_wp2_with (fail)
      go_ret
      exact ⟨rfl, hb _ _⟩

end Go.Proofs.YtciddoeeiamndaaGreat
