/-
  New blocks that are placed one behind the other: plain facts.
-/
import Derived.Test.YtgedgkdnjnbijaaWp
namespace Go.Proofs.Ytgedgkdnjnbijaa
open Go.RowKit
set_option linter.unusedVariables false
set_option linter.unusedSimpArgs false

theorem selL_lt {p : Nat → Bool} {n : Nat} {z : Int} (h : z ∈ selL p n) : 0 ≤ z ∧ z < n := by
  obtain ⟨k, hk, _, rfl⟩ := selL_mem.1 h
  omega
theorem selL_pair (p : Nat → Bool) (n : Nat) : (selL p n).Pairwise (· < ·) := by
  induction n with
  | zero => exact List.Pairwise.nil
  | succ n ih =>
    cases h : p n with
    | false => rw [selL_no h]; exact ih
    | true =>
      rw [selL_yes h, List.pairwise_append]
      refine ⟨ih, List.pairwise_singleton _ _, fun a ha b hb => ?_⟩
      rw [List.mem_singleton.1 hb]
      exact (selL_lt ha).2
theorem num_pair {F : List Int} (h : F.Pairwise (· < ·)) {i j : Nat} (hij : i < j) (hj : j < F.length) : num F i < num F j := by
  have := List.pairwise_iff_getElem.1 h i j (by omega) hj hij
  rwa [show num F i = F[i] by simp [num, List.getD, show i < F.length by omega], show num F j = F[j] by simp [num, List.getD, hj]]
/-- Numbers of blocks, rising. -/
structure Ris (F : List Int) : Prop where
  pair : F.Pairwise (· < ·)
  bd : ∀ i, i < F.length → 0 ≤ num F i ∧ num F i < 828
theorem ris_sel (p : Nat → Bool) : Ris (selL p 828) := ⟨selL_pair p 828, fun i hi => selL_lt (num_mem hi)⟩
theorem Ris.ne {F : List Int} (h : Ris F) {i j : Nat} (hi : i < F.length) (hj : j < F.length) (hne : i ≠ j) : (num F i).toNat ≠ (num F j).toNat := by
  have h1 := h.bd i hi
  have h2 := h.bd j hj
  rcases Nat.lt_or_gt_of_ne hne with h3 | h3
  · have := num_pair h.pair h3 hj; omega
  · have := num_pair h.pair h3 hi; omega
/-- Behind the first i places. -/
def plA (A : Nat → Int) (F : List Int) : Nat → Nat → Int
  | 0 => A
  | i + 1 => upd (plA A F i) (num F i).toNat (100 + (i : Int))
def plX (X : Nat → List Int) (F : List Int) : Nat → Nat → List Int
  | 0 => X
  | i + 1 => upd (plX X F i) (num F i).toNat []
theorem plX_off {X : Nat → List Int} {F : List Int} {i k : Nat} (h : ∀ j, j < i → (num F j).toNat ≠ k) : plX X F i k = X k := by
  induction i with
  | zero => rfl
  | succ i ih => rw [plX, upd_off _ _ (Ne.symm (h i (by omega))), ih fun j hj => h j (by omega)]
theorem plA_off {A : Nat → Int} {F : List Int} {i k : Nat} (h : ∀ j, j < i → (num F j).toNat ≠ k) : plA A F i k = A k := by
  induction i with
  | zero => rfl
  | succ i ih => rw [plA, upd_off _ _ (Ne.symm (h i (by omega))), ih fun j hj => h j (by omega)]
theorem plX_on {X : Nat → List Int} {F : List Int} {i j : Nat} (h : j < i) : plX X F i (num F j).toNat = [] := by
  induction i with
  | zero => omega
  | succ i ih =>
    rw [plX]
    by_cases e : (num F j).toNat = (num F i).toNat
    · rw [e, upd_at]
    · rw [upd_off _ _ e]
      exact ih (by
        rcases Nat.lt_or_ge j i with h2 | h2
        · exact h2
        · exact absurd (by rw [show j = i by omega]) e)
theorem plA_on {A : Nat → Int} {F : List Int} (hF : Ris F) {i j : Nat} (h : j < i) (hi : i ≤ F.length) : plA A F i (num F j).toNat = 100 + (j : Int) := by
  induction i with
  | zero => omega
  | succ i ih =>
    rw [plA]
    by_cases e : j = i
    · subst e; rw [upd_at]
    · rw [upd_off _ _ (hF.ne (by omega) (by omega) e), ih (by omega) (by omega)]
theorem plX_at {X : Nat → List Int} {F : List Int} (hF : Ris F) {i : Nat} (hi : i < F.length) : plX X F i (num F i).toNat = X (num F i).toNat :=
  plX_off fun j hj => hF.ne (by omega) hi (by omega)
theorem sel_idx {p : Nat → Bool} {k : Nat} (hk : k < 828) (h : p k = true) : ∃ i, i < (selL p 828).length ∧ num (selL p 828) i = (k : Int) := by
  have hm : (k : Int) ∈ selL p 828 := selL_mem.2 ⟨k, hk, h, rfl⟩
  obtain ⟨i, hi, he⟩ := List.getElem_of_mem hm
  exact ⟨i, hi, by simp [num, List.getD, hi, he]⟩
theorem pl_free (X : Nat → List Int) {k : Nat} (hk : k < 828) : freP (plX X (selL (freP X) 828) (selL (freP X) 828).length) k = false := by
  cases h : freP X k with
  | true =>
    obtain ⟨i, hi, he⟩ := sel_idx hk h
    have := plX_on (X := X) (F := selL (freP X) 828) hi
    rw [he] at this
    rw [freP, show plX X (selL (freP X) 828) (selL (freP X) 828).length k = [] from this]
    rfl
  | false =>
    by_cases hx : ∃ j, j < (selL (freP X) 828).length ∧ (num (selL (freP X) 828) j).toNat = k
    · obtain ⟨j, hj, he⟩ := hx
      have := plX_on (X := X) (F := selL (freP X) 828) hj
      rw [he] at this
      rw [freP, this]
      rfl
    · rw [freP, plX_off fun j hj e => hx ⟨j, hj, e⟩]
      exact h
theorem pl_there (A : Nat → Int) (X : Nat → List Int) {k : Nat} (hk : k < 828) : theP (plA A (selL (freP X) 828) (selL (freP X) 828).length) (plX X (selL (freP X) 828) (selL (freP X) 828).length) k = theP A X k := by
  have hF := ris_sel (freP X)
  by_cases hx : ∃ j, j < (selL (freP X) 828).length ∧ (num (selL (freP X) 828) j).toNat = k
  · obtain ⟨j, hj, he⟩ := hx
    have h1 := plA_on (A := A) hF hj (Nat.le_refl _)
    rw [he] at h1
    have h2 : freP X k = true := by
      obtain ⟨k', h3, h4, h5⟩ := selL_mem.1 (num_mem hj)
      rw [h5] at he
      rw [← he]
      exact h4
    rw [theP, theP, h1, decide_eq_true (by omega), Bool.or_true, show (!(X k).isEmpty) = freP X k from rfl, h2]
    rfl
  · rw [theP, theP, plA_off fun j hj e => hx ⟨j, hj, e⟩, plX_off fun j hj e => hx ⟨j, hj, e⟩]
end Go.Proofs.Ytgedgkdnjnbijaa
