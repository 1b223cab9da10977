/-
  A file's blocks in plain words: the address of each (0: at none) and its new bytes ([]: not new).
-/
import Derived.Test.YtgedgkdnjnbijaaNought
import Derived.Test.YtgedgkdnjnbijaaInts
namespace Go.Proofs.Ytgedgkdnjnbijaa
open Go.RowKit
set_option linter.unusedVariables false
set_option linter.unusedSimpArgs false

def upd {α : Type} (f : Nat → α) (k : Nat) (z : α) : Nat → α := fun i => if i = k then z else f i
theorem upd_at {α : Type} (f : Nat → α) (k : Nat) (z : α) : upd f k z k = z := if_pos rfl
theorem upd_off {α : Type} (f : Nat → α) {k i : Nat} (z : α) (h : i ≠ k) : upd f k z i = f i := if_neg h
/-- May this be an address, or 0? -/
def ptO (p : Int) : Bool := decide (0 ≤ p ∧ p ≤ 65535)
theorem ptO_iff {p : Int} : ptO p = true ↔ 0 ≤ p ∧ p ≤ 65535 := by simp [ptO]
/-- Can a map be made of these? -/
def nwO (ks : List Int) : Bool := decide (ks.length ≤ 828) && ks.all ptO
theorem all_pt {ks : List Int} : ks.all ptO = true ↔ ∀ i, i < ks.length → ptO (num ks i) = true := by
  rw [List.all_eq_true]
  constructor
  · intro h i hi
    have : num ks i = ks[i] := by simp [num, List.getD, hi]
    rw [this]
    exact h _ (List.getElem_mem hi)
  · intro h z hz
    obtain ⟨i, hi, rfl⟩ := List.getElem_of_mem hz
    have := h i hi
    rwa [show num ks i = ks[i] by simp [num, List.getD, hi]] at this
/-- The first k addresses alone. -/
def nwA (ks : List Int) (k : Nat) : Nat → Int := fun i => if i < k then num ks i else 0
theorem nwA_upd (ks : List Int) (k : Nat) : upd (nwA ks k) k (num ks k) = nwA ks (k + 1) := by
  funext i
  unfold upd nwA
  by_cases h : i = k
  · subst h; simp
  · by_cases h2 : i < k
    · rw [if_neg h, if_pos h2, if_pos (by omega)]
    · rw [if_neg h, if_neg h2, if_neg (by omega)]
theorem num_off {ks : List Int} {i : Nat} (h : ks.length ≤ i) : num ks i = 0 := by simp [num, List.getD, List.getElem?_eq_none h]
theorem nwA_all (ks : List Int) : nwA ks ks.length = num ks := by
  funext i
  unfold nwA
  by_cases h : i < ks.length
  · rw [if_pos h]
  · rw [if_neg h, num_off (by omega)]
/-- Is there such a block, and are these a block's bytes? -/
def inK (k : Int) : Bool := decide (0 ≤ k ∧ k < 828)
theorem inK_iff {k : Int} : inK k = true ↔ 0 ≤ k ∧ k < 828 := by simp [inK]
/-- A new block's bytes: none, if they are noughts. -/
def bnO (x : List Int) : List Int := if noughtB x then [] else x
/-- A row of numbers below n that meet p. -/
def selL (p : Nat → Bool) : Nat → List Int
  | 0 => []
  | k + 1 => selL p k ++ (if p k then [(k : Int)] else [])
theorem selL_yes {p : Nat → Bool} {k : Nat} (h : p k = true) : selL p (k + 1) = selL p k ++ [(k : Int)] := by rw [selL, h, if_pos rfl]
theorem selL_no {p : Nat → Bool} {k : Nat} (h : p k = false) : selL p (k + 1) = selL p k := by rw [selL, h]; simp
theorem selL_len (p : Nat → Bool) (k : Nat) : (selL p k).length ≤ k := by
  induction k with
  | zero => exact Nat.le_refl _
  | succ k ih =>
    cases h : p k with
    | true => rw [selL_yes h]; simp; exact ih
    | false => rw [selL_no h]; omega
theorem selL_congr {p q : Nat → Bool} {n : Nat} (h : ∀ k, k < n → p k = q k) : selL p n = selL q n := by
  induction n with
  | zero => rfl
  | succ n ih => rw [selL, selL, ih fun k hk => h k (by omega), h n (by omega)]
theorem selL_mem {p : Nat → Bool} {n : Nat} {z : Int} : z ∈ selL p n ↔ ∃ k : Nat, k < n ∧ p k = true ∧ z = (k : Int) := by
  induction n with
  | zero => simp [selL]
  | succ n ih =>
    rw [selL, List.mem_append, ih]
    constructor
    · rintro (⟨k, h1, h2, h3⟩ | h)
      · exact ⟨k, by omega, h2, h3⟩
      · cases hp : p n with
        | true => rw [hp] at h; simp at h; exact ⟨n, by omega, hp, h⟩
        | false => rw [hp] at h; simp at h
    · rintro ⟨k, h1, h2, h3⟩
      by_cases e : k = n
      · subst e; right; rw [h2]; simp [h3]
      · exact .inl ⟨k, by omega, h2, h3⟩
/-- The new ones; those that are there. -/
def freP (X : Nat → List Int) (k : Nat) : Bool := !(X k).isEmpty
def theP (A : Nat → Int) (X : Nat → List Int) (k : Nat) : Bool := !(X k).isEmpty || decide (0 < A k)
theorem freP_yes {X : Nat → List Int} {k : Nat} (h : 0 < (X k).length) : freP X k = true := by
  unfold freP
  cases hx : X k with
  | nil => rw [hx] at h; simp at h
  | cons a l => rfl
theorem freP_no {X : Nat → List Int} {k : Nat} (h : (X k).length = 0) : freP X k = false := by
  unfold freP
  rw [List.eq_nil_of_length_eq_zero h]
  rfl
/-- How many of the first k are at this address; and the addresses when these are at another one. -/
def mvN (A : Nat → Int) (f : Int) : Nat → Int
  | 0 => 0
  | k + 1 => mvN A f k + (if A k = f then 1 else 0)
theorem mvN_bd (A : Nat → Int) (f : Int) (k : Nat) : 0 ≤ mvN A f k ∧ mvN A f k ≤ k := by
  induction k with
  | zero => simp [mvN]
  | succ k ih => rw [mvN]; split <;> omega
def mvA (A : Nat → Int) (f t : Int) (k : Nat) : Nat → Int := fun i => if i < k ∧ A i = f then t else A i
theorem mvA_yes {A : Nat → Int} {f t : Int} {k : Nat} (h : A k = f) : upd (mvA A f t k) k t = mvA A f t (k + 1) := by
  funext i
  unfold upd mvA
  by_cases e : i = k
  · subst e; rw [if_pos rfl, if_pos ⟨by omega, h⟩]
  · rw [if_neg e]
    by_cases h2 : i < k ∧ A i = f
    · rw [if_pos h2, if_pos ⟨by omega, h2.2⟩]
    · rw [if_neg h2, if_neg (fun h3 => h2 ⟨by omega, h3.2⟩)]
theorem mvA_no {A : Nat → Int} {f t : Int} {k : Nat} (h : A k ≠ f) : mvA A f t k = mvA A f t (k + 1) := by
  funext i
  unfold mvA
  by_cases h2 : i < k ∧ A i = f
  · rw [if_pos h2, if_pos ⟨by omega, h2.2⟩]
  · rw [if_neg h2, if_neg (fun h3 => h2 ⟨by
      by_cases e : i = k
      · exact absurd (e ▸ h3.2) h
      · omega, h3.2⟩)]
theorem mvA_at (A : Nat → Int) (f t : Int) (k : Nat) : mvA A f t k k = A k := if_neg (by omega)
theorem mvA_zero (A : Nat → Int) (f t : Int) : mvA A f t 0 = A := by funext i; exact if_neg (by omega)
def moO (f t : Int) : Bool := decide (1 ≤ f ∧ 1 ≤ t ∧ t ≤ 65535)
/-- The blocks from n on are none: the first k of these. -/
def cutF {α : Type} (z : α) (A : Nat → α) (n k : Nat) : Nat → α := fun i => if n ≤ i ∧ i < k then z else A i
theorem cutF_upd {α : Type} (z : α) (A : Nat → α) (n k : Nat) (h : n ≤ k) : upd (cutF z A n k) k z = cutF z A n (k + 1) := by
  funext i
  unfold upd cutF
  by_cases e : i = k
  · subst e; rw [if_pos rfl, if_pos ⟨h, by omega⟩]
  · rw [if_neg e]
    by_cases h2 : n ≤ i ∧ i < k
    · rw [if_pos h2, if_pos ⟨h2.1, by omega⟩]
    · rw [if_neg h2, if_neg (fun h3 => h2 ⟨h3.1, by omega⟩)]
theorem cutF_none {α : Type} (z : α) (A : Nat → α) {n k : Nat} (h : k ≤ n) : cutF z A n k = A := by funext i; exact if_neg (by omega)
end Go.Proofs.Ytgedgkdnjnbijaa
