/-
  Records, in plain words: a start, the fields' bytes, noughts.
-/
import Derived.Test.YtgdkcdgomopnfaaHead
import Derived.Test.YtgdkcdgomopnfaaInts
import Derived.Test.YtgdkcdgomopnfaaNought
namespace Go.Proofs.Ytgdkcdgomopnfaa
open Go.RowKit

/-- The widths of a kind's fields. -/
def wids (k : Int) : List Int := if k = 2 then [4] else if k = 3 then [4, 1, 1] else [1, 1, 1]
theorem wids_bd (k : Int) (i : Nat) (h : i < (wids k).length) : 1 ≤ num (wids k) i ∧ num (wids k) i ≤ 4 := by
  unfold wids at h ⊢
  split
  · rw [if_pos (by assumption)] at h
    obtain rfl : i = 0 := by simpa using h
    decide
  · rw [if_neg (by assumption)] at h
    split
    · rw [if_pos (by assumption)] at h
      rcases (by simp at h; omega : i = 0 ∨ i = 1 ∨ i = 2) with rfl | rfl | rfl <;> decide
    · rw [if_neg (by assumption)] at h
      rcases (by simp at h; omega : i = 0 ∨ i = 1 ∨ i = 2) with rfl | rfl | rfl <;> decide
theorem wids_len (k : Int) : 1 ≤ (wids k).length ∧ (wids k).length ≤ 3 := by
  unfold wids
  split
  · decide
  · split <;> decide
/-- The first i fields have their widths. -/
def okW (ws ns : List Int) : Nat → Bool
  | 0 => true
  | i + 1 => okW ws ns i && hasW (num ns i) (num ws i)
/-- The bytes of the first i fields. -/
def catW (ws ns : List Int) : Nat → List Int
  | 0 => []
  | i + 1 => catW ws ns i ++ putL (num ws i) (num ns i)
def startL (k : Int) : List Int := [77, 79, 82, k]
def bodyL (k : Int) (ns : List Int) (i : Nat) : List Int := startL k ++ catW (wids k) ns i
def recO (k : Int) (ns : List Int) : Bool := okW (wids k) ns (wids k).length
def recL (k : Int) (ns : List Int) : List Int := if recO k ns then padL (bodyL k ns (wids k).length) 64 else []
theorem okW_le {ws ns : List Int} {i n : Nat} (h : i ≤ n) (hn : okW ws ns n = true) : okW ws ns i = true := by
  induction n with
  | zero => rw [Nat.le_zero.1 h]; rfl
  | succ n ih =>
    rcases Nat.lt_or_ge i (n + 1) with h1 | h1
    · exact ih (by omega) (by rw [okW, Bool.and_eq_true] at hn; exact hn.1)
    · rw [Nat.le_antisymm h h1]; exact hn
theorem okW_no {ws ns : List Int} {i n : Nat} (h : i < n) (hi : hasW (num ns i) (num ws i) = false) : okW ws ns n = false := by
  cases hn : okW ws ns n
  · rfl
  · have := okW_le (i := i + 1) h hn
    rw [okW, hi] at this
    simp at this
theorem put_le (k n : Int) : (putL k n).length ≤ 4 := by
  unfold putL
  split
  · next h =>
    rw [Bool.and_eq_true] at h
    have : 1 ≤ k ∧ k ≤ 4 := by simpa [isW] using h.1
    rw [digs_len]; omega
  · exact Nat.zero_le _
theorem catW_le (ws ns : List Int) (i : Nat) : (catW ws ns i).length ≤ 4 * i := by
  induction i with
  | zero => exact Nat.le_refl _
  | succ i ih => have := put_le (num ws i) (num ns i); rw [catW, List.length_append]; omega
theorem bodyL_le (k : Int) (ns : List Int) (i : Nat) : (bodyL k ns i).length ≤ 4 + 4 * i := by
  have := catW_le (wids k) ns i
  rw [bodyL, List.length_append]; simp only [startL, List.length_cons, List.length_nil]; omega
theorem catW_small (ws ns : List Int) (i : Nat) : AllB (catW ws ns i) := by
  induction i with
  | zero => intro z hz; cases hz
  | succ i ih => exact ih.app (putL_small _ _)
theorem bodyL_small {k : Int} (h0 : 0 ≤ k) (h1 : k ≤ 255) (ns : List Int) (i : Nat) : AllB (bodyL k ns i) := by
  refine AllB.app (fun z hz => ?_) (catW_small _ _ _)
  simp only [startL, List.mem_cons, List.not_mem_nil, or_false] at hz
  rcases hz with rfl | rfl | rfl | rfl <;> omega
theorem put_pos {k n : Int} (h : 1 ≤ k ∧ k ≤ 4) : (putL k n).length = 0 ↔ hasW n k = false := by
  unfold putL
  cases hh : hasW n k
  · simp
  · simp [isW_true h, digs_len]; omega
theorem bodyL_snoc (k : Int) (ns : List Int) (i : Nat) : bodyL k ns (i + 1) = bodyL k ns i ++ putL (num (wids k) i) (num ns i) := by
  rw [bodyL, catW, bodyL, List.append_assoc]

/-- What a Put answers: a record, in a new block; or none. -/
def PutPost (w : World) (ok : Bool) (zs : List Int) (e : Ending) (w' : World) : Prop :=
  ((ok = true ∧ ∃ g, e = .returned (.tuple #[.slice (some ⟨g, 0, none⟩) 64 64, .bool true]) ∧ w.heap.size ≤ g ∧ Blk w' g zs ∧ AllB zs ∧ zs.length = 64) ∨ (ok = false ∧ zs = [] ∧ e = .returned (.tuple #[.slice none 0 0, .bool false]))) ∧ Below w.heap.size w w'

/-- Where a field stands. -/
def posW (ws : List Int) : Nat → Int
  | 0 => 4
  | i + 1 => posW ws i + num ws i
/-- What stands where the first i fields do. -/
def numsL (x : List Int) (ws : List Int) : Nat → List Int
  | 0 => []
  | i + 1 => numsL x ws i ++ [getV x.length x (posW ws i) (num ws i)]
theorem numsL_len (x ws : List Int) (i : Nat) : (numsL x ws i).length = i := by
  induction i with
  | zero => rfl
  | succ i ih => rw [numsL, List.length_append, ih]; rfl

end Go.Proofs.Ytgdkcdgomopnfaa
