/-
  The greatest numbers of a list hang on no order: in plain words.
-/
import Derived.Test.YtgdkcdgomopnfaaWNew
namespace Go.Proofs.Ytgdkcdgomopnfaa
open Go.RowKit

/-- V is the greatest number of the first k, or 0. -/
structure IsMax (h : List Int → Int) (f : Nat → Pc) (k : Nat) (V : Int) : Prop where
  nn : 0 ≤ V
  up : ∀ i, i < k → h (f i).zs ≤ V
  at' : V = 0 ∨ ∃ i, i < k ∧ h (f i).zs = V
/-- The same pieces from lo on, in any order, and some that tell nothing. -/
structure SameSet (f : Nat → Pc) (n lo : Nat) (g : Nat → Pc) (m : Nat) : Prop where
  of : ∀ j, j < m → (gmO (g j).zs = false ∧ gbO (g j).zs = false) ∨ ∃ i, lo ≤ i ∧ i < n ∧ (g j).zs = (f i).zs
  to : ∀ i, lo ≤ i → i < n → ∃ j, j < m ∧ (g j).zs = (f i).zs
theorem max_same {h : List Int → Int} {f g : Nat → Pc} {n m : Nat} {V U : Int} (hz : ∀ x, gmO x = false → gbO x = false → h x = 0) (hs : SameSet f n 0 g m) (hV : IsMax h f n V) (hU : IsMax h g m U) : U = V := by
  have h1 : U ≤ V := by
    rcases hU.at' with e | ⟨j, hj, e⟩
    · rw [e]; exact hV.nn
    · rcases hs.of j hj with ⟨a, b⟩ | ⟨i, _, hi, e2⟩
      · rw [← e, hz _ a b]; exact hV.nn
      · rw [← e, e2]; exact hV.up i hi
  have h2 : V ≤ U := by
    rcases hV.at' with e | ⟨i, hi, e⟩
    · rw [e]; exact hU.nn
    · obtain ⟨j, hj, e2⟩ := hs.to i (by omega) hi
      rw [← e, ← e2]; exact hU.up j hj
  omega
theorem nmV_max {f : Nat → Pc} {n : Nat} : IsMax gmV f n (nmV f n) := by
  induction n with
  | zero => exact ⟨Int.le_refl _, fun i hi => by omega, .inl rfl⟩
  | succ n ih =>
    rw [nmV]
    split
    · next hlt =>
      refine ⟨by have := ih.nn; omega, fun i hi => ?_, .inr ⟨n, by omega, rfl⟩⟩
      rcases Nat.lt_or_ge i n with h1 | h1
      · have := ih.up i h1; omega
      · obtain rfl : i = n := by omega
        exact Int.le_refl _
    · next hlt =>
      refine ⟨ih.nn, fun i hi => ?_, ?_⟩
      · rcases Nat.lt_or_ge i n with h1 | h1
        · exact ih.up i h1
        · obtain rfl : i = n := by omega
          omega
      · rcases ih.at' with e | ⟨i, hi, e⟩
        · exact .inl e
        · exact .inr ⟨i, by omega, e⟩
/-- A member's Epoch; 0 for what is none. -/
def gbE (x : List Int) : Int := if gbO x then gb1 x else 0
theorem nbS_max {f : Nat → Pc} {n : Nat} (hf : ∀ i, i < n → AllB (f i).zs) : IsMax gbE f n (nbS f n).e ∧ ((nbS f n).some = false → (nbS f n).e = 0) := by
  induction n with
  | zero => exact ⟨⟨Int.le_refl _, fun i hi => by omega, .inl rfl⟩, fun _ => rfl⟩
  | succ n ih =>
    have ih := ih fun i hi => hf i (by omega)
    have h1 := gb1_nn (hf n (by omega))
    rw [nbS]
    split
    · next hc =>
      have hE : gbE (f n).zs = gb1 (f n).zs := by rw [gbE, hc.1]; rfl
      have hle : (nbS f n).e ≤ gb1 (f n).zs := by
        rcases hc.2 with h2 | h2
        · rw [ih.2 h2]; exact h1
        · omega
      refine ⟨⟨h1, fun i hi => ?_, .inr ⟨n, by omega, hE⟩⟩, fun h => by cases h⟩
      rcases Nat.lt_or_ge i n with h3 | h3
      · have := ih.1.up i h3; show gbE (f i).zs ≤ gb1 (f n).zs; omega
      · obtain rfl : i = n := by omega
        rw [hE]; exact Int.le_refl _
    · next hc =>
      refine ⟨⟨ih.1.nn, fun i hi => ?_, ?_⟩, ih.2⟩
      · rcases Nat.lt_or_ge i n with h3 | h3
        · exact ih.1.up i h3
        · obtain rfl : i = n := by omega
          unfold gbE
          split
          · next ho =>
            apply Int.not_lt.1
            intro hlt
            exact hc ⟨ho, .inr hlt⟩
          · exact ih.1.nn
      · rcases ih.1.at' with e | ⟨i, hi, e⟩
        · exact .inl e
        · exact .inr ⟨i, by omega, e⟩
theorem gmV_blank {x : List Int} (h : gmO x = false) : gmV x = 0 := by rw [gmV, h]; rfl
theorem gbE_blank {x : List Int} (h : gbO x = false) : gbE x = 0 := by rw [gbE, h]; rfl
theorem nil_blank : gmO [] = false ∧ gbO [] = false := by
  have hs : AllB [] := fun z hz => by cases hz
  exact ⟨by rw [gmO_iff hs]; exact fld_no (fun h => by cases h.1), by rw [gbO_iff hs, fld_no (fun h => by cases h.1)]; rfl⟩
theorem zero_blank : gmO (List.replicate 64 0) = false ∧ gbO (List.replicate 64 0) = false := by
  have hs : AllB (List.replicate 64 0) := AllB.zeros 64
  have hn : ∀ k : Int, ¬ ((List.replicate 64 (0 : Int)).length = 64 ∧ byt (List.replicate 64 0) 0 = 77 ∧ byt (List.replicate 64 0) 1 = 79 ∧ byt (List.replicate 64 0) 2 = 82 ∧ byt (List.replicate 64 0) 3 = k) := fun k h => by
    have := h.2.1
    rw [byt_zero] at this
    omega
  exact ⟨by rw [gmO_iff hs]; exact fld_no (hn _), by rw [gbO_iff hs, fld_no (hn _)]; rfl⟩
theorem SameSet.start (f g : Nat → Pc) (n : Nat) : SameSet f n n g 0 := ⟨fun j hj => by omega, fun i h1 h2 => by omega⟩
theorem SameSet.more {f g : Nat → Pc} {n lo m : Nat} {p : Pc} (h : SameSet f n (lo + 1) g m) (hl : lo < n) (hp : p.zs = (f lo).zs) : SameSet f n lo (snoc g m p) (m + 1) := by
  refine ⟨fun j hj => ?_, fun i h1 h2 => ?_⟩
  · rcases Nat.lt_or_ge j m with h3 | h3
    · rw [snoc_old h3]
      rcases h.of j h3 with h4 | ⟨i, h4, h5, h6⟩
      · exact .inl h4
      · exact .inr ⟨i, by omega, h5, h6⟩
    · obtain rfl : j = m := by omega
      rw [snoc_new]
      exact .inr ⟨lo, Nat.le_refl _, hl, hp⟩
  · by_cases e : i = lo
    · subst e
      exact ⟨m, by omega, by rw [snoc_new]; exact hp⟩
    · obtain ⟨j, hj, e2⟩ := h.to i (by omega) h2
      exact ⟨j, by omega, by rw [snoc_old hj]; exact e2⟩
theorem SameSet.blank {f g : Nat → Pc} {n lo m : Nat} {p : Pc} (h : SameSet f n lo g m) (hp : gmO p.zs = false ∧ gbO p.zs = false) : SameSet f n lo (snoc g m p) (m + 1) := by
  refine ⟨fun j hj => ?_, fun i h1 h2 => ?_⟩
  · rcases Nat.lt_or_ge j m with h3 | h3
    · rw [snoc_old h3]; exact h.of j h3
    · obtain rfl : j = m := by omega
      rw [snoc_new]
      exact .inl hp
  · obtain ⟨j, hj, e2⟩ := h.to i h1 h2
    exact ⟨j, by omega, by rw [snoc_old hj]; exact e2⟩

end Go.Proofs.Ytgdkcdgomopnfaa
