/-
  Where more is used than must be there are victims; where there are none there is room: in plain words.
-/
import Derived.Test.YtdgjhfghggcfaaaWu2
namespace Go.Proofs.Ytdgjhfghggcfaaa
open Go.RowKit
set_option linter.unusedVariables false

theorem usL_count (ks : List Int) : ∀ S, S ≤ ks.length → (usL S ks []).length = upN (ks.take S)
  | 0, _ => by simp [usL, upN]
  | S + 1, h => by
    rw [usL_succ, upN_take (by omega), List.length_append, usL_count ks S (by omega)]
    by_cases h0 : 0 < num ks S
    · rw [if_pos ⟨h0, by simp⟩, if_pos h0]; rfl
    · rw [if_neg (fun x => h0 x.1), if_neg h0]; rfl
theorem usL_sum {ks : List Int} (hn : noneNeg ks) : ∀ S, S ≤ ks.length → sumL ((usL S ks []).map Usd.c) = sumL (ks.take S)
  | 0, _ => by simp [usL, sumL]
  | S + 1, h => by
    rw [usL_succ, sumL_take (by omega), List.map_append, sumL_app, usL_sum hn S (by omega)]
    by_cases h0 : 0 < num ks S
    · rw [if_pos ⟨h0, by simp⟩]; simp [sumL]
    · rw [if_neg (fun x => h0 x.1)]
      have := hn _ (num_mem (show S < ks.length by omega))
      simp [sumL]
      omega
theorem sum_ge {c : Int} : ∀ (r : List Usd), (∀ z ∈ r, c ≤ z.c) → (r.length : Int) * c ≤ sumL (r.map Usd.c)
  | [], _ => by simp [sumL]
  | z :: r, h => by
    have h1 := h z (by simp)
    have h2 := sum_ge r fun y hy => h y (by simp [hy])
    simp only [List.length_cons, List.map_cons, sumL, Int.natCast_add, Int.add_mul]
    omega
/-- As many as twice what must be, and one, where there are no two victims. -/
theorem merges {D : Int} {ks v : List Int} (hD : 1 ≤ D) (hn : noneNeg ks) (hle : ∀ k ∈ ks, k ≤ D) (hv : IsVic D ks.length ks [] v) (h2 : v.length < 2) : (upN ks : Int) ≤ 2 * cei D (sumL ks) + 1 := by
  obtain ⟨l, hp, hs, rfl⟩ := hv
  have hlen : l.length = upN ks := by rw [hp.length_eq, usL_count ks ks.length (Nat.le_refl _), List.take_length]
  have hsum : sumL (l.map Usd.c) = sumL ks := by rw [sumL_perm (hp.map _), usL_sum hn ks.length (Nat.le_refl _), List.take_length]
  have hmem : ∀ x ∈ l, 0 < x.c ∧ x.c ≤ D := fun x hx => by
    obtain ⟨j, hj, h0, _, rfl⟩ := usL_mem.1 (hp.mem_iff.1 hx)
    exact ⟨h0, hle _ (num_mem hj)⟩
  have hg : (gr D l).length < 2 := by
    unfold vres at h2
    split at h2
    · assumption
    · simpa using h2
  have hs0 : 0 ≤ sumL ks := by
    rw [← hsum]
    have := sum_ge (c := 0) l fun z hz => Int.le_of_lt (hmem z hz).1
    omega
  obtain ⟨c0, c1, _⟩ := cei_bd hD hs0
  rw [← hlen]
  match l, hs, hmem, hg, hsum, hlen with
  | [], _, _, _, _, _ => simp; omega
  | [x], _, _, _, _, _ => simp; omega
  | x :: y :: r, hs, hmem, hg, hsum, _ =>
    obtain ⟨p1, p2⟩ := List.pairwise_cons.1 hs
    obtain ⟨p3, _⟩ := List.pairwise_cons.1 p2
    have hx := hmem x (by simp)
    have hxy : x.c ≤ y.c := by have := p1 y (by simp); unfold ltU at this; omega
    have hyr : ∀ z ∈ r, y.c ≤ z.c := fun z hz => by have := p3 z hz; unfold ltU at this; omega
    have hbig : D - x.c < y.c := by
      rcases Int.lt_or_le (D - x.c) y.c with h | h
      · exact h
      · exfalso
        rw [show gr D (x :: y :: r) = if D < x.c then [] else x :: gr (D - x.c) (y :: r) from rfl, if_neg (by omega), show gr (D - x.c) (y :: r) = if D - x.c < y.c then [] else y :: gr (D - x.c - y.c) r from rfl, if_neg (by omega)] at hg
        simp only [List.length_cons] at hg
        omega
    have hr := sum_ge r hyr
    simp only [List.map_cons, sumL] at hsum
    have h1 : ((r.length : Int) + 2) * (D + 1) ≤ 2 * sumL ks := by
      have h3 : (r.length : Int) * (D + 1) ≤ (r.length : Int) * (2 * y.c) := Int.mul_le_mul_of_nonneg_left (by omega) (by omega)
      rw [Int.mul_comm 2 y.c, ← Int.mul_assoc] at h3
      rw [Int.add_mul]
      omega
    have h4 : ((r.length : Int) + 2) * D ≤ (2 * cei D (sumL ks)) * D := by
      rw [Int.mul_assoc]
      have : ((r.length : Int) + 2) * D ≤ ((r.length : Int) + 2) * (D + 1) := Int.mul_le_mul_of_nonneg_left (by omega) (by omega)
      omega
    have := Int.le_of_mul_le_mul_right h4 (by omega)
    simp only [List.length_cons, Int.natCast_add]
    omega
/-- Where there are no victims a tree within the caps fits. -/
theorem room {D s p q : Int} {ks : List Int} {old data more : Int} (hD : 1 ≤ D) (hn : noneNeg ks) (hle : ∀ k ∈ ks, k ≤ D) (hv : IsVic D ks.length ks [] []) (hs : 3 * p + 2 * q + 2 ≤ s) (h0 : sumL ks ≤ p * D)
    (o0 : 0 ≤ old) (o1 : old ≤ q) (d0 : 0 ≤ data) (d1 : data ≤ p * D) (m0 : 0 ≤ more) (m1 : more ≤ q * D) : fitP D s (upN ks : Nat) old data more = true := by
  have h := merges hD hn hle hv (by simp)
  have a := cei_le hD h0
  have b := cei_le hD d1
  have c := cei_le hD m1
  refine decide_eq_true ⟨o0, d0, m0, ?_⟩
  omega
end Go.Proofs.Ytdgjhfghggcfaaa
