/-
  What is read of a list that was laid: each of its blocks, once. A lost block; a root turned; heads; how many blocks there are.
-/
import Derived.Test.YtegcjpocdfmpfaaUac
import Derived.Test.YtegcjpocdfmpfaaRows
import Derived.WalkKit
import Derived.WalkSpells
import Derived.WalkLawsBesides
import Derived.WalkSmall
import Derived.Deep.QuietTactic
import Derived.Deep.RegionHeld3
import Derived.BigQuiet
import Derived.IntWalk
import Derived.Lib.Hide
import Derived.ProofKit
import Derived.Test.YtegcjpocdfmpfaaUab
set_option linter.unusedVariables false
set_option linter.unusedSimpArgs false
set_option maxRecDepth 100000
set_option maxHeartbeats 16000000
namespace Go.Proofs.Ytegcjpocdfmpfaa
open Go.RowKit

section
variable {N : Int} {blk : Int → Option (List Int)} {at' at2 : Nat → Int} {f : Nat → Nd} {n : Nd} {m K : Nat}
theorem dI_succ (n : Nd) (k : Nat) : dI n (k + 1) = dI n k + (if dS n.ads k = true then 1 else 0) := by
  have e : (if dS n.ads k = true then [(⟨n.ino, 1001 + (k : Int), ppL (prt n.ads (44 + 28 * k))⟩ : Bk)] else []).length = if dS n.ads k = true then 1 else 0 := by
    cases dS n.ads k <;> rfl
  rw [dI, dI, dB, List.length_append, e, Nat.add_assoc]
theorem dI_zero (n : Nd) : dI n 0 = (sB n).length := rfl
def rdX (n : Nd) : Nat → List Nat
  | 0 => []
  | k + 1 => rdX n k ++ (if dS n.ads k then [dI n k] else [])
theorem rdX_bd (n : Nd) (K : Nat) : (∀ j, j ∈ rdX n K ↔ (sB n).length ≤ j ∧ j < dI n K) ∧ (rdX n K).length + (sB n).length = dI n K ∧ (rdX n K).Nodup := by
  induction K with
  | zero => exact ⟨fun j => by simp [rdX, dI_zero], by simp [rdX, dI_zero], List.Pairwise.nil⟩
  | succ K ih =>
    obtain ⟨h1, h2, h3⟩ := ih
    rw [rdX, dI_succ]
    have hle : (sB n).length ≤ dI n K := by omega
    cases h : dS n.ads K with
    | false =>
      simp only [Bool.false_eq_true, if_false, List.append_nil, Nat.add_zero]
      exact ⟨h1, h2, h3⟩
    | true =>
      simp only [if_true]
      refine ⟨fun j => ?_, by simp; omega, ?_⟩
      · rw [List.mem_append, h1, List.mem_singleton]
        omega
      · rw [List.nodup_append]
        refine ⟨h3, by simp, fun a ha b hb e => ?_⟩
        have := (h1 a).1 ha
        have := List.mem_singleton.1 hb
        omega
theorem len_if {α : Type} (c : Bool) (x : α) : (if c = true then [x] else []).length = if c = true then 1 else 0 := by cases c <;> rfl
theorem map_if {α β : Type} (c : Bool) (x : α) (g : α → β) : (if c = true then [x] else []).map g = if c = true then [g x] else [] := by cases c <;> rfl
theorem bod_len : (bod at' n m).length = dI n 28 + (if dA n = true then 1 else 0) := by
  rw [bod, List.length_append, List.length_append, dI, dL, len_if]
theorem sB_len (n : Nd) : (sB n).length = if sS n.ads = true then 1 else 0 := by rw [sB, len_if]
def ndX (n : Nd) (L : Nat) : List Nat := [L] ++ (if sS n.ads then [0] else []) ++ (if dA n then [dI n 28] else []) ++ rdX n 28
theorem ndX_bd (n : Nd) {L : Nat} (hL : L = dI n 28 + (if dA n = true then 1 else 0)) : (∀ j, j ∈ ndX n L ↔ j < L + 1) ∧ (ndX n L).length = L + 1 ∧ (ndX n L).Nodup := by
  obtain ⟨h1, h2, h3⟩ := rdX_bd n 28
  have hs := sB_len n
  have mem : ∀ j, j ∈ ndX n L ↔ (j = L ∨ (sS n.ads = true ∧ j = 0)) ∨ (dA n = true ∧ j = dI n 28) ∨ ((sB n).length ≤ j ∧ j < dI n 28) := fun j => by
    rw [ndX, List.mem_append, List.mem_append, List.mem_append, h1, List.mem_singleton]
    cases sS n.ads <;> cases dA n <;> simp <;> omega
  refine ⟨fun j => ?_, ?_, ?_⟩
  · rw [mem j, hs]
    rw [hs] at h2
    cases h4 : sS n.ads <;> cases h5 : dA n <;> simp [h4, h5] at hL h2 ⊢ <;> omega
  · rw [ndX, List.length_append, List.length_append, List.length_append]
    rw [hs] at h2
    cases h4 : sS n.ads <;> cases h5 : dA n <;> simp [h4, h5] at hL h2 ⊢ <;> omega
  · rw [ndX, List.nodup_append]
    refine ⟨?_, h3, fun a ha b hb e => ?_⟩
    · rw [hs] at h2
      cases h4 : sS n.ads <;> cases h5 : dA n <;> simp [h4, h5] at hL h2 ⊢ <;> omega
    · have hb' := (h1 b).1 hb
      rw [hs] at h2 hb'
      rw [List.mem_append, List.mem_append, List.mem_singleton] at ha
      cases h4 : sS n.ads <;> cases h5 : dA n <;> simp [h4, h5] at hL h2 hb' ha <;> omega
theorem ndR_map : ndR at' n m = (ndX n (bod at' n m).length).map fun j => at' (m + j) := by
  have hr : ∀ K, rdR at' n m K = (rdX n K).map fun j => at' (m + j) := fun K => by
    induction K with
    | zero => rfl
    | succ K ih =>
      rw [rdR, rdX, List.map_append, ih]
      cases dS n.ads K <;> rfl
  rw [ndR, ndX, List.map_append, List.map_append, List.map_append, hr]
  cases sS n.ads <;> cases dA n <;> simp
/-- The numbers of the blocks that are read of the first nodes. -/
def rx (at' : Nat → Int) (f : Nat → Nd) : Nat → List Nat
  | 0 => []
  | i + 1 => rx at' f i ++ (ndX (f i) (bod at' (f i) (off at' f i)).length).map fun j => off at' f i + j
theorem nodup_map {α β : Type} {g : α → β} {l : List α} (h : l.Nodup) (hg : ∀ a, a ∈ l → ∀ b, b ∈ l → g a = g b → a = b) : (l.map g).Nodup := by
  induction l with
  | nil => exact List.Pairwise.nil
  | cons a l ih =>
    rw [List.nodup_cons] at h
    rw [List.map_cons, List.nodup_cons]
    refine ⟨fun hm => ?_, ih h.2 fun x hx y hy => hg x (List.mem_cons_of_mem _ hx) y (List.mem_cons_of_mem _ hy)⟩
    obtain ⟨b, hb, e⟩ := List.mem_map.1 hm
    have := hg b (List.mem_cons_of_mem _ hb) a List.mem_cons_self e
    subst this
    exact h.1 hb
theorem rx_bd (at' : Nat → Int) (f : Nat → Nd) (i : Nat) : (∀ j, j ∈ rx at' f i ↔ j < off at' f i) ∧ (rx at' f i).length = off at' f i ∧ (rx at' f i).Nodup := by
  induction i with
  | zero => exact ⟨fun j => by simp [rx, off, lB], rfl, List.Pairwise.nil⟩
  | succ i ih =>
    obtain ⟨h1, h2, h3⟩ := ih
    obtain ⟨g1, g2, g3⟩ := ndX_bd (f i) (L := (bod at' (f i) (off at' f i)).length) bod_len
    rw [rx, off_succ]
    refine ⟨fun j => ?_, by rw [List.length_append, List.length_map, h2, g2], ?_⟩
    · rw [List.mem_append, h1, List.mem_map]
      constructor
      · rintro (h | ⟨x, hx, rfl⟩)
        · omega
        · have := (g1 x).1 hx; omega
      · intro h
        by_cases h0 : j < off at' f i
        · exact .inl h0
        · exact .inr ⟨j - off at' f i, (g1 _).2 (by omega), by omega⟩
    · rw [List.nodup_append]
      refine ⟨h3, nodup_map g3 fun a _ b _ e => by omega, fun a ha b hb e => ?_⟩
      have := (h1 a).1 ha
      obtain ⟨x, _, e2⟩ := List.mem_map.1 hb
      omega
theorem rds_map (at' : Nat → Int) (f : Nat → Nd) (i : Nat) : rds at' f i = (rx at' f i).map at' := by
  induction i with
  | zero => rfl
  | succ i ih => rw [rds, rx, List.map_append, ih, ndR_map, List.map_map]; rfl
def ax (at' : Nat → Int) (f : Nat → Nd) (K : Nat) : List Nat := [off at' f K + 2, off at' f K, off at' f K + 1] ++ rx at' f K
theorem ax_bd (at' : Nat → Int) (f : Nat → Nd) (K : Nat) : (∀ j, j ∈ ax at' f K ↔ j < off at' f K + 3) ∧ (ax at' f K).length = off at' f K + 3 ∧ (ax at' f K).Nodup := by
  obtain ⟨h1, h2, h3⟩ := rx_bd at' f K
  refine ⟨fun j => ?_, by rw [ax, List.length_append, h2]; simp; omega, ?_⟩
  · rw [ax, List.mem_append, h1]
    simp
    omega
  · rw [ax, List.nodup_append]
    refine ⟨by simp, h3, fun a ha b hb e => ?_⟩
    have := (h1 b).1 hb
    simp at ha
    omega
/-- What is read. -/
def allR (at' : Nat → Int) (f : Nat → Nd) (K : Nat) : List Int := (ax at' f K).map at'
theorem load_all (hr : LR N f K) (hN : N ≤ 65535) (hL : Laid N blk at' f K) : run N blk (loadP N (at' (off at' f K + 2))) [] = .ok (tl f K, allR at' f K) := by
  rw [load_back hr hN hL, allR, ax, List.map_append, ← rds_map]
  rfl
theorem allR_len (at' : Nat → Int) (f : Nat → Nd) (K : Nat) : (allR at' f K).length = off at' f K + 3 := by rw [allR, List.length_map, (ax_bd at' f K).2.1]
theorem allR_once (h : ∀ i j, i < off at' f K + 3 → j < off at' f K + 3 → at' i = at' j → i = j) : (allR at' f K).Nodup :=
  nodup_map (ax_bd at' f K).2.2 fun a ha b hb e => h a b (((ax_bd at' f K).1 a).1 ha) (((ax_bd at' f K).1 b).1 hb) e
/-- Wherever a list stands, it has as many blocks, of the same heads. -/
theorem bod_heads : (bod at' n m).map (fun x => (x.own, x.ind)) = (bod at2 n m).map (fun x => (x.own, x.ind)) := by
  simp only [bod, List.map_append, dL, map_if]
theorem lB_heads (at' at2 : Nat → Int) (f : Nat → Nd) (i : Nat) : (lB at' f i).map (fun x => (x.own, x.ind)) = (lB at2 f i).map (fun x => (x.own, x.ind)) := by
  induction i with
  | zero => rfl
  | succ i ih =>
    have hl : (lB at' f i).length = (lB at2 f i).length := by
      have := congrArg List.length ih
      simpa using this
    rw [lB, lB, List.map_append, List.map_append, ih, hl, ndB, ndB, List.map_append, List.map_append, bod_heads (at' := at') (at2 := at2)]
    simp only [List.map_cons, List.map_nil]
theorem off_same (at' at2 : Nat → Int) (f : Nat → Nd) (i : Nat) : off at' f i = off at2 f i := by
  have := congrArg List.length (lB_heads at' at2 f i)
  rw [List.length_map, List.length_map] at this
  exact this
end

/-- A number among others, once. -/
def insK (x : Int) (l : List Int) : List Int := if x ∈ l then l else l ++ [x]
theorem insK_mem {x y : Int} {l : List Int} : y ∈ insK x l ↔ y = x ∨ y ∈ l := by
  unfold insK
  split
  · constructor
    · exact .inr
    · rintro (rfl | h)
      · assumption
      · exact h
  · rw [List.mem_append, List.mem_singleton]
    exact Or.comm
theorem insK_nodup {x : Int} {l : List Int} (h : l.Nodup) : (insK x l).Nodup := by
  unfold insK
  split
  · exact h
  · rename_i hx
    rw [List.nodup_append]
    refine ⟨h, by simp, fun a ha b hb e => ?_⟩
    rw [List.mem_singleton.1 hb] at e
    exact hx (e ▸ ha)
/-- The parts of the first k addresses (from 16 on). -/
def kp (A : List Int) : Nat → List Int
  | 0 => []
  | k + 1 => if k < 16 then [] else if num A k = 0 then kp A k else if k < 44 then insK (-1) (kp A k) else insK (((k : Int) - 44).tdiv 28) (insK (-2) (kp A k))
theorem tdiv28 {k : Nat} (h : 44 ≤ k) : ((k : Int) - 44).tdiv 28 = (((k - 44) / 28 : Nat) : Int) := by
  rw [Int.tdiv_eq_ediv_of_nonneg (by omega)]
  omega
theorem kp_nodup (A : List Int) (k : Nat) : (kp A k).Nodup := by
  induction k with
  | zero => exact List.Pairwise.nil
  | succ k ih =>
    rw [kp]
    split
    · exact List.Pairwise.nil
    · split
      · exact ih
      · split
        · exact insK_nodup ih
        · exact insK_nodup (insK_nodup ih)
theorem kp_mem {A : List Int} {k : Nat} {x : Int} : x ∈ kp A k ↔ (x = -1 ∧ ∃ i, 16 ≤ i ∧ i < 44 ∧ i < k ∧ num A i ≠ 0) ∨ (x = -2 ∧ ∃ i, 44 ≤ i ∧ i < k ∧ num A i ≠ 0) ∨ (∃ i, 44 ≤ i ∧ i < k ∧ num A i ≠ 0 ∧ x = (((i - 44) / 28 : Nat) : Int)) := by
  induction k with
  | zero =>
    constructor
    · intro h; cases h
    · rintro (⟨_, i, _, _, h, _⟩ | ⟨_, i, _, h, _⟩ | ⟨i, _, h, _⟩) <;> omega
  | succ k ih =>
    rw [kp]
    by_cases h16 : k < 16
    · rw [if_pos h16]
      constructor
      · intro h; cases h
      · rintro (⟨_, i, _, _, h, _⟩ | ⟨_, i, _, h, _⟩ | ⟨i, _, h, _⟩) <;> omega
    rw [if_neg h16]
    by_cases h0 : num A k = 0
    · rw [if_pos h0, ih]
      constructor
      · rintro (⟨e, i, h1, h2, h3, h4⟩ | ⟨e, i, h1, h3, h4⟩ | ⟨i, h1, h3, h4, h5⟩)
        · exact .inl ⟨e, i, h1, h2, by omega, h4⟩
        · exact .inr (.inl ⟨e, i, h1, by omega, h4⟩)
        · exact .inr (.inr ⟨i, h1, by omega, h4, h5⟩)
      · have ne : ∀ i, i < k + 1 → num A i ≠ 0 → i < k := fun i h1 h2 => by
          by_cases e : i = k
          · subst e; exact absurd h0 h2
          · omega
        rintro (⟨e, i, h1, h2, h3, h4⟩ | ⟨e, i, h1, h3, h4⟩ | ⟨i, h1, h3, h4, h5⟩)
        · exact .inl ⟨e, i, h1, h2, ne i h3 h4, h4⟩
        · exact .inr (.inl ⟨e, i, h1, ne i h3 h4, h4⟩)
        · exact .inr (.inr ⟨i, h1, ne i h3 h4, h4, h5⟩)
    rw [if_neg h0]
    by_cases h44 : k < 44
    · rw [if_pos h44, insK_mem, ih]
      constructor
      · rintro (rfl | ⟨e, i, h1, h2, h3, h4⟩ | ⟨e, i, h1, h3, h4⟩ | ⟨i, h1, h3, h4, h5⟩)
        · exact .inl ⟨rfl, k, by omega, h44, by omega, h0⟩
        · exact .inl ⟨e, i, h1, h2, by omega, h4⟩
        · exact .inr (.inl ⟨e, i, h1, by omega, h4⟩)
        · exact .inr (.inr ⟨i, h1, by omega, h4, h5⟩)
      · rintro (⟨e, i, h1, h2, h3, h4⟩ | ⟨e, i, h1, h3, h4⟩ | ⟨i, h1, h3, h4, h5⟩)
        · exact .inl e
        · omega
        · omega
    · rw [if_neg h44, tdiv28 (by omega), insK_mem, insK_mem, ih]
      constructor
      · rintro (rfl | rfl | ⟨e, i, h1, h2, h3, h4⟩ | ⟨e, i, h1, h3, h4⟩ | ⟨i, h1, h3, h4, h5⟩)
        · exact .inr (.inr ⟨k, by omega, by omega, h0, rfl⟩)
        · exact .inr (.inl ⟨rfl, k, by omega, by omega, h0⟩)
        · exact .inl ⟨e, i, h1, h2, by omega, h4⟩
        · exact .inr (.inl ⟨e, i, h1, by omega, h4⟩)
        · exact .inr (.inr ⟨i, h1, by omega, h4, h5⟩)
      · rintro (⟨e, i, h1, h2, h3, h4⟩ | ⟨e, i, h1, h3, h4⟩ | ⟨i, h1, h3, h4, h5⟩)
        · exact .inr (.inr (.inl ⟨e, i, h1, h2, by omega, h4⟩))
        · exact .inr (.inl e)
        · by_cases e : i = k
          · subst e; exact .inl h5
          · exact .inr (.inr (.inr (.inr ⟨i, h1, by omega, h4, h5⟩)))
/-- The parts as the blocks tell them. -/
def dX (A : List Int) : Nat → List Int
  | 0 => []
  | k + 1 => dX A k ++ (if dS A k then [(k : Int)] else [])
theorem dX_mem {A : List Int} {K : Nat} {x : Int} : x ∈ dX A K ↔ ∃ k, k < K ∧ dS A k = true ∧ x = (k : Int) := by
  induction K with
  | zero => simp [dX]
  | succ K ih =>
    rw [dX, List.mem_append, ih]
    constructor
    · rintro (⟨k, h1, h2, h3⟩ | h)
      · exact ⟨k, by omega, h2, h3⟩
      · cases hs : dS A K with
        | false => rw [hs] at h; simp at h
        | true => rw [hs] at h; simp at h; exact ⟨K, by omega, hs, h⟩
    · rintro ⟨k, h1, h2, h3⟩
      by_cases e : k = K
      · subst e; right; rw [h2]; simp [h3]
      · exact .inl ⟨k, by omega, h2, h3⟩
theorem dX_nodup (A : List Int) (K : Nat) : (dX A K).Nodup := by
  induction K with
  | zero => exact List.Pairwise.nil
  | succ K ih =>
    rw [dX, List.nodup_append]
    refine ⟨ih, by split <;> simp, fun a ha b hb e => ?_⟩
    obtain ⟨k, h1, _, h3⟩ := dX_mem.1 ha
    split at hb
    · have := List.mem_singleton.1 hb; omega
    · cases hb
theorem dX_len (n : Nd) (K : Nat) : (dX n.ads K).length = (dB n K).length := by
  induction K with
  | zero => rfl
  | succ K ih =>
    rw [dX, dB, List.length_append, List.length_append, ih]
    cases dS n.ads K <;> rfl
theorem sS_iff {A : List Int} : sS A = true ↔ ∃ i, 16 ≤ i ∧ i < 44 ∧ num A i ≠ 0 := by
  rw [sS, prt, som_tb]
  constructor
  · rintro ⟨i, h1, h2⟩; exact ⟨16 + i, by omega, by omega, h2⟩
  · rintro ⟨i, h1, h2, h3⟩; exact ⟨i - 16, by omega, by rwa [show 16 + (i - 16) = i by omega]⟩
theorem dS_iff {A : List Int} {k : Nat} : dS A k = true ↔ ∃ i, 44 ≤ i ∧ (i - 44) / 28 = k ∧ num A i ≠ 0 := by
  rw [dS, prt, som_tb]
  constructor
  · rintro ⟨i, h1, h2⟩; exact ⟨44 + 28 * k + i, by omega, by omega, h2⟩
  · rintro ⟨i, h1, h2, h3⟩; exact ⟨i - 44 - 28 * k, by omega, by rwa [show 44 + 28 * k + (i - 44 - 28 * k) = i by omega]⟩
/-- As many parts as blocks of pointers. -/
theorem kp_len {n : Nd} (h : n.ads.length ≤ 828) (at' : Nat → Int) (m : Nat) : (kp n.ads n.ads.length).length = (bod at' n m).length := by
  have hn : ∀ i, num n.ads i ≠ 0 → i < n.ads.length := fun i hi => by
    by_cases e : i < n.ads.length
    · exact e
    · exact absurd (num_out (by omega)) hi
  have hd1 : ∀ x, x ∈ dX n.ads 28 → 0 ≤ x := fun x hx => by obtain ⟨k, _, _, e⟩ := dX_mem.1 hx; omega
  have hp : (kp n.ads n.ads.length).Perm ((if sS n.ads = true then [-1] else []) ++ (if dA n = true then [-2] else []) ++ dX n.ads 28) := by
    refine (List.perm_ext_iff_of_nodup (kp_nodup _ _) ?_).2 fun x => ?_
    · rw [List.nodup_append]
      refine ⟨by cases sS n.ads <;> cases dA n <;> decide, dX_nodup _ _, fun a ha b hb e => ?_⟩
      have := hd1 b hb
      rw [List.mem_append] at ha
      rcases ha with ha | ha <;> split at ha <;> first | (have := List.mem_singleton.1 ha; omega) | cases ha
    · rw [kp_mem, List.mem_append, List.mem_append, dX_mem]
      have e1 : x ∈ (if sS n.ads = true then [(-1 : Int)] else []) ↔ x = -1 ∧ sS n.ads = true := by cases sS n.ads <;> simp
      have e2 : x ∈ (if dA n = true then [(-2 : Int)] else []) ↔ x = -2 ∧ dA n = true := by cases dA n <;> simp
      rw [e1, e2, sS_iff, dA_iff]
      constructor
      · rintro (⟨e, i, h1, h2, h3, h4⟩ | ⟨e, i, h1, h3, h4⟩ | ⟨i, h1, h3, h4, h5⟩)
        · exact .inl (.inl ⟨e, i, h1, h2, h4⟩)
        · exact .inl (.inr ⟨e, (i - 44) / 28, by omega, dS_iff.2 ⟨i, h1, rfl, h4⟩⟩)
        · exact .inr ⟨(i - 44) / 28, by omega, dS_iff.2 ⟨i, h1, rfl, h4⟩, h5⟩
      · rintro ((⟨e, i, h1, h2, h4⟩ | ⟨e, k, h1, h2⟩) | ⟨k, h1, h2, h3⟩)
        · exact .inl ⟨e, i, h1, h2, hn i h4, h4⟩
        · obtain ⟨i, h3, _, h5⟩ := dS_iff.1 h2
          exact .inr (.inl ⟨e, i, h3, hn i h5, h5⟩)
        · obtain ⟨i, h4, h5, h6⟩ := dS_iff.1 h2
          exact .inr (.inr ⟨i, h4, hn i h6, h6, by rw [h5, h3]⟩)
  rw [hp.length_eq, List.length_append, List.length_append, len_if, len_if, dX_len, bod_len, dI, sB_len]
  omega
/-- How many blocks the first nodes have. -/
def needN (f : Nat → Nd) : Nat → Nat
  | 0 => 0
  | i + 1 => needN f i + (kp (f i).ads (f i).ads.length).length
theorem off_need {at' : Nat → Int} {f : Nat → Nd} {K : Nat} (h : ∀ i, i < K → (f i).ads.length ≤ 828) : off at' f K = K + needN f K := by
  induction K with
  | zero => rfl
  | succ K ih => rw [off_succ, ih fun i hi => h i (by omega), needN, kp_len (h K (by omega)) at' (off at' f K), ih fun i hi => h i (by omega)]; omega

/-- A geometry, as a value. -/
abbrev gv (d r s : Int) : Value := .agg #[.int .i64 d, .int .i64 r, .int .i64 s]
/-- How many places a segment has. -/
def PL (d r : Int) : Int := r * (d - 1) - 1
/-- How many segments there may be for all but data. -/
def QC (s : Int) : Int := 1 + s / 8
/-- The numbers are within the bounds. -/
structure Bd (d r s : Int) : Prop where
  d1 : 3 ≤ d
  d2 : d ≤ 16
  r1 : 1 ≤ r
  r2 : r ≤ 4
  s1 : 12 ≤ s
  s2 : s ≤ 64
/-- A geometry is right. -/
structure Rt (d r s : Int) : Prop extends Bd d r s where
  q : 8 ≤ QC s * PL d r

theorem PL_bd {d r : Int} (d1 : 3 ≤ d) (d2 : d ≤ 16) (r1 : 1 ≤ r) (r2 : r ≤ 4) : 1 ≤ PL d r ∧ PL d r ≤ 59 ∧ 2 ≤ r * (d - 1) ∧ r * (d - 1) ≤ 60 := by
  unfold PL
  rcases (by omega : r = 1 ∨ r = 2 ∨ r = 3 ∨ r = 4) with h | h | h | h <;> subst h <;> omega
theorem QC_bd {s : Int} (s1 : 12 ≤ s) (s2 : s ≤ 64) : 2 ≤ QC s ∧ QC s ≤ 9 := by unfold QC; omega
theorem mul_bd {a b x y : Int} (a0 : 0 ≤ a) (ax : a ≤ x) (b0 : 0 ≤ b) (by' : b ≤ y) : 0 ≤ a * b ∧ a * b ≤ x * y :=
  ⟨Int.mul_nonneg a0 b0, Int.mul_le_mul ax by' b0 (Int.le_trans a0 ax)⟩
theorem QP_bd {d r s : Int} (h : Bd d r s) : 0 ≤ QC s * PL d r ∧ QC s * PL d r ≤ 531 := by
  have h1 := PL_bd h.d1 h.d2 h.r1 h.r2
  have h2 := QC_bd h.s1 h.s2
  exact mul_bd (x := 9) (y := 59) (by omega) h2.2 (by omega) h1.2.1

theorem bcell {W w1 : World} (hb : Below W.heap.size W w1) : (∀ b o, b < W.heap.size → w1.cell? ⟨b, o, none⟩ = W.cell? ⟨b, o, none⟩) ∧ (∀ b o, b < W.heap.size → w1.frozen? ⟨b, o, none⟩ = W.frozen? ⟨b, o, none⟩) :=
  ⟨fun b o h => hb.cell (p := ⟨b, o, none⟩) h, fun b o h => hb.frozen (p := ⟨b, o, none⟩) h⟩

theorem within_yes (n a b : Int) (w : World) (h1 : a ≤ n) (h2 : n ≤ b) :
    Calls Try.prog 99 #[.int .i64 n, .int .i64 a, .int .i64 b] w fun e w' => e = .returned (.bool true) ∧ w = w' := by
  go_enter Try.func99, Try.ntmps99
  go_wp2_with (fail)
  go_ret
  exact ⟨rfl, rfl⟩
theorem within_no (n a b : Int) (w : World) (h : n < a ∨ b < n) :
    Calls Try.prog 99 #[.int .i64 n, .int .i64 a, .int .i64 b] w fun e w' => e = .returned (.bool false) ∧ w = w' := by
  by_cases h1 : a ≤ n
  · have h2 : ¬ n ≤ b := by omega
    clear h
    go_enter Try.func99, Try.ntmps99
    go_wp2_with (fail)
    go_ret
    exact ⟨rfl, rfl⟩
  · clear h
    go_enter Try.func99, Try.ntmps99
    go_wp2_with (fail)
    go_ret
    exact ⟨rfl, rfl⟩
theorem perRow_any (d r s : Int) (w : World) (h1 : 3 ≤ d) (h2 : d ≤ 16) :
    Calls Try.prog 111 #[gv d r s] w fun e w' => e = .returned (.int .i64 (d - 1)) ∧ Below w.heap.size w w' := by
  go_enter Try.func111, Try.ntmps111
  go_wp2_with (fail)
  go_ret
  exact ⟨rfl, (Below.refl _ _).alloc (Nat.le_refl _) _⟩
theorem otherCap_any (d r s : Int) (w : World) (h1 : 12 ≤ s) (h2 : s ≤ 64) :
    Calls Try.prog 100 #[gv d r s] w fun e w' => e = .returned (.int .i64 (QC s)) ∧ Below w.heap.size w w' := by
  go_enter Try.func100, Try.ntmps100
  go_wp2_with (fail)
  go_ret
  exact ⟨rfl, (Below.refl _ _).alloc (Nat.le_refl _) _⟩
theorem bel_box {w w2 : World} {B : Nat} (o : Obj) (hB : w.heap.size ≤ B) (hb : Below B (w.alloc o).drew w2) : Below w.heap.size w w2 :=
  ((Below.refl _ _).alloc (Nat.le_refl _) o).drew.trans (hb.mono hB)
theorem size_box {w w2 : World} {B : Nat} (o : Obj) (hb : Below B (w.alloc o).drew w2) : w.heap.size < w2.heap.size := by
  have := hb.size; simp at this; omega
theorem placesS_any (d r s : Int) (w : World) (h1 : 3 ≤ d) (h2 : d ≤ 16) (h3 : 1 ≤ r) (h4 : r ≤ 4) :
    Calls Try.prog 69 #[gv d r s] w fun e w' => e = .returned (.int .i64 (PL d r)) ∧ Below w.heap.size w w' := by
  obtain ⟨p1, p2, p3, p4⟩ := PL_bd h1 h2 h3 h4
  have e1 : IntKind.i64.wrap (r * (d - 1)) = r * (d - 1) := IntWalk.i64_in _ (by omega)
  have e2 : IntKind.i64.wrap (r * (d - 1) - 1) = PL d r := IntWalk.i64_in _ (by omega)
  go_enter Try.func69, Try.ntmps69
  go_wp2_with (fail)
  go_region_held3 (fun w' => w'.cell? ⟨w.heap.size, 0, none⟩ = some (.int .i64 d) ∧ w'.cell? ⟨w.heap.size, 1, none⟩ = some (.int .i64 r) ∧ w'.cell? ⟨w.heap.size, 2, none⟩ = some (.int .i64 s))
    (first | go_keep | exact ⟨(hb.cell (p := ⟨w.heap.size, 0, none⟩) (by simp)).trans (by go_simp), (hb.cell (p := ⟨w.heap.size, 1, none⟩) (by simp)).trans (by go_simp), (hb.cell (p := ⟨w.heap.size, 2, none⟩) (by simp)).trans (by go_simp)⟩)
    (first | (go_at_call 111
              refine (perRow_any d r s _ h1 h2).mono ?_
              rintro e w2 ⟨rfl, hb⟩))
  go_wp2_with (fail)
  go_ret
  exact ⟨rfl, bel_box _ (by simp) hb⟩


theorem right_bd (d r s : Int) (w : World) (h : Bd d r s) :
    Calls Try.prog 56 #[gv d r s] w fun e w' => e = .returned (.bool (decide (8 ≤ QC s * PL d r))) ∧ Below w.heap.size w w' := by
  obtain ⟨p1, p2, p3, p4⟩ := PL_bd h.d1 h.d2 h.r1 h.r2
  obtain ⟨q1, q2⟩ := QP_bd h
  obtain ⟨d1, d2, r1, r2, s1, s2⟩ := h
  have ew : IntKind.i64.wrap (QC s * PL d r) = QC s * PL d r := IntWalk.i64_in _ (by omega)
  clear p1 p2 p3 p4 q1 q2
  go_enter Try.func56, Try.ntmps56
  go_wp2_with (fail)
  go_region_held3 (fun w' => w'.cell? ⟨w.heap.size, 0, none⟩ = some (.int .i64 d) ∧ w'.cell? ⟨w.heap.size, 1, none⟩ = some (.int .i64 r) ∧ w'.cell? ⟨w.heap.size, 2, none⟩ = some (.int .i64 s))
    (first | go_keep | fail "keep")
    (first | (go_at_call 99
              refine (within_yes _ _ _ _ (by omega) (by omega)).mono ?_
              rintro e w2 ⟨rfl, rfl⟩)
           | (go_at_call 100
              refine (otherCap_any d r s _ s1 s2).mono ?_
              rintro e w2 ⟨rfl, hb⟩
              have hz : w.heap.size < w2.heap.size := size_box _ hb
              obtain ⟨hc, hf⟩ := bcell hb)
           | (go_at_call 69
              refine (placesS_any d r s _ d1 d2 r1 r2).mono ?_
              rintro e w3 ⟨rfl, hb3⟩
              obtain ⟨hc, hf⟩ := bcell hb3))
  go_wp2_with (fail)
  go_ret
  exact ⟨rfl, (bel_box _ (by simp) hb).trans (hb3.mono (Nat.le_of_lt hz))⟩

theorem not_Bd {d r s : Int} (h : ¬ Bd d r s) : (d < 3 ∨ 16 < d) ∨ ((3 ≤ d ∧ d ≤ 16) ∧ (r < 1 ∨ 4 < r)) ∨ ((3 ≤ d ∧ d ≤ 16) ∧ (1 ≤ r ∧ r ≤ 4) ∧ (s < 12 ∨ 64 < s)) := by
  by_cases h1 : 3 ≤ d ∧ d ≤ 16
  · by_cases h2 : 1 ≤ r ∧ r ≤ 4
    · by_cases h3 : 12 ≤ s ∧ s ≤ 64
      · exact absurd ⟨h1.1, h1.2, h2.1, h2.2, h3.1, h3.2⟩ h
      · exact .inr (.inr ⟨h1, h2, by omega⟩)
    · exact .inr (.inl ⟨h1, by omega⟩)
  · exact .inl (by omega)

/-- Is a number within its bounds? -/
def inB (n a b : Int) : Bool := decide (a ≤ n ∧ n ≤ b)
theorem within_any (n a b : Int) (w : World) : Calls Try.prog 99 #[.int .i64 n, .int .i64 a, .int .i64 b] w fun e w' => e = .returned (.bool (inB n a b)) ∧ w' = w := by
  by_cases h : a ≤ n ∧ n ≤ b
  · rw [show inB n a b = true from decide_eq_true h]
    exact (within_yes n a b w h.1 h.2).mono fun _ _ h => ⟨h.1, h.2.symm⟩
  · rw [show inB n a b = false from decide_eq_false h]
    exact (within_no n a b w (by omega)).mono fun _ _ h => ⟨h.1, h.2.symm⟩
theorem inB_yes {n a b : Int} (h : a ≤ n ∧ n ≤ b) : inB n a b = true := decide_eq_true h
theorem inB_no {n a b : Int} (h : n < a ∨ b < n) : inB n a b = false := decide_eq_false (by omega)

theorem right_outD (d r s : Int) (w : World) (e1 : inB d 3 16 = false) :
    Calls Try.prog 56 #[gv d r s] w fun e w' => e = .returned (.bool false) ∧ Below w.heap.size w w' := by
  go_enter Try.func56, Try.ntmps56
  go_wp2_with (fail)
  go_quiet ((go_at_call 99; exact Calls.quiet_of_same (within_any _ _ _ _)))
  go_wp2_with (fail)
  go_ret
  exact ⟨rfl, below_drewN ((Below.refl _ _).alloc (Nat.le_refl _) _) _⟩
theorem right_outR (d r s : Int) (w : World) (e1 : inB d 3 16 = true) (e2 : inB r 1 4 = false) :
    Calls Try.prog 56 #[gv d r s] w fun e w' => e = .returned (.bool false) ∧ Below w.heap.size w w' := by
  go_enter Try.func56, Try.ntmps56
  go_wp2_with (fail)
  go_quiet ((go_at_call 99; exact Calls.quiet_of_same (within_any _ _ _ _)))
  go_wp2_with (fail)
  go_ret
  exact ⟨rfl, below_drewN ((Below.refl _ _).alloc (Nat.le_refl _) _) _⟩
theorem right_outS (d r s : Int) (w : World) (e1 : inB d 3 16 = true) (e2 : inB r 1 4 = true) (e3 : inB s 12 64 = false) :
    Calls Try.prog 56 #[gv d r s] w fun e w' => e = .returned (.bool false) ∧ Below w.heap.size w w' := by
  go_enter Try.func56, Try.ntmps56
  go_wp2_with (fail)
  go_quiet ((go_at_call 99; exact Calls.quiet_of_same (within_any _ _ _ _)))
  go_wp2_with (fail)
  go_ret
  exact ⟨rfl, below_drewN ((Below.refl _ _).alloc (Nat.le_refl _) _) _⟩
theorem right_out (d r s : Int) (w : World) (h : ¬ Bd d r s) :
    Calls Try.prog 56 #[gv d r s] w fun e w' => e = .returned (.bool false) ∧ Below w.heap.size w w' := by
  rcases not_Bd h with h1 | ⟨h0, h1⟩ | ⟨h0, h00, h1⟩
  · exact right_outD d r s w (inB_no h1)
  · exact right_outR d r s w (inB_yes h0) (inB_no h1)
  · exact right_outS d r s w (inB_yes h0) (inB_yes h00) (inB_no h1)

theorem right_yes (d r s : Int) (w : World) (h : Rt d r s) : Calls Try.prog 56 #[gv d r s] w fun e w' => e = .returned (.bool true) ∧ Below w.heap.size w w' := by
  have := right_bd d r s w h.toBd
  rwa [decide_eq_true h.q] at this
theorem right_no (d r s : Int) (w : World) (h : ¬ Rt d r s) : Calls Try.prog 56 #[gv d r s] w fun e w' => e = .returned (.bool false) ∧ Below w.heap.size w w' := by
  by_cases hb : Bd d r s
  · have := right_bd d r s w hb
    rwa [decide_eq_false (fun q => h ⟨hb, q⟩)] at this
  · exact right_out d r s w hb

theorem bel_box' {w w2 : World} {B : Nat} (o : Obj) (hB : w.heap.size ≤ B) (hb : Below B (w.alloc o) w2) : Below w.heap.size w w2 :=
  ((Below.refl _ _).alloc (Nat.le_refl _) o).trans (hb.mono hB)
theorem size_box' {w w2 : World} {B : Nat} (o : Obj) (hb : Below B (w.alloc o) w2) : w.heap.size < w2.heap.size := by
  have := hb.size; simp at this; omega

theorem places_yes (d r s : Int) (w : World) (h : Rt d r s) : Calls Try.prog 27 #[gv d r s] w fun e w' => e = .returned (.int .i64 (PL d r)) ∧ Below w.heap.size w w' := by
  go_enter Try.func27, Try.ntmps27
  go_wp2_with (fail)
  with_reducible refine (right_yes d r s _ h).mono ?_
  rintro e w2 ⟨rfl, hb⟩
  have hz : w.heap.size < w2.heap.size := size_box' _ hb
  have hB := bel_box' _ (by simp) hb
  obtain ⟨hc, hf⟩ := bcell hb
  clear hb
  go_wp2_with (fail)
  with_reducible refine (placesS_any d r s _ h.d1 h.d2 h.r1 h.r2).mono ?_
  rintro e w3 ⟨rfl, hb3⟩
  go_wp2_with (fail)
  go_ret
  exact ⟨rfl, hB.trans (hb3.mono (Nat.le_of_lt hz))⟩

/-- A geometry lies in block b. -/
structure Bx (w : World) (b : Nat) (d r s : Int) : Prop where
  lt : b < w.heap.size
  c0 : w.cell? ⟨b, 0, none⟩ = some (.int .i64 d)
  c1 : w.cell? ⟨b, 1, none⟩ = some (.int .i64 r)
  c2 : w.cell? ⟨b, 2, none⟩ = some (.int .i64 s)
theorem Bx.below {w w' : World} {b B : Nat} {d r s : Int} (h : Bx w b d r s) (hb : Below B w w') (hB : w.heap.size ≤ B) : Bx w' b d r s := by
  have hl := Nat.lt_of_lt_of_le h.lt hB
  exact ⟨Nat.lt_of_lt_of_le h.lt hb.size, (hb.cell (p := ⟨b, 0, none⟩) hl).trans h.c0, (hb.cell (p := ⟨b, 1, none⟩) hl).trans h.c1, (hb.cell (p := ⟨b, 2, none⟩) hl).trans h.c2⟩
theorem Bx.next {w w' : World} {b : Nat} {d r s : Int} (h : Bx w b d r s) (hb : Below w.heap.size w w') : Bx w' b d r s := h.below hb (Nat.le_refl _)
theorem Bx.mk' (w : World) (d r s : Int) (t : TypeId) : Bx (w.alloc (.cells #[.int .i64 d, .int .i64 r, .int .i64 s] t (0, 0))) w.heap.size d r s :=
  ⟨by simp, by go_simp, by go_simp, by go_simp⟩
theorem Bx.alloc {w : World} {b : Nat} {d r s : Int} (h : Bx w b d r s) (o : Obj) : Bx (w.alloc o) b d r s := h.below (((Below.refl _ _).alloc (Nat.le_refl _) o)) (Nat.le_refl _)
theorem Bx.drew {w : World} {b : Nat} {d r s : Int} (h : Bx w b d r s) : Bx w.drew b d r s := ⟨h.lt, h.c0, h.c1, h.c2⟩
/-- A spot's cells, free. -/
structure Sx (w : World) (b : Nat) : Prop where
  lt : b < w.heap.size
  c0 : ∃ v, w.cell? ⟨b, 0, none⟩ = some v
  c1 : ∃ v, w.cell? ⟨b, 1, none⟩ = some v
  f0 : w.frozen? ⟨b, 0, none⟩ = false
  f1 : w.frozen? ⟨b, 1, none⟩ = false
theorem Sx.mk' (w : World) (x y : Value) (t : TypeId) : Sx (w.alloc (.cells #[x, y] t (0, 0))) w.heap.size :=
  ⟨by simp, ⟨x, by go_simp⟩, ⟨y, by go_simp⟩, by go_simp, by go_simp⟩
theorem two (w : World) (d r s : Int) (t t' : TypeId) :
    Bx ((w.alloc (.cells #[.int .i64 d, .int .i64 r, .int .i64 s] t (0, 0))).alloc (.cells #[.int .i64 0, .int .i64 0] t' (0, 0))) w.heap.size d r s ∧ Sx ((w.alloc (.cells #[.int .i64 d, .int .i64 r, .int .i64 s] t (0, 0))).alloc (.cells #[.int .i64 0, .int .i64 0] t' (0, 0))) (w.heap.size + 1) := by
  refine ⟨(Bx.mk' w d r s t).alloc _, ?_⟩
  have hs := Sx.mk' (w.alloc (.cells #[.int .i64 d, .int .i64 r, .int .i64 s] t (0, 0))) (.int .i64 0) (.int .i64 0) t'
  simpa using hs

theorem isSize_any (s : Int) (w : World) : Calls Try.prog 112 #[.int .i64 s] w fun e w' => e = .returned (.bool (szO s)) ∧ w = w' := by
  by_cases h : 0 ≤ s
  · by_cases h2 : s ≤ 46368
    · have e : szO s = true := decide_eq_true ⟨h, h2⟩
      rw [e]
      have HE := Lib.hid e
      clear e
      go_enter Try.func112, Try.ntmps112
      go_wp2
      go_ret
      exact ⟨rfl, rfl⟩
    · have e : szO s = false := decide_eq_false (by omega)
      rw [e]
      clear e
      go_enter Try.func112, Try.ntmps112
      go_wp2
      go_ret
      exact ⟨rfl, rfl⟩
  · have e : szO s = false := decide_eq_false (by omega)
    rw [e]
    clear e
    go_enter Try.func112, Try.ntmps112
    go_wp2
    go_ret
    exact ⟨rfl, rfl⟩
theorem noPtr_any (s : Int) (w : World) : Calls Try.prog 130 #[.int .i64 s] w fun e w' => e = .returned (.bool (!ptO s)) ∧ w = w' := by
  by_cases h : s < 0
  · have e : ptO s = false := decide_eq_false (by omega)
    rw [e]
    clear e
    go_enter Try.func130, Try.ntmps130
    go_wp2
    go_ret
    exact ⟨rfl, rfl⟩
  · by_cases h2 : 65535 < s
    · have e : ptO s = false := decide_eq_false (by omega)
      rw [e]
      clear e
      go_enter Try.func130, Try.ntmps130
      go_wp2
      go_ret
      exact ⟨rfl, rfl⟩
    · have e : ptO s = true := decide_eq_true (by omega)
      rw [e]
      clear e
      go_enter Try.func130, Try.ntmps130
      go_wp2
      go_ret
      exact ⟨rfl, rfl⟩
theorem firstTold_any (i : Nat) (hi : i < 18) (w : World) : Calls Try.prog 176 #[.int .i64 i] w fun e w' => e = .returned (.int .i64 (ftI i)) ∧ w = w' := by
  unfold ftI
  by_cases h : i = 16
  · subst h
    go_enter Try.func176, Try.ntmps176
    go_wp2
    go_ret
    exact ⟨rfl, rfl⟩
  · by_cases h2 : i = 17
    · subst h2
      go_enter Try.func176, Try.ntmps176
      go_wp2
      go_ret
      exact ⟨rfl, rfl⟩
    · rw [if_neg h, if_neg h2]
      have d1 : decide ((i : Int) = 16) = false := decide_eq_false (by omega)
      have d2 : decide ((i : Int) = 17) = false := decide_eq_false (by omega)
      go_enter Try.func176, Try.ntmps176
      go_wp2
      go_ret
      exact ⟨rfl, rfl⟩
theorem wq56 {s : Int} (h0 : 0 ≤ s) (h1 : s ≤ 46368) : IntKind.i64.wrap ((s + 55).tdiv 56) = (s + 55) / 56 := by
  rw [Int.tdiv_eq_ediv_of_nonneg (by omega)]
  exact IntWalk.i64_in _ (by omega)
theorem blocks_any (s : Int) (w : World) : Calls Try.prog 71 #[.int .i64 s] w fun e w' => e = .returned (.int .i64 (blkN s)) ∧ w = w' := by
  have hc := isSize_any s w
  by_cases h : 0 ≤ s ∧ s ≤ 46368
  · have e : szO s = true := decide_eq_true h
    rw [e] at hc
    have w1 : IntKind.i64.wrap (s + 56) = s + 56 := IntWalk.i64_in _ (by omega)
    have w2 : IntKind.i64.wrap (s + 56 - 1) = s + 55 := by rw [show s + 56 - 1 = s + 55 by omega]; exact IntWalk.i64_in _ (by omega)
    have w3 := wq56 h.1 h.2
    have hb : blkN s = (s + 55) / 56 := by rw [blkN, if_pos h]
    rw [hb]
    clear e hb h
    go_enter Try.func71, Try.ntmps71
    go_wp2_with (fail)
    refine hc.mono ?_
    rintro e w2 ⟨rfl, rfl⟩
    go_wp2_with (fail)
    go_ret
    exact ⟨rfl, rfl⟩
  · have e : szO s = false := decide_eq_false h
    rw [e] at hc
    have hb : blkN s = 0 := by rw [blkN, if_neg h]
    rw [hb]
    clear e hb h
    go_enter Try.func71, Try.ntmps71
    go_wp2_with (fail)
    refine hc.mono ?_
    rintro e w2 ⟨rfl, rfl⟩
    go_wp2_with (fail)
    go_ret
    exact ⟨rfl, rfl⟩
end Go.Proofs.Ytegcjpocdfmpfaa
