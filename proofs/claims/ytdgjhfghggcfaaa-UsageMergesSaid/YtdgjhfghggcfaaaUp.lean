/-
  Counts, free segments, victims and room, in plain words.
-/
import Derived.Test.YtdgjhfghggcfaaaInts
import Derived.Test.YtdgjhfghggcfaaaGeo
namespace Go.Proofs.Ytdgjhfghggcfaaa
open Go.RowKit
set_option linter.unusedVariables false

/-- Is the address i + 1 among those of L? -/
def has1 (L : List Int) (i : Nat) : Bool := decide (((i + 1 : Nat) : Int) ∈ L)
/-- How many of the first t addresses are in L and in segment s. -/
def cU (D : Nat) (L : List Int) (s t : Nat) : Nat := (List.range t).countP fun i => has1 L i && i / D == s
/-- How many of the first t addresses are in L. -/
def dU (L : List Int) (t : Nat) : Nat := (List.range t).countP fun i => has1 L i
/-- Each is nought or one of the first t addresses. -/
def AdOk (t : Nat) (L : List Int) : Prop := ∀ a ∈ L, 0 ≤ a ∧ a ≤ (t : Int)
theorem countP_rs (p : Nat → Bool) (t : Nat) : (List.range (t + 1)).countP p = (List.range t).countP p + if p t then 1 else 0 := by
  rw [List.range_succ, List.countP_append]
  simp [List.countP_cons]
theorem countP_cg {p q : Nat → Bool} : ∀ (t : Nat), (∀ i, i < t → p i = q i) → (List.range t).countP p = (List.range t).countP q
  | 0, _ => rfl
  | t + 1, h => by rw [countP_rs, countP_rs, countP_cg t (fun i hi => h i (by omega)), h t (by omega)]
theorem countP_new {p q : Nat → Bool} {k : Nat} : ∀ (t : Nat), k < t → p k = false → (∀ i, i < t → q i = (p i || i == k)) → (List.range t).countP q = (List.range t).countP p + 1
  | 0, hk, _, _ => by omega
  | t + 1, hk, hp, h => by
    rw [countP_rs, countP_rs]
    by_cases e : k = t
    · subst e
      rw [countP_cg k (p := q) (q := p) (fun i hi => by rw [h i (by omega)]; simp; omega), h k (by omega), hp]
      simp
    · rw [countP_new t (by omega) hp (fun i hi => h i (by omega)), h t (by omega)]
      have : (t == k) = false := by simp; omega
      rw [this, Bool.or_false]
      omega
theorem has1_app (L : List Int) (a : Int) (i : Nat) : has1 (L ++ [a]) i = (has1 L i || decide (((i + 1 : Nat) : Int) = a)) := by
  unfold has1
  simp [List.mem_append, List.mem_singleton, Bool.decide_or]
theorem has1_zero (L : List Int) (i : Nat) : has1 (L ++ [0]) i = has1 L i := by
  rw [has1_app]
  have : decide (((i + 1 : Nat) : Int) = 0) = false := decide_eq_false (by omega)
  rw [this, Bool.or_false]
theorem has1_old {L : List Int} {a : Int} (h : a ∈ L) (i : Nat) : has1 (L ++ [a]) i = has1 L i := by
  rw [has1_app]
  by_cases e : ((i + 1 : Nat) : Int) = a
  · have : has1 L i = true := decide_eq_true (by rw [e]; exact h)
    rw [this, Bool.true_or]
  · rw [decide_eq_false e, Bool.or_false]
theorem cU_cg {D s t : Nat} {L M : List Int} (h : ∀ i, has1 L i = has1 M i) : cU D L s t = cU D M s t := countP_cg t fun i _ => by rw [h i]
theorem dU_cg {t : Nat} {L M : List Int} (h : ∀ i, has1 L i = has1 M i) : dU L t = dU M t := countP_cg t fun i _ => h i
/-- One address more. -/
theorem cU_new {D s t k : Nat} {L : List Int} (hk : k < t) (h : ¬ ((k + 1 : Nat) : Int) ∈ L) : cU D (L ++ [((k + 1 : Nat) : Int)]) s t = cU D L s t + if k / D = s then 1 else 0 := by
  have e : ∀ i : Nat, decide (((i + 1 : Nat) : Int) = ((k + 1 : Nat) : Int)) = (i == k) := fun i => by
    by_cases h : i = k
    · subst h; simp
    · rw [decide_eq_false (by omega)]; simp [h]
  by_cases hs : k / D = s
  · rw [if_pos hs]
    refine countP_new t hk (by rw [show has1 L k = false from decide_eq_false h]; rfl) fun i _ => ?_
    simp only [has1_app, e]
    by_cases hi : i = k
    · subst hi; simp [hs]
    · have : (i == k) = false := by simp [hi]
      simp [this]
  · rw [if_neg hs]
    refine countP_cg t fun i _ => ?_
    simp only [has1_app, e]
    by_cases hi : i = k
    · subst hi
      have : (i / D == s) = false := by simp [hs]
      rw [this, Bool.and_false, Bool.and_false]
    · have : (i == k) = false := by simp [hi]
      rw [this, Bool.or_false]
theorem dU_new {t k : Nat} {L : List Int} (hk : k < t) (h : ¬ ((k + 1 : Nat) : Int) ∈ L) : dU (L ++ [((k + 1 : Nat) : Int)]) t = dU L t + 1 := by
  refine countP_new t hk (decide_eq_false h) fun i _ => ?_
  simp only [has1_app]
  congr 1
  by_cases h : i = k
  · subst h; simp
  · rw [decide_eq_false (by omega)]; simp [h]
theorem cU_nil (D s t : Nat) : cU D [] s t = 0 := by
  unfold cU
  rw [List.countP_eq_zero]
  intro i _
  simp [has1]
theorem dU_nil (t : Nat) : dU [] t = 0 := by
  unfold dU
  rw [List.countP_eq_zero]
  intro i _
  simp [has1]
theorem cU_succ (D s t : Nat) (L : List Int) : cU D L s (t + 1) = cU D L s t + if has1 L t = true ∧ t / D = s then 1 else 0 := by
  unfold cU
  rw [countP_rs]
  by_cases h : has1 L t = true ∧ t / D = s
  · rw [if_pos h, if_pos (by simp [h.1, h.2])]
  · rw [if_neg h, if_neg (by simpa using h)]
/-- A segment has no more than its places. -/
theorem seg_le {D : Nat} (hD : 0 < D) (s : Nat) : ∀ (t : Nat), (List.range t).countP (fun i => i / D == s) ≤ D ∧ (List.range t).countP (fun i => i / D == s) ≤ t - s * D
  | 0 => by simp
  | t + 1 => by
    obtain ⟨h1, h2⟩ := seg_le hD s t
    rw [countP_rs]
    by_cases e : t / D = s
    · have a := Nat.div_mul_le_self t D
      have c : t < (t / D + 1) * D := by
        have := Nat.lt_div_mul_add hD (a := t)
        rw [Nat.add_mul, Nat.one_mul]; exact this
      rw [e] at a c
      rw [Nat.add_mul, Nat.one_mul] at c
      rw [if_pos (by simp [e])]
      omega
    · rw [if_neg (by simpa using e)]
      omega
theorem cU_le {D : Nat} (hD : 0 < D) (L : List Int) (s t : Nat) : cU D L s t ≤ D :=
  Nat.le_trans (List.countP_mono_left (fun i _ h => by simp at h ⊢; exact h.2)) (seg_le hD s t).1
theorem cU_front {D s t : Nat} {L M : List Int} (h : ∀ a ∈ L, a ∈ M) : cU D L s t ≤ cU D M s t :=
  List.countP_mono_left fun i _ hi => by
    simp only [Bool.and_eq_true, has1, decide_eq_true_eq] at hi ⊢
    exact ⟨h _ hi.1, hi.2⟩
/-- The sum of a list of numbers. -/
def sumL : List Int → Int
  | [] => 0
  | x :: r => x + sumL r
theorem sumL_app (x y : List Int) : sumL (x ++ y) = sumL x + sumL y := by
  induction x with
  | nil => simp [sumL]
  | cons a r ih => simp only [List.cons_append, sumL, ih]; omega
theorem sumL_perm {x y : List Int} (h : x.Perm y) : sumL x = sumL y := by
  induction h with
  | nil => rfl
  | cons a _ ih => simp [sumL, ih]
  | swap a b l => simp only [sumL]; omega
  | trans _ _ i j => exact i.trans j
/-- The segments' counts. -/
def cL (S D : Nat) (L : List Int) : List Int := (List.range S).map fun s => ((cU D L s (S * D) : Nat) : Int)
theorem cL_len (S D : Nat) (L : List Int) : (cL S D L).length = S := by simp [cL]
theorem cL_num {S D s : Nat} (L : List Int) (h : s < S) : num (cL S D L) s = ((cU D L s (S * D) : Nat) : Int) := by
  unfold num cL
  simp [List.getD, h]
theorem num_out {ks : List Int} {i : Nat} (h : ks.length ≤ i) : num ks i = 0 := by
  unfold num
  simp [List.getD, List.getElem?_eq_none h]
theorem num_mem {ks : List Int} {i : Nat} (h : i < ks.length) : num ks i ∈ ks := by
  unfold num
  rw [List.getD, List.getElem?_eq_getElem h]
  exact List.getElem_mem h
theorem num_ext {x y : List Int} (hl : x.length = y.length) (h : ∀ i, i < x.length → num x i = num y i) : x = y := by
  apply List.ext_getElem hl
  intro i h1 h2
  have := h i h1
  simpa [num, List.getD, h1, h2] using this
theorem num_set {ks : List Int} {i : Nat} (h : i < ks.length) (z : Int) (j : Nat) : num (ks.set i z) j = if j = i then z else num ks j := by
  unfold num
  by_cases e : j = i
  · subst e; simp [List.getD, h]
  · rw [if_neg e]; simp [List.getD, Ne.symm e]
theorem take_num {ks : List Int} {k : Nat} (h : k < ks.length) : ks.take (k + 1) = ks.take k ++ [num ks k] := by
  rw [List.take_add_one, List.getElem?_eq_getElem h]
  unfold num
  simp [List.getD, List.getElem?_eq_getElem h]
theorem sumL_take {ks : List Int} {k : Nat} (h : k < ks.length) : sumL (ks.take (k + 1)) = sumL (ks.take k) + num ks k := by
  rw [take_num h, sumL_app]
  simp [sumL]
/-- All segments' counts together are how many addresses there are. -/
theorem cU_row {D : Nat} (L : List Int) (t : Nat) : ∀ S : Nat, (∀ i, i < t → i / D < S) → sumL ((List.range S).map fun s => ((cU D L s t : Nat) : Int)) = (dU L t : Int) := by
  intro S
  induction t with
  | zero =>
    intro _
    have : ∀ S, sumL ((List.range S).map fun s => ((cU D L s 0 : Nat) : Int)) = 0 := by
      intro S
      induction S with
      | zero => rfl
      | succ S ih => rw [List.range_succ, List.map_append, sumL_app, ih]; simp [sumL, cU]
    rw [this]
    rfl
  | succ t ih =>
    intro h
    have h0 := ih fun i hi => h i (by omega)
    have ht := h t (by omega)
    unfold dU at h0 ⊢
    rw [countP_rs]
    have e : ∀ S' : Nat, sumL ((List.range S').map fun s => ((cU D L s (t + 1) : Nat) : Int)) = sumL ((List.range S').map fun s => ((cU D L s t : Nat) : Int)) + if has1 L t = true ∧ t / D < S' then 1 else 0 := by
      intro S'
      induction S' with
      | zero => simp [sumL]
      | succ S' ih2 =>
        rw [List.range_succ, List.map_append, List.map_append, sumL_app, sumL_app, ih2]
        simp only [List.map_cons, List.map_nil, sumL, cU_succ]
        by_cases hh : has1 L t = true
        · simp only [hh, true_and]
          by_cases e1 : t / D = S'
          · rw [if_pos e1, if_neg (by omega), if_pos (by omega)]; omega
          · rw [if_neg e1]
            by_cases e2 : t / D < S'
            · rw [if_pos e2, if_pos (by omega)]; omega
            · rw [if_neg e2, if_neg (by omega)]; omega
        · simp [hh]
    rw [e, h0]
    by_cases hh : has1 L t = true
    · rw [if_pos ⟨hh, ht⟩, if_pos hh]; omega
    · rw [if_neg (fun x => hh x.1), if_neg hh]; omega
theorem cL_sum {S D : Nat} (hD : 0 < D) (L : List Int) : sumL (cL S D L) = (dU L (S * D) : Int) :=
  cU_row L (S * D) S fun i hi => Nat.div_lt_of_lt_mul (by rw [Nat.mul_comm]; exact hi)

/-- The segments that are free. -/
def frL (S : Nat) (ks ts : List Int) : List Int := ((List.range S).filter fun s => num ks s == 0 && !decide ((s : Int) ∈ ts)).map fun s : Nat => (s : Int)
theorem frL_succ (S : Nat) (ks ts : List Int) : frL (S + 1) ks ts = frL S ks ts ++ if num ks S = 0 ∧ ¬ (S : Int) ∈ ts then [(S : Int)] else [] := by
  unfold frL
  rw [List.range_succ, List.filter_append, List.map_append]
  congr 1
  by_cases h : num ks S = 0 ∧ ¬ (S : Int) ∈ ts
  · rw [if_pos h]; simp [List.filter_cons, h.1, h.2]
  · rw [if_neg h]
    rw [List.filter_cons, if_neg (by simpa using h)]
    rfl
theorem frL_len (S : Nat) (ks ts : List Int) : (frL S ks ts).length ≤ S := by
  unfold frL
  rw [List.length_map]
  exact Nat.le_trans (List.length_filter_le _ _) (by simp)

/-- A segment in use, and its count. -/
structure Usd where
  s : Int
  c : Int
deriving DecidableEq
instance : Inhabited Usd := ⟨⟨0, 0⟩⟩
/-- The segments that are in use and not taken. -/
def usL (S : Nat) (ks ts : List Int) : List Usd := ((List.range S).filter fun s => decide (0 < num ks s) && !decide ((s : Int) ∈ ts)).map fun s : Nat => ⟨(s : Int), num ks s⟩
theorem usL_succ (S : Nat) (ks ts : List Int) : usL (S + 1) ks ts = usL S ks ts ++ if 0 < num ks S ∧ ¬ (S : Int) ∈ ts then [⟨(S : Int), num ks S⟩] else [] := by
  unfold usL
  rw [List.range_succ, List.filter_append, List.map_append]
  congr 1
  by_cases h : 0 < num ks S ∧ ¬ (S : Int) ∈ ts
  · rw [if_pos h]; simp [List.filter_cons, h.1, h.2]
  · rw [if_neg h]
    rw [List.filter_cons, if_neg (by simpa using h)]
    rfl
theorem usL_len (S : Nat) (ks ts : List Int) : (usL S ks ts).length ≤ S := by
  unfold usL
  rw [List.length_map]
  exact Nat.le_trans (List.length_filter_le _ _) (by simp)
theorem usL_mem {S : Nat} {ks ts : List Int} {x : Usd} : x ∈ usL S ks ts ↔ ∃ s : Nat, s < S ∧ 0 < num ks s ∧ ¬ (s : Int) ∈ ts ∧ x = ⟨(s : Int), num ks s⟩ := by
  unfold usL
  simp only [List.mem_map, List.mem_filter, List.mem_range, Bool.and_eq_true, decide_eq_true_eq, Bool.not_eq_true', decide_eq_false_iff_not]
  exact ⟨fun ⟨s, ⟨a, b, c⟩, e⟩ => ⟨s, a, b, c, e.symm⟩, fun ⟨s, a, b, c, e⟩ => ⟨s, ⟨a, b, c⟩, e.symm⟩⟩
theorem usL_nodup (S : Nat) (ks ts : List Int) : (usL S ks ts).Nodup := by
  unfold usL List.Nodup
  rw [List.pairwise_map]
  refine (List.Pairwise.filter _ (List.pairwise_lt_range (n := S))).imp ?_
  intro a b h e
  have := congrArg Usd.s e
  simp only at this
  omega
/-- By rising counts, then by their numbers. -/
def ltU (x y : Usd) : Prop := x.c < y.c ∨ (x.c = y.c ∧ x.s < y.s)
theorem ltU_asymm {x y : Usd} (h : ltU x y) : ¬ ltU y x := by unfold ltU at *; omega
theorem ltU_ne {x y : Usd} (h : ltU x y) : x ≠ y := fun e => by subst e; exact ltU_asymm h h
theorem ltU_tri {x y : Usd} (h : x ≠ y) : ltU x y ∨ ltU y x := by
  unfold ltU
  by_cases e : x.c = y.c
  · have : x.s ≠ y.s := fun e2 => h (by cases x; cases y; simp_all)
    omega
  · omega
/-- As many, from the first one on, as go into what is left. -/
def gr : Int → List Usd → List Usd
  | _, [] => []
  | left, x :: r => if left < x.c then [] else x :: gr (left - x.c) r
/-- The victims' segments. -/
def vres (l : List Usd) : List Int := if l.length < 2 then [] else l.map Usd.s
/-- What victims there are. -/
def IsVic (D : Int) (S : Nat) (ks ts : List Int) (v : List Int) : Prop := ∃ l, l.Perm (usL S ks ts) ∧ l.Pairwise ltU ∧ v = vres (gr D l)
theorem gr_sub : ∀ (left : Int) (l : List Usd), ∃ k, gr left l = l.take k
  | _, [] => ⟨0, rfl⟩
  | left, x :: r => by
    unfold gr
    by_cases h : left < x.c
    · rw [if_pos h]; exact ⟨0, rfl⟩
    · rw [if_neg h]
      obtain ⟨k, hk⟩ := gr_sub (left - x.c) r
      exact ⟨k + 1, by rw [hk]; rfl⟩
theorem gr_sum : ∀ (left : Int) (l : List Usd), 0 ≤ left → sumL ((gr left l).map Usd.c) ≤ left
  | left, [], h => by simpa [gr, sumL] using h
  | left, x :: r, h => by
    unfold gr
    by_cases h1 : left < x.c
    · rw [if_pos h1]; simpa [sumL] using h
    · rw [if_neg h1]
      have := gr_sum (left - x.c) r (by omega)
      simp only [List.map_cons, sumL]
      omega
/-- What is too great by itself plays no part. -/
theorem gr_small {D : Int} : ∀ (left : Int) (l : List Usd), left ≤ D → (∀ x ∈ l, 0 ≤ x.c) → l.Pairwise (fun x y => x.c ≤ y.c) → gr left l = gr left (l.filter fun x => decide (x.c ≤ D))
  | _, [], _, _, _ => rfl
  | left, x :: r, h, h0, hp => by
    obtain ⟨p1, p2⟩ := List.pairwise_cons.1 hp
    by_cases hx : x.c ≤ D
    · rw [List.filter_cons, if_pos (by simpa using hx)]
      unfold gr
      by_cases h1 : left < x.c
      · rw [if_pos h1, if_pos h1]
      · rw [if_neg h1, if_neg h1, gr_small (D := D) (left - x.c) r (by have := h0 x (by simp); omega) (fun y hy => h0 y (by simp [hy])) p2]
    · rw [List.filter_eq_nil_iff.2]
      · unfold gr
        rw [if_pos (by omega)]
      · intro y hy
        rcases List.mem_cons.1 hy with rfl | hy
        · simpa using hx
        · have := p1 y hy
          simp only [decide_eq_true_eq]
          omega
/-- The document's order: by counts from 1 to D, then by segments. -/
def vRow (S : Nat) (ks ts : List Int) (c : Int) (m : Nat) : List Usd := ((List.range m).filter fun s => decide (num ks s = c) && !decide ((s : Int) ∈ ts)).map fun s : Nat => ⟨(s : Int), c⟩
def vL (S : Nat) (ks ts : List Int) (n : Nat) : List Usd := (List.range n).flatMap fun k : Nat => vRow S ks ts ((k : Int) + 1) S
theorem vL_succ (S : Nat) (ks ts : List Int) (n : Nat) : vL S ks ts (n + 1) = vL S ks ts n ++ vRow S ks ts ((n : Int) + 1) S := by
  unfold vL
  rw [List.range_succ, List.flatMap_append]
  simp
theorem vRow_succ (S : Nat) (ks ts : List Int) (c : Int) (m : Nat) : vRow S ks ts c (m + 1) = vRow S ks ts c m ++ if num ks m = c ∧ ¬ (m : Int) ∈ ts then [⟨(m : Int), c⟩] else [] := by
  unfold vRow
  rw [List.range_succ, List.filter_append, List.map_append]
  congr 1
  by_cases h : num ks m = c ∧ ¬ (m : Int) ∈ ts
  · rw [if_pos h]; simp [List.filter_cons, h.1, h.2]
  · rw [if_neg h]
    rw [List.filter_cons, if_neg (by simpa using h)]
    rfl
theorem vRow_mem {S m : Nat} {ks ts : List Int} {c : Int} {x : Usd} : x ∈ vRow S ks ts c m ↔ ∃ s : Nat, s < m ∧ num ks s = c ∧ ¬ (s : Int) ∈ ts ∧ x = ⟨(s : Int), c⟩ := by
  unfold vRow
  simp only [List.mem_map, List.mem_filter, List.mem_range, Bool.and_eq_true, decide_eq_true_eq, Bool.not_eq_true', decide_eq_false_iff_not]
  exact ⟨fun ⟨s, ⟨a, b, c⟩, e⟩ => ⟨s, a, b, c, e.symm⟩, fun ⟨s, a, b, c, e⟩ => ⟨s, ⟨a, b, c⟩, e.symm⟩⟩
theorem vRow_pair (S : Nat) (ks ts : List Int) (c : Int) (m : Nat) : (vRow S ks ts c m).Pairwise ltU := by
  unfold vRow
  rw [List.pairwise_map]
  refine (List.Pairwise.filter _ (List.pairwise_lt_range (n := m))).imp ?_
  intro a b h
  exact .inr ⟨rfl, by simp only; omega⟩
theorem vL_mem {S n : Nat} {ks ts : List Int} {x : Usd} : x ∈ vL S ks ts n ↔ x ∈ usL S ks ts ∧ x.c ≤ (n : Int) := by
  unfold vL
  simp only [List.mem_flatMap, List.mem_range, vRow_mem, usL_mem]
  constructor
  · rintro ⟨k, hk, s, hs, hn, ht, rfl⟩
    exact ⟨⟨s, hs, by omega, ht, by rw [hn]⟩, by simp only; omega⟩
  · rintro ⟨⟨s, hs, h0, ht, rfl⟩, hc⟩
    simp only at hc
    refine ⟨(num ks s - 1).toNat, by omega, s, hs, by omega, ht, ?_⟩
    congr 1
    omega
theorem vL_pair (S : Nat) (ks ts : List Int) : ∀ n, (vL S ks ts n).Pairwise ltU
  | 0 => List.Pairwise.nil
  | n + 1 => by
    rw [vL_succ, List.pairwise_append]
    refine ⟨vL_pair S ks ts n, vRow_pair _ _ _ _ _, fun x hx y hy => ?_⟩
    have h1 := (vL_mem.1 hx).2
    obtain ⟨s, _, _, _, rfl⟩ := vRow_mem.1 hy
    exact .inl (by simp only; omega)
theorem nodup_ltU {l : List Usd} (h : l.Pairwise ltU) : l.Nodup := h.imp fun h => ltU_ne h
/-- Two rows in order with the same members are one. -/
theorem ltU_one {l m : List Usd} (hl : l.Pairwise ltU) (hm : m.Pairwise ltU) (h : ∀ x, x ∈ l ↔ x ∈ m) : l = m :=
  List.Perm.eq_of_pairwise (le := ltU) (fun a b _ _ h1 h2 => absurd h2 (ltU_asymm h1)) hl hm ((List.perm_ext_iff_of_nodup (nodup_ltU hl) (nodup_ltU hm)).2 h)
/-- The document's victims. -/
theorem IsVic.eq {D S : Nat} {ks ts v : List Int} (h : IsVic D S ks ts v) : v = vres (gr D (vL S ks ts D)) := by
  obtain ⟨l, hp, hs, rfl⟩ := h
  congr 1
  rw [gr_small (D := D) D l (Int.le_refl _) (fun x hx => ?_) (hs.imp fun {a b} h => ?_)]
  · congr 1
    refine ltU_one (hs.filter _) (vL_pair _ _ _ _) fun x => ?_
    rw [List.mem_filter, vL_mem, hp.mem_iff, decide_eq_true_eq]
  · obtain ⟨s, _, h0, _, rfl⟩ := usL_mem.1 (hp.mem_iff.1 hx)
    exact Int.le_of_lt h0
  · unfold ltU at h; omega
theorem IsVic.of {D S : Nat} {ks ts : List Int} {l : List Usd} (hp : l.Perm (usL S ks ts)) (hs : l.Pairwise fun a b => ¬ ltU b a) : l.Pairwise ltU := by
  have hn : l.Nodup := hp.nodup_iff.2 (usL_nodup _ _ _)
  refine (List.pairwise_and_iff.2 ⟨hs, hn⟩).imp ?_
  rintro a b ⟨h1, h2⟩
  exact (ltU_tri h2).resolve_right h1
/-- The document's way: one that doesn't fit is passed over. -/
def stp (D : Int) (p : Int × List Usd) (x : Usd) : Int × List Usd := if p.1 + x.c ≤ D then (p.1 + x.c, p.2 ++ [x]) else p
theorem stp_gr {D : Int} : ∀ (l : List Usd) (p : Int × List Usd), l.Pairwise (fun x y => x.c ≤ y.c) → (l.foldl (stp D) p).2 = p.2 ++ gr (D - p.1) l
  | [], p, _ => by simp [gr]
  | x :: r, p, h => by
    obtain ⟨h1, h2⟩ := List.pairwise_cons.1 h
    rw [List.foldl_cons]
    unfold gr
    by_cases hx : p.1 + x.c ≤ D
    · rw [if_neg (by omega), stp_gr r _ h2]
      unfold stp
      rw [if_pos hx]
      simp only [List.append_assoc, List.singleton_append]
      rw [show D - (p.1 + x.c) = D - p.1 - x.c by omega]
    · rw [if_pos (by omega)]
      have hs : stp D p x = p := if_neg hx
      rw [hs]
      have : ∀ (r : List Usd), (∀ y ∈ r, x.c ≤ y.c) → r.foldl (stp D) p = p := by
        intro r
        induction r with
        | nil => intro _; rfl
        | cons y r ih =>
          intro hy
          rw [List.foldl_cons]
          have h3 := hy y (by simp)
          have : stp D p y = p := if_neg (by omega)
          rw [this]
          exact ih fun z hz => hy z (by simp [hz])
      rw [this r h1]
      simp
theorem stp_vL (D : Nat) (S : Nat) (ks ts : List Int) : ((vL S ks ts D).foldl (stp D) (0, [])).2 = gr D (vL S ks ts D) := by
  rw [stp_gr _ _ ((vL_pair S ks ts D).imp fun {a b} h => by unfold ltU at h; omega)]
  simp
/-- What the document's way has so far: its sum is the victims' counts'. -/
theorem stp_sum {D : Int} : ∀ (l : List Usd) (p : Int × List Usd), 0 ≤ p.1 → p.1 ≤ D → (∀ x ∈ l, 0 ≤ x.c) → 0 ≤ (l.foldl (stp D) p).1 ∧ (l.foldl (stp D) p).1 ≤ D
  | [], p, h0, h1, _ => ⟨h0, h1⟩
  | x :: r, p, h0, h1, h => by
    have hx := h x (by simp)
    refine stp_sum r _ ?_ ?_ fun y hy => h y (by simp [hy])
    · unfold stp; split <;> (try simp only) <;> omega
    · unfold stp; split <;> (try simp only) <;> omega
theorem stp_len {D : Int} : ∀ (l : List Usd) (p : Int × List Usd), (l.foldl (stp D) p).2.length ≤ p.2.length + l.length
  | [], p => Nat.le_refl _
  | x :: r, p => by
    refine Nat.le_trans (stp_len r _) ?_
    unfold stp
    split
    · simp; omega
    · simp

/-- How many counts are above 0. -/
def upN (ks : List Int) : Nat := ks.countP fun k => decide (0 < k)
theorem upN_le (ks : List Int) : upN ks ≤ ks.length := List.countP_le_length
theorem upN_take {ks : List Int} {k : Nat} (h : k < ks.length) : upN (ks.take (k + 1)) = upN (ks.take k) + if 0 < num ks k then 1 else 0 := by
  rw [take_num h]
  unfold upN
  rw [List.countP_append]
  simp [List.countP_cons]
/-- None is below 0. -/
def noneNeg (ks : List Int) : Prop := ∀ k ∈ ks, 0 ≤ k
instance (ks : List Int) : Decidable (noneNeg ks) := inferInstanceAs (Decidable (∀ k ∈ ks, 0 ≤ k))
/-- The segments that so many blocks need. -/
def cei (D n : Int) : Int := (n + D - 1) / D
/-- Is there room? -/
def fitP (D s u old data more : Int) : Bool := decide (0 ≤ old ∧ 0 ≤ data ∧ 0 ≤ more ∧ u + cei D data + max (old + cei D more) (2 * cei D more + 1) ≤ s)
theorem cei_bd {D n : Int} (hD : 1 ≤ D) (hn : 0 ≤ n) : 0 ≤ cei D n ∧ n ≤ cei D n * D ∧ cei D n ≤ n := by
  unfold cei
  have h1 : 0 ≤ n + D - 1 := by omega
  have a := Int.ediv_nonneg h1 (show 0 ≤ D by omega)
  have b := Int.emod_add_mul_ediv (n + D - 1) D
  have c := Int.emod_lt_of_pos (n + D - 1) (show 0 < D by omega)
  have e := Int.emod_nonneg (n + D - 1) (show D ≠ 0 by omega)
  rw [Int.mul_comm] at b
  refine ⟨a, by omega, ?_⟩
  by_cases h0 : n = 0
  · subst h0
    have : (0 + D - 1) / D = 0 := Int.ediv_eq_zero_of_lt (by omega) (by omega)
    omega
  · have hq : (n + D - 1) / D ≤ (n * D) / D := Int.ediv_le_ediv (by omega) (by
      obtain ⟨m, rfl⟩ : ∃ m, n = m + 1 := ⟨n - 1, by omega⟩
      obtain ⟨E, rfl⟩ : ∃ E, D = E + 1 := ⟨D - 1, by omega⟩
      have := Int.mul_nonneg (show 0 ≤ m by omega) (show 0 ≤ E by omega)
      rw [Int.add_mul, Int.mul_add]
      omega)
    rw [Int.mul_ediv_cancel _ (by omega)] at hq
    exact hq
theorem cei_le {D n m : Int} (hD : 1 ≤ D) (h : n ≤ m * D) : cei D n ≤ m := by
  unfold cei
  have : n + D - 1 < (m + 1) * D := by rw [Int.add_mul]; omega
  have := Int.ediv_lt_of_lt_mul (show 0 < D by omega) this
  omega
theorem cei_mono {D n m : Int} (hD : 1 ≤ D) (h : n ≤ m) : cei D n ≤ cei D m := by
  unfold cei
  exact Int.ediv_le_ediv (by omega) (by omega)
end Go.Proofs.Ytdgjhfghggcfaaa
