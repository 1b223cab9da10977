/-
  Paths, plainly: what is a name, the pieces of a text between its slashes, what Split, Join and Within answer.
-/
import Derived.Test.YthoblenoijkglaaDoorRows
import Derived.Lib.SplitLaws
import Derived.Lib.Join
namespace Go.Proofs.YthoblenoijkglaaDoor
set_option linter.unusedVariables false
set_option linter.unusedSimpArgs false

/-- A byte that a name may have. -/
def okB (b : UInt8) : Bool := !(b == 0) && !(b == 47)
/-- Is it a name? -/
def nmB (l : List UInt8) : Bool := decide (1 ≤ l.length) && decide (l.length ≤ 12) && !(l == [46]) && !(l == [46, 46]) && l.all okB
/-- Are these the names of a path? -/
def arP (L : List (List UInt8)) : Bool := decide (L.length ≤ 8) && L.all nmB
/-- The first piece made longer at its front. -/
def glue (p : List UInt8) : List (List UInt8) → List (List UInt8)
  | [] => [p]
  | x :: r => (p ++ x) :: r
/-- The pieces between the slashes. -/
def pcs : List UInt8 → List (List UInt8)
  | [] => [[]]
  | b :: l => if b = 47 then [] :: pcs l else glue [b] (pcs l)
/-- A path's names. -/
def spl : List UInt8 → Option (List (List UInt8))
  | [] => none
  | b :: r => if b = 47 then (if r = [] then some [] else if arP (pcs r) then some (pcs r) else none) else none
/-- The path of names. -/
def joi (L : List (List UInt8)) : Option (List UInt8) := if arP L then some (47 :: Lib.join L [47]) else none
/-- Is the first one at or below the other one? -/
def wit (a b : List UInt8) : Bool :=
  match spl a, spl b with
  | some l, some m => decide (m.length ≤ l.length) && (l.take m.length == m)
  | _, _ => false

theorem pcs_ne (l : List UInt8) : pcs l ≠ [] := by
  cases l with
  | nil => simp [pcs]
  | cons b l =>
    unfold pcs
    split
    · simp
    · cases pcs l <;> simp [glue]
theorem glue_nil {L : List (List UInt8)} (h : L ≠ []) : glue [] L = L := by cases L with
  | nil => exact absurd rfl h
  | cons x r => rfl
theorem glue_glue (p q : List UInt8) (L : List (List UInt8)) : glue p (glue q L) = glue (p ++ q) L := by cases L <;> simp [glue]
theorem glue_len {L : List (List UInt8)} (h : L ≠ []) (p : List UInt8) : (glue p L).length = L.length := by cases L with
  | nil => exact absurd rfl h
  | cons x r => rfl
theorem pcs_len : ∀ l : List UInt8, (pcs l).length = l.count 47 + 1
  | [] => rfl
  | b :: l => by
    unfold pcs
    split
    · next h => subst h; rw [List.length_cons, pcs_len l, List.count_cons_self]
    · next h => rw [glue_len (pcs_ne l), pcs_len l, List.count_cons_of_ne h]
theorem pcs_miss : ∀ l : List UInt8, Lib.index l [47] = -1 → pcs l = [l]
  | [], _ => rfl
  | b :: l, h => by
    rw [Lib.index] at h
    by_cases hb : b = 47
    · subst hb; simp [List.isPrefixOf] at h
    · have hp : ([47] : List UInt8).isPrefixOf (b :: l) = false := by simp [List.isPrefixOf, Ne.symm hb]
      rw [hp] at h
      have hge := Lib.index_ge l [47]
      have h' : Lib.index l [47] = -1 := by
        by_cases hm : Lib.index l [47] = -1
        · exact hm
        · simp [hm] at h; omega
      unfold pcs
      rw [if_neg hb, pcs_miss l h']
      rfl
theorem pcs_hit : ∀ (l : List UInt8) (i : Nat), Lib.index l [47] = i → pcs l = l.take i :: pcs (l.drop (i + 1))
  | [], i, h => by simp [Lib.index] at h
  | b :: l, i, h => by
    rw [Lib.index] at h
    by_cases hb : b = 47
    · subst hb
      have : i = 0 := by simp [List.isPrefixOf] at h; omega
      subst this
      rw [pcs]
      simp
    · have hp : ([47] : List UInt8).isPrefixOf (b :: l) = false := by simp [List.isPrefixOf, Ne.symm hb]
      rw [hp] at h
      have hge := Lib.index_ge l [47]
      by_cases hm : Lib.index l [47] = -1
      · simp [hm] at h
      · simp [hm] at h
        obtain ⟨j, rfl⟩ : ∃ j, i = j + 1 := ⟨i - 1, by omega⟩
        have := pcs_hit l j (by omega)
        rw [pcs, if_neg hb, this]
        simp [glue]
theorem count_hit47 {l : List UInt8} {i : Nat} (h : Lib.index l [47] = i) : l.count 47 = 1 + (l.drop (i + 1)).count 47 := by
  have := Lib.count_hit (s := l) (sub := [47]) (i := i) (by simp) h
  rwa [Lib.count_one, Lib.count_one] at this
theorem splitK_all : ∀ (k : Nat) (l : List UInt8), l.count 47 ≤ k → Lib.splitK [47] 0 k l = pcs l
  | 0, l, h => by
    rw [Lib.splitK]
    rcases Lib.index_spec l [47] with ⟨h1, _⟩ | ⟨i, h1, _⟩
    · rw [pcs_miss l h1]
    · have := count_hit47 h1; omega
  | k + 1, l, h => by
    rw [Lib.splitK]
    rcases Lib.index_spec l [47] with ⟨h1, _⟩ | ⟨i, h1, _⟩
    · rw [h1, pcs_miss l h1]; rfl
    · have hc := count_hit47 h1
      rw [h1, pcs_hit l i h1]
      have e : ((i : Int) == -1) = false := by simp
      rw [e]
      simp only [Bool.false_eq_true, if_false, Int.toNat_natCast, Nat.add_zero, List.length_cons, List.length_nil, Nat.zero_add]
      rw [splitK_all k _ (by omega)]
theorem splitK_len : ∀ (k : Nat) (l : List UInt8), k ≤ l.count 47 → (Lib.splitK [47] 0 k l).length = k + 1
  | 0, l, h => rfl
  | k + 1, l, h => by
    rw [Lib.splitK]
    rcases Lib.index_spec l [47] with ⟨h1, _⟩ | ⟨i, h1, _⟩
    · have := Lib.count_miss h1
      rw [Lib.count_one] at this; omega
    · have hc := count_hit47 h1
      rw [h1]
      have e : ((i : Int) == -1) = false := by simp
      rw [e]
      simp only [Bool.false_eq_true, if_false, Int.toNat_natCast, Nat.add_zero, List.length_cons, List.length_nil, Nat.zero_add]
      rw [splitK_len k _ (by omega)]
/-- What SplitN of nine pieces answers, as far as Split asks. -/
def nin (l : List UInt8) : List (List UInt8) := Lib.splitK [47] 0 (min 9 (l.length + 1) - 1) l
theorem nin_cases (l : List UInt8) : nin l = pcs l ∨ (8 < (nin l).length ∧ 8 < (pcs l).length) := by
  unfold nin
  have hc := List.count_le_length (a := (47 : UInt8)) (l := l)
  by_cases h : l.count 47 ≤ min 9 (l.length + 1) - 1
  · exact .inl (splitK_all _ l h)
  · refine .inr ⟨?_, by rw [pcs_len]; omega⟩
    rw [splitK_len _ l (by omega)]
    omega
theorem nin_le (l : List UInt8) : (nin l).length ≤ 9 := by
  rcases nin_cases l with h | h
  · unfold nin
    by_cases hc : min 9 (l.length + 1) - 1 ≤ l.count 47
    · rw [splitK_len _ l hc]; omega
    · rw [splitK_all _ l (by omega), pcs_len]; omega
  · unfold nin
    have hc := List.count_le_length (a := (47 : UInt8)) (l := l)
    have := h.2
    rw [pcs_len] at this
    rw [splitK_len _ l (by omega)]; omega
theorem arP_nin (l : List UInt8) : arP (nin l) = arP (pcs l) ∧ (arP (nin l) = true → nin l = pcs l) := by
  rcases nin_cases l with h | ⟨h1, h2⟩
  · rw [h]; exact ⟨rfl, fun _ => rfl⟩
  · have e1 : arP (nin l) = false := by unfold arP; rw [decide_eq_false (by omega)]; rfl
    have e2 : arP (pcs l) = false := by unfold arP; rw [decide_eq_false (by omega)]; rfl
    exact ⟨by rw [e1, e2], fun h => by rw [e1] at h; cases h⟩

/-- The document's way through a path: what is left, the name so far, the names so far. -/
def rsp : List UInt8 → List UInt8 → List (List UInt8) → Option (List (List UInt8))
  | [], nm, out => if nmB nm && !(out.length == 8) then some (out ++ [nm]) else none
  | b :: r, nm, out => if b = 47 then (if nmB nm && !(out.length == 8) then rsp r [] (out ++ [nm]) else none) else rsp r (nm ++ [b]) out
theorem arP_snoc {out : List (List UInt8)} {nm : List UInt8} (h : arP out = true) : arP (out ++ [nm]) = (nmB nm && !(out.length == 8)) := by
  unfold arP at h ⊢
  simp only [Bool.and_eq_true, decide_eq_true_eq] at h
  rw [List.all_append, h.2, List.length_append, List.length_singleton]
  by_cases h8 : out.length = 8
  · rw [h8]; simp
  · rw [decide_eq_true (by omega)]
    have : (out.length == 8) = false := by simp [h8]
    rw [this]; simp
theorem arP_front {L M : List (List UInt8)} (h : arP L = false) : arP (L ++ M) = false := by
  unfold arP at h ⊢
  rw [List.all_append, List.length_append]
  by_cases h8 : L.length ≤ 8
  · rw [decide_eq_true h8, Bool.true_and] at h
    rw [h]; simp
  · rw [decide_eq_false (by omega)]; rfl
theorem rsp_eq : ∀ (r nm : List UInt8) (out : List (List UInt8)), arP out = true → rsp r nm out = if arP (out ++ glue nm (pcs r)) then some (out ++ glue nm (pcs r)) else none
  | [], nm, out, h => by
    rw [rsp, pcs]
    simp only [glue, List.append_nil]
    rw [arP_snoc h]
  | b :: r, nm, out, h => by
    rw [rsp, pcs]
    by_cases hb : b = 47
    · rw [if_pos hb, if_pos hb]
      have e : out ++ glue nm ([] :: pcs r) = (out ++ [nm]) ++ pcs r := by simp [glue]
      rw [e]
      cases hn : (nmB nm && !(out.length == 8)) with
      | true =>
        rw [if_pos rfl, rsp_eq r [] _ (by rw [arP_snoc h, hn]), glue_nil (pcs_ne r)]
      | false =>
        have h2 : arP (out ++ [nm]) = false := by rw [arP_snoc h, hn]
        rw [arP_front h2]
        simp
    · rw [if_neg hb, if_neg hb, rsp_eq r (nm ++ [b]) out h, glue_glue]
theorem rsp_spl {r : List UInt8} (h : r ≠ []) : rsp r [] [] = spl (47 :: r) := by
  rw [rsp_eq r [] [] rfl, spl, if_pos rfl, if_neg h, glue_nil (pcs_ne r), List.nil_append]

theorem spl_arP {s : List UInt8} {L : List (List UInt8)} (h : spl s = some L) : arP L = true := by
  cases s with
  | nil => cases h
  | cons b r =>
    rw [spl] at h
    split at h
    · split at h
      · cases h; rfl
      · split at h
        · next hp => cases h; exact hp
        · cases h
    · cases h
theorem nmB_pos {l : List UInt8} (h : nmB l = true) : 1 ≤ l.length ∧ l.length ≤ 12 ∧ l.all okB = true := by
  unfold nmB at h
  simp only [Bool.and_eq_true, decide_eq_true_eq] at h
  exact ⟨h.1.1.1.1, h.1.1.1.2, h.2⟩
theorem arP_len {L : List (List UInt8)} (h : arP L = true) : L.length ≤ 8 := by
  unfold arP at h
  simp only [Bool.and_eq_true, decide_eq_true_eq] at h
  exact h.1
theorem arP_all {L : List (List UInt8)} (h : arP L = true) {x : List UInt8} (hx : x ∈ L) : nmB x = true := by
  unfold arP at h
  simp only [Bool.and_eq_true] at h
  exact List.all_eq_true.1 h.2 x hx
theorem arP_mk {L : List (List UInt8)} (h : L.length ≤ 8) (ha : ∀ x ∈ L, nmB x = true) : arP L = true := by
  unfold arP
  rw [decide_eq_true h, Bool.true_and]
  exact List.all_eq_true.2 ha
theorem arP_take {L : List (List UInt8)} (h : arP L = true) (n : Nat) : arP (L.take n) = true :=
  arP_mk (by have := arP_len h; rw [List.length_take]; omega) fun x hx => arP_all h (List.mem_of_mem_take hx)
theorem pcs_ok : ∀ {l : List UInt8}, l.all okB = true → pcs l = [l]
  | [], _ => rfl
  | b :: l, h => by
    simp only [List.all_cons, Bool.and_eq_true] at h
    have hb : b ≠ 47 := fun e => by subst e; simp [okB] at h
    rw [pcs, if_neg hb, pcs_ok h.2]
    rfl
theorem pcs_app : ∀ {l : List UInt8}, l.all okB = true → ∀ r, pcs (l ++ 47 :: r) = l :: pcs r
  | [], _, r => by rw [List.nil_append, pcs, if_pos rfl]
  | b :: l, h, r => by
    simp only [List.all_cons, Bool.and_eq_true] at h
    have hb : b ≠ 47 := fun e => by subst e; simp [okB] at h
    rw [List.cons_append, pcs, if_neg hb, pcs_app h.2]
    rfl
theorem joinTail_cons (x : List UInt8) (r : List (List UInt8)) : Lib.joinTail [47] (x :: r) = 47 :: Lib.join (x :: r) [47] := by
  rw [Lib.join_cons]; simp [Lib.joinTail]
theorem pcs_join : ∀ {x : List UInt8} {r : List (List UInt8)}, (∀ y ∈ x :: r, nmB y = true) → pcs (Lib.join (x :: r) [47]) = x :: r
  | x, [], h => by rw [Lib.join_one]; exact pcs_ok (nmB_pos (h x (by simp))).2.2
  | x, y :: r, h => by
    rw [Lib.join_cons, joinTail_cons, pcs_app (nmB_pos (h x (by simp))).2.2, pcs_join (fun z hz => h z (List.mem_cons_of_mem _ hz))]
/-- A path that is joined is split again. -/
theorem spl_joi {L : List (List UInt8)} {s : List UInt8} (h : joi L = some s) : spl s = some L := by
  unfold joi at h
  split at h
  · next hp =>
    cases h
    cases L with
    | nil => rfl
    | cons x r =>
      have hx := nmB_pos (arP_all hp (x := x) (by simp))
      rw [spl, if_pos rfl, if_neg (by rw [Lib.join_cons]; intro e; have := congrArg List.length e; rw [List.length_append, List.length_nil] at this; omega), pcs_join (fun z hz => arP_all hp hz), if_pos hp]
  · cases h
theorem joi_some {L : List (List UInt8)} (h : arP L = true) : ∃ s, joi L = some s ∧ spl s = some L := ⟨_, if_pos h, spl_joi (if_pos h)⟩
theorem joi_len {L : List (List UInt8)} (h : arP L = true) : (Lib.join L [47]).length ≤ 120 := by
  have hlens : ∀ M : List (List UInt8), (∀ x ∈ M, nmB x = true) → Lib.lens M ≤ 12 * M.length := by
    intro M hM
    induction M with
    | nil => simp [Lib.lens]
    | cons x r ih =>
      have h1 := (nmB_pos (hM x (by simp))).2.1
      have h2 := ih fun y hy => hM y (List.mem_cons_of_mem _ hy)
      simp only [Lib.lens, List.map_cons, List.sum_cons, List.length_cons] at h2 ⊢
      omega
  cases L with
  | nil => simp [Lib.join_nil]
  | cons x r =>
    have h1 := (nmB_pos (arP_all h (x := x) (by simp))).2.1
    have h2 := hlens r fun y hy => arP_all h (List.mem_cons_of_mem _ hy)
    have h3 := arP_len h
    rw [Lib.join_cons, List.length_append, Lib.joinTail_length]
    simp only [List.length_cons, List.length_nil] at h3 ⊢
    omega
theorem wit_eq {a b : List UInt8} {l m : List (List UInt8)} (ha : spl a = some l) (hb : spl b = some m) : wit a b = (decide (m.length ≤ l.length) && (l.take m.length == m)) := by
  unfold wit; rw [ha, hb]
theorem wit_left {a : List UInt8} (ha : spl a = none) (b : List UInt8) : wit a b = false := by unfold wit; rw [ha]
theorem wit_self {a : List UInt8} {l : List (List UInt8)} (ha : spl a = some l) : wit a a = true := by
  rw [wit_eq ha ha]; simp
theorem wit_root {a : List UInt8} {l : List (List UInt8)} (ha : spl a = some l) : wit a [47] = true := by
  rw [wit_eq ha (m := []) rfl]; simp
theorem wit_front {a p : List UInt8} {l : List (List UInt8)} {n : Nat} (ha : spl a = some l) (hp : spl p = some (l.take n)) : wit a p = true := by
  rw [wit_eq ha hp]
  simp only [Bool.and_eq_true, decide_eq_true_eq, beq_iff_eq]
  refine ⟨by rw [List.length_take]; omega, ?_⟩
  rw [List.length_take, ← List.take_take]
  rcases Nat.le_total n l.length with h | h
  · rw [List.take_of_length_le (i := l.length) (Nat.le_refl _)]
  · rw [List.take_of_length_le (i := l.length) (Nat.le_refl _)]
theorem wit_longer {a p : List UInt8} {l m : List (List UInt8)} (ha : spl a = some l) (hp : spl p = some m) (h : m.length < l.length) : wit p a = false := by
  rw [wit_eq hp ha, decide_eq_false (by omega)]; rfl
end Go.Proofs.YthoblenoijkglaaDoor
