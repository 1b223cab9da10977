/-
  Groups that come one behind the other, as the law makes them; one info dropped of them.
-/
import Derived.Test.YtcpplppccljmiaaKm
namespace Go.Proofs.Ytcpplppccljmiaa
set_option linter.unusedVariables false

/-- The k-th info of a group of n, that begins at segment g and Seq q. -/
def infK (n : Nat) (g q : Int) (k : Nat) : Inf := ⟨g + k, q + k, n, k, 0, if k + 1 = n then 1 else 0⟩
def blkK (n : Nat) (g q : Int) (m : Nat) : List Inf := (List.range m).map (infK n g q)
theorem blkK_succ (n : Nat) (g q : Int) (m : Nat) : blkK n g q (m + 1) = blkK n g q m ++ [infK n g q m] := by simp [blkK, List.range_succ]
theorem blkK_len (n : Nat) (g q : Int) (m : Nat) : (blkK n g q m).length = m := by simp [blkK]
theorem blkK_get {n : Nat} {g q : Int} {m k : Nat} {x : Inf} (h : (blkK n g q m)[k]? = some x) : k < m ∧ x = infK n g q k := by
  have hk : k < m := by
    rcases Nat.lt_or_ge k m with h1 | h1
    · exact h1
    · rw [List.getElem?_eq_none (by rw [blkK_len]; exact h1)] at h; cases h
  refine ⟨hk, ?_⟩
  unfold blkK at h
  rw [List.getElem?_map, List.getElem?_range hk] at h
  simpa using h.symm
theorem blkK_mem {n : Nat} {g q : Int} {m : Nat} {x : Inf} (h : x ∈ blkK n g q m) : ∃ k, k < m ∧ x = infK n g q k := by
  obtain ⟨k, hk⟩ := List.getElem?_of_mem h
  exact ⟨k, blkK_get hk⟩
def kbK (n : Nat) (g q : Int) : Kb := ⟨q, n, blkK n g q n⟩
def Kb.Whole (k : Kb) : Prop := (∀ x ∈ k.B, x.of k.f k.c = true) ∧ k.B ≠ [] ∧ (k.B.length : Int) = k.c ∧ OrdI k.B
theorem kbK_whole {n : Nat} {g q : Int} (hn : 0 < n) (hq : 0 ≤ q) : (kbK n g q).Whole := by
  refine ⟨fun x hx => ?_, fun e => ?_, ?_, fun k x hx => ?_⟩
  · obtain ⟨k, hk, rfl⟩ := blkK_mem hx
    unfold Inf.of Inf.ok infK kbK
    rw [decide_eq_true, decide_eq_true]
    · rfl
    · exact ⟨by show q + (k : Int) - (k : Int) = q; omega, rfl⟩
    · exact ⟨by show (0 : Int) ≤ (k : Int); omega, by show (k : Int) < (n : Int); omega, by show (k : Int) ≤ q + (k : Int); omega⟩
  · have := congrArg List.length e
    simp [kbK, blkK_len] at this
    omega
  · simp [kbK, blkK_len]
  · obtain ⟨_, rfl⟩ := blkK_get hx
    rfl
/-- What the law has behind i groups. -/
structure RowK (Ks : List Kb) (i len : Nat) (seq : Int) (E : List Int) : Prop where
  num : Ks.length = i
  whole : ∀ k ∈ Ks, k.Whole
  asc : Ks.Pairwise fun a b => a.f < b.f
  low : ∀ k ∈ Ks, k.f < seq
  cnt : (flatB Ks).length = len
  enum : E.length = i
  ends : ∀ j, j < i → E[j]? = some ((flatB (Ks.take (j + 1))).length : Int)
  most : len ≤ 4 * i
  seqs : 3 ≤ seq ∧ seq ≤ 3 + 5 * i
  small : AllW (flatB Ks)
theorem RowK.zero : RowK [] 0 0 3 [] := ⟨rfl, (fun k h => by cases h), List.Pairwise.nil, (fun k h => by cases h), rfl, rfl, (fun j h => by omega), by omega, by omega, (fun x h => by cases h)⟩
theorem flatB_append (A B : List Kb) : flatB (A ++ B) = flatB A ++ flatB B := by simp [flatB]
theorem flatB_one (k : Kb) : flatB [k] = k.B := by simp [flatB]
theorem infK_small {n : Nat} {g q : Int} {k : Nat} (hn : n ≤ 4) (hk : k < n) (hq : q ≤ 1000000) : (infK n g q k).W := by
  unfold Inf.W infK
  constructor
  · show q + (k : Int) < _; omega
  · show (n : Int) < _; omega
theorem RowK.next {Ks : List Kb} {i len n : Nat} {seq seq' : Int} {E : List Int} (h : RowK Ks i len seq E) (hi : i < 1000) (hn : 0 < n) (hn4 : n ≤ 4) (hs : seq + n ≤ seq' ∧ seq' ≤ seq + n + 1) :
    RowK (Ks ++ [kbK n len seq]) (i + 1) (len + n) seq' (E ++ [((len + n : Nat) : Int)]) := by
  obtain ⟨q0, q1⟩ := h.seqs
  have hfl : (flatB (Ks ++ [kbK n len seq])).length = len + n := by rw [flatB_append, flatB_one, List.length_append, h.cnt]; simp [kbK, blkK_len]
  refine ⟨by simp [h.num], fun k hk => ?_, ?_, fun k hk => ?_, hfl, by simp [h.enum], fun j hj => ?_, by have := h.most; omega, by omega, fun x hx => ?_⟩
  · rcases List.mem_append.1 hk with h1 | h1
    · exact h.whole k h1
    · rw [List.mem_singleton.1 h1]; exact kbK_whole hn (by omega)
  · rw [List.pairwise_append]
    refine ⟨h.asc, List.pairwise_singleton _ _, fun a ha b hb => ?_⟩
    rw [List.mem_singleton.1 hb]
    exact h.low a ha
  · rcases List.mem_append.1 hk with h1 | h1
    · have := h.low k h1; omega
    · rw [List.mem_singleton.1 h1]; show seq < _; omega
  · rcases (by omega : j < i ∨ j = i) with h1 | rfl
    · rw [List.getElem?_append_left (by rw [h.enum]; exact h1), h.ends j h1, List.take_append_of_le_length (by rw [h.num]; omega)]
    · rw [List.getElem?_append_right (by rw [h.enum]; exact Nat.le_refl _), h.enum, Nat.sub_self, List.take_of_length_le (by simp [h.num]), hfl]
      rfl
  · rw [flatB_append, flatB_one] at hx
    rcases List.mem_append.1 hx with h1 | h1
    · exact h.small x h1
    · obtain ⟨k, hk, rfl⟩ := blkK_mem h1
      exact infK_small hn4 hk (by omega)
def grK (k : Kb) : Gr := mkG k.f k.B
theorem whole_fine {k : Kb} (h : k.Whole) : k.Fine := ⟨h.1, .inl h.2⟩
theorem whole_map : ∀ {Ks : List Kb}, (∀ k ∈ Ks, k.Whole) → Ks.filterMap wholeK = Ks.map grK
  | [], _ => rfl
  | k :: Ks, h => by
    have h1 := h k (by simp)
    have e : wholeK k = some (grK k) := by unfold wholeK grK; rw [if_pos ⟨h1.2.1, h1.2.2.1⟩]
    rw [List.filterMap_cons, e, whole_map fun k hk => h k (List.mem_cons_of_mem _ hk)]
    rfl
theorem RowK.groups {Ks : List Kb} {i len : Nat} {seq : Int} {E : List Int} (h : RowK Ks i len seq E) : GroupsOf (flatB Ks) (Ks.map grK) := by
  rw [← whole_map h.whole]
  exact groups_flat (fun k hk => whole_fine (h.whole k hk)) h.asc
theorem drop_one {A B C : List Inf} {d : Nat} (h1 : A.length ≤ d) (h2 : d < A.length + B.length) : (A ++ (B ++ C)).take d ++ (A ++ (B ++ C)).drop (d + 1) = A ++ (B.eraseIdx (d - A.length) ++ C) := by
  rw [← List.eraseIdx_eq_take_drop_succ, List.eraseIdx_append_of_length_le h1, List.eraseIdx_append_of_lt_length (by omega)]
theorem RowK.dropped {Ks : List Kb} {i len : Nat} {seq : Int} {E : List Int} (h : RowK Ks i len seq E) {g d : Nat} (hg : g < i) (h1 : (flatB (Ks.take g)).length ≤ d) (h2 : d < (flatB (Ks.take (g + 1))).length) :
    GroupsOf ((flatB Ks).take d ++ (flatB Ks).drop (d + 1)) ((Ks.map grK).take g ++ (Ks.map grK).drop (g + 1)) := by
  have hgl : g < Ks.length := by rw [h.num]; exact hg
  obtain ⟨k, hk⟩ : ∃ k, k = Ks[g] := ⟨_, rfl⟩
  have hsp : Ks = Ks.take g ++ (k :: Ks.drop (g + 1)) := by rw [hk, ← List.drop_eq_getElem_cons hgl, List.take_append_drop]
  have ht : Ks.take (g + 1) = Ks.take g ++ [k] := by rw [hk, List.take_append_getElem]
  obtain ⟨A, hA⟩ : ∃ A, A = Ks.take g := ⟨_, rfl⟩
  obtain ⟨C, hC⟩ : ∃ C, C = Ks.drop (g + 1) := ⟨_, rfl⟩
  rw [← hA] at h1 ht hsp
  rw [ht, flatB_append, flatB_one, List.length_append] at h2
  have hmem : k ∈ Ks := by rw [hk]; exact List.getElem_mem _
  have hkw := h.whole k hmem
  rw [← hC] at hsp
  have e1 : flatB Ks = flatB A ++ (k.B ++ flatB C) := by rw [hsp, flatB_append]; simp [flatB]
  have el : (k.B.eraseIdx (d - (flatB A).length)).length + 1 = k.B.length := by rw [List.length_eraseIdx_of_lt (by omega)]; omega
  have e2 : (flatB Ks).take d ++ (flatB Ks).drop (d + 1) = flatB (A ++ (⟨k.f, k.c, k.B.eraseIdx (d - (flatB A).length)⟩ :: C)) := by
    rw [e1, drop_one h1 h2, flatB_append]; simp [flatB]
  have hAw : ∀ x ∈ A, x.Whole := fun x hx => h.whole x (by rw [hsp]; exact List.mem_append_left _ hx)
  have hCw : ∀ x ∈ C, x.Whole := fun x hx => h.whole x (by rw [hsp]; exact List.mem_append_right _ (List.mem_cons_of_mem _ hx))
  have hasc := h.asc
  rw [hsp, List.pairwise_append, List.pairwise_cons] at hasc
  obtain ⟨p1, ⟨p2, p3⟩, p4⟩ := hasc
  have hmain := groups_flat (Ks := A ++ (⟨k.f, k.c, k.B.eraseIdx (d - (flatB A).length)⟩ :: C)) (fun x hx => by
    rcases List.mem_append.1 hx with h1 | h1
    · exact whole_fine (hAw x h1)
    rcases List.mem_cons.1 h1 with h1 | h1
    · rw [h1]
      refine ⟨fun y hy => hkw.1 y (List.mem_of_mem_eraseIdx hy), .inr ?_⟩
      have := hkw.2.2.1
      show ((k.B.eraseIdx (d - (flatB A).length)).length : Int) ≠ k.c
      omega
    · exact whole_fine (hCw x h1)) (by
    rw [List.pairwise_append, List.pairwise_cons]
    refine ⟨p1, ⟨fun x hx => p2 x hx, p3⟩, fun a ha b hb => ?_⟩
    rcases List.mem_cons.1 hb with h1 | h1
    · rw [h1]; exact p4 a ha k (by simp)
    · exact p4 a ha b (List.mem_cons_of_mem _ h1))
  rw [e2]
  have e3 : (A ++ (⟨k.f, k.c, k.B.eraseIdx (d - (flatB A).length)⟩ :: C)).filterMap wholeK = (Ks.map grK).take g ++ (Ks.map grK).drop (g + 1) := by
    have e4 : wholeK ⟨k.f, k.c, k.B.eraseIdx (d - (flatB A).length)⟩ = none := by
      unfold wholeK
      rw [if_neg]
      rintro ⟨_, b⟩
      have := hkw.2.2.1
      have b' : ((k.B.eraseIdx (d - (flatB A).length)).length : Int) = k.c := b
      omega
    rw [List.filterMap_append, List.filterMap_cons, e4, whole_map hAw, whole_map hCw, ← List.map_take, ← List.map_drop, ← hA, ← hC]
  rw [e3] at hmain
  exact hmain
theorem RowK.rest {Ks : List Kb} {i len : Nat} {seq : Int} {E : List Int} (h : RowK Ks i len seq E) (d : Nat) : AllW ((flatB Ks).take d ++ (flatB Ks).drop (d + 1)) := fun x hx => by
  rcases List.mem_append.1 hx with h1 | h1
  · exact h.small x (List.mem_of_mem_take h1)
  · exact h.small x (List.mem_of_mem_drop h1)
theorem flat_part : ∀ {Ks : List Kb} {k : Kb}, k ∈ Ks → k.B.length ≤ (flatB Ks).length
  | [], k, h => by cases h
  | j :: Ks, k, h => by
    have e : (flatB (j :: Ks)).length = j.B.length + (flatB Ks).length := by simp [flatB]
    rcases List.mem_cons.1 h with rfl | h1
    · omega
    · have := flat_part h1; omega
theorem RowK.sizes {Ks : List Kb} {i len : Nat} {seq : Int} {E : List Int} (h : RowK Ks i len seq E) {G : Gr} (hG : G ∈ Ks.map grK) : G.s.length ≤ len := by
  obtain ⟨k, hk, rfl⟩ := List.mem_map.1 hG
  have := flat_part hk
  rw [h.cnt] at this
  simpa [grK, mkG] using this
end Go.Proofs.Ytcpplppccljmiaa
