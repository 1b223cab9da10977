/-
  slices.SortFunc of the segments in use, by the library's contract.
-/
import Derived.Test.YtdgjhfghggcfaaaCu
import Derived.Test.YtdgjhfghggcfaaaLay
namespace Go.Proofs.Ytdgjhfghggcfaaa
open Go.RowKit Go.Sort Go.Lib
set_option linter.unusedVariables false

section
variable {α : Type} [Inhabited α] {enc : α → List Value} {k : Nat}
omit [Inhabited α] in
theorem fm_len (hk : ∀ x, (enc x).length = k) (d : List α) : (d.flatMap enc).length = d.length * k := by
  induction d with
  | nil => simp
  | cons x r ih => rw [List.flatMap_cons, List.length_append, ih, hk, List.length_cons, Nat.add_mul]; omega
theorem fm_get (hk0 : 0 < k) (hk : ∀ x, (enc x).length = k) : ∀ (d : List α) (t : Nat), t < d.length * k → (d.flatMap enc)[t]? = some ((enc d[t / k]!)[t % k]!)
  | [], t, h => by simp at h
  | x :: r, t, h => by
    by_cases ht : t < k
    · rw [List.flatMap_cons, List.getElem?_append_left (by rw [hk]; exact ht), Nat.div_eq_of_lt ht, Nat.mod_eq_of_lt ht]
      have : t < (enc x).length := by rw [hk]; exact ht
      simp [this]
    · obtain ⟨u, rfl⟩ : ∃ u, t = k + u := ⟨t - k, by omega⟩
      rw [List.flatMap_cons, List.getElem?_append_right (by rw [hk]; omega), hk, Nat.add_sub_cancel_left, fm_get hk0 hk r u (by rw [List.length_cons, Nat.add_mul] at h; omega)]
      rw [Nat.add_div_left u hk0, Nat.add_mod_left]
      simp
theorem flatK_list (hk0 : 0 < k) (hk : ∀ x, (enc x).length = k) (d : Array α) : (flatK enc k d).toList = d.toList.flatMap enc := by
  apply List.ext_getElem?
  intro t
  by_cases ht : t < d.size * k
  · have h1 := get_flatK enc k d t ht
    have h2 := fm_get hk0 hk d.toList t (by simpa using ht)
    rw [h2]
    have hs : t < (flatK enc k d).size := by rw [size_flatK]; exact ht
    rw [getElem!_pos _ t hs] at h1
    have hq : t / k < d.size := Nat.div_lt_of_lt_mul (by rw [Nat.mul_comm]; exact ht)
    rw [Array.getElem?_toList, Array.getElem?_eq_getElem hs, h1, getElem!_pos d (t / k) hq, getElem!_pos d.toList (t / k) (by simpa using hq), Array.getElem_toList]
  · rw [List.getElem?_eq_none (by simp; omega), List.getElem?_eq_none (by rw [fm_len hk]; simp; omega)]
/-- A row of the call's own holds its elements. -/
theorem holds_own (hk0 : 0 < k) (hk : ∀ x, (enc x).length = k) {w : World} {B g n cap : Nat} {e : TypeId} {d : List α} (ho : w.ownsRow B e k (.slice (some ⟨g, 0, none⟩) n cap) n (d.flatMap enc)) : HoldsK enc k w g 0 d.toArray := by
  intro j hj
  rcases ho.2 with ⟨h, _⟩ | ⟨g', cap', cur, h, hb, hg, hnc, hm, hsz, htake⟩
  · cases h
  · cases h
    have hl := ho.1
    rw [fm_len hk] at hl
    have hj' : j < d.length * k := by simpa using hj
    have h2 : (flatK enc k d.toArray)[j]! = (enc d[j / k]!)[j % k]! := by rw [get_flatK _ _ _ _ (by simpa using hj')]; simp
    rw [h2]
    refine ⟨?_, frozen_of_row w g (0 + j) cur e hg⟩
    rw [cell_of_row w g (0 + j) cur e (0, 0) hg, Nat.zero_add]
    have h3 := fm_get hk0 hk d j hj'
    rw [← htake, List.getElem?_take, if_pos (by omega)] at h3
    simpa using h3
/-- .. and behind the sort it is one of the call's own still; nothing else has turned. -/
theorem own_sorted (hk0 : 0 < k) (hk : ∀ x, (enc x).length = k) {w : World} {B g n cap : Nat} {e : TypeId} {d : List α} (ho : w.ownsRow B e k (.slice (some ⟨g, 0, none⟩) n cap) n (d.flatMap enc)) (d' : Array α) (hd : d'.size = d.length) (m : Nat) (os : Array Obj) :
    (Go.Proofs.sortWorldK enc k w g 0 m d' os).ownsRow B e k (.slice (some ⟨g, 0, none⟩) n cap) n (d'.toList.flatMap enc) ∧ w.grownBy (Go.Proofs.sortWorldK enc k w g 0 m d' os) (some g) := by
  rcases ho.2 with ⟨h, _⟩ | ⟨g', cap', cur, h, hb, hg, hnc, hm, hsz, htake⟩
  · cases h
  · cases h
    have hl := ho.1
    rw [fm_len hk] at hl
    have hlt : g < w.heap.size := lt_of_block hg
    have hheap : ∀ i, i < w.heap.size → (Go.Proofs.sortWorldK enc k w g 0 m d' os).heap[i]? = (w.heap.modify g (onCells (putCells id 0 (flatK enc k d'))))[i]? := fun i hi => by
      show ((w.heap.modify g (onCells (putCells id 0 (flatK enc k d')))) ++ os)[i]? = _
      rw [Array.getElem?_append_left (by simpa using hi)]
    refine ⟨⟨by rw [fm_len hk, ← hl, ← hd]; simp, .inr ⟨g, cap, putCells id 0 (flatK enc k d') cur, rfl, hb, ?_, hnc, hm, by simp [putCells, hsz], ?_⟩⟩, rfl, rfl, rfl, ?_, ?_⟩
    · rw [hheap g hlt, Array.getElem?_modify, if_pos rfl, hg]
      rfl
    · rw [← flatK_list hk0 hk]
      have hs : (flatK enc k d').size = n * k := by rw [size_flatK, hd, hl]
      have hcs : n * k ≤ cur.size := by rw [hsz]; exact Nat.mul_le_mul_right k hnc
      apply List.ext_getElem?
      intro t
      rw [List.getElem?_take]
      by_cases ht : t < n * k
      · rw [if_pos ht]
        have h1 : t < (flatK enc k d').size := by omega
        have h2 : t < cur.size := by omega
        rw [Array.getElem?_toList, Array.getElem?_toList, Array.getElem?_eq_getElem h1, putCells, Array.getElem?_mapIdx, Array.getElem?_eq_getElem h2, Option.map_some, if_pos ⟨Nat.zero_le _, by omega⟩, Nat.sub_zero, getElem!_pos _ t h1]
        rfl
      · rw [if_neg ht, List.getElem?_eq_none (by rw [Array.length_toList, hs]; omega)]
    · show w.heap.size ≤ ((w.heap.modify g (onCells (putCells id 0 (flatK enc k d')))) ++ os).size
      simp
    · intro i hi hne
      rw [hheap i hi, Array.getElem?_modify, if_neg (fun e => hne (by rw [e]))]
end

/-- The library's permutation of a whole row. -/
theorem perm_whole {α : Type} [Inhabited α] {d : List α} {d' : Array α} (h : PermIn 0 d.toArray.size d.toArray d') : d'.size = d.length ∧ d'.toList.Perm d := by
  obtain ⟨h1, _, h3⟩ := h
  have hs : d'.size = d.length := by rw [h1]; simp
  refine ⟨hs, ?_⟩
  have e1 : (d'.extract 0 d.toArray.size).toList = d'.toList := by
    rw [← h1]
    simp
  have e2 : (d.toArray.extract 0 d.toArray.size).toList = d := by simp
  rw [e1, e2] at h3
  exact h3
theorem sorted_whole {α : Type} [Inhabited α] {lt : α → α → Bool} {n : Nat} {d : Array α} (h : SortedIn lt 0 n d) (hn : n = d.size) : d.toList.Pairwise fun a b => lt b a = false := by
  rw [List.pairwise_iff_getElem]
  intro i j hi hj hij
  have := h i j (Nat.zero_le _) hij (by rw [hn]; simpa using hj)
  rw [getElem!_pos d j (by simpa using hj), getElem!_pos d i (by simpa using hi)] at this
  simpa using this


/-- A segment in use, its cells. -/
def usc (x : Usd) : List Value := [.int .i64 x.s, .int .i64 x.c]
theorem usc_len (x : Usd) : (usc x).length = 2 := rfl
theorem usc_one (x : Usd) : ∀ v ∈ usc x, v.oneCell' = true := by
  intro v hv
  simp only [usc, List.mem_cons, List.not_mem_nil, or_false] at hv
  rcases hv with rfl | rfl <;> rfl
instance (x y : Usd) : Decidable (ltU x y) := inferInstanceAs (Decidable (x.c < y.c ∨ (x.c = y.c ∧ x.s < y.s)))
def cfU (x y : Usd) : Int := orI (cmpI x.c y.c) (cmpI x.s y.s)
theorem ltUc (x y : Usd) : Go.Proofs.ltOf cfU x y = decide (ltU x y) := by
  unfold Go.Proofs.ltOf cfU orI cmpI ltU
  rcases (by omega : x.c < y.c ∨ y.c < x.c ∨ x.c = y.c) with h | h | h
  · simp [h]
  · have h' : ¬ x.c < y.c := by omega
    have h2 : ¬ x.c = y.c := by omega
    simp [h, h', h2]
  · have h' : ¬ x.c < y.c := by omega
    have h2 : ¬ y.c < x.c := by omega
    rcases (by omega : x.s < y.s ∨ y.s < x.s ∨ x.s = y.s) with g | g | g
    · simp [h, g]
    · have g' : ¬ x.s < y.s := by omega
      simp [h, g, g']
    · simp [h, g]
theorem ltU_trans {x y z : Usd} (h1 : ltU x y) (h2 : ltU y z) : ltU x z := by unfold ltU at *; omega
theorem ltU_ntrans {x y z : Usd} (h1 : ¬ ltU x y) (h2 : ¬ ltU y z) : ¬ ltU x z := by unfold ltU at *; omega
theorem swoU : SWO (Go.Proofs.ltOf cfU) where
  irrefl x := by rw [ltUc]; exact decide_eq_false (fun h => ltU_asymm h h)
  trans x y z h1 h2 := by rw [ltUc] at *; exact decide_eq_true (ltU_trans (of_decide_eq_true h1) (of_decide_eq_true h2))
  ntrans x y z h1 h2 := by rw [ltUc] at *; exact decide_eq_false (ltU_ntrans (of_decide_eq_false h1) (of_decide_eq_false h2))
abbrev RowU (w : World) (B : Nat) (v : Value) (n : Nat) (L : List Usd) : Prop := w.ownsRow B 51 2 v n (L.flatMap usc)
def SuPost (w : World) (B : Nat) (v : Value) (n : Nat) (L : List Usd) (e : Ending) (w' : World) : Prop :=
  e = .returned (.tuple #[]) ∧ ∃ S : List Usd, S.Perm L ∧ S.Pairwise (fun a b => ¬ ltU b a) ∧ RowU w' B v n S ∧ w.grownBy w' v.ownBlock
theorem sortU_any {w : World} {B : Nat} {v : Value} {n : Nat} {L : List Usd} (ho : RowU w B v n L) (hn : n ≤ 1000000000) :
    Calls Try.prog 39 #[v, .func (.func 40) #[] #[]] w (SuPost w B v n L) := by
  have hl : L.length = n := by
    have := ho.1
    rw [fm_len usc_len] at this
    omega
  rcases ho.2 with ⟨rfl, rfl⟩ | ⟨g, cap, cur, rfl, _⟩
  · have hcon := AnyF.slices_SortFunc_none (P := Try.prog) (ρ := sortU_ren) { sortU with } none 0 (.func (.func 40) #[] #[]) w
    change Calls Try.prog 39 _ _ _ at hcon
    refine hcon.mono ?_
    rintro e w' ⟨rfl, rfl⟩
    obtain rfl : L = [] := List.eq_nil_of_length_eq_zero hl
    exact ⟨rfl, [], List.Perm.refl _, List.Pairwise.nil, ho, World.grownBy.refl _ _⟩
  · have hlt := (ho.lt g rfl).2
    have hH : HoldsK usc 2 w g 0 L.toArray := holds_own (by decide) usc_len ho
    have eg : ∀ args w, (callFunc 40 args).run Try.prog w = .ok (.enter 40 args) w := enters_of Try.func40 (by kernel_rfl) rfl
    have hcon := AnyQ.slices_SortFunc sortU 2 Try.isAgg51 Try.sizeOf51 usc usc_len usc_one cfU swoU 40 #[] g 0 cap L.toArray w eg (fun _ _ _ _ x y => clU_any x.c x.s y.c y.s _) hH hlt (by simp; omega)
    change Calls Try.prog 39 _ _ _ at hcon
    rw [show L.toArray.size = n by simp [hl]] at hcon
    refine hcon.mono ?_
    rintro e w' ⟨rfl, d', m, os, hp, hs, rfl⟩
    obtain ⟨p1, p2⟩ := perm_whole (d := L) (d' := d') (by rw [show L.toArray.size = n by simp [hl]]; exact hp)
    obtain ⟨o1, o2⟩ := own_sorted (by decide) usc_len ho d' p1 m os
    refine ⟨rfl, d'.toList, p2, ?_, o1, o2⟩
    refine (sorted_whole hs (by rw [p1, hl])).imp ?_
    intro a b h
    rw [ltUc] at h
    exact of_decide_eq_false h
end Go.Proofs.Ytdgjhfghggcfaaa
