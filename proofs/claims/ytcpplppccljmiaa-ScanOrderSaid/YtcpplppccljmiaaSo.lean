/-
  slices.SortFunc of infos and of groups, by the library's contract.
-/
import Derived.Test.YtcpplppccljmiaaCmp
import Derived.Test.YtcpplppccljmiaaKm
import Derived.Test.YtcpplppccljmiaaLay
namespace Go.Proofs.Ytcpplppccljmiaa
open Go.RowKit Go.Sort Go.Lib
set_option linter.unusedVariables false

section
variable {α : Type} [Inhabited α] {enc : α → List Value} {k : Nat}
omit [Inhabited α] in
theorem fm_len (hk : ∀ x, (enc x).length = k) (d : List α) : (d.flatMap enc).length = d.length * k := by
  induction d with
  | nil => simp
  | cons x r ih => rw [List.flatMap_cons, List.length_append, ih, hk, List.length_cons, Nat.add_mul]; omega
theorem fm_get (hk0 : 0 < k) (hk : ∀ x, (enc x).length = k) : ∀ (d : List α) (t : Nat), t < d.length * k → (d.flatMap enc)[t]? = some ((enc d[t / k]!)[t % k]!)
  | [], t, h => by simp at h
  | x :: r, t, h => by
    by_cases ht : t < k
    · rw [List.flatMap_cons, List.getElem?_append_left (by rw [hk]; exact ht), Nat.div_eq_of_lt ht, Nat.mod_eq_of_lt ht]
      have : t < (enc x).length := by rw [hk]; exact ht
      simp [this]
    · obtain ⟨u, rfl⟩ : ∃ u, t = k + u := ⟨t - k, by omega⟩
      rw [List.flatMap_cons, List.getElem?_append_right (by rw [hk]; omega), hk, Nat.add_sub_cancel_left, fm_get hk0 hk r u (by rw [List.length_cons, Nat.add_mul] at h; omega)]
      rw [Nat.add_div_left u hk0, Nat.add_mod_left]
      simp
theorem flatK_list (hk0 : 0 < k) (hk : ∀ x, (enc x).length = k) (d : Array α) : (flatK enc k d).toList = d.toList.flatMap enc := by
  apply List.ext_getElem?
  intro t
  by_cases ht : t < d.size * k
  · have h1 := get_flatK enc k d t ht
    have h2 := fm_get hk0 hk d.toList t (by simpa using ht)
    rw [h2]
    have hs : t < (flatK enc k d).size := by rw [size_flatK]; exact ht
    rw [getElem!_pos _ t hs] at h1
    have hq : t / k < d.size := Nat.div_lt_of_lt_mul (by rw [Nat.mul_comm]; exact ht)
    rw [Array.getElem?_toList, Array.getElem?_eq_getElem hs, h1, getElem!_pos d (t / k) hq, getElem!_pos d.toList (t / k) (by simpa using hq), Array.getElem_toList]
  · rw [List.getElem?_eq_none (by simp; omega), List.getElem?_eq_none (by rw [fm_len hk]; simp; omega)]
/-- A row of the call's own holds its elements. -/
theorem holds_own (hk0 : 0 < k) (hk : ∀ x, (enc x).length = k) {w : World} {B g n cap : Nat} {e : TypeId} {d : List α} (ho : w.ownsRow B e k (.slice (some ⟨g, 0, none⟩) n cap) n (d.flatMap enc)) : HoldsK enc k w g 0 d.toArray := by
  intro j hj
  rcases ho.2 with ⟨h, _⟩ | ⟨g', cap', cur, h, hb, hg, hnc, hm, hsz, htake⟩
  · cases h
  · cases h
    have hl := ho.1
    rw [fm_len hk] at hl
    have hj' : j < d.length * k := by simpa using hj
    have h2 : (flatK enc k d.toArray)[j]! = (enc d[j / k]!)[j % k]! := by rw [get_flatK _ _ _ _ (by simpa using hj')]; simp
    rw [h2]
    refine ⟨?_, frozen_of_row w g (0 + j) cur e hg⟩
    rw [cell_of_row w g (0 + j) cur e (0, 0) hg, Nat.zero_add]
    have h3 := fm_get hk0 hk d j hj'
    rw [← htake, List.getElem?_take, if_pos (by omega)] at h3
    simpa using h3
/-- .. and behind the sort it is one of the call's own still; nothing else has turned. -/
theorem own_sorted (hk0 : 0 < k) (hk : ∀ x, (enc x).length = k) {w : World} {B g n cap : Nat} {e : TypeId} {d : List α} (ho : w.ownsRow B e k (.slice (some ⟨g, 0, none⟩) n cap) n (d.flatMap enc)) (d' : Array α) (hd : d'.size = d.length) (m : Nat) (os : Array Obj) :
    (Go.Proofs.sortWorldK enc k w g 0 m d' os).ownsRow B e k (.slice (some ⟨g, 0, none⟩) n cap) n (d'.toList.flatMap enc) ∧ w.grownBy (Go.Proofs.sortWorldK enc k w g 0 m d' os) (some g) := by
  rcases ho.2 with ⟨h, _⟩ | ⟨g', cap', cur, h, hb, hg, hnc, hm, hsz, htake⟩
  · cases h
  · cases h
    have hl := ho.1
    rw [fm_len hk] at hl
    have hlt : g < w.heap.size := lt_of_block hg
    have hheap : ∀ i, i < w.heap.size → (Go.Proofs.sortWorldK enc k w g 0 m d' os).heap[i]? = (w.heap.modify g (onCells (putCells id 0 (flatK enc k d'))))[i]? := fun i hi => by
      show ((w.heap.modify g (onCells (putCells id 0 (flatK enc k d')))) ++ os)[i]? = _
      rw [Array.getElem?_append_left (by simpa using hi)]
    refine ⟨⟨by rw [fm_len hk, ← hl, ← hd]; simp, .inr ⟨g, cap, putCells id 0 (flatK enc k d') cur, rfl, hb, ?_, hnc, hm, by simp [putCells, hsz], ?_⟩⟩, rfl, rfl, rfl, ?_, ?_⟩
    · rw [hheap g hlt, Array.getElem?_modify, if_pos rfl, hg]
      rfl
    · rw [← flatK_list hk0 hk]
      have hs : (flatK enc k d').size = n * k := by rw [size_flatK, hd, hl]
      have hcs : n * k ≤ cur.size := by rw [hsz]; exact Nat.mul_le_mul_right k hnc
      apply List.ext_getElem?
      intro t
      rw [List.getElem?_take]
      by_cases ht : t < n * k
      · rw [if_pos ht]
        have h1 : t < (flatK enc k d').size := by omega
        have h2 : t < cur.size := by omega
        rw [Array.getElem?_toList, Array.getElem?_toList, Array.getElem?_eq_getElem h1, putCells, Array.getElem?_mapIdx, Array.getElem?_eq_getElem h2, Option.map_some, if_pos ⟨Nat.zero_le _, by omega⟩, Nat.sub_zero, getElem!_pos _ t h1]
        rfl
      · rw [if_neg ht, List.getElem?_eq_none (by rw [Array.length_toList, hs]; omega)]
    · show w.heap.size ≤ ((w.heap.modify g (onCells (putCells id 0 (flatK enc k d')))) ++ os).size
      simp
    · intro i hi hne
      rw [hheap i hi, Array.getElem?_modify, if_neg (fun e => hne (by rw [e]))]
end

/-- The library's permutation of a whole row. -/
theorem perm_whole {α : Type} [Inhabited α] {d : List α} {d' : Array α} (h : PermIn 0 d.toArray.size d.toArray d') : d'.size = d.length ∧ d'.toList.Perm d := by
  obtain ⟨h1, _, h3⟩ := h
  have hs : d'.size = d.length := by rw [h1]; simp
  refine ⟨hs, ?_⟩
  have e1 : (d'.extract 0 d.toArray.size).toList = d'.toList := by
    rw [← h1]
    simp
  have e2 : (d.toArray.extract 0 d.toArray.size).toList = d := by simp
  rw [e1, e2] at h3
  exact h3
theorem sorted_whole {α : Type} [Inhabited α] {lt : α → α → Bool} {n : Nat} {d : Array α} (h : SortedIn lt 0 n d) (hn : n = d.size) : d.toList.Pairwise fun a b => lt b a = false := by
  rw [List.pairwise_iff_getElem]
  intro i j hi hj hij
  have := h i j (Nat.zero_le _) hij (by rw [hn]; simpa using hj)
  rw [getElem!_pos d j (by simpa using hj), getElem!_pos d i (by simpa using hi)] at this
  simpa using this

theorem cmpI_lt (x y : Int) : decide (cmpI x y < 0) = decide (x < y) := by
  unfold cmpI
  by_cases h1 : x < y
  · simp [h1]
  · by_cases h2 : y < x <;> simp [h1, h2]
/-- By Index. -/
def cfI (x y : Inf) : Int := cmpI x.i y.i
theorem ltI (x y : Inf) : Go.Proofs.ltOf cfI x y = decide (x.i < y.i) := cmpI_lt _ _
theorem swoI : SWO (Go.Proofs.ltOf cfI) where
  irrefl x := by rw [ltI]; simp
  trans x y z h1 h2 := by rw [ltI] at *; simp at *; omega
  ntrans x y z h1 h2 := by rw [ltI] at *; simp at *; omega
theorem ifc_len (x : Inf) : (ifc x).length = 6 := rfl
theorem ifc_one (x : Inf) : ∀ v ∈ ifc x, v.oneCell' = true := by
  intro v hv
  simp only [ifc, List.mem_cons, List.not_mem_nil, or_false] at hv
  rcases hv with rfl | rfl | rfl | rfl | rfl | rfl <;> rfl

/-- What sorting a row of infos leaves. -/
def SiPost (w : World) (B g n cap : Nat) (L : List Inf) (e : Ending) (w' : World) : Prop :=
  e = .returned (.tuple #[]) ∧ ∃ S : List Inf, S.Perm L ∧ S.Pairwise (fun a b => a.i ≤ b.i) ∧ OwnF w' B (.slice (some ⟨g, 0, none⟩) n cap) n S ∧ w.grownBy w' (some g)
theorem sortI_any {w : World} {B g n cap : Nat} {L : List Inf} (ho : OwnF w B (.slice (some ⟨g, 0, none⟩) n cap) n L) (hn : n ≤ 1000000000) :
    Calls Try.prog 24 #[.slice (some ⟨g, 0, none⟩) n cap, .func (.func 25) #[] #[]] w (SiPost w B g n cap L) := by
  have hl := ho.len
  have hlt := (ho.lt g rfl).2
  have hH : HoldsK ifc 6 w g 0 L.toArray := holds_own (by decide) ifc_len ho
  have eg : ∀ args w, (callFunc 25 args).run Try.prog w = .ok (.enter 25 args) w := enters_of Try.func25 (by kernel_rfl) rfl
  have hcon := AnyQ.slices_SortFunc sortI 6 Try.isAgg39 Try.sizeOf39 ifc ifc_len ifc_one cfI swoI 25 #[] g 0 cap L.toArray w eg (fun _ _ _ _ x y => cl1_any x y _) hH hlt (by simp; omega)
  have e0 : (L.toArray.size : Int) = (n : Int) := by simp [hl]
  change Calls Try.prog 24 _ _ _ at hcon
  rw [show L.toArray.size = n by simp [hl]] at hcon
  refine hcon.mono ?_
  rintro e w' ⟨rfl, d', m, os, hp, hs, rfl⟩
  obtain ⟨p1, p2⟩ := perm_whole (d := L) (d' := d') (by rw [show L.toArray.size = n by simp [hl]]; exact hp)
  obtain ⟨o1, o2⟩ := own_sorted (by decide) ifc_len ho d' p1 m os
  refine ⟨rfl, d'.toList, p2, ?_, o1, o2⟩
  refine (sorted_whole hs (by rw [p1, hl])).imp ?_
  intro a b h
  rw [ltI] at h
  simp at h
  omega
end Go.Proofs.Ytcpplppccljmiaa
