/-
  Plain facts of lists by rising names: what is put is found, what is cut isn't, and the order of puts is none.
-/
import Derived.Test.YtiedapiepklhlaaPu
namespace Go.Proofs.Ytiedapiepklhlaa
set_option linter.unusedVariables false
set_option linter.unusedSimpArgs false

/-- Names rise, told of each two. -/
def Rp (L : List En) : Prop := L.Pairwise fun x y => blt x.s y.s = true
theorem ris_rp : ∀ L : List En, ris L = true ↔ Rp L
  | [] => ⟨fun _ => List.Pairwise.nil, fun _ => rfl⟩
  | [x] => ⟨fun _ => by unfold Rp; simp, fun _ => rfl⟩
  | x :: y :: r => by
    rw [ris, Bool.and_eq_true, ris_rp (y :: r)]
    unfold Rp
    rw [List.pairwise_cons (a := x)]
    constructor
    · rintro ⟨h, k⟩
      refine ⟨fun z hz => ?_, k⟩
      rcases List.mem_cons.1 hz with rfl | hz
      · exact h
      · exact blt_trans h ((List.pairwise_cons.1 k).1 z hz)
    · rintro ⟨h, k⟩
      exact ⟨h y (by simp), k⟩
theorem Rp.at {L : List En} (h : Rp L) {i j : Nat} (hij : i < j) (hj : j < L.length) : blt (eat L i).s (eat L j).s = true := by
  have := List.pairwise_iff_getElem.1 h i j (by omega) hj hij
  simpa [eat, List.getD, hj, show i < L.length by omega] using this
theorem mem_eat {L : List En} {x : En} (h : x ∈ L) : ∃ i, i < L.length ∧ eat L i = x := by
  obtain ⟨i, hi, rfl⟩ := List.getElem_of_mem h
  exact ⟨i, hi, by simp [eat, List.getD, hi]⟩
theorem mem_take_low {L : List En} {s : ByteArray} {x : En} (h : x ∈ L.take (efix L s)) : blt x.s s = true := by
  obtain ⟨i, hi, rfl⟩ := mem_eat h
  rw [List.length_take] at hi
  rw [eat_take (by omega)]
  exact efix_low L s i (by omega)
theorem mem_drop_high {L : List En} (hL : Rp L) {s : ByteArray} {x : En} (h : x ∈ L.drop (efix L s + if ehas L s then 1 else 0)) : blt s x.s = true := by
  obtain ⟨i, hi, rfl⟩ := mem_eat h
  rw [List.length_drop] at hi
  rw [eat_drop]
  have hlt : efix L s < L.length := by split at hi <;> omega
  cases hh : ehas L s with
  | true =>
    rw [hh] at hi
    rw [if_pos rfl] at hi ⊢
    have he := ehas_at hlt
    rw [hh] at he
    have e := beqS_iff.1 he.symm
    rw [← e]
    have := hL.at (i := efix L s) (j := efix L s + 1 + i) (by omega) (by omega)
    rw [e] at this ⊢
    exact this
  | false =>
    rw [hh] at hi
    rw [if_neg (by decide)] at hi ⊢
    have he := ehas_at hlt
    rw [hh] at he
    have hn := efix_not hlt
    have h0 : blt s (eat L (efix L s)).s = true := by
      cases hb : blt s (eat L (efix L s)).s with
      | true => rfl
      | false =>
        have e := blt_total hn hb
        have : beqS (eat L (efix L s)).s s = true := beqS_iff.2 e
        rw [this] at he
        cases he
    rw [Nat.add_zero]
    by_cases h0i : i = 0
    · subst h0i
      rw [Nat.add_zero]
      exact h0
    · exact blt_trans h0 (hL.at (i := efix L s) (j := efix L s + i) (by omega) (by simp at hi; omega))
theorem rp_put {L : List En} (hL : Rp L) (e : En) : Rp (eput L e) := by
  unfold Rp eput
  rw [List.pairwise_append, List.pairwise_cons]
  refine ⟨List.Pairwise.sublist (List.take_sublist _ _) hL, ⟨fun y hy => mem_drop_high hL hy, List.Pairwise.sublist (List.drop_sublist _ _) hL⟩, fun x hx y hy => ?_⟩
  rcases List.mem_cons.1 hy with rfl | hy
  · exact mem_take_low hx
  · exact blt_trans (mem_take_low hx) (mem_drop_high hL hy)
theorem eat_app_left {A B : List En} {i : Nat} (h : i < A.length) : eat (A ++ B) i = eat A i := by
  simp [eat, List.getD, List.getElem?_append_left h]
/-- What is put is found. -/
theorem put_found (L : List En) (e : En) : efix (eput L e) e.s = efix L e.s ∧ efix L e.s < (eput L e).length ∧ eat (eput L e) (efix L e.s) = e ∧ ehas (eput L e) e.s = true := by
  have hle := efix_le L e.s
  have hlt : (L.take (efix L e.s)).length = efix L e.s := by rw [List.length_take]; omega
  have h1 : efix L e.s < (eput L e).length := by unfold eput; rw [List.length_append, hlt, List.length_cons]; omega
  have h2 : eat (eput L e) (efix L e.s) = e := by
    unfold eput eat
    rw [List.getD_eq_getElem?_getD, List.getElem?_append_right (by omega), hlt, Nat.sub_self]
    rfl
  have hlow : LowTo (eput L e) e.s (efix L e.s) := fun j hj => by
    have : eat (eput L e) j = eat L j := by
      unfold eput
      rw [eat_app_left (by omega), eat_take hj]
    rw [this]
    exact efix_low L e.s j hj
  obtain ⟨h3, h4⟩ := ehas_low hlow h1 (by rw [h2]; exact blt_irrefl _)
  exact ⟨h3, h1, h2, by rw [h4, h2]; exact beqS_refl _⟩
theorem filter_ne {M : List En} {s : ByteArray} (h : ∀ x ∈ M, x.s ≠ s) : (M.filter fun e => !(beqS e.s s)) = M := by
  rw [List.filter_eq_self]
  intro x hx
  cases hb : beqS x.s s with
  | false => rfl
  | true => exact absurd (beqS_iff.1 hb) (h x hx)
/-- What is cut where names rise. -/
theorem cut_one {M : List En} (hM : Rp M) {k : Nat} (hk : k < M.length) {s : ByteArray} (e : (eat M k).s = s) : (ecut M s).length = M.length - 1 := by
  have hd : M.drop k = eat M k :: M.drop (k + 1) := by
    rw [List.drop_eq_getElem_cons hk]
    simp [eat, List.getD, hk]
  have h1 : M = M.take k ++ eat M k :: M.drop (k + 1) := by rw [← hd, List.take_append_drop]
  have h2 : ecut M s = M.take k ++ M.drop (k + 1) := by
    conv => lhs; rw [h1]
    unfold ecut
    rw [List.filter_append, List.filter_cons, filter_ne (fun x hx => ?_), filter_ne (fun x hx => ?_)]
    · rw [if_neg]
      rw [e, beqS_refl]; decide
    · obtain ⟨i, hi, rfl⟩ := mem_eat hx
      rw [List.length_drop] at hi
      rw [eat_drop, ← e]
      exact (blt_ne (hM.at (i := k) (j := k + 1 + i) (by omega) (by omega))).symm
    · obtain ⟨i, hi, rfl⟩ := mem_eat hx
      rw [List.length_take] at hi
      rw [eat_take (by omega), ← e]
      exact blt_ne (hM.at (i := i) (j := k) (by omega) hk)
  rw [h2, List.length_append, List.length_take, List.length_drop]
  omega
theorem rp_cut {M : List En} (hM : Rp M) (s : ByteArray) : Rp (ecut M s) := List.Pairwise.filter _ hM
theorem cut_gone (M : List En) (s : ByteArray) : ehas (ecut M s) s = false := by
  cases h : ehas (ecut M s) s with
  | false => rfl
  | true =>
    have hl := ehas_lt h
    have he := ehas_at hl
    rw [h] at he
    have hm : (!beqS (eat (ecut M s) (efix (ecut M s) s)).s s) = true := (List.mem_filter.1 (eat_mem hl)).2
    rw [← he] at hm
    cases hm
theorem cut_put (L : List En) (e : En) : ecut (eput L e) e.s = ecut L e.s := by
  have h0 : ecut L e.s = ecut (L.take (efix L e.s)) e.s ++ ecut (L.drop (efix L e.s)) e.s := by
    unfold ecut
    rw [← List.filter_append, List.take_append_drop]
  have h1 : ecut (eput L e) e.s = ecut (L.take (efix L e.s)) e.s ++ ecut (L.drop (efix L e.s + if ehas L e.s then 1 else 0)) e.s := by
    unfold ecut eput
    rw [List.filter_append, List.filter_cons, if_neg (by rw [beqS_refl]; decide)]
  rw [h0, h1]
  cases hh : ehas L e.s with
  | false => rw [if_neg (by decide), Nat.add_zero]
  | true =>
    have hl := ehas_lt hh
    have he := ehas_at hl
    rw [hh] at he
    rw [if_pos rfl, List.drop_eq_getElem_cons hl]
    have hx : L[efix L e.s] = eat L (efix L e.s) := by simp [eat, List.getD, hl]
    congr 1
    unfold ecut
    rw [List.filter_cons, if_neg]
    rw [hx, ← he]
    decide
theorem mem_put {L : List En} {e : En} (h : ehas L e.s = false) (x : En) : x ∈ eput L e ↔ x ∈ L ∨ x = e := by
  rw [eput_not h, List.mem_append, List.mem_cons]
  have : x ∈ L ↔ x ∈ L.take (efix L e.s) ∨ x ∈ L.drop (efix L e.s) := by
    rw [← List.mem_append, List.take_append_drop]
  rw [this]
  constructor
  · rintro (h | h | h)
    · exact .inl (.inl h)
    · exact .inr h
    · exact .inl (.inr h)
  · rintro ((h | h) | h)
    · exact .inl h
    · exact .inr (.inr h)
    · exact .inr (.inl h)
theorem has_mem {L : List En} (hL : Rp L) {x : En} (h : x ∈ L) : ehas L x.s = true := by
  obtain ⟨i, hi, rfl⟩ := mem_eat h
  have hlow : LowTo L (eat L i).s i := fun j hj => hL.at hj hi
  obtain ⟨_, h2⟩ := ehas_low hlow hi (blt_irrefl _)
  rw [h2]
  exact beqS_refl _
theorem mem_has {L : List En} {s : ByteArray} (h : ehas L s = true) : ∃ x ∈ L, x.s = s := by
  have hl := ehas_lt h
  have he := ehas_at hl
  rw [h] at he
  exact ⟨_, eat_mem hl, beqS_iff.1 he.symm⟩
theorem rp_ext : ∀ {A B : List En}, Rp A → Rp B → (∀ x, x ∈ A ↔ x ∈ B) → A = B
  | [], [], _, _, _ => rfl
  | [], y :: B, _, _, h => by have := (h y).2 (by simp); simp at this
  | x :: A, [], _, _, h => by have := (h x).1 (by simp); simp at this
  | x :: A, y :: B, hA, hB, h => by
    have hA' := List.pairwise_cons.1 hA
    have hB' := List.pairwise_cons.1 hB
    have hxy : x = y := by
      rcases List.mem_cons.1 ((h x).1 (by simp)) with e | h1
      · exact e
      · rcases List.mem_cons.1 ((h y).2 (by simp)) with e | h2
        · exact e.symm
        · have h3 := hB'.1 x h1
          have h4 := hA'.1 y h2
          have h5 := blt_trans h3 h4
          rw [blt_irrefl] at h5
          cases h5
    subst hxy
    rw [rp_ext hA'.2 hB'.2 (fun z => ?_)]
    constructor
    · intro hz
      rcases List.mem_cons.1 ((h z).1 (by simp [hz])) with e | h1
      · subst e
        have := hA'.1 z hz
        rw [blt_irrefl] at this
        cases this
      · exact h1
    · intro hz
      rcases List.mem_cons.1 ((h z).2 (by simp [hz])) with e | h1
      · subst e
        have := hB'.1 z hz
        rw [blt_irrefl] at this
        cases this
      · exact h1
/-- No two have one name. -/
def Dist (L : List En) : Prop := L.Pairwise fun x y => x.s ≠ y.s
/-- Where the first loop of the law on orders stands. -/
structure Or1 (ls : List En) (k : Nat) (a : List En) : Prop where
  rp : Rp a
  mem : ∀ x, x ∈ a ↔ x ∈ ls.take k
  len : a.length = k
  dist : Dist (ls.take k)
theorem Or1.start (ls : List En) : Or1 ls 0 [] := ⟨List.Pairwise.nil, fun x => by simp, rfl, by simp [Dist]⟩
theorem Or1.step {ls a : List En} {k : Nat} (h : Or1 ls k a) (hk : k < ls.length) (hn : ehas a (eat ls k).s = false) : Or1 ls (k + 1) (eput a (eat ls k)) := by
  have ht := take_snoc hk
  refine ⟨rp_put h.rp _, fun x => ?_, by rw [eput_len_not hn, h.len], ?_⟩
  · rw [mem_put hn, ← ht, List.mem_append, List.mem_singleton, h.mem]
  · unfold Dist
    rw [← ht, List.pairwise_append]
    refine ⟨h.dist, by simp, fun x hx y hy e => ?_⟩
    rw [List.mem_singleton.1 hy] at e
    have := has_mem h.rp ((h.mem x).2 hx)
    rw [e, hn] at this
    cases this
/-- Where the second one stands. -/
structure Or2 (ls : List En) (i : Nat) (b : List En) : Prop where
  rp : Rp b
  mem : ∀ x, x ∈ b ↔ x ∈ ls.drop i
  len : b.length = ls.length - i
theorem Or2.start (ls : List En) : Or2 ls ls.length [] := ⟨List.Pairwise.nil, fun x => by simp, by simp⟩
theorem drop_at_e {ls : List En} {i : Nat} (hi : i < ls.length) : ls.drop i = eat ls i :: ls.drop (i + 1) := by
  rw [List.drop_eq_getElem_cons hi]
  simp [eat, List.getD, hi]
theorem Or2.step {ls b : List En} {i : Nat} (h : Or2 ls (i + 1) b) (hi : i < ls.length) (hd : Dist ls) : Or2 ls i (eput b (eat ls i)) := by
  have hn : ehas b (eat ls i).s = false := by
    cases hh : ehas b (eat ls i).s with
    | false => rfl
    | true =>
      obtain ⟨x, hx, e⟩ := mem_has hh
      obtain ⟨j, hj, rfl⟩ := mem_eat ((h.mem x).1 hx)
      rw [List.length_drop] at hj
      rw [eat_drop] at e
      have := List.pairwise_iff_getElem.1 hd i (i + 1 + j) hi (by omega) (by omega)
      simp only [eat, List.getD, List.getElem?_eq_getElem hi, List.getElem?_eq_getElem (show i + 1 + j < ls.length by omega), Option.getD_some] at e
      exact absurd e.symm this
  refine ⟨rp_put h.rp _, fun x => ?_, by rw [eput_len_not hn, h.len]; omega⟩
  rw [mem_put hn, drop_at_e hi, List.mem_cons, h.mem]
  constructor
  · rintro (h | h)
    · exact .inr h
    · exact .inl h
  · rintro (h | h)
    · exact .inr h
    · exact .inl h
theorem Or1.all {ls a b : List En} (h : Or1 ls ls.length a) (k : Or2 ls 0 b) : a = b := by
  refine rp_ext h.rp k.rp fun x => ?_
  rw [h.mem, k.mem, List.take_of_length_le (Nat.le_refl _)]
  rfl
theorem Or1.dist_all {ls a : List En} (h : Or1 ls ls.length a) : Dist ls := by
  have := h.dist
  rwa [List.take_of_length_le (Nat.le_refl _)] at this
end Go.Proofs.Ytiedapiepklhlaa
