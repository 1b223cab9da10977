/-
  Groups, in plain words: which infos are of one group, when a list has it whole, and that a list tells one list of them.
-/
import Derived.Test.YtcpplppccljmiaaBase
namespace Go.Proofs.Ytcpplppccljmiaa

/-- An info: its segment, its Seq, its summary's four numbers. -/
structure Inf where
  g : Int
  q : Int
  c : Int
  i : Int
  b : Int
  r : Int
instance : Inhabited Inf := ⟨⟨0, 0, 0, 0, 0, 0⟩⟩
/-- Is it of some group? -/
def Inf.ok (x : Inf) : Bool := decide (0 ≤ x.i ∧ x.i < x.c ∧ x.i ≤ x.q)
/-- Is it of the group of first Seq f and Count c? -/
def Inf.of (x : Inf) (f c : Int) : Bool := x.ok && decide (x.q - x.i = f ∧ x.c = c)
theorem Inf.of_key {x : Inf} {f c : Int} (h : x.of f c = true) : x.q - x.i = f ∧ x.c = c ∧ x.ok = true := by
  unfold Inf.of at h
  simp only [Bool.and_eq_true, decide_eq_true_eq] at h
  exact ⟨h.2.1, h.2.2, h.1⟩
theorem Inf.of_self {x : Inf} (h : x.ok = true) : x.of (x.q - x.i) x.c = true := by unfold Inf.of; simp [h]
theorem Inf.of_not {x : Inf} (h : x.ok = false) (f c : Int) : x.of f c = false := by unfold Inf.of; simp [h]
theorem Inf.of_other {x : Inf} {f c : Int} (h : ¬ (x.q - x.i = f ∧ x.c = c)) : x.of f c = false := by unfold Inf.of; rw [decide_eq_false h, Bool.and_false]
/-- Those of one group. -/
def grp (L : List Inf) (f c : Int) : List Inf := L.filter fun x => x.of f c
theorem grp_append (L M : List Inf) (f c : Int) : grp (L ++ M) f c = grp L f c ++ grp M f c := List.filter_append ..
theorem grp_perm {L M : List Inf} (h : L.Perm M) (f c : Int) : (grp L f c).Perm (grp M f c) := h.filter _
theorem grp_all {B : List Inf} {f c : Int} (h : ∀ x ∈ B, x.of f c = true) : grp B f c = B := List.filter_eq_self.2 h
theorem grp_none {B : List Inf} {f c : Int} (h : ∀ x ∈ B, x.of f c = false) : grp B f c = [] := List.filter_eq_nil_iff.2 fun x hx => by rw [h x hx]; decide
theorem grp_mem {L : List Inf} {f c : Int} {x : Inf} (h : x ∈ grp L f c) : x.of f c = true := (List.mem_filter.1 h).2

/-- A group: its Seq, its root, its segments. -/
structure Gr where
  q : Int
  r : Int
  s : List Int
instance : Inhabited Gr := ⟨⟨0, 0, []⟩⟩
/-- Each stands at its Index. -/
def OrdI (S : List Inf) : Prop := ∀ (k : Nat) (x : Inf), S[k]? = some x → x.i = (k : Int)
/-- What infos in order make. -/
def mkG (f : Int) (S : List Inf) : Gr := ⟨f, (S.getLastD default).r, S.map Inf.g⟩
/-- The list has the group (f, c) whole, and it is G. -/
def IsG (L : List Inf) (f c : Int) (G : Gr) : Prop := ∃ S : List Inf, S.Perm (grp L f c) ∧ S ≠ [] ∧ (S.length : Int) = c ∧ OrdI S ∧ G = mkG f S
theorem ordI_uniq {S T : List Inf} (hS : OrdI S) (hT : OrdI T) (h : S.Perm T) : S = T := by
  apply List.ext_getElem h.length_eq
  intro k h1 h2
  have m : S[k] ∈ T := h.mem_iff.1 (List.getElem_mem h1)
  obtain ⟨j, hj, e⟩ := List.getElem_of_mem m
  have a := hS k S[k] (List.getElem?_eq_getElem h1)
  have b := hT j T[j] (List.getElem?_eq_getElem hj)
  rw [e, a] at b
  have : k = j := by omega
  subst this
  exact e.symm
theorem IsG.perm {L M : List Inf} (h : L.Perm M) {f c : Int} {G : Gr} (hG : IsG L f c G) : IsG M f c G := by
  obtain ⟨S, a, b, c, d, e⟩ := hG
  exact ⟨S, a.trans (grp_perm h _ _), b, c, d, e⟩
theorem IsG.uniq {L : List Inf} {f c : Int} {G H : Gr} (h : IsG L f c G) (h' : IsG L f c H) : G = H := by
  obtain ⟨S, a, _, _, d, rfl⟩ := h
  obtain ⟨T, a', _, _, d', rfl⟩ := h'
  rw [ordI_uniq d d' (a.trans a'.symm)]
theorem IsG.seq {L : List Inf} {f c : Int} {G : Gr} (h : IsG L f c G) : G.q = f ∧ (G.s.length : Int) = c := by
  obtain ⟨S, _, _, c', _, rfl⟩ := h
  exact ⟨rfl, by simp [mkG, c']⟩

/-- By Seq, then by Count. -/
def ltG (A B : Gr) : Prop := A.q < B.q ∨ (A.q = B.q ∧ A.s.length < B.s.length)
theorem ltG_irr (A : Gr) : ¬ ltG A A := by unfold ltG; omega
theorem ltG_asym {A B : Gr} (h : ltG A B) : ¬ ltG B A := by unfold ltG at *; omega
/-- The groups of a list. -/
def GroupsOf (L : List Inf) (Gs : List Gr) : Prop := Gs.Pairwise ltG ∧ ∀ G, G ∈ Gs ↔ ∃ f c, IsG L f c G
theorem pw_uniq : ∀ {A B : List Gr}, A.Pairwise ltG → B.Pairwise ltG → (∀ G, G ∈ A ↔ G ∈ B) → A = B
  | [], [], _, _, _ => rfl
  | [], b :: B, _, _, h => by have := (h b).2 (by simp); cases this
  | a :: A, [], _, _, h => by have := (h a).1 (by simp); cases this
  | a :: A, b :: B, hA, hB, h => by
    obtain ⟨a1, a2⟩ := List.pairwise_cons.1 hA
    obtain ⟨b1, b2⟩ := List.pairwise_cons.1 hB
    have e : a = b := by
      rcases List.mem_cons.1 ((h a).1 (by simp)) with e | e
      · exact e
      rcases List.mem_cons.1 ((h b).2 (by simp)) with e' | e'
      · exact e'.symm
      exact absurd (a1 b e') (ltG_asym (b1 a e))
    subst e
    rw [pw_uniq a2 b2 fun G => ?_]
    constructor
    · intro hg
      rcases List.mem_cons.1 ((h G).1 (List.mem_cons_of_mem _ hg)) with e | e
      · subst e; exact absurd (a1 G hg) (ltG_irr G)
      · exact e
    · intro hg
      rcases List.mem_cons.1 ((h G).2 (List.mem_cons_of_mem _ hg)) with e | e
      · subst e; exact absurd (b1 G hg) (ltG_irr G)
      · exact e
theorem GroupsOf.uniq {L M : List Inf} {A B : List Gr} (h : GroupsOf L A) (h' : GroupsOf M B) (p : L.Perm M) : A = B :=
  pw_uniq h.1 h'.1 fun G => by
    rw [h.2 G, h'.2 G]
    exact ⟨fun ⟨f, c, x⟩ => ⟨f, c, x.perm p⟩, fun ⟨f, c, x⟩ => ⟨f, c, x.perm p.symm⟩⟩
/-- What the program has: no two of one key, sorted loosely. -/
theorem groups_sorted {L : List Inf} {Gs : List Gr} (hs : Gs.Pairwise fun a b => ¬ ltG b a) (hn : Gs.Nodup) (hm : ∀ G, G ∈ Gs ↔ ∃ f c, IsG L f c G) : GroupsOf L Gs := by
  refine ⟨?_, hm⟩
  have h2 : Gs.Pairwise fun a b => a ∈ Gs ∧ b ∈ Gs := List.pairwise_of_forall_mem_list fun a ha b hb => ⟨ha, hb⟩
  refine List.Pairwise.imp ?_ (List.Pairwise.and (List.Pairwise.and hs hn) h2)
  intro a b ⟨⟨h1, h2⟩, ha, hb⟩
  obtain ⟨f, c, ga⟩ := (hm a).1 ha
  obtain ⟨f', c', gb⟩ := (hm b).1 hb
  obtain ⟨p1, p2⟩ := ga.seq
  obtain ⟨q1, q2⟩ := gb.seq
  by_cases hlt : ltG a b
  · exact hlt
  exfalso
  apply h2
  have e1 : f = f' := by unfold ltG at h1 hlt; omega
  have e2 : c = c' := by unfold ltG at h1 hlt; omega
  subst e1 e2
  exact ga.uniq gb

/-- Infos that come one group behind the other: first Seq, Count, the infos that are there. -/
structure Kb where
  f : Int
  c : Int
  B : List Inf
def flatB (Ks : List Kb) : List Inf := Ks.flatMap Kb.B
/-- Whole and in order, or not as many as it has. -/
def Kb.Fine (k : Kb) : Prop := (∀ x ∈ k.B, x.of k.f k.c = true) ∧ ((k.B ≠ [] ∧ (k.B.length : Int) = k.c ∧ OrdI k.B) ∨ (k.B.length : Int) ≠ k.c)
def wholeK (k : Kb) : Option Gr := if k.B ≠ [] ∧ (k.B.length : Int) = k.c then some (mkG k.f k.B) else none
theorem flat_no : ∀ {Ks : List Kb} {f c : Int}, (∀ k ∈ Ks, k.Fine) → (∀ k ∈ Ks, ¬ (k.f = f ∧ k.c = c)) → grp (flatB Ks) f c = []
  | [], f, c, _, _ => rfl
  | k :: Ks, f, c, hf, hn => by
    show grp (k.B ++ flatB Ks) f c = []
    rw [grp_append, flat_no (fun k hk => hf k (List.mem_cons_of_mem _ hk)) (fun k hk => hn k (List.mem_cons_of_mem _ hk)), List.append_nil]
    refine grp_none fun x hx => ?_
    obtain ⟨e1, e2, _⟩ := Inf.of_key ((hf k (by simp)).1 x hx)
    exact Inf.of_other (by rw [e1, e2]; exact hn k (by simp))
theorem flat_at : ∀ {Ks : List Kb} {k : Kb}, (∀ k ∈ Ks, k.Fine) → Ks.Pairwise (fun a b => a.f < b.f) → k ∈ Ks → grp (flatB Ks) k.f k.c = k.B
  | [], k, _, _, h => by cases h
  | j :: Ks, k, hf, hp, h => by
    obtain ⟨h1, h2⟩ := List.pairwise_cons.1 hp
    show grp (j.B ++ flatB Ks) k.f k.c = k.B
    rw [grp_append]
    rcases List.mem_cons.1 h with e | e
    · subst e
      rw [grp_all (hf k (by simp)).1, flat_no (fun k hk => hf k (List.mem_cons_of_mem _ hk)) (fun x hx he => by have := h1 x hx; omega), List.append_nil]
    · rw [flat_at (fun k hk => hf k (List.mem_cons_of_mem _ hk)) h2 e]
      have : grp j.B k.f k.c = [] := by
        refine grp_none fun x hx => ?_
        obtain ⟨e1, e2, _⟩ := Inf.of_key ((hf j (by simp)).1 x hx)
        exact Inf.of_other (by rw [e1]; have := h1 k e; omega)
      rw [this]; rfl
/-- THE GROUPS OF SUCH A LIST. -/
theorem groups_flat {Ks : List Kb} (hf : ∀ k ∈ Ks, k.Fine) (hp : Ks.Pairwise (fun a b => a.f < b.f)) : GroupsOf (flatB Ks) (Ks.filterMap wholeK) := by
  constructor
  · refine List.pairwise_filterMap.2 (hp.imp ?_)
    intro a b hab A hA B hB
    unfold wholeK at hA hB
    split at hA
    · split at hB
      · cases hA; cases hB
        exact .inl hab
      · cases hB
    · cases hA
  · intro G
    rw [List.mem_filterMap]
    constructor
    · rintro ⟨k, hk, hw⟩
      unfold wholeK at hw
      split at hw
      next h =>
        cases hw
        obtain ⟨_, h2⟩ := hf k hk
        rcases h2 with ⟨a, b, c⟩ | h2
        · exact ⟨k.f, k.c, k.B, by rw [flat_at hf hp hk], a, b, c, rfl⟩
        · exact absurd h.2 h2
      next => cases hw
    · rintro ⟨f, c, S, hS, hne, hl, ho, rfl⟩
      by_cases hex : ∃ k ∈ Ks, k.f = f ∧ k.c = c
      · obtain ⟨k, hk, rfl, rfl⟩ := hex
        rw [flat_at hf hp hk] at hS
        refine ⟨k, hk, ?_⟩
        have hlen := hS.length_eq
        rcases (hf k hk).2 with ⟨a, b, d⟩ | h2
        · rw [wholeK, if_pos ⟨a, b⟩, ordI_uniq ho d hS]
        · rw [hlen] at hl; exact absurd hl h2
      · exfalso
        rw [flat_no hf (fun k hk he => hex ⟨k, hk, he⟩)] at hS
        exact hne hS.eq_nil
end Go.Proofs.Ytcpplppccljmiaa
