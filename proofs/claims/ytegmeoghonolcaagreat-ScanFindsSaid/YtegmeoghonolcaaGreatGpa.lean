/-
  Groups, in plain words: which infos are of one group, when a list has it whole, and that a list tells one list of them.
-/
import Derived.Test.YtegmeoghonolcaaGreatBase
import Derived.Test.YtegmeoghonolcaaGreatDva
import Derived.Deep.AppendLies
import Derived.Test.YtegmeoghonolcaaGreatGe
set_option linter.unusedSimpArgs false
set_option linter.unusedVariables false
namespace Go.Proofs.YtegmeoghonolcaaGreat

/-- An info: its segment, its Seq, its summary's four numbers. -/
structure Inf where
  g : Int
  q : Int
  c : Int
  i : Int
  b : Int
  r : Int
instance : Inhabited Inf := ⟨⟨0, 0, 0, 0, 0, 0⟩⟩
/-- Is it of some group? -/
def Inf.ok (x : Inf) : Bool := decide (0 ≤ x.i ∧ x.i < x.c ∧ x.i ≤ x.q)
/-- Is it of the group of first Seq f and Count c? -/
def Inf.of (x : Inf) (f c : Int) : Bool := x.ok && decide (x.q - x.i = f ∧ x.c = c)
theorem Inf.of_key {x : Inf} {f c : Int} (h : x.of f c = true) : x.q - x.i = f ∧ x.c = c ∧ x.ok = true := by
  unfold Inf.of at h
  simp only [Bool.and_eq_true, decide_eq_true_eq] at h
  exact ⟨h.2.1, h.2.2, h.1⟩
theorem Inf.of_self {x : Inf} (h : x.ok = true) : x.of (x.q - x.i) x.c = true := by unfold Inf.of; simp [h]
theorem Inf.of_not {x : Inf} (h : x.ok = false) (f c : Int) : x.of f c = false := by unfold Inf.of; simp [h]
theorem Inf.of_other {x : Inf} {f c : Int} (h : ¬ (x.q - x.i = f ∧ x.c = c)) : x.of f c = false := by unfold Inf.of; rw [decide_eq_false h, Bool.and_false]
/-- Those of one group. -/
def grp (L : List Inf) (f c : Int) : List Inf := L.filter fun x => x.of f c
theorem grp_append (L M : List Inf) (f c : Int) : grp (L ++ M) f c = grp L f c ++ grp M f c := List.filter_append ..
theorem grp_perm {L M : List Inf} (h : L.Perm M) (f c : Int) : (grp L f c).Perm (grp M f c) := h.filter _
theorem grp_all {B : List Inf} {f c : Int} (h : ∀ x ∈ B, x.of f c = true) : grp B f c = B := List.filter_eq_self.2 h
theorem grp_none {B : List Inf} {f c : Int} (h : ∀ x ∈ B, x.of f c = false) : grp B f c = [] := List.filter_eq_nil_iff.2 fun x hx => by rw [h x hx]; decide
theorem grp_mem {L : List Inf} {f c : Int} {x : Inf} (h : x ∈ grp L f c) : x.of f c = true := (List.mem_filter.1 h).2

/-- A group: its Seq, its root, its segments. -/
structure Gr where
  q : Int
  r : Int
  s : List Int
instance : Inhabited Gr := ⟨⟨0, 0, []⟩⟩
/-- Each stands at its Index. -/
def OrdI (S : List Inf) : Prop := ∀ (k : Nat) (x : Inf), S[k]? = some x → x.i = (k : Int)
/-- What infos in order make. -/
def mkG (f : Int) (S : List Inf) : Gr := ⟨f, (S.getLastD default).r, S.map Inf.g⟩
/-- The list has the group (f, c) whole, and it is G. -/
def IsG (L : List Inf) (f c : Int) (G : Gr) : Prop := ∃ S : List Inf, S.Perm (grp L f c) ∧ S ≠ [] ∧ (S.length : Int) = c ∧ OrdI S ∧ G = mkG f S
theorem ordI_uniq {S T : List Inf} (hS : OrdI S) (hT : OrdI T) (h : S.Perm T) : S = T := by
  apply List.ext_getElem h.length_eq
  intro k h1 h2
  have m : S[k] ∈ T := h.mem_iff.1 (List.getElem_mem h1)
  obtain ⟨j, hj, e⟩ := List.getElem_of_mem m
  have a := hS k S[k] (List.getElem?_eq_getElem h1)
  have b := hT j T[j] (List.getElem?_eq_getElem hj)
  rw [e, a] at b
  have : k = j := by omega
  subst this
  exact e.symm
theorem IsG.perm {L M : List Inf} (h : L.Perm M) {f c : Int} {G : Gr} (hG : IsG L f c G) : IsG M f c G := by
  obtain ⟨S, a, b, c, d, e⟩ := hG
  exact ⟨S, a.trans (grp_perm h _ _), b, c, d, e⟩
theorem IsG.uniq {L : List Inf} {f c : Int} {G H : Gr} (h : IsG L f c G) (h' : IsG L f c H) : G = H := by
  obtain ⟨S, a, _, _, d, rfl⟩ := h
  obtain ⟨T, a', _, _, d', rfl⟩ := h'
  rw [ordI_uniq d d' (a.trans a'.symm)]
theorem IsG.seq {L : List Inf} {f c : Int} {G : Gr} (h : IsG L f c G) : G.q = f ∧ (G.s.length : Int) = c := by
  obtain ⟨S, _, _, c', _, rfl⟩ := h
  exact ⟨rfl, by simp [mkG, c']⟩

/-- By Seq, then by Count. -/
def ltG (A B : Gr) : Prop := A.q < B.q ∨ (A.q = B.q ∧ A.s.length < B.s.length)
theorem ltG_irr (A : Gr) : ¬ ltG A A := by unfold ltG; omega
theorem ltG_asym {A B : Gr} (h : ltG A B) : ¬ ltG B A := by unfold ltG at *; omega
/-- The groups of a list. -/
def GroupsOf (L : List Inf) (Gs : List Gr) : Prop := Gs.Pairwise ltG ∧ ∀ G, G ∈ Gs ↔ ∃ f c, IsG L f c G
theorem pw_uniq : ∀ {A B : List Gr}, A.Pairwise ltG → B.Pairwise ltG → (∀ G, G ∈ A ↔ G ∈ B) → A = B
  | [], [], _, _, _ => rfl
  | [], b :: B, _, _, h => by have := (h b).2 (by simp); cases this
  | a :: A, [], _, _, h => by have := (h a).1 (by simp); cases this
  | a :: A, b :: B, hA, hB, h => by
    obtain ⟨a1, a2⟩ := List.pairwise_cons.1 hA
    obtain ⟨b1, b2⟩ := List.pairwise_cons.1 hB
    have e : a = b := by
      rcases List.mem_cons.1 ((h a).1 (by simp)) with e | e
      · exact e
      rcases List.mem_cons.1 ((h b).2 (by simp)) with e' | e'
      · exact e'.symm
      exact absurd (a1 b e') (ltG_asym (b1 a e))
    subst e
    rw [pw_uniq a2 b2 fun G => ?_]
    constructor
    · intro hg
      rcases List.mem_cons.1 ((h G).1 (List.mem_cons_of_mem _ hg)) with e | e
      · subst e; exact absurd (a1 G hg) (ltG_irr G)
      · exact e
    · intro hg
      rcases List.mem_cons.1 ((h G).2 (List.mem_cons_of_mem _ hg)) with e | e
      · subst e; exact absurd (b1 G hg) (ltG_irr G)
      · exact e
theorem GroupsOf.uniq {L M : List Inf} {A B : List Gr} (h : GroupsOf L A) (h' : GroupsOf M B) (p : L.Perm M) : A = B :=
  pw_uniq h.1 h'.1 fun G => by
    rw [h.2 G, h'.2 G]
    exact ⟨fun ⟨f, c, x⟩ => ⟨f, c, x.perm p⟩, fun ⟨f, c, x⟩ => ⟨f, c, x.perm p.symm⟩⟩
/-- What the program has: no two of one key, sorted loosely. -/
theorem groups_sorted {L : List Inf} {Gs : List Gr} (hs : Gs.Pairwise fun a b => ¬ ltG b a) (hn : Gs.Nodup) (hm : ∀ G, G ∈ Gs ↔ ∃ f c, IsG L f c G) : GroupsOf L Gs := by
  refine ⟨?_, hm⟩
  have h2 : Gs.Pairwise fun a b => a ∈ Gs ∧ b ∈ Gs := List.pairwise_of_forall_mem_list fun a ha b hb => ⟨ha, hb⟩
  refine List.Pairwise.imp ?_ (List.Pairwise.and (List.Pairwise.and hs hn) h2)
  intro a b ⟨⟨h1, h2⟩, ha, hb⟩
  obtain ⟨f, c, ga⟩ := (hm a).1 ha
  obtain ⟨f', c', gb⟩ := (hm b).1 hb
  obtain ⟨p1, p2⟩ := ga.seq
  obtain ⟨q1, q2⟩ := gb.seq
  by_cases hlt : ltG a b
  · exact hlt
  exfalso
  apply h2
  have e1 : f = f' := by unfold ltG at h1 hlt; omega
  have e2 : c = c' := by unfold ltG at h1 hlt; omega
  subst e1 e2
  exact ga.uniq gb

/-- Infos that come one group behind the other: first Seq, Count, the infos that are there. -/
structure Kb where
  f : Int
  c : Int
  B : List Inf
def flatB (Ks : List Kb) : List Inf := Ks.flatMap Kb.B
/-- Whole and in order, or not as many as it has. -/
def Kb.Fine (k : Kb) : Prop := (∀ x ∈ k.B, x.of k.f k.c = true) ∧ ((k.B ≠ [] ∧ (k.B.length : Int) = k.c ∧ OrdI k.B) ∨ (k.B.length : Int) ≠ k.c)
def wholeK (k : Kb) : Option Gr := if k.B ≠ [] ∧ (k.B.length : Int) = k.c then some (mkG k.f k.B) else none
theorem flat_no : ∀ {Ks : List Kb} {f c : Int}, (∀ k ∈ Ks, k.Fine) → (∀ k ∈ Ks, ¬ (k.f = f ∧ k.c = c)) → grp (flatB Ks) f c = []
  | [], f, c, _, _ => rfl
  | k :: Ks, f, c, hf, hn => by
    show grp (k.B ++ flatB Ks) f c = []
    rw [grp_append, flat_no (fun k hk => hf k (List.mem_cons_of_mem _ hk)) (fun k hk => hn k (List.mem_cons_of_mem _ hk)), List.append_nil]
    refine grp_none fun x hx => ?_
    obtain ⟨e1, e2, _⟩ := Inf.of_key ((hf k (by simp)).1 x hx)
    exact Inf.of_other (by rw [e1, e2]; exact hn k (by simp))
theorem flat_at : ∀ {Ks : List Kb} {k : Kb}, (∀ k ∈ Ks, k.Fine) → Ks.Pairwise (fun a b => a.f < b.f) → k ∈ Ks → grp (flatB Ks) k.f k.c = k.B
  | [], k, _, _, h => by cases h
  | j :: Ks, k, hf, hp, h => by
    obtain ⟨h1, h2⟩ := List.pairwise_cons.1 hp
    show grp (j.B ++ flatB Ks) k.f k.c = k.B
    rw [grp_append]
    rcases List.mem_cons.1 h with e | e
    · subst e
      rw [grp_all (hf k (by simp)).1, flat_no (fun k hk => hf k (List.mem_cons_of_mem _ hk)) (fun x hx he => by have := h1 x hx; omega), List.append_nil]
    · rw [flat_at (fun k hk => hf k (List.mem_cons_of_mem _ hk)) h2 e]
      have : grp j.B k.f k.c = [] := by
        refine grp_none fun x hx => ?_
        obtain ⟨e1, e2, _⟩ := Inf.of_key ((hf j (by simp)).1 x hx)
        exact Inf.of_other (by rw [e1]; have := h1 k e; omega)
      rw [this]; rfl
/-- THE GROUPS OF SUCH A LIST. -/
theorem groups_flat {Ks : List Kb} (hf : ∀ k ∈ Ks, k.Fine) (hp : Ks.Pairwise (fun a b => a.f < b.f)) : GroupsOf (flatB Ks) (Ks.filterMap wholeK) := by
  constructor
  · refine List.pairwise_filterMap.2 (hp.imp ?_)
    intro a b hab A hA B hB
    unfold wholeK at hA hB
    split at hA
    · split at hB
      · cases hA; cases hB
        exact .inl hab
      · cases hB
    · cases hA
  · intro G
    rw [List.mem_filterMap]
    constructor
    · rintro ⟨k, hk, hw⟩
      unfold wholeK at hw
      split at hw
      next h =>
        cases hw
        obtain ⟨_, h2⟩ := hf k hk
        rcases h2 with ⟨a, b, c⟩ | h2
        · exact ⟨k.f, k.c, k.B, by rw [flat_at hf hp hk], a, b, c, rfl⟩
        · exact absurd h.2 h2
      next => cases hw
    · rintro ⟨f, c, S, hS, hne, hl, ho, rfl⟩
      by_cases hex : ∃ k ∈ Ks, k.f = f ∧ k.c = c
      · obtain ⟨k, hk, rfl, rfl⟩ := hex
        rw [flat_at hf hp hk] at hS
        refine ⟨k, hk, ?_⟩
        have hlen := hS.length_eq
        rcases (hf k hk).2 with ⟨a, b, d⟩ | h2
        · rw [wholeK, if_pos ⟨a, b⟩, ordI_uniq ho d hS]
        · rw [hlen] at hl; exact absurd hl h2
      · exfalso
        rw [flat_no hf (fun k hk he => hex ⟨k, hk, he⟩)] at hS
        exact hne hS.eq_nil
end Go.Proofs.YtegmeoghonolcaaGreat

/-
  Slices of numbers, as the groups' texts name them.
-/
namespace Go.Proofs.YtegmeoghonolcaaGreat
open Go.RowKit

abbrev num (ks : List Int) (i : Nat) : Int := ks.getD i 0
theorem Ins.len {w : World} {a : Option Addr} {n : Nat} {ks : List Int} (h : Ins w a n ks) : ks.length = n := h.1
theorem Ins.below {w w' : World} {a : Option Addr} {n : Nat} {ks : List Int} (h : Ins w a n ks) {B : Nat} (hB : w.heap.size ≤ B) (hb : Below B w w') : Ins w' a n ks := by
  refine ⟨h.1, ?_⟩
  rcases h.2 with h0 | ⟨b, off, ha, hlt, hc⟩
  · exact .inl h0
  · exact .inr ⟨b, off, ha, Nat.lt_of_lt_of_le hlt hb.size, fun i hi => (hb.cell (p := ⟨b, off + i, none⟩) (by show b < B; omega)).trans (hc i hi)⟩
theorem Ins.next {w w' : World} {a : Option Addr} {n : Nat} {ks : List Int} (h : Ins w a n ks) (hb : Below w.heap.size w w') : Ins w' a n ks := h.below (Nat.le_refl _) hb
/-- 'append(s, x)' of one number, s of the call's own; what lies in other blocks is as it was. -/
theorem wpList_api {w : World} {ops : Array Oper} {rest : List Oper} {o : Oper} {a : Act} {Q : Exit → Act → World → Prop} (hgd : o.guard = none) (s x : Operand)
    (ho : o.op = .call { callee := .builtin .append, args := #[s, x], argTypes := #[36, 36] })
    (B : Nat) (v : Value) (n : Nat) (ks : List Int) (hs : a.eval s = v) (hown : OwnI w B v n ks) (g : Nat) (z : Int) (hx : a.eval x = .slice (some ⟨g, 0, none⟩) 1 1) (hg : w.cell? ⟨g, 0, none⟩ = some (.int .i64 z))
    (hn : n + 1 ≤ 1000000000000) (hB : B ≤ w.heap.size) (w0 : World) (hb : Below B w0 w)
    (h : ∀ v' w', OwnI w' B v' (n + 1) (ks ++ [z]) → Below B w0 w' → wpList Tryz.prog ops Q rest (a.put o.dst v') w') : wpList Tryz.prog ops Q (o :: rest) a w := wpList_apz hgd s x ho B v n ks hs hown g z hx hg hn hB w0 hb h
end Go.Proofs.YtegmeoghonolcaaGreat

/-
  Infos and groups in memory; an info's kin, by contract.
-/
namespace Go.Proofs.YtegmeoghonolcaaGreat
open Go.RowKit
set_option linter.unusedVariables false

/-- An info's cells. -/
def ifc (x : Inf) : List Value := [.int .i64 x.g, .int .i64 x.q, .int .i64 x.c, .int .i64 x.i, .int .i64 x.b, .int .i64 x.r]
/-- An info by value. -/
def ifv (x : Inf) : Value := .agg #[.int .i64 x.g, .int .i64 x.q, .int .i64 x.c, .int .i64 x.i, .int .i64 x.b, .int .i64 x.r]
/-- Its Seq and its Count are numbers. -/
def Inf.W (x : Inf) : Prop := x.q < 9223372036854775808 ∧ x.c < 9223372036854775808
def kinF (x : Inf) : Int := if x.ok then x.q - x.i else 0
def kinC (x : Inf) : Int := if x.ok then x.c else 0

theorem bel2 (w : World) (o p : Obj) : Below w.heap.size w ((w.alloc o).alloc p) := ((Below.refl _ _).alloc (Nat.le_refl _) _).alloc (by simp) _
set_option maxHeartbeats 1000000 in
theorem kinOf_any (x : Inf) (w : World) (hW : x.W) :
    Calls Tryz.prog 107 #[ifv x] w fun e w' => e = .returned (.tuple #[.agg #[.int .i64 (kinF x), .int .i64 (kinC x)], .bool x.ok]) ∧ Below w.heap.size w w' := by
  obtain ⟨g, q, c, i, b, r⟩ := x
  obtain ⟨hq, hc⟩ := hW
  simp only at hq hc
  unfold ifv
  simp only
  by_cases h1 : i < 0
  · have ho : Inf.ok ⟨g, q, c, i, b, r⟩ = false := decide_eq_false (by simp only; omega)
    unfold kinF kinC
    rw [ho]
    simp only [Bool.false_eq_true, if_false]
    clear ho
    go_enter Tryz.func107, Tryz.ntmps107
    go_wp2_with (fail)
    exact bodyPost_ret (v := .tuple #[.agg #[.int .i64 0, .int .i64 0], .bool false]) (by simp [results, Tryz.results107, go_sem]) rfl ⟨rfl, bel2 _ _ _⟩
  have d1 : decide (i < 0) = false := decide_eq_false h1
  by_cases h2 : i < c
  · have d2 : decide (c ≤ i) = false := decide_eq_false (by omega)
    by_cases h3 : q < i
    · have ho : Inf.ok ⟨g, q, c, i, b, r⟩ = false := decide_eq_false (by simp only; omega)
      unfold kinF kinC
      rw [ho]
      simp only [Bool.false_eq_true, if_false]
      clear ho
      go_enter Tryz.func107, Tryz.ntmps107
      go_wp2_with (fail)
      exact bodyPost_ret (v := .tuple #[.agg #[.int .i64 0, .int .i64 0], .bool false]) (by simp [results, Tryz.results107, go_sem]) rfl ⟨rfl, bel2 _ _ _⟩
    · have ho : Inf.ok ⟨g, q, c, i, b, r⟩ = true := decide_eq_true (by simp only; omega)
      have d3 : decide (q < i) = false := decide_eq_false h3
      have w1 : IntKind.i64.wrap (q - i) = q - i := IntWalk.i64_in _ (by omega)
      unfold kinF kinC
      rw [ho]
      simp only [if_true]
      clear ho
      go_enter Tryz.func107, Tryz.ntmps107
      go_wp2_with (fail)
      exact bodyPost_ret (v := .tuple #[.agg #[.int .i64 (q - i), .int .i64 c], .bool true]) (by simp [results, Tryz.results107, go_sem]) rfl ⟨rfl, bel2 _ _ _⟩
  · have ho : Inf.ok ⟨g, q, c, i, b, r⟩ = false := decide_eq_false (by simp only; omega)
    unfold kinF kinC
    rw [ho]
    simp only [Bool.false_eq_true, if_false]
    clear ho
    have d2 : c ≤ i := by omega
    go_enter Tryz.func107, Tryz.ntmps107
    go_wp2_with (fail)
    exact bodyPost_ret (v := .tuple #[.agg #[.int .i64 0, .int .i64 0], .bool false]) (by simp [results, Tryz.results107, go_sem]) rfl ⟨rfl, bel2 _ _ _⟩

/-- cmp.Compare of numbers. -/
def cmpI (x y : Int) : Int := if x < y then -1 else if y < x then 1 else 0
theorem isNaN_any (x : Int) (w : World) : Calls Tryz.prog 110 #[.int .i64 x] w fun e w' => e = .returned (.bool false) ∧ w' = w := by
  go_enter Tryz.func110, Tryz.ntmps110
  go_wp2_with (fail)
  go_ret
  exact ⟨rfl, rfl⟩
set_option maxHeartbeats 1000000 in
theorem cmp_any (x y : Int) (w : World) : Calls Tryz.prog 59 #[.int .i64 x, .int .i64 y] w fun e w' => e = .returned (.int .i64 (cmpI x y)) ∧ w' = w := by
  unfold cmpI
  go_enter Tryz.func59, Tryz.ntmps59
  go_wp2_with (first | (go_at_call 110; refine (isNaN_any _ _).mono ?_; rintro e w' ⟨rfl, rfl⟩))
  all_goals go_ret
  all_goals exact ⟨rfl, rfl⟩
end Go.Proofs.YtegmeoghonolcaaGreat

/-
  Slices of infos; are they all of a group, and what group they make, by contract.
-/
namespace Go.Proofs.YtegmeoghonolcaaGreat
open Go.RowKit
set_option linter.unusedVariables false

/-- A slice of n infos. -/
structure Ifs (w : World) (a : Option Addr) (n : Nat) (L : List Inf) : Prop where
  len : L.length = n
  place : n = 0 ∨ ∃ b off, a = some ⟨b, off, none⟩ ∧ b < w.heap.size ∧ ∀ (k j : Nat) (x : Inf) (v : Value), L[k]? = some x → (ifc x)[j]? = some v → w.cell? ⟨b, off + k * 6 + j, none⟩ = some v
theorem Ifs.below {w w' : World} {a : Option Addr} {n : Nat} {L : List Inf} (h : Ifs w a n L) {B : Nat} (hB : w.heap.size ≤ B) (hb : Below B w w') : Ifs w' a n L := by
  refine ⟨h.len, ?_⟩
  rcases h.place with h0 | ⟨b, off, e, hlt, hc⟩
  · exact .inl h0
  · exact .inr ⟨b, off, e, Nat.lt_of_lt_of_le hlt hb.size, fun k j x v hk hj => (hb.cell (p := ⟨b, off + k * 6 + j, none⟩) (by show b < B; omega)).trans (hc k j x v hk hj)⟩
theorem Ifs.next {w w' : World} {a : Option Addr} {n : Nat} {L : List Inf} (h : Ifs w a n L) (hb : Below w.heap.size w w') : Ifs w' a n L := h.below (Nat.le_refl _) hb
/-- The info at a place. -/
theorem Ifs.at {w : World} {a : Option Addr} {n k : Nat} {L : List Inf} (h : Ifs w a n L) (hk : k < n) :
    ∃ b off g q c i m r, a = some ⟨b, off, none⟩ ∧ b < w.heap.size ∧ L[k]? = some ⟨g, q, c, i, m, r⟩ ∧ w.cell? ⟨b, off + k * 6, none⟩ = some (.int .i64 g) ∧ w.cell? ⟨b, off + k * 6 + 1, none⟩ = some (.int .i64 q) ∧
      w.cell? ⟨b, off + k * 6 + 2, none⟩ = some (.int .i64 c) ∧ w.cell? ⟨b, off + k * 6 + 3, none⟩ = some (.int .i64 i) ∧ w.cell? ⟨b, off + k * 6 + 4, none⟩ = some (.int .i64 m) ∧ w.cell? ⟨b, off + k * 6 + 5, none⟩ = some (.int .i64 r) := by
  have hl := h.len
  obtain ⟨x, hx⟩ : ∃ x, L[k]? = some x := ⟨L[k], List.getElem?_eq_getElem (by omega)⟩
  rcases h.place with h0 | ⟨b, off, e, hlt, hc⟩
  · omega
  · obtain ⟨g, q, c, i, m, r⟩ := x
    exact ⟨b, off, g, q, c, i, m, r, e, hlt, hx, hc k 0 _ _ hx rfl, hc k 1 _ _ hx rfl, hc k 2 _ _ hx rfl, hc k 3 _ _ hx rfl, hc k 4 _ _ hx rfl, hc k 5 _ _ hx rfl⟩

/-- The first k stand at their Index. -/
def OrdK (L : List Inf) (k : Nat) : Prop := ∀ (j : Nat) (x : Inf), j < k → L[j]? = some x → x.i = (j : Int)
theorem OrdK.zero (L : List Inf) : OrdK L 0 := fun j x h => by omega
theorem OrdK.succ {L : List Inf} {k : Nat} {x : Inf} (h : OrdK L k) (hx : L[k]? = some x) (e : x.i = (k : Int)) : OrdK L (k + 1) := fun j y hj hy => by
  rcases (by omega : j < k ∨ j = k) with h1 | rfl
  · exact h j y h1 hy
  · rw [hx] at hy; cases hy; exact e
theorem OrdK.all {L : List Inf} (h : OrdK L L.length) : OrdI L := fun k x hx => h k x (by
  rcases Nat.lt_or_ge k L.length with h1 | h1
  · exact h1
  · rw [List.getElem?_eq_none h1] at hx; cases hx) hx
def HasPost (L : List Inf) (cnt : Int) (w0 : World) (e : Ending) (w' : World) : Prop := ∃ ok : Bool, e = .returned (.bool ok) ∧ (ok = true ↔ ((L.length : Int) = cnt ∧ OrdI L)) ∧ Below w0.heap.size w0 w'

set_option maxHeartbeats 2000000 in
theorem hasEach_any (a : Option Addr) (n c : Nat) (L : List Inf) (cnt : Int) (w : World) (h : Ifs w a n L) (hn : n ≤ 1000000000000) :
    Calls Tryz.prog 60 #[.slice a n c, .int .i64 cnt] w (HasPost L cnt w) := by
  have HL := Lib.hid h.len
  by_cases hc : (n : Int) = cnt
  · have HC := Lib.hid hc
    have hne : (decide ((n : Int) = cnt)) = true := decide_eq_true hc
    go_enter Tryz.func60, Tryz.ntmps60
    go_wp2_with (fail)
    go_loopw [5, 6, 13] (fun _p _q v wr => ∃ k : Nat, k ≤ n ∧ v = .int .i64 k ∧ OrdK L k ∧ Below w.heap.size w wr) (fun _ _ v _ => n - (RowKit.intOf v).toNat)
    case atStart => exact ⟨0, Nat.zero_le _, rfl, OrdK.zero L, Below.refl _ _⟩
    case round =>
      obtain ⟨k, hk, rfl, hor, hb⟩ := hrel
      have HO := Lib.hid hor
      have HB := Lib.hid hb
      have hbs := hb.size
      clear hor
      by_cases hlt : k < n
      · obtain ⟨b, off, g, q, c, i, m, r, rfl, hbl, hx, y0, y1, y2, y3, y4, y5⟩ := (h.next hb).at hlt
        have HX := Lib.hid hx
        clear hx h hb
        by_cases hi : i = (k : Int)
        · go_wp2_with (fail)
          go_roundw
          case rel => exact ⟨k + 1, by omega, by go_num, HO.out.succ HX.out hi, HB.out.alloc hbs _⟩
          case measure => simp [RowKit.intOf]; omega
        · have d1 : (decide (i = (k : Int))) = false := decide_eq_false hi
          go_wp2_with (fail)
          go_ret
          refine ⟨false, rfl, ?_, HB.out.alloc hbs _⟩
          constructor
          · intro h; cases h
          · intro h; exact absurd (h.2 k _ HX.out) hi
      · obtain rfl : k = n := by omega
        clear h hb
        go_wp2_with (fail)
        go_ret
        refine ⟨true, rfl, ?_, HB.out⟩
        constructor
        · intro _
          exact ⟨by rw [HL.out]; exact HC.out, by have := HO.out; rw [← HL.out] at this; exact this.all⟩
        · intro _; rfl
  · have hne : (decide ((n : Int) = cnt)) = false := decide_eq_false hc
    have HC := Lib.hid hc
    clear h
    go_enter Tryz.func60, Tryz.ntmps60
    go_wp2_with (fail)
    go_ret
    refine ⟨false, rfl, ?_, Below.refl _ _⟩
    constructor
    · intro h; cases h
    · intro h; rw [HL.out] at h; exact absurd h.1 HC.out
end Go.Proofs.YtegmeoghonolcaaGreat
