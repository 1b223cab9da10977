/-
  Rows of pieces of the call's own: how they grow.
-/
import Derived.Test.YtegmeoghonolcaaGreatCs
import Derived.Deep.AppendLies
set_option linter.unusedSimpArgs false
set_option linter.unusedVariables false
namespace Go.Proofs.YtegmeoghonolcaaGreat
open Go.RowKit

theorem info24 : (Tryz.prog.info? 42).map (fun i => (i.zero, i.size, i.bytes)) = some (some (.slice none 0 0), 1, 24) := by kernel_rfl
def vals (f : Nat → Pc) (n : Nat) : List Value := (List.range n).map fun i => .slice (f i).a (f i).n (f i).c
theorem vals_len (f : Nat → Pc) (n : Nat) : (vals f n).length = n := by simp [vals]
theorem vals_at {f : Nat → Pc} {n i : Nat} (h : i < n) : (vals f n)[i]? = some (.slice (f i).a (f i).n (f i).c) := by
  simp [vals, List.getElem?_range h]
/-- One more piece behind n. -/
def snoc (f : Nat → Pc) (n : Nat) (p : Pc) : Nat → Pc := fun i => if i = n then p else f i
theorem snoc_old {f : Nat → Pc} {n i : Nat} {p : Pc} (h : i < n) : snoc f n p i = f i := if_neg (by omega)
theorem snoc_new {f : Nat → Pc} {n : Nat} {p : Pc} : snoc f n p n = p := if_pos rfl
theorem vals_snoc (f : Nat → Pc) (n : Nat) (p : Pc) : vals (snoc f n p) (n + 1) = vals f n ++ [.slice p.a p.n p.c] := by
  unfold vals
  rw [List.range_succ, List.map_append]
  congr 1
  · apply List.map_congr_left
    intro i hi
    rw [snoc_old (List.mem_range.1 hi)]
  · simp [snoc]

/-- A row of the call's own blocks from B on; its pieces lie in other blocks. -/
structure OwnR (w : World) (B : Nat) (v : Value) (n : Nat) (f : Nat → Pc) : Prop where
  row : w.ownsRow B 42 1 v n (vals f n)
  each : ∀ i, i < n → Pin w (f i).a (f i).n (f i).c (f i).zs
  apart : ∀ i, i < n → (f i).n = 0 ∨ ∀ x, (f i).a = some x → some x.block ≠ v.ownBlock
theorem OwnR.below {w w' : World} {B : Nat} {v : Value} {n : Nat} {f : Nat → Pc} (h : OwnR w B v n f) {C : Nat} (hC : w.heap.size ≤ C) (hb : Below C w w') : OwnR w' B v n f :=
  ⟨h.row.kept (row := none) ⟨hb.os, hb.tape, hb.output, hb.size, fun k hk _ => hb.block k (by omega)⟩ (by cases v.ownBlock <;> simp), fun i hi => (h.each i hi).below hC hb, h.apart⟩
theorem OwnR.next {w w' : World} {B : Nat} {v : Value} {n : Nat} {f : Nat → Pc} (h : OwnR w B v n f) (hb : Below w.heap.size w w') : OwnR w' B v n f := h.below (Nat.le_refl _) hb
theorem OwnR.rws {w : World} {B : Nat} {v : Value} {n : Nat} {f : Nat → Pc} (h : OwnR w B v n f) : ∃ a c, v = .slice a n c ∧ Rws w a n f ∧ n ≤ c ∧ c ≤ 9223372036854775807 ∧ (∀ x, a = some x → B ≤ x.block ∧ x.block < w.heap.size) := by
  rcases h.row.2 with ⟨rfl, rfl⟩ | ⟨g, cap, cur, rfl, hb, hg, hnc, hm, hsz, htake⟩
  · exact ⟨none, 0, rfl, ⟨.inl rfl, h.each⟩, Nat.le_refl _, by omega, (fun x hx => by cases hx)⟩
  · refine ⟨some ⟨g, 0, none⟩, cap, rfl, ⟨.inr ⟨g, 0, rfl, lt_of_block hg, fun i hi => ?_⟩, h.each⟩, hnc, by unfold maxLen at hm; omega, fun x hx => by cases hx; exact ⟨hb, lt_of_block hg⟩⟩
    have hc := h.row.cellAt i (by omega)
    rw [Nat.zero_add, hc]
    exact vals_at (f := f) hi
theorem Pin.grown {w w' : World} {a : Option Addr} {n c : Nat} {zs : List Int} (h : Pin w a n c zs) {row : Option Nat} (hg : w.grownBy w' row) (hne : n = 0 ∨ ∀ x, a = some x → some x.block ≠ row) : Pin w' a n c zs := ⟨h.bys.grown hg hne, h.nil, h.cap, h.max⟩

/-- 'append(rows, p)'. -/
theorem wpList_apR {w : World} {ops : Array Oper} {rest : List Oper} {o : Oper} {a : Act} {Q : Exit → Act → World → Prop} (hgd : o.guard = none) (s x : Operand)
    (ho : o.op = .call { callee := .builtin .append, args := #[s, x], argTypes := #[24, 24] })
    (B : Nat) (v : Value) (n : Nat) (f : Nat → Pc) (hs : a.eval s = v) (hown : OwnR w B v n f) (g : Nat) (hx : a.eval x = .slice (some ⟨g, 0, none⟩) 1 1)
    (pa : Option Addr) (pn pc : Nat) (pz : List Int) (hg : w.cell? ⟨g, 0, none⟩ = some (.slice pa pn pc)) (hp : Pin w pa pn pc pz) (hap : pn = 0 ∨ ∀ y, pa = some y → some y.block ≠ v.ownBlock)
    (hn : n + 1 ≤ 1000000000000) (hB : B ≤ w.heap.size) (w0 : World) (hb : Below B w0 w)
    (h : ∀ v' w', OwnR w' B v' (n + 1) (snoc f n ⟨pa, pn, pc, pz⟩) → Below B w0 w' → w.grownBy w' v.ownBlock → (v'.ownBlock = v.ownBlock ∨ v'.ownBlock = some w.heap.size) → wpList Tryz.prog ops Q rest (a.put o.dst v') w') : wpList Tryz.prog ops Q (o :: rest) a w := by
  obtain ⟨i0, hi, hz0, hz1, hz2⟩ := info_parts info24
  refine wpList_append_lies (P := Tryz.prog) w hgd s x 24 ho B 42 i0 (.slice none 0 0) 1 24 Tryz.underlying24 hi hz0 hz1 hz2 rfl (by omega) v n _ hs hown.row ⟨g, 0, none⟩ 1 1 [.slice pa pn pc] hx rfl ?_ ?_ (by omega) (by unfold maxLen; omega) (by omega) hB _ rfl ?_
  · intro j u hj
    cases j with
    | zero =>
      simp at hj
      subst hj
      exact hg
    | succ j => simp at hj
  · intro u hu
    rw [List.mem_singleton.1 hu]
    rfl
  · intro g' cap w' hown' hgrow hat hlt
    have hE : (Value.slice (some ⟨g', 0, none⟩) (n + 1) cap).ownBlock = some g' := rfl
    have hap' : ∀ {pa : Option Addr} {pn pc : Nat} {pz : List Int}, Pin w pa pn pc pz → (pn = 0 ∨ ∀ y, pa = some y → some y.block ≠ v.ownBlock) → (pn = 0 ∨ ∀ y, pa = some y → some y.block ≠ some g') := by
      intro pa pn pc pz hp h
      rcases h with h0 | hne
      · exact .inl h0
      rcases hp.bys.place with h0 | ⟨b, off, e, hb', _⟩
      · exact .inl h0
      right
      intro y hy e2
      rcases hat with h1 | h1
      · exact hne y hy (by rw [h1]; exact e2)
      · rw [e] at hy
        cases hy
        have : b = g' := by simpa using e2
        omega
    refine h _ w' ⟨by rw [vals_snoc]; exact hown', fun i hi => ?_, fun i hi => ?_⟩ (hb.grown hgrow hB fun k hk => (hown.row.lt k hk).1) hgrow (by
      rw [hE]
      rcases hat with h1 | h1
      · exact .inl h1.symm
      · exact .inr (by rw [h1]))
    · rcases Nat.lt_or_ge i n with h1 | h1
      · rw [snoc_old h1]; exact (hown.each i h1).grown hgrow (hown.apart i h1)
      · obtain rfl : i = n := by omega
        rw [snoc_new]; exact hp.grown hgrow hap
    · rw [hE]
      rcases Nat.lt_or_ge i n with h1 | h1
      · rw [snoc_old h1]; exact hap' (hown.each i h1) (hown.apart i h1)
      · obtain rfl : i = n := by omega
        rw [snoc_new]; exact hap' hp hap

/-- The row of n pieces in block g, which may be written. -/
structure Rb (w : World) (g n : Nat) (f : Nat → Pc) : Prop where
  lt : g < w.heap.size
  cell : ∀ i, i < n → w.cell? ⟨g, i, none⟩ = some (.slice (f i).a (f i).n (f i).c)
  free : ∀ i, w.frozen? ⟨g, i, none⟩ = false
  each : ∀ i, i < n → Pin w (f i).a (f i).n (f i).c (f i).zs
  apart : ∀ i, i < n → (f i).n = 0 ∨ ∀ x, (f i).a = some x → x.block ≠ g
theorem OwnR.rb {w : World} {B : Nat} {v : Value} {n : Nat} {f : Nat → Pc} (h : OwnR w B v n f) (hn : 0 < n) : ∃ g c, v = .slice (some ⟨g, 0, none⟩) n c ∧ Rb w g n f ∧ n ≤ c ∧ c ≤ 9223372036854775807 ∧ B ≤ g := by
  have hr := h.rws
  have hap := h.apart
  rcases h.row.2 with ⟨rfl, rfl⟩ | ⟨g, cap, cur, rfl, hb, hg, hnc, hm, hsz, htake⟩
  · omega
  · obtain ⟨a', c', e, hr', _⟩ := hr
    cases e
    refine ⟨g, cap, rfl, ⟨lt_of_block hg, fun i hi => ?_, fun i => frozen_of_row w g i _ _ hg, h.each, fun i hi => ?_⟩, hnc, by unfold maxLen at hm; omega, hb⟩
    · rcases hr'.place with h0 | ⟨b, off, e, _, hc⟩
      · omega
      · cases e
        have := hc i hi
        rwa [Nat.zero_add] at this
    · rcases hap i hi with h0 | h1
      · exact .inl h0
      · exact .inr fun x hx e => h1 x hx (by rw [e]; rfl)
theorem Rb.next {w w' : World} {g n : Nat} {f : Nat → Pc} (h : Rb w g n f) (hb : Below w.heap.size w w') : Rb w' g n f := by
  have hl := h.lt
  exact ⟨Nat.lt_of_lt_of_le hl hb.size, fun i hi => (hb.cell (p := ⟨g, i, none⟩) hl).trans (h.cell i hi), fun i => (hb.frozen (p := ⟨g, i, none⟩) hl).trans (h.free i), fun i hi => (h.each i hi).next hb, h.apart⟩
theorem Bys.setCell {w : World} {a : Option Addr} {n : Nat} {zs : List Int} (h : Bys w a n zs) {p : Addr} (u : Value) (hne : n = 0 ∨ ∀ x, a = some x → x.block ≠ p.block) : Bys (w.setCell p u) a n zs := by
  refine ⟨h.len, h.small, ?_⟩
  rcases h.place with h0 | ⟨b, off, e, hlt, hc⟩
  · exact .inl h0
  rcases hne with h0 | hne
  · exact .inl h0
  have hb : b ≠ p.block := hne _ e
  exact .inr ⟨b, off, e, by simpa using hlt, fun i hi => (World.cell?_setCell_other _ _ _ _ (fun e => hb (by rw [e]))).trans (hc i hi)⟩
theorem Pin.setCell {w : World} {a : Option Addr} {n c : Nat} {zs : List Int} (h : Pin w a n c zs) {p : Addr} (u : Value) (hne : n = 0 ∨ ∀ x, a = some x → x.block ≠ p.block) : Pin (w.setCell p u) a n c zs := ⟨h.bys.setCell u hne, h.nil, h.cap, h.max⟩
theorem Rb.set {w : World} {g n k : Nat} {f : Nat → Pc} (h : Rb w g n f) (hk : k < n) {pa : Option Addr} {pn pc : Nat} {pz : List Int} (hp : Pin w pa pn pc pz) (hap : pn = 0 ∨ ∀ x, pa = some x → x.block ≠ g) :
    Rb (w.setCell ⟨g, k, none⟩ (.slice pa pn pc)) g n (snoc f k ⟨pa, pn, pc, pz⟩) := by
  refine ⟨by simpa using h.lt, fun i hi => ?_, fun i => by simpa using h.free i, fun i hi => ?_, fun i hi => ?_⟩
  · by_cases e : i = k
    · subst e
      rw [snoc_new]
      exact World.cell?_setCell_same _ _ _ (h.cell i hi)
    · rw [show snoc f k ⟨pa, pn, pc, pz⟩ i = f i from if_neg e]
      exact (World.cell?_setCell_other _ _ _ _ (by simp only [ne_eq, Addr.mk.injEq, not_and]; omega)).trans (h.cell i hi)
  · by_cases e : i = k
    · subst e
      rw [snoc_new]
      exact hp.setCell _ hap
    · rw [show snoc f k ⟨pa, pn, pc, pz⟩ i = f i from if_neg e]
      exact (h.each i hi).setCell _ (h.apart i hi)
  · by_cases e : i = k
    · subst e
      rw [snoc_new]
      exact hap
    · rw [show snoc f k ⟨pa, pn, pc, pz⟩ i = f i from if_neg e]
      exact h.apart i hi

end Go.Proofs.YtegmeoghonolcaaGreat
