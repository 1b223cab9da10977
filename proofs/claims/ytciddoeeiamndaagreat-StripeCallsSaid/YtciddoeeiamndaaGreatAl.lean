/-
  The bank's All, by contract.
-/
import Derived.Test.YtciddoeeiamndaaGreatRdO
import Derived.Test.YtciddoeeiamndaaGreatFl
import Derived.Maps.OwnIn
import Derived.Test.YtciddoeeiamndaaGreatEvB
namespace Go.Proofs.YtciddoeeiamndaaGreat
open Go.RowKit Go.Maps
attribute [local go_sem] Oper.semAt_some

/-- What is read of the first i disks that tell it. -/
def alL (B : Bn) (k : Int) (R : Rk) : Nat → List (List Int)
  | 0 => []
  | i + 1 => if R.rdE (B.disk (i : Int)) k = 0 then alL B k R i ++ [R.rdV (B.disk (i : Int)) k] else alL B k R i
theorem alL_len (B : Bn) (k : Int) (R : Rk) (i : Nat) : (alL B k R i).length ≤ i := by
  induction i with
  | zero => exact Nat.le_refl _
  | succ i ih =>
    unfold alL
    split
    · simp; omega
    · omega
/-- The pieces hold these bytes. -/
def RowsAre (f : Nat → Pc) (ls : List (List Int)) : Prop := ∀ j, j < ls.length → (f j).zs = ls.getD j []
theorem RowsAre.snoc {f : Nat → Pc} {ls : List (List Int)} (h : RowsAre f ls) (p : Pc) : RowsAre (snoc f ls.length p) (ls ++ [p.zs]) := by
  intro j hj
  rw [List.length_append, List.length_singleton] at hj
  rcases Nat.lt_or_ge j ls.length with h1 | h1
  · rw [snoc_old h1, h j h1]
    simp [List.getD, List.getElem?_append_left h1]
  · obtain rfl : j = ls.length := by omega
    rw [snoc_new]
    simp [List.getD]

theorem Pin.aside {w w' : World} {l : Nat} {a : Option Addr} {n c : Nat} {zs : List Int} (h : Pin w a n c zs) (ha : Aside l w w') : Pin w' a n c zs := ⟨h.bys.aside ha, h.nil, h.cap, h.max⟩
theorem OwnR.aside {w w' : World} {l B : Nat} {v : Value} {n : Nat} {f : Nat → Pc} (h : OwnR w B v n f) (ha : Aside l w w') : OwnR w' B v n f := by
  refine ⟨h.row.kept (row := some l) ⟨ha.turn.os, ha.turn.tape, ha.turn.output, ha.turn.size, fun k hk hne => ha.turn.block k hk (fun e => hne (by rw [e]))⟩ ?_, fun i hi => (h.each i hi).aside ha, h.apart⟩
  rcases h.row.2 with ⟨rfl, _⟩ | ⟨g, cap, cur, rfl, _, hg, _⟩
  · exact .inl rfl
  · refine .inr fun e => ?_
    have e' : g = l := by simpa [Value.ownBlock] using e
    exact ha.no _ _ _ (e' ▸ hg)

/-- 'append(rows, p)' within a fence. -/
theorem wpListIn_apR {F : Fence} {nF : Nat} {w : World} {ops : Array Oper} {rest : List Oper} {o : Oper} {a : Act} {Q : Exit → Act → World → Prop} (hgd : o.guard = none) (s x : Operand)
    (ho : o.op = .call { callee := .builtin .append, args := #[s, x], argTypes := #[31, 31] })
    (B : Nat) (v : Value) (n : Nat) (f : Nat → Pc) (hs : a.eval s = v) (hown : OwnR w B v n f) (g : Nat) (hx : a.eval x = .slice (some ⟨g, 0, none⟩) 1 1)
    (pa : Option Addr) (pn pc : Nat) (pz : List Int) (hg : w.cell? ⟨g, 0, none⟩ = some (.slice pa pn pc)) (hp : Pin w pa pn pc pz) (hap : pn = 0 ∨ ∀ y, pa = some y → some y.block ≠ v.ownBlock)
    (hn : n + 1 ≤ 1000000000000) (hB : B ≤ w.heap.size) (w0 : World) (hb : Below B w0 w)
    (h : ∀ a' c' w', OwnR w' B (.slice a' (n + 1) c') (n + 1) (snoc f n ⟨pa, pn, pc, pz⟩) → Below B w0 w' → w.grownBy w' v.ownBlock → wpListIn F nF Tryz.prog ops Q rest (a.put o.dst (.slice a' (n + 1) c')) w') : wpListIn F nF Tryz.prog ops Q (o :: rest) a w := by
  obtain ⟨i0, hi, hz0, hz1, hz2⟩ := info_parts info24
  refine wpListIn_append_own_at (P := Tryz.prog) w hgd s x 31 ho B 49 i0 (.slice none 0 0) 1 24 Tryz.underlying31 hi hz0 hz1 hz2 rfl (by omega) v n _ hs hown.row ⟨g, 0, none⟩ 1 1 [.slice pa pn pc] hx rfl ?_ ?_ (by unfold maxLen; omega) (by omega) hB ?_
  · intro j u hj
    cases j with
    | zero =>
      simp at hj
      subst hj
      exact hg
    | succ j => simp at hj
  · intro u hu
    rw [List.mem_singleton.1 hu]
    rfl
  · intro v' w' hown' hgrow _ hat
    have hap' : ∀ {pa : Option Addr} {pn pc : Nat} {pz : List Int}, Pin w pa pn pc pz → (pn = 0 ∨ ∀ y, pa = some y → some y.block ≠ v.ownBlock) → (pn = 0 ∨ ∀ y, pa = some y → some y.block ≠ v'.ownBlock) := by
      intro pa pn pc pz hp h
      rcases h with h0 | hne
      · exact .inl h0
      rcases hp.bys.place with h0 | ⟨b, off, e, hb', _⟩
      · exact .inl h0
      right
      intro y hy e2
      rcases hat with h1 | h1
      · exact hne y hy (by rw [e2, h1])
      · rw [e] at hy
        cases hy
        rw [h1] at e2
        have : b = w.heap.size := by simpa using e2
        omega
    have hO : OwnR w' B v' (n + 1) (snoc f n ⟨pa, pn, pc, pz⟩) := by
      refine ⟨by rw [vals_snoc]; exact hown', fun i hi => ?_, fun i hi => ?_⟩
      · rcases Nat.lt_or_ge i n with h1 | h1
        · rw [snoc_old h1]; exact (hown.each i h1).grown hgrow (hown.apart i h1)
        · obtain rfl : i = n := by omega
          rw [snoc_new]; exact hp.grown hgrow hap
      · rcases Nat.lt_or_ge i n with h1 | h1
        · rw [snoc_old h1]; exact hap' (hown.each i h1) (hown.apart i h1)
        · obtain rfl : i = n := by omega
          rw [snoc_new]; exact hap' hp hap
    obtain ⟨a', c', rfl, _⟩ := hO.rws
    exact h a' c' w' hO (hb.grown hgrow hB fun k hk => (hown.row.lt k hk).1) hgrow

theorem keeps_grown {B : Nat} {W W' : World} {v : Value} {n C : Nat} {f : Nat → Pc} (h : OwnR W C v n f) (hg : W.grownBy W' v.ownBlock) : KeepsFrom B W W' := by
  refine ⟨hg.size, fun k o _ hk ho => (hg.block k (Array.getElem?_eq_some_iff.1 hk).1 (fun e => ?_)).trans hk⟩
  rcases h.row.2 with ⟨rfl, _⟩ | ⟨g, cap, cur, rfl, _, hgc, _⟩
  · cases e
  · have e' : k = g := by simpa [Value.ownBlock] using e
    rw [← e', hk] at hgc
    cases hgc
    cases ho
theorem keeps_below {B : Nat} {W W' : World} (h : Below W.heap.size W W') : KeepsFrom B W W' := ⟨h.size, fun k _ _ hk _ => (h.block k (Array.getElem?_eq_some_iff.1 hk).1).trans hk⟩
theorem OwnR.set {w : World} {B : Nat} {v : Value} {n : Nat} {f : Nat → Pc} (h : OwnR w B v n f) {p : Addr} (hp : p.block < B) (u : Value) (hne : ∀ i, i < n → (f i).n = 0 ∨ ∀ x, (f i).a = some x → x.block ≠ p.block) : OwnR (w.setCell p u) B v n f :=
  ⟨ownsRow_setCell_below h.row hp u, fun i hi => ⟨(h.each i hi).bys.setCell u (hne i hi), (h.each i hi).nil, (h.each i hi).cap, (h.each i hi).max⟩, h.apart⟩

theorem grown_keep {w w' : World} {B : Nat} {v : Value} {n : Nat} {f : Nat → Pc} (ho : OwnR w B v n f) (hg : w.grownBy w' v.ownBlock) {q : Nat} (hq : q < B) (hlt : q < w.heap.size) : w'.heap[q]? = w.heap[q]? := by
  refine hg.block q hlt (fun e => ?_)
  have := (ho.row.lt q e.symm).1
  omega

/-- Between two rounds of All. -/
structure AlI (L : Lay) (R : Rk) (w : World) (b p : Nat) (B : Bn) (k : Int) (i : Nat) (X : World) : Prop where
  bel : Below w.heap.size w X
  c0 : X.cell? ⟨p, 0, none⟩ = some (.pointer (some ⟨b, 0, none⟩))
  c1 : X.cell? ⟨p + 1, 0, none⟩ = some (.int .i64 k)
  row : ∃ v f, X.cell? ⟨p + 2, 0, none⟩ = some v ∧ X.frozen? ⟨p + 2, 0, none⟩ = false ∧ OwnR X (p + 3) v (alL B k R i).length f ∧ RowsAre f (alL B k R i) ∧ ∀ j, j < (alL B k R i).length → (f j).n = 0 ∨ ∀ x, (f j).a = some x → p + 3 ≤ x.block
theorem AlI.aside {L : Lay} {R : Rk} {w : World} {b p : Nat} {B : Bn} {k : Int} {i : Nat} {X X' : World} {l : Nat} (h : AlI L R w b p B k i X) (ha : Aside l X X') (hl : w.heap.size ≤ l) : AlI L R w b p B k i X' := by
  obtain ⟨v, f, h1, h2, h3, h4, h5⟩ := h.row
  have ht := (Turn.of_below (M := fun _ => False) h.bel).aside ha hl
  exact ⟨ht.below (Nat.le_refl _) (fun _ x => x.elim), ha.cell h.c0, ha.cell h.c1, v, f, ha.cell h1, (ha.frozen h1).trans h2, h3.aside ha, h4, h5⟩

/-- Rows that a call answers. -/
def RetL (w0 : World) (ls : List (List Int)) (e : Ending) (w' : World) : Prop := ∃ v f, e = .returned v ∧ OwnR w' w0.heap.size v ls.length f ∧ RowsAre f ls ∧ Below w0.heap.size w0 w'
theorem OwnR.low {w : World} {B C : Nat} {v : Value} {n : Nat} {f : Nat → Pc} (h : OwnR w B v n f) (hC : C ≤ B) : OwnR w C v n f := by
  refine ⟨⟨h.row.1, ?_⟩, h.each, h.apart⟩
  rcases h.row.2 with h1 | ⟨g, cap, cur, e, hb, r⟩
  · exact .inl h1
  · exact .inr ⟨g, cap, cur, e, Nat.le_trans hC hb, r⟩

end Go.Proofs.YtciddoeeiamndaaGreat
