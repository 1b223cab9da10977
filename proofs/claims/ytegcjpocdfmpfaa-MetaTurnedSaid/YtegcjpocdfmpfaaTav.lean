/-
  Two slices of numbers that a statement makes side by side.
-/
import Derived.Test.YtegcjpocdfmpfaaTal
import Derived.Test.YtegcjpocdfmpfaaTac
import Derived.Test.YtegcjpocdfmpfaaTah
import Derived.Deep.AppendLies
import Derived.Test.YtegcjpocdfmpfaaTat
set_option linter.unusedVariables false
set_option linter.unusedSimpArgs false
set_option maxRecDepth 100000
set_option maxHeartbeats 16000000
namespace Go.Proofs.Ytegcjpocdfmpfaa
open Go.RowKit

/-- Numbers by their places. -/
def sq (f : Nat → Int) (i : Nat) : List Int := (List.range i).map f
theorem sq_len (f : Nat → Int) (i : Nat) : (sq f i).length = i := by simp [sq]
theorem sq_succ (f : Nat → Int) (i : Nat) : sq f (i + 1) = sq f i ++ [f i] := by simp [sq, List.range_succ]
theorem sq_num (f : Nat → Int) {i j : Nat} (h : j < i) : num (sq f i) j = f j := by simp [sq, num, List.getD, List.getElem?_range h]
theorem sq_any (f : Nat → Int) {i : Nat} {A : Int} (h : ∀ j, j < i → 1 ≤ f j ∧ f j ≤ A) : ((sq f i).any fun a => !isA A a) = false := by
  rw [List.any_eq_false]
  intro x hx
  obtain ⟨j, hj, rfl⟩ := List.mem_map.1 hx
  have := isA_iff.2 (h j (List.mem_range.1 hj))
  simp [this]

structure StH (w : World) (B g : Nat) (vA vD : Value) (ks : List Int) (ps : List Pc) : Prop where
  row : w.heap[g]? = some (.cells #[vA, vD] 43 (0, 0))
  oa : OwnI w B vA ks.length ks
  od : w.ownsRow B 50 1 vD ps.length (ps.map pcV)
  na : vA.ownBlock ≠ some g
  nd : vD.ownBlock ≠ some g
  ne : ∀ j, vA.ownBlock = some j → vD.ownBlock ≠ some j
section
variable {w w' : World} {B g : Nat} {vA vD : Value} {ks : List Int} {ps : List Pc}
theorem StH.next (h : StH w B g vA vD ks ps) (hb : Below w.heap.size w w') : StH w' B g vA vD ks ps :=
  ⟨(hb.block g (lt_of_block h.row)).trans h.row, h.oa.next hb, h.od.kept (row := none) ⟨hb.os, hb.tape, hb.output, hb.size, fun k hk _ => hb.block k hk⟩ (by cases vD.ownBlock <;> simp), h.na, h.nd, h.ne⟩
theorem StH.cells (h : StH w B g vA vD ks ps) : g < w.heap.size ∧ w.cell? ⟨g, 0, none⟩ = some vA ∧ w.cell? ⟨g, 1, none⟩ = some vD ∧ w.frozen? ⟨g, 0, none⟩ = false ∧ w.frozen? ⟨g, 1, none⟩ = false :=
  ⟨lt_of_block h.row, cell_of_row w g 0 _ _ (0, 0) h.row, cell_of_row w g 1 _ _ (0, 0) h.row, frozen_of_row w g 0 _ _ h.row, frozen_of_row w g 1 _ _ h.row⟩
theorem StH.addA (h : StH w B g vA vD ks ps) {v' : Value} {z : Int} (ho : w'.ownsRow B 3 1 v' (ks.length + 1) (ks.map (Value.int .i64) ++ [.int .i64 z])) (hg : w.grownBy w' vA.ownBlock) {g1 : Nat} (hv : v'.ownBlock = some g1) (h1 : vA.ownBlock = some g1 ∨ g1 = w.heap.size) :
    StH (w'.setCell ⟨g, 0, none⟩ v') B g v' vD (ks ++ [z]) ps := by
  have hgl := lt_of_block h.row
  have hr : w'.heap[g]? = some (.cells #[vA, vD] 43 (0, 0)) := (hg.block g hgl fun e => h.na e.symm).trans h.row
  have hn1 : v'.ownBlock ≠ some g := by
    rw [hv]
    intro e
    cases e
    rcases h1 with e | e
    · exact h.na e
    · omega
  have hne2 : ∀ j, v'.ownBlock = some j → vD.ownBlock ≠ some j := by
    intro j e e2
    rw [hv] at e
    cases e
    rcases h1 with e | e
    · exact h.ne _ e e2
    · have := (World.ownsRow.lt h.od _ e2).2
      omega
  refine ⟨?_, ?_, ?_, hn1, h.nd, hne2⟩
  · rw [heap_setCell_same w' g 0 _ _ _ hr]; rfl
  · have ho2 : OwnI w' B v' (ks ++ [z]).length (ks ++ [z]) := by
      unfold OwnI
      rw [List.map_append, List.length_append]
      exact ho
    exact ho2.turn (M := (· = g)) (Turn.setCell (M := fun j => j = _) w' (a := ⟨_, 0, none⟩) rfl _) fun j e hj => hn1 (by rw [← hj]; exact e)
  · exact ownsRow_setCell_other (h.od.kept hg (by
      rcases hd : vD.ownBlock with _ | k
      · exact .inl rfl
      · exact .inr fun e => h.ne k e.symm hd)) (by exact h.nd) _
theorem StH.addD (h : StH w B g vA vD ks ps) {v' : Value} {p : Pc} (ho : w'.ownsRow B 50 1 v' (ps.length + 1) (ps.map pcV ++ [pcV p])) (hg : w.grownBy w' vD.ownBlock) {g1 : Nat} (hv : v'.ownBlock = some g1) (h1 : vD.ownBlock = some g1 ∨ g1 = w.heap.size) :
    StH (w'.setCell ⟨g, 1, none⟩ v') B g vA v' ks (ps ++ [p]) := by
  have hgl := lt_of_block h.row
  have hr : w'.heap[g]? = some (.cells #[vA, vD] 43 (0, 0)) := (hg.block g hgl fun e => h.nd e.symm).trans h.row
  have hn1 : v'.ownBlock ≠ some g := by
    rw [hv]
    intro e
    cases e
    rcases h1 with e | e
    · exact h.nd e
    · omega
  have hne2 : ∀ j, vA.ownBlock = some j → v'.ownBlock ≠ some j := by
    intro j e e2
    rw [hv] at e2
    cases e2
    rcases h1 with e3 | e3
    · exact h.ne _ e e3
    · have := (World.ownsRow.lt h.oa _ e).2
      omega
  refine ⟨?_, ?_, ?_, h.na, hn1, hne2⟩
  · rw [heap_setCell_same w' g 1 _ _ _ hr]; rfl
  · exact (h.oa.turn (Turn.of_grown (M := fun j => vD.ownBlock = some j) hg (fun b e => e)) fun j e e2 => h.ne j e e2).turn (M := (· = g)) (Turn.setCell (M := fun j => j = _) w' (a := ⟨_, 1, none⟩) rfl _) fun j e hj => h.na (by rw [← hj]; exact e)
  · refine ownsRow_setCell_other ?_ (by exact hn1) _
    rw [List.map_append, List.length_append]
    exact ho
/-- What is filled is a store. -/
theorem StH.sto (h : StH w B g vA vD ks ps) (he : ∀ p, p ∈ ps → Pin w p.a p.n p.c p.zs ∧ p.n ≤ 1000000000000) (hl : ks.length = ps.length) (hm : ks.length ≤ 1000000) :
    ∃ A cA Dt cD, Sto w g A ks.length cA Dt ps.length cD ks (fun i => ps.getD i default) := by
  obtain ⟨a, c, rfl, hi, _⟩ := h.oa.ins
  obtain ⟨h1, h2, h3, _⟩ := h.cells
  have hget : ∀ i, i < ps.length → ps.getD i default ∈ ps := fun i hi => by
    rw [show ps.getD i default = ps[i] by simp [List.getD, hi]]; exact List.getElem_mem hi
  rcases h.od.2 with ⟨rfl, h0⟩ | ⟨b, cap, cur, rfl, hb, hg, hnc, hmx, hsz, htake⟩
  · refine ⟨a, c, none, 0, h1, h2, ?_, hi, ⟨.inl h0, fun i hi => (he _ (hget i hi)).1⟩, by omega, hm, fun i hi => (he _ (hget i (by omega))).2⟩
    rw [h3, h0]
  · refine ⟨a, c, some ⟨b, 0, none⟩, cap, h1, h2, h3, hi, ⟨.inr ⟨b, 0, rfl, lt_of_block hg, fun i hi => ?_⟩, fun i hi => (he _ (hget i hi)).1⟩, by omega, hm, fun i hi => (he _ (hget i (by omega))).2⟩
    have := h.od.cellAt i (by omega)
    rw [Nat.zero_add, this]
    simp [List.getElem?_map, List.getElem?_eq_getElem hi, List.getD, hi]
theorem StH.far (h : StH w B g vA vD ks ps) {wx : World} (hb : Below w.heap.size w wx) {row : Option Nat} (hg : wx.grownBy w' row) (hr : row ≠ some g) :
    g < w'.heap.size ∧ w'.cell? ⟨g, 0, none⟩ = some vA ∧ w'.cell? ⟨g, 1, none⟩ = some vD ∧ w'.frozen? ⟨g, 0, none⟩ = false ∧ w'.frozen? ⟨g, 1, none⟩ = false := by
  have h2 := h.next hb
  have hr : w'.heap[g]? = _ := (hg.block g (lt_of_block h2.row) fun e => hr e.symm).trans h2.row
  exact ⟨lt_of_block hr, cell_of_row _ _ 0 _ _ (0, 0) hr, cell_of_row _ _ 1 _ _ (0, 0) hr, frozen_of_row _ _ 0 _ _ hr, frozen_of_row _ _ 1 _ _ hr⟩
abbrev Tg2 (g B : Nat) (j : Nat) : Prop := j = g ∨ B ≤ j
theorem StH.putA (h : StH w B g vA vD ks ps) {w0 wx : World} (ht : Turn (Tg2 g B) w0 w) (hB : B ≤ w.heap.size) (hx : Below w.heap.size w wx) {z : Int} {n cap g1 H : Nat} (hn : ks.length = n) (ho : w'.ownsRow B 3 1 (.slice (some ⟨g1, 0, none⟩) (n + 1) cap) (n + 1) (ks.map (Value.int .i64) ++ [.int .i64 z])) (hg : wx.grownBy w' vA.ownBlock) (h1 : vA.ownBlock = some g1 ∨ g1 = H) (hH : wx.heap.size = H) :
    StH (w'.setCell ⟨g, 0, none⟩ (.slice (some ⟨g1, 0, none⟩) (n + 1) cap)) B g (.slice (some ⟨g1, 0, none⟩) (n + 1) cap) vD (ks ++ [z]) ps ∧ Turn (Tg2 g B) w0 (w'.setCell ⟨g, 0, none⟩ (.slice (some ⟨g1, 0, none⟩) (n + 1) cap)) := by
  have h2 := h.next hx
  have ht2 : Turn (Tg2 g B) w0 wx := ht.trans (Turn.of_below hx)
  refine ⟨h2.addA (by rw [hn]; exact ho) hg rfl (by rw [hH]; exact h1), (ht2.trans (Turn.of_grown hg fun b e => .inr (World.ownsRow.lt h2.oa b e).1)).trans (Turn.setCell w' (a := ⟨g, 0, none⟩) (.inl rfl) _)⟩
theorem StH.putD (h : StH w B g vA vD ks ps) {w0 wx : World} (ht : Turn (Tg2 g B) w0 w) (hB : B ≤ w.heap.size) (hx : Below w.heap.size w wx) {p : Pc} {n cap g1 H : Nat} (hn : ps.length = n) (ho : w'.ownsRow B 50 1 (.slice (some ⟨g1, 0, none⟩) (n + 1) cap) (n + 1) (ps.map pcV ++ [pcV p])) (hg : wx.grownBy w' vD.ownBlock) (h1 : vD.ownBlock = some g1 ∨ g1 = H) (hH : wx.heap.size = H) :
    StH (w'.setCell ⟨g, 1, none⟩ (.slice (some ⟨g1, 0, none⟩) (n + 1) cap)) B g vA (.slice (some ⟨g1, 0, none⟩) (n + 1) cap) ks (ps ++ [p]) ∧ Turn (Tg2 g B) w0 (w'.setCell ⟨g, 1, none⟩ (.slice (some ⟨g1, 0, none⟩) (n + 1) cap)) := by
  have h2 := h.next hx
  have ht2 : Turn (Tg2 g B) w0 wx := ht.trans (Turn.of_below hx)
  refine ⟨h2.addD (by rw [hn]; exact ho) hg rfl (by rw [hH]; exact h1), (ht2.trans (Turn.of_grown hg fun b e => .inr (World.ownsRow.lt h2.od b e).1)).trans (Turn.setCell w' (a := ⟨g, 1, none⟩) (.inl rfl) _)⟩
/-- Blocks don't lie in a store's own cells. -/
theorem bls_far {a : Option Addr} {gs : List Bl} (h : BlsAt w a gs) (hr : w.heap[g]? = some (.cells #[.slice none 0 0, .slice none 0 0] 43 (0, 0))) (hz : ∀ x, x ∈ gs → 0 < x.n) :
    gs.length = 0 ∨ ∃ b off, a = some ⟨b, off, none⟩ ∧ b < w.heap.size ∧ b ≠ g ∧ ∀ i (hi : i < gs.length), BlIn w b (off + i * 3) gs[i] ∧ ∀ y, gs[i].a = some y → y.block ≠ g ∧ y.block < w.heap.size := by
  have hcell : ∀ o (k : IntKind) (z : Int), w.cell? ⟨g, o, none⟩ ≠ some (.int k z) := by
    intro o k z e
    rw [cell_of_row w g o _ _ (0, 0) hr] at e
    match o, e with
    | 0, e => cases e
    | 1, e => cases e
    | n + 2, e => simp at e
  rcases h with h0 | ⟨b, off, e, hlt, hc⟩
  · exact .inl h0
  by_cases h0 : gs.length = 0
  · exact .inl h0
  refine .inr ⟨b, off, e, hlt, fun eb => ?_, fun i hi => ⟨hc i hi, fun y ey => ?_⟩⟩
  · subst eb
    exact hcell _ _ _ (hc 0 (by omega)).c0
  · have hp := (hc i hi).pin
    have hn := hz _ (List.getElem_mem hi)
    rcases hp.bys.place with e0 | ⟨b2, o2, e2, hl2, hcs⟩
    · omega
    · rw [ey] at e2
      cases e2
      refine ⟨fun eb => ?_, hl2⟩
      have := hcs 0 hn
      simp only at eb
      subst eb
      exact hcell _ _ _ this
/-- 'append(s, x)' of one number, s of the call's own: what else is as it was. -/
theorem wpList_apG {ops : Array Oper} {rest : List Oper} {o : Oper} {a : Act} {Q : Exit → Act → World → Prop} (hgd : o.guard = none) (s x : Operand)
    (ho : o.op = .call { callee := .builtin .append, args := #[s, x], argTypes := #[25, 25] })
    (B : Nat) (v : Value) (n : Nat) (ks : List Int) (hs : a.eval s = v) (hown : OwnI w B v n ks) (g : Nat) (z : Int) (hx : a.eval x = .slice (some ⟨g, 0, none⟩) 1 1) (hg : w.cell? ⟨g, 0, none⟩ = some (.int .i64 z))
    (hn : n + 1 ≤ 1000000000000) (hB : B ≤ w.heap.size) (w0 : World) (hb : Below B w0 w)
    (h : ∀ v' w', OwnI w' B v' (n + 1) (ks ++ [z]) → w.grownBy w' v.ownBlock → (∀ j, v'.ownBlock = some j → v.ownBlock = some j ∨ j = w.heap.size) → Below B w0 w' → wpList Try.prog ops Q rest (a.put o.dst v') w') : wpList Try.prog ops Q (o :: rest) a w := by
  obtain ⟨i0, hi, hz0, hz1, hz2⟩ := info_parts info3
  refine wpList_append_lies w hgd s x 25 ho B 3 i0 (.int .i64 0) 1 8 Try.underlying25 hi hz0 hz1 hz2 rfl (by decide) v n _ hs hown ⟨g, 0, none⟩ 1 1 [.int .i64 z] hx rfl ?_ ?_ (by decide) (by unfold maxLen; omega) (by omega) hB w.heap.size rfl ?_
  · intro j u hj
    cases j with
    | zero =>
      simp at hj
      subst hj
      exact hg
    | succ j => simp at hj
  · intro u hu
    rw [List.mem_singleton.1 hu]
    rfl
  · intro g1 cap w' hown' hgrow hat hlt
    refine h _ w' (by unfold OwnI; rw [List.map_append]; exact hown') hgrow (fun j e => ?_) (hb.grown hgrow hB fun k hk => (World.ownsRow.lt hown k hk).1)
    have e3 : g1 = j := by simpa [Value.ownBlock] using e
    subst e3
    exact hat
theorem first_of {m : Nat} {p : Nat → Prop} (h : ∃ i, i < m ∧ p i) : ∃ i, i < m ∧ p i ∧ ∀ k, k < i → ¬ p k := by
  induction m with
  | zero => obtain ⟨i, hi, _⟩ := h; omega
  | succ m ih =>
    by_cases e : ∃ i, i < m ∧ p i
    · obtain ⟨i, h1, h2, h3⟩ := ih e
      exact ⟨i, by omega, h2, h3⟩
    · obtain ⟨i, h1, h2⟩ := h
      have : i = m := by
        rcases Nat.lt_or_ge i m with h | h
        · exact (e ⟨i, h, h2⟩).elim
        · omega
      subst this
      exact ⟨i, h1, h2, fun k hk hp => e ⟨k, hk, hp⟩⟩
theorem blk_ix {ix : List Nat} {at' : Nat → Int} {P : Nat → Pc} (hinj : ∀ a, a ∈ ix → ∀ b, b ∈ ix → at' a = at' b → a = b) {j : Nat} (hj : j ∈ ix) :
    blkF (ix.map at') (fun i => (ix.map P).getD i default) (at' j) = some (P j).zs := by
  have hnum : ∀ i (hi : i < ix.length), num (ix.map at') i = at' ix[i] := fun i hi => by simp [num, List.getD, hi]
  obtain ⟨i, h1, h2, h3⟩ := first_of (m := ix.length) (p := fun i => num (ix.map at') i = at' j) (by
    obtain ⟨i, hi, e⟩ := List.getElem_of_mem hj
    exact ⟨i, hi, by rw [hnum i hi, e]⟩)
  rw [blkF_at (i := i) (by simpa using h1) h2 h3]
  rw [hnum i h1] at h2
  have := hinj _ (List.getElem_mem h1) _ hj h2
  simp [List.getD, h1, this]
end
theorem dB_z (n : Nd) (k : Nat) : ∀ x ∈ dB n k, x.z.length = 56 := by
  induction k with
  | zero => intro x hx; cases hx
  | succ k ih =>
    intro x hx
    rw [dB, List.mem_append] at hx
    rcases hx with hx | hx
    · exact ih x hx
    · split at hx
      · rw [List.mem_singleton.1 hx]; exact ppL_len (by rw [prt, tb_len]; omega)
      · cases hx
theorem ndB_z (at' : Nat → Int) (n : Nd) (m : Nat) : ∀ x ∈ ndB at' n m, x.z.length = 56 := by
  intro x hx
  rw [ndB, bod, List.mem_append, List.mem_append, List.mem_append] at hx
  rcases hx with ((hx | hx) | hx) | hx
  · rw [sB] at hx
    split at hx
    · rw [List.mem_singleton.1 hx]; exact ppL_len (by rw [prt, tb_len]; omega)
    · cases hx
  · exact dB_z n 28 x hx
  · rw [dL] at hx
    split at hx
    · rw [List.mem_singleton.1 hx]; exact ppL_len (by rw [dP, tb_len]; omega)
    · cases hx
  · rw [List.mem_singleton.1 hx]; exact recB_len _
theorem lB_z (at' : Nat → Int) (f : Nat → Nd) (n : Nat) : ∀ x ∈ lB at' f n, x.z.length = 56 := by
  induction n with
  | zero => intro x hx; cases hx
  | succ n ih =>
    intro x hx
    rw [lB, List.mem_append] at hx
    rcases hx with hx | hx
    · exact ih x hx
    · exact ndB_z _ _ _ x hx
theorem layB_z (at' : Nat → Int) (f : Nat → Nd) (n : Nat) : ∀ x ∈ layB at' f n, x.z.length = 56 := by
  intro x hx
  rw [layB, List.mem_append] at hx
  rcases hx with hx | hx
  · exact lB_z at' f n x hx
  · simp only [List.mem_cons, List.not_mem_nil, or_false] at hx
    rcases hx with rfl | rfl | rfl
    · exact ppL_len (by rw [tb_len]; omega)
    · exact ppL_len (by rw [tb_len]; omega)
    · exact rtB_len _ _
end Go.Proofs.Ytegcjpocdfmpfaa
