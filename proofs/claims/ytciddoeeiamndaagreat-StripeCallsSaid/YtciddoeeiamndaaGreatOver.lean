/-
  Ranging over a method value: the statement's law where nothing is fenced off, over an iterator that reads nothing that its rounds turn.
-/
import Derived.Test.YtciddoeeiamndaaGreatDva
import Derived.RangeFuncNested
import Derived.RangeFuncLeaves
import Derived.RangeFuncCalls
namespace Go.Proofs.YtciddoeeiamndaaGreat
open Go.RowKit Go.Maps

theorem turn_put (w : World) (l : Nat) (o : Obj) : Turn (· = l) w (w.putObj l o) := ⟨rfl, rfl, rfl, by simp, fun k _ hk => World.putObj_heap_other hk⟩
theorem turn_alloc (M : Nat → Prop) (w : World) (o : Obj) : Turn M w (w.alloc o) := Turn.of_below ((Below.refl _ w).alloc (Nat.le_refl _) o)

/-- Of what was there only block l has turned, and that held no cells. -/
structure Aside (l : Nat) (w w' : World) : Prop where
  turn : Turn (· = l) w w'
  no : ∀ cs t f, w.heap[l]? ≠ some (.cells cs t f)
theorem aside_put {w : World} {l : Nat} {o : Obj} (h : w.heap[l]? = some o) (ho : o.isCells = false) (o' : Obj) : Aside l w (w.putObj l o') :=
  ⟨turn_put w l o', fun cs t f e => by rw [h] at e; cases e; cases ho⟩
theorem aside_alloc {w : World} {l : Nat} (h : w.heap.size ≤ l) (o : Obj) : Aside l w (w.alloc o) := ⟨turn_alloc _ w o, fun cs t f e => by rw [Array.getElem?_eq_none h] at e; cases e⟩
theorem Aside.cell {l : Nat} {w w' : World} (h : Aside l w w') {a : Addr} {v : Value} (hc : w.cell? a = some v) : w'.cell? a = some v := by
  have hlt := World.block_lt_of_cell? w _ hc
  by_cases e : a.block = l
  · exfalso
    unfold World.cell? at hc
    cases ho : w.heap[a.block]? with
    | none => simp [ho] at hc
    | some o =>
      rw [ho] at hc
      rw [e] at ho
      cases o <;> first | exact h.no _ _ _ ho | simp at hc
  · exact (h.turn.cell hlt e).trans hc
theorem Aside.frozen {l : Nat} {w w' : World} (h : Aside l w w') {a : Addr} {v : Value} (hc : w.cell? a = some v) : w'.frozen? a = w.frozen? a := by
  have hlt := World.block_lt_of_cell? w _ hc
  by_cases e : a.block = l
  · exfalso
    unfold World.cell? at hc
    cases ho : w.heap[a.block]? with
    | none => simp [ho] at hc
    | some o =>
      rw [ho] at hc
      rw [e] at ho
      cases o <;> first | exact h.no _ _ _ ho | simp at hc
  · exact h.turn.frozen hlt e
theorem Aside.block {l : Nat} {w w' : World} (h : Aside l w w') {k : Nat} {cs : Array Value} {t : TypeId} {f : Nat × Nat} (hk : w.heap[k]? = some (.cells cs t f)) : w'.heap[k]? = some (.cells cs t f) :=
  (h.turn.block k (lt_of_block hk) (fun e => h.no _ _ _ (e ▸ hk))).trans hk

/-- How a round of the body ends. -/
def roundEnd (Kp : World → World → Prop) (I : World → Prop) (Ix : Code → World → Prop) (W : World) : Exit → Act → World → Prop
  | .normal, _, W' => Kp W W' ∧ I W'
  | .ret, _, W' => Kp W W' ∧ Ix .ret W'
  | .exit id, _, W' => Kp W W' ∧ Ix (.exit id) W'
  | _, _, _ => False
theorem keeps_of_turn {N : Nat → Prop} {B : Nat} {W W' : World} (h : Turn N W W') (hN : ∀ k, N k → k < B) : KeepsFrom B W W' :=
  ⟨h.size, fun k o hB hk _ => (h.block k (Array.getElem?_eq_some_iff.1 hk).1 (fun x => by have := hN k x; omega)).trans hk⟩

/-- What the iterator promises: the rounds at d 0, .., d (n - 1), in turn, as long as they say 'yes'. -/
def Rounds (gf : Nat) (args : Value → Array Value) (d : Nat → Int) (n : Nat) (B : World → Prop) : Prop :=
  ∀ (l : Nat) (J : Nat → World → Prop) (Jx : World → Prop) (W : World), (∀ i X, J i X → B X) →
    (∀ i X, i < n → J i X → YieldAt Fence.wide 1 Tryz.prog l #[.int .i64 (d i)] X fun e X' => (e = .returned (.bool true) ∧ J (i + 1) X') ∨ (e = .returned (.bool false) ∧ Jx X')) →
    J 0 W → CallsIn Fence.wide 2 Tryz.prog gf (args (.func (.yield l) #[] #[])) W fun e W' => (∃ v, e = .returned v) ∧ (J n W' ∨ Jx W')

theorem wp_over {Kp : World → World → Prop} {g : Operand} {ps : Array Tmp} {assign body : Code} {Q : Exit → Act → World → Prop} {a : Act} {w : World} {gf : Nat} {rv : Value} {d : Nat → Int} {n : Nat} {B : World → Prop}
    (hg : a.eval g = .func (.func gf) #[rv] #[]) (eg : ∀ args w, (callFunc gf args).run Tryz.prog w = .ok (.enter gf args) w) (hseq : Rounds gf (fun y => #[rv, y]) d n B) (hps : ps.size = 1)
    (I : Nat → World → Prop) (Ix : Code → World → Prop) (hB : ∀ i X, I i X → B X)
    (hI : ∀ i X X' l, w.heap.size ≤ l → Aside l X X' → I i X → I i X') (hIx : ∀ c X X' l, w.heap.size ≤ l → Aside l X X' → Ix c X → Ix c X')
    (hN : ∀ X X', Kp X X' → KeepsFrom w.heap.size X X') (h0 : I 0 w) (a₁ : Nat → Act)
    (hassign : ∀ (l i : Nat) (X : World) (K : Act → World → Prop), i < n → K (a₁ i) X →
      assign.wpIn (Fence.wide.inRound l) 1 Tryz.prog (Exit.then K (fun _ _ _ => False)) { tmps := (ps.zip #[.int .i64 (d i)]).foldl (fun t (p, v) => t.setIfInBounds p v) a.tmps, defers := [] } X)
    (hbody : ∀ (l i : Nat) (X : World), i < n → w.heap.size ≤ X.heap.size → I i X → body.wpIn (Fence.wide.inRound l) 1 Tryz.prog (roundEnd Kp (I (i + 1)) Ix X) (a₁ i) X)
    (hdone : ∀ (D : Nat) (X : World), w.heap.size ≤ D → I n X → X.heap[D]? = some (.deferred (some [])) → Q .normal { a with defers := { target := .collected D, args := #[] } :: a.defers } X)
    (hstop : ∀ (D : Nat) (c : Code) (X : World), w.heap.size ≤ D → Ix c X → X.heap[D]? = some (.deferred (some [])) → c.wpIn Fence.wide 3 Tryz.prog Q { a with defers := { target := .collected D, args := #[] } :: a.defers } X) :
    (Code.rangeFunc g ps assign body).wpIn Fence.wide 3 Tryz.prog Q a w := by
  refine wpIn_rangeFunc fun fn _ => ?_
  obtain ⟨rc, hrc⟩ : ∃ rc : LoopState → Option Code → Loop, rc = fun st pe => { state := st, pending := pe, fn := fn, tmps := a.tmps, params := ps, assign := assign, body := body, defers := w.heap.size } := ⟨_, rfl⟩
  obtain ⟨l, hl⟩ : ∃ l, l = w.heap.size + 1 := ⟨_, rfl⟩
  obtain ⟨W1, hW1⟩ : ∃ W1, W1 = (w.alloc (.deferred (some []))).alloc (.loop (rc .ready none)) := ⟨_, rfl⟩
  have sz : (w.alloc (.deferred (some []))).heap.size = w.heap.size + 1 := by simp
  have hL : W1.heap[l]? = some (.loop (rc .ready none)) := by
    rw [hW1, hl, ← sz]; exact World.alloc_heap_new _ _
  have hD : W1.heap[w.heap.size]? = some (.deferred (some [])) := by
    rw [hW1]; exact (Below.heap_alloc _ _ _ (by rw [sz]; omega)).trans (World.alloc_heap_new w _)
  have hI1 : I 0 W1 := by
    rw [hW1]
    exact hI 0 _ _ l (by omega) (aside_alloc (by rw [sz]; omega) _) (hI 0 _ _ l (by omega) (aside_alloc (by omega) _) h0)
  refine ⟨l, [{ target := .collected w.heap.size, args := #[] }], W1, { target := .fn (.func gf) #[], args := #[rv, .func (.yield l) #[] #[]] }, W1, gf, #[rv, .func (.yield l) #[] #[]], W1, ?_, ?_, fun _ _ => trivial, ?_, fun _ => by omega, ?_⟩
  · rw [hW1, hl, hrc]; exact run_enterLoop_outer _ _ _ _ _
  · simp only [resolve, hg]
    simp [go_sem]
  · simp [invoke, go_sem, eg]
  · refine (hseq l (fun i X => I i X ∧ X.heap[l]? = some (.loop (rc .ready none)) ∧ X.heap[w.heap.size]? = some (.deferred (some [])))
      (fun X => ∃ c, Ix c X ∧ X.heap[l]? = some (.loop (rc .done (some c))) ∧ X.heap[w.heap.size]? = some (.deferred (some []))) W1 (fun i X h => hB i X h.1) ?_ ⟨hI1, hL, hD⟩).mono ?_
    · rintro i X hi ⟨hx, hl1, hd1⟩
      have hy := run_yield (P := Tryz.prog) (args := #[.int .i64 (d i)]) hl1 (by rw [hrc]; exact hps.symm)
      rw [hrc] at hy
      refine ⟨fn, _, assign, body, hy, roundIn_of_wpIn trivial (hassign l i X _ hi ⟨_, run_beginRound hl1 (by rw [hrc]), ?_⟩)⟩
      obtain ⟨X2, hX2⟩ : ∃ X2, X2 = X.putObj l (.loop { rc .ready none with state := .busy }) := ⟨_, rfl⟩
      have hlt : l < X.heap.size := (Array.getElem?_eq_some_iff.1 hl1).1
      have hta : Aside l X X2 := by rw [hX2]; exact aside_put hl1 rfl _
      have ht := hta.turn
      have hl2 : X2.heap[l]? = some (.loop { rc .ready none with state := .busy }) := by rw [hX2]; exact World.putObj_heap_same hlt
      have hd2 : X2.heap[w.heap.size]? = some (.deferred (some [])) := (ht.block _ (by omega) (by omega)).trans hd1
      have h2 : I i X2 := hI i X X2 l (by omega) hta hx
      rw [← hX2]
      refine wpIn_mono (hbody l i X2 hi (by rw [hX2]; simp; omega) h2) ?_
      have fin : ∀ (jump : Option Code) (X3 : World), Kp X2 X3 → ∃ X4, (Instr.endRound l jump).run Tryz.prog X3 = .ok (.bool jump.isNone) X4 ∧ Aside l X3 X4 ∧
          X4.heap[l]? = some (.loop (rc (if jump.isNone then .ready else .done) jump)) ∧ X4.heap[w.heap.size]? = some (.deferred (some [])) := fun jump X3 h3 => by
        have e3 : X3.heap[l]? = some (.loop { rc .ready none with state := .busy }) := (hN _ _ h3).same _ _ (by omega) hl2 rfl
        have e4 : X3.heap[w.heap.size]? = some (.deferred (some [])) := (hN _ _ h3).same _ _ (Nat.le_refl _) hd2 rfl
        have hlt3 : l < X3.heap.size := (Array.getElem?_eq_some_iff.1 e3).1
        refine ⟨_, run_endRound (P := Tryz.prog) jump e3, aside_put e3 rfl _, ?_, (World.putObj_heap_other (by omega)).trans e4⟩
        rw [hrc]
        exact World.putObj_heap_same hlt3
      rintro e a3 X3 hp
      cases e with
      | normal =>
        obtain ⟨h3, hi3⟩ := hp
        obtain ⟨X4, hr, ht4, hl4, hd4⟩ := fin none X3 h3
        exact ⟨_, _, hr, .inl ⟨rfl, hI _ _ _ l (by omega) ht4 hi3, hl4, hd4⟩⟩
      | ret =>
        obtain ⟨h3, hi3⟩ := hp
        obtain ⟨X4, hr, ht4, hl4, hd4⟩ := fin (some .ret) X3 h3
        exact ⟨_, _, hr, .inr ⟨rfl, .ret, hIx _ _ _ l (by omega) ht4 hi3, hl4, hd4⟩⟩
      | exit id =>
        obtain ⟨h3, hi3⟩ := hp
        obtain ⟨X4, hr, ht4, hl4, hd4⟩ := fin (some (.exit id)) X3 h3
        exact ⟨_, _, hr, .inr ⟨rfl, .exit id, hIx _ _ _ l (by omega) ht4 hi3, hl4, hd4⟩⟩
      | goto t => exact hp.elim
      | panic ch => exact hp.elim
      | outgrown => exact hp.elim
    · rintro e W2 ⟨⟨v, rfl⟩, (⟨hi, hl2, hd2⟩ | ⟨c, hi, hl2, hd2⟩)⟩
      · refine ⟨none, _, by have := run_endLoop (P := Tryz.prog) hl2 (by rw [hrc]; simp); rw [hrc] at this; exact this, hdone _ _ (Nat.le_refl _) (hI _ _ _ l (by omega) (aside_put hl2 rfl _) hi) ((World.putObj_heap_other (by omega)).trans hd2)⟩
      · refine ⟨some c, _, by have := run_endLoop (P := Tryz.prog) hl2 (by rw [hrc]; simp); rw [hrc] at this; exact this, hstop _ c _ (Nat.le_refl _) (hIx _ _ _ l (by omega) (aside_put hl2 rfl _) hi) ((World.putObj_heap_other (by omega)).trans hd2)⟩

end Go.Proofs.YtciddoeeiamndaaGreat
