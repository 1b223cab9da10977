/-
  Ranging over a closure that hands out two values, with rounds that are passed over.
-/
import Derived.Test.YtdgjhfghggcfaaaRet
import Derived.RangeFuncNested
import Derived.RangeFuncLeaves
import Derived.RangeFuncCalls
namespace Go.Proofs.Ytdgjhfghggcfaaa
open Go.RowKit Go.Maps

theorem turn_put (w : World) (l : Nat) (o : Obj) : Turn (· = l) w (w.putObj l o) := ⟨rfl, rfl, rfl, by simp, fun k _ hk => World.putObj_heap_other hk⟩
theorem turn_alloc (M : Nat → Prop) (w : World) (o : Obj) : Turn M w (w.alloc o) := Turn.of_below ((Below.refl _ w).alloc (Nat.le_refl _) o)

/-- Of what was there only block l has turned, and that held no cells. -/
structure Aside (l : Nat) (w w' : World) : Prop where
  turn : Turn (· = l) w w'
  no : ∀ cs t f, w.heap[l]? ≠ some (.cells cs t f)
theorem aside_put {w : World} {l : Nat} {o : Obj} (h : w.heap[l]? = some o) (ho : o.isCells = false) (o' : Obj) : Aside l w (w.putObj l o') :=
  ⟨turn_put w l o', fun cs t f e => by rw [h] at e; cases e; cases ho⟩
theorem aside_alloc {w : World} {l : Nat} (h : w.heap.size ≤ l) (o : Obj) : Aside l w (w.alloc o) := ⟨turn_alloc _ w o, fun cs t f e => by rw [Array.getElem?_eq_none h] at e; cases e⟩
theorem Aside.cell {l : Nat} {w w' : World} (h : Aside l w w') {a : Addr} {v : Value} (hc : w.cell? a = some v) : w'.cell? a = some v := by
  have hlt := World.block_lt_of_cell? w _ hc
  by_cases e : a.block = l
  · exfalso
    unfold World.cell? at hc
    cases ho : w.heap[a.block]? with
    | none => simp [ho] at hc
    | some o =>
      rw [ho] at hc
      rw [e] at ho
      cases o <;> first | exact h.no _ _ _ ho | simp at hc
  · exact (h.turn.cell hlt e).trans hc
theorem Aside.frozen {l : Nat} {w w' : World} (h : Aside l w w') {a : Addr} {v : Value} (hc : w.cell? a = some v) : w'.frozen? a = w.frozen? a := by
  have hlt := World.block_lt_of_cell? w _ hc
  by_cases e : a.block = l
  · exfalso
    unfold World.cell? at hc
    cases ho : w.heap[a.block]? with
    | none => simp [ho] at hc
    | some o =>
      rw [ho] at hc
      rw [e] at ho
      cases o <;> first | exact h.no _ _ _ ho | simp at hc
  · exact h.turn.frozen hlt e
theorem Aside.block {l : Nat} {w w' : World} (h : Aside l w w') {k : Nat} {cs : Array Value} {t : TypeId} {f : Nat × Nat} (hk : w.heap[k]? = some (.cells cs t f)) : w'.heap[k]? = some (.cells cs t f) :=
  (h.turn.block k (lt_of_block hk) (fun e => h.no _ _ _ (e ▸ hk))).trans hk

/-- How a round of the body ends. -/
def roundEnd (Kp : World → World → Prop) (I : World → Prop) (Ix : Code → World → Prop) (W : World) : Exit → Act → World → Prop
  | .normal, _, W' => Kp W W' ∧ I W'
  | .ret, _, W' => Kp W W' ∧ Ix .ret W'
  | .exit id, _, W' => Kp W W' ∧ Ix (.exit id) W'
  | _, _, _ => False
theorem keeps_of_turn {N : Nat → Prop} {B : Nat} {W W' : World} (h : Turn N W W') (hN : ∀ k, N k → k < B) : KeepsFrom B W W' :=
  ⟨h.size, fun k o hB hk _ => (h.block k (Array.getElem?_eq_some_iff.1 hk).1 (fun x => by have := hN k x; omega)).trans hk⟩

/-- What only speaks of cells that are there, and of blocks ahead of C. -/
structure Abides (C : Nat) (p : World → Prop) : Prop where
  below : ∀ X X', p X → Below X.heap.size X X' → p X'
  aside : ∀ l X X', C ≤ l → p X → Aside l X X' → p X'
theorem Abides.mono {C C' : Nat} {p : World → Prop} (h : Abides C p) (hC : C ≤ C') : Abides C' p := ⟨h.below, fun l X X' hl => h.aside l X X' (Nat.le_trans hC hl)⟩
theorem Abides.and {C : Nat} {p q : World → Prop} (h : Abides C p) (k : Abides C q) : Abides C (fun X => p X ∧ q X) :=
  ⟨fun X X' hp hb => ⟨h.below X X' hp.1 hb, k.below X X' hp.2 hb⟩, fun l X X' hl hp ha => ⟨h.aside l X X' hl hp.1 ha, k.aside l X X' hl hp.2 ha⟩⟩
theorem Abides.pure (C : Nat) (p : Prop) : Abides C (fun _ => p) := ⟨fun _ _ h _ => h, fun _ _ _ _ h _ => h⟩
theorem Abides.ex {α : Type} {C : Nat} {p : α → World → Prop} (h : ∀ x, Abides C (p x)) : Abides C (fun X => ∃ x, p x X) :=
  ⟨fun X X' ⟨x, hx⟩ hb => ⟨x, (h x).below X X' hx hb⟩, fun l X X' hl ⟨x, hx⟩ ha => ⟨x, (h x).aside l X X' hl hx ha⟩⟩
theorem Abides.heap {C : Nat} {k : Nat} {o : Obj} (hk : k < C) : Abides C (fun X => X.heap[k]? = some o) :=
  ⟨fun X X' h hb => (hb.block k (Array.getElem?_eq_some_iff.1 h).1).trans h, fun l X X' hl h ha => (ha.turn.block k (Array.getElem?_eq_some_iff.1 h).1 (by omega)).trans h⟩

/-- What a closure that hands out values promises: the rounds i < n that are not passed over, in turn, each at a value as D says, as long as they say 'yes'. -/
def Rounds3 (gf : Nat) (lb : Array Value) (n : Nat) (sk : Nat → Bool) (D : Nat → Value → Value → World → Prop) (B : Nat → World → Prop) : Prop :=
  ∀ (l : Nat) (J : Nat → World → Prop) (Jx : World → Prop) (W : World), l < W.heap.size → (∀ i, Abides W.heap.size (J i)) → Abides W.heap.size Jx → (∀ i X, J i X → B i X) →
    (∀ i X, i < n → sk i = true → J i X → J (i + 1) X) →
    (∀ i u v X, i < n → sk i = false → J i X → D i u v X → YieldAt Fence.wide 1 Try.prog l #[u, v] X fun e X' => (e = .returned (.bool true) ∧ J (i + 1) X') ∨ (e = .returned (.bool false) ∧ Jx X')) →
    J 0 W → CallsIn Fence.wide 2 Try.prog gf (#[.func (.yield l) #[] #[]] ++ lb) W fun e W' => (∃ v, e = .returned v) ∧ (J n W' ∨ Jx W')

theorem wp_over3 {Kp : World → World → Prop} {g : Operand} {ps : Array Tmp} {assign body : Code} {Q : Exit → Act → World → Prop} {a : Act} {w : World} {gf : Nat} {lb : Array Value} {n : Nat} {sk : Nat → Bool} {D : Nat → Value → Value → World → Prop} {B : Nat → World → Prop}
    (hg : a.eval g = .func (.func gf) #[] lb) (eg : ∀ args w, (callFunc gf args).run Try.prog w = .ok (.enter gf args) w) (hseq : Rounds3 gf lb n sk D B) (hps : ps.size = 2)
    (I : Nat → World → Prop) (Ix : Code → World → Prop) (Ax : Nat → Act → World → Prop) (hB : ∀ i X, I i X → B i X)
    (hI : ∀ i, Abides w.heap.size (I i)) (hIx : ∀ c, Abides w.heap.size (Ix c)) (hAx : ∀ i a', Abides w.heap.size (Ax i a'))
    (hN : ∀ X X', Kp X X' → KeepsFrom w.heap.size X X') (h0 : I 0 w)
    (hassign : ∀ (l i : Nat) (u v : Value) (X : World) (K : Act → World → Prop), i < n → w.heap.size ≤ X.heap.size → I i X → D i u v X → (∀ a' X', Below X.heap.size X X' → Ax i a' X' → K a' X') →
      assign.wpIn (Fence.wide.inRound l) 1 Try.prog (Exit.then K (fun _ _ _ => False)) { tmps := (ps.zip #[u, v]).foldl (fun t (p, v) => t.setIfInBounds p v) a.tmps, defers := [] } X)
    (hskip : ∀ i X, i < n → sk i = true → I i X → I (i + 1) X)
    (hbody : ∀ (l i : Nat) (a' : Act) (X : World), i < n → sk i = false → w.heap.size ≤ X.heap.size → I i X → Ax i a' X → body.wpIn (Fence.wide.inRound l) 1 Try.prog (roundEnd Kp (I (i + 1)) Ix X) a' X)
    (hdone : ∀ (D : Nat) (X : World), w.heap.size ≤ D → I n X → X.heap[D]? = some (.deferred (some [])) → Q .normal { a with defers := { target := .collected D, args := #[] } :: a.defers } X)
    (hstop : ∀ (D : Nat) (c : Code) (X : World), w.heap.size ≤ D → Ix c X → X.heap[D]? = some (.deferred (some [])) → c.wpIn Fence.wide 3 Try.prog Q { a with defers := { target := .collected D, args := #[] } :: a.defers } X) :
    (Code.rangeFunc g ps assign body).wpIn Fence.wide 3 Try.prog Q a w := by
  refine wpIn_rangeFunc fun fn _ => ?_
  obtain ⟨rc, hrc⟩ : ∃ rc : LoopState → Option Code → Loop, rc = fun st pe => { state := st, pending := pe, fn := fn, tmps := a.tmps, params := ps, assign := assign, body := body, defers := w.heap.size } := ⟨_, rfl⟩
  obtain ⟨l, hl⟩ : ∃ l, l = w.heap.size + 1 := ⟨_, rfl⟩
  obtain ⟨W1, hW1⟩ : ∃ W1, W1 = (w.alloc (.deferred (some []))).alloc (.loop (rc .ready none)) := ⟨_, rfl⟩
  have sz : (w.alloc (.deferred (some []))).heap.size = w.heap.size + 1 := by simp
  have hL : W1.heap[l]? = some (.loop (rc .ready none)) := by
    rw [hW1, hl, ← sz]; exact World.alloc_heap_new _ _
  have hD : W1.heap[w.heap.size]? = some (.deferred (some [])) := by
    rw [hW1]; exact (Below.heap_alloc _ _ _ (by rw [sz]; omega)).trans (World.alloc_heap_new w _)
  have hb1 : Below w.heap.size w W1 := by rw [hW1]; exact ((Below.refl _ w).alloc (Nat.le_refl _) _).alloc (by rw [sz]; omega) _
  have hI1 : I 0 W1 := (hI 0).below _ _ h0 hb1
  have hs1 : W1.heap.size = w.heap.size + 2 := by rw [hW1]; simp
  refine ⟨l, [{ target := .collected w.heap.size, args := #[] }], W1, { target := .fn (.func gf) lb, args := #[.func (.yield l) #[] #[]] }, W1, gf, #[.func (.yield l) #[] #[]] ++ lb, W1, ?_, ?_, fun _ _ => trivial, ?_, fun _ => by omega, ?_⟩
  · rw [hW1, hl, hrc]; exact run_enterLoop_outer _ _ _ _ _
  · simp only [resolve, hg]
    simp [go_sem]
  · simp [invoke, go_sem, eg]
  · refine (hseq l (fun i X => I i X ∧ X.heap[l]? = some (.loop (rc .ready none)) ∧ X.heap[w.heap.size]? = some (.deferred (some [])))
      (fun X => ∃ c, Ix c X ∧ X.heap[l]? = some (.loop (rc .done (some c))) ∧ X.heap[w.heap.size]? = some (.deferred (some []))) W1 (by omega)
      (fun i => ((hI i).mono (by omega)).and ((Abides.heap (by omega)).and (Abides.heap (by omega))))
      (Abides.ex fun c => ((hIx c).mono (by omega)).and ((Abides.heap (by omega)).and (Abides.heap (by omega))))
      (fun i X h => hB i X h.1) (fun i X hi hk h => ⟨hskip i X hi hk h.1, h.2⟩) ?_ ⟨hI1, hL, hD⟩).mono ?_
    · rintro i u v X hi hsk ⟨hx, hl1, hd1⟩ hDv
      have hlt : l < X.heap.size := (Array.getElem?_eq_some_iff.1 hl1).1
      have hy := run_yield (P := Try.prog) (args := #[u, v]) hl1 (by rw [hrc]; exact hps.symm)
      rw [hrc] at hy
      refine ⟨fn, _, assign, body, hy, roundIn_of_wpIn trivial (hassign l i u v X _ hi (by omega) hx hDv fun a' Xa hba hax => ?_)⟩
      have hl1a : Xa.heap[l]? = some (.loop (rc .ready none)) := (hba.block l hlt).trans hl1
      have hd1a : Xa.heap[w.heap.size]? = some (.deferred (some [])) := (hba.block _ (by omega)).trans hd1
      have hxa := (hI i).below _ _ hx hba
      have hlta : l < Xa.heap.size := (Array.getElem?_eq_some_iff.1 hl1a).1
      refine ⟨_, run_beginRound hl1a (by rw [hrc]), ?_⟩
      obtain ⟨X2, hX2⟩ : ∃ X2, X2 = Xa.putObj l (.loop { rc .ready none with state := .busy }) := ⟨_, rfl⟩
      have hta : Aside l Xa X2 := by rw [hX2]; exact aside_put hl1a rfl _
      have ht := hta.turn
      have hl2 : X2.heap[l]? = some (.loop { rc .ready none with state := .busy }) := by rw [hX2]; exact World.putObj_heap_same hlta
      have hd2 : X2.heap[w.heap.size]? = some (.deferred (some [])) := (ht.block _ (by omega) (by omega)).trans hd1a
      have h2 : I i X2 := (hI i).aside l _ _ (by omega) hxa hta
      have h2a : Ax i a' X2 := (hAx i a').aside l _ _ (by omega) hax hta
      rw [← hX2]
      refine wpIn_mono (hbody l i a' X2 hi hsk (by rw [hX2]; simp; omega) h2 h2a) ?_
      have fin : ∀ (jump : Option Code) (X3 : World), Kp X2 X3 → ∃ X4, (Instr.endRound l jump).run Try.prog X3 = .ok (.bool jump.isNone) X4 ∧ Aside l X3 X4 ∧
          X4.heap[l]? = some (.loop (rc (if jump.isNone then .ready else .done) jump)) ∧ X4.heap[w.heap.size]? = some (.deferred (some [])) := fun jump X3 h3 => by
        have e3 : X3.heap[l]? = some (.loop { rc .ready none with state := .busy }) := (hN _ _ h3).same _ _ (by omega) hl2 rfl
        have e4 : X3.heap[w.heap.size]? = some (.deferred (some [])) := (hN _ _ h3).same _ _ (Nat.le_refl _) hd2 rfl
        have hlt3 : l < X3.heap.size := (Array.getElem?_eq_some_iff.1 e3).1
        refine ⟨_, run_endRound (P := Try.prog) jump e3, aside_put e3 rfl _, ?_, (World.putObj_heap_other (by omega)).trans e4⟩
        rw [hrc]
        exact World.putObj_heap_same hlt3
      rintro e a3 X3 hp
      cases e with
      | normal =>
        obtain ⟨h3, hi3⟩ := hp
        obtain ⟨X4, hr, ht4, hl4, hd4⟩ := fin none X3 h3
        exact ⟨_, _, hr, .inl ⟨rfl, (hI _).aside l _ _ (by omega) hi3 ht4, hl4, hd4⟩⟩
      | ret =>
        obtain ⟨h3, hi3⟩ := hp
        obtain ⟨X4, hr, ht4, hl4, hd4⟩ := fin (some .ret) X3 h3
        exact ⟨_, _, hr, .inr ⟨rfl, .ret, (hIx _).aside l _ _ (by omega) hi3 ht4, hl4, hd4⟩⟩
      | exit id =>
        obtain ⟨h3, hi3⟩ := hp
        obtain ⟨X4, hr, ht4, hl4, hd4⟩ := fin (some (.exit id)) X3 h3
        exact ⟨_, _, hr, .inr ⟨rfl, .exit id, (hIx _).aside l _ _ (by omega) hi3 ht4, hl4, hd4⟩⟩
      | goto t => exact hp.elim
      | panic ch => exact hp.elim
      | outgrown => exact hp.elim
    · rintro e W2 ⟨⟨v, rfl⟩, (⟨hi, hl2, hd2⟩ | ⟨c, hi, hl2, hd2⟩)⟩
      · refine ⟨none, _, by have := run_endLoop (P := Try.prog) hl2 (by rw [hrc]; simp); rw [hrc] at this; exact this, hdone _ _ (Nat.le_refl _) ((hI _).aside l _ _ (by omega) hi (aside_put hl2 rfl _)) ((World.putObj_heap_other (by omega)).trans hd2)⟩
      · refine ⟨some c, _, by have := run_endLoop (P := Try.prog) hl2 (by rw [hrc]; simp); rw [hrc] at this; exact this, hstop _ c _ (Nat.le_refl _) ((hIx _).aside l _ _ (by omega) hi (aside_put hl2 rfl _)) ((World.putObj_heap_other (by omega)).trans hd2)⟩

end Go.Proofs.Ytdgjhfghggcfaaa
