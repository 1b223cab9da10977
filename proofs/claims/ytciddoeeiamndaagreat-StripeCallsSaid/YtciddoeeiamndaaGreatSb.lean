/-
  Ranging over a closure that hands out any values, with rounds that are passed over, and loop variables that have a block.
-/
import Derived.Test.YtciddoeeiamndaaGreatGo
import Derived.Deep.RegionHeld3
import Derived.OrdersIn
import Derived.Test.YtciddoeeiamndaaGreatSa
import Derived.Test.YtciddoeeiamndaaGreatEvB
namespace Go.Proofs.YtciddoeeiamndaaGreat
open Go.RowKit Go.Maps
set_option linter.unusedVariables false

/-- What only speaks of cells that are there, and of blocks ahead of C. -/
structure Abides (C : Nat) (p : World → Prop) : Prop where
  below : ∀ X X', p X → Below X.heap.size X X' → p X'
  aside : ∀ l X X', C ≤ l → p X → Aside l X X' → p X'
theorem Abides.mono {C C' : Nat} {p : World → Prop} (h : Abides C p) (hC : C ≤ C') : Abides C' p := ⟨h.below, fun l X X' hl => h.aside l X X' (Nat.le_trans hC hl)⟩
theorem Abides.and {C : Nat} {p q : World → Prop} (h : Abides C p) (k : Abides C q) : Abides C (fun X => p X ∧ q X) :=
  ⟨fun X X' hp hb => ⟨h.below X X' hp.1 hb, k.below X X' hp.2 hb⟩, fun l X X' hl hp ha => ⟨h.aside l X X' hl hp.1 ha, k.aside l X X' hl hp.2 ha⟩⟩
theorem Abides.pure (C : Nat) (p : Prop) : Abides C (fun _ => p) := ⟨fun _ _ h _ => h, fun _ _ _ _ h _ => h⟩
theorem Abides.ex {α : Type} {C : Nat} {p : α → World → Prop} (h : ∀ x, Abides C (p x)) : Abides C (fun X => ∃ x, p x X) :=
  ⟨fun X X' ⟨x, hx⟩ hb => ⟨x, (h x).below X X' hx hb⟩, fun l X X' hl ⟨x, hx⟩ ha => ⟨x, (h x).aside l X X' hl hx ha⟩⟩
theorem Abides.heap {C : Nat} {k : Nat} {o : Obj} (hk : k < C) : Abides C (fun X => X.heap[k]? = some o) :=
  ⟨fun X X' h hb => (hb.block k (Array.getElem?_eq_some_iff.1 h).1).trans h, fun l X X' hl h ha => (ha.turn.block k (Array.getElem?_eq_some_iff.1 h).1 (by omega)).trans h⟩

/-- What a closure that hands out values promises: the rounds i < n that are not passed over, in turn, each at a value as D says, as long as they say 'yes'. -/
def Rounds2 (gf : Nat) (lb : Array Value) (n : Nat) (sk : Nat → Bool) (D : Nat → Value → World → Prop) (B : Nat → World → Prop) : Prop :=
  ∀ (l : Nat) (N : Nat → Prop) (J : Nat → World → Prop) (Jx : World → Prop) (W : World), l < W.heap.size → (∀ k, N k → k < W.heap.size) → (∀ i, Abides W.heap.size (J i)) → Abides W.heap.size Jx → (∀ i X, J i X → B i X) →
    (∀ i X, i < n → sk i = true → J i X → J (i + 1) X) →
    (∀ i v X, i < n → sk i = false → J i X → D i v X → YieldAt Fence.wide 1 Tryz.prog l #[v] X fun e X' => ((e = .returned (.bool true) ∧ J (i + 1) X') ∨ (e = .returned (.bool false) ∧ Jx X')) ∧ Turn (fun k => N k ∨ k = l) X X') →
    J 0 W → CallsIn Fence.wide 2 Tryz.prog gf (#[.func (.yield l) #[] #[]] ++ lb) W fun e W' => (∃ v, e = .returned v) ∧ (J n W' ∨ Jx W')

theorem wp_over2 {N : Nat → Prop} {g : Operand} {ps : Array Tmp} {assign body : Code} {Q : Exit → Act → World → Prop} {a : Act} {w : World} {gf : Nat} {lb : Array Value} {n : Nat} {sk : Nat → Bool} {D : Nat → Value → World → Prop} {B : Nat → World → Prop}
    (hg : a.eval g = .func (.func gf) #[] lb) (eg : ∀ args w, (callFunc gf args).run Tryz.prog w = .ok (.enter gf args) w) (hseq : Rounds2 gf lb n sk D B) (hps : ps.size = 1)
    (I : Nat → World → Prop) (Ix : Code → World → Prop) (Ax : Nat → Act → World → Prop) (hB : ∀ i X, I i X → B i X)
    (hI : ∀ i, Abides w.heap.size (I i)) (hIx : ∀ c, Abides w.heap.size (Ix c)) (hAx : ∀ i a', Abides w.heap.size (Ax i a'))
    (hNl : ∀ k, N k → k < w.heap.size) (h0 : I 0 w)
    (hassign : ∀ (l i : Nat) (v : Value) (X : World) (K : Act → World → Prop), i < n → w.heap.size ≤ X.heap.size → I i X → D i v X → (∀ a' X', Below X.heap.size X X' → Ax i a' X' → K a' X') →
      assign.wpIn (Fence.wide.inRound l) 1 Tryz.prog (Exit.then K (fun _ _ _ => False)) { tmps := (ps.zip #[v]).foldl (fun t (p, v) => t.setIfInBounds p v) a.tmps, defers := [] } X)
    (hskip : ∀ i X, i < n → sk i = true → I i X → I (i + 1) X)
    (hbody : ∀ (l i : Nat) (a' : Act) (X : World), i < n → sk i = false → w.heap.size ≤ X.heap.size → I i X → Ax i a' X → body.wpIn (Fence.wide.inRound l) 1 Tryz.prog (roundEnd (Turn N) (I (i + 1)) Ix X) a' X)
    (hdone : ∀ (D : Nat) (X : World), w.heap.size ≤ D → I n X → X.heap[D]? = some (.deferred (some [])) → Q .normal { a with defers := { target := .collected D, args := #[] } :: a.defers } X)
    (hstop : ∀ (D : Nat) (c : Code) (X : World), w.heap.size ≤ D → Ix c X → X.heap[D]? = some (.deferred (some [])) → c.wpIn Fence.wide 3 Tryz.prog Q { a with defers := { target := .collected D, args := #[] } :: a.defers } X) :
    (Code.rangeFunc g ps assign body).wpIn Fence.wide 3 Tryz.prog Q a w := by
  have hN : ∀ X X', Turn N X X' → KeepsFrom w.heap.size X X' := fun X X' h => keeps_of_turn h hNl
  refine wpIn_rangeFunc fun fn _ => ?_
  obtain ⟨rc, hrc⟩ : ∃ rc : LoopState → Option Code → Loop, rc = fun st pe => { state := st, pending := pe, fn := fn, tmps := a.tmps, params := ps, assign := assign, body := body, defers := w.heap.size } := ⟨_, rfl⟩
  obtain ⟨l, hl⟩ : ∃ l, l = w.heap.size + 1 := ⟨_, rfl⟩
  obtain ⟨W1, hW1⟩ : ∃ W1, W1 = (w.alloc (.deferred (some []))).alloc (.loop (rc .ready none)) := ⟨_, rfl⟩
  have sz : (w.alloc (.deferred (some []))).heap.size = w.heap.size + 1 := by simp
  have hL : W1.heap[l]? = some (.loop (rc .ready none)) := by
    rw [hW1, hl, ← sz]; exact World.alloc_heap_new _ _
  have hD : W1.heap[w.heap.size]? = some (.deferred (some [])) := by
    rw [hW1]; exact (Below.heap_alloc _ _ _ (by rw [sz]; omega)).trans (World.alloc_heap_new w _)
  have hb1 : Below w.heap.size w W1 := by rw [hW1]; exact ((Below.refl _ w).alloc (Nat.le_refl _) _).alloc (by rw [sz]; omega) _
  have hI1 : I 0 W1 := (hI 0).below _ _ h0 hb1
  have hs1 : W1.heap.size = w.heap.size + 2 := by rw [hW1]; simp
  refine ⟨l, [{ target := .collected w.heap.size, args := #[] }], W1, { target := .fn (.func gf) lb, args := #[.func (.yield l) #[] #[]] }, W1, gf, #[.func (.yield l) #[] #[]] ++ lb, W1, ?_, ?_, fun _ _ => trivial, ?_, fun _ => by omega, ?_⟩
  · rw [hW1, hl, hrc]; exact run_enterLoop_outer _ _ _ _ _
  · simp only [resolve, hg]
    simp [go_sem]
  · simp [invoke, go_sem, eg]
  · refine (hseq l N (fun i X => I i X ∧ X.heap[l]? = some (.loop (rc .ready none)) ∧ X.heap[w.heap.size]? = some (.deferred (some [])))
      (fun X => ∃ c, Ix c X ∧ X.heap[l]? = some (.loop (rc .done (some c))) ∧ X.heap[w.heap.size]? = some (.deferred (some []))) W1 (by omega) (fun k hk => by have := hNl k hk; omega)
      (fun i => ((hI i).mono (by omega)).and ((Abides.heap (by omega)).and (Abides.heap (by omega))))
      (Abides.ex fun c => ((hIx c).mono (by omega)).and ((Abides.heap (by omega)).and (Abides.heap (by omega))))
      (fun i X h => hB i X h.1) (fun i X hi hk h => ⟨hskip i X hi hk h.1, h.2⟩) ?_ ⟨hI1, hL, hD⟩).mono ?_
    · rintro i v X hi hsk ⟨hx, hl1, hd1⟩ hDv
      have hlt : l < X.heap.size := (Array.getElem?_eq_some_iff.1 hl1).1
      have hy := run_yield (P := Tryz.prog) (args := #[v]) hl1 (by rw [hrc]; exact hps.symm)
      rw [hrc] at hy
      refine ⟨fn, _, assign, body, hy, roundIn_of_wpIn trivial (hassign l i v X _ hi (by omega) hx hDv fun a' Xa hba hax => ?_)⟩
      have hl1a : Xa.heap[l]? = some (.loop (rc .ready none)) := (hba.block l hlt).trans hl1
      have hd1a : Xa.heap[w.heap.size]? = some (.deferred (some [])) := (hba.block _ (by omega)).trans hd1
      have hxa := (hI i).below _ _ hx hba
      have hlta : l < Xa.heap.size := (Array.getElem?_eq_some_iff.1 hl1a).1
      refine ⟨_, run_beginRound hl1a (by rw [hrc]), ?_⟩
      obtain ⟨X2, hX2⟩ : ∃ X2, X2 = Xa.putObj l (.loop { rc .ready none with state := .busy }) := ⟨_, rfl⟩
      have hta : Aside l Xa X2 := by rw [hX2]; exact aside_put hl1a rfl _
      have ht := hta.turn
      have hl2 : X2.heap[l]? = some (.loop { rc .ready none with state := .busy }) := by rw [hX2]; exact World.putObj_heap_same hlta
      have hd2 : X2.heap[w.heap.size]? = some (.deferred (some [])) := (ht.block _ (by omega) (by omega)).trans hd1a
      have h2 : I i X2 := (hI i).aside l _ _ (by omega) hxa hta
      have h2a : Ax i a' X2 := (hAx i a').aside l _ _ (by omega) hax hta
      rw [← hX2]
      refine wpIn_mono (hbody l i a' X2 hi hsk (by rw [hX2]; simp; omega) h2 h2a) ?_
      have fin : ∀ (jump : Option Code) (X3 : World), Turn N X2 X3 → ∃ X4, (Instr.endRound l jump).run Tryz.prog X3 = .ok (.bool jump.isNone) X4 ∧ Aside l X3 X4 ∧
          X4.heap[l]? = some (.loop (rc (if jump.isNone then .ready else .done) jump)) ∧ X4.heap[w.heap.size]? = some (.deferred (some [])) := fun jump X3 h3 => by
        have e3 : X3.heap[l]? = some (.loop { rc .ready none with state := .busy }) := (hN _ _ h3).same _ _ (by omega) hl2 rfl
        have e4 : X3.heap[w.heap.size]? = some (.deferred (some [])) := (hN _ _ h3).same _ _ (Nat.le_refl _) hd2 rfl
        have hlt3 : l < X3.heap.size := (Array.getElem?_eq_some_iff.1 e3).1
        refine ⟨_, run_endRound (P := Tryz.prog) jump e3, aside_put e3 rfl _, ?_, (World.putObj_heap_other (by omega)).trans e4⟩
        rw [hrc]
        exact World.putObj_heap_same hlt3
      have tn : ∀ X3 X4, Turn N X2 X3 → Aside l X3 X4 → Turn (fun k => N k ∨ k = l) X X4 := fun X3 X4 h3 h4 =>
        (((Turn.of_below hba).trans (hta.turn.mono fun k e => .inr e)).trans (h3.mono fun k e => .inl e)).trans (h4.turn.mono fun k e => .inr e)
      rintro e a3 X3 hp
      cases e with
      | normal =>
        obtain ⟨h3, hi3⟩ := hp
        obtain ⟨X4, hr, ht4, hl4, hd4⟩ := fin none X3 h3
        exact ⟨_, _, hr, .inl ⟨rfl, (hI _).aside l _ _ (by omega) hi3 ht4, hl4, hd4⟩, tn _ _ h3 ht4⟩
      | ret =>
        obtain ⟨h3, hi3⟩ := hp
        obtain ⟨X4, hr, ht4, hl4, hd4⟩ := fin (some .ret) X3 h3
        exact ⟨_, _, hr, .inr ⟨rfl, .ret, (hIx _).aside l _ _ (by omega) hi3 ht4, hl4, hd4⟩, tn _ _ h3 ht4⟩
      | exit id =>
        obtain ⟨h3, hi3⟩ := hp
        obtain ⟨X4, hr, ht4, hl4, hd4⟩ := fin (some (.exit id)) X3 h3
        exact ⟨_, _, hr, .inr ⟨rfl, .exit id, (hIx _).aside l _ _ (by omega) hi3 ht4, hl4, hd4⟩, tn _ _ h3 ht4⟩
      | goto t => exact hp.elim
      | panic ch => exact hp.elim
      | outgrown => exact hp.elim
    · rintro e W2 ⟨⟨v, rfl⟩, (⟨hi, hl2, hd2⟩ | ⟨c, hi, hl2, hd2⟩)⟩
      · refine ⟨none, _, by have := run_endLoop (P := Tryz.prog) hl2 (by rw [hrc]; simp); rw [hrc] at this; exact this, hdone _ _ (Nat.le_refl _) ((hI _).aside l _ _ (by omega) hi (aside_put hl2 rfl _)) ((World.putObj_heap_other (by omega)).trans hd2)⟩
      · refine ⟨some c, _, by have := run_endLoop (P := Tryz.prog) hl2 (by rw [hrc]; simp); rw [hrc] at this; exact this, hstop _ c _ (Nat.le_refl _) ((hIx _).aside l _ _ (by omega) hi (aside_put hl2 rfl _)) ((World.putObj_heap_other (by omega)).trans hd2)⟩

end Go.Proofs.YtciddoeeiamndaaGreat

/-
  A region that draws its order, in a round of a range over a function, with what is loaded held.
-/
namespace Go.Proofs.YtciddoeeiamndaaGreat
open Go.RowKit Go.Maps
set_option linter.unusedVariables false

/-- .. and no panic at all. -/
def calmQ (Q : Exit → Act → World → Prop) : Exit → Act → World → Prop
  | .panic _, _, _ => False
  | .normal, a, w => Q .normal a w
  | .ret, a, w => Q .ret a w
  | .exit id, a, w => Q (.exit id) a w
  | .goto l, a, w => Q (.goto l) a w
  | .outgrown, a, w => Q .outgrown a w
theorem wp_calm {P : Program} {c : Code} {Q : Exit → Act → World → Prop} {a : Act} {w : World} (h : c.wp P (calmQ Q) a w) : c.wp P Q a w :=
  wp_mono h fun e a w h => by cases e <;> first | exact h | exact h.elim
theorem round_any {l l2 n m : Nat} {P : Program} {f : FuncId} {tmps : Array Value} {assign body : Code} {w : World} {R : Ending → World → Prop} (h : RoundIn Fence.wide n P l f tmps assign body w R) : RoundIn (Fence.wide.inRound l2) m P l f tmps assign body w R :=
  ⟨trivial, fun c cs _ => h.2 c cs (room_wide _)⟩
/-- No operation is a defer statement. -/
def noDefer (ops : Array Oper) : Bool := ops.all fun o => match o.op with | .defer _ => false | _ => true
section
variable {l n : Nat} {P : Program} {ops : Array Oper} {Q : Exit → Act → World → Prop} {S : World → Prop} {md : Region.Mode}
theorem upon_in {o : Oper} {a : Act} {K : Act → World → Prop} {r : Result Next} (h : o.upon P a K Q r) : o.uponIn (Fence.wide.inRound l) n P a K Q r := by
  cases r with
  | ok x w' =>
    cases x with
    | enter f args => exact ⟨(fun h => by cases h), CallsIn.inRound l (callsIn_wide.2 h)⟩
    | row row args =>
      refine ⟨(fun h => by cases h), fun c cs _ => ?_⟩
      obtain ⟨v, w2, r, s⟩ := h c cs
      exact ⟨v, w2, r, stepsIn_wide.2 s⟩
    | value v => exact h
    | skip => exact h
    | defer d => exact h
    | _ => exact h.elim
  | halt x w' =>
    cases x with
    | panic v => exact h
    | _ => exact h.elim
theorem op_in (hd : noDefer ops = true) (hLO : LetsOut Q → False) {i : Nat} {a : Act} {w : World} {K : Act → World → Prop} (h : wpOp P ops Q i K a w) : wpOpIn (Fence.wide.inRound l) n P ops Q i K a w := by
  unfold wpOp at h
  unfold wpOpIn
  cases ho : ops[i]? with
  | none => rw [ho] at h; exact h
  | some o =>
    rw [ho] at h
    simp only at h ⊢
    by_cases hw : Region.wanted o (yielded ops a.tmps) = true
    · rw [if_pos hw] at h ⊢
      rcases h with h | h
      · refine ⟨fun _ _ => trivial, ?_⟩
        have hnd : ∀ c, o.op ≠ .defer c := fun c e => by
          have h1 := Array.all_eq_true.1 hd i (Array.getElem?_eq_some_iff.1 ho).1
          rw [(Array.getElem?_eq_some_iff.1 ho).2, e] at h1
          cases h1
        rw [show (Fence.wide.inRound l).round = some l from rfl, Oper.semAt_some l a.eval o hnd]
        exact upon_in h
      · exact (hLO h.2).elim
    · rw [if_neg hw] at h ⊢
      exact ⟨fun _ _ => trivial, h⟩
theorem any_in (hd : noDefer ops = true) (hLO : LetsOut Q → False) : ∀ (fuel : Nat) (listed : Array Bool) (a : Act) (w : World), wpAny P md ops Q fuel listed a w → wpAnyIn (Fence.wide.inRound l) n P md ops Q fuel listed a w
  | 0, _, _, _, h => h
  | fuel + 1, listed, a, w, h => ⟨h.1, fun i hi => wpOpIn_mono (fun a' w' h' => any_in hd hLO fuel _ a' w' h') (op_in hd hLO (h.2 i hi))⟩
theorem wpIn_region_held {id : Nat} {a : Act} {w : World} (hm : P.follows .mixedOrders = true) (hd : noDefer ops = true) (hLO : LetsOut Q → False) (hS : S w.drew)
    (h : S w.drew → wpAnyH P .any ops Q S ops.size (Array.replicate ops.size false) a w.drew) : (Code.region id ops true).wpIn (Fence.wide.inRound l) n P Q a w :=
  wpIn_region_any hm (any_in hd hLO _ _ _ _ (wpAny_of_held _ _ _ _ (h hS)))
end

end Go.Proofs.YtciddoeeiamndaaGreat

/-
  The stripe's iterator over a segment's rows, by contract.
-/
namespace Go.Proofs.YtciddoeeiamndaaGreat
open Go.RowKit Go.Maps
set_option linter.unusedVariables false
attribute [local go_sem] Oper.semAt_some

/-- The two boxes of a closure over a geometry and a segment. -/
structure Bgs (pg ps : Nat) (n : Nat) (r s g : Int) (C : Nat) (X : World) : Prop where
  geo : Bx X pg n r s
  seg : X.cell? ⟨ps, 0, none⟩ = some (.int .i64 g)
  lts : ps < X.heap.size
  le : C ≤ X.heap.size
theorem Bgs.next {pg ps n C : Nat} {r s g : Int} {X X' : World} (h : Bgs pg ps n r s g C X) (hb : Below X.heap.size X X') : Bgs pg ps n r s g C X' :=
  ⟨h.geo.next hb, (hb.cell (p := ⟨ps, 0, none⟩) h.lts).trans h.seg, Nat.lt_of_lt_of_le h.lts hb.size, Nat.le_trans h.le hb.size⟩
theorem Bx.aside {w w' : World} {b l : Nat} {d r s : Int} (h : Bx w b d r s) (ha : Aside l w w') : Bx w' b d r s := ⟨Nat.lt_of_lt_of_le h.lt ha.turn.size, ha.cell h.c0, ha.cell h.c1, ha.cell h.c2⟩
theorem Bx.turn {w w' : World} {b : Nat} {d r s : Int} {N : Nat → Prop} (h : Bx w b d r s) (ht : Turn N w w') (hn : ¬ N b) : Bx w' b d r s :=
  ⟨Nat.lt_of_lt_of_le h.lt ht.size, (ht.cell (a := ⟨b, 0, none⟩) h.lt hn).trans h.c0, (ht.cell (a := ⟨b, 1, none⟩) h.lt hn).trans h.c1, (ht.cell (a := ⟨b, 2, none⟩) h.lt hn).trans h.c2⟩
theorem Bgs.turn {pg ps n C : Nat} {r s g : Int} {X X' : World} {N : Nat → Prop} (h : Bgs pg ps n r s g C X) (ht : Turn N X X') (h1 : ¬ N pg) (h2 : ¬ N ps) : Bgs pg ps n r s g C X' :=
  ⟨h.geo.turn ht h1, (ht.cell (a := ⟨ps, 0, none⟩) h.lts h2).trans h.seg, Nat.lt_of_lt_of_le h.lts ht.size, Nat.le_trans h.le ht.size⟩
theorem Bgs.aside {pg ps n C : Nat} {r s g : Int} {X X' : World} {l : Nat} (h : Bgs pg ps n r s g C X) (ha : Aside l X X') : Bgs pg ps n r s g C X' :=
  ⟨h.geo.aside ha, ha.cell h.seg, Nat.lt_of_lt_of_le h.lts ha.turn.size, Nat.le_trans h.le ha.turn.size⟩
theorem Bgs.abides {pg ps n C : Nat} {r s g : Int} (K : Nat) : Abides K (Bgs pg ps n r s g C) := ⟨fun X X' h hb => h.next hb, fun l X X' _ h ha => h.aside ha⟩

theorem rows_any (n : Nat) (r s g : Int) (w : World) :
    Calls Tryz.prog 55 #[gv n r s, .int .i64 g] w fun e w' => ∃ pg ps, e = .returned (.func (.func 97) #[] #[.pointer (some ⟨pg, 0, none⟩), .pointer (some ⟨ps, 0, none⟩)]) ∧
      Bgs pg ps n r s g w.heap.size w' ∧ w.heap.size ≤ pg ∧ w.heap.size ≤ ps ∧ Below w.heap.size w w' := by
  go_enter Tryz.func55, Tryz.ntmps55
  go_wp2_with (fail)
  go_ret
  refine ⟨w.heap.size, w.heap.size + 1, rfl, ⟨⟨by simp; omega, by simp, by simp, by simp⟩, by simp, by simp, by simp; omega⟩, Nat.le_refl _, by omega, ((Below.refl _ _).alloc (Nat.le_refl _) _).alloc (by simp) _⟩

set_option maxHeartbeats 1000000 in
theorem rows_rounds (pg ps n C m : Nat) (r s g : Int) (h : Sg n r s g) (hm : r = (m : Int)) :
    Rounds2 97 #[.pointer (some ⟨pg, 0, none⟩), .pointer (some ⟨ps, 0, none⟩)] m (fun _ => false) (fun i v X => RowAt X C v n (rowD n (g * r + i)) (5 + (g * r + i))) (fun i X => Bgs pg ps n r s g C X) := by
  intro l N J Jx W _ _ hA hAx hB hS hY h0
  have HA := Lib.hid hA
  have HB := Lib.hid hB
  have HY := Lib.hid hY
  have hb0 := hB 0 W h0
  have HSg := Lib.hid h
  clear hB hY hA hAx hS
  have y1 := hb0.geo.c1
  rw [hm] at y1
  have hrf : Hid (∀ (i : Nat) (w : World), i < m → Calls Tryz.prog 98 #[gv n m s, .int .i64 g, .int .i64 i] w fun e w' => ∃ v, e = .returned v ∧ RowAt w' w.heap.size v n (rowD n (g * r + i)) (5 + (g * r + i)) ∧ Below w.heap.size w w') := fun i w hi => by
    have := rowOf_any n r s g i w h (by omega)
    rw [hm] at this ⊢
    exact this
  have hm4 : m ≤ 4 := by have := h.r2; omega
  have HM := Lib.hid hm
  clear h hm
  refine callsIn_of_wp Tryz.func97 rfl trivial ?_ rfl
  simp only [Tryz.ntmps97, List.size_toArray, List.length_cons, List.length_nil, Nat.reduceAdd, Nat.reduceSub, Array.replicate_succ, Array.replicate_zero, List.push_toArray, List.append_toArray, List.nil_append, List.cons_append]
  gi_wp2
  gi_loopw [4, 7] (fun _ i wr => ∃ k : Nat, k ≤ m ∧ i = .int .i64 k ∧ J k wr) (fun _ i _ => m - (RowKit.intOf i).toNat)
  case atStart => exact ⟨0, Nat.zero_le _, rfl, h0⟩
  case round =>
    obtain ⟨k, hk, rfl, hJ⟩ := hrel
    clear y1
    have hbk := HB.out k wr hJ
    have y0 := hbk.geo.c0
    have y1 := hbk.geo.c1
    have y2 := hbk.geo.c2
    have y3 := hbk.seg
    have hle := hbk.le
    rw [HM.out] at y1
    by_cases hlt : k < m
    · have hrk := hrf.out k wr hlt
      have HJ := Lib.hid hJ
      have HLE : Hid (C ≤ wr.heap.size) := hle
      clear hbk hle hJ
      have HYk : Hid (∀ v w', RowAt w' C v n (rowD n (g * r + k)) (5 + (g * r + k)) → Below wr.heap.size wr w' → YieldAt Fence.wide 1 Tryz.prog l #[v] w' fun e X' => ((e = .returned (.bool true) ∧ J (k + 1) X') ∨ (e = .returned (.bool false) ∧ Jx X')) ∧ Turn (fun k => N k ∨ k = l) w' X') := fun v w' hrw hb =>
        HY.out k v w' hlt (by simp) ((HA.out k).below _ _ HJ.out hb) hrw
      gi_wp2_with (refine ⟨trivial, ?_⟩; gi_at_call 98; refine (callsIn_wide.2 hrk).mono ?_; clear hrk; rintro e w' ⟨v, rfl, hrow, hb⟩; obtain ⟨fn, tmps, assign, body, hy, hR⟩ := HYk.out v w' (hrow.lower HLE.out) hb; clear hrow hb HYk)
      refine hR.mono ?_
      rintro e W' ⟨(⟨rfl, hJ'⟩ | ⟨rfl, hx⟩), _⟩
      · gi_wp2
        go_roundw
        case rel => exact ⟨k + 1, by omega, by go_num, hJ'⟩
        case measure => simp [RowKit.intOf]; omega
      · gi_wp2
        refine bodyPost_ret (results_none rfl _ _ _) rfl ?_
        exact ⟨⟨_, rfl⟩, .inr hx⟩
    · obtain rfl : k = m := by omega
      clear hbk hle
      gi_wp2
      go_end0
      exact ⟨⟨_, rfl⟩, .inl hJ⟩

end Go.Proofs.YtciddoeeiamndaaGreat

/-
  The stripe's iterator over what a slot lacks, by contract.
-/
namespace Go.Proofs.YtciddoeeiamndaaGreat
open Go.RowKit Go.Maps
set_option linter.unusedVariables false
attribute [local go_sem] Oper.semAt_some

/-- The four boxes of a closure over a bank, a segment, a slot and a Seq. -/
structure Bgp (pb pg pl pq b : Nat) (g i q : Int) (C : Nat) (X : World) : Prop where
  c0 : X.cell? ⟨pb, 0, none⟩ = some (.pointer (some ⟨b, 0, none⟩))
  c1 : X.cell? ⟨pg, 0, none⟩ = some (.int .i64 g)
  c2 : X.cell? ⟨pl, 0, none⟩ = some (.int .i64 i)
  c3 : X.cell? ⟨pq, 0, none⟩ = some (.int .i64 q)
  lt0 : pb < X.heap.size
  lt1 : pg < X.heap.size
  lt2 : pl < X.heap.size
  lt3 : pq < X.heap.size
  le : C ≤ X.heap.size
section
variable {pb pg pl pq b C : Nat} {g i q : Int} {X X' : World}
theorem Bgp.turn {N : Nat → Prop} (h : Bgp pb pg pl pq b g i q C X) (ht : Turn N X X') (h0 : ¬ N pb) (h1 : ¬ N pg) (h2 : ¬ N pl) (h3 : ¬ N pq) : Bgp pb pg pl pq b g i q C X' :=
  ⟨(ht.cell (a := ⟨pb, 0, none⟩) h.lt0 h0).trans h.c0, (ht.cell (a := ⟨pg, 0, none⟩) h.lt1 h1).trans h.c1, (ht.cell (a := ⟨pl, 0, none⟩) h.lt2 h2).trans h.c2, (ht.cell (a := ⟨pq, 0, none⟩) h.lt3 h3).trans h.c3, Nat.lt_of_lt_of_le h.lt0 ht.size, Nat.lt_of_lt_of_le h.lt1 ht.size, Nat.lt_of_lt_of_le h.lt2 ht.size, Nat.lt_of_lt_of_le h.lt3 ht.size, Nat.le_trans h.le ht.size⟩
theorem Bgp.next (h : Bgp pb pg pl pq b g i q C X) (hb : Below X.heap.size X X') : Bgp pb pg pl pq b g i q C X' :=
  h.turn (N := fun _ => False) (Turn.of_below hb) id id id id
theorem Bgp.aside {l : Nat} (h : Bgp pb pg pl pq b g i q C X) (ha : Aside l X X') : Bgp pb pg pl pq b g i q C X' :=
  ⟨ha.cell h.c0, ha.cell h.c1, ha.cell h.c2, ha.cell h.c3, Nat.lt_of_lt_of_le h.lt0 ha.turn.size, Nat.lt_of_lt_of_le h.lt1 ha.turn.size, Nat.lt_of_lt_of_le h.lt2 ha.turn.size, Nat.lt_of_lt_of_le h.lt3 ha.turn.size, Nat.le_trans h.le ha.turn.size⟩
end
theorem RackAt.abides {M : Nat → Prop} {L : Lay} {R : Rk} {K : Nat} (hK : ∀ k, L.M R.n k → k < K) : Abides K (fun X => RackAt X M L R) :=
  ⟨fun X X' h hb => h.below hb, fun l X X' hl h ha => h.aside ha (fun x => by have := hK l x; omega)⟩
theorem BnAt.abides {b p : Nat} {B : Bn} (K : Nat) : Abides K (fun X => BnAt X b p B) := ⟨fun X X' h hb => h.next hb, fun l X X' hl h ha => h.aside ha⟩
theorem Bgp.abides {pb pg pl pq b C : Nat} {g i q : Int} (K : Nat) : Abides K (Bgp pb pg pl pq b g i q C) := ⟨fun X X' h hb => h.next hb, fun l X X' hl h ha => h.aside ha⟩

theorem cell_abides (K : Nat) (a : Addr) (v : Value) : Abides K (fun X => X.cell? a = some v) := ⟨fun X X' h hb => (hb.cell (World.block_lt_of_cell? X _ h)).trans h, fun l X X' hl h ha => ha.cell h⟩
theorem size_abides (K n : Nat) : Abides K (fun X => n < X.heap.size) := ⟨fun X X' h hb => Nat.lt_of_lt_of_le h hb.size, fun l X X' hl h ha => Nat.lt_of_lt_of_le h ha.turn.size⟩
theorem RowAt.abides {C n : Nat} {v : Value} {D : Nat → Int} {s : Int} (K : Nat) : Abides K (fun X => RowAt X C v n D s) :=
  ⟨fun X X' h hb => h.next hb, fun l X X' hl h ha => by
    obtain ⟨g, c, e, h1, h2, h3, h4, h5⟩ := h.val
    exact ⟨g, c, e, h1, Nat.lt_of_lt_of_le h2 ha.turn.size, h3, h4, fun j hj => ⟨ha.cell (h5 j hj).1, ha.cell (h5 j hj).2⟩⟩⟩
theorem gaps_any (b : Nat) (g i q : Int) (w : World) :
    Calls Tryz.prog 87 #[.pointer (some ⟨b, 0, none⟩), .int .i64 g, .int .i64 i, .int .i64 q] w fun e w' => ∃ pb pg pl pq, e = .returned (.func (.func 123) #[] #[.pointer (some ⟨pb, 0, none⟩), .pointer (some ⟨pg, 0, none⟩), .pointer (some ⟨pl, 0, none⟩), .pointer (some ⟨pq, 0, none⟩)]) ∧
      Bgp pb pg pl pq b g i q w.heap.size w' ∧ (w.heap.size ≤ pb ∧ w.heap.size ≤ pg ∧ w.heap.size ≤ pl ∧ w.heap.size ≤ pq) ∧ Below w.heap.size w w' := by
  go_enter Tryz.func87, Tryz.ntmps87
  go_wp2_with (fail)
  go_ret
  refine ⟨w.heap.size, w.heap.size + 1, w.heap.size + 2, w.heap.size + 3, rfl, ⟨?_, ?_, ?_, ?_, ?_, ?_, ?_, ?_, ?_⟩, ⟨by omega, by omega, by omega, by omega⟩, ((((Below.refl _ _).alloc (Nat.le_refl _) _).alloc (by simp) _).alloc (by simp; omega) _).alloc (by simp; omega) _⟩
  · exact cell_alloc_l _ (cell_alloc_l _ (cell_alloc_l _ (box_new w _ _ rfl).1))
  · exact cell_alloc_l _ (cell_alloc_l _ (box_new _ _ _ (by simp)).1)
  · exact cell_alloc_l _ (box_new _ _ _ (by simp)).1
  · exact (box_new _ _ _ (by simp)).1
  all_goals (simp only [World.size_alloc]; omega)

set_option maxRecDepth 100000 in
set_option maxHeartbeats 4000000 in
theorem gaps_rounds (pb pg pl pq b C n m : Nat) (M : Nat → Prop) (L : Lay) (B : Bn) (g q : Int) (i : Nat) (Rs : Nat → Rk) (hd : B.d = (n : Int)) (hr : B.r = (m : Int)) (h : Sg B.d B.r B.s g) (hi : i < n) (hC : ∀ a k, L.M (Rs a).n k → k < C) :
    Rounds2 123 #[.pointer (some ⟨pb, 0, none⟩), .pointer (some ⟨pg, 0, none⟩), .pointer (some ⟨pl, 0, none⟩), .pointer (some ⟨pq, 0, none⟩)] m (fun a => rdO B (Rs a) (5 + (g * B.r + a)) q i) (fun a v X => v = spV i (5 + (g * B.r + a)))
      (fun a X => Bgp pb pg pl pq b g i q C X ∧ RackAt X M L (Rs a) ∧ BnAt X b L.p B) := by
  intro l N J Jx W hlW hNW hA hAx hB hS hY h0
  have hb0 := hB 0 W h0
  refine callsIn_of_wp_marks Tryz.func123 rfl trivial ?_ rfl
  simp only [Tryz.ntmps123, List.size_toArray, List.length_cons, List.length_nil, Nat.reduceAdd, Nat.reduceSub, Array.replicate_succ, Array.replicate_zero, List.push_toArray, List.append_toArray, List.nil_append, List.cons_append]
  refine wpIn_wide.2 (wp_calm ?_)
  have HA := Lib.hid hA
  have HAX := Lib.hid hAx
  have HB := Lib.hid hB
  have HS := Lib.hid hS
  have HY := Lib.hid hY
  clear hA hAx hB hS hY
  obtain ⟨hbg, hrk, hbn⟩ := hb0
  have d1 := h.d1
  have d2 := h.d2
  rw [hd] at d1 d2
  have hr4 : m ≤ 4 := by have := h.r2; omega
  obtain ⟨W1, hW1⟩ : ∃ W1, W1 = W.alloc (.cells #[.func (.yield l) #[] #[]] 160) := ⟨_, rfl⟩
  have hB1 : Below W.heap.size W W1 := by rw [hW1]; exact (Below.refl _ _).alloc (Nat.le_refl _) _
  have hy1 : W1.cell? ⟨W.heap.size, 0, none⟩ = some (.func (.yield l) #[] #[]) := by rw [hW1]; exact (box_new W _ _ rfl).1
  have hyl : W.heap.size < W1.heap.size := by rw [hW1]; simp
  have hJ1 : J 0 W1 := (HA.out 0).below _ _ h0 hB1
  obtain ⟨y, hyy⟩ : ∃ y, y = W.heap.size := ⟨_, rfl⟩
  go_wp2_with (fail)
  rw [← hW1]
  rw [← hyy] at hy1 hyl ⊢
  have hb1 := HB.out 0 W1 hJ1
  have k0 := hb1.1.c0
  have k1 := hb1.1.c1
  have HYY := Lib.hid hyy
  have hge := geo_any (hb1.2.2.drew)
  rw [hd, hr] at hge
  have HJ1 := Lib.hid hJ1
  have HB1 := Lib.hid hB1
  have HD := Lib.hid hd
  have HR := Lib.hid hr
  have HSg := Lib.hid h
  have HC := Lib.hid hC
  have hlb := hb1.1.lt0
  have hlg := hb1.1.lt1
  clear hW1 hyy hb1 hbg hrk hbn hB1 hJ1 h0 hd hr h hC
  refine wp_region_held_drew (S := fun w' => w'.cell? ⟨pb, 0, none⟩ = some (.pointer (some ⟨b, 0, none⟩)) ∧ w'.cell? ⟨pg, 0, none⟩ = some (.int .i64 g)) (by kernel_rfl) ?_ (fun hHeld => ?_)
  · exact ⟨k0, k1⟩
  refine wpAnyH_take (i := 0) (v := ?_) rfl (by kernel_rfl) (by kernel_rfl) (by kernel_rfl) (fun _ _ _ h => h) (Or.inl ⟨by rfl, fun w hSw => ?_⟩) (by assumption) ?_
  rotate_left
  · (try dsimp only at hSw); go_simp; try with_reducible rfl
  simp only [Act.put, List.setIfInBounds_toArray, List.set_cons_zero, List.set_cons_succ, List.getElem_toArray, List.getElem_cons_zero]
  refine wpAnyH_take (i := 2) (v := ?_) rfl (by kernel_rfl) (by kernel_rfl) (by kernel_rfl) (fun _ _ _ h => h) (Or.inl ⟨by rfl, fun w hSw => ?_⟩) (by assumption) ?_
  rotate_left
  · (try dsimp only at hSw); go_simp; try with_reducible rfl
  simp only [Act.put, List.setIfInBounds_toArray, List.set_cons_zero, List.set_cons_succ, List.getElem_toArray, List.getElem_cons_succ, List.getElem_cons_zero]
  refine wpAnyH_ready (rs := [1]) (by kernel_rfl) (by simp) ?_
  refine AllReadyH.cons rfl (fun K hK => ?_) AllReadyH.nil
  simp only [List.getElem_toArray, List.getElem_cons_succ, List.getElem_cons_zero]
  go_simp
  refine hge.mono ?_
  rintro e w2 ⟨rfl, hb2⟩
  have hb2 := undrew hb2
  have k0' := (hb2.cell (p := ⟨pb, 0, none⟩) hlb).trans k0
  have k1' := (hb2.cell (p := ⟨pg, 0, none⟩) hlg).trans k1
  have HJ2 := Lib.hid ((HA.out 0).below _ _ HJ1.out hb2)
  have HB2 := Lib.hid (HB1.out.trans (hb2.mono HB1.out.size))
  have hy2 := (hb2.cell (p := ⟨y, 0, none⟩) hyl).trans hy1
  have hyl2 := Nat.lt_of_lt_of_le hyl hb2.size
  clear HJ1 HB1 hb2 k0 k1 hlb hlg hy1 hyl
  go_wp2_with (fail)
  refine hK.out _ _ ⟨k0', k1'⟩ (fun hHeld => ?_)
  clear hK K
  refine wpAnyH_ready (rs := [3]) (by kernel_rfl) (by simp) ?_
  refine AllReadyH.cons rfl (fun K hK => ?_) AllReadyH.nil
  simp only [List.getElem_toArray, List.getElem_cons_succ, List.getElem_cons_zero]
  go_simp
  refine (rows_any n m B.s g w2).mono ?_
  rintro e w3 ⟨xg, xs, rfl, hbx, hxg, hxs, hb3⟩
  have hb3' := hb3
  have hlow := HB.out 0 w2 HJ2.out
  have k0 := (hb3.cell (p := ⟨pb, 0, none⟩) hlow.1.lt0).trans k0'
  have k1 := (hb3.cell (p := ⟨pg, 0, none⟩) hlow.1.lt1).trans k1'
  have HJ3 := Lib.hid ((HA.out 0).below _ _ HJ2.out hb3)
  have HB3 := Lib.hid (HB2.out.trans (hb3.mono HB2.out.size))
  have hy3 := (hb3.cell (p := ⟨y, 0, none⟩) hyl2).trans hy2
  have hyl3 := Nat.lt_of_lt_of_le hyl2 hb3.size
  have HBX := Lib.hid hbx
  have HXG : Hid (W.heap.size ≤ xg ∧ W.heap.size ≤ xs) := ⟨Nat.le_trans HB2.out.size hxg, Nat.le_trans HB2.out.size hxs⟩
  have HLE : Hid (C ≤ w2.heap.size) := hlow.1.le
  clear HJ2 HB2 hb3 hlow hy2 hyl2 hbx hb3' hxg hxs
  go_wp2_with (fail)
  refine hK.out _ _ ⟨k0, k1⟩ (fun hHeld => ?_)
  clear hK K k0' k1' hge
  refine wpAnyH_done (by kernel_rfl) ?_ _
  clear hHeld k0 k1
  go_wp2_with (fail)
  refine (wpIn_wide (n := 3)).1 ?_
  refine wp_over2 (N := fun k => N k ∨ k = l) rfl (enters_of Tryz.func97 (by kernel_rfl) rfl) (rows_rounds xg xs n w2.heap.size m B.r B.s g (by rw [← HD.out]; exact HSg.out) HR.out) rfl
    (fun a X => J a X ∧ Bgs xg xs n B.r B.s g w2.heap.size X ∧ X.cell? ⟨y, 0, none⟩ = some (.func (.yield l) #[] #[]) ∧ y < X.heap.size ∧ y ≤ xg ∧ y ≤ xs)
    (fun c X => c = .ret ∧ Jx X)
    (fun a a' X => ∃ v, RowAt X w2.heap.size v n (rowD n (g * B.r + a)) (5 + (g * B.r + a)) ∧ a' = { tmps := #[.func (.yield l) #[] #[], .pointer (some ⟨pb, 0, none⟩), .pointer (some ⟨pg, 0, none⟩), .pointer (some ⟨pl, 0, none⟩), .pointer (some ⟨pq, 0, none⟩), .pointer (some ⟨y, 0, none⟩), v, undef, undef, undef, .pointer (some ⟨b, 0, none⟩), gv n m B.s, .int .i64 g, .func (.func 97) #[] #[.pointer (some ⟨xg, 0, none⟩), .pointer (some ⟨xs, 0, none⟩)], v, undef, undef, undef, undef, undef, undef, undef, undef, undef, undef, undef, undef, undef, undef, undef, undef, undef, undef, undef, undef, undef], defers := [] })
    (fun a X h => h.2.1) ?hI ?hIx ?hAx ?hN ?h0 ?assign (fun a X ha hs _ => by cases hs) ?body ?done ?stop
  case hI =>
    intro a
    have hsz := HB3.out.size
    exact ((HA.out a).mono hsz).and ((Bgs.abides _).and ((cell_abides _ _ _).and ((size_abides _ _).and (Abides.pure _ _))))
  case hIx => exact fun c => (Abides.pure _ _).and (HAX.out.mono HB3.out.size)
  case hAx => exact fun a a' => Abides.ex fun v => (RowAt.abides _).and (Abides.pure _ _)
  case hN =>
    intro k hk
    have := HB3.out.size
    rcases hk with hk | hk
    · have := hNW k hk; omega
    · omega
  case h0 => exact ⟨HJ3.out, by rw [HR.out]; exact HBX.out, hy3, hyl3, by rw [HYY.out]; exact HXG.out.1, by rw [HYY.out]; exact HXG.out.2⟩
  case assign =>
    intro l2 a v X K ha hle hI hD hK
    gi_wp2
    exact hK _ _ (Below.refl _ _) ⟨v, hD, rfl⟩
  case body =>
    rintro l2 a a' X ha _ hle ⟨hJ, hbx, hy, hyl, hxg, hxs⟩ ⟨v, hrow, rfl⟩
    obtain ⟨hbg, hrk, hbn⟩ := HB.out a X hJ
    obtain ⟨gr, cr, rfl, hgl, hgr, hnc, hcm, hcells⟩ := hrow.val
    have r1 := (hcells 0 (by omega)).2
    have r0 : X.cell? ⟨gr, 1, none⟩ = some (.int .i64 (5 + (g * B.r + a))) := r1
    have HR1 := Lib.hid r0
    have k2 := hbg.c2
    have hnn : ¬ n = 0 := by omega
    have hn0 : 0 < n := by omega
    obtain ⟨z, hz⟩ : ∃ z, z = 5 + (g * B.r + (a : Int)) := ⟨_, rfl⟩
    rw [← hz] at r0
    have HZ := Lib.hid hz
    have HJ := Lib.hid hJ
    have HX := Lib.hid hbx
    have HY1 := Lib.hid hy
    have HG1 := Lib.hid hbg
    have HRK := Lib.hid hrk
    have HBN := Lib.hid hbn
    clear hz hJ hbx hy hbg hrk hbn hrow hcells r1 hHeld
    gi_wp2
    refine wpIn_region_held (S := fun w' => w'.cell? ⟨pl, 0, none⟩ = some (.int .i64 i) ∧ w'.cell? ⟨gr, 1, none⟩ = some (.int .i64 z)) (by kernel_rfl) (by kernel_rfl) (by rintro ⟨a, w, h⟩; exact h) ?_ (fun hHeld => ?_)
    · exact ⟨k2, r0⟩
    refine wpAnyH_take (i := 0) (v := ?_) rfl (by kernel_rfl) (by kernel_rfl) (by kernel_rfl) (fun _ _ _ h => h) (Or.inl ⟨by rfl, fun w hSw => ?_⟩) (by assumption) ?_
    rotate_left
    · (try dsimp only at hSw); go_simp; try with_reducible rfl
    simp only [Act.put, List.setIfInBounds_toArray, List.set_cons_zero, List.set_cons_succ, List.getElem_toArray, List.getElem_cons_zero]
    refine wpAnyH_take (i := 1) (v := ?_) rfl (by kernel_rfl) (by kernel_rfl) (by kernel_rfl) (fun _ _ _ h => h) (Or.inl ⟨by rfl, fun w hSw => ?_⟩) (by assumption) ?_
    rotate_left
    · (try dsimp only at hSw); go_simp; try with_reducible rfl
    simp only [Act.put, List.setIfInBounds_toArray, List.set_cons_zero, List.set_cons_succ, List.getElem_toArray, List.getElem_cons_succ, List.getElem_cons_zero]
    refine wpAnyH_take (i := 2) (v := ?_) rfl (by kernel_rfl) (by kernel_rfl) (by kernel_rfl) (fun _ _ _ h => h) (Or.inl ⟨by rfl, fun w hSw => ?_⟩) (by assumption) ?_
    rotate_left
    · (try dsimp only at hSw); go_simp; try with_reducible rfl
    simp only [Act.put, List.setIfInBounds_toArray, List.set_cons_zero, List.set_cons_succ, List.getElem_toArray, List.getElem_cons_succ, List.getElem_cons_zero]
    refine wpAnyH_take (i := 3) (v := ?_) rfl (by kernel_rfl) (by kernel_rfl) (by kernel_rfl) (fun _ _ _ h => h) (Or.inl ⟨by rfl, fun w hSw => ?_⟩) (by assumption) ?_
    rotate_left
    · (try dsimp only at hSw); go_simp; try with_reducible rfl
    simp only [Act.put, List.setIfInBounds_toArray, List.set_cons_zero, List.set_cons_succ, List.getElem_toArray, List.getElem_cons_succ, List.getElem_cons_zero]
    refine wpAnyH_take (i := 4) (v := ?_) rfl (by kernel_rfl) (by kernel_rfl) (by kernel_rfl) (fun _ _ _ h => h) (Or.inl ⟨by rfl, fun w hSw => ?_⟩) (by assumption) ?_
    rotate_left
    · (try dsimp only at hSw); go_simp; try with_reducible rfl
    simp only [Act.put, List.setIfInBounds_toArray, List.set_cons_zero, List.set_cons_succ, List.getElem_toArray, List.getElem_cons_succ, List.getElem_cons_zero]
    refine wpAnyH_take (i := 5) (v := ?_) rfl (by kernel_rfl) (by kernel_rfl) (by kernel_rfl) (fun _ _ _ h => h) (Or.inl ⟨by rfl, fun w hSw => ?_⟩) (by assumption) ?_
    rotate_left
    · (try dsimp only at hSw); go_simp; try with_reducible rfl
    simp only [Act.put, List.setIfInBounds_toArray, List.set_cons_zero, List.set_cons_succ, List.getElem_toArray, List.getElem_cons_succ, List.getElem_cons_zero]
    refine wpAnyH_ready (rs := [6]) (by kernel_rfl) (by simp) ?_
    refine AllReadyH.cons rfl (fun K hK => ?_) AllReadyH.nil
    simp only [List.getElem_toArray, List.getElem_cons_succ, List.getElem_cons_zero]
    go_simp
    obtain ⟨X5, hX5⟩ : ∃ X5, X5 = (X.alloc (.cells #[.int .i64 0, .int .i64 0] 116)).drew := ⟨_, rfl⟩
    obtain ⟨s5, hs5⟩ : ∃ s5, s5 = X.heap.size := ⟨_, rfl⟩
    have b5 : Below X.heap.size X X5 := by rw [hX5]; exact below_drewN ((Below.refl _ _).alloc (Nat.le_refl _) _) 1
    have p0 : X5.cell? ⟨s5, 0, none⟩ = some (.int .i64 0) := by rw [hX5, hs5]; simp
    have p1 : X5.cell? ⟨s5, 1, none⟩ = some (.int .i64 0) := by rw [hX5, hs5]; simp
    have f0 : X5.frozen? ⟨s5, 0, none⟩ = false := by rw [hX5, hs5]; simp
    have f1 : X5.frozen? ⟨s5, 1, none⟩ = false := by rw [hX5, hs5]; simp
    have k2' := (b5.cell (p := ⟨pl, 0, none⟩) HG1.out.lt2).trans k2
    have r0' := (b5.cell (p := ⟨gr, 1, none⟩) hgr).trans r0
    have hs5' : s5 < X5.heap.size := by rw [hX5, hs5]; simp
    have hne1 : Hid (s5 ≠ pl) := by have := HG1.out.lt2; show _ ≠ _; omega
    have hne2 : Hid (s5 ≠ gr) := by show _ ≠ _; omega
    rw [← hX5, ← hs5]
    have HS5 := Lib.hid hs5
    have HX5 := Lib.hid b5
    clear hX5 hs5 b5
    refine hK.out _ _ ⟨k2', r0'⟩ (fun hHeld => ?_)
    clear hK K k2 r0
    refine wpAnyH_ready (rs := [7]) (by kernel_rfl) (by simp) ?_
    refine AllReadyH.cons rfl (fun K hK => ?_) AllReadyH.nil
    simp only [List.getElem_toArray, List.getElem_cons_succ, List.getElem_cons_zero]
    go_simp
    obtain ⟨X6, hX6⟩ : ∃ X6, X6 = (X5.setCell ⟨s5, 0, none⟩ (.int .i64 i)).setCell ⟨s5, 1, none⟩ (.int .i64 z) := ⟨_, rfl⟩
    have b6 : Below X.heap.size X X6 := by rw [hX6]; exact (HX5.out.setCell (p := ⟨s5, 0, none⟩) (by rw [← HS5.out]; exact Nat.le_refl _) _).setCell (p := ⟨s5, 1, none⟩) (by rw [← HS5.out]; exact Nat.le_refl _) _
    have q0 : X6.cell? ⟨s5, 0, none⟩ = some (.int .i64 i) := by rw [hX6]; exact (World.cell?_setCell_other _ _ _ _ (by simp)).trans (cell_set_same _ _ _ _ _ p0)
    have q1 : X6.cell? ⟨s5, 1, none⟩ = some (.int .i64 z) := by rw [hX6]; exact cell_set_same _ _ _ _ _ ((World.cell?_setCell_other _ _ _ _ (by simp)).trans p1)
    have k2 : X6.cell? ⟨pl, 0, none⟩ = some (.int .i64 i) := (b6.cell (p := ⟨pl, 0, none⟩) HG1.out.lt2).trans HG1.out.c2
    have r0 : X6.cell? ⟨gr, 1, none⟩ = some (.int .i64 z) := (b6.cell (p := ⟨gr, 1, none⟩) hgr).trans (by rw [HZ.out]; exact HR1.out)
    rw [← hX6]
    refine hK.out _ _ ⟨k2, r0⟩ (fun hHeld => ?_)
    have HJ6 := Lib.hid ((HA.out a).below _ _ HJ.out b6)
    have hbg6 := HG1.out.next b6
    have hrd := sread_any (i : Int) z q (HRK.out.below b6) (HBN.out.next b6)
    have k0 := hbg6.c0
    have k3 := hbg6.c3
    have hy6 : X6.cell? ⟨y, 0, none⟩ = some (.func (.yield l) #[] #[]) := (b6.cell (p := ⟨y, 0, none⟩) hyl).trans HY1.out
    have hyl6 := Nat.lt_of_lt_of_le hyl b6.size
    have hs6 : s5 < X6.heap.size := World.block_lt_of_cell? X6 ⟨s5, 0, none⟩ q0
    have HX6 := Lib.hid (HX.out.next b6)
    have HB6 := Lib.hid b6
    clear hK K hX6 p0 p1 f0 f1 k2' r0' hs5' hbg6 HX5 HRK HBN HG1 HX HJ HY1 k2 r0 b6 hHeld
    refine wpAnyH_done (by kernel_rfl) ?_ _
    have HY6 := Lib.hid hy6
    have HYL6 : Hid (y < X6.heap.size) := hyl6
    have hN' : ∀ k, y ≤ k → ¬ (N k ∨ k = l) := fun k hk x => by
      have := HYY.out
      rcases x with x | x
      · have := hNW k x; omega
      · omega
    have HT6 : Hid (Turn (fun k => N k ∨ k = l) X X6) := Turn.of_below HB6.out
    have HHS : Hid (rdO B (Rs a) z q i = true → ∀ X', J a X' → J (a + 1) X') := fun h X' hj => HS.out a X' ha (by rw [← HZ.out]; exact h) hj
    have HHY : Hid (rdO B (Rs a) z q i = false → ∀ X', J a X' → YieldAt Fence.wide 1 Tryz.prog l #[spV i z] X' fun e X'' => ((e = .returned (.bool true) ∧ J (a + 1) X'') ∨ (e = .returned (.bool false) ∧ Jx X'')) ∧ Turn (fun k => N k ∨ k = l) X' X'') :=
      fun h X' hj => HY.out a _ X' ha (by rw [← HZ.out]; exact h) hj (by rw [HZ.out])
    clear HS HY
    cases hok : rdO B (Rs a) z q (i : Int) with
    | true =>
      rw [hok] at hrd
      have HS2 := Lib.hid (HHS.out hok)
      clear hok HHS HHY
      gi_wp2_with (refine ⟨trivial, ?_⟩; gi_at_call 68; refine (CallsIn.inRound l2 (callsIn_wide.2 hrd)).mono ?_; clear hrd; rintro e X7 ⟨a7, n7, c7, rfl, _, _, b7⟩; have HB7 := Lib.hid b7; clear b7)
      refine ⟨fun _ _ => trivial, ?_⟩
      gi_wp2
      exact ⟨HT6.out.trans (Turn.of_below HB7.out), HS2.out _ ((HA.out a).below _ _ HJ6.out HB7.out), HX6.out.next HB7.out, (HB7.out.cell (p := ⟨y, 0, none⟩) HYL6.out).trans HY6.out, Nat.lt_of_lt_of_le HYL6.out HB7.out.size, hxg, hxs⟩
    | false =>
      rw [hok] at hrd
      have HY2 := Lib.hid (HHY.out hok)
      clear hok HHS HHY
      gi_wp2_with (refine ⟨trivial, ?_⟩; gi_at_call 68; refine (CallsIn.inRound l2 (callsIn_wide.2 hrd)).mono ?_; clear hrd; rintro e X7 ⟨a7, n7, c7, rfl, _, _, b7⟩; obtain ⟨fn, tmps, assign, body, hyq, hR⟩ := HY2.out X7 ((HA.out a).below _ _ HJ6.out b7); have hy7 := (b7.cell (p := ⟨y, 0, none⟩) hyl6).trans hy6; have q07 := (b7.cell (p := ⟨s5, 0, none⟩) hs6).trans q0; have q17 := (b7.cell (p := ⟨s5, 1, none⟩) hs6).trans q1; have HB7 := Lib.hid b7; clear b7)
      refine (round_any hR).mono ?_
      rintro e X8 ⟨(⟨rfl, hJ8⟩ | ⟨rfl, hx⟩), ht8⟩
      · gi_wp2
        exact ⟨(HT6.out.trans (Turn.of_below HB7.out)).trans ht8, hJ8, (HX6.out.next HB7.out).turn ht8 (hN' _ hxg) (hN' _ hxs), (ht8.cell (a := ⟨y, 0, none⟩) (Nat.lt_of_lt_of_le HYL6.out HB7.out.size) (hN' y (Nat.le_refl _))).trans ((HB7.out.cell (p := ⟨y, 0, none⟩) HYL6.out).trans HY6.out), Nat.lt_of_lt_of_le (Nat.lt_of_lt_of_le HYL6.out HB7.out.size) ht8.size, hxg, hxs⟩
      · gi_wp2
        exact ⟨(HT6.out.trans (Turn.of_below HB7.out)).trans ht8, rfl, hx⟩
  case done =>
    rintro D X hD h hK
    have hJ := h.1
    clear h
    gi_wp2
    refine ⟨by simp, .inl ⟨_, _, rfl, run_takeDeferred hK, ?_⟩⟩
    have hA := aside_put hK rfl (.deferred none)
    refine ⟨.tuple #[], ?_, ⟨_, rfl⟩, .inl ((HA.out m).aside D _ _ (by have := HB3.out.size; omega) hJ hA)⟩
    simp [results, Tryz.f123, go_sem]
  case stop =>
    rintro D c X hD ⟨rfl, hJ⟩ hK
    gi_wp2
    refine ⟨by simp, .inl ⟨_, _, rfl, run_takeDeferred hK, ?_⟩⟩
    have hA := aside_put hK rfl (.deferred none)
    refine ⟨.tuple #[], ?_, ⟨_, rfl⟩, .inr (HAX.out.aside D _ _ (by have := HB3.out.size; omega) hJ hA)⟩
    simp [results, Tryz.f123, go_sem]

end Go.Proofs.YtciddoeeiamndaaGreat
