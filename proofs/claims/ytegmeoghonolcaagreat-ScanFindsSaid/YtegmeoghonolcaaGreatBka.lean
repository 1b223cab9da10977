/-
  Ranging over a method value: the statement's law where nothing is fenced off, over an iterator that reads nothing that its rounds turn.
-/
import Derived.Test.YtegmeoghonolcaaGreatHb
import Derived.RangeFuncNested
import Derived.RangeFuncLeaves
import Derived.RangeFuncCalls
import Derived.Test.YtegmeoghonolcaaGreatOpm
import Derived.Test.YtegmeoghonolcaaGreatGe
import Derived.Shelf.RegionOpen
import Derived.OwnWalkIn
import Derived.TacticsInMore
import Derived.LoopNIn
import Derived.LoopIn
import Derived.Deep.RegionHeld3
import Derived.OrdersIn
set_option linter.unusedSimpArgs false
set_option linter.unusedVariables false
namespace Go.Proofs.YtegmeoghonolcaaGreat
open Go.RowKit Go.Maps

theorem turn_put (w : World) (l : Nat) (o : Obj) : Turn (· = l) w (w.putObj l o) := ⟨rfl, rfl, rfl, by simp, fun k _ hk => World.putObj_heap_other hk⟩
theorem turn_alloc (M : Nat → Prop) (w : World) (o : Obj) : Turn M w (w.alloc o) := Turn.of_below ((Below.refl _ w).alloc (Nat.le_refl _) o)

/-- Of what was there only block l has turned, and that held no cells. -/
structure Aside (l : Nat) (w w' : World) : Prop where
  turn : Turn (· = l) w w'
  no : ∀ cs t f, w.heap[l]? ≠ some (.cells cs t f)
theorem aside_put {w : World} {l : Nat} {o : Obj} (h : w.heap[l]? = some o) (ho : o.isCells = false) (o' : Obj) : Aside l w (w.putObj l o') :=
  ⟨turn_put w l o', fun cs t f e => by rw [h] at e; cases e; cases ho⟩
theorem aside_alloc {w : World} {l : Nat} (h : w.heap.size ≤ l) (o : Obj) : Aside l w (w.alloc o) := ⟨turn_alloc _ w o, fun cs t f e => by rw [Array.getElem?_eq_none h] at e; cases e⟩
theorem Aside.cell {l : Nat} {w w' : World} (h : Aside l w w') {a : Addr} {v : Value} (hc : w.cell? a = some v) : w'.cell? a = some v := by
  have hlt := World.block_lt_of_cell? w _ hc
  by_cases e : a.block = l
  · exfalso
    unfold World.cell? at hc
    cases ho : w.heap[a.block]? with
    | none => simp [ho] at hc
    | some o =>
      rw [ho] at hc
      rw [e] at ho
      cases o <;> first | exact h.no _ _ _ ho | simp at hc
  · exact (h.turn.cell hlt e).trans hc
theorem Aside.frozen {l : Nat} {w w' : World} (h : Aside l w w') {a : Addr} {v : Value} (hc : w.cell? a = some v) : w'.frozen? a = w.frozen? a := by
  have hlt := World.block_lt_of_cell? w _ hc
  by_cases e : a.block = l
  · exfalso
    unfold World.cell? at hc
    cases ho : w.heap[a.block]? with
    | none => simp [ho] at hc
    | some o =>
      rw [ho] at hc
      rw [e] at ho
      cases o <;> first | exact h.no _ _ _ ho | simp at hc
  · exact h.turn.frozen hlt e
theorem Aside.block {l : Nat} {w w' : World} (h : Aside l w w') {k : Nat} {cs : Array Value} {t : TypeId} {f : Nat × Nat} (hk : w.heap[k]? = some (.cells cs t f)) : w'.heap[k]? = some (.cells cs t f) :=
  (h.turn.block k (lt_of_block hk) (fun e => h.no _ _ _ (e ▸ hk))).trans hk

/-- How a round of the body ends. -/
def roundEnd (Kp : World → World → Prop) (I : World → Prop) (Ix : Code → World → Prop) (W : World) : Exit → Act → World → Prop
  | .normal, _, W' => Kp W W' ∧ I W'
  | .ret, _, W' => Kp W W' ∧ Ix .ret W'
  | .exit id, _, W' => Kp W W' ∧ Ix (.exit id) W'
  | _, _, _ => False
theorem keeps_of_turn {N : Nat → Prop} {B : Nat} {W W' : World} (h : Turn N W W') (hN : ∀ k, N k → k < B) : KeepsFrom B W W' :=
  ⟨h.size, fun k o hB hk _ => (h.block k (Array.getElem?_eq_some_iff.1 hk).1 (fun x => by have := hN k x; omega)).trans hk⟩

/-- What the iterator promises: the rounds at d 0, .., d (n - 1), in turn, as long as they say 'yes'. -/
def Rounds (gf : Nat) (args : Value → Array Value) (d : Nat → Int) (n : Nat) (B : World → Prop) : Prop :=
  ∀ (l : Nat) (J : Nat → World → Prop) (Jx : World → Prop) (W : World), (∀ i X, J i X → B X) →
    (∀ i X, i < n → J i X → YieldAt Fence.wide 1 Tryz.prog l #[.int .i64 (d i)] X fun e X' => (e = .returned (.bool true) ∧ J (i + 1) X') ∨ (e = .returned (.bool false) ∧ Jx X')) →
    J 0 W → CallsIn Fence.wide 2 Tryz.prog gf (args (.func (.yield l) #[] #[])) W fun e W' => (∃ v, e = .returned v) ∧ (J n W' ∨ Jx W')

theorem wp_over {Kp : World → World → Prop} {g : Operand} {ps : Array Tmp} {assign body : Code} {Q : Exit → Act → World → Prop} {a : Act} {w : World} {gf : Nat} {rv : Value} {d : Nat → Int} {n : Nat} {B : World → Prop}
    (hg : a.eval g = .func (.func gf) #[rv] #[]) (eg : ∀ args w, (callFunc gf args).run Tryz.prog w = .ok (.enter gf args) w) (hseq : Rounds gf (fun y => #[rv, y]) d n B) (hps : ps.size = 1)
    (I : Nat → World → Prop) (Ix : Code → World → Prop) (hB : ∀ i X, I i X → B X)
    (hI : ∀ i X X' l, w.heap.size ≤ l → Aside l X X' → I i X → I i X') (hIx : ∀ c X X' l, w.heap.size ≤ l → Aside l X X' → Ix c X → Ix c X')
    (hN : ∀ X X', Kp X X' → KeepsFrom w.heap.size X X') (h0 : I 0 w) (a₁ : Nat → Act)
    (hassign : ∀ (l i : Nat) (X : World) (K : Act → World → Prop), i < n → K (a₁ i) X →
      assign.wpIn (Fence.wide.inRound l) 1 Tryz.prog (Exit.then K (fun _ _ _ => False)) { tmps := (ps.zip #[.int .i64 (d i)]).foldl (fun t (p, v) => t.setIfInBounds p v) a.tmps, defers := [] } X)
    (hbody : ∀ (l i : Nat) (X : World), i < n → w.heap.size ≤ X.heap.size → I i X → body.wpIn (Fence.wide.inRound l) 1 Tryz.prog (roundEnd Kp (I (i + 1)) Ix X) (a₁ i) X)
    (hdone : ∀ (D : Nat) (X : World), w.heap.size ≤ D → I n X → X.heap[D]? = some (.deferred (some [])) → Q .normal { a with defers := { target := .collected D, args := #[] } :: a.defers } X)
    (hstop : ∀ (D : Nat) (c : Code) (X : World), w.heap.size ≤ D → Ix c X → X.heap[D]? = some (.deferred (some [])) → c.wpIn Fence.wide 3 Tryz.prog Q { a with defers := { target := .collected D, args := #[] } :: a.defers } X) :
    (Code.rangeFunc g ps assign body).wpIn Fence.wide 3 Tryz.prog Q a w := by
  refine wpIn_rangeFunc fun fn _ => ?_
  obtain ⟨rc, hrc⟩ : ∃ rc : LoopState → Option Code → Loop, rc = fun st pe => { state := st, pending := pe, fn := fn, tmps := a.tmps, params := ps, assign := assign, body := body, defers := w.heap.size } := ⟨_, rfl⟩
  obtain ⟨l, hl⟩ : ∃ l, l = w.heap.size + 1 := ⟨_, rfl⟩
  obtain ⟨W1, hW1⟩ : ∃ W1, W1 = (w.alloc (.deferred (some []))).alloc (.loop (rc .ready none)) := ⟨_, rfl⟩
  have sz : (w.alloc (.deferred (some []))).heap.size = w.heap.size + 1 := by simp
  have hL : W1.heap[l]? = some (.loop (rc .ready none)) := by
    rw [hW1, hl, ← sz]; exact World.alloc_heap_new _ _
  have hD : W1.heap[w.heap.size]? = some (.deferred (some [])) := by
    rw [hW1]; exact (Below.heap_alloc _ _ _ (by rw [sz]; omega)).trans (World.alloc_heap_new w _)
  have hI1 : I 0 W1 := by
    rw [hW1]
    exact hI 0 _ _ l (by omega) (aside_alloc (by rw [sz]; omega) _) (hI 0 _ _ l (by omega) (aside_alloc (by omega) _) h0)
  refine ⟨l, [{ target := .collected w.heap.size, args := #[] }], W1, { target := .fn (.func gf) #[], args := #[rv, .func (.yield l) #[] #[]] }, W1, gf, #[rv, .func (.yield l) #[] #[]], W1, ?_, ?_, fun _ _ => trivial, ?_, fun _ => by omega, ?_⟩
  · rw [hW1, hl, hrc]; exact run_enterLoop_outer _ _ _ _ _
  · simp only [resolve, hg]
    simp [go_sem]
  · simp [invoke, go_sem, eg]
  · refine (hseq l (fun i X => I i X ∧ X.heap[l]? = some (.loop (rc .ready none)) ∧ X.heap[w.heap.size]? = some (.deferred (some [])))
      (fun X => ∃ c, Ix c X ∧ X.heap[l]? = some (.loop (rc .done (some c))) ∧ X.heap[w.heap.size]? = some (.deferred (some []))) W1 (fun i X h => hB i X h.1) ?_ ⟨hI1, hL, hD⟩).mono ?_
    · rintro i X hi ⟨hx, hl1, hd1⟩
      have hy := run_yield (P := Tryz.prog) (args := #[.int .i64 (d i)]) hl1 (by rw [hrc]; exact hps.symm)
      rw [hrc] at hy
      refine ⟨fn, _, assign, body, hy, roundIn_of_wpIn trivial (hassign l i X _ hi ⟨_, run_beginRound hl1 (by rw [hrc]), ?_⟩)⟩
      obtain ⟨X2, hX2⟩ : ∃ X2, X2 = X.putObj l (.loop { rc .ready none with state := .busy }) := ⟨_, rfl⟩
      have hlt : l < X.heap.size := (Array.getElem?_eq_some_iff.1 hl1).1
      have hta : Aside l X X2 := by rw [hX2]; exact aside_put hl1 rfl _
      have ht := hta.turn
      have hl2 : X2.heap[l]? = some (.loop { rc .ready none with state := .busy }) := by rw [hX2]; exact World.putObj_heap_same hlt
      have hd2 : X2.heap[w.heap.size]? = some (.deferred (some [])) := (ht.block _ (by omega) (by omega)).trans hd1
      have h2 : I i X2 := hI i X X2 l (by omega) hta hx
      rw [← hX2]
      refine wpIn_mono (hbody l i X2 hi (by rw [hX2]; simp; omega) h2) ?_
      have fin : ∀ (jump : Option Code) (X3 : World), Kp X2 X3 → ∃ X4, (Instr.endRound l jump).run Tryz.prog X3 = .ok (.bool jump.isNone) X4 ∧ Aside l X3 X4 ∧
          X4.heap[l]? = some (.loop (rc (if jump.isNone then .ready else .done) jump)) ∧ X4.heap[w.heap.size]? = some (.deferred (some [])) := fun jump X3 h3 => by
        have e3 : X3.heap[l]? = some (.loop { rc .ready none with state := .busy }) := (hN _ _ h3).same _ _ (by omega) hl2 rfl
        have e4 : X3.heap[w.heap.size]? = some (.deferred (some [])) := (hN _ _ h3).same _ _ (Nat.le_refl _) hd2 rfl
        have hlt3 : l < X3.heap.size := (Array.getElem?_eq_some_iff.1 e3).1
        refine ⟨_, run_endRound (P := Tryz.prog) jump e3, aside_put e3 rfl _, ?_, (World.putObj_heap_other (by omega)).trans e4⟩
        rw [hrc]
        exact World.putObj_heap_same hlt3
      rintro e a3 X3 hp
      cases e with
      | normal =>
        obtain ⟨h3, hi3⟩ := hp
        obtain ⟨X4, hr, ht4, hl4, hd4⟩ := fin none X3 h3
        exact ⟨_, _, hr, .inl ⟨rfl, hI _ _ _ l (by omega) ht4 hi3, hl4, hd4⟩⟩
      | ret =>
        obtain ⟨h3, hi3⟩ := hp
        obtain ⟨X4, hr, ht4, hl4, hd4⟩ := fin (some .ret) X3 h3
        exact ⟨_, _, hr, .inr ⟨rfl, .ret, hIx _ _ _ l (by omega) ht4 hi3, hl4, hd4⟩⟩
      | exit id =>
        obtain ⟨h3, hi3⟩ := hp
        obtain ⟨X4, hr, ht4, hl4, hd4⟩ := fin (some (.exit id)) X3 h3
        exact ⟨_, _, hr, .inr ⟨rfl, .exit id, hIx _ _ _ l (by omega) ht4 hi3, hl4, hd4⟩⟩
      | goto t => exact hp.elim
      | panic ch => exact hp.elim
      | outgrown => exact hp.elim
    · rintro e W2 ⟨⟨v, rfl⟩, (⟨hi, hl2, hd2⟩ | ⟨c, hi, hl2, hd2⟩)⟩
      · refine ⟨none, _, by have := run_endLoop (P := Tryz.prog) hl2 (by rw [hrc]; simp); rw [hrc] at this; exact this, hdone _ _ (Nat.le_refl _) (hI _ _ _ l (by omega) (aside_put hl2 rfl _) hi) ((World.putObj_heap_other (by omega)).trans hd2)⟩
      · refine ⟨some c, _, by have := run_endLoop (P := Tryz.prog) hl2 (by rw [hrc]; simp); rw [hrc] at this; exact this, hstop _ c _ (Nat.le_refl _) (hIx _ _ _ l (by omega) (aside_put hl2 rfl _) hi) ((World.putObj_heap_other (by omega)).trans hd2)⟩

end Go.Proofs.YtegmeoghonolcaaGreat

/-
  A bank in memory, and its small functions by contract.
-/
namespace Go.Proofs.YtegmeoghonolcaaGreat
open Go.RowKit Go.Maps

/-- What a bank is, besides its rack: a geometry and a member. -/
structure Bn where
  d : Int
  r : Int
  s : Int
  e : Int
  sl : Int
  st : Int
/-- A member, as a value. -/
abbrev mb (e sl st : Int) : Value := .agg #[.int .i64 e, .int .i64 sl, .int .i64 st]
/-- The bank B, of the rack in block p, lies in block b. -/
structure BnAt (w : World) (b p : Nat) (B : Bn) : Prop where
  row : w.heap[b]? = some (.cells #[.pointer (some ⟨p, 0, none⟩), .int .i64 B.d, .int .i64 B.r, .int .i64 B.s, .int .i64 B.e, .int .i64 B.sl, .int .i64 B.st] 89 (0, 0))

section
variable {w w' : World} {b p : Nat} {B : Bn}
theorem BnAt.lt (h : BnAt w b p B) : b < w.heap.size := lt_of_block h.row
theorem BnAt.c0 (h : BnAt w b p B) : w.cell? ⟨b, 0, none⟩ = some (.pointer (some ⟨p, 0, none⟩)) := by rw [cell_of_row w _ _ _ _ (0, 0) h.row]; rfl
theorem BnAt.c1 (h : BnAt w b p B) : w.cell? ⟨b, 1, none⟩ = some (.int .i64 B.d) := by rw [cell_of_row w _ _ _ _ (0, 0) h.row]; rfl
theorem BnAt.c2 (h : BnAt w b p B) : w.cell? ⟨b, 2, none⟩ = some (.int .i64 B.r) := by rw [cell_of_row w _ _ _ _ (0, 0) h.row]; rfl
theorem BnAt.c3 (h : BnAt w b p B) : w.cell? ⟨b, 3, none⟩ = some (.int .i64 B.s) := by rw [cell_of_row w _ _ _ _ (0, 0) h.row]; rfl
theorem BnAt.c5 (h : BnAt w b p B) : w.cell? ⟨b, 5, none⟩ = some (.int .i64 B.sl) := by rw [cell_of_row w _ _ _ _ (0, 0) h.row]; rfl
theorem BnAt.c6 (h : BnAt w b p B) : w.cell? ⟨b, 6, none⟩ = some (.int .i64 B.st) := by rw [cell_of_row w _ _ _ _ (0, 0) h.row]; rfl
theorem BnAt.turn {N : Nat → Prop} (h : BnAt w b p B) (ht : Turn N w w') (hn : ¬ N b) : BnAt w' b p B := ⟨(ht.block _ h.lt hn).trans h.row⟩
theorem BnAt.next (h : BnAt w b p B) (hb : Below w.heap.size w w') : BnAt w' b p B := ⟨(hb.block _ h.lt).trans h.row⟩
theorem BnAt.drew (h : BnAt w b p B) : BnAt w.drew b p B := ⟨h.row⟩
theorem BnAt.drewN (h : BnAt w b p B) (q : Nat) : BnAt (w.drewN q) b p B := h.next (below_drewN (Below.refl _ _) q)
end

/-- The disk of a slot. -/
def Bn.disk (B : Bn) (i : Int) : Int := if B.st ≠ 0 ∧ i = B.sl then B.d else i
/-- Has the array such a slot? -/
def hasSl (d i : Int) : Bool := decide (0 ≤ i ∧ i < d)
/-- Can there be such a member? -/
def memOk (d sl st : Int) : Bool := decide (st = 0 ∨ ((st = 1 ∨ st = 2) ∧ 0 ≤ sl ∧ sl < d))
/-- How many sectors a disk has to have. -/
noncomputable def sect (d r s : Int) : Int := open Classical in if Rt d r s then 5 + s * r else 0
theorem sectors_all (d r s : Int) (w : World) : Calls Tryz.prog 8 #[gv d r s] w fun e w' => e = .returned (.int .i64 (sect d r s)) ∧ Below w.heap.size w w' := by
  unfold sect
  by_cases h : Rt d r s
  · rw [if_pos h]; exact sectors_yes d r s w h
  · rw [if_neg h]; exact sectors_no d r s w h

section
variable {w : World} {b p : Nat} {B : Bn}
theorem spare_any (h : BnAt w b p B) : Calls Tryz.prog 73 #[.pointer (some ⟨b, 0, none⟩)] w fun e w' => e = .returned (.int .i64 B.d) ∧ w' = w := by
  have c1 := h.c1
  go_enter Tryz.func73, Tryz.ntmps73
  go_wp2_with (fail)
  go_ret
  exact ⟨rfl, rfl⟩
theorem disk_any (i : Int) (h : BnAt w b p B) : Calls Tryz.prog 72 #[.pointer (some ⟨b, 0, none⟩), .int .i64 i] w fun e w' => e = .returned (.int .i64 (B.disk i)) ∧ w' = w := by
  have c5 := h.c5
  have c6 := h.c6
  unfold Bn.disk
  have hs := spare_any h
  by_cases h0 : B.st = 0
  · rw [if_neg (by simp [h0])]
    go_enter Tryz.func72, Tryz.ntmps72
    go_wp2_with (fail)
    go_ret
    exact ⟨rfl, rfl⟩
  · by_cases h1 : i = B.sl
    · rw [if_pos ⟨h0, h1⟩]
      go_enter Tryz.func72, Tryz.ntmps72
      go_wp2_with (go_at_call 73; refine hs.mono ?_; rintro e w' ⟨rfl, rfl⟩)
      go_ret
      exact ⟨rfl, rfl⟩
    · rw [if_neg (fun x => h1 x.2)]
      have h2 : (i == B.sl) = false := by simpa using h1
      go_enter Tryz.func72, Tryz.ntmps72
      go_wp2_with (fail)
      go_ret
      exact ⟨rfl, rfl⟩
theorem joining_any (i : Int) (h : BnAt w b p B) : Calls Tryz.prog 135 #[.pointer (some ⟨b, 0, none⟩), .int .i64 i] w fun e w' => e = .returned (.bool (decide (B.st = 1 ∧ i = B.sl))) ∧ w' = w := by
  have c5 := h.c5
  have c6 := h.c6
  by_cases h0 : B.st = 1
  · by_cases h1 : i = B.sl
    · rw [decide_eq_true (⟨h0, h1⟩ : B.st = 1 ∧ i = B.sl)]
      go_enter Tryz.func135, Tryz.ntmps135
      go_wp2_with (fail)
      go_ret
      exact ⟨rfl, rfl⟩
    · rw [decide_eq_false (fun x : B.st = 1 ∧ i = B.sl => h1 x.2)]
      have h2 : (i == B.sl) = false := by simpa using h1
      go_enter Tryz.func135, Tryz.ntmps135
      go_wp2_with (fail)
      go_ret
      exact ⟨rfl, rfl⟩
  · rw [decide_eq_false (fun x : B.st = 1 ∧ i = B.sl => h0 x.1)]
    go_enter Tryz.func135, Tryz.ntmps135
    go_wp2_with (fail)
    go_ret
    exact ⟨rfl, rfl⟩
end
theorem hasSlot_any (d r s i : Int) (w : World) : Calls Tryz.prog 71 #[gv d r s, .int .i64 i] w fun e w' => e = .returned (.bool (hasSl d i)) ∧ Below w.heap.size w w' := by
  by_cases h0 : 0 ≤ i
  · by_cases h1 : i < d
    · rw [show hasSl d i = true from decide_eq_true ⟨h0, h1⟩]
      go_enter Tryz.func71, Tryz.ntmps71
      go_wp2_with (fail)
      go_ret
      exact ⟨rfl, (Below.refl _ _).alloc (Nat.le_refl _) _⟩
    · rw [show hasSl d i = false from decide_eq_false (fun x => h1 x.2)]
      go_enter Tryz.func71, Tryz.ntmps71
      go_wp2_with (fail)
      go_ret
      exact ⟨rfl, (Below.refl _ _).alloc (Nat.le_refl _) _⟩
  · rw [show hasSl d i = false from decide_eq_false (fun x => h0 x.1)]
    go_enter Tryz.func71, Tryz.ntmps71
    go_wp2_with (fail)
    go_ret
    exact ⟨rfl, (Below.refl _ _).alloc (Nat.le_refl _) _⟩
theorem memberOf_any (d r s e sl st : Int) (w : World) : Calls Tryz.prog 32 #[mb e sl st, gv d r s] w fun e w' => e = .returned (.bool (memOk d sl st)) ∧ Below w.heap.size w w' := by
  have hb : ∀ x y : Obj, Below w.heap.size w ((w.alloc x).alloc y) := fun x y => ((Below.refl _ _).alloc (Nat.le_refl _) _).alloc (by simp) _
  by_cases h0 : st = 0
  · rw [show memOk d sl st = true from decide_eq_true (.inl h0)]
    go_enter Tryz.func32, Tryz.ntmps32
    go_wp2_with (fail)
    go_ret
    exact ⟨rfl, hb _ _⟩
  · by_cases h1 : st = 1 ∨ st = 2
    · rw [show memOk d sl st = hasSl d sl by unfold memOk hasSl; rw [decide_eq_decide]; omega]
      have hs := fun w => hasSlot_any d r s sl w
      rcases h1 with h1 | h1
      · subst h1
        clear h0
        go_enter Tryz.func32, Tryz.ntmps32
        go_wp2_with (go_at_call 71; refine (hs _).mono ?_; rintro e w' ⟨rfl, hb'⟩)
        go_ret
        exact ⟨rfl, (hb _ _).trans (hb'.mono (hb _ _).size)⟩
      · subst h1
        clear h0
        go_enter Tryz.func32, Tryz.ntmps32
        go_wp2_with (go_at_call 71; refine (hs _).mono ?_; rintro e w' ⟨rfl, hb'⟩)
        go_ret
        exact ⟨rfl, (hb _ _).trans (hb'.mono (hb _ _).size)⟩
    · rw [show memOk d sl st = false from decide_eq_false (fun x => x.elim h0 fun y => h1 y.1)]
      have h2 : ¬ st = 1 := fun x => h1 (.inl x)
      have h3 : ¬ st = 2 := fun x => h1 (.inr x)
      clear h1
      go_enter Tryz.func32, Tryz.ntmps32
      go_wp2_with (fail)
      go_ret
      exact ⟨rfl, hb _ _⟩

end Go.Proofs.YtegmeoghonolcaaGreat

/-
  The bank's iterator over its disks, by contract.
-/
namespace Go.Proofs.YtegmeoghonolcaaGreat
open Go.RowKit Go.Maps
attribute [local go_sem] Oper.semAt_some

/-- How many disks a bank has. -/
def Bn.num (B : Bn) : Nat := if B.st = 0 then B.d.toNat + 1 else B.d.toNat

set_option maxHeartbeats 1000000 in
theorem disks_rounds (b p n : Nat) (B : Bn) (hd : B.d = (n : Int)) (hn : n ≤ 16) :
    Rounds 36 (fun y => #[.pointer (some ⟨b, 0, none⟩), y]) (fun i => B.disk (i : Int)) B.num (fun X => BnAt X b p B) := by
  intro l J Jx W hB hY h0
  have HB := Lib.hid hB
  have HY := Lib.hid hY
  have hb0 := hB 0 W h0
  clear hB hY
  have c1 := hb0.c1
  have hnum : Hid (B.num = if B.st = 0 then n + 1 else n) := by
    unfold Hid Bn.num
    rw [hd, Int.toNat_natCast]
  rw [hd] at c1
  refine callsIn_of_wp Tryz.func36 rfl trivial ?_ rfl
  simp only [Tryz.ntmps36, List.size_toArray, List.length_cons, List.length_nil, Nat.reduceAdd, Nat.reduceSub, Array.replicate_succ, Array.replicate_zero, List.push_toArray, List.append_toArray, List.nil_append, List.cons_append]
  gi_wp2
  gi_loopw [10] (fun i wr => ∃ k : Nat, k ≤ n ∧ i = .int .i64 k ∧ J k wr) (fun i _ => n - (RowKit.intOf i).toNat)
  case atStart => exact ⟨0, Nat.zero_le _, rfl, h0⟩
  case round =>
    obtain ⟨k, hk, rfl, hJ⟩ := hrel
    have hbk := HB.out k wr hJ
    by_cases hlt : k < n
    · obtain ⟨fn, tmps, assign, body, hy, hR⟩ := HY.out k wr (by rw [hnum.out]; split <;> omega) hJ
      have hdk := disk_any (k : Int) hbk
      gi_wp2_with (refine ⟨trivial, ?_⟩; gi_at_call 72; refine (callsIn_wide.2 hdk).mono ?_; clear hdk; rintro e w' ⟨rfl, rfl⟩)
      refine hR.mono ?_
      rintro e W' (⟨rfl, hJ'⟩ | ⟨rfl, hx⟩)
      · gi_wp2
        go_roundw
        case rel => exact ⟨k + 1, by omega, by go_num, hJ'⟩
        case measure => simp [RowKit.intOf]; omega
      · gi_wp2
        refine bodyPost_ret (results_none rfl _ _ _) rfl ?_
        exact ⟨⟨_, rfl⟩, .inr hx⟩
    · obtain rfl : k = n := by omega
      have c6 := hbk.c6
      by_cases hst : B.st = 0
      · have e1 : B.num = k + 1 := by rw [hnum.out, if_pos hst]
        obtain ⟨fn, tmps, assign, body, hy, hR⟩ := HY.out k wr (by omega) hJ
        have ed : B.disk (k : Int) = (k : Int) := by unfold Bn.disk; rw [if_neg (fun x => x.1 hst)]
        rw [ed] at hy
        have hsp := spare_any hbk
        rw [hd] at hsp
        gi_wp2_with (refine ⟨trivial, ?_⟩; gi_at_call 73; refine (callsIn_wide.2 hsp).mono ?_; clear hsp; rintro e w' ⟨rfl, rfl⟩)
        refine hR.mono ?_
        rintro e W' (⟨rfl, hJ'⟩ | ⟨rfl, hx⟩)
        · gi_wp2
          go_end0
          exact ⟨⟨_, rfl⟩, .inl (by rw [e1]; exact hJ')⟩
        · gi_wp2
          go_end0
          exact ⟨⟨_, rfl⟩, .inr hx⟩
      · have e1 : B.num = k := by rw [hnum.out, if_neg hst]
        have hz : (B.st == 0) = false := by simpa using hst
        gi_wp2
        go_end0
        exact ⟨⟨_, rfl⟩, .inl (by rw [e1]; exact hJ)⟩

end Go.Proofs.YtegmeoghonolcaaGreat

/-
  Disks gone over, one behind the other, as long as none answers that the power is off.
-/
namespace Go.Proofs.YtegmeoghonolcaaGreat
open Go.RowKit Go.Maps

/-- Has it been stopped? What is answered. What is left. -/
def goN {σ : Type} (st : σ → Int → σ) (er : σ → Int → Int) (ds : Nat → Int) (s : σ) : Nat → Bool × Int × σ
  | 0 => (false, 0, s)
  | i + 1 => if (goN st er ds s i).1 then goN st er ds s i else
      if er (goN st er ds s i).2.2 (ds i) = 12 then (true, 12, st (goN st er ds s i).2.2 (ds i))
      else (false, if er (goN st er ds s i).2.2 (ds i) = 11 then 11 else (goN st er ds s i).2.1, st (goN st er ds s i).2.2 (ds i))
section
variable {σ : Type} {st : σ → Int → σ} {er : σ → Int → Int} {ds : Nat → Int} {s : σ} {i : Nat}
theorem goN_on (h : (goN st er ds s i).1 = true) : goN st er ds s (i + 1) = goN st er ds s i := by rw [goN, if_pos h]
theorem goN_end (h : (goN st er ds s i).1 = true) : ∀ j, i ≤ j → goN st er ds s j = goN st er ds s i := by
  intro j hj
  induction j with
  | zero => rw [Nat.le_zero.1 hj]
  | succ j ih =>
    rcases Nat.lt_or_ge i (j + 1) with h1 | h1
    · have e := ih (by omega)
      rw [goN_on (by rw [e]; exact h), e]
    · rw [Nat.le_antisymm hj h1]
theorem goN_stop (h : (goN st er ds s i).1 = false) (h12 : er (goN st er ds s i).2.2 (ds i) = 12) : goN st er ds s (i + 1) = (true, 12, st (goN st er ds s i).2.2 (ds i)) := by
  rw [goN, if_neg (by rw [h]; simp), if_pos h12]
theorem goN_go (h : (goN st er ds s i).1 = false) (h12 : er (goN st er ds s i).2.2 (ds i) ≠ 12) :
    goN st er ds s (i + 1) = (false, if er (goN st er ds s i).2.2 (ds i) = 11 then 11 else (goN st er ds s i).2.1, st (goN st er ds s i).2.2 (ds i)) := by
  rw [goN, if_neg (by rw [h]; simp), if_neg h12]
theorem goN_keep (P : σ → Prop) (h0 : P s) (hs : ∀ x d, P x → P (st x d)) : ∀ i, P (goN st er ds s i).2.2 := by
  intro i
  induction i with
  | zero => exact h0
  | succ i ih =>
    cases h1 : (goN st er ds s i).1 with
    | true => rw [goN_on h1]; exact ih
    | false =>
      by_cases h2 : er (goN st er ds s i).2.2 (ds i) = 12
      · rw [goN_stop h1 h2]; exact hs _ _ ih
      · rw [goN_go h1 h2]; exact hs _ _ ih
end

section
variable {w w' : World} {M : Nat → Prop} {L : Lay} {R : Rk} {l : Nat}
theorem Bys.aside {a : Option Addr} {n : Nat} {zs : List Int} (h : Bys w a n zs) (ha : Aside l w w') : Bys w' a n zs := by
  refine ⟨h.len, h.small, ?_⟩
  rcases h.place with h0 | ⟨b, off, e, hlt, hc⟩
  · exact .inl h0
  · exact .inr ⟨b, off, e, Nat.lt_of_lt_of_le hlt ha.turn.size, fun i hi => ha.cell (hc i hi)⟩
theorem DrvAt.aside {S db o lb mb : Nat} {d : Dk} (h : DrvAt w M S db o lb mb d) (ha : Aside l w w') (hm : mb ≠ l) : DrvAt w' M S db o lb mb d := by
  obtain ⟨n, D, hc⟩ := h.cache
  refine ⟨ha.cell h.c0, ha.cell h.c1, ha.cell h.c2, ha.cell h.c3, ⟨ha.block h.blk.row⟩, h.len, h.small, ⟨n, D, ?_⟩, h.big⟩
  exact ⟨ownsMap_of_row hc.own (ha.turn.block _ hc.own.lt hm), hc.has, fun s zs hs hC => by
    obtain ⟨g, hg, hat, hy⟩ := hc.lies s zs hs hC
    exact ⟨g, hg, hat, hy.aside ha⟩, hc.keys⟩
theorem RackAt.aside (h : RackAt w M L R) (ha : Aside l w w') (hl : ¬ L.M R.n l) : RackAt w' M L R := by
  obtain ⟨cs, hcs⟩ := h.rows
  exact ⟨ha.block h.row, ⟨cs, ha.block hcs⟩, fun i hi => (h.drv i hi).aside ha (fun e => hl (e ▸ L.M_mb hi)), h.apart, h.sub, fun k hk => Nat.lt_of_lt_of_le (h.low k hk) ha.turn.size, h.few, h.fewS, h.big⟩
/-- More blocks may turn, that are new. -/
def also (M N : Nat → Prop) : Nat → Prop := fun k => M k ∨ N k
theorem RackAt.also {N : Nat → Prop} (h : RackAt w M L R) (hb : Below w.heap.size w w') (hN : ∀ k, N k → w.heap.size ≤ k ∧ k < w'.heap.size) : RackAt w' (also M N) L R :=
  h.wide hb (fun _ x => x.elim .inl fun y => .inr (hN _ y).1) (fun _ x => .inl x) (fun k x => x.elim (fun y => Nat.lt_of_lt_of_le (h.low k y) hb.size) fun y => (hN _ y).2)
theorem RackAt.narrow {M' : Nat → Prop} (h : RackAt w M' L R) (hM : ∀ k, M k → M' k) (hs : ∀ k, L.M R.n k → M k) : RackAt w M L R :=
  ⟨h.row, h.rows, fun i hi => by
    have hd := h.drv i hi
    obtain ⟨n, D, hc⟩ := hd.cache
    exact ⟨hd.c0, hd.c1, hd.c2, hd.c3, hd.blk, hd.len, hd.small, ⟨n, D, hc.own, hc.has, fun s zs hs hC => by
      obtain ⟨g, hg, hat, hy⟩ := hc.lies s zs hs hC
      exact ⟨g, fun x => hg (hM _ x), hat, hy⟩, hc.keys⟩, hd.big⟩, h.apart, hs, fun k hk => h.low k (hM k hk), h.few, h.fewS, h.big⟩
theorem RackAt.store (h : RackAt w M L R) {b i : Nat} (hb : M b) (hn : ¬ L.M R.n b) (u : Value) : RackAt (w.setCell ⟨b, i, none⟩ u) M L R :=
  h.keep (turn_set w b i u) (fun _ e => e ▸ hb) (fun _ hk e => hn (e ▸ hk))
theorem BnAt.aside {b p : Nat} {B : Bn} (h : BnAt w b p B) (ha : Aside l w w') : BnAt w' b p B := ⟨ha.block h.row⟩
theorem Turn.aside {N : Nat → Prop} {w0 : World} (h : Turn N w0 w) (ha : Aside l w w') (hl : w0.heap.size ≤ l) : Turn N w0 w' :=
  ⟨ha.turn.os.trans h.os, ha.turn.tape.trans h.tape, ha.turn.output.trans h.output, Nat.le_trans h.size ha.turn.size, fun k hk hn => (ha.turn.block k (Nat.lt_of_lt_of_le hk h.size) (by omega)).trans (h.block k hk hn)⟩
theorem Turn.off {N : Nat → Prop} {w0 : World} {b i : Nat} (h : Turn N w0 w) (hb : w0.heap.size ≤ b) (u : Value) : Turn N w0 (w.setCell ⟨b, i, none⟩ u) :=
  ⟨h.os, h.tape, h.output, by simpa using h.size, fun k hk hn => (Below.heap_setCell w _ u k (by show k ≠ b; omega)).trans (h.block k hk hn)⟩
end

end Go.Proofs.YtegmeoghonolcaaGreat

/-
  Ranging over a closure that hands out any values, with rounds that are passed over, and loop variables that have a block.
-/
namespace Go.Proofs.YtegmeoghonolcaaGreat
open Go.RowKit Go.Maps
set_option linter.unusedVariables false

/-- What only speaks of cells that are there, and of blocks ahead of C. -/
structure Abides (C : Nat) (p : World → Prop) : Prop where
  below : ∀ X X', p X → Below X.heap.size X X' → p X'
  aside : ∀ l X X', C ≤ l → p X → Aside l X X' → p X'
theorem Abides.mono {C C' : Nat} {p : World → Prop} (h : Abides C p) (hC : C ≤ C') : Abides C' p := ⟨h.below, fun l X X' hl => h.aside l X X' (Nat.le_trans hC hl)⟩
theorem Abides.and {C : Nat} {p q : World → Prop} (h : Abides C p) (k : Abides C q) : Abides C (fun X => p X ∧ q X) :=
  ⟨fun X X' hp hb => ⟨h.below X X' hp.1 hb, k.below X X' hp.2 hb⟩, fun l X X' hl hp ha => ⟨h.aside l X X' hl hp.1 ha, k.aside l X X' hl hp.2 ha⟩⟩
theorem Abides.pure (C : Nat) (p : Prop) : Abides C (fun _ => p) := ⟨fun _ _ h _ => h, fun _ _ _ _ h _ => h⟩
theorem Abides.ex {α : Type} {C : Nat} {p : α → World → Prop} (h : ∀ x, Abides C (p x)) : Abides C (fun X => ∃ x, p x X) :=
  ⟨fun X X' ⟨x, hx⟩ hb => ⟨x, (h x).below X X' hx hb⟩, fun l X X' hl ⟨x, hx⟩ ha => ⟨x, (h x).aside l X X' hl hx ha⟩⟩
theorem Abides.heap {C : Nat} {k : Nat} {o : Obj} (hk : k < C) : Abides C (fun X => X.heap[k]? = some o) :=
  ⟨fun X X' h hb => (hb.block k (Array.getElem?_eq_some_iff.1 h).1).trans h, fun l X X' hl h ha => (ha.turn.block k (Array.getElem?_eq_some_iff.1 h).1 (by omega)).trans h⟩

/-- What a closure that hands out values promises: the rounds i < n that are not passed over, in turn, each at a value as D says, as long as they say 'yes'. -/
def Rounds2 (gf : Nat) (lb : Array Value) (n : Nat) (sk : Nat → Bool) (D : Nat → Value → World → Prop) (B : Nat → World → Prop) : Prop :=
  ∀ (l : Nat) (N : Nat → Prop) (J : Nat → World → Prop) (Jx : World → Prop) (W : World), l < W.heap.size → (∀ k, N k → k < W.heap.size) → (∀ i, Abides W.heap.size (J i)) → Abides W.heap.size Jx → (∀ i X, J i X → B i X) →
    (∀ i X, i < n → sk i = true → J i X → J (i + 1) X) →
    (∀ i v X, i < n → sk i = false → J i X → D i v X → YieldAt Fence.wide 1 Tryz.prog l #[v] X fun e X' => ((e = .returned (.bool true) ∧ J (i + 1) X') ∨ (e = .returned (.bool false) ∧ Jx X')) ∧ Turn (fun k => N k ∨ k = l) X X') →
    J 0 W → CallsIn Fence.wide 2 Tryz.prog gf (#[.func (.yield l) #[] #[]] ++ lb) W fun e W' => (∃ v, e = .returned v) ∧ (J n W' ∨ Jx W')

theorem wp_over2 {N : Nat → Prop} {g : Operand} {ps : Array Tmp} {assign body : Code} {Q : Exit → Act → World → Prop} {a : Act} {w : World} {gf : Nat} {lb : Array Value} {n : Nat} {sk : Nat → Bool} {D : Nat → Value → World → Prop} {B : Nat → World → Prop}
    (hg : a.eval g = .func (.func gf) #[] lb) (eg : ∀ args w, (callFunc gf args).run Tryz.prog w = .ok (.enter gf args) w) (hseq : Rounds2 gf lb n sk D B) (hps : ps.size = 1)
    (I : Nat → World → Prop) (Ix : Code → World → Prop) (Ax : Nat → Act → World → Prop) (hB : ∀ i X, I i X → B i X)
    (hI : ∀ i, Abides w.heap.size (I i)) (hIx : ∀ c, Abides w.heap.size (Ix c)) (hAx : ∀ i a', Abides w.heap.size (Ax i a'))
    (hNl : ∀ k, N k → k < w.heap.size) (h0 : I 0 w)
    (hassign : ∀ (l i : Nat) (v : Value) (X : World) (K : Act → World → Prop), i < n → w.heap.size ≤ X.heap.size → I i X → D i v X → (∀ a' X', Below X.heap.size X X' → Ax i a' X' → K a' X') →
      assign.wpIn (Fence.wide.inRound l) 1 Tryz.prog (Exit.then K (fun _ _ _ => False)) { tmps := (ps.zip #[v]).foldl (fun t (p, v) => t.setIfInBounds p v) a.tmps, defers := [] } X)
    (hskip : ∀ i X, i < n → sk i = true → I i X → I (i + 1) X)
    (hbody : ∀ (l i : Nat) (a' : Act) (X : World), i < n → sk i = false → w.heap.size ≤ X.heap.size → I i X → Ax i a' X → body.wpIn (Fence.wide.inRound l) 1 Tryz.prog (roundEnd (Turn N) (I (i + 1)) Ix X) a' X)
    (hdone : ∀ (D : Nat) (X : World), w.heap.size ≤ D → I n X → X.heap[D]? = some (.deferred (some [])) → Q .normal { a with defers := { target := .collected D, args := #[] } :: a.defers } X)
    (hstop : ∀ (D : Nat) (c : Code) (X : World), w.heap.size ≤ D → Ix c X → X.heap[D]? = some (.deferred (some [])) → c.wpIn Fence.wide 3 Tryz.prog Q { a with defers := { target := .collected D, args := #[] } :: a.defers } X) :
    (Code.rangeFunc g ps assign body).wpIn Fence.wide 3 Tryz.prog Q a w := by
  have hN : ∀ X X', Turn N X X' → KeepsFrom w.heap.size X X' := fun X X' h => keeps_of_turn h hNl
  refine wpIn_rangeFunc fun fn _ => ?_
  obtain ⟨rc, hrc⟩ : ∃ rc : LoopState → Option Code → Loop, rc = fun st pe => { state := st, pending := pe, fn := fn, tmps := a.tmps, params := ps, assign := assign, body := body, defers := w.heap.size } := ⟨_, rfl⟩
  obtain ⟨l, hl⟩ : ∃ l, l = w.heap.size + 1 := ⟨_, rfl⟩
  obtain ⟨W1, hW1⟩ : ∃ W1, W1 = (w.alloc (.deferred (some []))).alloc (.loop (rc .ready none)) := ⟨_, rfl⟩
  have sz : (w.alloc (.deferred (some []))).heap.size = w.heap.size + 1 := by simp
  have hL : W1.heap[l]? = some (.loop (rc .ready none)) := by
    rw [hW1, hl, ← sz]; exact World.alloc_heap_new _ _
  have hD : W1.heap[w.heap.size]? = some (.deferred (some [])) := by
    rw [hW1]; exact (Below.heap_alloc _ _ _ (by rw [sz]; omega)).trans (World.alloc_heap_new w _)
  have hb1 : Below w.heap.size w W1 := by rw [hW1]; exact ((Below.refl _ w).alloc (Nat.le_refl _) _).alloc (by rw [sz]; omega) _
  have hI1 : I 0 W1 := (hI 0).below _ _ h0 hb1
  have hs1 : W1.heap.size = w.heap.size + 2 := by rw [hW1]; simp
  refine ⟨l, [{ target := .collected w.heap.size, args := #[] }], W1, { target := .fn (.func gf) lb, args := #[.func (.yield l) #[] #[]] }, W1, gf, #[.func (.yield l) #[] #[]] ++ lb, W1, ?_, ?_, fun _ _ => trivial, ?_, fun _ => by omega, ?_⟩
  · rw [hW1, hl, hrc]; exact run_enterLoop_outer _ _ _ _ _
  · simp only [resolve, hg]
    simp [go_sem]
  · simp [invoke, go_sem, eg]
  · refine (hseq l N (fun i X => I i X ∧ X.heap[l]? = some (.loop (rc .ready none)) ∧ X.heap[w.heap.size]? = some (.deferred (some [])))
      (fun X => ∃ c, Ix c X ∧ X.heap[l]? = some (.loop (rc .done (some c))) ∧ X.heap[w.heap.size]? = some (.deferred (some []))) W1 (by omega) (fun k hk => by have := hNl k hk; omega)
      (fun i => ((hI i).mono (by omega)).and ((Abides.heap (by omega)).and (Abides.heap (by omega))))
      (Abides.ex fun c => ((hIx c).mono (by omega)).and ((Abides.heap (by omega)).and (Abides.heap (by omega))))
      (fun i X h => hB i X h.1) (fun i X hi hk h => ⟨hskip i X hi hk h.1, h.2⟩) ?_ ⟨hI1, hL, hD⟩).mono ?_
    · rintro i v X hi hsk ⟨hx, hl1, hd1⟩ hDv
      have hlt : l < X.heap.size := (Array.getElem?_eq_some_iff.1 hl1).1
      have hy := run_yield (P := Tryz.prog) (args := #[v]) hl1 (by rw [hrc]; exact hps.symm)
      rw [hrc] at hy
      refine ⟨fn, _, assign, body, hy, roundIn_of_wpIn trivial (hassign l i v X _ hi (by omega) hx hDv fun a' Xa hba hax => ?_)⟩
      have hl1a : Xa.heap[l]? = some (.loop (rc .ready none)) := (hba.block l hlt).trans hl1
      have hd1a : Xa.heap[w.heap.size]? = some (.deferred (some [])) := (hba.block _ (by omega)).trans hd1
      have hxa := (hI i).below _ _ hx hba
      have hlta : l < Xa.heap.size := (Array.getElem?_eq_some_iff.1 hl1a).1
      refine ⟨_, run_beginRound hl1a (by rw [hrc]), ?_⟩
      obtain ⟨X2, hX2⟩ : ∃ X2, X2 = Xa.putObj l (.loop { rc .ready none with state := .busy }) := ⟨_, rfl⟩
      have hta : Aside l Xa X2 := by rw [hX2]; exact aside_put hl1a rfl _
      have ht := hta.turn
      have hl2 : X2.heap[l]? = some (.loop { rc .ready none with state := .busy }) := by rw [hX2]; exact World.putObj_heap_same hlta
      have hd2 : X2.heap[w.heap.size]? = some (.deferred (some [])) := (ht.block _ (by omega) (by omega)).trans hd1a
      have h2 : I i X2 := (hI i).aside l _ _ (by omega) hxa hta
      have h2a : Ax i a' X2 := (hAx i a').aside l _ _ (by omega) hax hta
      rw [← hX2]
      refine wpIn_mono (hbody l i a' X2 hi hsk (by rw [hX2]; simp; omega) h2 h2a) ?_
      have fin : ∀ (jump : Option Code) (X3 : World), Turn N X2 X3 → ∃ X4, (Instr.endRound l jump).run Tryz.prog X3 = .ok (.bool jump.isNone) X4 ∧ Aside l X3 X4 ∧
          X4.heap[l]? = some (.loop (rc (if jump.isNone then .ready else .done) jump)) ∧ X4.heap[w.heap.size]? = some (.deferred (some [])) := fun jump X3 h3 => by
        have e3 : X3.heap[l]? = some (.loop { rc .ready none with state := .busy }) := (hN _ _ h3).same _ _ (by omega) hl2 rfl
        have e4 : X3.heap[w.heap.size]? = some (.deferred (some [])) := (hN _ _ h3).same _ _ (Nat.le_refl _) hd2 rfl
        have hlt3 : l < X3.heap.size := (Array.getElem?_eq_some_iff.1 e3).1
        refine ⟨_, run_endRound (P := Tryz.prog) jump e3, aside_put e3 rfl _, ?_, (World.putObj_heap_other (by omega)).trans e4⟩
        rw [hrc]
        exact World.putObj_heap_same hlt3
      have tn : ∀ X3 X4, Turn N X2 X3 → Aside l X3 X4 → Turn (fun k => N k ∨ k = l) X X4 := fun X3 X4 h3 h4 =>
        (((Turn.of_below hba).trans (hta.turn.mono fun k e => .inr e)).trans (h3.mono fun k e => .inl e)).trans (h4.turn.mono fun k e => .inr e)
      rintro e a3 X3 hp
      cases e with
      | normal =>
        obtain ⟨h3, hi3⟩ := hp
        obtain ⟨X4, hr, ht4, hl4, hd4⟩ := fin none X3 h3
        exact ⟨_, _, hr, .inl ⟨rfl, (hI _).aside l _ _ (by omega) hi3 ht4, hl4, hd4⟩, tn _ _ h3 ht4⟩
      | ret =>
        obtain ⟨h3, hi3⟩ := hp
        obtain ⟨X4, hr, ht4, hl4, hd4⟩ := fin (some .ret) X3 h3
        exact ⟨_, _, hr, .inr ⟨rfl, .ret, (hIx _).aside l _ _ (by omega) hi3 ht4, hl4, hd4⟩, tn _ _ h3 ht4⟩
      | exit id =>
        obtain ⟨h3, hi3⟩ := hp
        obtain ⟨X4, hr, ht4, hl4, hd4⟩ := fin (some (.exit id)) X3 h3
        exact ⟨_, _, hr, .inr ⟨rfl, .exit id, (hIx _).aside l _ _ (by omega) hi3 ht4, hl4, hd4⟩, tn _ _ h3 ht4⟩
      | goto t => exact hp.elim
      | panic ch => exact hp.elim
      | outgrown => exact hp.elim
    · rintro e W2 ⟨⟨v, rfl⟩, (⟨hi, hl2, hd2⟩ | ⟨c, hi, hl2, hd2⟩)⟩
      · refine ⟨none, _, by have := run_endLoop (P := Tryz.prog) hl2 (by rw [hrc]; simp); rw [hrc] at this; exact this, hdone _ _ (Nat.le_refl _) ((hI _).aside l _ _ (by omega) hi (aside_put hl2 rfl _)) ((World.putObj_heap_other (by omega)).trans hd2)⟩
      · refine ⟨some c, _, by have := run_endLoop (P := Tryz.prog) hl2 (by rw [hrc]; simp); rw [hrc] at this; exact this, hstop _ c _ (Nat.le_refl _) ((hIx _).aside l _ _ (by omega) hi (aside_put hl2 rfl _)) ((World.putObj_heap_other (by omega)).trans hd2)⟩

end Go.Proofs.YtegmeoghonolcaaGreat

/-
  A region that draws its order, in a round of a range over a function, with what is loaded held.
-/
namespace Go.Proofs.YtegmeoghonolcaaGreat
open Go.RowKit Go.Maps
set_option linter.unusedVariables false

/-- .. and no panic at all. -/
def calmQ (Q : Exit → Act → World → Prop) : Exit → Act → World → Prop
  | .panic _, _, _ => False
  | .normal, a, w => Q .normal a w
  | .ret, a, w => Q .ret a w
  | .exit id, a, w => Q (.exit id) a w
  | .goto l, a, w => Q (.goto l) a w
  | .outgrown, a, w => Q .outgrown a w
theorem wp_calm {P : Program} {c : Code} {Q : Exit → Act → World → Prop} {a : Act} {w : World} (h : c.wp P (calmQ Q) a w) : c.wp P Q a w :=
  wp_mono h fun e a w h => by cases e <;> first | exact h | exact h.elim
/-- No operation is a defer statement. -/
def noDefer (ops : Array Oper) : Bool := ops.all fun o => match o.op with | .defer _ => false | _ => true
section
variable {l n : Nat} {P : Program} {ops : Array Oper} {Q : Exit → Act → World → Prop} {S : World → Prop} {md : Region.Mode}
theorem upon_in {o : Oper} {a : Act} {K : Act → World → Prop} {r : Result Next} (h : o.upon P a K Q r) : o.uponIn (Fence.wide.inRound l) n P a K Q r := by
  cases r with
  | ok x w' =>
    cases x with
    | enter f args => exact ⟨(fun h => by cases h), CallsIn.inRound l (callsIn_wide.2 h)⟩
    | row row args =>
      refine ⟨(fun h => by cases h), fun c cs _ => ?_⟩
      obtain ⟨v, w2, r, s⟩ := h c cs
      exact ⟨v, w2, r, stepsIn_wide.2 s⟩
    | value v => exact h
    | skip => exact h
    | defer d => exact h
    | _ => exact h.elim
  | halt x w' =>
    cases x with
    | panic v => exact h
    | _ => exact h.elim
theorem op_in (hd : noDefer ops = true) (hLO : LetsOut Q → False) {i : Nat} {a : Act} {w : World} {K : Act → World → Prop} (h : wpOp P ops Q i K a w) : wpOpIn (Fence.wide.inRound l) n P ops Q i K a w := by
  unfold wpOp at h
  unfold wpOpIn
  cases ho : ops[i]? with
  | none => rw [ho] at h; exact h
  | some o =>
    rw [ho] at h
    simp only at h ⊢
    by_cases hw : Region.wanted o (yielded ops a.tmps) = true
    · rw [if_pos hw] at h ⊢
      rcases h with h | h
      · refine ⟨fun _ _ => trivial, ?_⟩
        have hnd : ∀ c, o.op ≠ .defer c := fun c e => by
          have h1 := Array.all_eq_true.1 hd i (Array.getElem?_eq_some_iff.1 ho).1
          rw [(Array.getElem?_eq_some_iff.1 ho).2, e] at h1
          cases h1
        rw [show (Fence.wide.inRound l).round = some l from rfl, Oper.semAt_some l a.eval o hnd]
        exact upon_in h
      · exact (hLO h.2).elim
    · rw [if_neg hw] at h ⊢
      exact ⟨fun _ _ => trivial, h⟩
theorem any_in (hd : noDefer ops = true) (hLO : LetsOut Q → False) : ∀ (fuel : Nat) (listed : Array Bool) (a : Act) (w : World), wpAny P md ops Q fuel listed a w → wpAnyIn (Fence.wide.inRound l) n P md ops Q fuel listed a w
  | 0, _, _, _, h => h
  | fuel + 1, listed, a, w, h => ⟨h.1, fun i hi => wpOpIn_mono (fun a' w' h' => any_in hd hLO fuel _ a' w' h') (op_in hd hLO (h.2 i hi))⟩
theorem wpIn_region_held {id : Nat} {a : Act} {w : World} (hm : P.follows .mixedOrders = true) (hd : noDefer ops = true) (hLO : LetsOut Q → False) (hS : S w.drew)
    (h : S w.drew → wpAnyH P .any ops Q S ops.size (Array.replicate ops.size false) a w.drew) : (Code.region id ops true).wpIn (Fence.wide.inRound l) n P Q a w :=
  wpIn_region_any hm (any_in hd hLO _ _ _ _ (wpAny_of_held _ _ _ _ (h hS)))
end

end Go.Proofs.YtegmeoghonolcaaGreat
