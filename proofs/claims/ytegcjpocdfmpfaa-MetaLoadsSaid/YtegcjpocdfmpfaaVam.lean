/-
  The document's reader: node, by contract: what it is over, and its steps.
-/
import Derived.Test.YtegcjpocdfmpfaaVal
import Derived.Test.YtegcjpocdfmpfaaVag
import Derived.Test.YtegcjpocdfmpfaaVae
set_option linter.unusedVariables false
set_option linter.unusedSimpArgs false
set_option maxRecDepth 100000
set_option maxHeartbeats 16000000
namespace Go.Proofs.Ytegcjpocdfmpfaa
open Go.RowKit

/-- What a node's reading comes to. -/
def ndF (N : Int) (blk : Int → Option (List Int)) (st : St) (ino p : Int) : St × Nd × Bool := match stp N blk st p with
  | .error e => (.error e, default, false)
  | .ok l1 => if okG (dat N blk st p) = true then ((ndT N blk (.ok l1) (dat N blk st p)).1, ⟨ino, tld (dat N blk st p) 0, tld (dat N blk st p) 1, tld (dat N blk st p) 2, trm (ndT N blk (.ok l1) (dat N blk st p)).2.1⟩, (ndT N blk (.ok l1) (dat N blk st p)).2.2) else (.error 15, default, false)
/-- Under way: the result's block, the record's, the addresses of the call's own. -/
structure NdW (w w0 : World) (S : Sv) (g : Nat) (v0 v : Value) (m : Nat) (st : St) (b6 b8 : Nat) (f : Nat → Int) (u : Value) (L : List Int) : Prop where
  lf : Left w0 S g v0 m st w v
  rc : Rcb w b8 f
  bk : w.heap[b6]? = some (.cells #[.int .i64 0, .int .i64 0, .int .i64 0, .int .i64 0, .slice none 0 0] 83 (0, 0))
  own : OwnI w w0.heap.size u L.length L
  l6 : w0.heap.size ≤ b6
  l8 : w0.heap.size ≤ b8
  n6 : ¬ Tv g v b6
  n8 : ¬ Tv g v b8
  nu : ∀ j, u.ownBlock = some j → ¬ Tv g v j ∧ j ≠ b6 ∧ j ≠ b8
  ne : b6 ≠ b8
  sz : S.w0.heap.size ≤ w0.heap.size
/-- 28 numbers beside it. -/
structure Slc (w w0 : World) (g : Nat) (v u : Value) (b6 : Nat) (b : Nat) (ks : List Int) : Prop where
  ins : Ins w (some ⟨b, 0, none⟩) 28 ks
  lt : b < w.heap.size
  nv : ¬ Tv g v b
  nu : u.ownBlock ≠ some b
  n6 : b ≠ b6
section
variable {w w' w0 : World} {S : Sv} {g m : Nat} {v0 v v' u u' : Value} {st st' : St} {b6 b8 b : Nat} {f : Nat → Int} {L ks ys : List Int}
theorem NdW.l6lt (h : NdW w w0 S g v0 v m st b6 b8 f u L) : b6 < w.heap.size := lt_of_block h.bk
theorem NdW.next (h : NdW w w0 S g v0 v m st b6 b8 f u L) (hb : Below w.heap.size w w') : NdW w' w0 S g v0 v m st b6 b8 f u L :=
  ⟨h.lf.next hb, h.rc.next hb, (hb.block _ h.l6lt).trans h.bk, h.own.next hb, h.l6, h.l8, h.n6, h.n8, h.nu, h.ne, h.sz⟩
theorem Slc.next (h : Slc w w0 g v u b6 b ks) (hb : Below w.heap.size w w') : Slc w' w0 g v u b6 b ks := ⟨h.ins.next hb, Nat.lt_of_lt_of_le h.lt hb.size, h.nv, h.nu, h.n6⟩
theorem Left.vnew (h : Left w S g v m st w' v') {j : Nat} (hj : j < w.heap.size) (hn : ¬ Tv g v j) : ¬ Tv g v' j := by
  intro h'
  rcases h' with e | e
  · exact hn (.inl e)
  · rcases h.2.2 j e with e2 | e2
    · exact hn (.inr e2)
    · omega
/-- A call of the reader's. -/
theorem NdW.call {m' : Nat} (h : NdW w w0 S g v0 v m st b6 b8 f u L) (k : Left w S g v m' st' w' v') : NdW w' w0 S g v0 v' m' st' b6 b8 f u L :=
  ⟨h.lf.trans k, ⟨(k.1.block _ h.rc.lt h.n8).trans h.rc.row⟩, (k.1.block _ h.l6lt h.n6).trans h.bk, h.own.turn k.1 (fun j e => (h.nu j e).1), h.l6, h.l8, k.vnew h.l6lt h.n6, k.vnew h.rc.lt h.n8,
    (fun j e => ⟨k.vnew (World.ownsRow.lt h.own j e).2 (h.nu j e).1, (h.nu j e).2⟩), h.ne, h.sz⟩
theorem Slc.call {m' : Nat} (h : Slc w w0 g v u b6 b ks) (k : Left w S g v m' st' w' v') : Slc w' w0 g v' u b6 b ks :=
  ⟨h.ins.turn k.1 (fun y e => by cases e; exact h.nv), Nat.lt_of_lt_of_le h.lt k.1.size, k.vnew h.lt h.nv, h.nu, h.n6⟩
theorem NdW.setU (h : NdW w w0 S g v0 v m st b6 b8 f u L) (hO : OwnI w w0.heap.size u' ys.length ys) (hn : ∀ j, u'.ownBlock = some j → ¬ Tv g v j ∧ j ≠ b6 ∧ j ≠ b8) : NdW w w0 S g v0 v m st b6 b8 f u' ys :=
  ⟨h.lf, h.rc, h.bk, hO, h.l6, h.l8, h.n6, h.n8, hn, h.ne, h.sz⟩
theorem NdW.more (h : NdW w w0 S g v0 v m st b6 b8 f u L) {m' : Nat} (hm : m ≤ m') : NdW w w0 S g v0 v m' st b6 b8 f u L :=
  ⟨⟨h.lf.1, h.lf.2.1.more hm, h.lf.2.2⟩, h.rc, h.bk, h.own, h.l6, h.l8, h.n6, h.n8, h.nu, h.ne, h.sz⟩
/-- 28 noughts that were just made; 28 numbers that a call has answered. -/
theorem NdW.mk28 (h : NdW w w0 S g v0 v m st b6 b8 f u L) (hO : OwnI w' w.heap.size (.slice (some ⟨w.heap.size, 0, none⟩) 28 28) 28 ks) (hb : Below w.heap.size w w') : NdW w' w0 S g v0 v m st b6 b8 f u L ∧ Slc w' w0 g v u b6 w.heap.size ks := by
  obtain ⟨b, c, e, hi, h1, h2⟩ := hO.at28
  cases e
  exact ⟨h.next hb, hi, h2, h.lf.2.1.old (Nat.le_refl _), fun e => by have := (World.ownsRow.lt h.own _ e).2; omega, fun e => by have := h.l6lt; omega⟩
theorem NdW.pt28 (h : NdW w w0 S g v0 v m st b6 b8 f u L) {e : Ending} {m' : Nat} (hp : PtP w S g v m' st' ks e w') : ∃ b c v', e = .returned (.slice (some ⟨b, 0, none⟩) 28 c) ∧ NdW w' w0 S g v0 v' m' st' b6 b8 f u L ∧ Slc w' w0 g v' u b6 b ks ∧ Left w S g v m' st' w' v' := by
  obtain ⟨b, c, v', rfl, hO, h1, h2, h3, hL⟩ := hp
  obtain ⟨b', c', e', hi, _, _⟩ := hO.at28
  cases e'
  exact ⟨b, c, v', rfl, h.call hL, ⟨hi, h2, h3, fun e => by have := (World.ownsRow.lt h.own _ e).2; omega, fun e => by have := h.l6lt; omega⟩, hL⟩
/-- The record's own pointers. -/
theorem Rcb.dir {w : World} {b : Nat} {f : Nat → Int} (h : Rcb w b f) : Ins w (some ⟨b, 3, none⟩) 16 (dir f) := by
  refine ⟨rfl, .inr ⟨b, 3, rfl, h.lt, fun i hi => ?_⟩⟩
  rw [h.cell (by omega)]
  simp [Go.Proofs.Ytegcjpocdfmpfaa.dir, num, List.getD, List.getElem?_range hi]
theorem NdW.setBad {l : List Int} (h : NdW w w0 S g v0 v m (.ok l) b6 b8 f u L) {e : Int} (he : e ≠ 0) : NdW (w.setCell ⟨g, 5, none⟩ (.int .i64 e)) w0 S g v0 v m (.error e) b6 b8 f u L := by
  have ht : Turn (· = g) w (w.setCell ⟨g, 5, none⟩ (.int .i64 e)) := Turn.setCell (M := (· = g)) (a := ⟨g, 5, none⟩) w rfl _
  have n6 : b6 ≠ g := fun e => h.n6 (.inl e)
  have n8 : b8 ≠ g := fun e => h.n8 (.inl e)
  obtain ⟨h1, ⟨l2, bad, hR, hl, rfl, rfl⟩, h3⟩ := h.lf
  exact ⟨⟨h1.trans2 ht (fun j e => .inl (.inl e)), ⟨l2, e, hR.setBad e, hl, rfl, he⟩, h3⟩, ⟨(ht.block _ h.rc.lt n8).trans h.rc.row⟩, (ht.block _ h.l6lt n6).trans h.bk, h.own.turn ht (fun j e h' => (h.nu j e).1 (.inl h')), h.l6, h.l8, h.n6, h.n8, h.nu, h.ne, h.sz⟩
/-- The addresses grow. -/
theorem NdW.app {n : Nat} (h : NdW w w0 S g v0 v m st b6 b8 f u L) (hO : OwnI w' w0.heap.size u' n (L ++ ys)) (hG : w.grownBy w' u.ownBlock) (hu : u'.ownBlock = u.ownBlock ∨ u'.ownBlock = some w.heap.size) : NdW w' w0 S g v0 v m st b6 b8 f u' (L ++ ys) := by
  have ht : Turn (fun j => u.ownBlock = some j) w w' := Turn.of_grown hG (fun b e => e)
  have hlow : ∀ j, u.ownBlock = some j → w0.heap.size ≤ j := fun j e => (World.ownsRow.lt h.own j e).1
  have hl : n = (L ++ ys).length := by have := hO.1; simpa using this.symm
  subst hl
  refine ⟨⟨?_, ?_, h.lf.2.2⟩, ⟨(ht.block _ h.rc.lt (fun e => (h.nu _ e).2.2 rfl)).trans h.rc.row⟩, (ht.block _ h.l6lt (fun e => (h.nu _ e).2.1 rfl)).trans h.bk, hO, h.l6, h.l8, h.n6, h.n8, fun j e => ?_, h.ne, h.sz⟩
  · exact h.lf.1.trans2 ht fun j e => .inr (hlow j e)
  · exact h.lf.2.1.turn ht fun j e => ⟨(h.nu j e).1, Nat.le_trans h.sz (hlow j e)⟩
  · rcases hu with e2 | e2
    · exact h.nu j (by rw [← e2]; exact e)
    · rw [e2] at e
      simp only [Option.some.injEq] at e
      subst e
      exact ⟨h.lf.2.1.old (Nat.le_refl _), fun e3 => by have := h.l6lt; omega, fun e3 => by have := h.rc.lt; omega⟩
theorem Slc.app (h : Slc w w0 g v u b6 b ks) (hG : w.grownBy w' u.ownBlock) (hu : u'.ownBlock = u.ownBlock ∨ u'.ownBlock = some w.heap.size) : Slc w' w0 g v u' b6 b ks := by
  have ht : Turn (fun j => u.ownBlock = some j) w w' := Turn.of_grown hG (fun b e => e)
  refine ⟨h.ins.turn ht (fun y e => by cases e; exact h.nu), Nat.lt_of_lt_of_le h.lt ht.size, h.nv, ?_, h.n6⟩
  rcases hu with e2 | e2
  · rw [e2]; exact h.nu
  · rw [e2]
    intro e
    simp only [Option.some.injEq] at e
    have := h.lt
    omega
end
theorem Ins.front {w : World} {a : Option Addr} {n : Nat} {ks : List Int} (h : Ins w a n ks) {k : Nat} (hk : k ≤ n) : Ins w a k (ks.take k) := by
  refine ⟨by rw [List.length_take, h.len]; omega, ?_⟩
  rcases h.place with h0 | ⟨b, off, e, hlt, hc⟩
  · exact .inl (by omega)
  · refine .inr ⟨b, off, e, hlt, fun i hi => ?_⟩
    rw [hc i (by omega), num_take' hi]
/-- A node's five cells. -/
def nwC (x : Nw) : Array Value := #[.int .i64 x.ino, .int .i64 x.kind, .int .i64 x.links, .int .i64 x.size, .slice x.a x.n x.c]
theorem sizeI : (Try.prog.info? 83).map (·.size) = some 5 := by kernel_rfl
theorem load_nw {w : World} {b : Nat} {x : Nw} {t : TypeId} (h : w.heap[b]? = some (.cells (nwC x) t (0, 0))) : (loadVar 83 ⟨b, 0, none⟩).run Try.prog w = .ok (nwV x) w :=
  run_loadVar_row w b _ _ (nwC x) (0, 0) _ h Try.underlying83 rfl (by rw [sizeI]; rfl)
/-- A node is stored whole. -/
theorem wpList_stN {ops : Array Oper} {rest : List Oper} {o : Oper} {a : Act} {w : World} {Q : Exit → Act → World → Prop} (hw : Region.wanted o (yielded ops a.tmps) = true) (p y : Operand) (ho : o.op = .store 83 p y) (b : Nat) (hp : a.eval p = .pointer (some ⟨b, 0, none⟩)) (x z : Nw) (hy : a.eval y = nwV x) {t : TypeId}
    (hb : w.heap[b]? = some (.cells (nwC z) t (0, 0)))
    (h : ∀ w', w'.heap[b]? = some (.cells (nwC x) t (0, 0)) → Turn (· = b) w w' → wpList Try.prog ops Q rest (a.put o.dst undef) w') : wpList Try.prog ops Q (o :: rest) a w :=
  wpList_step fun K hK => by
    have hr : (Instr.storeAt 83 (.pointer (some ⟨b, 0, none⟩)) (nwV x)).run Try.prog w = .ok () (w.setRow b (nwC x)) := by
      simp only [Instr.storeAt, Instr.sureAddr, Sem.run_bind, Sem.run_pure, Result.andThen]
      exact run_storeVar_row w b _ _ (nwC z) (nwC x) hb (by rw [sizeI]; rfl) rfl (by simp [nwC, Value.oneCell'])
    rw [if_pos hw]
    unfold Oper.wp execOp
    simp only [ho, hp, hy, Sem.run_bind, hr, Result.andThen_ok, Sem.run_pure]
    exact hK _ _ (h _ (setRow_heap w b _ _ _ _ hb) ⟨rfl, rfl, rfl, by simp [World.setRow], fun k _ hk => setRow_other w b k _ hk⟩)
/-- At a step of a drawn region. -/
theorem wp_stN {o : Oper} {a : Act} {w : World} {K : Act → World → Prop} {Q : Exit → Act → World → Prop} (p y : Operand) (ho : o.op = .store 83 p y) (b : Nat) (hp : a.eval p = .pointer (some ⟨b, 0, none⟩)) (x z : Nw) (hy : a.eval y = nwV x) {t : TypeId}
    (hb : w.heap[b]? = some (.cells (nwC z) t (0, 0))) (h : ∀ w', w'.heap[b]? = some (.cells (nwC x) t (0, 0)) → Turn (· = b) w w' → K (a.put o.dst undef) w') : o.wp Try.prog a w K Q := by
  have hr : (Instr.storeAt 83 (.pointer (some ⟨b, 0, none⟩)) (nwV x)).run Try.prog w = .ok () (w.setRow b (nwC x)) := by
    simp only [Instr.storeAt, Instr.sureAddr, Sem.run_bind, Sem.run_pure, Result.andThen]
    exact run_storeVar_row w b _ _ (nwC z) (nwC x) hb (by rw [sizeI]; rfl) rfl (by simp [nwC, Value.oneCell'])
  unfold Oper.wp execOp
  simp only [ho, hp, hy, Sem.run_bind, hr, Result.andThen_ok, Sem.run_pure]
  exact h _ (setRow_heap w b _ _ _ _ hb) ⟨rfl, rfl, rfl, by simp [World.setRow], fun k _ hk => setRow_other w b k _ hk⟩
abbrev noN : Nw := ⟨0, 0, 0, 0, none, 0, 0, []⟩
end Go.Proofs.Ytegcjpocdfmpfaa
