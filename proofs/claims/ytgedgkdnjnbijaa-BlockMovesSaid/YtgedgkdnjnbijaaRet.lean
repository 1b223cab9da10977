/-
  What it is for a call to answer a slice that holds given bytes; worlds of which only some blocks have turned.
-/
import Derived.Test.YtgedgkdnjnbijaaCopy
namespace Go.Proofs.Ytgedgkdnjnbijaa
open Go.RowKit

structure SliceOf (w0 : World) (zs : List Int) (n : Nat) (a : Option Addr) (c : Nat) (w' : World) : Prop where
  bys : Bys w' a n zs
  nil : a = none → n = 0 ∧ c = 0
  bel : Below w0.heap.size w0 w'
/-- A slice that holds zs. -/
def RetB (w0 : World) (zs : List Int) (e : Ending) (w' : World) : Prop := ∃ a c, e = .returned (.slice a zs.length c) ∧ SliceOf w0 zs zs.length a c w'
theorem RetB.own {w0 w' : World} {v : Value} {n : Nat} {zs : List Int} (h : Own w' w0.heap.size v n zs) (hb : Below w0.heap.size w0 w') : RetB w0 zs (.returned v) w' := by
  obtain ⟨a, c, rfl, h1, h2, _⟩ := h.form
  have := h.len
  subst this
  exact ⟨a, c, rfl, h2, h1, hb⟩
theorem RetB.blk {w0 w' : World} {g c : Nat} {zs : List Int} (h : Blk w' g zs) (hs : AllB zs) (hb : Below w0.heap.size w0 w') : RetB w0 zs (.returned (.slice (some ⟨g, 0, none⟩) zs.length c)) w' :=
  ⟨_, _, rfl, h.all hs, (fun h => by cases h), hb⟩
theorem RetB.nil (w0 : World) : RetB w0 [] (.returned (.slice none 0 0)) w0 := ⟨none, 0, rfl, Bys.none _, (fun _ => ⟨rfl, rfl⟩), Below.refl _ _⟩

/-- Of the blocks that were there only those of M have turned. -/
structure Turn (M : Nat → Prop) (w w' : World) : Prop where
  os : w'.os = w.os
  tape : w'.tape = w.tape
  output : w'.output = w.output
  size : w.heap.size ≤ w'.heap.size
  block : ∀ k, k < w.heap.size → ¬ M k → w'.heap[k]? = w.heap[k]?

theorem Turn.refl (M : Nat → Prop) (w : World) : Turn M w w := ⟨rfl, rfl, rfl, Nat.le_refl _, fun _ _ _ => rfl⟩
theorem Turn.trans {M : Nat → Prop} {a b c : World} (h : Turn M a b) (k : Turn M b c) : Turn M a c :=
  ⟨k.os.trans h.os, k.tape.trans h.tape, k.output.trans h.output, Nat.le_trans h.size k.size, fun i hi hm => (k.block i (Nat.lt_of_lt_of_le hi h.size) hm).trans (h.block i hi hm)⟩
theorem Turn.mono {M M' : Nat → Prop} {w w' : World} (h : Turn M w w') (hm : ∀ k, M k → M' k) : Turn M' w w' := ⟨h.os, h.tape, h.output, h.size, fun k hk hn => h.block k hk fun x => hn (hm k x)⟩
theorem Turn.of_below {M : Nat → Prop} {w w' : World} (h : Below w.heap.size w w') : Turn M w w' := ⟨h.os, h.tape, h.output, h.size, fun k hk _ => h.block k hk⟩
theorem Turn.of_grown {M : Nat → Prop} {w w' : World} {b : Nat} (h : w.grownBy w' (some b)) (hb : M b) : Turn M w w' :=
  ⟨h.os, h.tape, h.output, h.size, fun k hk hn => h.block k hk (fun e => by cases e; exact hn hb)⟩
theorem Turn.setCell {M : Nat → Prop} (w : World) {a : Addr} (hb : M a.block) (u : Value) : Turn M w (w.setCell a u) :=
  ⟨rfl, rfl, rfl, by simp [World.setCell], fun k _ hn => Below.heap_setCell w a u k (fun e => hn (e ▸ hb))⟩
theorem turn_set (w : World) (b i : Nat) (u : Value) : Turn (· = b) w (w.setCell ⟨b, i, none⟩ u) := Turn.setCell (M := (· = b)) (a := ⟨b, i, none⟩) w rfl u
theorem Turn.below {M : Nat → Prop} {w w' : World} (h : Turn M w w') {B : Nat} (hB : B ≤ w.heap.size) (hm : ∀ k, M k → B ≤ k) : Below B w w' :=
  ⟨h.os, h.tape, h.output, h.size, fun k hk => h.block k (by omega) fun x => by have := hm k x; omega⟩
theorem Turn.cell {M : Nat → Prop} {w w' : World} (h : Turn M w w') {a : Addr} (hlt : a.block < w.heap.size) (hm : ¬ M a.block) : w'.cell? a = w.cell? a := World.cell?_of_block (w := w) (h.block _ hlt hm)
theorem Turn.frozen {M : Nat → Prop} {w w' : World} (h : Turn M w w') {a : Addr} (hlt : a.block < w.heap.size) (hm : ¬ M a.block) : w'.frozen? a = w.frozen? a := World.frozen?_of_block (w := w) (h.block _ hlt hm)
theorem bys_turn {M : Nat → Prop} {w w' : World} {a : Option Addr} {n : Nat} {zs : List Int} (h : Bys w a n zs) (ht : Turn M w w') (hm : ∀ b off, a = some ⟨b, off, .none⟩ → ¬ M b) : Bys w' a n zs := by
  refine ⟨h.len, h.small, ?_⟩
  rcases h.place with h0 | ⟨b, off, ha, hlt, hc⟩
  · exact .inl h0
  · exact .inr ⟨b, off, ha, Nat.lt_of_lt_of_le hlt ht.size, fun i hi => (ht.cell (a := ⟨b, off + i, .none⟩) hlt (hm b off ha)).trans (hc i hi)⟩
theorem Blk.turn {M : Nat → Prop} {w w' : World} {g : Nat} {zs : List Int} (h : Blk w g zs) (ht : Turn M w w') (hm : ¬ M g) : Blk w' g zs := ⟨(ht.block g h.lt hm).trans h.row⟩

/-- A block of cells of one cell each. -/
theorem cells_set {w : World} {g i : Nat} {cs : Array Value} {t : TypeId} {u : Value} (h : w.heap[g]? = some (.cells cs t (0, 0))) : (w.setCell ⟨g, i, none⟩ u).heap[g]? = some (.cells (cs.setIfInBounds i u) t (0, 0)) :=
  heap_setCell_same w g i _ _ _ h

end Go.Proofs.Ytgedgkdnjnbijaa
