/-
  Has a slice of bytes no byte but 0: the program's and the reference's, by contract.
-/
import Derived.Test.YtegcjpocdfmpfaaZaa
import Derived.Deep.AppendLies
import Derived.Deep.DeepCutAuto
import Derived.Deep.RegionHeld3
import Derived.Maps.OwnSet
import Derived.Maps.Ext
import Derived.Maps.RangeWalk
import Derived.Lib.SlKeysI
import Derived.Lib.SlMapFilter
import Derived.Lib.SliceRun
set_option linter.unusedVariables false
set_option linter.unusedSimpArgs false
set_option maxRecDepth 100000
set_option maxHeartbeats 16000000
namespace Go.Proofs.Ytegcjpocdfmpfaa
open Go.RowKit

def noughtB (zs : List Int) : Bool := zs.all (· == 0)
def Zeros (zs : List Int) (k : Nat) : Prop := ∀ j, j < k → byt zs j = 0
theorem Zeros.zero (zs : List Int) : Zeros zs 0 := fun _ h => by omega
theorem Zeros.succ {zs : List Int} {k : Nat} (h : Zeros zs k) (e : byt zs k = 0) : Zeros zs (k + 1) := fun j hj => by
  by_cases hk : j = k
  · rw [hk]; exact e
  · exact h j (by omega)
theorem noughtB_true {zs : List Int} (h : ∀ j, j < zs.length → byt zs j = 0) : noughtB zs = true := by
  unfold noughtB
  rw [List.all_eq_true]
  intro z hz
  obtain ⟨i, hi, rfl⟩ := List.getElem_of_mem hz
  have := h i hi
  simpa [byt, List.getD, hi] using this
theorem noughtB_false {zs : List Int} {k : Nat} (hk : k < zs.length) (h : byt zs k ≠ 0) : noughtB zs = false := by
  unfold noughtB
  rw [List.all_eq_false]
  refine ⟨zs[k], List.getElem_mem hk, ?_⟩
  simpa [byt, List.getD, hk] using h

theorem nought_any (a : Option Addr) (la ca : Nat) (x : List Int) (w : World) (hx : Bys w a la x) (hn : la ≤ 1000000000000) :
    Calls Try.prog 115 #[.slice a la ca] w fun e w' => e = .returned (.bool (noughtB x)) ∧ w = w' := by
  go_enter Try.func115, Try.ntmps115
  go_wp2
  go_loop [7] (fun i => ∃ k : Nat, k ≤ la ∧ i = .int .i64 k ∧ Zeros x k) (fun i => la - (RowKit.intOf i).toNat)
  case atStart => exact ⟨0, Nat.zero_le _, rfl, Zeros.zero _⟩
  case round =>
    obtain ⟨k, hk, rfl, hf⟩ := hrel
    have hxl : Hid (x.length = la) := hx.len
    by_cases hlt : k < la
    · rcases hx.place with h0 | ⟨ba, oa, rfl, _, hca⟩
      · omega
      have g1 := hca k hlt
      clear hca hx
      go_wp2
      · have hs : Hid (noughtB x = false) := noughtB_false (by rw [hxl.out]; exact hlt) (by simpa using (by assumption : (byt x k != 0) = true))
        clear hxl hf
        go_ret
        exact ⟨ret_bool hs.out.symm, rfl⟩
      · go_round
        case rel => exact ⟨k + 1, by omega, by go_num, hf.succ (by simpa using (by assumption : (byt x k != 0) = false))⟩
        case measure => simp [RowKit.intOf]; omega
    · obtain rfl : k = la := by omega
      have hs : Hid (noughtB x = true) := noughtB_true (by rw [hxl.out]; exact hf)
      clear hx hf hxl
      go_wp2
      go_ret
      exact ⟨ret_bool hs.out.symm, rfl⟩


/-- The number at a place (0 behind the end). -/
def num (ks : List Int) (i : Nat) : Int := ks.getD i 0

/-- The slice at a, of n numbers, holds ks. -/
structure Ins (w : World) (a : Option Addr) (n : Nat) (ks : List Int) : Prop where
  len : ks.length = n
  place : n = 0 ∨ ∃ b off, a = some ⟨b, off, none⟩ ∧ b < w.heap.size ∧ ∀ i, i < n → w.cell? ⟨b, off + i, none⟩ = some (.int .i64 (num ks i))
theorem Ins.below {w w' : World} {a : Option Addr} {n : Nat} {ks : List Int} (h : Ins w a n ks) {B : Nat} (hB : w.heap.size ≤ B) (hb : Below B w w') : Ins w' a n ks := by
  refine ⟨h.len, ?_⟩
  rcases h.place with h0 | ⟨b, off, ha, hlt, hc⟩
  · exact .inl h0
  · exact .inr ⟨b, off, ha, Nat.lt_of_lt_of_le hlt hb.size, fun i hi => (hb.cell (p := ⟨b, off + i, none⟩) (by show b < B; omega)).trans (hc i hi)⟩
theorem Ins.next {w w' : World} {a : Option Addr} {n : Nat} {ks : List Int} (h : Ins w a n ks) (hb : Below w.heap.size w w') : Ins w' a n ks := h.below (Nat.le_refl _) hb
theorem Ins.alloc {w : World} {a : Option Addr} {n : Nat} {ks : List Int} (h : Ins w a n ks) (o : Obj) : Ins (w.alloc o) a n ks := h.next ((Below.refl _ _).alloc (Nat.le_refl _) o)
theorem Ins.drewN {w : World} {a : Option Addr} {n : Nat} {ks : List Int} (h : Ins w a n ks) (q : Nat) : Ins (w.drewN q) a n ks := h.next (below_drewN (Below.refl _ _) q)
theorem Ins.drew {w : World} {a : Option Addr} {n : Nat} {ks : List Int} (h : Ins w a n ks) : Ins w.drew a n ks := h.drewN 1
theorem Ins.at {w : World} {a : Option Addr} {n : Nat} {ks : List Int} (h : Ins w a n ks) (hn : 0 < n) : ∃ b off, a = some ⟨b, off, none⟩ ∧ b < w.heap.size ∧ ∀ i, i < n → w.cell? ⟨b, off + i, none⟩ = some (.int .i64 (num ks i)) := by
  rcases h.place with h0 | h1
  · omega
  · exact h1
theorem info3 : (Try.prog.info? 3).map (fun i => (i.zero, i.size, i.bytes)) = some (some (.int .i64 0), 1, 8) := by kernel_rfl

/-- A slice of numbers of the call's own. -/
def OwnI (w : World) (B : Nat) (v : Value) (n : Nat) (ks : List Int) : Prop := w.ownsRow B 3 1 v n (ks.map (Value.int .i64))
theorem OwnI.below {w w' : World} {B : Nat} {v : Value} {n : Nat} {ks : List Int} (h : OwnI w B v n ks) {C : Nat} (hC : w.heap.size ≤ C) (hb : Below C w w') : OwnI w' B v n ks :=
  h.kept (row := none) ⟨hb.os, hb.tape, hb.output, hb.size, fun k hk _ => hb.block k (by omega)⟩ (by cases v.ownBlock <;> simp)
theorem OwnI.next {w w' : World} {B : Nat} {v : Value} {n : Nat} {ks : List Int} (h : OwnI w B v n ks) (hb : Below w.heap.size w w') : OwnI w' B v n ks := h.below (Nat.le_refl _) hb
theorem OwnI.alloc {w : World} {B : Nat} {v : Value} {n : Nat} {ks : List Int} (h : OwnI w B v n ks) (o : Obj) : OwnI (w.alloc o) B v n ks := h.next ((Below.refl _ _).alloc (Nat.le_refl _) o)
theorem OwnI.ins {w : World} {B : Nat} {v : Value} {n : Nat} {ks : List Int} (h : OwnI w B v n ks) : ∃ a c, v = .slice a n c ∧ Ins w a n ks ∧ n ≤ c ∧ c ≤ 9223372036854775807 ∧ (∀ x, a = some x → B ≤ x.block ∧ x.block < w.heap.size) := by
  rcases h.2 with ⟨rfl, rfl⟩ | ⟨g, cap, cur, rfl, hb, hg, hnc, hm, hsz, htake⟩
  · have := h.1
    simp at this
    exact ⟨none, 0, rfl, ⟨by simpa using this, .inl rfl⟩, Nat.le_refl _, by omega, (fun x hx => by cases hx)⟩
  · have hl : ks.length = n := by have := h.1; simpa using this
    refine ⟨some ⟨g, 0, none⟩, cap, rfl, ⟨hl, .inr ⟨g, 0, rfl, lt_of_block hg, fun i hi => ?_⟩⟩, hnc, by unfold maxLen at hm; omega, fun x hx => by cases hx; exact ⟨hb, lt_of_block hg⟩⟩
    have hc := h.cellAt i (by omega)
    rw [Nat.zero_add, hc]
    simp [num, List.getD, show i < ks.length by omega]


def upd {α : Type} (f : Nat → α) (k : Nat) (z : α) : Nat → α := fun i => if i = k then z else f i
theorem upd_at {α : Type} (f : Nat → α) (k : Nat) (z : α) : upd f k z k = z := if_pos rfl
theorem upd_off {α : Type} (f : Nat → α) {k i : Nat} (z : α) (h : i ≠ k) : upd f k z i = f i := if_neg h
/-- May this be an address, or 0? -/
def ptO (p : Int) : Bool := decide (0 ≤ p ∧ p ≤ 65535)
/-- Can a map be made of these? -/
def nwO (ks : List Int) : Bool := decide (ks.length ≤ 828) && ks.all ptO
theorem all_pt {ks : List Int} : ks.all ptO = true ↔ ∀ i, i < ks.length → ptO (num ks i) = true := by
  rw [List.all_eq_true]
  constructor
  · intro h i hi
    have : num ks i = ks[i] := by simp [num, List.getD, hi]
    rw [this]
    exact h _ (List.getElem_mem hi)
  · intro h z hz
    obtain ⟨i, hi, rfl⟩ := List.getElem_of_mem hz
    have := h i hi
    rwa [show num ks i = ks[i] by simp [num, List.getD, hi]] at this
/-- The first k addresses alone. -/
def nwA (ks : List Int) (k : Nat) : Nat → Int := fun i => if i < k then num ks i else 0
theorem nwA_upd (ks : List Int) (k : Nat) : upd (nwA ks k) k (num ks k) = nwA ks (k + 1) := by
  funext i
  unfold upd nwA
  by_cases h : i = k
  · subst h; simp
  · by_cases h2 : i < k
    · rw [if_neg h, if_pos h2, if_pos (by omega)]
    · rw [if_neg h, if_neg h2, if_neg (by omega)]
theorem num_off {ks : List Int} {i : Nat} (h : ks.length ≤ i) : num ks i = 0 := by simp [num, List.getD, List.getElem?_eq_none h]
theorem nwA_all (ks : List Int) : nwA ks ks.length = num ks := by
  funext i
  unfold nwA
  by_cases h : i < ks.length
  · rw [if_pos h]
  · rw [if_neg h, num_off (by omega)]
/-- Is there such a block, and are these a block's bytes? -/
def inK (k : Int) : Bool := decide (0 ≤ k ∧ k < 828)
theorem inK_iff {k : Int} : inK k = true ↔ 0 ≤ k ∧ k < 828 := by simp [inK]
/-- A new block's bytes: none, if they are noughts. -/
def bnO (x : List Int) : List Int := if noughtB x then [] else x
/-- A row of numbers below n that meet p. -/
def selL (p : Nat → Bool) : Nat → List Int
  | 0 => []
  | k + 1 => selL p k ++ (if p k then [(k : Int)] else [])
theorem selL_yes {p : Nat → Bool} {k : Nat} (h : p k = true) : selL p (k + 1) = selL p k ++ [(k : Int)] := by rw [selL, h, if_pos rfl]
theorem selL_no {p : Nat → Bool} {k : Nat} (h : p k = false) : selL p (k + 1) = selL p k := by rw [selL, h]; simp
theorem selL_len (p : Nat → Bool) (k : Nat) : (selL p k).length ≤ k := by
  induction k with
  | zero => exact Nat.le_refl _
  | succ k ih =>
    cases h : p k with
    | true => rw [selL_yes h]; simp; exact ih
    | false => rw [selL_no h]; omega
theorem selL_congr {p q : Nat → Bool} {n : Nat} (h : ∀ k, k < n → p k = q k) : selL p n = selL q n := by
  induction n with
  | zero => rfl
  | succ n ih => rw [selL, selL, ih fun k hk => h k (by omega), h n (by omega)]
theorem selL_mem {p : Nat → Bool} {n : Nat} {z : Int} : z ∈ selL p n ↔ ∃ k : Nat, k < n ∧ p k = true ∧ z = (k : Int) := by
  induction n with
  | zero => simp [selL]
  | succ n ih =>
    rw [selL, List.mem_append, ih]
    constructor
    · rintro (⟨k, h1, h2, h3⟩ | h)
      · exact ⟨k, by omega, h2, h3⟩
      · cases hp : p n with
        | true => rw [hp] at h; simp at h; exact ⟨n, by omega, hp, h⟩
        | false => rw [hp] at h; simp at h
    · rintro ⟨k, h1, h2, h3⟩
      by_cases e : k = n
      · subst e; right; rw [h2]; simp [h3]
      · exact .inl ⟨k, by omega, h2, h3⟩
/-- The new ones; those that are there. -/
def freP (X : Nat → List Int) (k : Nat) : Bool := !(X k).isEmpty
def theP (A : Nat → Int) (X : Nat → List Int) (k : Nat) : Bool := !(X k).isEmpty || decide (0 < A k)
/-- The blocks from n on are none: the first k of these. -/
def cutF {α : Type} (z : α) (A : Nat → α) (n k : Nat) : Nat → α := fun i => if n ≤ i ∧ i < k then z else A i

structure SliceOf (w0 : World) (zs : List Int) (n : Nat) (a : Option Addr) (c : Nat) (w' : World) : Prop where
  bys : Bys w' a n zs
  nil : a = none → n = 0 ∧ c = 0
  bel : Below w0.heap.size w0 w'
/-- A slice that holds zs. -/
def RetB (w0 : World) (zs : List Int) (e : Ending) (w' : World) : Prop := ∃ a c, e = .returned (.slice a zs.length c) ∧ SliceOf w0 zs zs.length a c w'
theorem RetB.nil (w0 : World) : RetB w0 [] (.returned (.slice none 0 0)) w0 := ⟨none, 0, rfl, Bys.none _, (fun _ => ⟨rfl, rfl⟩), Below.refl _ _⟩

/-- Of the blocks that were there only those of M have turned. -/
structure Turn (M : Nat → Prop) (w w' : World) : Prop where
  os : w'.os = w.os
  tape : w'.tape = w.tape
  output : w'.output = w.output
  size : w.heap.size ≤ w'.heap.size
  block : ∀ k, k < w.heap.size → ¬ M k → w'.heap[k]? = w.heap[k]?

theorem Turn.refl (M : Nat → Prop) (w : World) : Turn M w w := ⟨rfl, rfl, rfl, Nat.le_refl _, fun _ _ _ => rfl⟩
theorem Turn.trans {M : Nat → Prop} {a b c : World} (h : Turn M a b) (k : Turn M b c) : Turn M a c :=
  ⟨k.os.trans h.os, k.tape.trans h.tape, k.output.trans h.output, Nat.le_trans h.size k.size, fun i hi hm => (k.block i (Nat.lt_of_lt_of_le hi h.size) hm).trans (h.block i hi hm)⟩
theorem Turn.mono {M M' : Nat → Prop} {w w' : World} (h : Turn M w w') (hm : ∀ k, M k → M' k) : Turn M' w w' := ⟨h.os, h.tape, h.output, h.size, fun k hk hn => h.block k hk fun x => hn (hm k x)⟩
theorem Turn.of_below {M : Nat → Prop} {w w' : World} (h : Below w.heap.size w w') : Turn M w w' := ⟨h.os, h.tape, h.output, h.size, fun k hk _ => h.block k hk⟩
theorem Turn.of_grown {M : Nat → Prop} {w w' : World} {b : Nat} (h : w.grownBy w' (some b)) (hb : M b) : Turn M w w' :=
  ⟨h.os, h.tape, h.output, h.size, fun k hk hn => h.block k hk (fun e => by cases e; exact hn hb)⟩
theorem Turn.setCell {M : Nat → Prop} (w : World) {a : Addr} (hb : M a.block) (u : Value) : Turn M w (w.setCell a u) :=
  ⟨rfl, rfl, rfl, by simp [World.setCell], fun k _ hn => Below.heap_setCell w a u k (fun e => hn (e ▸ hb))⟩
theorem turn_set (w : World) (b i : Nat) (u : Value) : Turn (· = b) w (w.setCell ⟨b, i, none⟩ u) := Turn.setCell (M := (· = b)) (a := ⟨b, i, none⟩) w rfl u
theorem Turn.below {M : Nat → Prop} {w w' : World} (h : Turn M w w') {B : Nat} (hB : B ≤ w.heap.size) (hm : ∀ k, M k → B ≤ k) : Below B w w' :=
  ⟨h.os, h.tape, h.output, h.size, fun k hk => h.block k (by omega) fun x => by have := hm k x; omega⟩
theorem Turn.cell {M : Nat → Prop} {w w' : World} (h : Turn M w w') {a : Addr} (hlt : a.block < w.heap.size) (hm : ¬ M a.block) : w'.cell? a = w.cell? a := World.cell?_of_block (w := w) (h.block _ hlt hm)
theorem Turn.frozen {M : Nat → Prop} {w w' : World} (h : Turn M w w') {a : Addr} (hlt : a.block < w.heap.size) (hm : ¬ M a.block) : w'.frozen? a = w.frozen? a := World.frozen?_of_block (w := w) (h.block _ hlt hm)
theorem bys_turn {M : Nat → Prop} {w w' : World} {a : Option Addr} {n : Nat} {zs : List Int} (h : Bys w a n zs) (ht : Turn M w w') (hm : ∀ b off, a = some ⟨b, off, .none⟩ → ¬ M b) : Bys w' a n zs := by
  refine ⟨h.len, h.small, ?_⟩
  rcases h.place with h0 | ⟨b, off, ha, hlt, hc⟩
  · exact .inl h0
  · exact .inr ⟨b, off, ha, Nat.lt_of_lt_of_le hlt ht.size, fun i hi => (ht.cell (a := ⟨b, off + i, .none⟩) hlt (hm b off ha)).trans (hc i hi)⟩

/-- The document's map lies in block b; what its bytes lie in is of G. -/
structure Rfm (w : World) (b : Nat) (G : Nat → Prop) (A : Nat → Int) (F : Nat → Pc) : Prop where
  lt : b < w.heap.size
  ad : ∀ k, k < 828 → w.cell? ⟨b, k, none⟩ = some (.int .i64 (A k))
  sl : ∀ k, k < 828 → w.cell? ⟨b, 828 + k, none⟩ = some (.slice (F k).a (F k).n (F k).c)
  fr : ∀ i, w.frozen? ⟨b, i, none⟩ = false
  pin : ∀ k, k < 828 → Pin w (F k).a (F k).n (F k).c (F k).zs
  own : ∀ k, k < 828 → ∀ x, (F k).a = some x → G x.block
  ng : ¬ G b
  gl : ∀ j, G j → j < w.heap.size
theorem pin_turn {M : Nat → Prop} {w w' : World} {a : Option Addr} {n c : Nat} {zs : List Int} (h : Pin w a n c zs) (ht : Turn M w w') (hm : 0 < n → ∀ x, a = some x → ¬ M x.block) : Pin w' a n c zs := by
  refine ⟨?_, h.nil, h.cap, h.max⟩
  by_cases h0 : n = 0
  · exact ⟨h.bys.len, h.bys.small, .inl h0⟩
  · exact bys_turn h.bys ht fun b off e => hm (by omega) _ e
section
variable {w w' : World} {b : Nat} {G : Nat → Prop} {A : Nat → Int} {F : Nat → Pc}
theorem Rfm.turn (h : Rfm w b G A F) {M : Nat → Prop} (ht : Turn M w w') (hb : ¬ M b) (hG : ∀ j, G j → ¬ M j) : Rfm w' b G A F :=
  ⟨Nat.lt_of_lt_of_le h.lt ht.size, fun k hk => (ht.cell (a := ⟨b, k, none⟩) h.lt hb).trans (h.ad k hk), fun k hk => (ht.cell (a := ⟨b, 828 + k, none⟩) h.lt hb).trans (h.sl k hk),
    fun i => (ht.frozen (a := ⟨b, i, none⟩) h.lt hb).trans (h.fr i), fun k hk => pin_turn (h.pin k hk) ht fun _ x e => hG _ (h.own k hk x e), h.own, h.ng, fun j hj => Nat.lt_of_lt_of_le (h.gl j hj) ht.size⟩
theorem Rfm.next (h : Rfm w b G A F) (hb : Below w.heap.size w w') : Rfm w' b G A F := h.turn (M := fun _ => False) (Turn.of_below hb) (fun h => h) (fun _ _ h => h)
theorem Rfm.setF (h : Rfm w b G A F) {k : Nat} (hk : k < 828) (p : Pc) (hp : Pin w p.a p.n p.c p.zs) (ho : ∀ x, p.a = some x → G x.block) : Rfm (w.setCell ⟨b, 828 + k, none⟩ (.slice p.a p.n p.c)) b G A (upd F k p) := by
  have ht := turn_set w b (828 + k) (.slice p.a p.n p.c)
  refine ⟨by simpa using h.lt, fun i hi => ?_, fun i hi => ?_, fun i => by simpa using h.fr i, fun i hi => ?_, fun i hi => ?_, h.ng, fun j hj => by simpa using h.gl j hj⟩
  · rw [World.cell?_setCell_other _ _ _ _ (by first | (simp; done) | (simp; omega)), h.ad i hi]
  · by_cases e : i = k
    · subst e; rw [World.cell?_setCell_same _ _ _ (h.sl i hi), upd_at]
    · rw [World.cell?_setCell_other _ _ _ _ (by first | (simp; done) | (simp; omega)), h.sl i hi, upd_off _ _ e]
  · by_cases e : i = k
    · subst e; rw [upd_at]; exact pin_turn hp ht fun _ x e hx => h.ng (hx ▸ ho x e)
    · rw [upd_off _ _ e]; exact pin_turn (h.pin i hi) ht fun _ x e hx => h.ng (hx ▸ h.own i hi x e)
  · by_cases e : i = k
    · subst e; rw [upd_at]; exact ho
    · rw [upd_off _ _ e]; exact h.own i hi
end
/-- The document's map, by what it tells. -/
def Bmp (w : World) (b : Nat) (G : Nat → Prop) (A : Nat → Int) (X : Nat → List Int) : Prop := ∃ F, Rfm w b G A F ∧ ∀ k, k < 828 → (F k).zs = X k
def noPc : Pc := ⟨none, 0, 0, []⟩
theorem pin_no (w : World) : Pin w noPc.a noPc.n noPc.c noPc.zs := Pin.zero w
section
variable {w w' : World} {b : Nat} {G : Nat → Prop} {A : Nat → Int} {X : Nat → List Int}
theorem Bmp.next (h : Bmp w b G A X) (hb : Below w.heap.size w w') : Bmp w' b G A X := by
  obtain ⟨F, h1, h2⟩ := h
  exact ⟨F, h1.next hb, h2⟩
theorem Bmp.lt (h : Bmp w b G A X) : b < w.heap.size := by
  obtain ⟨F, h1, h2⟩ := h
  exact h1.lt
theorem Bmp.setX (h : Bmp w b G A X) {k : Nat} (hk : k < 828) (p : Pc) (hp : Pin w p.a p.n p.c p.zs) (ho : ∀ x, p.a = some x → G x.block) : Bmp (w.setCell ⟨b, 828 + k, none⟩ (.slice p.a p.n p.c)) b G A (upd X k p.zs) := by
  obtain ⟨F, h1, h2⟩ := h
  refine ⟨_, h1.setF hk p hp ho, fun i hi => ?_⟩
  by_cases e : i = k
  · subst e; rw [upd_at, upd_at]
  · rw [upd_off _ _ e, upd_off _ _ e]; exact h2 i hi
theorem Bmp.none (h : Bmp w b G A X) {k : Nat} (hk : k < 828) : Bmp (w.setCell ⟨b, 828 + k, .none⟩ (.slice .none 0 0)) b G A (upd X k []) :=
  h.setX hk noPc (pin_no w) (fun x e => by cases e)
theorem Bmp.fr (h : Bmp w b G A X) (i : Nat) : w.frozen? ⟨b, i, .none⟩ = false := by
  obtain ⟨F, h1, h2⟩ := h
  exact h1.fr i
end

theorem nwO_no {ks : List Int} {k : Nat} (hk : k < ks.length) (h : ptO (num ks k) = false) : nwO ks = false := by
  cases hh : nwO ks with
  | false => rfl
  | true =>
    simp only [nwO, Bool.and_eq_true] at hh
    rw [all_pt.1 hh.2 k hk] at h
    cases h

/-- The address that a block is at. -/
def adO (A : Nat → Int) (k : Int) : Int := if inK k then A k.toNat else 0
theorem adO_no (A : Nat → Int) {k : Int} (h : ¬ (0 ≤ k ∧ k < 828)) : adO A k = 0 := by rw [adO, if_neg (by rw [inK_iff]; exact h)]
theorem adO_yes (A : Nat → Int) {k : Nat} (h : k < 828) : adO A k = A k := by rw [adO, if_pos (inK_iff.2 (by omega))]; rfl
/-- A new block's bytes, and whether there are any. -/
def byO (X : Nat → List Int) (k : Int) : Bool := inK k && !(X k.toNat).isEmpty
def byX (X : Nat → List Int) (k : Int) : List Int := if inK k then X k.toNat else []
theorem by_yes (X : Nat → List Int) {k : Nat} (h : k < 828) : byO X k = !(X k).isEmpty ∧ byX X k = X k := by
  have e : inK (k : Int) = true := inK_iff.2 (by omega)
  exact ⟨by rw [byO, e]; rfl, by rw [byX, e]; rfl⟩
/-- Is it a block's Put? -/
def puO (k : Int) (x : List Int) : Bool := inK k && decide (x.length = 56)
/-- The first block that a cut takes. -/
def ctN (n : Int) : Nat := n.toNat

/-- Numbers of the call's own that are answered. -/
def SelPost (w : World) (ks : List Int) (e : Ending) (w' : World) : Prop := ∃ a c, e = .returned (.slice a ks.length c) ∧ Ins w' a ks.length ks ∧ (∀ x, a = some x → w.heap.size ≤ x.block ∧ x.block < w'.heap.size) ∧ Below w.heap.size w w'
theorem SelPost.own {w w' : World} {v : Value} {n : Nat} {ks : List Int} (h : OwnI w' w.heap.size v n ks) (hb : Below w.heap.size w w') : SelPost w ks (.returned v) w' := by
  obtain ⟨a, c, rfl, hi, _, _, hx⟩ := h.ins
  have hl := hi.len
  subst hl
  exact ⟨a, c, rfl, hi, hx, hb⟩

abbrev Pred := World → Nat → (Nat → Prop) → (Nat → Prop) → (Nat → Int) → (Nat → List Int) → Prop
/-- What a call that changes a map leaves. -/
def Left (Pmp : Pred) (w : World) (p : Nat) (T D : Nat → Prop) (A : Nat → Int) (X : Nat → List Int) (w' : World) : Prop :=
  Turn T w w' ∧ ∃ T' D', Pmp w' p T' D' A X ∧ (∀ j, T' j → T j ∨ w.heap.size ≤ j) ∧ (∀ j, D' j → D j ∨ w.heap.size ≤ j)
structure MapOk (Pmp : Pred) : Prop where
  td : ∀ {w p T D A X}, Pmp w p T D A X → ∀ j, T j → D j
  lt : ∀ {w p T D A X}, Pmp w p T D A X → ∀ j, D j → j < w.heap.size
  turn : ∀ {w w' p T D A X N}, Pmp w p T D A X → Turn N w w' → (∀ j, D j → ¬ N j) → Pmp w' p T D A X
  new : ∀ (a : Option Addr) (n c : Nat) (ks : List Int) (w : World), Ins w a n ks → (a = none → n = 0 ∧ c = 0) → n ≤ 2000 →
    Calls Try.prog 72 #[.slice a n c] w fun e w' => (nwO ks = true → ∃ p T D, e = .returned (.tuple #[.pointer (some ⟨p, 0, none⟩), .int .i64 0]) ∧ Pmp w' p T D (num ks) (fun _ => []) ∧ ∀ j, D j → w.heap.size ≤ j) ∧
      (nwO ks = false → e = .returned (.tuple #[.pointer none, .int .i64 28])) ∧ Below w.heap.size w w'
  put : ∀ {w p T D A X}, Pmp w p T D A X → ∀ (k : Int) (a : Option Addr) (n c : Nat) (x : List Int), Pin w a n c x → (0 < n → ∀ y, a = some y → ¬ T y.block) →
    Calls Try.prog 75 #[.pointer (some ⟨p, 0, none⟩), .int .i64 k, .slice a n c] w fun e w' => e = .returned (.int .i64 (if puO k x then 0 else 28)) ∧
      Left Pmp w p T D (if puO k x then upd A k.toNat 0 else A) (if puO k x then upd X k.toNat (bnO x) else X) w'
  ad : ∀ {w p T D A X}, Pmp w p T D A X → ∀ (k : Int), Calls Try.prog 41 #[.pointer (some ⟨p, 0, none⟩), .int .i64 k] w fun e w' => e = .returned (.int .i64 (adO A k)) ∧ Below w.heap.size w w'
  bytes : ∀ {w p T D A X}, Pmp w p T D A X → ∀ (k : Int), Calls Try.prog 116 #[.pointer (some ⟨p, 0, none⟩), .int .i64 k] w (RetT w (byX X k) (byO X k))
  cut : ∀ {w p T D A X}, Pmp w p T D A X → ∀ (n : Int), (Lit.int .i64 n).wf = true → Calls Try.prog 77 #[.pointer (some ⟨p, 0, none⟩), .int .i64 n] w fun e w' => e = .returned (.tuple #[]) ∧
      Left Pmp w p T D (cutF 0 A (ctN n) 828) (cutF [] X (ctN n) 828) w'
  fresh : ∀ {w p T D A X}, Pmp w p T D A X → Calls Try.prog 40 #[.pointer (some ⟨p, 0, none⟩)] w (SelPost w (selL (freP X) 828))
  there : ∀ {w p T D A X}, Pmp w p T D A X → Calls Try.prog 38 #[.pointer (some ⟨p, 0, none⟩)] w (SelPost w (selL (theP A X) 828))
  clone : ∀ {w p T D A X}, Pmp w p T D A X → Calls Try.prog 81 #[.pointer (some ⟨p, 0, none⟩)] w fun e w' => ∃ q T' D', e = .returned (.pointer (some ⟨q, 0, none⟩)) ∧ Pmp w' q T' D' A X ∧
      (∀ j, T' j → w.heap.size ≤ j) ∧ (∀ j, D' j → (D j ∧ ¬ T j) ∨ w.heap.size ≤ j) ∧ Below w.heap.size w w'
theorem MapOk.next {Pmp : Pred} (H : MapOk Pmp) {w w' p T D A X} (h : Pmp w p T D A X) (hb : Below w.heap.size w w') : Pmp w' p T D A X := H.turn (N := fun _ => False) h (Turn.of_below hb) (fun _ _ h => h)
end Go.Proofs.Ytegcjpocdfmpfaa
namespace Go.Proofs.Ytegcjpocdfmpfaa
open Go.RowKit Go.Maps Go.ChangeMaps Go.MapKept Go.Sort

theorem selL_pair (p : Nat → Bool) (n : Nat) : (selL p n).Pairwise (· < ·) := by
  induction n with
  | zero => exact List.Pairwise.nil
  | succ n ih =>
    rw [selL]
    refine List.pairwise_append.2 ⟨ih, by split <;> simp, fun a ha b hb => ?_⟩
    obtain ⟨k, hk, _, rfl⟩ := selL_mem.1 ha
    split at hb
    · simp at hb; subst hb; omega
    · simp at hb
theorem selL_nodup (p : Nat → Bool) (n : Nat) : (selL p n).Nodup := (selL_pair p n).imp fun h => by omega
theorem selL_le (p : Nat → Bool) (n : Nat) : (selL p n).Pairwise fun x y => decide (x ≤ y) = true := (selL_pair p n).imp fun h => by simp; omega

abbrev El := Value → Option (DataW Unit × List MemPlace)
abbrev keyI (s : Nat) : Lit := .int .i64 (s : Int)
theorem keyI_inj {s t : Nat} (h : keyI s = keyI t) : s = t := by simp [keyI] at h; omega
theorem law3 : Keyed Try.prog 3 := int_keyed Try.underlying3
theorem hkeyI {s : Nat} (h : s < 828) : keyOf Try.prog 3 (.int .i64 (s : Int)) = some (keyI s) := keyOf_int_mk Try.underlying3 (WalkArith.wf_i64 (by omega))
theorem isKeyI {s : Nat} (h : s < 828) : WideAt.IsKeyLit (keyI s) := law3.key (hkeyI h)

/-- Block b is a map that has at s what f tells of s (nothing: none), for s below 828, and nothing else. -/
structure NmD (w : World) (R : El) (b n : Nat) (f : Nat → Option (DataW Unit)) (D : DataW Unit) : Prop where
  own : w.ownsMap Try.prog 3 R b n D
  val : ∀ s d, f s = some d → ∀ z, D.atKey (keyI s) z = d
  has : ∀ s, Maps.has D (keyI s) = (f s).isSome
  keys : ∀ kl, Maps.has D kl = true → ∃ s : Nat, s < 828 ∧ kl = keyI s
def Nm (w : World) (R : El) (b : Nat) (f : Nat → Option (DataW Unit)) : Prop := ∃ D, NmD w R b 828 f D
theorem NmD.far {w : World} {R : El} {b n : Nat} {f : Nat → Option (DataW Unit)} {D : DataW Unit} (h : NmD w R b n f D) {s : Nat} (hs : 828 ≤ s) : f s = none := by
  have := h.has s
  cases hf : f s with
  | none => rfl
  | some d =>
    rw [hf] at this
    obtain ⟨t, ht, e⟩ := h.keys _ this
    have := keyI_inj e
    omega
def pres (f : Nat → Option (DataW Unit)) (k : Nat) : Bool := (f k).isSome
theorem NmD.perm {w : World} {R : El} {b n : Nat} {f : Nat → Option (DataW Unit)} {D : DataW Unit} (h : NmD w R b n f D) {N : Nat} (hN : N = 828) : (selL (pres f) N).Perm (intKeys D) := by
  obtain ⟨es, hD, hpw, _⟩ := h.own.entries law3
  obtain ⟨es', hD', hko⟩ := h.own.keysOf
  obtain rfl : es = es' := by rw [hD] at hD'; simpa using hD'
  subst hD
  refine perm_intKeys hpw (fun p hp => by obtain ⟨v, hv⟩ := hko p hp; obtain ⟨x, _, hx, _⟩ := Maps.keyOf_i64 Try.underlying3 hv; exact ⟨x, hx⟩) (selL_nodup _ _) fun x => ?_
  constructor
  · intro hx
    obtain ⟨s, hs, h1, rfl⟩ := selL_mem.1 hx
    exact (h.has s).trans h1
  · intro hx
    obtain ⟨s, hs, e⟩ := h.keys _ hx
    obtain rfl : x = (s : Int) := by simpa [keyI] using e
    exact selL_mem.2 ⟨s, by omega, (h.has s).symm.trans hx, rfl⟩
theorem NmD.sorted {w : World} {R : El} {b n : Nat} {f : Nat → Option (DataW Unit)} {D : DataW Unit} (h : NmD w R b n f D) {N : Nat} (hN : N = 828) {ss : List Int} (hs : ss.Perm (intKeys D)) : (ss.mergeSort fun x y => decide (x ≤ y)) = selL (pres f) N := by
  have e := mergeSort_of_perm_i (hs.trans (h.perm hN).symm)
  exact e.trans (List.mergeSort_of_pairwise (selL_le _ _))
theorem NmD.size {w : World} {R : El} {b n : Nat} {f : Nat → Option (DataW Unit)} {D : DataW Unit} (h : NmD w R b n f D) : Maps.size D ≤ 828 := by
  have e : Maps.size D = (intKeys D).length := by
    obtain ⟨es, rfl⟩ := h.own.isMap
    simp [Maps.size, intKeys]
  obtain ⟨N, hN⟩ : ∃ N, N = 828 := ⟨_, rfl⟩
  rw [e, ← (h.perm hN).length_eq, ← hN]
  exact selL_len _ _
theorem NmD.tight {w : World} {R : El} {b n : Nat} {f : Nat → Option (DataW Unit)} {D : DataW Unit} (h : NmD w R b n f D) : Nm w R b f := by
  have hs := h.size
  have h' := h
  obtain ⟨es, clock, hb, F, _, hD⟩ := h.own
  refine ⟨D, ⟨es, clock, hb, F, ?_, hD⟩, h'.val, h'.has, h'.keys⟩
  rw [hD] at hs
  simpa [Maps.size, length_sorted] using hs
theorem Nm.lt {w : World} {R : El} {b : Nat} {f : Nat → Option (DataW Unit)} (h : Nm w R b f) : b < w.heap.size := by obtain ⟨D, h⟩ := h; exact h.own.lt
theorem Nm.far {w : World} {R : El} {b : Nat} {f : Nat → Option (DataW Unit)} (h : Nm w R b f) {s : Nat} (hs : 828 ≤ s) : f s = none := by obtain ⟨D, h⟩ := h; exact h.far hs
theorem ownsMap_of_row {R : El} {w w' : World} {b n : Nat} {D : DataW Unit} (h : w.ownsMap Try.prog 3 R b n D) (e : w'.heap[b]? = w.heap[b]?) : w'.ownsMap Try.prog 3 R b n D := by
  obtain ⟨es, clock, hb, r⟩ := h
  exact ⟨es, clock, e.trans hb, r⟩
theorem Nm.row {w w' : World} {R : El} {b : Nat} {f : Nat → Option (DataW Unit)} (h : Nm w R b f) (e : w'.heap[b]? = w.heap[b]?) : Nm w' R b f := by
  obtain ⟨D, h⟩ := h
  exact ⟨D, ownsMap_of_row h.own e, h.val, h.has, h.keys⟩
theorem Nm.turn {w w' : World} {R : El} {b : Nat} {f : Nat → Option (DataW Unit)} {M : Nat → Prop} (h : Nm w R b f) (ht : Turn M w w') (hm : ¬ M b) : Nm w' R b f := h.row (ht.block b h.lt hm)
theorem Nm.next {w w' : World} {R : El} {b : Nat} {f : Nat → Option (DataW Unit)} (h : Nm w R b f) (hb : Below w.heap.size w w') : Nm w' R b f := h.row (hb.block b h.lt)
theorem turn_map {w w' : World} {b : Nat} (h : w.mapTurned w' b) : Turn (· = b) w w' := Turn.of_grown h.grown rfl

/-- A new map has nothing. -/
theorem Nm.made (w : World) (R : El) : Nm (w.alloc (.map #[] 0)) R w.heap.size (fun _ => none) :=
  ⟨_, (World.ownsMap_made w _ _ R).mono (Nat.zero_le _), (fun _ _ h => by cases h), (fun _ => rfl), (fun _ h => by cases h)⟩

section
variable {w : World} {R : El} {b : Nat} {f : Nat → Option (DataW Unit)} {T E : TypeId}
/-- The look-up at a number at which there is something, and at one at which there is nothing (whatever number). -/
theorem Nm.yes (h : Nm w R b f) (hT : Try.prog.underlying T = some (.map 3 E)) {z : Value} (hz : (zeroValue E).run Try.prog w = .ok z w) {zd : DataW Unit} {zp : List MemPlace} (hzd : R z = some (zd, zp)) {k : Nat} {d : DataW Unit} (hf : f k = some d) :
    ∃ v ps, R v = some (d, ps) ∧ (Instr.lookup T (.map (some b)) (.int .i64 (k : Int)) true).run Try.prog w = .ok (.tuple #[v, .bool true]) w := by
  obtain ⟨D, h⟩ := h
  have hk : k < 828 := by
    rcases Nat.lt_or_ge k 828 with h1 | h1
    · exact h1
    · rw [h.far h1] at hf; cases hf
  obtain ⟨v, ps, hrun, hv⟩ := h.own.look_ok law3 hT hz hzd (hkeyI hk)
  rw [h.val k d hf] at hv
  rw [h.has k, hf] at hrun
  exact ⟨v, ps, hv, hrun⟩
theorem Nm.yes2 (h : Nm w R b f) (hT : Try.prog.underlying T = some (.map 3 E)) {z : Value} (hz : (zeroValue E).run Try.prog w = .ok z w) {zd : DataW Unit} {zp : List MemPlace} (hzd : R z = some (zd, zp)) {k : Nat} {d : DataW Unit} (hf : f k = some d) :
    ∃ v ps, R v = some (d, ps) ∧ (Instr.lookup T (.map (some b)) (.int .i64 (k : Int)) false).run Try.prog w = .ok v w := by
  obtain ⟨D, h⟩ := h
  have hk : k < 828 := by
    rcases Nat.lt_or_ge k 828 with h1 | h1
    · exact h1
    · rw [h.far h1] at hf; cases hf
  obtain ⟨v, ps, hrun, hv⟩ := h.own.lookup law3 hT hz hzd (hkeyI hk)
  rw [h.val k d hf] at hv
  exact ⟨v, ps, hv, hrun⟩
theorem Nm.no (h : Nm w R b f) (hT : Try.prog.underlying T = some (.map 3 E)) {z : Value} (hz : (zeroValue E).run Try.prog w = .ok z w) {k : Int} (hf : ∀ s : Nat, k = s → f s = none) (c : Bool) :
    (Instr.lookup T (.map (some b)) (.int .i64 k) c).run Try.prog w = .ok (if c then .tuple #[z, .bool false] else z) w := by
  obtain ⟨D, h⟩ := h
  have hh := h.has
  have hkeys := h.keys
  obtain ⟨es, clock, hb, F, _, rfl⟩ := h.own
  have hall : ∀ x ∈ es.toList, IsKey (.int .i64) x.key ∧ x.key ≠ .int .i64 k := by
    intro x hx
    obtain ⟨y, hy⟩ := F.reads x hx
    obtain ⟨x', e1, e2, _⟩ := Maps.keyOf_i64 Try.underlying3 (WideElems.rd_key hy)
    refine ⟨by rw [e1]; exact rfl, fun e => ?_⟩
    rw [e1] at e
    obtain rfl : x' = k := by simpa using e
    have hin : Maps.has (DataW.map ((es.toList.map (WideElems.rg Try.prog 3 R)).foldr DataW.insert [])) y.1 = true :=
      List.any_eq_true.2 ⟨WideElems.rg Try.prog 3 R x, mem_sorted.2 (List.mem_map.2 ⟨x, hx, rfl⟩), by rw [WideElems.rg_of hy]; exact WideAt.sameKey_self (law3.key (WideElems.rd_key hy))⟩
    obtain ⟨s, _, e3⟩ := hkeys _ hin
    rw [e2] at e3
    have e4 : x' = (s : Int) := by simpa [keyI] using e3
    have := hh s
    rw [hf s e4] at this
    rw [e3] at e2
    rw [e2] at hin
    rw [this] at hin
    cases hin
  have hfind : (Instr.findKey 3 (.int .i64 k) es.toList).run Try.prog w = .ok none w := by
    rcases findNow_spec (d := .int .i64) (k := .int .i64 k) rfl es.toList 0 (fun x hx => (hall x hx).1) with ⟨h1, _⟩ | ⟨j, e0, _, h2, h3⟩
    · exact run_findKey Try.underlying3 h1
    · exact absurd h3 (hall e0 (List.mem_of_getElem? h2)).2
  have hchk : (Instr.checkKey es.isEmpty 10000 3 (.int .i64 k)).run Try.prog w = .ok () w := run_checkKey (d := .int .i64) (k := .int .i64 k) Try.underlying3 (show IsKey (.int .i64) (.int .i64 k) from rfl) _ 9999
  cases c <;> simp [Instr.lookup, run_underlying hT, MapKept.run_getObj_map hb, hchk, hfind, hz, Result.andThen]

theorem NmD.put {w' : World} {n n' k : Nat} {D : DataW Unit} (h : NmD w R b n f D) (hk : k < 828) {d : DataW Unit} (ho : w'.ownsMap Try.prog 3 R b n' (D.put (keyI k) d)) : NmD w' R b n' (upd f k (some d)) (D.put (keyI k) d) := by
  have hm := h.own.isMap
  refine ⟨ho, fun t y hy z => ?_, fun t => ?_, fun kl hkl => ?_⟩
  · by_cases e : t = k
    · subst e
      rw [upd_at] at hy
      cases hy
      exact atKey_put_same hm (isKeyI hk) _ _
    · rw [upd_off _ _ e] at hy
      rw [atKey_put_other (fun x => e (keyI_inj x)), h.val t y hy]
  · by_cases e : t = k
    · subst e
      rw [upd_at, has_put_same hm (isKeyI hk)]
      rfl
    · rw [upd_off _ _ e, has_put_other (fun x => e (keyI_inj x)), h.has t]
  · by_cases e : kl = keyI k
    · exact ⟨k, hk, e⟩
    · rw [has_put_other e] at hkl
      exact h.keys kl hkl
theorem NmD.del {w' : World} {n n' k : Nat} {D : DataW Unit} (h : NmD w R b n f D) (ho : w'.ownsMap Try.prog 3 R b n' (D.del (keyI k))) : NmD w' R b n' (upd f k none) (D.del (keyI k)) := by
  refine ⟨ho, fun t y hy z => ?_, fun t => ?_, fun kl hkl => ?_⟩
  · by_cases e : t = k
    · subst e
      rw [upd_at] at hy
      cases hy
    · rw [upd_off _ _ e] at hy
      rw [atKey_del_other (fun x => e (keyI_inj x)), h.val t y hy]
  · by_cases e : t = k
    · subst e
      rw [upd_at, has_del_same]
      rfl
    · rw [upd_off _ _ e, has_del_other (fun x => e (keyI_inj x)), h.has t]
  · by_cases e : kl = keyI k
    · rw [e, has_del_same] at hkl
      cases hkl
    · rw [has_del_other e] at hkl
      exact h.keys kl hkl
theorem Nm.store (h : Nm w R b f) (hT : Try.prog.underlying T = some (.map 3 E)) {k : Nat} (hk : k < 828) {v : Value} {d : DataW Unit} {ps : List MemPlace} (hv : R v = some (d, ps)) :
    ∃ w', (Instr.mapUpdate T (.map (some b)) (.int .i64 (k : Int)) v).run Try.prog w = .ok () w' ∧ Nm w' R b (upd f k (some d)) ∧ w.mapTurned w' b := by
  obtain ⟨D, h⟩ := h
  obtain ⟨w', hrun, hown, ht⟩ := h.own.store law3 hT (by unfold maxLen; omega) (hkeyI hk) hv
  exact ⟨w', hrun, (h.put hk hown).tight, ht⟩
theorem Nm.drop (h : Nm w R b f) (hT : Try.prog.underlying T = some (.map 3 E)) {k : Nat} (hk : k < 828) :
    ∃ w', (∀ ty, (Builtin.delete_ #[T, 3] ty #[.map (some b), .int .i64 (k : Int)]).run Try.prog w = .ok (.tuple #[]) w') ∧ Nm w' R b (upd f k none) ∧ w.mapTurned w' b := by
  obtain ⟨D, h⟩ := h
  obtain ⟨w', hrun, hown, ht⟩ := h.own.drop law3 hT (hkeyI hk) (0 : TypeId)
  exact ⟨w', (fun ty => hrun), (h.del hown).tight, ht⟩
/-- The blocks from c on are struck. -/
theorem NmD.cut {w' : World} {n n' : Nat} {D : DataW Unit} (h : NmD w R b n f D) (c : Int) (ho : w'.ownsMap Try.prog 3 R b n' (Lib.deleteFuncD (fun kl _ => match kl with | .int _ x => decide (c ≤ x) | _ => false) D)) :
    NmD w' R b n' (fun s => if c ≤ (s : Int) then none else f s) (Lib.deleteFuncD (fun kl _ => match kl with | .int _ x => decide (c ≤ x) | _ => false) D) := by
  obtain ⟨es, hD, hpw, hko⟩ := h.own.entries law3
  subst hD
  have hfind : ∀ s : Nat, ¬ c ≤ (s : Int) → ((es.filter fun p => !(match p.1 with | .int _ x => decide (c ≤ x) | _ => false)).find? fun p => p.1.sameKey (keyI s)) = es.find? fun p => p.1.sameKey (keyI s) := fun s hs =>
    find_filter_keep (fun p hp => by
      have := WideAt.sameKey_eq hp
      rw [this]
      simp [keyI, hs]) es
  have hany : ∀ s : Nat, ¬ c ≤ (s : Int) → ((es.filter fun p => !(match p.1 with | .int _ x => decide (c ≤ x) | _ => false)).any fun p => p.1.sameKey (keyI s)) = es.any fun p => p.1.sameKey (keyI s) := fun s hs =>
    any_filter_keep (fun p hp => by
      have := WideAt.sameKey_eq hp
      rw [this]
      simp [keyI, hs]) es
  refine ⟨ho, fun t y hy z => ?_, fun t => ?_, fun kl hkl => ?_⟩
  · split at hy
    · cases hy
    · rename_i hs
      have := h.val t y hy z
      unfold DataW.atKey at this ⊢
      simp only [Lib.deleteFuncD]
      rw [hfind t hs]
      exact this
  · have e1 := h.has t
    simp only [Lib.deleteFuncD, has_eq] at e1 ⊢
    by_cases hs : c ≤ (t : Int)
    · rw [if_pos hs]
      simp only [Option.isSome_none, List.any_eq_false, List.mem_filter]
      rintro p ⟨_, hp⟩ hp2
      have := WideAt.sameKey_eq hp2
      rw [this] at hp
      simp [keyI, hs] at hp
    · rw [if_neg hs, hany t hs]
      exact e1
  · refine h.keys kl ?_
    simp only [Lib.deleteFuncD, has_eq, List.any_eq_true, List.mem_filter] at hkl ⊢
    obtain ⟨p, ⟨hp, _⟩, hp2⟩ := hkl
    exact ⟨p, hp, hp2⟩
end
end Go.Proofs.Ytegcjpocdfmpfaa
