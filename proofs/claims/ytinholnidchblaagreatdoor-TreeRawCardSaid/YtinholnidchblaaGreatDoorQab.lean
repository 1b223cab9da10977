import Derived.Test.YtinholnidchblaaGreatDoorRows
import Derived.Lib.ConvBytes
import Derived.Lib.Strings
import Derived.Test.YtinholnidchblaaGreatDoorQaa
import Derived.Laws.CopyRow
set_option linter.unusedVariables false
set_option linter.unusedSimpArgs false
set_option maxRecDepth 100000
set_option maxHeartbeats 16000000
namespace Go.Proofs.YtinholnidchblaaGreatDoor
def okB (b : UInt8) : Bool := !(b == 0) && !(b == 47)
def nmB (l : List UInt8) : Bool := decide (1 ≤ l.length) && decide (l.length ≤ 12) && !(l == [46]) && !(l == [46, 46]) && l.all okB
def tx (l : List UInt8) : ByteArray := ⟨l.toArray⟩
theorem tx_data (s : ByteArray) : tx s.data.toList = s := Lib.mk_data s
theorem data_tx (l : List UInt8) : (tx l).data.toList = l := by simp [tx]
structure En where
 s : ByteArray
 i : Int
deriving DecidableEq
instance : Inhabited En := ⟨⟨ByteArray.empty, 0⟩⟩
theorem En.ext' {x y : En} (h : x.s = y.s) (k : x.i = y.i) : x = y := by
 cases x; cases y; simp at h k; simp [h, k]
def eat (L : List En) (i : Nat) : En := L.getD i default
theorem eat_get {L : List En} {i : Nat} (h : i < L.length) : L[i]? = some (eat L i) := by simp [eat, List.getD, h]
theorem eat_mem {L : List En} {i : Nat} (h : i < L.length) : eat L i ∈ L := by simp [eat, List.getD, h]
def blt (x y : ByteArray) : Bool := Op.bytesLess x.toList y.toList
def beqS (x y : ByteArray) : Bool := x.toList == y.toList
theorem beqS_iff {x y : ByteArray} : beqS x y = true ↔ x = y := by
 unfold beqS
 rw [beq_iff_eq, Lib.toList_data, Lib.toList_data]
 constructor
 ·intro h
  have := congrArg tx h
  rwa [tx_data, tx_data] at this
 ·intro h; rw [h]
theorem beqS_refl (x : ByteArray) : beqS x x = true := beqS_iff.2 rfl
theorem bl_irrefl : ∀ l : List UInt8, Op.bytesLess l l = false
 | [] => rfl
 | b :: l => by
  rw [Op.bytesLess, bl_irrefl l, Bool.and_false, Bool.or_false, decide_eq_false_iff_not]
  exact UInt8.lt_irrefl b
theorem bl_trans : ∀ {x y z : List UInt8}, Op.bytesLess x y = true → Op.bytesLess y z = true → Op.bytesLess x z = true
 | [], [], _, h, _ => by cases h
 | _ :: _, [], _, h, _ => by cases h
 | _, _ :: _, [], _, k => by cases k
 | [], _ :: _, _ :: _, _, _ => rfl
 | a :: x, b :: y, c :: z, h, k => by
  rw [Op.bytesLess, Bool.or_eq_true, Bool.and_eq_true, decide_eq_true_eq, beq_iff_eq] at *
  rcases h with h | ⟨rfl, h⟩
  ·rcases k with k | ⟨rfl, k⟩
   ·exact .inl (UInt8.lt_trans h k)
   ·exact .inl h
  ·rcases k with k | ⟨rfl, k⟩
   ·exact .inl k
   ·exact .inr ⟨rfl, bl_trans h k⟩
theorem bl_total : ∀ {x y : List UInt8}, Op.bytesLess x y = false → Op.bytesLess y x = false → x = y
 | [], [], _, _ => rfl
 | [], _ :: _, h, _ => by cases h
 | _ :: _, [], _, k => by cases k
 | a :: x, b :: y, h, k => by
  rw [Op.bytesLess, Bool.or_eq_false_iff, decide_eq_false_iff_not] at h k
  have e : a = b := UInt8.le_antisymm (UInt8.not_lt.1 k.1) (UInt8.not_lt.1 h.1)
  subst e
  have h2 : Op.bytesLess x y = false := by simpa using h.2
  have k2 : Op.bytesLess y x = false := by simpa using k.2
  rw [bl_total h2 k2]
theorem blt_irrefl (x : ByteArray) : blt x x = false := bl_irrefl _
theorem blt_trans {x y z : ByteArray} (h : blt x y = true) (k : blt y z = true) : blt x z = true := bl_trans h k
theorem blt_total {x y : ByteArray} (h : blt x y = false) (k : blt y x = false) : x = y := by
 have e := bl_total h k
 exact beqS_iff.1 (by unfold beqS; rw [e]; exact beq_self_eq_true _)
theorem blt_ne {x y : ByteArray} (h : blt x y = true) : x ≠ y := fun e => by rw [e, blt_irrefl] at h; cases h
def okE (e : En) : Bool := nmB e.s.data.toList && decide (1 ≤ e.i) && decide (e.i ≤ 56)
def ris : List En → Bool
 | [] => true
 | [_] => true
 | x :: y :: r => blt x.s y.s && ris (y :: r)
def rgt (L : List En) : Bool := decide (L.length ≤ 64) && L.all okE && ris L
def RisTo (L : List En) (k : Nat) : Prop := ∀ j, j + 1 < k → blt (eat L j).s (eat L (j + 1)).s = true
theorem RisTo.one (L : List En) : RisTo L 1 := fun j h => by omega
theorem RisTo.zero (L : List En) : RisTo L 0 := fun j h => by omega
theorem RisTo.succ {L : List En} {k : Nat} (h : RisTo L k) (e : ∀ j, j + 1 = k → blt (eat L j).s (eat L (j + 1)).s = true) : RisTo L (k + 1) := fun j hj => by
 by_cases hk : j + 1 = k
 ·exact e j hk
 ·exact h j (by omega)
theorem ris_iff : ∀ L : List En, ris L = true ↔ RisTo L L.length
 | [] => ⟨fun _ => RisTo.zero _, fun _ => rfl⟩
 | [x] => ⟨fun _ => RisTo.one _, fun _ => rfl⟩
 | x :: y :: r => by
  rw [ris, Bool.and_eq_true, ris_iff (y :: r)]
  constructor
  ·rintro ⟨h, k⟩ j hj
   cases j with
   | zero => exact h
   | succ j =>
    have := k j (by simpa using hj)
    simpa [eat] using this
  ·intro h
   refine ⟨h 0 (by simp), fun j hj => ?_⟩; have := h (j + 1) (by simpa using hj)
   simpa [eat] using this
theorem RisTo.ris {L : List En} (h : RisTo L L.length) : ris L = true := (ris_iff L).2 h
theorem not_ris {L : List En} {k : Nat} (hk : k + 1 < L.length) (e : blt (eat L k).s (eat L (k + 1)).s = false) : ris L = false := by
 cases h : ris L with
 | false => rfl
 | true => have := (ris_iff L).1 h k hk; rw [e] at this; cases this
def OkEs (L : List En) (k : Nat) : Prop := ∀ j, j < k → okE (eat L j) = true
theorem OkEs.zero (L : List En) : OkEs L 0 := fun j h => by omega
theorem OkEs.succ {L : List En} {k : Nat} (h : OkEs L k) (e : okE (eat L k) = true) : OkEs L (k + 1) := fun j hj => by
 by_cases hk : j = k
 ·rw [hk]; exact e
 ·exact h j (by omega)
theorem rgt_long {L : List En} (h : 64 < L.length) : rgt L = false := by unfold rgt; rw [decide_eq_false (by omega)]; rfl
theorem rgt_bad {L : List En} (h : L.all okE = false) : rgt L = false := by unfold rgt; rw [h, Bool.and_false]; rfl
theorem rgt_fall {L : List En} (h : ris L = false) : rgt L = false := by unfold rgt; rw [h, Bool.and_false]
theorem rgt_yes {L : List En} (h : L.length ≤ 64) (k : L.all okE = true) (r : ris L = true) : rgt L = true := by unfold rgt; rw [decide_eq_true h, k, r]; rfl
theorem rgt_all {L : List En} (h : rgt L = true) : L.length ≤ 64 ∧ L.all okE = true ∧ ris L = true := by
 unfold rgt at h
 rw [Bool.and_eq_true, Bool.and_eq_true, decide_eq_true_eq] at h
 exact ⟨h.1.1, h.1.2, h.2⟩
def efix (L : List En) (n : ByteArray) : Nat := L.findIdx fun e => !(blt e.s n)
def ehas (L : List En) (n : ByteArray) : Bool := decide (efix L n < L.length) && beqS (eat L (efix L n)).s n
theorem efix_le (L : List En) (n : ByteArray) : efix L n ≤ L.length := List.findIdx_le_length
def LowTo (L : List En) (n : ByteArray) (k : Nat) : Prop := ∀ j, j < k → blt (eat L j).s n = true
theorem LowTo.zero (L : List En) (n : ByteArray) : LowTo L n 0 := fun j h => by omega
theorem LowTo.succ {L : List En} {n : ByteArray} {k : Nat} (h : LowTo L n k) (e : blt (eat L k).s n = true) : LowTo L n (k + 1) := fun j hj => by
 by_cases hk : j = k
 ·rw [hk]; exact e
 ·exact h j (by omega)
theorem LowTo.here {L : List En} {n : ByteArray} {k : Nat} (h : LowTo L n k) (hk : k < L.length) (e : blt (eat L k).s n = false) : efix L n = k := by
 unfold efix
 rw [List.findIdx_eq hk]
 refine ⟨?_, fun j hj => ?_⟩
 ·have : L[k] = eat L k := by simp [eat, List.getD, hk]
  rw [this, e]; rfl
 ·have : L[j] = eat L j := by simp [eat, List.getD, show j < L.length by omega]
  rw [this, h j hj]; rfl
theorem LowTo.none {L : List En} {n : ByteArray} (h : LowTo L n L.length) : efix L n = L.length := by
 unfold efix
 rw [List.findIdx_eq_length]
 intro x hx
 obtain ⟨i, hi, rfl⟩ := List.getElem_of_mem hx
 have := h i hi
 have e : L[i] = eat L i := by simp [eat, List.getD, hi]
 rw [e, this]; rfl
theorem efix_low (L : List En) (n : ByteArray) : LowTo L n (efix L n) := fun j hj => by
 have hl : j < L.length := Nat.lt_of_lt_of_le hj (efix_le L n)
 have := List.not_of_lt_findIdx hj
 have e : L[j] = eat L j := by simp [eat, List.getD, hl]
 rw [e] at this
 simpa using this
theorem efix_not {L : List En} {n : ByteArray} (h : efix L n < L.length) : blt (eat L (efix L n)).s n = false := by
 have h' : L.findIdx (fun e => !(blt e.s n)) < L.length := h
 have := List.findIdx_getElem (w := h')
 simp only [eat, List.getD, efix, List.getElem?_eq_getElem h', Option.getD_some]
 simpa using this
theorem ehas_none {L : List En} {n : ByteArray} (h : efix L n = L.length) : ehas L n = false := by unfold ehas; rw [decide_eq_false (by omega)]; rfl
theorem ehas_at {L : List En} {n : ByteArray} (h : efix L n < L.length) : ehas L n = beqS (eat L (efix L n)).s n := by unfold ehas; rw [decide_eq_true h]; rfl
def eput (L : List En) (e : En) : List En := L.take (efix L e.s) ++ e :: L.drop (efix L e.s + if ehas L e.s then 1 else 0)
theorem eput_has {L : List En} {e : En} (h : ehas L e.s = true) : eput L e = L.set (efix L e.s) e := by
 have hl : efix L e.s < L.length := by
  unfold ehas at h
  rw [Bool.and_eq_true, decide_eq_true_eq] at h
  exact h.1
 unfold eput
 rw [h, List.set_eq_take_append_cons_drop, if_pos hl]
 rfl
theorem eput_not {L : List En} {e : En} (h : ehas L e.s = false) : eput L e = L.take (efix L e.s) ++ e :: L.drop (efix L e.s) := by
 unfold eput
 rw [h]
 rfl
def ecut (L : List En) (n : ByteArray) : List En := L.filter fun e => !(beqS e.s n)
end Go.Proofs.YtinholnidchblaaGreatDoor
namespace Go.Proofs.YtinholnidchblaaGreatDoor
open Go.RowKit
structure Turn (M : Nat → Prop) (w w' : World) : Prop where
 os : w'.os = w.os
 tape : w'.tape = w.tape
 output : w'.output = w.output
 size : w.heap.size ≤ w'.heap.size
 block : ∀ k, k < w.heap.size → ¬ M k → w'.heap[k]? = w.heap[k]?
theorem Turn.refl (M : Nat → Prop) (w : World) : Turn M w w := ⟨rfl, rfl, rfl, Nat.le_refl _, fun _ _ _ => rfl⟩
theorem Turn.trans {M : Nat → Prop} {a b c : World} (h : Turn M a b) (k : Turn M b c) : Turn M a c :=
 ⟨k.os.trans h.os, k.tape.trans h.tape, k.output.trans h.output, Nat.le_trans h.size k.size, fun i hi hm => (k.block i (Nat.lt_of_lt_of_le hi h.size) hm).trans (h.block i hi hm)⟩
theorem Turn.mono {M M' : Nat → Prop} {w w' : World} (h : Turn M w w') (hm : ∀ k, M k → M' k) : Turn M' w w' := ⟨h.os, h.tape, h.output, h.size, fun k hk hn => h.block k hk fun x => hn (hm k x)⟩
theorem Turn.of_below {M : Nat → Prop} {w w' : World} (h : Below w.heap.size w w') : Turn M w w' := ⟨h.os, h.tape, h.output, h.size, fun k hk _ => h.block k hk⟩
theorem Turn.of_grown {M : Nat → Prop} {w w' : World} {b : Nat} (h : w.grownBy w' (some b)) (hb : M b) : Turn M w w' :=
 ⟨h.os, h.tape, h.output, h.size, fun k hk hn => h.block k hk (fun e => by cases e; exact hn hb)⟩
theorem Turn.setCell {M : Nat → Prop} (w : World) {a : Addr} (hb : M a.block) (u : Value) : Turn M w (w.setCell a u) :=
 ⟨rfl, rfl, rfl, by simp [World.setCell], fun k _ hn => Below.heap_setCell w a u k (fun e => hn (e ▸ hb))⟩
theorem turn_set (w : World) (b i : Nat) (u : Value) : Turn (· = b) w (w.setCell ⟨b, i, none⟩ u) := Turn.setCell (M := (· = b)) (a := ⟨b, i, none⟩) w rfl u
theorem Turn.below {M : Nat → Prop} {w w' : World} (h : Turn M w w') {B : Nat} (hB : B ≤ w.heap.size) (hm : ∀ k, M k → B ≤ k) : Below B w w' :=
 ⟨h.os, h.tape, h.output, h.size, fun k hk => h.block k (by omega) fun x => by have := hm k x; omega⟩
theorem Turn.cell {M : Nat → Prop} {w w' : World} (h : Turn M w w') {a : Addr} (hlt : a.block < w.heap.size) (hm : ¬ M a.block) : w'.cell? a = w.cell? a := World.cell?_of_block (w := w) (h.block _ hlt hm)
theorem bys_turn {M : Nat → Prop} {w w' : World} {a : Option Addr} {n : Nat} {zs : List Int} (h : Bys w a n zs) (ht : Turn M w w') (hm : ∀ b off, a = some ⟨b, off, .none⟩ → ¬ M b) : Bys w' a n zs := by
 refine ⟨h.len, h.small, ?_⟩
 rcases h.place with h0 | ⟨b, off, ha, hlt, hc⟩
 ·exact .inl h0
 ·exact .inr ⟨b, off, ha, Nat.lt_of_lt_of_le hlt ht.size, fun i hi => (ht.cell (a := ⟨b, off + i, .none⟩) hlt (hm b off ha)).trans (hc i hi)⟩
theorem cells_set {w : World} {g i : Nat} {cs : Array Value} {t : TypeId} {u : Value} (h : w.heap[g]? = some (.cells cs t (0, 0))) : (w.setCell ⟨g, i, none⟩ u).heap[g]? = some (.cells (cs.setIfInBounds i u) t (0, 0)) :=
 heap_setCell_same w g i _ _ _ h
def ecl (x : En) : List Value := [.string x.s, .int .i64 x.i]
def env (x : En) : Value := .agg #[.string x.s, .int .i64 x.i]
theorem ecl_one (x : En) : ∀ v ∈ ecl x, v.oneCell' = true := by
 intro v hv
 simp [ecl] at hv
 rcases hv with rfl | rfl <;> rfl
theorem eflat_len (L : List En) : (L.flatMap ecl).length = L.length * 2 := by
 induction L with
 | nil => rfl
 | cons x L ih => simp [ecl, ih]; omega
theorem eflat_one (L : List En) : ∀ v ∈ L.flatMap ecl, v.oneCell' = true := fun v hv => by
 obtain ⟨x, _, hx⟩ := List.mem_flatMap.1 hv
 exact ecl_one x v hx
theorem eflat_get : ∀ (L : List En) (k : Nat), k < L.length → (L.flatMap ecl)[k * 2]? = some (.string (eat L k).s) ∧ (L.flatMap ecl)[k * 2 + 1]? = some (.int .i64 (eat L k).i)
 | [], k, h => by simp at h
 | y :: L, 0, h => ⟨rfl, rfl⟩
 | y :: L, k + 1, h => by
  have := eflat_get L k (by simpa using h)
  have e : (k + 1) * 2 = k * 2 + 2 := by omega
  rw [e]
  exact this
theorem eflat_odd {L : List En} {j : Nat} {v : Value} (h : (L.flatMap ecl)[j]? = some v) : ∃ k, k < L.length ∧ ((j = k * 2 ∧ v = .string (eat L k).s) ∨ (j = k * 2 + 1 ∧ v = .int .i64 (eat L k).i)) := by
 have hj : j < L.length * 2 := by
  rcases Nat.lt_or_ge j (L.length * 2) with h1 | h1
  ·exact h1
  ·rw [List.getElem?_eq_none (by rw [eflat_len]; exact h1)] at h; cases h
 obtain ⟨h1, h2⟩ := eflat_get L (j / 2) (by omega)
 refine ⟨j / 2, by omega, ?_⟩
 rcases (by omega : j = j / 2 * 2 ∨ j = j / 2 * 2 + 1) with e | e
 ·refine .inl ⟨e, ?_⟩
  rw [e, h1] at h
  exact (Option.some.inj h).symm
 ·refine .inr ⟨e, ?_⟩
  rw [e, h2] at h
  exact (Option.some.inj h).symm
structure Ens (w : World) (a : Option Addr) (n : Nat) (L : List En) : Prop where
 len : L.length = n
 place : n = 0 ∨ ∃ b off, a = some ⟨b, off, none⟩ ∧ b < w.heap.size ∧ ∀ i, i < n → w.cell? ⟨b, off + i * 2, none⟩ = some (.string (eat L i).s) ∧ w.cell? ⟨b, off + i * 2 + 1, none⟩ = some (.int .i64 (eat L i).i)
theorem Ens.below {w w' : World} {a : Option Addr} {n : Nat} {L : List En} (h : Ens w a n L) {B : Nat} (hB : w.heap.size ≤ B) (hb : Below B w w') : Ens w' a n L := by
 refine ⟨h.len, ?_⟩
 rcases h.place with h0 | ⟨b, off, ha, hlt, hc⟩
 ·exact .inl h0
 ·exact .inr ⟨b, off, ha, Nat.lt_of_lt_of_le hlt hb.size, fun i hi => ⟨(hb.cell (p := ⟨b, off + i * 2, none⟩) (by show b < B; omega)).trans (hc i hi).1, (hb.cell (p := ⟨b, off + i * 2 + 1, none⟩) (by show b < B; omega)).trans (hc i hi).2⟩⟩
theorem Ens.next {w w' : World} {a : Option Addr} {n : Nat} {L : List En} (h : Ens w a n L) (hb : Below w.heap.size w w') : Ens w' a n L := h.below (Nat.le_refl _) hb
theorem Ens.alloc {w : World} {a : Option Addr} {n : Nat} {L : List En} (h : Ens w a n L) (o : Obj) : Ens (w.alloc o) a n L := h.next ((Below.refl _ _).alloc (Nat.le_refl _) o)
theorem Ens.drewN {w : World} {a : Option Addr} {n : Nat} {L : List En} (h : Ens w a n L) (q : Nat) : Ens (w.drewN q) a n L := h.next (below_drewN (Below.refl _ _) q)
theorem Ens.at {w : World} {a : Option Addr} {n : Nat} {L : List En} (h : Ens w a n L) {i : Nat} (hi : i < n) : ∃ b off, a = some ⟨b, off, none⟩ ∧ b < w.heap.size ∧ w.cell? ⟨b, off + i * 2, none⟩ = some (.string (eat L i).s) ∧ w.cell? ⟨b, off + i * 2 + 1, none⟩ = some (.int .i64 (eat L i).i) := by
 rcases h.place with h0 | ⟨b, off, ha, hlt, hc⟩
 ·omega
 ·exact ⟨b, off, ha, hlt, hc i hi⟩
theorem ens_nil (w : World) (a : Option Addr) : Ens w a 0 [] := ⟨rfl, .inl rfl⟩
theorem eat_take {L : List En} {k i : Nat} (h : i < k) : eat (L.take k) i = eat L i := by simp [eat, List.getD, h]
theorem eat_drop {L : List En} {k i : Nat} : eat (L.drop k) i = eat L (k + i) := by simp [eat, List.getD]
theorem Ens.take {w : World} {a : Option Addr} {n k : Nat} {L : List En} (h : Ens w a n L) (hk : k ≤ n) : Ens w a k (L.take k) := by
 refine ⟨by rw [List.length_take, h.len]; omega, ?_⟩
 rcases h.place with h0 | ⟨b, off, e, hlt, hc⟩
 ·exact .inl (by omega)
 ·exact .inr ⟨b, off, e, hlt, fun i hi => by rw [eat_take hi]; exact hc i (by omega)⟩
theorem Ens.drop {w : World} {b off n k : Nat} {L : List En} (h : Ens w (some ⟨b, off, none⟩) n L) : Ens w (some ⟨b, off + k * 2, none⟩) (n - k) (L.drop k) := by
 refine ⟨by rw [List.length_drop, h.len], ?_⟩
 rcases h.place with h0 | ⟨b', off', e, hlt, hc⟩
 ·exact .inl (by omega)
 ·cases e
  refine .inr ⟨b, off + k * 2, rfl, hlt, fun i hi => ?_⟩
  rw [eat_drop, show off + k * 2 + i * 2 = off + (k + i) * 2 by omega]
  exact hc (k + i) (by omega)
theorem eat_ext {x y : List En} (hl : x.length = y.length) (h : ∀ i, i < x.length → eat x i = eat y i) : x = y := by
 apply List.ext_getElem hl
 intro i h1 h2
 have := h i h1
 simpa [eat, List.getD, h1, h2] using this
theorem add_e (b off m : Nat) : (⟨b, off, none⟩ : Addr).add m = ⟨b, off + m, none⟩ := by unfold Addr.add; split <;> simp_all
theorem Ens.cells {w : World} {b off n : Nat} {L : List En} (h : Ens w (some ⟨b, off, none⟩) n L) : ∀ j u, (L.flatMap ecl)[j]? = some u → w.cell? ((⟨b, off, none⟩ : Addr).add j) = some u := by
 intro j u hj
 obtain ⟨k, hk, h1⟩ := eflat_odd hj
 rcases h.place with h0 | ⟨b', off', e, hlt, hc⟩
 ·rw [h.len] at hk; omega
 ·cases e
  obtain ⟨c1, c2⟩ := hc k (by rw [← h.len]; exact hk)
  rw [add_e]
  rcases h1 with ⟨rfl, rfl⟩ | ⟨rfl, rfl⟩
  ·exact c1
  ·exact c2
theorem infoE : (Tryz.prog.info? 77).map (fun i => (i.zero, i.size, i.bytes)) = some (some (.agg #[.string ByteArray.empty, .int .i64 0]), 2, 24) := by kernel_rfl
def OwnE (w : World) (B : Nat) (v : Value) (n : Nat) (L : List En) : Prop := w.ownsRow B 77 2 v n (L.flatMap ecl)
theorem OwnE.len {w : World} {B : Nat} {v : Value} {n : Nat} {L : List En} (h : OwnE w B v n L) : L.length = n := by
 have := h.1
 rw [eflat_len] at this
 omega
theorem OwnE.below {w w' : World} {B : Nat} {v : Value} {n : Nat} {L : List En} (h : OwnE w B v n L) {C : Nat} (hC : w.heap.size ≤ C) (hb : Below C w w') : OwnE w' B v n L :=
 h.kept (row := none) ⟨hb.os, hb.tape, hb.output, hb.size, fun k hk _ => hb.block k (by omega)⟩ (by cases v.ownBlock <;> simp)
theorem OwnE.next {w w' : World} {B : Nat} {v : Value} {n : Nat} {L : List En} (h : OwnE w B v n L) (hb : Below w.heap.size w w') : OwnE w' B v n L := h.below (Nat.le_refl _) hb
theorem OwnE.alloc {w : World} {B : Nat} {v : Value} {n : Nat} {L : List En} (h : OwnE w B v n L) (o : Obj) : OwnE (w.alloc o) B v n L := h.next ((Below.refl _ _).alloc (Nat.le_refl _) o)
theorem ownE_none (w : World) (B : Nat) (hB : B ≤ w.heap.size) : OwnE (w.alloc (.cells #[] 77)) B (.slice (some ⟨w.heap.size, 0, none⟩) 0 0) 0 [] := World.ownsRow_lit w #[] 0 hB (Nat.zero_le _) rfl
theorem ownE_nil (w : World) (B : Nat) : OwnE w B (.slice none 0 0) 0 [] := World.ownsRow_nil _ _ _ _
theorem OwnE.lower {w : World} {B C : Nat} {v : Value} {n : Nat} {L : List En} (h : OwnE w B v n L) (hC : C ≤ B) : OwnE w C v n L := by
 refine ⟨h.1, ?_⟩
 rcases h.2 with h0 | ⟨g, cap, cur, a, b, c⟩
 ·exact .inl h0
 ·exact .inr ⟨g, cap, cur, a, Nat.le_trans hC b, c⟩
theorem OwnE.setLow {w : World} {B : Nat} {v : Value} {n : Nat} {L : List En} (h : OwnE w B v n L) {p : Addr} (hp : p.block < B) (u : Value) : OwnE (w.setCell p u) B v n L := ownsRow_setCell_below h hp u
theorem OwnE.ens {w : World} {B : Nat} {v : Value} {n : Nat} {L : List En} (h : OwnE w B v n L) : ∃ a c, v = .slice a n c ∧ Ens w a n L ∧ n ≤ c ∧ c ≤ 9223372036854775807 ∧ (a = none → n = 0 ∧ c = 0) ∧ (∀ x, a = some x → B ≤ x.block ∧ x.block < w.heap.size) := by
 have hl := h.len
 rcases h.2 with ⟨rfl, rfl⟩ | ⟨g, cap, cur, rfl, hb, hg, hnc, hm, hsz, htake⟩
 ·exact ⟨none, 0, rfl, ⟨hl, .inl rfl⟩, Nat.le_refl _, by omega, (fun _ => ⟨rfl, rfl⟩), (fun x hx => by cases hx)⟩
 ·refine ⟨some ⟨g, 0, none⟩, cap, rfl, ⟨hl, .inr ⟨g, 0, rfl, lt_of_block hg, fun i hi => ?_⟩⟩, hnc, by unfold maxLen at hm; omega, (fun h => by cases h), fun x hx => by cases hx; exact ⟨hb, lt_of_block hg⟩⟩
  obtain ⟨h1, h2⟩ := eflat_get L i (by omega)
  have c1 := h.cells (g := g) rfl _ _ h1
  have c2 := h.cells (g := g) rfl _ _ h2
  rw [add_e] at c1 c2
  exact ⟨c1, c2⟩
theorem ens_one {w : World} {g : Nat} (x : ByteArray) (i : Int) (h : w.heap.size = g) : Ens (w.alloc (.cells #[.string x, .int .i64 i] 77 (0, 0))) (some ⟨g, 0, none⟩) 1 [⟨x, i⟩] := by
 subst h
 exact ⟨rfl, .inr ⟨_, 0, rfl, by simp, fun i hi => by
  rcases (by omega : i = 0) with rfl
  simp [eat]⟩⟩
theorem wpList_ape {w : World} {ops : Array Oper} {rest : List Oper} {o : Oper} {a : Act} {Q : Exit → Act → World → Prop} (hgd : o.guard = none) (s x : Operand)
  (ho : o.op = .call { callee := .builtin .append, args := #[s, x], argTypes := #[52, 52] })
  (B : Nat) (v : Value) (n : Nat) (L : List En) (hs : a.eval s = v) (hown : OwnE w B v n L) (ad : Option Addr) (m c : Nat) (M : List En) (hx : a.eval x = .slice ad m c) (hM : Ens w ad m M) (hnil : ad = none → m = 0 ∧ c = 0)
  (hn : n + m ≤ 1000000000000) (hB : B ≤ w.heap.size) (w0 : World) (hb : Below B w0 w)
  (h : ∀ v' w', OwnE w' B v' (n + m) (L ++ M) → Below B w0 w' → wpList Tryz.prog ops Q rest (a.put o.dst v') w') : wpList Tryz.prog ops Q (o :: rest) a w := by
 obtain ⟨i0, hi, hz0, hz1, hz2⟩ := info_parts infoE
 cases ad with
 | none =>
  obtain ⟨rfl, rfl⟩ := hnil rfl
  obtain rfl : M = [] := List.eq_nil_of_length_eq_zero hM.len
  exact wpList_append_own_none hgd s x 52 ho B 77 i0 2 Tryz.underlying52 hi v n _ hs hown hx (h v w (by simpa using hown) hb)
 | some p =>
  refine wpList_append_own w hgd s x 52 ho B 77 i0 _ 2 24 Tryz.underlying52 hi hz0 hz1 hz2 rfl (by decide) v n _ hs hown p m c (M.flatMap ecl) hx (by rw [eflat_len, hM.len]) ?_ (eflat_one M) (by unfold maxLen; omega) (by omega) hB ?_
  ·rcases hM.place with h0 | ⟨b, off, e, _, _⟩
   ·obtain rfl : M = [] := List.eq_nil_of_length_eq_zero (by rw [hM.len]; exact h0)
    intro j u hj
    simp at hj
   ·cases e
    exact hM.cells
  ·intro v' w' hown' hgrow _
   exact h v' w' (by unfold OwnE; rw [List.flatMap_append]; exact hown') (hb.grown hgrow hB fun k hk => (hown.lt k hk).1)
end Go.Proofs.YtinholnidchblaaGreatDoor
namespace Go.Proofs.YtinholnidchblaaGreatDoor
def ord (ch : Nat → List Nat) : Nat → Nat → List Nat → List Nat
 | 0, a, met => met ++ [a]
 | d + 1, a, met => (ch a).foldl (fun m k => if k ∈ m then m else ord ch d k m) (met ++ [a])
def ordS (ch : Nat → List Nat) (d : Nat) (m : List Nat) (k : Nat) : List Nat := if k ∈ m then m else ord ch d k m
theorem ord_zero (ch : Nat → List Nat) (a : Nat) (met : List Nat) : ord ch 0 a met = met ++ [a] := rfl
theorem ord_succ (ch : Nat → List Nat) (d a : Nat) (met : List Nat) : ord ch (d + 1) a met = (ch a).foldl (ordS ch d) (met ++ [a]) := rfl
theorem foldS_ext {ch : Nat → List Nat} {d : Nat} (ih : ∀ a met, ∃ r, ord ch d a met = met ++ a :: r) : ∀ (ks m : List Nat), ∃ r, ks.foldl (ordS ch d) m = m ++ r
 | [], m => ⟨[], by simp⟩
 | k :: ks, m => by
  obtain ⟨r, hr⟩ := foldS_ext ih ks (ordS ch d m k)
  by_cases h : k ∈ m
  ·refine ⟨r, ?_⟩
   rw [List.foldl_cons, hr, ordS, if_pos h]
  ·obtain ⟨s, hs⟩ := ih k m
   refine ⟨k :: s ++ r, ?_⟩; rw [List.foldl_cons, hr, ordS, if_neg h, hs]
   simp
theorem ord_ext (ch : Nat → List Nat) : ∀ d a met, ∃ r, ord ch d a met = met ++ a :: r
 | 0, a, met => ⟨[], rfl⟩
 | d + 1, a, met => by
  obtain ⟨r, hr⟩ := foldS_ext (ord_ext ch d) (ch a) (met ++ [a])
  exact ⟨r, by rw [ord_succ, hr]; simp⟩
theorem ordS_ext (ch : Nat → List Nat) (d : Nat) (m : List Nat) (k : Nat) : ∃ r, ordS ch d m k = m ++ r := by
 unfold ordS
 split
 ·exact ⟨[], by simp⟩
 ·obtain ⟨r, hr⟩ := ord_ext ch d k m
  exact ⟨k :: r, hr⟩
theorem ordS_mem (ch : Nat → List Nat) (d : Nat) (m : List Nat) (k : Nat) : k ∈ ordS ch d m k := by
 unfold ordS
 split
 ·assumption
 ·obtain ⟨r, hr⟩ := ord_ext ch d k m
  rw [hr]; simp
theorem fold_sub (ch : Nat → List Nat) (d : Nat) (ks m : List Nat) {x : Nat} (h : x ∈ m) : x ∈ ks.foldl (ordS ch d) m := by
 obtain ⟨r, hr⟩ := foldS_ext (ord_ext ch d) ks m
 rw [hr]
 exact List.mem_append_left _ h
theorem ord_self (ch : Nat → List Nat) (d a : Nat) (m : List Nat) : a ∈ ord ch d a m := by
 obtain ⟨r, hr⟩ := ord_ext ch d a m
 rw [hr]; simp
theorem foldS_ind {ch : Nat → List Nat} {d : Nat} {P : List Nat → Prop} {ks : List Nat} (h : ∀ k ∈ ks, ∀ m, P m → k ∉ m → P (ord ch d k m)) {m : List Nat} (h0 : P m) : P (ks.foldl (ordS ch d) m) := by
 induction ks generalizing m with
 | nil => exact h0
 | cons k ks ih =>
  rw [List.foldl_cons]
  refine ih (fun k hk => h k (List.mem_cons_of_mem _ hk)) ?_
  unfold ordS
  split
  ·exact h0
  ·exact h k (by simp) m h0 (by assumption)
theorem ord_nodup (ch : Nat → List Nat) : ∀ d a met, met.Nodup → a ∉ met → (ord ch d a met).Nodup
 | 0, a, met, h, k => by
  rw [ord_zero, List.nodup_append]
  exact ⟨h, by simp, fun x hx y hy => by rintro rfl; simp at hy; exact k (hy ▸ hx)⟩
 | d + 1, a, met, h, k => by
  rw [ord_succ]
  refine foldS_ind (P := List.Nodup) (fun k _ m hm hk => ord_nodup ch d k m hm hk) ?_
  rw [List.nodup_append]
  exact ⟨h, by simp, fun x hx y hy => by rintro rfl; simp at hy; exact k (hy ▸ hx)⟩
theorem ord_in {ch : Nat → List Nat} {S : Nat → Prop} (hc : ∀ x, S x → ∀ k ∈ ch x, S k) : ∀ d a met, S a → (∀ x ∈ met, S x) → ∀ x ∈ ord ch d a met, S x
 | 0, a, met, ha, hm => fun x hx => by
  rw [ord_zero, List.mem_append, List.mem_singleton] at hx
  rcases hx with hx | rfl
  ·exact hm x hx
  ·exact ha
 | d + 1, a, met, ha, hm => by
  rw [ord_succ]
  refine foldS_ind (P := fun m => ∀ x ∈ m, S x) (fun k hk m hm _ => ord_in hc d k m (hc a ha k hk) hm) ?_
  intro x hx
  rw [List.mem_append, List.mem_singleton] at hx
  rcases hx with hx | rfl
  ·exact hm x hx
  ·exact ha
theorem ord_from (ch : Nat → List Nat) : ∀ d a met, ∀ x ∈ ord ch d a met, x ∈ met ∨ x = a ∨ ∃ y ∈ ord ch d a met, x ∈ ch y
 | 0, a, met, x, hx => by
  rw [ord_zero, List.mem_append, List.mem_singleton] at hx
  rcases hx with hx | hx
  ·exact .inl hx
  ·exact .inr (.inl hx)
 | d + 1, a, met, x, hx => by
  have key : ∀ (ks m : List Nat), (∀ k ∈ ks, k ∈ ch a) → a ∈ m → ∀ x ∈ ks.foldl (ordS ch d) m, x ∈ m ∨ ∃ y ∈ ks.foldl (ordS ch d) m, x ∈ ch y := by
   intro ks
   induction ks with
   | nil => intro m _ _ x hx; exact .inl hx
   | cons k ks ih =>
    intro m hk ha x hx; rw [List.foldl_cons] at hx ⊢
    have ha' : a ∈ ordS ch d m k := by
     obtain ⟨r, hr⟩ := ordS_ext ch d m k; rw [hr]; exact List.mem_append_left _ ha
    rcases ih (ordS ch d m k) (fun y hy => hk y (List.mem_cons_of_mem _ hy)) ha' x hx with h | h
    ·by_cases hkm : k ∈ m
     ·rw [ordS, if_pos hkm] at h
      exact .inl h
     ·have h' := h
      rw [ordS, if_neg hkm] at h'
      rcases ord_from ch d k m x h' with h1 | rfl | ⟨y, hy, hxy⟩
      ·exact .inl h1
      ·exact .inr ⟨a, fold_sub ch d ks _ ha', hk x (by simp)⟩
      ·refine .inr ⟨y, fold_sub ch d ks _ ?_, hxy⟩
       rw [ordS, if_neg hkm]; exact hy
    ·exact .inr h
  rw [ord_succ] at hx ⊢
  rcases key (ch a) (met ++ [a]) (fun _ h => h) (by simp) x hx with h | h
  ·rw [List.mem_append, List.mem_singleton] at h
   rcases h with h | h
   ·exact .inl h
   ·exact .inr (.inl h)
  ·exact .inr (.inr h)
theorem nodup_len {n : Nat} {l : List Nat} (h : l.Nodup) (k : ∀ x ∈ l, x < n) : l.length ≤ n := by
 have := List.Nodup.length_le_of_subset h (l₂ := List.range n) (fun x hx => List.mem_range.2 (k x hx))
 simpa using this
theorem ord_closed {ch : Nat → List Nat} {n : Nat} (hc : ∀ x, x < n → ∀ k ∈ ch x, k < n) : ∀ d a met, a < n → (∀ x ∈ met, x < n) → met.Nodup → a ∉ met → n ≤ d + met.length → ∀ x ∈ ord ch d a met, x ∉ met → ∀ k ∈ ch x, k ∈ ord ch d a met
 | 0, a, met, ha, hm, hn, hk, hd => by
  exfalso
  have h1 := ord_nodup ch 0 a met hn hk
  have h2 := nodup_len h1 (ord_in (S := (· < n)) hc 0 a met ha hm)
  rw [ord_zero, List.length_append, List.length_singleton] at h2
  omega
 | d + 1, a, met, ha, hm, hn, hk, hd => by
  have key : ∀ (ks m : List Nat), (∀ k ∈ ks, k < n) → (∀ x ∈ m, x < n) → m.Nodup → n ≤ d + m.length → (∀ x ∈ ks.foldl (ordS ch d) m, x ∉ m → ∀ k ∈ ch x, k ∈ ks.foldl (ordS ch d) m) ∧ ∀ k ∈ ks, k ∈ ks.foldl (ordS ch d) m := by
   intro ks
   induction ks with
   | nil => intro m _ _ _ _; exact ⟨fun x hx h => absurd hx h, fun _ h => by cases h⟩
   | cons k ks ih =>
    intro m hks hm hn hd; have hkn : k < n := hks k (by simp)
    have h1 : (∀ x ∈ ordS ch d m k, x < n) ∧ (ordS ch d m k).Nodup ∧ n ≤ d + (ordS ch d m k).length ∧ (∀ x ∈ ordS ch d m k, x ∉ m → ∀ j ∈ ch x, j ∈ ordS ch d m k) := by
     unfold ordS
     split
     ·exact ⟨hm, hn, hd, fun x hx h => absurd hx h⟩
     ·rename_i hkm
      refine ⟨ord_in (S := (· < n)) hc d k m hkn hm, ord_nodup ch d k m hn hkm, ?_, ord_closed hc d k m hkn hm hn hkm hd⟩; obtain ⟨r, hr⟩ := ord_ext ch d k m; rw [hr, List.length_append]; omega
    obtain ⟨a1, a2, a3, a4⟩ := h1; obtain ⟨b1, b2⟩ := ih (ordS ch d m k) (fun y hy => hks y (List.mem_cons_of_mem _ hy)) a1 a2 a3; rw [List.foldl_cons]; refine ⟨fun x hx hxm j hj => ?_, fun j hj => ?_⟩
    ·by_cases hx1 : x ∈ ordS ch d m k
     ·exact fold_sub ch d ks _ (a4 x hx1 hxm j hj)
     ·exact b1 x hx hx1 j hj
    ·rcases List.mem_cons.1 hj with rfl | hj
     ·exact fold_sub ch d ks _ (ordS_mem ch d m j)
     ·exact b2 j hj
  have hm' : ∀ x ∈ met ++ [a], x < n := fun x hx => by
   rw [List.mem_append, List.mem_singleton] at hx
   rcases hx with hx | rfl
   ·exact hm x hx
   ·exact ha
  have hn' : (met ++ [a]).Nodup := ord_nodup ch 0 a met hn hk
  obtain ⟨b1, b2⟩ := key (ch a) (met ++ [a]) (hc a ha) hm' hn' (by rw [List.length_append, List.length_singleton]; omega)
  rw [ord_succ]
  intro x hx hxm j hj
  by_cases hxa : x = a
  ·rw [hxa] at hj; exact b2 j hj
  ·exact b1 x hx (by rw [List.mem_append, List.mem_singleton]; rintro (h | h); exact hxm h; exact hxa h) j hj
theorem ord_map {ch ch' : Nat → List Nat} {f : Nat → Nat} {S : Nat → Prop} (hc : ∀ x, S x → ∀ k ∈ ch x, S k) (hi : ∀ x y, S x → S y → f x = f y → x = y) (he : ∀ x, S x → ch' (f x) = (ch x).map f) : ∀ d a met, S a → (∀ x ∈ met, S x) → ord ch' d (f a) (met.map f) = (ord ch d a met).map f
 | 0, a, met, ha, hm => by rw [ord_zero, ord_zero, List.map_append]; rfl
 | d + 1, a, met, ha, hm => by
  have key : ∀ (ks m : List Nat), (∀ k ∈ ks, S k) → (∀ x ∈ m, S x) → (ks.map f).foldl (ordS ch' d) (m.map f) = (ks.foldl (ordS ch d) m).map f := by
   intro ks
   induction ks with
   | nil => intro m _ _; rfl
   | cons k ks ih =>
    intro m hks hm; have hk := hks k (by simp)
    have hks' : ∀ j ∈ ks, S j := fun j hj => hks j (List.mem_cons_of_mem _ hj)
    rw [List.map_cons, List.foldl_cons, List.foldl_cons]
    have hiff : f k ∈ m.map f ↔ k ∈ m := by
     rw [List.mem_map]
     constructor
     ·rintro ⟨y, hy, e⟩
      rw [← hi y k (hm y hy) hk e]; exact hy
     ·intro h; exact ⟨k, h, rfl⟩
    by_cases h : k ∈ m
    ·have h1 : ordS ch' d (m.map f) (f k) = m.map f := by rw [ordS, if_pos (hiff.2 h)]
     have h2 : ordS ch d m k = m := by rw [ordS, if_pos h]
     rw [h1, h2]
     exact ih m hks' hm
    ·have h1 : ordS ch' d (m.map f) (f k) = (ord ch d k m).map f := by
      rw [ordS, if_neg (fun h' => h (hiff.1 h'))]
      exact ord_map hc hi he d k m hk hm
     have h2 : ordS ch d m k = ord ch d k m := by rw [ordS, if_neg h]
     rw [h1, h2]
     exact ih _ hks' (ord_in hc d k m hk hm)
  rw [ord_succ, ord_succ, he a ha]
  have : met.map f ++ [f a] = (met ++ [a]).map f := by simp
  rw [this]
  refine key (ch a) (met ++ [a]) (hc a ha) (fun x hx => ?_)
  rw [List.mem_append, List.mem_singleton] at hx
  rcases hx with hx | rfl
  ·exact hm x hx
  ·exact ha
def met (ch : Nat → List Nat) : List Nat := ord ch 60 0 []
theorem met_head (ch : Nat → List Nat) : ∃ r, met ch = 0 :: r := by
 obtain ⟨r, hr⟩ := ord_ext ch 60 0 []
 exact ⟨r, by rw [met, hr]; rfl⟩
theorem met_nodup (ch : Nat → List Nat) : (met ch).Nodup := ord_nodup ch 60 0 [] List.nodup_nil (by simp)
theorem met_zero (ch : Nat → List Nat) : 0 ∈ met ch := ord_self ch 60 0 []
theorem met_lt {ch : Nat → List Nat} {n : Nat} (hc : ∀ x, x < n → ∀ k ∈ ch x, k < n) (h0 : 0 < n) : ∀ x ∈ met ch, x < n := ord_in (S := (· < n)) hc 60 0 [] h0 (fun _ h => by cases h)
theorem met_len {ch : Nat → List Nat} {n : Nat} (hc : ∀ x, x < n → ∀ k ∈ ch x, k < n) (h0 : 0 < n) : (met ch).length ≤ n := nodup_len (met_nodup ch) (met_lt hc h0)
theorem met_closed {ch : Nat → List Nat} {n : Nat} (hc : ∀ x, x < n → ∀ k ∈ ch x, k < n) (h0 : 0 < n) (hn : n ≤ 60) : ∀ x ∈ met ch, ∀ k ∈ ch x, k ∈ met ch := fun x hx => ord_closed hc 60 0 [] h0 (fun _ h => by cases h) List.nodup_nil (by simp) (by simp; omega) x hx (by simp)
theorem met_from (ch : Nat → List Nat) : ∀ x ∈ met ch, x = 0 ∨ ∃ y ∈ met ch, x ∈ ch y := fun x hx => by
 rcases ord_from ch 60 0 [] x hx with h | h | h
 ·cases h
 ·exact .inl h
 ·exact .inr h
theorem met_map {ch ch' : Nat → List Nat} {f : Nat → Nat} {S : Nat → Prop} (hc : ∀ x, S x → ∀ k ∈ ch x, S k) (hi : ∀ x y, S x → S y → f x = f y → x = y) (he : ∀ x, S x → ch' (f x) = (ch x).map f) (h0 : S 0) (f0 : f 0 = 0) : met ch' = (met ch).map f := by
 have := ord_map hc hi he 60 0 [] h0 (fun _ h => by cases h)
 rw [f0] at this
 exact this
def plc (ch : Nat → List Nat) (k : Nat) : Nat := (met ch).idxOf k
theorem plc_zero (ch : Nat → List Nat) : plc ch 0 = 0 := by
 obtain ⟨r, hr⟩ := met_head ch
 rw [plc, hr]; simp
theorem plc_lt {ch : Nat → List Nat} {k : Nat} (h : k ∈ met ch) : plc ch k < (met ch).length := List.idxOf_lt_length_of_mem h
theorem met_plc {ch : Nat → List Nat} {k : Nat} (h : k ∈ met ch) : (met ch)[plc ch k]'(plc_lt h) = k := List.getElem_idxOf _
theorem plc_met {ch : Nat → List Nat} {i : Nat} (h : i < (met ch).length) : plc ch ((met ch)[i]) = i := (met_nodup ch).idxOf_getElem i h
theorem plc_inj {ch : Nat → List Nat} {x y : Nat} (hx : x ∈ met ch) (hy : y ∈ met ch) (h : plc ch x = plc ch y) : x = y := by
 have h1 := met_plc hx
 have h2 := met_plc hy
 rw [← h1, ← h2]
 simp only [h]
theorem map_plc (ch : Nat → List Nat) : (met ch).map (plc ch) = List.range (met ch).length := by
 refine List.ext_getElem (by simp) (fun i h1 h2 => ?_)
 rw [List.getElem_map, List.getElem_range]
 exact plc_met (by simpa using h1)
theorem met_num {ch ch' : Nat → List Nat} (hc : ∀ x ∈ met ch, ∀ k ∈ ch x, k ∈ met ch) (he : ∀ x ∈ met ch, ch' (plc ch x) = (ch x).map (plc ch)) : met ch' = List.range (met ch).length := by
 rw [met_map (S := (· ∈ met ch)) hc (fun x y => plc_inj) he (met_zero ch) (plc_zero ch), map_plc]
structure Nd where
 k : Int
 l : Int
 d : List Int
 e : List En
deriving DecidableEq
instance : Inhabited Nd := ⟨⟨0, 0, [], []⟩⟩
def nat (L : List Nd) (i : Nat) : Nd := L.getD i default
theorem nat_get {L : List Nd} {i : Nat} (h : i < L.length) : nat L i = L[i] := by simp [nat, List.getD, h]
theorem nat_out {L : List Nd} {i : Nat} (h : L.length ≤ i) : nat L i = default := by simp [nat, List.getD, h]
theorem nat_ext {L M : List Nd} (h : L.length = M.length) (k : ∀ i, i < L.length → nat L i = nat M i) : L = M := by
 refine List.ext_getElem h (fun i h1 h2 => ?_)
 rw [← nat_get h1, ← nat_get h2]
 exact k i h1
theorem nat_set (L : List Nd) (i j : Nat) (x : Nd) (h : i < L.length) : nat (L.set i x) j = if i = j then x else nat L j := by
 simp only [nat, List.getD_eq_getElem?_getD, List.getElem?_set]
 split
 ·rfl
 ·rfl
theorem nat_map {α : Type} (f : α → Nd) (l : List α) {i : Nat} (h : i < l.length) : nat (l.map f) i = f l[i] := by
 rw [nat_get (by simpa using h), List.getElem_map]
def isD (x : Nd) : Bool := x.k == 2
def inoN (x : En) : Nat := x.i.toNat
def inos (x : Nd) : List Nat := x.e.map inoN
def chs (L : List Nd) (a : Nat) : List Nat := inos (nat L a)
def setI (f : Nat → Nat) (y : En) : En := ⟨y.s, (f (inoN y) : Int)⟩
def ren (f : Nat → Nat) (x : Nd) : Nd := ⟨x.k, 0, x.d, x.e.map (setI f)⟩
theorem inos_ren (f : Nat → Nat) (x : Nd) : inos (ren f x) = (inos x).map f := by
 simp only [inos, ren, List.map_map]
 congr 1
theorem isD_ren (f : Nat → Nat) (x : Nd) : isD (ren f x) = isD x := rfl
theorem ren_congr {f g : Nat → Nat} {x : Nd} (h : ∀ k ∈ inos x, f k = g k) : ren f x = ren g x := by
 simp only [ren]
 congr 1
 refine List.map_congr_left fun y hy => ?_
 simp only [setI]
 rw [h (inoN y) (List.mem_map.2 ⟨y, hy, rfl⟩)]
def numR (L : List Nd) : List Nd := (met (chs L)).map fun a => ren (plc (chs L)) (nat L a)
theorem numR_len (L : List Nd) : (numR L).length = (met (chs L)).length := by simp [numR]
theorem nat_numR {L : List Nd} {x : Nat} (h : x ∈ met (chs L)) : nat (numR L) (plc (chs L) x) = ren (plc (chs L)) (nat L x) := by
 rw [numR, nat_map _ _ (plc_lt h), met_plc h]
def up (L : List Nd) (i : Nat) : Nat := ((List.range L.length).map fun a => (chs L a).count i).sum
def lnk (L : List Nd) (i : Nat) : Int := if isD (nat L i) then 2 + ((inos (nat L i)).countP fun j => isD (nat L j) : Nat) else (up L i : Int)
def fixL (L : List Nd) : List Nd := (List.range L.length).map fun i => { nat L i with l := lnk L i }
theorem fixL_len (L : List Nd) : (fixL L).length = L.length := by simp [fixL]
theorem nat_fixL {L : List Nd} {i : Nat} (h : i < L.length) : nat (fixL L) i = { nat L i with l := lnk L i } := by
 rw [fixL, nat_map _ _ (by simpa using h), List.getElem_range]
theorem nat_fixE (L : List Nd) (i : Nat) : (nat (fixL L) i).e = (nat L i).e ∧ (nat (fixL L) i).k = (nat L i).k ∧ (nat (fixL L) i).d = (nat L i).d := by
 by_cases h : i < L.length
 ·rw [nat_fixL h]; exact ⟨rfl, rfl, rfl⟩
 ·rw [nat_out (by rw [fixL_len]; omega), nat_out (by omega)]; exact ⟨rfl, rfl, rfl⟩
theorem chs_fixL (L : List Nd) : chs (fixL L) = chs L := by
 funext a
 simp only [chs, inos, (nat_fixE L a).1]
theorem isD_fixL (L : List Nd) (i : Nat) : isD (nat (fixL L) i) = isD (nat L i) := by simp only [isD, (nat_fixE L i).2.1]
theorem up_fixL (L : List Nd) (i : Nat) : up (fixL L) i = up L i := by simp only [up, fixL_len, chs_fixL]
theorem lnk_fixL (L : List Nd) (i : Nat) : lnk (fixL L) i = lnk L i := by
 have h : inos (nat (fixL L) i) = inos (nat L i) := by simp only [inos, (nat_fixE L i).1]
 simp only [lnk, isD_fixL, up_fixL, h]
def num (L : List Nd) : List Nd := fixL (numR L)
def fileOk (x : Nd) : Prop := x.k = 1 ∧ x.e = [] ∧ x.d.length ≤ 46368
def dirOk (n : Nat) (x : Nd) : Prop := x.k = 2 ∧ x.d = [] ∧ x.e.length ≤ 64 ∧ (∀ y ∈ x.e, nmB y.s.data.toList = true ∧ 1 ≤ y.i ∧ y.i < n) ∧ ris x.e = true
structure Rgt (L : List Nd) : Prop where
 pos : 1 ≤ L.length
 few : L.length ≤ 56
 root : isD (nat L 0) = true
 node : ∀ i, i < L.length → fileOk (nat L i) ∧ 1 ≤ (nat L i).l ∧ (nat L i).l ≤ 200 ∨ dirOk L.length (nat L i)
 met : met (chs L) = List.range L.length
 link : ∀ i, i < L.length → lnk L i = (nat L i).l
 one : ∀ i, 0 < i → i < L.length → isD (nat L i) = true → up L i = 1
structure Snd (L : List Nd) : Prop where
 pos : 1 ≤ L.length
 few : L.length ≤ 56
 root : isD (nat L 0) = true
 node : ∀ i, i < L.length → fileOk (nat L i) ∨ dirOk L.length (nat L i)
 many : ∀ i, i < L.length → isD (nat L i) = false → up L i ≤ 200
 one : ∀ i, 0 < i → i < L.length → isD (nat L i) = true → up L i ≤ 1
theorem isD_file {x : Nd} (h : fileOk x) : isD x = false := by rw [isD, h.1]; rfl
theorem isD_dir {n : Nat} {x : Nd} (h : dirOk n x) : isD x = true := by rw [isD, h.1]; rfl
theorem node_ino {n : Nat} {x : Nd} (h : fileOk x ∨ dirOk n x) : ∀ k ∈ inos x, 1 ≤ k ∧ k < n := by
 intro k hk
 obtain ⟨y, hy, rfl⟩ := List.mem_map.1 hk
 rcases h with h | h
 ·rw [h.2.1] at hy; cases hy
 ·have := (h.2.2.2.1 y hy).2
  unfold inoN
  omega
theorem Rgt.snd {L : List Nd} (h : Rgt L) : Snd L := by
 refine ⟨h.pos, h.few, h.root, fun i hi => ?_, fun i hi hd => ?_, fun i h0 hi hd => by rw [h.one i h0 hi hd]; omega⟩
 ·rcases h.node i hi with h | h
  ·exact .inl h.1
  ·exact .inr h
 ·have h1 := h.link i hi
  rw [lnk, hd, if_neg (by decide)] at h1
  rcases h.node i hi with h2 | h2
  ·have := h2.2.2
   omega
  ·rw [isD_dir h2] at hd; cases hd
theorem Snd.ino {L : List Nd} (h : Snd L) {i : Nat} (hi : i < L.length) : ∀ k ∈ chs L i, 1 ≤ k ∧ k < L.length := node_ino (h.node i hi)
theorem Snd.lt {L : List Nd} (h : Snd L) : ∀ x, x < L.length → ∀ k ∈ chs L x, k < L.length := fun x hx k hk => (h.ino hx k hk).2
theorem Snd.closed {L : List Nd} (h : Snd L) : ∀ x ∈ met (chs L), ∀ k ∈ chs L x, k ∈ met (chs L) := met_closed h.lt (by have := h.pos; omega) (by have := h.few; omega)
theorem Snd.metlt {L : List Nd} (h : Snd L) : ∀ x ∈ met (chs L), x < L.length := met_lt h.lt (by have := h.pos; omega)
theorem Snd.metlen {L : List Nd} (h : Snd L) : (met (chs L)).length ≤ L.length := met_len h.lt (by have := h.pos; omega)
theorem Rgt.plc {L : List Nd} (h : Rgt L) {i : Nat} (hi : i < L.length) : plc (chs L) i = i := by
 have h1 : i < (Go.Proofs.YtinholnidchblaaGreatDoor.met (chs L)).length := by rw [h.met]; simpa using hi
 have h2 := plc_met h1
 have h3 : (Go.Proofs.YtinholnidchblaaGreatDoor.met (chs L))[i] = i := by simp [h.met]
 rw [h3] at h2
 exact h2
theorem Rgt.numR {L : List Nd} (h : Rgt L) {i : Nat} (hi : i < L.length) : nat (numR L) i = { nat L i with l := 0 } := by
 have h0 : i ∈ Go.Proofs.YtinholnidchblaaGreatDoor.met (chs L) := by rw [h.met]; exact List.mem_range.2 hi
 have h1 := nat_numR h0
 rw [h.plc hi] at h1
 rw [h1]
 have h2 : ren (Go.Proofs.YtinholnidchblaaGreatDoor.plc (chs L)) (nat L i) = ren id (nat L i) := ren_congr fun k hk => h.plc (h.snd.lt i hi k hk)
 rw [h2]
 simp only [ren]
 congr 1
 refine (List.map_congr_left (g := id) fun y hy => ?_).trans (List.map_id _)
 have := h.snd.ino hi (inoN y) (List.mem_map.2 ⟨y, hy, rfl⟩)
 have e : ((inoN y : Nat) : Int) = y.i := by unfold inoN at *; omega
 simp only [setI, id]
 exact En.ext' rfl e
theorem Rgt.num {L : List Nd} (h : Rgt L) : num L = L := by
 have hl : (Go.Proofs.YtinholnidchblaaGreatDoor.numR L).length = L.length := by rw [numR_len, h.met, List.length_range]
 have hc : chs (Go.Proofs.YtinholnidchblaaGreatDoor.numR L) = chs L := by
  funext a
  by_cases ha : a < L.length
  ·simp only [chs, inos, h.numR ha]
  ·simp only [chs]
   rw [nat_out (by omega), nat_out (by omega)]
 have hd : ∀ i, isD (nat (Go.Proofs.YtinholnidchblaaGreatDoor.numR L) i) = isD (nat L i) := fun i => by
  by_cases ha : i < L.length
  ·rw [h.numR ha]; rfl
  ·rw [nat_out (by omega), nat_out (by omega)]
 have hk : ∀ i, lnk (Go.Proofs.YtinholnidchblaaGreatDoor.numR L) i = lnk L i := fun i => by
  have e : inos (nat (Go.Proofs.YtinholnidchblaaGreatDoor.numR L) i) = inos (nat L i) := congrFun hc i
  simp only [lnk, up, hl, hc, hd, e]
 unfold Go.Proofs.YtinholnidchblaaGreatDoor.num
 refine nat_ext (by rw [fixL_len, hl]) (fun i hi => ?_)
 rw [fixL_len, hl] at hi
 rw [nat_fixL (by omega), h.numR hi, hk, h.link i hi]
theorem count_map_inj {f : Nat → Nat} {x : Nat} : ∀ {l : List Nat}, (∀ y ∈ l, f y = f x → y = x) → (l.map f).count (f x) = l.count x
 | [], _ => rfl
 | y :: l, h => by
  rw [List.map_cons, List.count_cons, List.count_cons, count_map_inj (fun z hz => h z (List.mem_cons_of_mem _ hz))]
  congr 1
  by_cases e : y = x
  ·rw [e]; simp
  ·have : f y ≠ f x := fun e' => e (h y (by simp) e')
   simp [e, this]
theorem sum_sub {g : Nat → Nat} {l : List Nat} {n : Nat} (h : l.Nodup) (k : ∀ x ∈ l, x < n) : (l.map g).sum ≤ ((List.range n).map g).sum := by
 have hp : List.Perm (l ++ (List.range n).filter fun x => !(l.contains x)) (List.range n) := by
  rw [List.perm_ext_iff_of_nodup]
  ·intro a
   rw [List.mem_append, List.mem_filter, List.mem_range]
   constructor
   ·rintro (h | h)
    ·exact k a h
    ·exact h.1
   ·intro ha
    by_cases hm : a ∈ l
    ·exact .inl hm
    ·exact .inr ⟨ha, by simpa using hm⟩
  ·rw [List.nodup_append]
   refine ⟨h, List.Pairwise.filter _ List.nodup_range, fun x hx y hy => ?_⟩; rintro rfl; have := (List.mem_filter.1 hy).2
   simp [hx] at this
  ·exact List.nodup_range
 have := (hp.map g).sum_nat
 rw [List.map_append, List.sum_append] at this
 omega
theorem sum_mem {g : Nat → Nat} {l : List Nat} {x : Nat} (h : x ∈ l) : g x ≤ (l.map g).sum := by
 induction l with
 | nil => cases h
 | cons y l ih =>
  rw [List.map_cons, List.sum_cons]
  rcases List.mem_cons.1 h with rfl | h
  ·omega
  ·have := ih h; omega
theorem Snd.up_num {L : List Nd} (h : Snd L) {x : Nat} (hx : x ∈ met (chs L)) : up (numR L) (plc (chs L) x) = ((met (chs L)).map fun a => (chs L a).count x).sum := by
 have h1 : up (numR L) (plc (chs L) x) = ((List.range (met (chs L)).length).map fun a => (chs (numR L) a).count (plc (chs L) x)).sum := by rw [up, numR_len]
 rw [h1, ← map_plc, List.map_map]
 congr 1
 refine List.map_congr_left fun a ha => ?_
 simp only [Function.comp]
 have e : chs (numR L) (plc (chs L) a) = (chs L a).map (plc (chs L)) := by
  simp only [chs]
  rw [nat_numR ha, inos_ren]
 rw [e]
 exact count_map_inj fun y hy e => plc_inj (h.closed a ha y hy) hx e
theorem Snd.up_le {L : List Nd} (h : Snd L) {x : Nat} (hx : x ∈ met (chs L)) : up (numR L) (plc (chs L) x) ≤ up L x := by
 rw [h.up_num hx, up]
 exact sum_sub (g := fun a => (chs L a).count x) (met_nodup _) h.metlt
theorem Snd.up_pos {L : List Nd} (h : Snd L) {x : Nat} (hx : x ∈ met (chs L)) (h0 : x ≠ 0) : 1 ≤ up (numR L) (plc (chs L) x) := by
 rw [h.up_num hx]
 rcases met_from (chs L) x hx with rfl | ⟨y, hy, hxy⟩
 ·exact absurd rfl h0
 ·have h1 := sum_mem (g := fun a => (chs L a).count x) hy
  have h2 := List.count_pos_iff.2 hxy
  have h3 : 1 ≤ (chs L y).count x := h2
  exact Nat.le_trans h3 h1
theorem ris_setI {f : Nat → Nat} : ∀ {l : List En}, ris (l.map (setI f)) = ris l
 | [] => rfl
 | [_] => rfl
 | x :: y :: r => by
  have := ris_setI (f := f) (l := y :: r)
  rw [List.map_cons] at this
  rw [List.map_cons, List.map_cons, ris, ris, this]
  rfl
theorem plc_pos {L : List Nd} {x : Nat} (hx : x ∈ met (chs L)) (h0 : x ≠ 0) : 1 ≤ plc (chs L) x := by
 by_cases e : plc (chs L) x = 0
 ·exact absurd (plc_inj hx (met_zero _) (by rw [e, plc_zero])) h0
 ·omega
theorem Snd.right {L : List Nd} (h : Snd L) : Rgt (num L) := by
 have hl : (num L).length = (met (chs L)).length := by rw [num, fixL_len, numR_len]
 have hpos : 0 < (met (chs L)).length := by
  obtain ⟨r, hr⟩ := met_head (chs L)
  rw [hr]; simp
 have hat : ∀ i, i < (met (chs L)).length → ∃ x, x ∈ met (chs L) ∧ plc (chs L) x = i ∧ nat (numR L) i = ren (plc (chs L)) (nat L x) := fun i hi => by
  refine ⟨_, List.getElem_mem hi, plc_met hi, ?_⟩
  have := nat_numR (List.getElem_mem hi)
  rw [plc_met hi] at this
  exact this
 have hc : chs (num L) = chs (numR L) := chs_fixL _
 have hroot : isD (nat (numR L) 0) = true := by
  have := nat_numR (met_zero (chs L))
  rw [plc_zero] at this
  rw [this, isD_ren]; exact h.root
 refine ⟨by omega, by have := h.metlen; have := h.few; omega, by rw [num, isD_fixL]; exact hroot, fun i hi => ?_, ?_, fun i hi => ?_, fun i h0 hi hd => ?_⟩
 ·rw [hl] at hi
  obtain ⟨x, hx, hp, e⟩ := hat i hi
  have hn : nat (num L) i = { ren (plc (chs L)) (nat L x) with l := lnk (numR L) i } := by rw [num, nat_fixL (by rw [numR_len]; exact hi), e]
  rcases h.node x (h.metlt x hx) with hf | hd
  ·left
   have hfd : isD (nat (numR L) i) = false := by rw [e, isD_ren]; exact isD_file hf
   have hlk : lnk (numR L) i = (up (numR L) i : Int) := by rw [lnk, hfd, if_neg (by decide)]
   have hx0 : x ≠ 0 := by
    rintro rfl; have := h.root; rw [isD_file hf] at this; cases this
   have u1 := h.up_le hx; have u2 := h.up_pos hx hx0; have u3 := h.many x (h.metlt x hx) (isD_file hf); rw [hp] at u1 u2; rw [hn]; refine ⟨⟨hf.1, ?_, hf.2.2⟩, ?_, ?_⟩
   ·show (nat L x).e.map _ = []
    rw [hf.2.1]; rfl
   ·show 1 ≤ lnk (numR L) i
    rw [hlk]; omega
   ·show lnk (numR L) i ≤ 200
    rw [hlk]; omega
  ·right
   rw [hn, hl]; refine ⟨hd.1, hd.2.1, ?_, ?_, ?_⟩
   ·show ((nat L x).e.map _).length ≤ 64
    rw [List.length_map]; exact hd.2.2.1
   ·intro y hy
    obtain ⟨z, hz, rfl⟩ := List.mem_map.1 hy; have h1 := hd.2.2.2.1 z hz; have h2 := h.closed x hx (inoN z) (List.mem_map.2 ⟨z, hz, rfl⟩); refine ⟨h1.1, ?_, ?_⟩
    ·have := plc_pos h2 (by unfold inoN; omega)
     simp only [setI]; omega
    ·have := plc_lt h2
     simp only [setI]; omega
   ·show ris ((nat L x).e.map _) = true
    rw [ris_setI]; exact hd.2.2.2.2
 ·rw [hc, hl]
  refine met_num h.closed fun x hx => ?_
  simp only [chs]
  rw [nat_numR hx, inos_ren]
 ·rw [hl] at hi
  have : (nat (num L) i).l = lnk (numR L) i := by rw [num, nat_fixL (by rw [numR_len]; exact hi)]
  rw [this, num, lnk_fixL]
 ·rw [hl] at hi
  obtain ⟨x, hx, hp, e⟩ := hat i hi
  have hx0 : x ≠ 0 := by
   rintro rfl; rw [plc_zero] at hp; omega
  have hdx : isD (nat L x) = true := by
   rw [num, isD_fixL, e, isD_ren] at hd
   exact hd
  have u1 := h.up_le hx
  have u2 := h.up_pos hx hx0
  have u3 := h.one x (by omega) (h.metlt x hx) hdx
  rw [hp] at u1 u2
  rw [num, up_fixL]
  omega
end Go.Proofs.YtinholnidchblaaGreatDoor
namespace Go.Proofs.YtinholnidchblaaGreatDoor
open Go.RowKit
structure Nc where
 k : Int
 l : Int
 da : Option Addr
 dn : Nat
 dc : Nat
 d : List Int
 ea : Option Addr
 en : Nat
 ec : Nat
 e : List En
instance : Inhabited Nc := ⟨⟨0, 0, none, 0, 0, [], none, 0, 0, []⟩⟩
def Nc.nd (x : Nc) : Nd := ⟨x.k, x.l, x.d, x.e⟩
structure Enz (w : World) (a : Option Addr) (n c : Nat) (L : List En) : Prop where
 ens : Ens w a n L
 nil : a = none → n = 0 ∧ c = 0
 cap : n ≤ c
 max : c ≤ 9223372036854775807
theorem Enz.below {w w' : World} {a : Option Addr} {n c : Nat} {L : List En} (h : Enz w a n c L) {B : Nat} (hB : w.heap.size ≤ B) (hb : Below B w w') : Enz w' a n c L := ⟨h.ens.below hB hb, h.nil, h.cap, h.max⟩
theorem Enz.next {w w' : World} {a : Option Addr} {n c : Nat} {L : List En} (h : Enz w a n c L) (hb : Below w.heap.size w w') : Enz w' a n c L := h.below (Nat.le_refl _) hb
theorem Enz.zero (w : World) : Enz w none 0 0 [] := ⟨ens_nil _ _, fun _ => ⟨rfl, rfl⟩, Nat.le_refl _, by omega⟩
theorem OwnE.enz {w : World} {B : Nat} {v : Value} {n : Nat} {L : List En} (h : OwnE w B v n L) : ∃ a c, v = .slice a n c ∧ Enz w a n c L ∧ (∀ x, a = some x → B ≤ x.block ∧ x.block < w.heap.size) := by
 obtain ⟨a, c, hv, h1, h2, h3, h4, h5⟩ := h.ens
 exact ⟨a, c, hv, ⟨h1, h4, h2, h3⟩, h5⟩
structure Nds (w : World) (a : Option Addr) (n : Nat) (f : Nat → Nc) : Prop where
 place : n = 0 ∨ ∃ b off, a = some ⟨b, off, none⟩ ∧ b < w.heap.size ∧ ∀ i, i < n → w.cell? ⟨b, off + i * 4, none⟩ = some (.int .i64 (f i).k) ∧ w.cell? ⟨b, off + i * 4 + 1, none⟩ = some (.int .i64 (f i).l) ∧
  w.cell? ⟨b, off + i * 4 + 2, none⟩ = some (.slice (f i).da (f i).dn (f i).dc) ∧ w.cell? ⟨b, off + i * 4 + 3, none⟩ = some (.slice (f i).ea (f i).en (f i).ec)
 data : ∀ i, i < n → Pin w (f i).da (f i).dn (f i).dc (f i).d
 ents : ∀ i, i < n → Enz w (f i).ea (f i).en (f i).ec (f i).e
theorem Nds.below {w w' : World} {a : Option Addr} {n : Nat} {f : Nat → Nc} (h : Nds w a n f) {B : Nat} (hB : w.heap.size ≤ B) (hb : Below B w w') : Nds w' a n f := by
 refine ⟨?_, fun i hi => (h.data i hi).below hB hb, fun i hi => (h.ents i hi).below hB hb⟩
 rcases h.place with h0 | ⟨b, off, ha, hlt, hc⟩
 ·exact .inl h0
 ·refine .inr ⟨b, off, ha, Nat.lt_of_lt_of_le hlt hb.size, fun i hi => ?_⟩
  obtain ⟨c0, c1, c2, c3⟩ := hc i hi
  exact ⟨(hb.cell (p := ⟨b, off + i * 4, none⟩) (by show b < B; omega)).trans c0, (hb.cell (p := ⟨b, off + i * 4 + 1, none⟩) (by show b < B; omega)).trans c1,
   (hb.cell (p := ⟨b, off + i * 4 + 2, none⟩) (by show b < B; omega)).trans c2, (hb.cell (p := ⟨b, off + i * 4 + 3, none⟩) (by show b < B; omega)).trans c3⟩
theorem Nds.next {w w' : World} {a : Option Addr} {n : Nat} {f : Nat → Nc} (h : Nds w a n f) (hb : Below w.heap.size w w') : Nds w' a n f := h.below (Nat.le_refl _) hb
theorem Nds.alloc {w : World} {a : Option Addr} {n : Nat} {f : Nat → Nc} (h : Nds w a n f) (o : Obj) : Nds (w.alloc o) a n f := h.next ((Below.refl _ _).alloc (Nat.le_refl _) o)
theorem Nds.drewN {w : World} {a : Option Addr} {n : Nat} {f : Nat → Nc} (h : Nds w a n f) (q : Nat) : Nds (w.drewN q) a n f := h.next (below_drewN (Below.refl _ _) q)
theorem Nds.at {w : World} {a : Option Addr} {n : Nat} {f : Nat → Nc} (h : Nds w a n f) {i : Nat} (hi : i < n) :
  ∃ b off, a = some ⟨b, off, none⟩ ∧ b < w.heap.size ∧ w.cell? ⟨b, off + i * 4, none⟩ = some (.int .i64 (f i).k) ∧ w.cell? ⟨b, off + i * 4 + 1, none⟩ = some (.int .i64 (f i).l) ∧
   w.cell? ⟨b, off + i * 4 + 2, none⟩ = some (.slice (f i).da (f i).dn (f i).dc) ∧ w.cell? ⟨b, off + i * 4 + 3, none⟩ = some (.slice (f i).ea (f i).en (f i).ec) := by
 rcases h.place with h0 | ⟨b, off, ha, hlt, hc⟩
 ·omega
 ·obtain ⟨c0, c1, c2, c3⟩ := hc i hi
  exact ⟨b, off, ha, hlt, c0, c1, c2, c3⟩
def ndL (f : Nat → Nc) (n : Nat) : List Nd := (List.range n).map fun i => (f i).nd
theorem ndL_len (f : Nat → Nc) (n : Nat) : (ndL f n).length = n := by simp [ndL]
theorem nat_ndL {f : Nat → Nc} {n i : Nat} (h : i < n) : nat (ndL f n) i = (f i).nd := by
 rw [ndL, nat_map _ _ (by simpa using h), List.getElem_range]
end Go.Proofs.YtinholnidchblaaGreatDoor
