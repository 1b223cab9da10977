/-
  The plain words that this seat's walks share: what it is for a slice to hold bytes.
-/
import Derived.Test.YtijhmpdeohbjhaaRows
import Derived.WalkKit
import Derived.WalkSpells
import Derived.WalkLawsBesides
import Derived.WalkSmall
import Derived.Deep.QuietTactic
import Derived.BigQuiet
import Derived.IntWalk
import Derived.Lib.Hide
import Derived.Laws.CopyOwn
import Derived.ProofKit
import Derived.Laws.AppendOwnNone
import Derived.Deep.RegionHeld3
import Derived.Deep.AppendLies
import Derived.Lib.ConvBytes
import Derived.Lib.Strings
import Derived.Laws.CopyRow
set_option linter.unusedVariables false
set_option linter.unusedSimpArgs false
namespace Go.Proofs.Ytijhmpdeohbjhaa
open Go.RowKit

/-- The byte at a place (0 behind the end). -/
def byt (zs : List Int) (i : Nat) : Int := zs.getD i 0

/-- Numbers that are bytes. -/
def AllB (zs : List Int) : Prop := ∀ z ∈ zs, 0 ≤ z ∧ z ≤ 255

/-- The slice at 'a' of length n holds the bytes zs. -/
structure Bys (w : World) (a : Option Addr) (n : Nat) (zs : List Int) : Prop where
  len : zs.length = n
  small : AllB zs
  place : n = 0 ∨ ∃ b off, a = some ⟨b, off, none⟩ ∧ b < w.heap.size ∧ ∀ i, i < n → w.cell? ⟨b, off + i, none⟩ = some (.int .u8 (byt zs i))

theorem Bys.below {w w' : World} {a : Option Addr} {n : Nat} {zs : List Int} (h : Bys w a n zs) {B : Nat} (hB : w.heap.size ≤ B) (hb : Below B w w') : Bys w' a n zs := by
  refine ⟨h.len, h.small, ?_⟩
  rcases h.place with h0 | ⟨b, off, ha, hlt, hc⟩
  · exact .inl h0
  · exact .inr ⟨b, off, ha, Nat.lt_of_lt_of_le hlt hb.size, fun i hi => (hb.cell (p := ⟨b, off + i, none⟩) (by show b < B; omega)).trans (hc i hi)⟩

theorem Bys.drewN {w : World} {a : Option Addr} {n : Nat} {zs : List Int} (h : Bys w a n zs) (q : Nat) : Bys (w.drewN q) a n zs :=
  h.below (Nat.le_refl _) (below_drewN (Below.refl _ _) q)

theorem byt_ext {x y : List Int} (hl : x.length = y.length) (h : ∀ i, i < x.length → byt x i = byt y i) : x = y := by
  apply List.ext_getElem hl
  intro i h1 h2
  have := h i h1
  simpa [byt, List.getD, h1, h2] using this

/-- A block of bytes, whole. -/
def ints (zs : List Int) : Array Value := (zs.map (Value.int .u8)).toArray
structure Blk (w : World) (g : Nat) (zs : List Int) : Prop where
  row : w.heap[g]? = some (.cells (ints zs) 5 (0, 0))

theorem Blk.lt {w : World} {g : Nat} {zs : List Int} (h : Blk w g zs) : g < w.heap.size := lt_of_block h.row
theorem Blk.cell {w : World} {g : Nat} {zs : List Int} (h : Blk w g zs) {i : Nat} (hi : i < zs.length) : w.cell? ⟨g, i, none⟩ = some (.int .u8 (byt zs i)) := by
  rw [cell_of_row w g i _ _ (0, 0) h.row]
  simp [ints, byt, List.getD, hi]
theorem Blk.free {w : World} {g : Nat} {zs : List Int} (h : Blk w g zs) (i : Nat) : w.frozen? ⟨g, i, none⟩ = false := frozen_of_row w g i _ _ h.row
theorem Blk.set {w : World} {g : Nat} {zs : List Int} (h : Blk w g zs) (i : Nat) (z : Int) : Blk (w.setCell ⟨g, i, none⟩ (.int .u8 z)) g (zs.set i z) := by
  refine ⟨?_⟩
  rw [heap_setCell_same w g i _ _ _ h.row]
  congr 2
  apply Array.ext'
  simp [ints, List.map_set]
theorem AllB.take {zs : List Int} (h : AllB zs) (n : Nat) : AllB (zs.take n) := fun z hz => h z (List.mem_of_mem_take hz)
theorem AllB.drop {zs : List Int} (h : AllB zs) (n : Nat) : AllB (zs.drop n) := fun z hz => h z (List.mem_of_mem_drop hz)
theorem byt_take {zs : List Int} {n i : Nat} (h : i < n) : byt (zs.take n) i = byt zs i := by
  unfold byt
  simp [List.getD, h]
theorem byt_drop {zs : List Int} {n i : Nat} : byt (zs.drop n) i = byt zs (n + i) := by
  unfold byt
  simp [List.getD]
theorem byt_set {zs : List Int} {i : Nat} (h : i < zs.length) (z : Int) (j : Nat) : byt (zs.set i z) j = if j = i then z else byt zs j := by
  unfold byt
  by_cases e : j = i
  · subst e; simp [List.getD, h]
  · rw [if_neg e]; simp [List.getD, Ne.symm e]
theorem Blk.bys {w : World} {g : Nat} {zs : List Int} (h : Blk w g zs) (hs : AllB zs) {n : Nat} (hn : n ≤ zs.length) : Bys w (some ⟨g, 0, none⟩) n (zs.take n) :=
  ⟨by simp; omega, hs.take n, .inr ⟨g, 0, rfl, h.lt, fun i hi => by rw [Nat.zero_add, byt_take hi]; exact h.cell (by omega)⟩⟩
theorem Blk.all {w : World} {g : Nat} {zs : List Int} (h : Blk w g zs) (hs : AllB zs) : Bys w (some ⟨g, 0, none⟩) zs.length zs := by
  have := h.bys hs (Nat.le_refl _)
  rwa [List.take_of_length_le (Nat.le_refl _)] at this
theorem Blk.bysn {w : World} {g n : Nat} {zs : List Int} (h : Blk w g zs) (hs : AllB zs) (hn : zs.length = n) : Bys w (some ⟨g, 0, none⟩) n zs := by
  subst hn
  exact h.all hs
/-- The front of a slice of bytes, and what is behind it. -/
theorem Bys.front {w : World} {a : Option Addr} {n : Nat} {zs : List Int} (h : Bys w a n zs) {k : Nat} (hk : k ≤ n) : Bys w a k (zs.take k) := by
  refine ⟨by rw [List.length_take, h.len]; omega, h.small.take k, ?_⟩
  rcases h.place with h0 | ⟨b, off, ha, hlt, hc⟩
  · exact .inl (by omega)
  · exact .inr ⟨b, off, ha, hlt, fun i hi => by rw [byt_take hi]; exact hc i (by omega)⟩
theorem Bys.rest {w : World} {b off n : Nat} {zs : List Int} (h : Bys w (some ⟨b, off, none⟩) n zs) (k : Nat) : Bys w (some ⟨b, off + k, none⟩) (n - k) (zs.drop k) := by
  refine ⟨by rw [List.length_drop, h.len], h.small.drop k, ?_⟩
  rcases h.place with h0 | ⟨b', off', ha, hlt, hc⟩
  · exact .inl (by omega)
  · cases ha
    exact .inr ⟨b, off + k, rfl, hlt, fun i hi => by rw [byt_drop, Nat.add_assoc]; exact hc (k + i) (by omega)⟩
theorem Bys.none {w : World} (a : Option Addr) : Bys w a 0 [] := ⟨rfl, (fun z hz => by cases hz), .inl rfl⟩

/-- Up to place k the one list's bytes, from there on the other's. -/
structure Mix (zs s t : List Int) (k : Nat) : Prop where
  len : zs.length = t.length
  new : ∀ j, j < k → byt zs j = byt t j
  old : ∀ j, k ≤ j → byt zs j = byt s j
theorem Mix.start {zs t : List Int} (h : zs.length = t.length) : Mix zs zs t 0 := ⟨h, fun _ h => by omega, fun _ _ => rfl⟩
theorem Mix.set {zs s t : List Int} {k : Nat} {z : Int} (h : Mix zs s t k) (hk : k < t.length) (hz : z = byt t k) : Mix (zs.set k z) s t (k + 1) := by
  have hk' : k < zs.length := by rw [h.len]; exact hk
  refine ⟨by simp [h.len], fun j hj => ?_, fun j hj => ?_⟩
  · rw [byt_set hk']
    split
    · next e => rw [e, hz]
    · exact h.new j (by omega)
  · rw [byt_set hk', if_neg (by omega)]
    exact h.old j (by omega)
theorem Mix.done {zs s t : List Int} {k : Nat} (h : Mix zs s t k) (he : ∀ j, k ≤ j → j < t.length → byt s j = byt t j) : zs = t :=
  byt_ext h.len fun j hj => by
    by_cases e : j < k
    · exact h.new j e
    · rw [h.old j (by omega)]
      exact he j (by omega) (by rw [← h.len]; exact hj)

theorem info8 : (Try.prog.info? 5).map (fun i => (i.zero, i.size, i.bytes)) = some (some (.int .u8 0), 1, 1) := by kernel_rfl

set_option maxRecDepth 100000 in
/-- 'make([]byte, n)': a new block of n noughts. -/
theorem wpList_mk {w : World} {ops : Array Oper} {rest : List Oper} {o : Oper} {a : Act} {Q : Exit → Act → World → Prop}
    (hg : o.guard = none) (l c : Operand) (hop : o.op = Op.makeSlice 22 l c) (kl kc : IntKind) (L C : Int) (n : Nat) (hl : a.eval l = .int kl L) (hc : a.eval c = .int kc C) (hL : L = (n : Int)) (hC : C = (n : Int)) (b2 : n ≤ 281474976710656)
    (hK : ∀ w', Blk w' w.heap.size (List.replicate n 0) → Below w.heap.size w w' → wpList Try.prog ops Q rest (a.put o.dst (.slice (some ⟨w.heap.size, 0, none⟩) n n)) w') :
    wpList Try.prog ops Q (o :: rest) a w := by
  obtain ⟨i0, hi, hz0, hz1, hz2⟩ := info_parts info8
  refine wpList_make_full w hg l c 22 hop w.heap.size 5 i0 (.int .u8 0) 1 Try.underlying22 hi hz0 hz1 kl kc L C n hl hc hL hC (by rw [hz2]; omega) (by unfold maxLen; omega) (Nat.le_refl _) fun w' hown hgrow => hK w' ⟨?_⟩ ((Below.refl _ _).grown hgrow (Nat.le_refl _) (fun k h => by cases h))
  rcases hown.2 with ⟨h', _⟩ | ⟨g, cap, cur, h', _, hh, _, _, hsz, htake⟩
  · simp at h'
  · simp only [Value.slice.injEq, Option.some.injEq, Addr.mk.injEq, and_true, true_and] at h'
    obtain ⟨rfl, rfl⟩ := h'
    rw [hh]
    congr 2
    apply Array.ext'
    rw [List.take_of_length_le (by rw [Array.length_toList, hsz]; exact Nat.le_refl _)] at htake
    rw [htake, show (Value.int IntKind.u8 0).cells = #[Value.int .u8 0] from rfl, Nat.mul_one, toList_madeCells_one]
    simp [ints]

theorem AllB.app {x y : List Int} (hx : AllB x) (hy : AllB y) : AllB (x ++ y) := fun z hz => (List.mem_append.1 hz).elim (hx z) (hy z)
theorem AllB.zeros (n : Nat) : AllB (List.replicate n 0) := fun z hz => by rw [(List.mem_replicate.1 hz).2]; omega

theorem ret_bool {b c : Bool} (h : b = c) : Ending.returned (.bool b) = .returned (.bool c) := by rw [h]
end Go.Proofs.Ytijhmpdeohbjhaa

/-
  Appends of bytes onto a slice of the call's own; the reference's copy of bytes, by contract.
-/
namespace Go.Proofs.Ytijhmpdeohbjhaa
open Go.RowKit

/-- The slice value v, of the call's own blocks from B on, holds the bytes zs. -/
structure Own (w : World) (B : Nat) (v : Value) (n : Nat) (zs : List Int) : Prop where
  row : w.ownsRow B 5 1 v n (zs.map (Value.int .u8))
  small : AllB zs
theorem Own.len {w : World} {B : Nat} {v : Value} {n : Nat} {zs : List Int} (h : Own w B v n zs) : zs.length = n := by simpa using h.row.1
theorem Own.form {w : World} {B : Nat} {v : Value} {n : Nat} {zs : List Int} (h : Own w B v n zs) : ∃ a c, v = .slice a n c ∧ (a = none → n = 0 ∧ c = 0) ∧ Bys w a n zs ∧ (∀ x, a = some x → B ≤ x.block ∧ x.block < w.heap.size) := by
  rcases h.row.2 with ⟨rfl, rfl⟩ | ⟨g, cap, cur, rfl, hb, hg, hnc, _, hsz, htake⟩
  · exact ⟨none, 0, rfl, (fun _ => ⟨rfl, rfl⟩), ⟨h.len, h.small, .inl rfl⟩, (fun x hx => by cases hx)⟩
  · refine ⟨some ⟨g, 0, none⟩, cap, rfl, (fun h => by cases h), ⟨h.len, h.small, .inr ⟨g, 0, rfl, lt_of_block hg, fun i hi => ?_⟩⟩, fun x hx => by cases hx; exact ⟨hb, lt_of_block hg⟩⟩
    have hl := h.len
    have hc := h.row.cellAt i (by omega)
    rw [Nat.zero_add, hc]
    simp [byt, List.getD, show i < zs.length by omega]
theorem Own.below {w w' : World} {B : Nat} {v : Value} {n : Nat} {zs : List Int} (h : Own w B v n zs) {C : Nat} (hC : w.heap.size ≤ C) (hb : Below C w w') : Own w' B v n zs :=
  ⟨h.row.kept (row := none) ⟨hb.os, hb.tape, hb.output, hb.size, fun k hk _ => hb.block k (by omega)⟩ (by cases v.ownBlock <;> simp), h.small⟩

theorem own_none (w : World) (B : Nat) (hB : B ≤ w.heap.size) : Own (w.alloc (.cells #[] 5)) B (.slice (some ⟨w.heap.size, 0, none⟩) 0 0) 0 [] :=
  ⟨World.ownsRow_lit w #[] 0 hB (Nat.zero_le _) rfl, fun z hz => by cases hz⟩

/-- 'append(s, x...)', s of the call's own, x any slice of bytes. -/
theorem wpList_ap {w : World} {ops : Array Oper} {rest : List Oper} {o : Oper} {a : Act} {Q : Exit → Act → World → Prop} (hgd : o.guard = none) (s x : Operand)
    (ho : o.op = .call { callee := .builtin .append, args := #[s, x], argTypes := #[22, 22] })
    (B : Nat) (v : Value) (n : Nat) (zs : List Int) (hs : a.eval s = v) (hown : Own w B v n zs) (ad : Option Addr) (m c : Nat) (ys : List Int) (hx : a.eval x = .slice ad m c) (hy : Bys w ad m ys) (hnil : ad = none → m = 0 ∧ c = 0)
    (hnm : n + m ≤ 140737488355328) (hB : B ≤ w.heap.size) (w0 : World) (hb : Below B w0 w)
    (h : ∀ v' w', Own w' B v' (n + m) (zs ++ ys) → Below B w0 w' → wpList Try.prog ops Q rest (a.put o.dst v') w') : wpList Try.prog ops Q (o :: rest) a w := by
  obtain ⟨i0, hi, hz0, hz1, hz2⟩ := info_parts info8
  cases ad with
  | none =>
    obtain ⟨rfl, rfl⟩ := hnil rfl
    obtain rfl : ys = [] := List.eq_nil_of_length_eq_zero hy.len
    exact wpList_append_own_none hgd s x 22 ho B 5 i0 1 Try.underlying22 hi v n _ hs hown.row hx (h v w (by simpa using hown) hb)
  | some p =>
    refine wpList_append_own w hgd s x 22 ho B 5 i0 (.int .u8 0) 1 1 Try.underlying22 hi hz0 hz1 hz2 rfl (by decide) v n _ hs hown.row p m c (ys.map (Value.int .u8)) hx (by simp [hy.len]) ?_ ?_ (by unfold maxLen; omega) (by omega) hB ?_
    · intro j u hj
      have hjm : j < m := by
        rcases Nat.lt_or_ge j m with h | h
        · exact h
        · rw [List.getElem?_eq_none (by simp [hy.len]; omega)] at hj; cases hj
      have hv : u = .int .u8 (byt ys j) := by
        rw [List.getElem?_map] at hj
        have hjx : j < ys.length := by rw [hy.len]; exact hjm
        simp [List.getElem?_eq_getElem hjx] at hj
        simp [byt, List.getD, hjx, hj]
      rcases hy.place with h0 | ⟨b, off, hp, _, hcell⟩
      · omega
      · cases hp
        rw [hv, show (⟨b, off, none⟩ : Addr).add j = ⟨b, off + j, none⟩ by unfold Addr.add; split <;> simp_all]
        exact hcell j hjm
    · intro u hu
      obtain ⟨z, _, rfl⟩ := List.mem_map.1 hu
      rfl
    · intro v' w' hown' hgrow _
      refine h v' w' ⟨by rw [List.map_append]; exact hown', hown.small.app hy.small⟩ (hb.grown hgrow hB fun k hk => (hown.row.lt k hk).1)

end Go.Proofs.Ytijhmpdeohbjhaa

/-
  Pieces: slices of bytes with their room, and rows of them.
-/
namespace Go.Proofs.Ytijhmpdeohbjhaa
open Go.RowKit

/-- The slice at a, of n bytes and room c, holds zs. -/
structure Pin (w : World) (a : Option Addr) (n c : Nat) (zs : List Int) : Prop where
  bys : Bys w a n zs
  nil : a = none → n = 0 ∧ c = 0
  cap : n ≤ c
  max : c ≤ 9223372036854775807
theorem Pin.below {w w' : World} {a : Option Addr} {n c : Nat} {zs : List Int} (h : Pin w a n c zs) {B : Nat} (hB : w.heap.size ≤ B) (hb : Below B w w') : Pin w' a n c zs := ⟨h.bys.below hB hb, h.nil, h.cap, h.max⟩
theorem Pin.next {w w' : World} {a : Option Addr} {n c : Nat} {zs : List Int} (h : Pin w a n c zs) (hb : Below w.heap.size w w') : Pin w' a n c zs := h.below (Nat.le_refl _) hb
theorem Pin.drewN {w : World} {a : Option Addr} {n c : Nat} {zs : List Int} (h : Pin w a n c zs) (q : Nat) : Pin (w.drewN q) a n c zs := ⟨h.bys.drewN q, h.nil, h.cap, h.max⟩
theorem Pin.zero (w : World) : Pin w none 0 0 [] := ⟨Bys.none _, fun _ => ⟨rfl, rfl⟩, Nat.le_refl _, by omega⟩
theorem Pin.len {w : World} {a : Option Addr} {n c : Nat} {zs : List Int} (h : Pin w a n c zs) : zs.length = n := h.bys.len
theorem Blk.pin {w : World} {g c : Nat} {zs : List Int} (h : Blk w g zs) (hs : AllB zs) {n : Nat} (hn : zs.length = n) (hc : n ≤ c) (hm : c ≤ 9223372036854775807) : Pin w (some ⟨g, 0, none⟩) n c zs :=
  ⟨h.bysn hs hn, (fun h => by cases h), hc, hm⟩
theorem Own.pin {w : World} {B : Nat} {v : Value} {n : Nat} {zs : List Int} (h : Own w B v n zs) : ∃ a c, v = .slice a n c ∧ Pin w a n c zs ∧ (∀ x, a = some x → B ≤ x.block ∧ x.block < w.heap.size) := by
  obtain ⟨a, c, rfl, h1, h2, h3⟩ := h.form
  refine ⟨a, c, rfl, ⟨h2, h1, ?_, ?_⟩, h3⟩
  · rcases h.row.2 with ⟨e, _⟩ | ⟨g, cap, cur, e, hb, hg, hnc, hm, hsz, htake⟩
    · cases e; exact Nat.le_refl _
    · cases e; exact hnc
  · rcases h.row.2 with ⟨e, _⟩ | ⟨g, cap, cur, e, hb, hg, hnc, hm, hsz, htake⟩
    · cases e; omega
    · cases e; unfold maxLen at hm; omega
/-- The front of a piece, and what is behind it. -/
theorem Pin.front {w : World} {a : Option Addr} {n c : Nat} {zs : List Int} (h : Pin w a n c zs) {k : Nat} (hk : k ≤ n) (h0 : a = none → k = 0) : Pin w a k c (zs.take k) :=
  ⟨h.bys.front hk, fun e => ⟨h0 e, (h.nil e).2⟩, Nat.le_trans hk h.cap, h.max⟩
theorem Pin.rest {w : World} {b off n c : Nat} {zs : List Int} (h : Pin w (some ⟨b, off, none⟩) n c zs) (k : Nat) : Pin w (some ⟨b, off + k, none⟩) (n - k) (c - k) (zs.drop k) :=
  ⟨h.bys.rest k, (fun e => by cases e), Nat.sub_le_sub_right h.cap k, Nat.le_trans (Nat.sub_le _ _) h.max⟩
theorem Pin.at {w : World} {a : Option Addr} {n c : Nat} {zs : List Int} (h : Pin w a n c zs) (hn : 0 < n) : ∃ b off, a = some ⟨b, off, none⟩ ∧ b < w.heap.size ∧ ∀ i, i < n → w.cell? ⟨b, off + i, none⟩ = some (.int .u8 (byt zs i)) := by
  rcases h.bys.place with h0 | ⟨b, off, e, hlt, hc⟩
  · omega
  · exact ⟨b, off, e, hlt, hc⟩

/-- A slice of the call's own that holds zs. -/
def ConPost (w : World) (zs : List Int) (e : Ending) (w' : World) : Prop := ∃ v, e = .returned v ∧ Own w' w.heap.size v zs.length zs ∧ Below w.heap.size w w'
/-- A piece, as a row has it. -/
structure Pc where
  a : Option Addr
  n : Nat
  c : Nat
  zs : List Int
instance : Inhabited Pc := ⟨⟨none, 0, 0, []⟩⟩
end Go.Proofs.Ytijhmpdeohbjhaa

/-
  A slice of bytes that came in, as the walks' words have it.
-/
namespace Go.Proofs.Ytijhmpdeohbjhaa
open Go.RowKit

theorem bys_of_row {w : World} {a : Option Addr} {len cap : Nat} {zs : List Int}
    (h : (a = none ∧ len = 0 ∧ cap = 0 ∧ zs = []) ∨ ∃ x, a = some x ∧ len ≤ cap ∧ cap ≤ maxLen ∧ zs.length = cap ∧ (∀ i, i < zs.length → w.cell? (x.add i) = some (.int .u8 (zs.getD i 0))) ∧ ∀ n ∈ zs, (Lit.int .u8 n).wf = true) :
    Bys w a len (zs.take len) ∧ (a = none → len = 0 ∧ cap = 0) := by
  rcases h with ⟨rfl, rfl, rfl, rfl⟩ | ⟨x, rfl, hl, hm, hz, hcell, hwz⟩
  · exact ⟨⟨rfl, (fun z hz => by cases hz), .inl rfl⟩, fun _ => ⟨rfl, rfl⟩⟩
  · have hs : AllB zs := fun z hz => by
      have := hwz z hz
      simp [Lit.wf, IntKind.min, IntKind.max, IntKind.signed, IntKind.bits] at this
      omega
    refine ⟨⟨by simp; omega, hs.take len, ?_⟩, fun h => by cases h⟩
    by_cases h0 : len = 0
    · exact .inl h0
    · refine .inr ?_
      obtain ⟨b, off, spot⟩ := x
      have hc := hcell 0 (by omega)
      have hspot : spot = none := by simpa [Addr.add] using World.cell?_spot hc
      subst hspot
      refine ⟨b, off, rfl, World.block_lt_of_cell? w ((⟨b, off, none⟩ : Addr).add 0) hc, fun i hi => ?_⟩
      have := hcell i (by omega)
      rw [show (⟨b, off, none⟩ : Addr).add i = ⟨b, off + i, none⟩ by unfold Addr.add; split <;> simp_all] at this
      rw [this, byt_take hi]
      rfl

end Go.Proofs.Ytijhmpdeohbjhaa

/-
  The plain words of the geometry, and a contract for each small function of the program.
-/
namespace Go.Proofs.Ytijhmpdeohbjhaa
open Go.RowKit

/-- A geometry, as a value. -/
abbrev gv (d r s : Int) : Value := .agg #[.int .i64 d, .int .i64 r, .int .i64 s]
/-- How many places a segment has. -/
def PL (d r : Int) : Int := r * (d - 1) - 1
/-- How many segments there may be for all but data. -/
def QC (s : Int) : Int := 1 + s / 8
/-- The numbers are within the bounds. -/
structure Bd (d r s : Int) : Prop where
  d1 : 3 ≤ d
  d2 : d ≤ 16
  r1 : 1 ≤ r
  r2 : r ≤ 4
  s1 : 12 ≤ s
  s2 : s ≤ 64
/-- A geometry is right. -/
structure Rt (d r s : Int) : Prop extends Bd d r s where
  q : 8 ≤ QC s * PL d r

theorem PL_bd {d r : Int} (d1 : 3 ≤ d) (d2 : d ≤ 16) (r1 : 1 ≤ r) (r2 : r ≤ 4) : 1 ≤ PL d r ∧ PL d r ≤ 59 ∧ 2 ≤ r * (d - 1) ∧ r * (d - 1) ≤ 60 := by
  unfold PL
  rcases (by omega : r = 1 ∨ r = 2 ∨ r = 3 ∨ r = 4) with h | h | h | h <;> subst h <;> omega
theorem QC_bd {s : Int} (s1 : 12 ≤ s) (s2 : s ≤ 64) : 2 ≤ QC s ∧ QC s ≤ 9 := by unfold QC; omega
theorem mul_bd {a b x y : Int} (a0 : 0 ≤ a) (ax : a ≤ x) (b0 : 0 ≤ b) (by' : b ≤ y) : 0 ≤ a * b ∧ a * b ≤ x * y :=
  ⟨Int.mul_nonneg a0 b0, Int.mul_le_mul ax by' b0 (Int.le_trans a0 ax)⟩
theorem QP_bd {d r s : Int} (h : Bd d r s) : 0 ≤ QC s * PL d r ∧ QC s * PL d r ≤ 531 := by
  have h1 := PL_bd h.d1 h.d2 h.r1 h.r2
  have h2 := QC_bd h.s1 h.s2
  exact mul_bd (x := 9) (y := 59) (by omega) h2.2 (by omega) h1.2.1

theorem bcell {W w1 : World} (hb : Below W.heap.size W w1) : (∀ b o, b < W.heap.size → w1.cell? ⟨b, o, none⟩ = W.cell? ⟨b, o, none⟩) ∧ (∀ b o, b < W.heap.size → w1.frozen? ⟨b, o, none⟩ = W.frozen? ⟨b, o, none⟩) :=
  ⟨fun b o h => hb.cell (p := ⟨b, o, none⟩) h, fun b o h => hb.frozen (p := ⟨b, o, none⟩) h⟩

set_option maxHeartbeats 400000 in
theorem within_yes (n a b : Int) (w : World) (h1 : a ≤ n) (h2 : n ≤ b) :
    Calls Try.prog 21 #[.int .i64 n, .int .i64 a, .int .i64 b] w fun e w' => e = .returned (.bool true) ∧ w = w' := by
  go_enter Try.func21, Try.ntmps21
  go_wp2_with (fail)
  go_ret
  exact ⟨rfl, rfl⟩
set_option maxHeartbeats 400000 in
theorem within_no (n a b : Int) (w : World) (h : n < a ∨ b < n) :
    Calls Try.prog 21 #[.int .i64 n, .int .i64 a, .int .i64 b] w fun e w' => e = .returned (.bool false) ∧ w = w' := by
  by_cases h1 : a ≤ n
  · have h2 : ¬ n ≤ b := by omega
    clear h
    go_enter Try.func21, Try.ntmps21
    go_wp2_with (fail)
    go_ret
    exact ⟨rfl, rfl⟩
  · clear h
    go_enter Try.func21, Try.ntmps21
    go_wp2_with (fail)
    go_ret
    exact ⟨rfl, rfl⟩
set_option maxHeartbeats 400000 in
theorem perRow_any (d r s : Int) (w : World) (h1 : 3 ≤ d) (h2 : d ≤ 16) :
    Calls Try.prog 32 #[gv d r s] w fun e w' => e = .returned (.int .i64 (d - 1)) ∧ Below w.heap.size w w' := by
  go_enter Try.func32, Try.ntmps32
  go_wp2_with (fail)
  go_ret
  exact ⟨rfl, (Below.refl _ _).alloc (Nat.le_refl _) _⟩
set_option maxHeartbeats 400000 in
theorem otherCap_any (d r s : Int) (w : World) (h1 : 12 ≤ s) (h2 : s ≤ 64) :
    Calls Try.prog 22 #[gv d r s] w fun e w' => e = .returned (.int .i64 (QC s)) ∧ Below w.heap.size w w' := by
  go_enter Try.func22, Try.ntmps22
  go_wp2_with (fail)
  go_ret
  exact ⟨rfl, (Below.refl _ _).alloc (Nat.le_refl _) _⟩
theorem bel_box {w w2 : World} {B : Nat} (o : Obj) (hB : w.heap.size ≤ B) (hb : Below B (w.alloc o).drew w2) : Below w.heap.size w w2 :=
  ((Below.refl _ _).alloc (Nat.le_refl _) o).drew.trans (hb.mono hB)
theorem size_box {w w2 : World} {B : Nat} (o : Obj) (hb : Below B (w.alloc o).drew w2) : w.heap.size < w2.heap.size := by
  have := hb.size; simp at this; omega
set_option maxHeartbeats 400000 in
theorem placesS_any (d r s : Int) (w : World) (h1 : 3 ≤ d) (h2 : d ≤ 16) (h3 : 1 ≤ r) (h4 : r ≤ 4) :
    Calls Try.prog 23 #[gv d r s] w fun e w' => e = .returned (.int .i64 (PL d r)) ∧ Below w.heap.size w w' := by
  obtain ⟨p1, p2, p3, p4⟩ := PL_bd h1 h2 h3 h4
  have e1 : IntKind.i64.wrap (r * (d - 1)) = r * (d - 1) := IntWalk.i64_in _ (by omega)
  have e2 : IntKind.i64.wrap (r * (d - 1) - 1) = PL d r := IntWalk.i64_in _ (by omega)
  go_enter Try.func23, Try.ntmps23
  go_wp2_with (fail)
  go_region_held3 (fun w' => w'.cell? ⟨w.heap.size, 0, none⟩ = some (.int .i64 d) ∧ w'.cell? ⟨w.heap.size, 1, none⟩ = some (.int .i64 r) ∧ w'.cell? ⟨w.heap.size, 2, none⟩ = some (.int .i64 s))
    (first | go_keep | exact ⟨(hb.cell (p := ⟨w.heap.size, 0, none⟩) (by simp)).trans (by go_simp), (hb.cell (p := ⟨w.heap.size, 1, none⟩) (by simp)).trans (by go_simp), (hb.cell (p := ⟨w.heap.size, 2, none⟩) (by simp)).trans (by go_simp)⟩)
    (first | (go_at_call 32
              refine (perRow_any d r s _ h1 h2).mono ?_
              rintro e w2 ⟨rfl, hb⟩))
  go_wp2_with (fail)
  go_ret
  exact ⟨rfl, bel_box _ (by simp) hb⟩

end Go.Proofs.Ytijhmpdeohbjhaa

/-
  Slices of numbers: what they hold, and how one of the call's own grows.
-/
namespace Go.Proofs.Ytijhmpdeohbjhaa
open Go.RowKit

/-- The number at a place (0 behind the end). -/
def inu (ks : List Int) (i : Nat) : Int := ks.getD i 0

/-- The slice at a, of n numbers, holds ks. -/
structure Ins (w : World) (a : Option Addr) (n : Nat) (ks : List Int) : Prop where
  len : ks.length = n
  place : n = 0 ∨ ∃ b off, a = some ⟨b, off, none⟩ ∧ b < w.heap.size ∧ ∀ i, i < n → w.cell? ⟨b, off + i, none⟩ = some (.int .i64 (inu ks i))
theorem Ins.below {w w' : World} {a : Option Addr} {n : Nat} {ks : List Int} (h : Ins w a n ks) {B : Nat} (hB : w.heap.size ≤ B) (hb : Below B w w') : Ins w' a n ks := by
  refine ⟨h.len, ?_⟩
  rcases h.place with h0 | ⟨b, off, ha, hlt, hc⟩
  · exact .inl h0
  · exact .inr ⟨b, off, ha, Nat.lt_of_lt_of_le hlt hb.size, fun i hi => (hb.cell (p := ⟨b, off + i, none⟩) (by show b < B; omega)).trans (hc i hi)⟩
theorem Ins.next {w w' : World} {a : Option Addr} {n : Nat} {ks : List Int} (h : Ins w a n ks) (hb : Below w.heap.size w w') : Ins w' a n ks := h.below (Nat.le_refl _) hb
theorem Ins.alloc {w : World} {a : Option Addr} {n : Nat} {ks : List Int} (h : Ins w a n ks) (o : Obj) : Ins (w.alloc o) a n ks := h.next ((Below.refl _ _).alloc (Nat.le_refl _) o)
theorem Ins.at {w : World} {a : Option Addr} {n : Nat} {ks : List Int} (h : Ins w a n ks) (hn : 0 < n) : ∃ b off, a = some ⟨b, off, none⟩ ∧ b < w.heap.size ∧ ∀ i, i < n → w.cell? ⟨b, off + i, none⟩ = some (.int .i64 (inu ks i)) := by
  rcases h.place with h0 | h1
  · omega
  · exact h1
theorem info3 : (Try.prog.info? 3).map (fun i => (i.zero, i.size, i.bytes)) = some (some (.int .i64 0), 1, 8) := by kernel_rfl

/-- A slice of numbers of the call's own. -/
def OwnI (w : World) (B : Nat) (v : Value) (n : Nat) (ks : List Int) : Prop := w.ownsRow B 3 1 v n (ks.map (Value.int .i64))
theorem OwnI.ins {w : World} {B : Nat} {v : Value} {n : Nat} {ks : List Int} (h : OwnI w B v n ks) : ∃ a c, v = .slice a n c ∧ Ins w a n ks ∧ n ≤ c ∧ c ≤ 9223372036854775807 ∧ (∀ x, a = some x → B ≤ x.block ∧ x.block < w.heap.size) := by
  rcases h.2 with ⟨rfl, rfl⟩ | ⟨g, cap, cur, rfl, hb, hg, hnc, hm, hsz, htake⟩
  · have := h.1
    simp at this
    exact ⟨none, 0, rfl, ⟨by simpa using this, .inl rfl⟩, Nat.le_refl _, by omega, (fun x hx => by cases hx)⟩
  · have hl : ks.length = n := by have := h.1; simpa using this
    refine ⟨some ⟨g, 0, none⟩, cap, rfl, ⟨hl, .inr ⟨g, 0, rfl, lt_of_block hg, fun i hi => ?_⟩⟩, hnc, by unfold maxLen at hm; omega, fun x hx => by cases hx; exact ⟨hb, lt_of_block hg⟩⟩
    have hc := h.cellAt i (by omega)
    rw [Nat.zero_add, hc]
    simp [inu, List.getD, show i < ks.length by omega]

end Go.Proofs.Ytijhmpdeohbjhaa

/-
  Entries, plainly: what is a name, which entries are right, what Find, Put and Cut answer.
-/
namespace Go.Proofs.Ytijhmpdeohbjhaa
set_option linter.unusedVariables false
set_option linter.unusedSimpArgs false

/-- A byte that a name may have. -/
def okB (b : UInt8) : Bool := !(b == 0) && !(b == 47)
/-- Is it a name? -/
def nmB (l : List UInt8) : Bool := decide (1 ≤ l.length) && decide (l.length ≤ 12) && !(l == [46]) && !(l == [46, 46]) && l.all okB
/-- The text of bytes l. -/
def tx (l : List UInt8) : ByteArray := ⟨l.toArray⟩
theorem tx_data (s : ByteArray) : tx s.data.toList = s := Lib.mk_data s
/-- An entry. -/
structure En where
  s : ByteArray
  i : Int
deriving DecidableEq
instance : Inhabited En := ⟨⟨ByteArray.empty, 0⟩⟩
/-- The entry at a place. -/
def eat (L : List En) (i : Nat) : En := L.getD i default
theorem eat_get {L : List En} {i : Nat} (h : i < L.length) : L[i]? = some (eat L i) := by simp [eat, List.getD, h]
theorem eat_mem {L : List En} {i : Nat} (h : i < L.length) : eat L i ∈ L := by simp [eat, List.getD, h]
/-- Is the one text below the other? -/
def blt (x y : ByteArray) : Bool := Op.bytesLess x.toList y.toList
/-- Are they the same? -/
def beqS (x y : ByteArray) : Bool := x.toList == y.toList
/-- May it be an entry? -/
def okE (e : En) : Bool := nmB e.s.data.toList && decide (1 ≤ e.i) && decide (e.i ≤ 56)
/-- Do names rise? -/
def ris : List En → Bool
  | [] => true
  | [_] => true
  | x :: y :: r => blt x.s y.s && ris (y :: r)
/-- Are these the entries of a directory? -/
def rgt (L : List En) : Bool := decide (L.length ≤ 64) && L.all okE && ris L
/-- Ahead of place k each name is above the one ahead of it. -/
def RisTo (L : List En) (k : Nat) : Prop := ∀ j, j + 1 < k → blt (eat L j).s (eat L (j + 1)).s = true
theorem RisTo.one (L : List En) : RisTo L 1 := fun j h => by omega
theorem RisTo.zero (L : List En) : RisTo L 0 := fun j h => by omega
theorem RisTo.succ {L : List En} {k : Nat} (h : RisTo L k) (e : ∀ j, j + 1 = k → blt (eat L j).s (eat L (j + 1)).s = true) : RisTo L (k + 1) := fun j hj => by
  by_cases hk : j + 1 = k
  · exact e j hk
  · exact h j (by omega)
theorem ris_iff : ∀ L : List En, ris L = true ↔ RisTo L L.length
  | [] => ⟨fun _ => RisTo.zero _, fun _ => rfl⟩
  | [x] => ⟨fun _ => RisTo.one _, fun _ => rfl⟩
  | x :: y :: r => by
    rw [ris, Bool.and_eq_true, ris_iff (y :: r)]
    constructor
    · rintro ⟨h, k⟩ j hj
      cases j with
      | zero => exact h
      | succ j =>
        have := k j (by simpa using hj)
        simpa [eat] using this
    · intro h
      refine ⟨h 0 (by simp), fun j hj => ?_⟩
      have := h (j + 1) (by simpa using hj)
      simpa [eat] using this
theorem RisTo.ris {L : List En} (h : RisTo L L.length) : ris L = true := (ris_iff L).2 h
theorem not_ris {L : List En} {k : Nat} (hk : k + 1 < L.length) (e : blt (eat L k).s (eat L (k + 1)).s = false) : ris L = false := by
  cases h : ris L with
  | false => rfl
  | true => have := (ris_iff L).1 h k hk; rw [e] at this; cases this
theorem rgt_long {L : List En} (h : 64 < L.length) : rgt L = false := by unfold rgt; rw [decide_eq_false (by omega)]; rfl
theorem rgt_bad {L : List En} (h : L.all okE = false) : rgt L = false := by unfold rgt; rw [h, Bool.and_false]; rfl
theorem rgt_fall {L : List En} (h : ris L = false) : rgt L = false := by unfold rgt; rw [h, Bool.and_false]
theorem rgt_yes {L : List En} (h : L.length ≤ 64) (k : L.all okE = true) (r : ris L = true) : rgt L = true := by unfold rgt; rw [decide_eq_true h, k, r]; rfl
theorem rgt_all {L : List En} (h : rgt L = true) : L.length ≤ 64 ∧ L.all okE = true ∧ ris L = true := by
  unfold rgt at h
  rw [Bool.and_eq_true, Bool.and_eq_true, decide_eq_true_eq] at h
  exact ⟨h.1.1, h.1.2, h.2⟩

/-- The first place whose entry isn't below n; how many there are, if there is none. -/
def efix (L : List En) (n : ByteArray) : Nat := L.findIdx fun e => !(blt e.s n)
/-- Has it that name? -/
def ehas (L : List En) (n : ByteArray) : Bool := decide (efix L n < L.length) && beqS (eat L (efix L n)).s n
end Go.Proofs.Ytijhmpdeohbjhaa

/-
  What it is for a call to answer a slice that holds given bytes; worlds of which only some blocks have turned.
-/
namespace Go.Proofs.Ytijhmpdeohbjhaa
open Go.RowKit

/-- Of the blocks that were there only those of M have turned. -/
structure Turn (M : Nat → Prop) (w w' : World) : Prop where
  os : w'.os = w.os
  tape : w'.tape = w.tape
  output : w'.output = w.output
  size : w.heap.size ≤ w'.heap.size
  block : ∀ k, k < w.heap.size → ¬ M k → w'.heap[k]? = w.heap[k]?

theorem Turn.refl (M : Nat → Prop) (w : World) : Turn M w w := ⟨rfl, rfl, rfl, Nat.le_refl _, fun _ _ _ => rfl⟩
theorem Turn.trans {M : Nat → Prop} {a b c : World} (h : Turn M a b) (k : Turn M b c) : Turn M a c :=
  ⟨k.os.trans h.os, k.tape.trans h.tape, k.output.trans h.output, Nat.le_trans h.size k.size, fun i hi hm => (k.block i (Nat.lt_of_lt_of_le hi h.size) hm).trans (h.block i hi hm)⟩
theorem Turn.of_below {M : Nat → Prop} {w w' : World} (h : Below w.heap.size w w') : Turn M w w' := ⟨h.os, h.tape, h.output, h.size, fun k hk _ => h.block k hk⟩
theorem Turn.setCell {M : Nat → Prop} (w : World) {a : Addr} (hb : M a.block) (u : Value) : Turn M w (w.setCell a u) :=
  ⟨rfl, rfl, rfl, by simp [World.setCell], fun k _ hn => Below.heap_setCell w a u k (fun e => hn (e ▸ hb))⟩
theorem Turn.below {M : Nat → Prop} {w w' : World} (h : Turn M w w') {B : Nat} (hB : B ≤ w.heap.size) (hm : ∀ k, M k → B ≤ k) : Below B w w' :=
  ⟨h.os, h.tape, h.output, h.size, fun k hk => h.block k (by omega) fun x => by have := hm k x; omega⟩
theorem Turn.cell {M : Nat → Prop} {w w' : World} (h : Turn M w w') {a : Addr} (hlt : a.block < w.heap.size) (hm : ¬ M a.block) : w'.cell? a = w.cell? a := World.cell?_of_block (w := w) (h.block _ hlt hm)
theorem Turn.frozen {M : Nat → Prop} {w w' : World} (h : Turn M w w') {a : Addr} (hlt : a.block < w.heap.size) (hm : ¬ M a.block) : w'.frozen? a = w.frozen? a := World.frozen?_of_block (w := w) (h.block _ hlt hm)
theorem bys_turn {M : Nat → Prop} {w w' : World} {a : Option Addr} {n : Nat} {zs : List Int} (h : Bys w a n zs) (ht : Turn M w w') (hm : ∀ b off, a = some ⟨b, off, .none⟩ → ¬ M b) : Bys w' a n zs := by
  refine ⟨h.len, h.small, ?_⟩
  rcases h.place with h0 | ⟨b, off, ha, hlt, hc⟩
  · exact .inl h0
  · exact .inr ⟨b, off, ha, Nat.lt_of_lt_of_le hlt ht.size, fun i hi => (ht.cell (a := ⟨b, off + i, .none⟩) hlt (hm b off ha)).trans (hc i hi)⟩
/-- A block of cells of one cell each. -/
theorem cells_set {w : World} {g i : Nat} {cs : Array Value} {t : TypeId} {u : Value} (h : w.heap[g]? = some (.cells cs t (0, 0))) : (w.setCell ⟨g, i, none⟩ u).heap[g]? = some (.cells (cs.setIfInBounds i u) t (0, 0)) :=
  heap_setCell_same w g i _ _ _ h

end Go.Proofs.Ytijhmpdeohbjhaa

/-
  Slices of entries: what they hold, and how one of the call's own grows, is cut and is written in place.
-/
namespace Go.Proofs.Ytijhmpdeohbjhaa
open Go.RowKit
set_option linter.unusedVariables false
set_option linter.unusedSimpArgs false

/-- An entry by value. -/
def env (x : En) : Value := .agg #[.string x.s, .int .i64 x.i]
/-- The slice at a, of n entries, holds L. -/
structure Ens (w : World) (a : Option Addr) (n : Nat) (L : List En) : Prop where
  len : L.length = n
  place : n = 0 ∨ ∃ b off, a = some ⟨b, off, none⟩ ∧ b < w.heap.size ∧ ∀ i, i < n → w.cell? ⟨b, off + i * 2, none⟩ = some (.string (eat L i).s) ∧ w.cell? ⟨b, off + i * 2 + 1, none⟩ = some (.int .i64 (eat L i).i)
theorem Ens.below {w w' : World} {a : Option Addr} {n : Nat} {L : List En} (h : Ens w a n L) {B : Nat} (hB : w.heap.size ≤ B) (hb : Below B w w') : Ens w' a n L := by
  refine ⟨h.len, ?_⟩
  rcases h.place with h0 | ⟨b, off, ha, hlt, hc⟩
  · exact .inl h0
  · exact .inr ⟨b, off, ha, Nat.lt_of_lt_of_le hlt hb.size, fun i hi => ⟨(hb.cell (p := ⟨b, off + i * 2, none⟩) (by show b < B; omega)).trans (hc i hi).1, (hb.cell (p := ⟨b, off + i * 2 + 1, none⟩) (by show b < B; omega)).trans (hc i hi).2⟩⟩
theorem Ens.next {w w' : World} {a : Option Addr} {n : Nat} {L : List En} (h : Ens w a n L) (hb : Below w.heap.size w w') : Ens w' a n L := h.below (Nat.le_refl _) hb
theorem Ens.at {w : World} {a : Option Addr} {n : Nat} {L : List En} (h : Ens w a n L) {i : Nat} (hi : i < n) : ∃ b off, a = some ⟨b, off, none⟩ ∧ b < w.heap.size ∧ w.cell? ⟨b, off + i * 2, none⟩ = some (.string (eat L i).s) ∧ w.cell? ⟨b, off + i * 2 + 1, none⟩ = some (.int .i64 (eat L i).i) := by
  rcases h.place with h0 | ⟨b, off, ha, hlt, hc⟩
  · omega
  · exact ⟨b, off, ha, hlt, hc i hi⟩
theorem ens_nil (w : World) (a : Option Addr) : Ens w a 0 [] := ⟨rfl, .inl rfl⟩
theorem add_e (b off m : Nat) : (⟨b, off, none⟩ : Addr).add m = ⟨b, off + m, none⟩ := by unfold Addr.add; split <;> simp_all
end Go.Proofs.Ytijhmpdeohbjhaa

/-
  Numbering, plainly: the nodes as they are met, over any children; what numbering anew leaves as it is.
-/
namespace Go.Proofs.Ytijhmpdeohbjhaa
set_option linter.unusedVariables false
set_option linter.unusedSimpArgs false

/-- The nodes from one on as they are met, put to those that were. -/
def ord (ch : Nat → List Nat) : Nat → Nat → List Nat → List Nat
  | 0, a, met => met ++ [a]
  | d + 1, a, met => (ch a).foldl (fun m k => if k ∈ m then m else ord ch d k m) (met ++ [a])
/-- One more of them. -/
def ordS (ch : Nat → List Nat) (d : Nat) (m : List Nat) (k : Nat) : List Nat := if k ∈ m then m else ord ch d k m
theorem ord_zero (ch : Nat → List Nat) (a : Nat) (met : List Nat) : ord ch 0 a met = met ++ [a] := rfl
theorem ord_succ (ch : Nat → List Nat) (d a : Nat) (met : List Nat) : ord ch (d + 1) a met = (ch a).foldl (ordS ch d) (met ++ [a]) := rfl

theorem foldS_ext {ch : Nat → List Nat} {d : Nat} (ih : ∀ a met, ∃ r, ord ch d a met = met ++ a :: r) : ∀ (ks m : List Nat), ∃ r, ks.foldl (ordS ch d) m = m ++ r
  | [], m => ⟨[], by simp⟩
  | k :: ks, m => by
    obtain ⟨r, hr⟩ := foldS_ext ih ks (ordS ch d m k)
    by_cases h : k ∈ m
    · refine ⟨r, ?_⟩
      rw [List.foldl_cons, hr, ordS, if_pos h]
    · obtain ⟨s, hs⟩ := ih k m
      refine ⟨k :: s ++ r, ?_⟩
      rw [List.foldl_cons, hr, ordS, if_neg h, hs]
      simp
theorem ord_ext (ch : Nat → List Nat) : ∀ d a met, ∃ r, ord ch d a met = met ++ a :: r
  | 0, a, met => ⟨[], rfl⟩
  | d + 1, a, met => by
    obtain ⟨r, hr⟩ := foldS_ext (ord_ext ch d) (ch a) (met ++ [a])
    exact ⟨r, by rw [ord_succ, hr]; simp⟩
theorem ordS_ext (ch : Nat → List Nat) (d : Nat) (m : List Nat) (k : Nat) : ∃ r, ordS ch d m k = m ++ r := by
  unfold ordS
  split
  · exact ⟨[], by simp⟩
  · obtain ⟨r, hr⟩ := ord_ext ch d k m
    exact ⟨k :: r, hr⟩
theorem fold_sub (ch : Nat → List Nat) (d : Nat) (ks m : List Nat) {x : Nat} (h : x ∈ m) : x ∈ ks.foldl (ordS ch d) m := by
  obtain ⟨r, hr⟩ := foldS_ext (ord_ext ch d) ks m
  rw [hr]
  exact List.mem_append_left _ h
/-- What holds of a step holds of all. -/
theorem foldS_ind {ch : Nat → List Nat} {d : Nat} {P : List Nat → Prop} {ks : List Nat} (h : ∀ k ∈ ks, ∀ m, P m → k ∉ m → P (ord ch d k m)) {m : List Nat} (h0 : P m) : P (ks.foldl (ordS ch d) m) := by
  induction ks generalizing m with
  | nil => exact h0
  | cons k ks ih =>
    rw [List.foldl_cons]
    refine ih (fun k hk => h k (List.mem_cons_of_mem _ hk)) ?_
    unfold ordS
    split
    · exact h0
    · exact h k (by simp) m h0 (by assumption)

/-- None is met twice. -/
theorem ord_nodup (ch : Nat → List Nat) : ∀ d a met, met.Nodup → a ∉ met → (ord ch d a met).Nodup
  | 0, a, met, h, k => by
    rw [ord_zero, List.nodup_append]
    exact ⟨h, by simp, fun x hx y hy => by rintro rfl; simp at hy; exact k (hy ▸ hx)⟩
  | d + 1, a, met, h, k => by
    rw [ord_succ]
    refine foldS_ind (P := List.Nodup) (fun k _ m hm hk => ord_nodup ch d k m hm hk) ?_
    rw [List.nodup_append]
    exact ⟨h, by simp, fun x hx y hy => by rintro rfl; simp at hy; exact k (hy ▸ hx)⟩
/-- All that are met are of what is closed. -/
theorem ord_in {ch : Nat → List Nat} {S : Nat → Prop} (hc : ∀ x, S x → ∀ k ∈ ch x, S k) : ∀ d a met, S a → (∀ x ∈ met, S x) → ∀ x ∈ ord ch d a met, S x
  | 0, a, met, ha, hm => fun x hx => by
    rw [ord_zero, List.mem_append, List.mem_singleton] at hx
    rcases hx with hx | rfl
    · exact hm x hx
    · exact ha
  | d + 1, a, met, ha, hm => by
    rw [ord_succ]
    refine foldS_ind (P := fun m => ∀ x ∈ m, S x) (fun k hk m hm _ => ord_in hc d k m (hc a ha k hk) hm) ?_
    intro x hx
    rw [List.mem_append, List.mem_singleton] at hx
    rcases hx with hx | rfl
    · exact hm x hx
    · exact ha
/-- What is met is met from one that is. -/
theorem ord_from (ch : Nat → List Nat) : ∀ d a met, ∀ x ∈ ord ch d a met, x ∈ met ∨ x = a ∨ ∃ y ∈ ord ch d a met, x ∈ ch y
  | 0, a, met, x, hx => by
    rw [ord_zero, List.mem_append, List.mem_singleton] at hx
    rcases hx with hx | hx
    · exact .inl hx
    · exact .inr (.inl hx)
  | d + 1, a, met, x, hx => by
    have key : ∀ (ks m : List Nat), (∀ k ∈ ks, k ∈ ch a) → a ∈ m → ∀ x ∈ ks.foldl (ordS ch d) m, x ∈ m ∨ ∃ y ∈ ks.foldl (ordS ch d) m, x ∈ ch y := by
      intro ks
      induction ks with
      | nil => intro m _ _ x hx; exact .inl hx
      | cons k ks ih =>
        intro m hk ha x hx
        rw [List.foldl_cons] at hx ⊢
        have ha' : a ∈ ordS ch d m k := by
          obtain ⟨r, hr⟩ := ordS_ext ch d m k
          rw [hr]; exact List.mem_append_left _ ha
        rcases ih (ordS ch d m k) (fun y hy => hk y (List.mem_cons_of_mem _ hy)) ha' x hx with h | h
        · by_cases hkm : k ∈ m
          · rw [ordS, if_pos hkm] at h
            exact .inl h
          · have h' := h
            rw [ordS, if_neg hkm] at h'
            rcases ord_from ch d k m x h' with h1 | rfl | ⟨y, hy, hxy⟩
            · exact .inl h1
            · exact .inr ⟨a, fold_sub ch d ks _ ha', hk x (by simp)⟩
            · refine .inr ⟨y, fold_sub ch d ks _ ?_, hxy⟩
              rw [ordS, if_neg hkm]; exact hy
        · exact .inr h
    rw [ord_succ] at hx ⊢
    rcases key (ch a) (met ++ [a]) (fun _ h => h) (by simp) x hx with h | h
    · rw [List.mem_append, List.mem_singleton] at h
      rcases h with h | h
      · exact .inl h
      · exact .inr (.inl h)
    · exact .inr (.inr h)
theorem nodup_len {n : Nat} {l : List Nat} (h : l.Nodup) (k : ∀ x ∈ l, x < n) : l.length ≤ n := by
  have := List.Nodup.length_le_of_subset h (l₂ := List.range n) (fun x hx => List.mem_range.2 (k x hx))
  simpa using this
/-- All as they are met from the root on. -/
def met (ch : Nat → List Nat) : List Nat := ord ch 60 0 []
theorem met_nodup (ch : Nat → List Nat) : (met ch).Nodup := ord_nodup ch 60 0 [] List.nodup_nil (by simp)
theorem met_lt {ch : Nat → List Nat} {n : Nat} (hc : ∀ x, x < n → ∀ k ∈ ch x, k < n) (h0 : 0 < n) : ∀ x ∈ met ch, x < n := ord_in (S := (· < n)) hc 60 0 [] h0 (fun _ h => by cases h)
theorem met_len {ch : Nat → List Nat} {n : Nat} (hc : ∀ x, x < n → ∀ k ∈ ch x, k < n) (h0 : 0 < n) : (met ch).length ≤ n := nodup_len (met_nodup ch) (met_lt hc h0)
theorem met_from (ch : Nat → List Nat) : ∀ x ∈ met ch, x = 0 ∨ ∃ y ∈ met ch, x ∈ ch y := fun x hx => by
  rcases ord_from ch 60 0 [] x hx with h | h | h
  · cases h
  · exact .inl h
  · exact .inr h
/-- The place of a node among those that are met. -/
def plc (ch : Nat → List Nat) (k : Nat) : Nat := (met ch).idxOf k
end Go.Proofs.Ytijhmpdeohbjhaa
