/-
  The plain words that this seat's walks share: what it is for a slice to hold bytes.
-/
import Derived.Test.YtinholnidchblaaGreatDoorRows
import Derived.WalkKit
import Derived.WalkSpells
import Derived.WalkLawsBesides
import Derived.WalkSmall
import Derived.Deep.QuietTactic
import Derived.BigQuiet
import Derived.IntWalk
import Derived.Lib.Hide
import Derived.Laws.CopyOwn
import Derived.ProofKit
import Derived.Laws.AppendOwnNone
import Derived.Lib.ConvBytes
import Derived.Lib.Strings
import Derived.Laws.CopyRow
set_option linter.unusedVariables false
set_option linter.unusedSimpArgs false
namespace Go.Proofs.YtinholnidchblaaGreatDoor
open Go.RowKit

/-- The byte at a place (0 behind the end). -/
def byt (zs : List Int) (i : Nat) : Int := zs.getD i 0

/-- Numbers that are bytes. -/
def AllB (zs : List Int) : Prop := ∀ z ∈ zs, 0 ≤ z ∧ z ≤ 255

/-- The slice at 'a' of length n holds the bytes zs. -/
structure Bys (w : World) (a : Option Addr) (n : Nat) (zs : List Int) : Prop where
  len : zs.length = n
  small : AllB zs
  place : n = 0 ∨ ∃ b off, a = some ⟨b, off, none⟩ ∧ b < w.heap.size ∧ ∀ i, i < n → w.cell? ⟨b, off + i, none⟩ = some (.int .u8 (byt zs i))

theorem byt_bd {zs : List Int} (h : AllB zs) (i : Nat) : 0 ≤ byt zs i ∧ byt zs i ≤ 255 := by
  unfold byt
  by_cases hi : i < zs.length
  · have := h (zs.getD i 0) (by simp [hi])
    exact this
  · simp [List.getD, List.getElem?_eq_none (Nat.le_of_not_lt hi)]

theorem Bys.below {w w' : World} {a : Option Addr} {n : Nat} {zs : List Int} (h : Bys w a n zs) {B : Nat} (hB : w.heap.size ≤ B) (hb : Below B w w') : Bys w' a n zs := by
  refine ⟨h.len, h.small, ?_⟩
  rcases h.place with h0 | ⟨b, off, ha, hlt, hc⟩
  · exact .inl h0
  · exact .inr ⟨b, off, ha, Nat.lt_of_lt_of_le hlt hb.size, fun i hi => (hb.cell (p := ⟨b, off + i, none⟩) (by show b < B; omega)).trans (hc i hi)⟩

theorem Bys.next {w w' : World} {a : Option Addr} {n : Nat} {zs : List Int} (h : Bys w a n zs) (hb : Below w.heap.size w w') : Bys w' a n zs := h.below (Nat.le_refl _) hb
theorem Bys.drewN {w : World} {a : Option Addr} {n : Nat} {zs : List Int} (h : Bys w a n zs) (q : Nat) : Bys (w.drewN q) a n zs :=
  h.below (Nat.le_refl _) (below_drewN (Below.refl _ _) q)

/-- Equal lists of bytes, as a bool. -/
def sameB (x y : List Int) : Bool := decide (x = y)
theorem sameB_true {x y : List Int} (h : x = y) : sameB x y = true := by simp [sameB, h]
theorem sameB_false {x y : List Int} (h : x ≠ y) : sameB x y = false := by simp [sameB, h]

theorem byt_ext {x y : List Int} (hl : x.length = y.length) (h : ∀ i, i < x.length → byt x i = byt y i) : x = y := by
  apply List.ext_getElem hl
  intro i h1 h2
  have := h i h1
  simpa [byt, List.getD, h1, h2] using this

theorem sameB_len {x y : List Int} (h : x.length ≠ y.length) : sameB x y = false := sameB_false fun e => h (by rw [e])
theorem sameB_at {x y : List Int} {i : Nat} (h : byt x i ≠ byt y i) : sameB x y = false := sameB_false fun e => h (by rw [e])

/-- A block of bytes, whole. -/
def ints (zs : List Int) : Array Value := (zs.map (Value.int .u8)).toArray
structure Blk (w : World) (g : Nat) (zs : List Int) : Prop where
  row : w.heap[g]? = some (.cells (ints zs) 5 (0, 0))

theorem Blk.lt {w : World} {g : Nat} {zs : List Int} (h : Blk w g zs) : g < w.heap.size := lt_of_block h.row
theorem Blk.cell {w : World} {g : Nat} {zs : List Int} (h : Blk w g zs) {i : Nat} (hi : i < zs.length) : w.cell? ⟨g, i, none⟩ = some (.int .u8 (byt zs i)) := by
  rw [cell_of_row w g i _ _ (0, 0) h.row]
  simp [ints, byt, List.getD, hi]
theorem Blk.free {w : World} {g : Nat} {zs : List Int} (h : Blk w g zs) (i : Nat) : w.frozen? ⟨g, i, none⟩ = false := frozen_of_row w g i _ _ h.row
theorem Blk.set {w : World} {g : Nat} {zs : List Int} (h : Blk w g zs) (i : Nat) (z : Int) : Blk (w.setCell ⟨g, i, none⟩ (.int .u8 z)) g (zs.set i z) := by
  refine ⟨?_⟩
  rw [heap_setCell_same w g i _ _ _ h.row]
  congr 2
  apply Array.ext'
  simp [ints, List.map_set]
theorem Blk.below {w w' : World} {g : Nat} {zs : List Int} (h : Blk w g zs) {B : Nat} (hB : g < B) (hb : Below B w w') : Blk w' g zs := ⟨(hb.block g hB).trans h.row⟩
theorem Blk.drewN {w : World} {g : Nat} {zs : List Int} (h : Blk w g zs) (q : Nat) : Blk (w.drewN q) g zs := ⟨h.row⟩
theorem AllB.take {zs : List Int} (h : AllB zs) (n : Nat) : AllB (zs.take n) := fun z hz => h z (List.mem_of_mem_take hz)
theorem AllB.drop {zs : List Int} (h : AllB zs) (n : Nat) : AllB (zs.drop n) := fun z hz => h z (List.mem_of_mem_drop hz)
theorem byt_take {zs : List Int} {n i : Nat} (h : i < n) : byt (zs.take n) i = byt zs i := by
  unfold byt
  simp [List.getD, h]
theorem byt_drop {zs : List Int} {n i : Nat} : byt (zs.drop n) i = byt zs (n + i) := by
  unfold byt
  simp [List.getD]
theorem byt_zero (n i : Nat) : byt (List.replicate n 0) i = 0 := by
  unfold byt
  by_cases h : i < n <;> simp [List.getD, h]
theorem byt_set {zs : List Int} {i : Nat} (h : i < zs.length) (z : Int) (j : Nat) : byt (zs.set i z) j = if j = i then z else byt zs j := by
  unfold byt
  by_cases e : j = i
  · subst e; simp [List.getD, h]
  · rw [if_neg e]; simp [List.getD, Ne.symm e]
theorem allB_byt {zs : List Int} (h : ∀ i, i < zs.length → 0 ≤ byt zs i ∧ byt zs i ≤ 255) : AllB zs := by
  intro z hz
  obtain ⟨i, hi, rfl⟩ := List.getElem_of_mem hz
  have := h i hi
  simpa [byt, List.getD, hi] using this
theorem Blk.bys {w : World} {g : Nat} {zs : List Int} (h : Blk w g zs) (hs : AllB zs) {n : Nat} (hn : n ≤ zs.length) : Bys w (some ⟨g, 0, none⟩) n (zs.take n) :=
  ⟨by simp; omega, hs.take n, .inr ⟨g, 0, rfl, h.lt, fun i hi => by rw [Nat.zero_add, byt_take hi]; exact h.cell (by omega)⟩⟩
theorem Blk.all {w : World} {g : Nat} {zs : List Int} (h : Blk w g zs) (hs : AllB zs) : Bys w (some ⟨g, 0, none⟩) zs.length zs := by
  have := h.bys hs (Nat.le_refl _)
  rwa [List.take_of_length_le (Nat.le_refl _)] at this
theorem Blk.from {w : World} {g : Nat} {zs : List Int} (h : Blk w g zs) (hs : AllB zs) (k : Nat) : Bys w (some ⟨g, k, none⟩) (zs.length - k) (zs.drop k) :=
  ⟨by simp, hs.drop k, .inr ⟨g, k, rfl, h.lt, fun i hi => by rw [byt_drop]; exact h.cell (by omega)⟩⟩

theorem Blk.bysn {w : World} {g n : Nat} {zs : List Int} (h : Blk w g zs) (hs : AllB zs) (hn : zs.length = n) : Bys w (some ⟨g, 0, none⟩) n zs := by
  subst hn
  exact h.all hs
/-- The front of a slice of bytes, and what is behind it. -/
theorem Bys.front {w : World} {a : Option Addr} {n : Nat} {zs : List Int} (h : Bys w a n zs) {k : Nat} (hk : k ≤ n) : Bys w a k (zs.take k) := by
  refine ⟨by rw [List.length_take, h.len]; omega, h.small.take k, ?_⟩
  rcases h.place with h0 | ⟨b, off, ha, hlt, hc⟩
  · exact .inl (by omega)
  · exact .inr ⟨b, off, ha, hlt, fun i hi => by rw [byt_take hi]; exact hc i (by omega)⟩
theorem Bys.rest {w : World} {b off n : Nat} {zs : List Int} (h : Bys w (some ⟨b, off, none⟩) n zs) (k : Nat) : Bys w (some ⟨b, off + k, none⟩) (n - k) (zs.drop k) := by
  refine ⟨by rw [List.length_drop, h.len], h.small.drop k, ?_⟩
  rcases h.place with h0 | ⟨b', off', ha, hlt, hc⟩
  · exact .inl (by omega)
  · cases ha
    exact .inr ⟨b, off + k, rfl, hlt, fun i hi => by rw [byt_drop, Nat.add_assoc]; exact hc (k + i) (by omega)⟩
theorem Bys.none {w : World} (a : Option Addr) : Bys w a 0 [] := ⟨rfl, (fun z hz => by cases hz), .inl rfl⟩

/-- Up to place k the one list's bytes, from there on the other's. -/
structure Mix (zs s t : List Int) (k : Nat) : Prop where
  len : zs.length = t.length
  new : ∀ j, j < k → byt zs j = byt t j
  old : ∀ j, k ≤ j → byt zs j = byt s j
theorem Mix.start {zs t : List Int} (h : zs.length = t.length) : Mix zs zs t 0 := ⟨h, fun _ h => by omega, fun _ _ => rfl⟩
theorem Mix.set {zs s t : List Int} {k : Nat} {z : Int} (h : Mix zs s t k) (hk : k < t.length) (hz : z = byt t k) : Mix (zs.set k z) s t (k + 1) := by
  have hk' : k < zs.length := by rw [h.len]; exact hk
  refine ⟨by simp [h.len], fun j hj => ?_, fun j hj => ?_⟩
  · rw [byt_set hk']
    split
    · next e => rw [e, hz]
    · exact h.new j (by omega)
  · rw [byt_set hk', if_neg (by omega)]
    exact h.old j (by omega)
theorem Mix.done {zs s t : List Int} {k : Nat} (h : Mix zs s t k) (he : ∀ j, k ≤ j → j < t.length → byt s j = byt t j) : zs = t :=
  byt_ext h.len fun j hj => by
    by_cases e : j < k
    · exact h.new j e
    · rw [h.old j (by omega)]
      exact he j (by omega) (by rw [← h.len]; exact hj)

theorem info8 : (Tryz.prog.info? 5).map (fun i => (i.zero, i.size, i.bytes)) = some (some (.int .u8 0), 1, 1) := by kernel_rfl

set_option maxRecDepth 100000 in
/-- 'make([]byte, n)': a new block of n noughts. -/
theorem wpList_mk {w : World} {ops : Array Oper} {rest : List Oper} {o : Oper} {a : Act} {Q : Exit → Act → World → Prop}
    (hg : o.guard = none) (l c : Operand) (hop : o.op = Op.makeSlice 29 l c) (kl kc : IntKind) (L C : Int) (n : Nat) (hl : a.eval l = .int kl L) (hc : a.eval c = .int kc C) (hL : L = (n : Int)) (hC : C = (n : Int)) (b2 : n ≤ 281474976710656)
    (hK : ∀ w', Blk w' w.heap.size (List.replicate n 0) → Below w.heap.size w w' → wpList Tryz.prog ops Q rest (a.put o.dst (.slice (some ⟨w.heap.size, 0, none⟩) n n)) w') :
    wpList Tryz.prog ops Q (o :: rest) a w := by
  obtain ⟨i0, hi, hz0, hz1, hz2⟩ := info_parts info8
  refine wpList_make_full w hg l c 29 hop w.heap.size 5 i0 (.int .u8 0) 1 Tryz.underlying29 hi hz0 hz1 kl kc L C n hl hc hL hC (by rw [hz2]; omega) (by unfold maxLen; omega) (Nat.le_refl _) fun w' hown hgrow => hK w' ⟨?_⟩ ((Below.refl _ _).grown hgrow (Nat.le_refl _) (fun k h => by cases h))
  rcases hown.2 with ⟨h', _⟩ | ⟨g, cap, cur, h', _, hh, _, _, hsz, htake⟩
  · simp at h'
  · simp only [Value.slice.injEq, Option.some.injEq, Addr.mk.injEq, and_true, true_and] at h'
    obtain ⟨rfl, rfl⟩ := h'
    rw [hh]
    congr 2
    apply Array.ext'
    rw [List.take_of_length_le (by rw [Array.length_toList, hsz]; exact Nat.le_refl _)] at htake
    rw [htake, show (Value.int IntKind.u8 0).cells = #[Value.int .u8 0] from rfl, Nat.mul_one, toList_madeCells_one]
    simp [ints]

theorem byt_past {zs : List Int} {i : Nat} (h : zs.length ≤ i) : byt zs i = 0 := by
  unfold byt
  simp [List.getD, List.getElem?_eq_none h]
theorem byt_app_left {x y : List Int} {i : Nat} (h : i < x.length) : byt (x ++ y) i = byt x i := by
  unfold byt
  simp [List.getD, List.getElem?_append_left h]
theorem byt_app_right {x y : List Int} (i : Nat) : byt (x ++ y) (x.length + i) = byt y i := by
  unfold byt
  simp [List.getD, List.getElem?_append_right (Nat.le_add_right _ _)]
theorem byt_pad (x : List Int) (n i : Nat) : byt (x ++ List.replicate n 0) i = byt x i := by
  by_cases h : i < x.length
  · exact byt_app_left h
  · obtain ⟨j, rfl⟩ : ∃ j, i = x.length + j := ⟨i - x.length, by omega⟩
    rw [byt_app_right, byt_zero, byt_past (Nat.le_add_right _ _)]
theorem AllB.app {x y : List Int} (hx : AllB x) (hy : AllB y) : AllB (x ++ y) := fun z hz => (List.mem_append.1 hz).elim (hx z) (hy z)
theorem AllB.zeros (n : Nat) : AllB (List.replicate n 0) := fun z hz => by rw [(List.mem_replicate.1 hz).2]; omega

/-- 'copy' of a slice of bytes onto the front of a block of the call's own that has room for it. -/
theorem wpList_cp {w : World} {ops : Array Oper} {rest : List Oper} {o : Oper} {a : Act} {Q : Exit → Act → World → Prop}
    (hgd : o.guard = none) (d s : Operand) (ho : o.op = .call { callee := .builtin .copy, args := #[d, s], argTypes := #[29, 29] })
    (g dLen dCap n c : Nat) (ad : Option Addr) (hd : a.eval d = .slice (some ⟨g, 0, none⟩) dLen dCap) (hs : a.eval s = .slice ad n c) (zs x : List Int) (hg : Blk w g zs) (hx : Bys w ad n x) (hl : zs.length = dLen) (hn : n ≤ dLen)
    (B : Nat) (w0 : World) (hb : Below B w0 w) (hB : B ≤ g)
    (hK : ∀ w', Blk w' g (x ++ zs.drop n) → Below B w0 w' → wpList Tryz.prog ops Q rest (a.put o.dst (goInt n)) w') :
    wpList Tryz.prog ops Q (o :: rest) a w := by
  have hc : (x.map (Value.int .u8)).length = n := by rw [List.length_map]; exact hx.len
  refine wpList_copy_splice hgd d s 29 29 ho 5 Tryz.underlying29 (by kernel_rfl) _ _ _ _ _ _ hd hs g 0 (zs.map (Value.int .u8)) 5 hg.row (x.map (Value.int .u8)) (by rw [hc]; exact (Nat.min_eq_left hn).symm) ?_ (by rw [hc, List.length_map]; omega) ?_ B w0 hb hB ?_
  · intro hpos
    refine ⟨rfl, ?_⟩
    rcases hx.place with h0 | ⟨b, off, rfl, _, hcell⟩
    · omega
    · refine ⟨_, rfl, fun j v hj => ?_⟩
      have hjn : j < n := by
        rcases Nat.lt_or_ge j n with h | h
        · exact h
        · rw [List.getElem?_eq_none (by omega)] at hj; cases hj
      have hv : v = .int .u8 (byt x j) := by
        rw [List.getElem?_map] at hj
        have hjx : j < x.length := by rw [hx.len]; exact hjn
        simp [List.getElem?_eq_getElem hjx] at hj
        simp [byt, List.getD, hjx, hj]
      rw [hv]
      rw [show (⟨b, off, none⟩ : Addr).add j = ⟨b, off + j, none⟩ by unfold Addr.add; split <;> simp_all]
      exact hcell j hjn
  · intro v hv
    obtain ⟨z, _, rfl⟩ := List.mem_map.1 hv
    rfl
  · intro w' hrow hbel
    rw [hc]
    refine hK w' ⟨?_⟩ hbel
    rw [hrow.out]
    congr 2
    apply Array.ext'
    simp [splice, ints, hx.len]

theorem val_int {k : IntKind} {a b : Int} (h : a = b) : Value.int k a = .int k b := by rw [h]
theorem ret_bool {b c : Bool} (h : b = c) : Ending.returned (.bool b) = .returned (.bool c) := by rw [h]
theorem ret_int {k : IntKind} {a b : Int} (h : a = b) : Ending.returned (.int k a) = .returned (.int k b) := by rw [h]

end Go.Proofs.YtinholnidchblaaGreatDoor

/-
  Appends of bytes onto a slice of the call's own; the reference's copy of bytes, by contract.
-/
namespace Go.Proofs.YtinholnidchblaaGreatDoor
open Go.RowKit

/-- The slice value v, of the call's own blocks from B on, holds the bytes zs. -/
structure Own (w : World) (B : Nat) (v : Value) (n : Nat) (zs : List Int) : Prop where
  row : w.ownsRow B 5 1 v n (zs.map (Value.int .u8))
  small : AllB zs
theorem Own.len {w : World} {B : Nat} {v : Value} {n : Nat} {zs : List Int} (h : Own w B v n zs) : zs.length = n := by simpa using h.row.1
theorem Own.form {w : World} {B : Nat} {v : Value} {n : Nat} {zs : List Int} (h : Own w B v n zs) : ∃ a c, v = .slice a n c ∧ (a = none → n = 0 ∧ c = 0) ∧ Bys w a n zs ∧ (∀ x, a = some x → B ≤ x.block ∧ x.block < w.heap.size) := by
  rcases h.row.2 with ⟨rfl, rfl⟩ | ⟨g, cap, cur, rfl, hb, hg, hnc, _, hsz, htake⟩
  · exact ⟨none, 0, rfl, (fun _ => ⟨rfl, rfl⟩), ⟨h.len, h.small, .inl rfl⟩, (fun x hx => by cases hx)⟩
  · refine ⟨some ⟨g, 0, none⟩, cap, rfl, (fun h => by cases h), ⟨h.len, h.small, .inr ⟨g, 0, rfl, lt_of_block hg, fun i hi => ?_⟩⟩, fun x hx => by cases hx; exact ⟨hb, lt_of_block hg⟩⟩
    have hl := h.len
    have hc := h.row.cellAt i (by omega)
    rw [Nat.zero_add, hc]
    simp [byt, List.getD, show i < zs.length by omega]
theorem Own.below {w w' : World} {B : Nat} {v : Value} {n : Nat} {zs : List Int} (h : Own w B v n zs) {C : Nat} (hC : w.heap.size ≤ C) (hb : Below C w w') : Own w' B v n zs :=
  ⟨h.row.kept (row := none) ⟨hb.os, hb.tape, hb.output, hb.size, fun k hk _ => hb.block k (by omega)⟩ (by cases v.ownBlock <;> simp), h.small⟩

theorem own_none (w : World) (B : Nat) (hB : B ≤ w.heap.size) : Own (w.alloc (.cells #[] 5)) B (.slice (some ⟨w.heap.size, 0, none⟩) 0 0) 0 [] :=
  ⟨World.ownsRow_lit w #[] 0 hB (Nat.zero_le _) rfl, fun z hz => by cases hz⟩

theorem blk_lit {w : World} {cs : Array Value} {zs : List Int} (h : cs = ints zs) : Blk (w.alloc (.cells cs 5)) w.heap.size zs := ⟨by rw [h]; exact heap_alloc_new w _⟩
theorem bys_one (w : World) {z : Int} (h : 0 ≤ z ∧ z ≤ 255) : Bys (w.alloc (.cells #[.int .u8 z] 5)) (some ⟨w.heap.size, 0, none⟩) 1 [z] :=
  (blk_lit (zs := [z]) rfl).all (fun y hy => by rw [List.mem_singleton.1 hy]; exact h)

theorem bys_lit {w : World} {cs : Array Value} {g n : Nat} {zs : List Int} (hg : g = w.heap.size) (hn : zs.length = n) (h : cs = ints zs) (hs : AllB zs) : Bys (w.alloc (.cells cs 5)) (some ⟨g, 0, none⟩) n zs := by
  subst hg hn
  exact (blk_lit h).all hs
theorem Bys.alloc {w : World} {a : Option Addr} {n : Nat} {zs : List Int} (h : Bys w a n zs) (o : Obj) : Bys (w.alloc o) a n zs :=
  h.below (Nat.le_refl _) ((Below.refl _ _).alloc (Nat.le_refl _) _)
theorem bys_eq (w : World) {y z : Int} (e : y = z) (h : 0 ≤ z ∧ z ≤ 255) : Bys (w.alloc (.cells #[.int .u8 y] 5)) (some ⟨w.heap.size, 0, none⟩) 1 [z] := by
  subst e
  exact bys_one w h

theorem alloc_lt {w : World} (o : Obj) : (w.alloc o).heap.size = w.heap.size + 1 := by simp

/-- 'append(s, x...)', s of the call's own, x any slice of bytes. -/
theorem wpList_ap {w : World} {ops : Array Oper} {rest : List Oper} {o : Oper} {a : Act} {Q : Exit → Act → World → Prop} (hgd : o.guard = none) (s x : Operand)
    (ho : o.op = .call { callee := .builtin .append, args := #[s, x], argTypes := #[29, 29] })
    (B : Nat) (v : Value) (n : Nat) (zs : List Int) (hs : a.eval s = v) (hown : Own w B v n zs) (ad : Option Addr) (m c : Nat) (ys : List Int) (hx : a.eval x = .slice ad m c) (hy : Bys w ad m ys) (hnil : ad = none → m = 0 ∧ c = 0)
    (hnm : n + m ≤ 140737488355328) (hB : B ≤ w.heap.size) (w0 : World) (hb : Below B w0 w)
    (h : ∀ v' w', Own w' B v' (n + m) (zs ++ ys) → Below B w0 w' → wpList Tryz.prog ops Q rest (a.put o.dst v') w') : wpList Tryz.prog ops Q (o :: rest) a w := by
  obtain ⟨i0, hi, hz0, hz1, hz2⟩ := info_parts info8
  cases ad with
  | none =>
    obtain ⟨rfl, rfl⟩ := hnil rfl
    obtain rfl : ys = [] := List.eq_nil_of_length_eq_zero hy.len
    exact wpList_append_own_none hgd s x 29 ho B 5 i0 1 Tryz.underlying29 hi v n _ hs hown.row hx (h v w (by simpa using hown) hb)
  | some p =>
    refine wpList_append_own w hgd s x 29 ho B 5 i0 (.int .u8 0) 1 1 Tryz.underlying29 hi hz0 hz1 hz2 rfl (by decide) v n _ hs hown.row p m c (ys.map (Value.int .u8)) hx (by simp [hy.len]) ?_ ?_ (by unfold maxLen; omega) (by omega) hB ?_
    · intro j u hj
      have hjm : j < m := by
        rcases Nat.lt_or_ge j m with h | h
        · exact h
        · rw [List.getElem?_eq_none (by simp [hy.len]; omega)] at hj; cases hj
      have hv : u = .int .u8 (byt ys j) := by
        rw [List.getElem?_map] at hj
        have hjx : j < ys.length := by rw [hy.len]; exact hjm
        simp [List.getElem?_eq_getElem hjx] at hj
        simp [byt, List.getD, hjx, hj]
      rcases hy.place with h0 | ⟨b, off, hp, _, hcell⟩
      · omega
      · cases hp
        rw [hv, show (⟨b, off, none⟩ : Addr).add j = ⟨b, off + j, none⟩ by unfold Addr.add; split <;> simp_all]
        exact hcell j hjm
    · intro u hu
      obtain ⟨z, _, rfl⟩ := List.mem_map.1 hu
      rfl
    · intro v' w' hown' hgrow _
      refine h v' w' ⟨by rw [List.map_append]; exact hown', hown.small.app hy.small⟩ (hb.grown hgrow hB fun k hk => (hown.row.lt k hk).1)

end Go.Proofs.YtinholnidchblaaGreatDoor

/-
  The reference's comparison of two slices of bytes: its contract.
-/
namespace Go.Proofs.YtinholnidchblaaGreatDoor
open Go.RowKit

def Front (x y : List Int) (k : Nat) : Prop := ∀ j, j < k → byt x j = byt y j
theorem Front.zero (x y : List Int) : Front x y 0 := fun _ h => by omega
theorem Front.succ {x y : List Int} {k : Nat} (h : Front x y k) (e : byt x k = byt y k) : Front x y (k + 1) := fun j hj => by
  by_cases hk : j = k
  · rw [hk]; exact e
  · exact h j (by omega)
theorem Front.all {x y : List Int} {n : Nat} (hx : x.length = n) (hy : y.length = n) (h : Front x y n) : sameB x y = true :=
  sameB_true (byt_ext (by omega) fun i hi => h i (by omega))

set_option maxHeartbeats 800000 in
theorem same_any (a b : Option Addr) (la ca lb cb : Nat) (x y : List Int) (w : World) (hx : Bys w a la x) (hy : Bys w b lb y) (hn : la ≤ 1000000000000) :
    Calls Tryz.prog 23 #[.slice a la ca, .slice b lb cb] w fun e w' => e = .returned (.bool (sameB x y)) ∧ ∃ q, w' = w.drewN q := by
  by_cases hl : la = lb
  · subst hl
    go_enter Tryz.func23, Tryz.ntmps23
    go_wp2
    go_loopw [5] (fun i wr => ∃ k q : Nat, k ≤ la ∧ i = .int .i64 k ∧ wr = w.drewN q ∧ Front x y k) (fun i _ => la - (RowKit.intOf i).toNat)
    case atStart => exact ⟨0, 0, Nat.zero_le _, rfl, rfl, Front.zero _ _⟩
    case round =>
      obtain ⟨k, q, hk, rfl, rfl, hf⟩ := hrel
      by_cases hlt : k < la
      · rcases hx.place with h0 | ⟨ba, oa, rfl, _, hca⟩
        · omega
        rcases hy.place with h0 | ⟨bb, ob, rfl, _, hcb⟩
        · omega
        have g1 := hca k hlt
        have g2 := hcb k hlt
        clear hca hcb
        go_wp2
        go_quiet (fail)
        go_wp2
        · have hs : Hid (sameB x y = false) := sameB_at (by simpa using (by assumption : (byt x k != byt y k) = true))
          clear hx hy hf
          go_ret
          exact ⟨ret_bool hs.out.symm, q + nq, by rw [World.drewN_drewN]⟩
        · go_roundw
          case rel => exact ⟨k + 1, q + nq, by omega, by go_num, rfl, hf.succ (by simpa using (by assumption : (byt x k != byt y k) = false))⟩
          case measure => simp [RowKit.intOf]; omega
      · obtain rfl : k = la := by omega
        have hs : Hid (sameB x y = true) := Front.all hx.len hy.len hf
        clear hx hy hf
        go_wp2
        go_ret
        exact ⟨ret_bool hs.out.symm, q, rfl⟩
  · have hs : sameB x y = false := sameB_len (by rw [hx.len, hy.len]; exact hl)
    have hne : ((la : Int) != (lb : Int)) = true := by simp; omega
    rw [hs]
    clear hs hx hy
    go_enter Tryz.func23, Tryz.ntmps23
    go_wp2
    go_ret
    exact ⟨rfl, 0, rfl⟩

theorem same_eq (a b : Option Addr) (n ca cb : Nat) (x y : List Int) (w : World) (hx : Bys w a n x) (hy : Bys w b n y) (hn : n ≤ 1000000000000) (e : x = y) :
    Calls Tryz.prog 23 #[.slice a n ca, .slice b n cb] w fun e w' => e = .returned (.bool true) ∧ Below w.heap.size w w' := by
  have := same_any a b n ca n cb x y w hx hy hn
  rw [sameB_true e] at this
  exact this.mono fun e w' ⟨he, q, hw⟩ => ⟨he, hw ▸ below_drewN (Below.refl _ _) q⟩

end Go.Proofs.YtinholnidchblaaGreatDoor

/-
  Pieces: slices of bytes with their room, and rows of them.
-/
namespace Go.Proofs.YtinholnidchblaaGreatDoor
open Go.RowKit

/-- The slice at a, of n bytes and room c, holds zs. -/
structure Pin (w : World) (a : Option Addr) (n c : Nat) (zs : List Int) : Prop where
  bys : Bys w a n zs
  nil : a = none → n = 0 ∧ c = 0
  cap : n ≤ c
  max : c ≤ 9223372036854775807
theorem Pin.below {w w' : World} {a : Option Addr} {n c : Nat} {zs : List Int} (h : Pin w a n c zs) {B : Nat} (hB : w.heap.size ≤ B) (hb : Below B w w') : Pin w' a n c zs := ⟨h.bys.below hB hb, h.nil, h.cap, h.max⟩
theorem Pin.next {w w' : World} {a : Option Addr} {n c : Nat} {zs : List Int} (h : Pin w a n c zs) (hb : Below w.heap.size w w') : Pin w' a n c zs := h.below (Nat.le_refl _) hb
theorem Pin.drewN {w : World} {a : Option Addr} {n c : Nat} {zs : List Int} (h : Pin w a n c zs) (q : Nat) : Pin (w.drewN q) a n c zs := ⟨h.bys.drewN q, h.nil, h.cap, h.max⟩
theorem Pin.alloc {w : World} {a : Option Addr} {n c : Nat} {zs : List Int} (h : Pin w a n c zs) (o : Obj) : Pin (w.alloc o) a n c zs := ⟨h.bys.alloc o, h.nil, h.cap, h.max⟩
theorem Pin.zero (w : World) : Pin w none 0 0 [] := ⟨Bys.none _, fun _ => ⟨rfl, rfl⟩, Nat.le_refl _, by omega⟩
theorem Pin.len {w : World} {a : Option Addr} {n c : Nat} {zs : List Int} (h : Pin w a n c zs) : zs.length = n := h.bys.len
theorem Blk.pin {w : World} {g c : Nat} {zs : List Int} (h : Blk w g zs) (hs : AllB zs) {n : Nat} (hn : zs.length = n) (hc : n ≤ c) (hm : c ≤ 9223372036854775807) : Pin w (some ⟨g, 0, none⟩) n c zs :=
  ⟨h.bysn hs hn, (fun h => by cases h), hc, hm⟩
theorem Own.pin {w : World} {B : Nat} {v : Value} {n : Nat} {zs : List Int} (h : Own w B v n zs) : ∃ a c, v = .slice a n c ∧ Pin w a n c zs ∧ (∀ x, a = some x → B ≤ x.block ∧ x.block < w.heap.size) := by
  obtain ⟨a, c, rfl, h1, h2, h3⟩ := h.form
  refine ⟨a, c, rfl, ⟨h2, h1, ?_, ?_⟩, h3⟩
  · rcases h.row.2 with ⟨e, _⟩ | ⟨g, cap, cur, e, hb, hg, hnc, hm, hsz, htake⟩
    · cases e; exact Nat.le_refl _
    · cases e; exact hnc
  · rcases h.row.2 with ⟨e, _⟩ | ⟨g, cap, cur, e, hb, hg, hnc, hm, hsz, htake⟩
    · cases e; omega
    · cases e; unfold maxLen at hm; omega
/-- The front of a piece, and what is behind it. -/
theorem Pin.front {w : World} {a : Option Addr} {n c : Nat} {zs : List Int} (h : Pin w a n c zs) {k : Nat} (hk : k ≤ n) (h0 : a = none → k = 0) : Pin w a k c (zs.take k) :=
  ⟨h.bys.front hk, fun e => ⟨h0 e, (h.nil e).2⟩, Nat.le_trans hk h.cap, h.max⟩
theorem Pin.rest {w : World} {b off n c : Nat} {zs : List Int} (h : Pin w (some ⟨b, off, none⟩) n c zs) (k : Nat) : Pin w (some ⟨b, off + k, none⟩) (n - k) (c - k) (zs.drop k) :=
  ⟨h.bys.rest k, (fun e => by cases e), Nat.sub_le_sub_right h.cap k, Nat.le_trans (Nat.sub_le _ _) h.max⟩
theorem Pin.at {w : World} {a : Option Addr} {n c : Nat} {zs : List Int} (h : Pin w a n c zs) (hn : 0 < n) : ∃ b off, a = some ⟨b, off, none⟩ ∧ b < w.heap.size ∧ ∀ i, i < n → w.cell? ⟨b, off + i, none⟩ = some (.int .u8 (byt zs i)) := by
  rcases h.bys.place with h0 | ⟨b, off, e, hlt, hc⟩
  · omega
  · exact ⟨b, off, e, hlt, hc⟩

/-- A piece that a call answers. -/
def RetS (w0 : World) (zs : List Int) (e : Ending) (w' : World) : Prop := ∃ a n c, e = .returned (.slice a n c) ∧ Pin w' a n c zs ∧ Below w0.heap.size w0 w'
/-- A piece and a bool. -/
def RetT (w0 : World) (zs : List Int) (ok : Bool) (e : Ending) (w' : World) : Prop := ∃ a n c, e = .returned (.tuple #[.slice a n c, .bool ok]) ∧ Pin w' a n c zs ∧ Below w0.heap.size w0 w'
/-- A piece that is new, and a bool. -/
def RetN (w0 : World) (zs : List Int) (ok : Bool) (e : Ending) (w' : World) : Prop :=
  ∃ a n c, e = .returned (.tuple #[.slice a n c, .bool ok]) ∧ Pin w' a n c zs ∧ (∀ x, a = some x → w0.heap.size ≤ x.block) ∧ Below w0.heap.size w0 w'
theorem RetN.t {w0 w' : World} {zs : List Int} {ok : Bool} {e : Ending} (h : RetN w0 zs ok e w') : RetT w0 zs ok e w' := by
  obtain ⟨a, n, c, he, hp, _, hb⟩ := h
  exact ⟨a, n, c, he, hp, hb⟩
theorem RetS.nil (w : World) : RetS w [] (.returned (.slice none 0 0)) w := ⟨_, _, _, rfl, Pin.zero _, Below.refl _ _⟩
theorem RetT.nil (w : World) (ok : Bool) : RetT w [] ok (.returned (.tuple #[.slice none 0 0, .bool ok])) w := ⟨_, _, _, rfl, Pin.zero _, Below.refl _ _⟩
theorem RetS.own {w0 w' : World} {v : Value} {n : Nat} {zs : List Int} (h : Own w' w0.heap.size v n zs) (hb : Below w0.heap.size w0 w') : RetS w0 zs (.returned v) w' := by
  obtain ⟨a, c, rfl, hp, _⟩ := h.pin
  exact ⟨_, _, _, rfl, hp, hb⟩
theorem RetT.own {w0 w' : World} {v : Value} {n : Nat} {zs : List Int} {ok : Bool} (h : Own w' w0.heap.size v n zs) (hb : Below w0.heap.size w0 w') : RetT w0 zs ok (.returned (.tuple #[v, .bool ok])) w' := by
  obtain ⟨a, c, rfl, hp, _⟩ := h.pin
  exact ⟨_, _, _, rfl, hp, hb⟩

/-- A slice of the call's own that holds zs. -/
def ConPost (w : World) (zs : List Int) (e : Ending) (w' : World) : Prop := ∃ v, e = .returned v ∧ Own w' w.heap.size v zs.length zs ∧ Below w.heap.size w w'
theorem Own.setLow {w : World} {B : Nat} {v : Value} {n : Nat} {zs : List Int} (h : Own w B v n zs) {p : Addr} (hp : p.block < B) (u : Value) : Own (w.setCell p u) B v n zs := ⟨ownsRow_setCell_below h.row hp u, h.small⟩

theorem Bys.grown {w w' : World} {a : Option Addr} {n : Nat} {zs : List Int} (h : Bys w a n zs) {row : Option Nat} (hg : w.grownBy w' row) (hne : n = 0 ∨ ∀ x, a = some x → some x.block ≠ row) : Bys w' a n zs := by
  refine ⟨h.len, h.small, ?_⟩
  rcases h.place with h0 | ⟨b, off, e, hlt, hc⟩
  · exact .inl h0
  rcases hne with h0 | hne
  · exact .inl h0
  exact .inr ⟨b, off, e, Nat.lt_of_lt_of_le hlt hg.size, fun i hi => hg.cell (hc i hi) (hne ⟨b, off, Option.none⟩ e)⟩
theorem Own.lo {w : World} {B : Nat} {a : Option Addr} {n c m : Nat} {zs : List Int} (h : Own w B (.slice a n c) m zs) : ∀ x, a = some x → B ≤ x.block ∧ x.block < w.heap.size := by
  obtain ⟨a', c', e, _, h3⟩ := h.pin
  cases e
  exact h3
/-- 'append(s, x...)', s of the call's own, x any slice of bytes; what lies in other blocks is as it was. -/
theorem wpList_ap2 {w : World} {ops : Array Oper} {rest : List Oper} {o : Oper} {a : Act} {Q : Exit → Act → World → Prop} (hgd : o.guard = none) (s x : Operand)
    (ho : o.op = .call { callee := .builtin .append, args := #[s, x], argTypes := #[29, 29] })
    (B : Nat) (v : Value) (n : Nat) (zs : List Int) (hs : a.eval s = v) (hown : Own w B v n zs) (p : Addr) (m c : Nat) (ys : List Int) (hx : a.eval x = .slice (some p) m c) (hy : Bys w (some p) m ys)
    (hnm : n + m ≤ 140737488355328) (hB : B ≤ w.heap.size) (w0 : World) (hb : Below B w0 w)
    (h : ∀ v' w', Own w' B v' (n + m) (zs ++ ys) → Below B w0 w' → (∀ a n zs, Bys w a n zs → (n = 0 ∨ ∀ x, a = some x → some x.block ≠ v.ownBlock) → Bys w' a n zs) → wpList Tryz.prog ops Q rest (a.put o.dst v') w') : wpList Tryz.prog ops Q (o :: rest) a w := by
  obtain ⟨i0, hi, hz0, hz1, hz2⟩ := info_parts info8
  refine wpList_append_own w hgd s x 29 ho B 5 i0 (.int .u8 0) 1 1 Tryz.underlying29 hi hz0 hz1 hz2 rfl (by decide) v n _ hs hown.row p m c (ys.map (Value.int .u8)) hx (by simp [hy.len]) ?_ ?_ (by unfold maxLen; omega) (by omega) hB ?_
  · intro j u hj
    have hjm : j < m := by
      rcases Nat.lt_or_ge j m with h | h
      · exact h
      · rw [List.getElem?_eq_none (by simp [hy.len]; omega)] at hj; cases hj
    have hv : u = .int .u8 (byt ys j) := by
      rw [List.getElem?_map] at hj
      have hjx : j < ys.length := by rw [hy.len]; exact hjm
      simp [List.getElem?_eq_getElem hjx] at hj
      simp [byt, List.getD, hjx, hj]
    rcases hy.place with h0 | ⟨b, off, hp, _, hcell⟩
    · omega
    · cases hp
      rw [hv, show (⟨b, off, none⟩ : Addr).add j = ⟨b, off + j, none⟩ by unfold Addr.add; split <;> simp_all]
      exact hcell j hjm
  · intro u hu
    obtain ⟨z, _, rfl⟩ := List.mem_map.1 hu
    rfl
  · intro v' w' hown' hgrow _
    exact h v' w' ⟨by rw [List.map_append]; exact hown', hown.small.app hy.small⟩ (hb.grown hgrow hB fun k hk => (hown.row.lt k hk).1) fun a n zs hp hne => hp.grown hgrow hne

/-- A piece, as a row has it. -/
structure Pc where
  a : Option Addr
  n : Nat
  c : Nat
  zs : List Int
instance : Inhabited Pc := ⟨⟨none, 0, 0, []⟩⟩
/-- A row of n pieces. -/
structure Rws (w : World) (a : Option Addr) (n : Nat) (f : Nat → Pc) : Prop where
  place : n = 0 ∨ ∃ b off, a = some ⟨b, off, none⟩ ∧ b < w.heap.size ∧ ∀ i, i < n → w.cell? ⟨b, off + i, none⟩ = some (.slice (f i).a (f i).n (f i).c)
  each : ∀ i, i < n → Pin w (f i).a (f i).n (f i).c (f i).zs
theorem Rws.below {w w' : World} {a : Option Addr} {n : Nat} {f : Nat → Pc} (h : Rws w a n f) {B : Nat} (hB : w.heap.size ≤ B) (hb : Below B w w') : Rws w' a n f := by
  refine ⟨?_, fun i hi => (h.each i hi).below hB hb⟩
  rcases h.place with h0 | ⟨b, off, e, hlt, hc⟩
  · exact .inl h0
  · exact .inr ⟨b, off, e, Nat.lt_of_lt_of_le hlt hb.size, fun i hi => (hb.cell (p := ⟨b, off + i, none⟩) (by show b < B; omega)).trans (hc i hi)⟩
theorem Rws.next {w w' : World} {a : Option Addr} {n : Nat} {f : Nat → Pc} (h : Rws w a n f) (hb : Below w.heap.size w w') : Rws w' a n f := h.below (Nat.le_refl _) hb
theorem Rws.drewN {w : World} {a : Option Addr} {n : Nat} {f : Nat → Pc} (h : Rws w a n f) (q : Nat) : Rws (w.drewN q) a n f := h.next (below_drewN (Below.refl _ _) q)
theorem Rws.at {w : World} {a : Option Addr} {n : Nat} {f : Nat → Pc} (h : Rws w a n f) {i : Nat} (hi : i < n) :
    ∃ b off x k c zs, a = some ⟨b, off, none⟩ ∧ b < w.heap.size ∧ w.cell? ⟨b, off + i, none⟩ = some (.slice x k c) ∧ Pin w x k c zs ∧ (f i).zs = zs ∧ (f i).n = k := by
  rcases h.place with h0 | ⟨b, off, e, hlt, hc⟩
  · omega
  · exact ⟨b, off, _, _, _, _, e, hlt, hc i hi, h.each i hi, rfl, rfl⟩

/-- What the first k pieces hold, one behind the other. -/
def catL (f : Nat → Pc) : Nat → List Int
  | 0 => []
  | k + 1 => catL f k ++ (f k).zs
theorem catL_le (f : Nat → Pc) {k n : Nat} (h : k ≤ n) : (catL f k).length ≤ (catL f n).length := by
  induction n with
  | zero => rw [Nat.le_zero.1 h]; exact Nat.le_refl _
  | succ n ih =>
    rcases Nat.lt_or_ge k (n + 1) with h1 | h1
    · exact Nat.le_trans (ih (by omega)) (by simp [catL])
    · rw [Nat.le_antisymm h h1]; exact Nat.le_refl _
theorem catL_len (f : Nat → Pc) (k : Nat) : (catL f (k + 1)).length = (catL f k).length + (f k).zs.length := by simp [catL]

end Go.Proofs.YtinholnidchblaaGreatDoor

/-
  Entries, plainly: what is a name, which entries are right, what Find, Put and Cut answer.
-/
namespace Go.Proofs.YtinholnidchblaaGreatDoor
set_option linter.unusedVariables false
set_option linter.unusedSimpArgs false

/-- A byte that a name may have. -/
def okB (b : UInt8) : Bool := !(b == 0) && !(b == 47)
/-- Is it a name? -/
def nmB (l : List UInt8) : Bool := decide (1 ≤ l.length) && decide (l.length ≤ 12) && !(l == [46]) && !(l == [46, 46]) && l.all okB
/-- The text of bytes l. -/
def tx (l : List UInt8) : ByteArray := ⟨l.toArray⟩
theorem tx_data (s : ByteArray) : tx s.data.toList = s := Lib.mk_data s
theorem data_tx (l : List UInt8) : (tx l).data.toList = l := by simp [tx]
/-- An entry. -/
structure En where
  s : ByteArray
  i : Int
deriving DecidableEq
instance : Inhabited En := ⟨⟨ByteArray.empty, 0⟩⟩
theorem En.ext' {x y : En} (h : x.s = y.s) (k : x.i = y.i) : x = y := by
  cases x; cases y; simp at h k; simp [h, k]
/-- The entry at a place. -/
def eat (L : List En) (i : Nat) : En := L.getD i default
theorem eat_get {L : List En} {i : Nat} (h : i < L.length) : L[i]? = some (eat L i) := by simp [eat, List.getD, h]
theorem eat_mem {L : List En} {i : Nat} (h : i < L.length) : eat L i ∈ L := by simp [eat, List.getD, h]
/-- Is the one text below the other? -/
def blt (x y : ByteArray) : Bool := Op.bytesLess x.toList y.toList
/-- Are they the same? -/
def beqS (x y : ByteArray) : Bool := x.toList == y.toList
theorem beqS_iff {x y : ByteArray} : beqS x y = true ↔ x = y := by
  unfold beqS
  rw [beq_iff_eq, Lib.toList_data, Lib.toList_data]
  constructor
  · intro h
    have := congrArg tx h
    rwa [tx_data, tx_data] at this
  · intro h; rw [h]
theorem beqS_refl (x : ByteArray) : beqS x x = true := beqS_iff.2 rfl
theorem bl_irrefl : ∀ l : List UInt8, Op.bytesLess l l = false
  | [] => rfl
  | b :: l => by
    rw [Op.bytesLess, bl_irrefl l, Bool.and_false, Bool.or_false, decide_eq_false_iff_not]
    exact UInt8.lt_irrefl b
theorem bl_trans : ∀ {x y z : List UInt8}, Op.bytesLess x y = true → Op.bytesLess y z = true → Op.bytesLess x z = true
  | [], [], _, h, _ => by cases h
  | _ :: _, [], _, h, _ => by cases h
  | _, _ :: _, [], _, k => by cases k
  | [], _ :: _, _ :: _, _, _ => rfl
  | a :: x, b :: y, c :: z, h, k => by
    rw [Op.bytesLess, Bool.or_eq_true, Bool.and_eq_true, decide_eq_true_eq, beq_iff_eq] at *
    rcases h with h | ⟨rfl, h⟩
    · rcases k with k | ⟨rfl, k⟩
      · exact .inl (UInt8.lt_trans h k)
      · exact .inl h
    · rcases k with k | ⟨rfl, k⟩
      · exact .inl k
      · exact .inr ⟨rfl, bl_trans h k⟩
theorem bl_total : ∀ {x y : List UInt8}, Op.bytesLess x y = false → Op.bytesLess y x = false → x = y
  | [], [], _, _ => rfl
  | [], _ :: _, h, _ => by cases h
  | _ :: _, [], _, k => by cases k
  | a :: x, b :: y, h, k => by
    rw [Op.bytesLess, Bool.or_eq_false_iff, decide_eq_false_iff_not] at h k
    have e : a = b := UInt8.le_antisymm (UInt8.not_lt.1 k.1) (UInt8.not_lt.1 h.1)
    subst e
    have h2 : Op.bytesLess x y = false := by simpa using h.2
    have k2 : Op.bytesLess y x = false := by simpa using k.2
    rw [bl_total h2 k2]
theorem blt_irrefl (x : ByteArray) : blt x x = false := bl_irrefl _
theorem blt_trans {x y z : ByteArray} (h : blt x y = true) (k : blt y z = true) : blt x z = true := bl_trans h k
theorem blt_total {x y : ByteArray} (h : blt x y = false) (k : blt y x = false) : x = y := by
  have e := bl_total h k
  exact beqS_iff.1 (by unfold beqS; rw [e]; exact beq_self_eq_true _)
theorem blt_asymm {x y : ByteArray} (h : blt x y = true) : blt y x = false := by
  cases k : blt y x with
  | false => rfl
  | true => have := blt_trans h k; rw [blt_irrefl] at this; cases this
theorem blt_ne {x y : ByteArray} (h : blt x y = true) : x ≠ y := fun e => by rw [e, blt_irrefl] at h; cases h
/-- May it be an entry? -/
def okE (e : En) : Bool := nmB e.s.data.toList && decide (1 ≤ e.i) && decide (e.i ≤ 56)
/-- Do names rise? -/
def ris : List En → Bool
  | [] => true
  | [_] => true
  | x :: y :: r => blt x.s y.s && ris (y :: r)
/-- Are these the entries of a directory? -/
def rgt (L : List En) : Bool := decide (L.length ≤ 64) && L.all okE && ris L
/-- Ahead of place k each name is above the one ahead of it. -/
def RisTo (L : List En) (k : Nat) : Prop := ∀ j, j + 1 < k → blt (eat L j).s (eat L (j + 1)).s = true
theorem RisTo.one (L : List En) : RisTo L 1 := fun j h => by omega
theorem RisTo.zero (L : List En) : RisTo L 0 := fun j h => by omega
theorem RisTo.succ {L : List En} {k : Nat} (h : RisTo L k) (e : ∀ j, j + 1 = k → blt (eat L j).s (eat L (j + 1)).s = true) : RisTo L (k + 1) := fun j hj => by
  by_cases hk : j + 1 = k
  · exact e j hk
  · exact h j (by omega)
theorem ris_iff : ∀ L : List En, ris L = true ↔ RisTo L L.length
  | [] => ⟨fun _ => RisTo.zero _, fun _ => rfl⟩
  | [x] => ⟨fun _ => RisTo.one _, fun _ => rfl⟩
  | x :: y :: r => by
    rw [ris, Bool.and_eq_true, ris_iff (y :: r)]
    constructor
    · rintro ⟨h, k⟩ j hj
      cases j with
      | zero => exact h
      | succ j =>
        have := k j (by simpa using hj)
        simpa [eat] using this
    · intro h
      refine ⟨h 0 (by simp), fun j hj => ?_⟩
      have := h (j + 1) (by simpa using hj)
      simpa [eat] using this
theorem RisTo.ris {L : List En} (h : RisTo L L.length) : ris L = true := (ris_iff L).2 h
theorem not_ris {L : List En} {k : Nat} (hk : k + 1 < L.length) (e : blt (eat L k).s (eat L (k + 1)).s = false) : ris L = false := by
  cases h : ris L with
  | false => rfl
  | true => have := (ris_iff L).1 h k hk; rw [e] at this; cases this
/-- The entries ahead of place k may be ones. -/
def OkEs (L : List En) (k : Nat) : Prop := ∀ j, j < k → okE (eat L j) = true
theorem OkEs.zero (L : List En) : OkEs L 0 := fun j h => by omega
theorem OkEs.succ {L : List En} {k : Nat} (h : OkEs L k) (e : okE (eat L k) = true) : OkEs L (k + 1) := fun j hj => by
  by_cases hk : j = k
  · rw [hk]; exact e
  · exact h j (by omega)
theorem OkEs.all {L : List En} (h : OkEs L L.length) : L.all okE = true := by
  rw [List.all_eq_true]
  intro x hx
  obtain ⟨i, hi, rfl⟩ := List.getElem_of_mem hx
  have := h i hi
  simpa [eat, List.getD, hi] using this
theorem not_allE {L : List En} {k : Nat} (hk : k < L.length) (e : okE (eat L k) = false) : L.all okE = false := by
  rw [List.all_eq_false]
  refine ⟨eat L k, eat_mem hk, by rw [e]; decide⟩
theorem rgt_long {L : List En} (h : 64 < L.length) : rgt L = false := by unfold rgt; rw [decide_eq_false (by omega)]; rfl
theorem rgt_bad {L : List En} (h : L.all okE = false) : rgt L = false := by unfold rgt; rw [h, Bool.and_false]; rfl
theorem rgt_fall {L : List En} (h : ris L = false) : rgt L = false := by unfold rgt; rw [h, Bool.and_false]
theorem rgt_yes {L : List En} (h : L.length ≤ 64) (k : L.all okE = true) (r : ris L = true) : rgt L = true := by unfold rgt; rw [decide_eq_true h, k, r]; rfl
theorem rgt_all {L : List En} (h : rgt L = true) : L.length ≤ 64 ∧ L.all okE = true ∧ ris L = true := by
  unfold rgt at h
  rw [Bool.and_eq_true, Bool.and_eq_true, decide_eq_true_eq] at h
  exact ⟨h.1.1, h.1.2, h.2⟩

/-- The first place whose entry isn't below n; how many there are, if there is none. -/
def efix (L : List En) (n : ByteArray) : Nat := L.findIdx fun e => !(blt e.s n)
/-- Has it that name? -/
def ehas (L : List En) (n : ByteArray) : Bool := decide (efix L n < L.length) && beqS (eat L (efix L n)).s n
theorem efix_le (L : List En) (n : ByteArray) : efix L n ≤ L.length := List.findIdx_le_length
/-- All ahead of place k are below n. -/
def LowTo (L : List En) (n : ByteArray) (k : Nat) : Prop := ∀ j, j < k → blt (eat L j).s n = true
theorem LowTo.zero (L : List En) (n : ByteArray) : LowTo L n 0 := fun j h => by omega
theorem LowTo.succ {L : List En} {n : ByteArray} {k : Nat} (h : LowTo L n k) (e : blt (eat L k).s n = true) : LowTo L n (k + 1) := fun j hj => by
  by_cases hk : j = k
  · rw [hk]; exact e
  · exact h j (by omega)
theorem LowTo.here {L : List En} {n : ByteArray} {k : Nat} (h : LowTo L n k) (hk : k < L.length) (e : blt (eat L k).s n = false) : efix L n = k := by
  unfold efix
  rw [List.findIdx_eq hk]
  refine ⟨?_, fun j hj => ?_⟩
  · have : L[k] = eat L k := by simp [eat, List.getD, hk]
    rw [this, e]; rfl
  · have : L[j] = eat L j := by simp [eat, List.getD, show j < L.length by omega]
    rw [this, h j hj]; rfl
theorem LowTo.none {L : List En} {n : ByteArray} (h : LowTo L n L.length) : efix L n = L.length := by
  unfold efix
  rw [List.findIdx_eq_length]
  intro x hx
  obtain ⟨i, hi, rfl⟩ := List.getElem_of_mem hx
  have := h i hi
  have e : L[i] = eat L i := by simp [eat, List.getD, hi]
  rw [e, this]; rfl
theorem efix_low (L : List En) (n : ByteArray) : LowTo L n (efix L n) := fun j hj => by
  have hl : j < L.length := Nat.lt_of_lt_of_le hj (efix_le L n)
  have := List.not_of_lt_findIdx hj
  have e : L[j] = eat L j := by simp [eat, List.getD, hl]
  rw [e] at this
  simpa using this
theorem efix_not {L : List En} {n : ByteArray} (h : efix L n < L.length) : blt (eat L (efix L n)).s n = false := by
  have h' : L.findIdx (fun e => !(blt e.s n)) < L.length := h
  have := List.findIdx_getElem (w := h')
  simp only [eat, List.getD, efix, List.getElem?_eq_getElem h', Option.getD_some]
  simpa using this
theorem ehas_none {L : List En} {n : ByteArray} (h : efix L n = L.length) : ehas L n = false := by unfold ehas; rw [decide_eq_false (by omega)]; rfl
theorem ehas_at {L : List En} {n : ByteArray} (h : efix L n < L.length) : ehas L n = beqS (eat L (efix L n)).s n := by unfold ehas; rw [decide_eq_true h]; rfl
/-- The list with this entry. -/
def eput (L : List En) (e : En) : List En := L.take (efix L e.s) ++ e :: L.drop (efix L e.s + if ehas L e.s then 1 else 0)
theorem eput_has {L : List En} {e : En} (h : ehas L e.s = true) : eput L e = L.set (efix L e.s) e := by
  have hl : efix L e.s < L.length := by
    unfold ehas at h
    rw [Bool.and_eq_true, decide_eq_true_eq] at h
    exact h.1
  unfold eput
  rw [h, List.set_eq_take_append_cons_drop, if_pos hl]
  rfl
theorem eput_not {L : List En} {e : En} (h : ehas L e.s = false) : eput L e = L.take (efix L e.s) ++ e :: L.drop (efix L e.s) := by
  unfold eput
  rw [h]
  rfl
/-- The list without the entry of this name. -/
def ecut (L : List En) (n : ByteArray) : List En := L.filter fun e => !(beqS e.s n)
end Go.Proofs.YtinholnidchblaaGreatDoor

/-
  What it is for a call to answer a slice that holds given bytes; worlds of which only some blocks have turned.
-/
namespace Go.Proofs.YtinholnidchblaaGreatDoor
open Go.RowKit

structure SliceOf (w0 : World) (zs : List Int) (n : Nat) (a : Option Addr) (c : Nat) (w' : World) : Prop where
  bys : Bys w' a n zs
  nil : a = none → n = 0 ∧ c = 0
  bel : Below w0.heap.size w0 w'
/-- A slice that holds zs. -/
def RetB (w0 : World) (zs : List Int) (e : Ending) (w' : World) : Prop := ∃ a c, e = .returned (.slice a zs.length c) ∧ SliceOf w0 zs zs.length a c w'
theorem RetB.own {w0 w' : World} {v : Value} {n : Nat} {zs : List Int} (h : Own w' w0.heap.size v n zs) (hb : Below w0.heap.size w0 w') : RetB w0 zs (.returned v) w' := by
  obtain ⟨a, c, rfl, h1, h2, _⟩ := h.form
  have := h.len
  subst this
  exact ⟨a, c, rfl, h2, h1, hb⟩
theorem RetB.blk {w0 w' : World} {g c : Nat} {zs : List Int} (h : Blk w' g zs) (hs : AllB zs) (hb : Below w0.heap.size w0 w') : RetB w0 zs (.returned (.slice (some ⟨g, 0, none⟩) zs.length c)) w' :=
  ⟨_, _, rfl, h.all hs, (fun h => by cases h), hb⟩
theorem RetB.nil (w0 : World) : RetB w0 [] (.returned (.slice none 0 0)) w0 := ⟨none, 0, rfl, Bys.none _, (fun _ => ⟨rfl, rfl⟩), Below.refl _ _⟩

/-- Of the blocks that were there only those of M have turned. -/
structure Turn (M : Nat → Prop) (w w' : World) : Prop where
  os : w'.os = w.os
  tape : w'.tape = w.tape
  output : w'.output = w.output
  size : w.heap.size ≤ w'.heap.size
  block : ∀ k, k < w.heap.size → ¬ M k → w'.heap[k]? = w.heap[k]?

theorem Turn.refl (M : Nat → Prop) (w : World) : Turn M w w := ⟨rfl, rfl, rfl, Nat.le_refl _, fun _ _ _ => rfl⟩
theorem Turn.trans {M : Nat → Prop} {a b c : World} (h : Turn M a b) (k : Turn M b c) : Turn M a c :=
  ⟨k.os.trans h.os, k.tape.trans h.tape, k.output.trans h.output, Nat.le_trans h.size k.size, fun i hi hm => (k.block i (Nat.lt_of_lt_of_le hi h.size) hm).trans (h.block i hi hm)⟩
theorem Turn.mono {M M' : Nat → Prop} {w w' : World} (h : Turn M w w') (hm : ∀ k, M k → M' k) : Turn M' w w' := ⟨h.os, h.tape, h.output, h.size, fun k hk hn => h.block k hk fun x => hn (hm k x)⟩
theorem Turn.of_below {M : Nat → Prop} {w w' : World} (h : Below w.heap.size w w') : Turn M w w' := ⟨h.os, h.tape, h.output, h.size, fun k hk _ => h.block k hk⟩
theorem Turn.of_grown {M : Nat → Prop} {w w' : World} {b : Nat} (h : w.grownBy w' (some b)) (hb : M b) : Turn M w w' :=
  ⟨h.os, h.tape, h.output, h.size, fun k hk hn => h.block k hk (fun e => by cases e; exact hn hb)⟩
theorem Turn.setCell {M : Nat → Prop} (w : World) {a : Addr} (hb : M a.block) (u : Value) : Turn M w (w.setCell a u) :=
  ⟨rfl, rfl, rfl, by simp [World.setCell], fun k _ hn => Below.heap_setCell w a u k (fun e => hn (e ▸ hb))⟩
theorem turn_set (w : World) (b i : Nat) (u : Value) : Turn (· = b) w (w.setCell ⟨b, i, none⟩ u) := Turn.setCell (M := (· = b)) (a := ⟨b, i, none⟩) w rfl u
theorem Turn.below {M : Nat → Prop} {w w' : World} (h : Turn M w w') {B : Nat} (hB : B ≤ w.heap.size) (hm : ∀ k, M k → B ≤ k) : Below B w w' :=
  ⟨h.os, h.tape, h.output, h.size, fun k hk => h.block k (by omega) fun x => by have := hm k x; omega⟩
theorem Turn.cell {M : Nat → Prop} {w w' : World} (h : Turn M w w') {a : Addr} (hlt : a.block < w.heap.size) (hm : ¬ M a.block) : w'.cell? a = w.cell? a := World.cell?_of_block (w := w) (h.block _ hlt hm)
theorem Turn.frozen {M : Nat → Prop} {w w' : World} (h : Turn M w w') {a : Addr} (hlt : a.block < w.heap.size) (hm : ¬ M a.block) : w'.frozen? a = w.frozen? a := World.frozen?_of_block (w := w) (h.block _ hlt hm)
theorem bys_turn {M : Nat → Prop} {w w' : World} {a : Option Addr} {n : Nat} {zs : List Int} (h : Bys w a n zs) (ht : Turn M w w') (hm : ∀ b off, a = some ⟨b, off, .none⟩ → ¬ M b) : Bys w' a n zs := by
  refine ⟨h.len, h.small, ?_⟩
  rcases h.place with h0 | ⟨b, off, ha, hlt, hc⟩
  · exact .inl h0
  · exact .inr ⟨b, off, ha, Nat.lt_of_lt_of_le hlt ht.size, fun i hi => (ht.cell (a := ⟨b, off + i, .none⟩) hlt (hm b off ha)).trans (hc i hi)⟩
theorem Blk.turn {M : Nat → Prop} {w w' : World} {g : Nat} {zs : List Int} (h : Blk w g zs) (ht : Turn M w w') (hm : ¬ M g) : Blk w' g zs := ⟨(ht.block g h.lt hm).trans h.row⟩

/-- A block of cells of one cell each. -/
theorem cells_set {w : World} {g i : Nat} {cs : Array Value} {t : TypeId} {u : Value} (h : w.heap[g]? = some (.cells cs t (0, 0))) : (w.setCell ⟨g, i, none⟩ u).heap[g]? = some (.cells (cs.setIfInBounds i u) t (0, 0)) :=
  heap_setCell_same w g i _ _ _ h

end Go.Proofs.YtinholnidchblaaGreatDoor

/-
  Slices of entries: what they hold, and how one of the call's own grows, is cut and is written in place.
-/
namespace Go.Proofs.YtinholnidchblaaGreatDoor
open Go.RowKit
set_option linter.unusedVariables false
set_option linter.unusedSimpArgs false

/-- An entry's cells. -/
def ecl (x : En) : List Value := [.string x.s, .int .i64 x.i]
/-- An entry by value. -/
def env (x : En) : Value := .agg #[.string x.s, .int .i64 x.i]
theorem ecl_one (x : En) : ∀ v ∈ ecl x, v.oneCell' = true := by
  intro v hv
  simp [ecl] at hv
  rcases hv with rfl | rfl <;> rfl
theorem eflat_len (L : List En) : (L.flatMap ecl).length = L.length * 2 := by
  induction L with
  | nil => rfl
  | cons x L ih => simp [ecl, ih]; omega
theorem eflat_one (L : List En) : ∀ v ∈ L.flatMap ecl, v.oneCell' = true := fun v hv => by
  obtain ⟨x, _, hx⟩ := List.mem_flatMap.1 hv
  exact ecl_one x v hx
theorem eflat_get : ∀ (L : List En) (k : Nat), k < L.length → (L.flatMap ecl)[k * 2]? = some (.string (eat L k).s) ∧ (L.flatMap ecl)[k * 2 + 1]? = some (.int .i64 (eat L k).i)
  | [], k, h => by simp at h
  | y :: L, 0, h => ⟨rfl, rfl⟩
  | y :: L, k + 1, h => by
    have := eflat_get L k (by simpa using h)
    have e : (k + 1) * 2 = k * 2 + 2 := by omega
    rw [e]
    exact this
theorem eflat_odd {L : List En} {j : Nat} {v : Value} (h : (L.flatMap ecl)[j]? = some v) : ∃ k, k < L.length ∧ ((j = k * 2 ∧ v = .string (eat L k).s) ∨ (j = k * 2 + 1 ∧ v = .int .i64 (eat L k).i)) := by
  have hj : j < L.length * 2 := by
    rcases Nat.lt_or_ge j (L.length * 2) with h1 | h1
    · exact h1
    · rw [List.getElem?_eq_none (by rw [eflat_len]; exact h1)] at h; cases h
  obtain ⟨h1, h2⟩ := eflat_get L (j / 2) (by omega)
  refine ⟨j / 2, by omega, ?_⟩
  rcases (by omega : j = j / 2 * 2 ∨ j = j / 2 * 2 + 1) with e | e
  · refine .inl ⟨e, ?_⟩
    rw [e, h1] at h
    exact (Option.some.inj h).symm
  · refine .inr ⟨e, ?_⟩
    rw [e, h2] at h
    exact (Option.some.inj h).symm
/-- The slice at a, of n entries, holds L. -/
structure Ens (w : World) (a : Option Addr) (n : Nat) (L : List En) : Prop where
  len : L.length = n
  place : n = 0 ∨ ∃ b off, a = some ⟨b, off, none⟩ ∧ b < w.heap.size ∧ ∀ i, i < n → w.cell? ⟨b, off + i * 2, none⟩ = some (.string (eat L i).s) ∧ w.cell? ⟨b, off + i * 2 + 1, none⟩ = some (.int .i64 (eat L i).i)
theorem Ens.below {w w' : World} {a : Option Addr} {n : Nat} {L : List En} (h : Ens w a n L) {B : Nat} (hB : w.heap.size ≤ B) (hb : Below B w w') : Ens w' a n L := by
  refine ⟨h.len, ?_⟩
  rcases h.place with h0 | ⟨b, off, ha, hlt, hc⟩
  · exact .inl h0
  · exact .inr ⟨b, off, ha, Nat.lt_of_lt_of_le hlt hb.size, fun i hi => ⟨(hb.cell (p := ⟨b, off + i * 2, none⟩) (by show b < B; omega)).trans (hc i hi).1, (hb.cell (p := ⟨b, off + i * 2 + 1, none⟩) (by show b < B; omega)).trans (hc i hi).2⟩⟩
theorem Ens.next {w w' : World} {a : Option Addr} {n : Nat} {L : List En} (h : Ens w a n L) (hb : Below w.heap.size w w') : Ens w' a n L := h.below (Nat.le_refl _) hb
theorem Ens.alloc {w : World} {a : Option Addr} {n : Nat} {L : List En} (h : Ens w a n L) (o : Obj) : Ens (w.alloc o) a n L := h.next ((Below.refl _ _).alloc (Nat.le_refl _) o)
theorem Ens.drewN {w : World} {a : Option Addr} {n : Nat} {L : List En} (h : Ens w a n L) (q : Nat) : Ens (w.drewN q) a n L := h.next (below_drewN (Below.refl _ _) q)
theorem Ens.at {w : World} {a : Option Addr} {n : Nat} {L : List En} (h : Ens w a n L) {i : Nat} (hi : i < n) : ∃ b off, a = some ⟨b, off, none⟩ ∧ b < w.heap.size ∧ w.cell? ⟨b, off + i * 2, none⟩ = some (.string (eat L i).s) ∧ w.cell? ⟨b, off + i * 2 + 1, none⟩ = some (.int .i64 (eat L i).i) := by
  rcases h.place with h0 | ⟨b, off, ha, hlt, hc⟩
  · omega
  · exact ⟨b, off, ha, hlt, hc i hi⟩
theorem ens_nil (w : World) (a : Option Addr) : Ens w a 0 [] := ⟨rfl, .inl rfl⟩
theorem eat_take {L : List En} {k i : Nat} (h : i < k) : eat (L.take k) i = eat L i := by simp [eat, List.getD, h]
theorem eat_drop {L : List En} {k i : Nat} : eat (L.drop k) i = eat L (k + i) := by simp [eat, List.getD]
theorem Ens.take {w : World} {a : Option Addr} {n k : Nat} {L : List En} (h : Ens w a n L) (hk : k ≤ n) : Ens w a k (L.take k) := by
  refine ⟨by rw [List.length_take, h.len]; omega, ?_⟩
  rcases h.place with h0 | ⟨b, off, e, hlt, hc⟩
  · exact .inl (by omega)
  · exact .inr ⟨b, off, e, hlt, fun i hi => by rw [eat_take hi]; exact hc i (by omega)⟩
theorem Ens.drop {w : World} {b off n k : Nat} {L : List En} (h : Ens w (some ⟨b, off, none⟩) n L) : Ens w (some ⟨b, off + k * 2, none⟩) (n - k) (L.drop k) := by
  refine ⟨by rw [List.length_drop, h.len], ?_⟩
  rcases h.place with h0 | ⟨b', off', e, hlt, hc⟩
  · exact .inl (by omega)
  · cases e
    refine .inr ⟨b, off + k * 2, rfl, hlt, fun i hi => ?_⟩
    rw [eat_drop, show off + k * 2 + i * 2 = off + (k + i) * 2 by omega]
    exact hc (k + i) (by omega)
theorem eat_ext {x y : List En} (hl : x.length = y.length) (h : ∀ i, i < x.length → eat x i = eat y i) : x = y := by
  apply List.ext_getElem hl
  intro i h1 h2
  have := h i h1
  simpa [eat, List.getD, h1, h2] using this
theorem add_e (b off m : Nat) : (⟨b, off, none⟩ : Addr).add m = ⟨b, off + m, none⟩ := by unfold Addr.add; split <;> simp_all
/-- Its cells, one by one. -/
theorem Ens.cells {w : World} {b off n : Nat} {L : List En} (h : Ens w (some ⟨b, off, none⟩) n L) : ∀ j u, (L.flatMap ecl)[j]? = some u → w.cell? ((⟨b, off, none⟩ : Addr).add j) = some u := by
  intro j u hj
  obtain ⟨k, hk, h1⟩ := eflat_odd hj
  rcases h.place with h0 | ⟨b', off', e, hlt, hc⟩
  · rw [h.len] at hk; omega
  · cases e
    obtain ⟨c1, c2⟩ := hc k (by rw [← h.len]; exact hk)
    rw [add_e]
    rcases h1 with ⟨rfl, rfl⟩ | ⟨rfl, rfl⟩
    · exact c1
    · exact c2
theorem infoE : (Tryz.prog.info? 77).map (fun i => (i.zero, i.size, i.bytes)) = some (some (.agg #[.string ByteArray.empty, .int .i64 0]), 2, 24) := by kernel_rfl

/-- A slice of entries of the call's own. -/
def OwnE (w : World) (B : Nat) (v : Value) (n : Nat) (L : List En) : Prop := w.ownsRow B 77 2 v n (L.flatMap ecl)
theorem OwnE.len {w : World} {B : Nat} {v : Value} {n : Nat} {L : List En} (h : OwnE w B v n L) : L.length = n := by
  have := h.1
  rw [eflat_len] at this
  omega
theorem OwnE.below {w w' : World} {B : Nat} {v : Value} {n : Nat} {L : List En} (h : OwnE w B v n L) {C : Nat} (hC : w.heap.size ≤ C) (hb : Below C w w') : OwnE w' B v n L :=
  h.kept (row := none) ⟨hb.os, hb.tape, hb.output, hb.size, fun k hk _ => hb.block k (by omega)⟩ (by cases v.ownBlock <;> simp)
theorem OwnE.next {w w' : World} {B : Nat} {v : Value} {n : Nat} {L : List En} (h : OwnE w B v n L) (hb : Below w.heap.size w w') : OwnE w' B v n L := h.below (Nat.le_refl _) hb
theorem OwnE.alloc {w : World} {B : Nat} {v : Value} {n : Nat} {L : List En} (h : OwnE w B v n L) (o : Obj) : OwnE (w.alloc o) B v n L := h.next ((Below.refl _ _).alloc (Nat.le_refl _) o)
theorem ownE_none (w : World) (B : Nat) (hB : B ≤ w.heap.size) : OwnE (w.alloc (.cells #[] 77)) B (.slice (some ⟨w.heap.size, 0, none⟩) 0 0) 0 [] := World.ownsRow_lit w #[] 0 hB (Nat.zero_le _) rfl
theorem ownE_nil (w : World) (B : Nat) : OwnE w B (.slice none 0 0) 0 [] := World.ownsRow_nil _ _ _ _
theorem OwnE.lower {w : World} {B C : Nat} {v : Value} {n : Nat} {L : List En} (h : OwnE w B v n L) (hC : C ≤ B) : OwnE w C v n L := by
  refine ⟨h.1, ?_⟩
  rcases h.2 with h0 | ⟨g, cap, cur, a, b, c⟩
  · exact .inl h0
  · exact .inr ⟨g, cap, cur, a, Nat.le_trans hC b, c⟩
theorem OwnE.setLow {w : World} {B : Nat} {v : Value} {n : Nat} {L : List En} (h : OwnE w B v n L) {p : Addr} (hp : p.block < B) (u : Value) : OwnE (w.setCell p u) B v n L := ownsRow_setCell_below h hp u
theorem OwnE.ens {w : World} {B : Nat} {v : Value} {n : Nat} {L : List En} (h : OwnE w B v n L) : ∃ a c, v = .slice a n c ∧ Ens w a n L ∧ n ≤ c ∧ c ≤ 9223372036854775807 ∧ (a = none → n = 0 ∧ c = 0) ∧ (∀ x, a = some x → B ≤ x.block ∧ x.block < w.heap.size) := by
  have hl := h.len
  rcases h.2 with ⟨rfl, rfl⟩ | ⟨g, cap, cur, rfl, hb, hg, hnc, hm, hsz, htake⟩
  · exact ⟨none, 0, rfl, ⟨hl, .inl rfl⟩, Nat.le_refl _, by omega, (fun _ => ⟨rfl, rfl⟩), (fun x hx => by cases hx)⟩
  · refine ⟨some ⟨g, 0, none⟩, cap, rfl, ⟨hl, .inr ⟨g, 0, rfl, lt_of_block hg, fun i hi => ?_⟩⟩, hnc, by unfold maxLen at hm; omega, (fun h => by cases h), fun x hx => by cases hx; exact ⟨hb, lt_of_block hg⟩⟩
    obtain ⟨h1, h2⟩ := eflat_get L i (by omega)
    have c1 := h.cells (g := g) rfl _ _ h1
    have c2 := h.cells (g := g) rfl _ _ h2
    rw [add_e] at c1 c2
    exact ⟨c1, c2⟩
/-- A literal of one entry. -/
theorem ens_one {w : World} {g : Nat} (x : ByteArray) (i : Int) (h : w.heap.size = g) : Ens (w.alloc (.cells #[.string x, .int .i64 i] 77 (0, 0))) (some ⟨g, 0, none⟩) 1 [⟨x, i⟩] := by
  subst h
  exact ⟨rfl, .inr ⟨_, 0, rfl, by simp, fun i hi => by
    rcases (by omega : i = 0) with rfl
    simp [eat]⟩⟩
/-- 'append(s, xs...)' of entries, s of the call's own. -/
theorem wpList_ape {w : World} {ops : Array Oper} {rest : List Oper} {o : Oper} {a : Act} {Q : Exit → Act → World → Prop} (hgd : o.guard = none) (s x : Operand)
    (ho : o.op = .call { callee := .builtin .append, args := #[s, x], argTypes := #[52, 52] })
    (B : Nat) (v : Value) (n : Nat) (L : List En) (hs : a.eval s = v) (hown : OwnE w B v n L) (ad : Option Addr) (m c : Nat) (M : List En) (hx : a.eval x = .slice ad m c) (hM : Ens w ad m M) (hnil : ad = none → m = 0 ∧ c = 0)
    (hn : n + m ≤ 1000000000000) (hB : B ≤ w.heap.size) (w0 : World) (hb : Below B w0 w)
    (h : ∀ v' w', OwnE w' B v' (n + m) (L ++ M) → Below B w0 w' → wpList Tryz.prog ops Q rest (a.put o.dst v') w') : wpList Tryz.prog ops Q (o :: rest) a w := by
  obtain ⟨i0, hi, hz0, hz1, hz2⟩ := info_parts infoE
  cases ad with
  | none =>
    obtain ⟨rfl, rfl⟩ := hnil rfl
    obtain rfl : M = [] := List.eq_nil_of_length_eq_zero hM.len
    exact wpList_append_own_none hgd s x 52 ho B 77 i0 2 Tryz.underlying52 hi v n _ hs hown hx (h v w (by simpa using hown) hb)
  | some p =>
    refine wpList_append_own w hgd s x 52 ho B 77 i0 _ 2 24 Tryz.underlying52 hi hz0 hz1 hz2 rfl (by decide) v n _ hs hown p m c (M.flatMap ecl) hx (by rw [eflat_len, hM.len]) ?_ (eflat_one M) (by unfold maxLen; omega) (by omega) hB ?_
    · rcases hM.place with h0 | ⟨b, off, e, _, _⟩
      · obtain rfl : M = [] := List.eq_nil_of_length_eq_zero (by rw [hM.len]; exact h0)
        intro j u hj
        simp at hj
      · cases e
        exact hM.cells
    · intro v' w' hown' hgrow _
      exact h v' w' (by unfold OwnE; rw [List.flatMap_append]; exact hown') (hb.grown hgrow hB fun k hk => (hown.lt k hk).1)
end Go.Proofs.YtinholnidchblaaGreatDoor
