/-
  The plain words that this seat's walks share: what it is for a slice to hold bytes.
-/
import Derived.Test.YtgedgkdnjnbijaaRows
import Derived.WalkKit
import Derived.WalkSpells
import Derived.WalkLawsBesides
import Derived.WalkSmall
import Derived.Deep.QuietTactic
import Derived.BigQuiet
import Derived.IntWalk
import Derived.Lib.Hide
import Derived.Laws.CopyOwn
import Derived.ProofKit
namespace Go.Proofs.Ytgedgkdnjnbijaa
open Go.RowKit

/-- The byte at a place (0 behind the end). -/
def byt (zs : List Int) (i : Nat) : Int := zs.getD i 0

/-- Numbers that are bytes. -/
def AllB (zs : List Int) : Prop := ∀ z ∈ zs, 0 ≤ z ∧ z ≤ 255

/-- The slice at 'a' of length n holds the bytes zs. -/
structure Bys (w : World) (a : Option Addr) (n : Nat) (zs : List Int) : Prop where
  len : zs.length = n
  small : AllB zs
  place : n = 0 ∨ ∃ b off, a = some ⟨b, off, none⟩ ∧ b < w.heap.size ∧ ∀ i, i < n → w.cell? ⟨b, off + i, none⟩ = some (.int .u8 (byt zs i))

theorem byt_bd {zs : List Int} (h : AllB zs) (i : Nat) : 0 ≤ byt zs i ∧ byt zs i ≤ 255 := by
  unfold byt
  by_cases hi : i < zs.length
  · have := h (zs.getD i 0) (by simp [hi])
    exact this
  · simp [List.getD, List.getElem?_eq_none (Nat.le_of_not_lt hi)]

theorem Bys.below {w w' : World} {a : Option Addr} {n : Nat} {zs : List Int} (h : Bys w a n zs) {B : Nat} (hB : w.heap.size ≤ B) (hb : Below B w w') : Bys w' a n zs := by
  refine ⟨h.len, h.small, ?_⟩
  rcases h.place with h0 | ⟨b, off, ha, hlt, hc⟩
  · exact .inl h0
  · exact .inr ⟨b, off, ha, Nat.lt_of_lt_of_le hlt hb.size, fun i hi => (hb.cell (p := ⟨b, off + i, none⟩) (by show b < B; omega)).trans (hc i hi)⟩

theorem Bys.next {w w' : World} {a : Option Addr} {n : Nat} {zs : List Int} (h : Bys w a n zs) (hb : Below w.heap.size w w') : Bys w' a n zs := h.below (Nat.le_refl _) hb
theorem Bys.drewN {w : World} {a : Option Addr} {n : Nat} {zs : List Int} (h : Bys w a n zs) (q : Nat) : Bys (w.drewN q) a n zs :=
  h.below (Nat.le_refl _) (below_drewN (Below.refl _ _) q)

/-- Equal lists of bytes, as a bool. -/
def sameB (x y : List Int) : Bool := decide (x = y)
theorem sameB_true {x y : List Int} (h : x = y) : sameB x y = true := by simp [sameB, h]
theorem sameB_false {x y : List Int} (h : x ≠ y) : sameB x y = false := by simp [sameB, h]

theorem byt_ext {x y : List Int} (hl : x.length = y.length) (h : ∀ i, i < x.length → byt x i = byt y i) : x = y := by
  apply List.ext_getElem hl
  intro i h1 h2
  have := h i h1
  simpa [byt, List.getD, h1, h2] using this

theorem sameB_len {x y : List Int} (h : x.length ≠ y.length) : sameB x y = false := sameB_false fun e => h (by rw [e])
theorem sameB_at {x y : List Int} {i : Nat} (h : byt x i ≠ byt y i) : sameB x y = false := sameB_false fun e => h (by rw [e])

/-- A block of bytes, whole. -/
def ints (zs : List Int) : Array Value := (zs.map (Value.int .u8)).toArray
structure Blk (w : World) (g : Nat) (zs : List Int) : Prop where
  row : w.heap[g]? = some (.cells (ints zs) 5 (0, 0))

theorem Blk.lt {w : World} {g : Nat} {zs : List Int} (h : Blk w g zs) : g < w.heap.size := lt_of_block h.row
theorem Blk.cell {w : World} {g : Nat} {zs : List Int} (h : Blk w g zs) {i : Nat} (hi : i < zs.length) : w.cell? ⟨g, i, none⟩ = some (.int .u8 (byt zs i)) := by
  rw [cell_of_row w g i _ _ (0, 0) h.row]
  simp [ints, byt, List.getD, hi]
theorem Blk.free {w : World} {g : Nat} {zs : List Int} (h : Blk w g zs) (i : Nat) : w.frozen? ⟨g, i, none⟩ = false := frozen_of_row w g i _ _ h.row
theorem Blk.set {w : World} {g : Nat} {zs : List Int} (h : Blk w g zs) (i : Nat) (z : Int) : Blk (w.setCell ⟨g, i, none⟩ (.int .u8 z)) g (zs.set i z) := by
  refine ⟨?_⟩
  rw [heap_setCell_same w g i _ _ _ h.row]
  congr 2
  apply Array.ext'
  simp [ints, List.map_set]
theorem Blk.below {w w' : World} {g : Nat} {zs : List Int} (h : Blk w g zs) {B : Nat} (hB : g < B) (hb : Below B w w') : Blk w' g zs := ⟨(hb.block g hB).trans h.row⟩
theorem Blk.drewN {w : World} {g : Nat} {zs : List Int} (h : Blk w g zs) (q : Nat) : Blk (w.drewN q) g zs := ⟨h.row⟩
theorem AllB.take {zs : List Int} (h : AllB zs) (n : Nat) : AllB (zs.take n) := fun z hz => h z (List.mem_of_mem_take hz)
theorem AllB.drop {zs : List Int} (h : AllB zs) (n : Nat) : AllB (zs.drop n) := fun z hz => h z (List.mem_of_mem_drop hz)
theorem byt_take {zs : List Int} {n i : Nat} (h : i < n) : byt (zs.take n) i = byt zs i := by
  unfold byt
  simp [List.getD, h]
theorem byt_drop {zs : List Int} {n i : Nat} : byt (zs.drop n) i = byt zs (n + i) := by
  unfold byt
  simp [List.getD]
theorem byt_zero (n i : Nat) : byt (List.replicate n 0) i = 0 := by
  unfold byt
  by_cases h : i < n <;> simp [List.getD, h]
theorem byt_set {zs : List Int} {i : Nat} (h : i < zs.length) (z : Int) (j : Nat) : byt (zs.set i z) j = if j = i then z else byt zs j := by
  unfold byt
  by_cases e : j = i
  · subst e; simp [List.getD, h]
  · rw [if_neg e]; simp [List.getD, Ne.symm e]
theorem allB_byt {zs : List Int} (h : ∀ i, i < zs.length → 0 ≤ byt zs i ∧ byt zs i ≤ 255) : AllB zs := by
  intro z hz
  obtain ⟨i, hi, rfl⟩ := List.getElem_of_mem hz
  have := h i hi
  simpa [byt, List.getD, hi] using this
theorem Blk.bys {w : World} {g : Nat} {zs : List Int} (h : Blk w g zs) (hs : AllB zs) {n : Nat} (hn : n ≤ zs.length) : Bys w (some ⟨g, 0, none⟩) n (zs.take n) :=
  ⟨by simp; omega, hs.take n, .inr ⟨g, 0, rfl, h.lt, fun i hi => by rw [Nat.zero_add, byt_take hi]; exact h.cell (by omega)⟩⟩
theorem Blk.all {w : World} {g : Nat} {zs : List Int} (h : Blk w g zs) (hs : AllB zs) : Bys w (some ⟨g, 0, none⟩) zs.length zs := by
  have := h.bys hs (Nat.le_refl _)
  rwa [List.take_of_length_le (Nat.le_refl _)] at this
theorem Blk.from {w : World} {g : Nat} {zs : List Int} (h : Blk w g zs) (hs : AllB zs) (k : Nat) : Bys w (some ⟨g, k, none⟩) (zs.length - k) (zs.drop k) :=
  ⟨by simp, hs.drop k, .inr ⟨g, k, rfl, h.lt, fun i hi => by rw [byt_drop]; exact h.cell (by omega)⟩⟩

theorem Blk.bysn {w : World} {g n : Nat} {zs : List Int} (h : Blk w g zs) (hs : AllB zs) (hn : zs.length = n) : Bys w (some ⟨g, 0, none⟩) n zs := by
  subst hn
  exact h.all hs
/-- The front of a slice of bytes, and what is behind it. -/
theorem Bys.front {w : World} {a : Option Addr} {n : Nat} {zs : List Int} (h : Bys w a n zs) {k : Nat} (hk : k ≤ n) : Bys w a k (zs.take k) := by
  refine ⟨by rw [List.length_take, h.len]; omega, h.small.take k, ?_⟩
  rcases h.place with h0 | ⟨b, off, ha, hlt, hc⟩
  · exact .inl (by omega)
  · exact .inr ⟨b, off, ha, hlt, fun i hi => by rw [byt_take hi]; exact hc i (by omega)⟩
theorem Bys.rest {w : World} {b off n : Nat} {zs : List Int} (h : Bys w (some ⟨b, off, none⟩) n zs) (k : Nat) : Bys w (some ⟨b, off + k, none⟩) (n - k) (zs.drop k) := by
  refine ⟨by rw [List.length_drop, h.len], h.small.drop k, ?_⟩
  rcases h.place with h0 | ⟨b', off', ha, hlt, hc⟩
  · exact .inl (by omega)
  · cases ha
    exact .inr ⟨b, off + k, rfl, hlt, fun i hi => by rw [byt_drop, Nat.add_assoc]; exact hc (k + i) (by omega)⟩
theorem Bys.none {w : World} (a : Option Addr) : Bys w a 0 [] := ⟨rfl, (fun z hz => by cases hz), .inl rfl⟩

/-- Up to place k the one list's bytes, from there on the other's. -/
structure Mix (zs s t : List Int) (k : Nat) : Prop where
  len : zs.length = t.length
  new : ∀ j, j < k → byt zs j = byt t j
  old : ∀ j, k ≤ j → byt zs j = byt s j
theorem Mix.start {zs t : List Int} (h : zs.length = t.length) : Mix zs zs t 0 := ⟨h, fun _ h => by omega, fun _ _ => rfl⟩
theorem Mix.set {zs s t : List Int} {k : Nat} {z : Int} (h : Mix zs s t k) (hk : k < t.length) (hz : z = byt t k) : Mix (zs.set k z) s t (k + 1) := by
  have hk' : k < zs.length := by rw [h.len]; exact hk
  refine ⟨by simp [h.len], fun j hj => ?_, fun j hj => ?_⟩
  · rw [byt_set hk']
    split
    · next e => rw [e, hz]
    · exact h.new j (by omega)
  · rw [byt_set hk', if_neg (by omega)]
    exact h.old j (by omega)
theorem Mix.done {zs s t : List Int} {k : Nat} (h : Mix zs s t k) (he : ∀ j, k ≤ j → j < t.length → byt s j = byt t j) : zs = t :=
  byt_ext h.len fun j hj => by
    by_cases e : j < k
    · exact h.new j e
    · rw [h.old j (by omega)]
      exact he j (by omega) (by rw [← h.len]; exact hj)

theorem info8 : (Try.prog.info? 5).map (fun i => (i.zero, i.size, i.bytes)) = some (some (.int .u8 0), 1, 1) := by kernel_rfl

set_option maxRecDepth 100000 in
/-- 'make([]byte, n)': a new block of n noughts. -/
theorem wpList_mk {w : World} {ops : Array Oper} {rest : List Oper} {o : Oper} {a : Act} {Q : Exit → Act → World → Prop}
    (hg : o.guard = none) (l c : Operand) (hop : o.op = Op.makeSlice 36 l c) (kl kc : IntKind) (L C : Int) (n : Nat) (hl : a.eval l = .int kl L) (hc : a.eval c = .int kc C) (hL : L = (n : Int)) (hC : C = (n : Int)) (b2 : n ≤ 281474976710656)
    (hK : ∀ w', Blk w' w.heap.size (List.replicate n 0) → Below w.heap.size w w' → wpList Try.prog ops Q rest (a.put o.dst (.slice (some ⟨w.heap.size, 0, none⟩) n n)) w') :
    wpList Try.prog ops Q (o :: rest) a w := by
  obtain ⟨i0, hi, hz0, hz1, hz2⟩ := info_parts info8
  refine wpList_make_full w hg l c 36 hop w.heap.size 5 i0 (.int .u8 0) 1 Try.underlying36 hi hz0 hz1 kl kc L C n hl hc hL hC (by rw [hz2]; omega) (by unfold maxLen; omega) (Nat.le_refl _) fun w' hown hgrow => hK w' ⟨?_⟩ ((Below.refl _ _).grown hgrow (Nat.le_refl _) (fun k h => by cases h))
  rcases hown.2 with ⟨h', _⟩ | ⟨g, cap, cur, h', _, hh, _, _, hsz, htake⟩
  · simp at h'
  · simp only [Value.slice.injEq, Option.some.injEq, Addr.mk.injEq, and_true, true_and] at h'
    obtain ⟨rfl, rfl⟩ := h'
    rw [hh]
    congr 2
    apply Array.ext'
    rw [List.take_of_length_le (by rw [Array.length_toList, hsz]; exact Nat.le_refl _)] at htake
    rw [htake, show (Value.int IntKind.u8 0).cells = #[Value.int .u8 0] from rfl, Nat.mul_one, toList_madeCells_one]
    simp [ints]

theorem byt_past {zs : List Int} {i : Nat} (h : zs.length ≤ i) : byt zs i = 0 := by
  unfold byt
  simp [List.getD, List.getElem?_eq_none h]
theorem byt_app_left {x y : List Int} {i : Nat} (h : i < x.length) : byt (x ++ y) i = byt x i := by
  unfold byt
  simp [List.getD, List.getElem?_append_left h]
theorem byt_app_right {x y : List Int} (i : Nat) : byt (x ++ y) (x.length + i) = byt y i := by
  unfold byt
  simp [List.getD, List.getElem?_append_right (Nat.le_add_right _ _)]
theorem byt_pad (x : List Int) (n i : Nat) : byt (x ++ List.replicate n 0) i = byt x i := by
  by_cases h : i < x.length
  · exact byt_app_left h
  · obtain ⟨j, rfl⟩ : ∃ j, i = x.length + j := ⟨i - x.length, by omega⟩
    rw [byt_app_right, byt_zero, byt_past (Nat.le_add_right _ _)]
theorem AllB.app {x y : List Int} (hx : AllB x) (hy : AllB y) : AllB (x ++ y) := fun z hz => (List.mem_append.1 hz).elim (hx z) (hy z)
theorem AllB.zeros (n : Nat) : AllB (List.replicate n 0) := fun z hz => by rw [(List.mem_replicate.1 hz).2]; omega

/-- 'copy' of a slice of bytes onto the front of a block of the call's own that has room for it. -/
theorem wpList_cp {w : World} {ops : Array Oper} {rest : List Oper} {o : Oper} {a : Act} {Q : Exit → Act → World → Prop}
    (hgd : o.guard = none) (d s : Operand) (ho : o.op = .call { callee := .builtin .copy, args := #[d, s], argTypes := #[36, 36] })
    (g dLen dCap n c : Nat) (ad : Option Addr) (hd : a.eval d = .slice (some ⟨g, 0, none⟩) dLen dCap) (hs : a.eval s = .slice ad n c) (zs x : List Int) (hg : Blk w g zs) (hx : Bys w ad n x) (hl : zs.length = dLen) (hn : n ≤ dLen)
    (B : Nat) (w0 : World) (hb : Below B w0 w) (hB : B ≤ g)
    (hK : ∀ w', Blk w' g (x ++ zs.drop n) → Below B w0 w' → wpList Try.prog ops Q rest (a.put o.dst (goInt n)) w') :
    wpList Try.prog ops Q (o :: rest) a w := by
  have hc : (x.map (Value.int .u8)).length = n := by rw [List.length_map]; exact hx.len
  refine wpList_copy_splice hgd d s 36 36 ho 5 Try.underlying36 (by kernel_rfl) _ _ _ _ _ _ hd hs g 0 (zs.map (Value.int .u8)) 5 hg.row (x.map (Value.int .u8)) (by rw [hc]; exact (Nat.min_eq_left hn).symm) ?_ (by rw [hc, List.length_map]; omega) ?_ B w0 hb hB ?_
  · intro hpos
    refine ⟨rfl, ?_⟩
    rcases hx.place with h0 | ⟨b, off, rfl, _, hcell⟩
    · omega
    · refine ⟨_, rfl, fun j v hj => ?_⟩
      have hjn : j < n := by
        rcases Nat.lt_or_ge j n with h | h
        · exact h
        · rw [List.getElem?_eq_none (by omega)] at hj; cases hj
      have hv : v = .int .u8 (byt x j) := by
        rw [List.getElem?_map] at hj
        have hjx : j < x.length := by rw [hx.len]; exact hjn
        simp [List.getElem?_eq_getElem hjx] at hj
        simp [byt, List.getD, hjx, hj]
      rw [hv]
      rw [show (⟨b, off, none⟩ : Addr).add j = ⟨b, off + j, none⟩ by unfold Addr.add; split <;> simp_all]
      exact hcell j hjn
  · intro v hv
    obtain ⟨z, _, rfl⟩ := List.mem_map.1 hv
    rfl
  · intro w' hrow hbel
    rw [hc]
    refine hK w' ⟨?_⟩ hbel
    rw [hrow.out]
    congr 2
    apply Array.ext'
    simp [splice, ints, hx.len]

theorem val_int {k : IntKind} {a b : Int} (h : a = b) : Value.int k a = .int k b := by rw [h]
theorem ret_bool {b c : Bool} (h : b = c) : Ending.returned (.bool b) = .returned (.bool c) := by rw [h]
theorem ret_int {k : IntKind} {a b : Int} (h : a = b) : Ending.returned (.int k a) = .returned (.int k b) := by rw [h]

end Go.Proofs.Ytgedgkdnjnbijaa
