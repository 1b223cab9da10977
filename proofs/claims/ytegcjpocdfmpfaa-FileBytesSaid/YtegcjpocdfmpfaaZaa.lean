/-
  The plain words that this seat's walks share: what it is for a slice to hold bytes.
-/
import Derived.Test.YtegcjpocdfmpfaaRows
import Derived.WalkKit
import Derived.WalkSpells
import Derived.WalkLawsBesides
import Derived.WalkSmall
import Derived.Deep.QuietTactic
import Derived.BigQuiet
import Derived.IntWalk
import Derived.Lib.Hide
import Derived.Laws.CopyOwn
import Derived.ProofKit
import Derived.Laws.AppendOwnNone
set_option linter.unusedVariables false
set_option linter.unusedSimpArgs false
set_option maxRecDepth 100000
set_option maxHeartbeats 16000000
namespace Go.Proofs.Ytegcjpocdfmpfaa
open Go.RowKit

/-- The byte at a place (0 behind the end). -/
def byt (zs : List Int) (i : Nat) : Int := zs.getD i 0

/-- Numbers that are bytes. -/
def AllB (zs : List Int) : Prop := ∀ z ∈ zs, 0 ≤ z ∧ z ≤ 255

/-- The slice at 'a' of length n holds the bytes zs. -/
structure Bys (w : World) (a : Option Addr) (n : Nat) (zs : List Int) : Prop where
  len : zs.length = n
  small : AllB zs
  place : n = 0 ∨ ∃ b off, a = some ⟨b, off, none⟩ ∧ b < w.heap.size ∧ ∀ i, i < n → w.cell? ⟨b, off + i, none⟩ = some (.int .u8 (byt zs i))

theorem byt_bd {zs : List Int} (h : AllB zs) (i : Nat) : 0 ≤ byt zs i ∧ byt zs i ≤ 255 := by
  unfold byt
  by_cases hi : i < zs.length
  · have := h (zs.getD i 0) (by simp [hi])
    exact this
  · simp [List.getD, List.getElem?_eq_none (Nat.le_of_not_lt hi)]

theorem Bys.below {w w' : World} {a : Option Addr} {n : Nat} {zs : List Int} (h : Bys w a n zs) {B : Nat} (hB : w.heap.size ≤ B) (hb : Below B w w') : Bys w' a n zs := by
  refine ⟨h.len, h.small, ?_⟩
  rcases h.place with h0 | ⟨b, off, ha, hlt, hc⟩
  · exact .inl h0
  · exact .inr ⟨b, off, ha, Nat.lt_of_lt_of_le hlt hb.size, fun i hi => (hb.cell (p := ⟨b, off + i, none⟩) (by show b < B; omega)).trans (hc i hi)⟩

theorem Bys.next {w w' : World} {a : Option Addr} {n : Nat} {zs : List Int} (h : Bys w a n zs) (hb : Below w.heap.size w w') : Bys w' a n zs := h.below (Nat.le_refl _) hb
theorem Bys.drewN {w : World} {a : Option Addr} {n : Nat} {zs : List Int} (h : Bys w a n zs) (q : Nat) : Bys (w.drewN q) a n zs :=
  h.below (Nat.le_refl _) (below_drewN (Below.refl _ _) q)

/-- Equal lists of bytes, as a bool. -/
def sameB (x y : List Int) : Bool := decide (x = y)
theorem sameB_true {x y : List Int} (h : x = y) : sameB x y = true := by simp [sameB, h]
theorem sameB_false {x y : List Int} (h : x ≠ y) : sameB x y = false := by simp [sameB, h]

theorem byt_ext {x y : List Int} (hl : x.length = y.length) (h : ∀ i, i < x.length → byt x i = byt y i) : x = y := by
  apply List.ext_getElem hl
  intro i h1 h2
  have := h i h1
  simpa [byt, List.getD, h1, h2] using this

theorem sameB_len {x y : List Int} (h : x.length ≠ y.length) : sameB x y = false := sameB_false fun e => h (by rw [e])
theorem sameB_at {x y : List Int} {i : Nat} (h : byt x i ≠ byt y i) : sameB x y = false := sameB_false fun e => h (by rw [e])

/-- A block of bytes, whole. -/
def ints (zs : List Int) : Array Value := (zs.map (Value.int .u8)).toArray
structure Blk (w : World) (g : Nat) (zs : List Int) : Prop where
  row : w.heap[g]? = some (.cells (ints zs) 5 (0, 0))

theorem Blk.lt {w : World} {g : Nat} {zs : List Int} (h : Blk w g zs) : g < w.heap.size := lt_of_block h.row
theorem Blk.cell {w : World} {g : Nat} {zs : List Int} (h : Blk w g zs) {i : Nat} (hi : i < zs.length) : w.cell? ⟨g, i, none⟩ = some (.int .u8 (byt zs i)) := by
  rw [cell_of_row w g i _ _ (0, 0) h.row]
  simp [ints, byt, List.getD, hi]
theorem Blk.set {w : World} {g : Nat} {zs : List Int} (h : Blk w g zs) (i : Nat) (z : Int) : Blk (w.setCell ⟨g, i, none⟩ (.int .u8 z)) g (zs.set i z) := by
  refine ⟨?_⟩
  rw [heap_setCell_same w g i _ _ _ h.row]
  congr 2
  apply Array.ext'
  simp [ints, List.map_set]
theorem Blk.drewN {w : World} {g : Nat} {zs : List Int} (h : Blk w g zs) (q : Nat) : Blk (w.drewN q) g zs := ⟨h.row⟩
theorem AllB.take {zs : List Int} (h : AllB zs) (n : Nat) : AllB (zs.take n) := fun z hz => h z (List.mem_of_mem_take hz)
theorem AllB.drop {zs : List Int} (h : AllB zs) (n : Nat) : AllB (zs.drop n) := fun z hz => h z (List.mem_of_mem_drop hz)
theorem byt_take {zs : List Int} {n i : Nat} (h : i < n) : byt (zs.take n) i = byt zs i := by
  unfold byt
  simp [List.getD, h]
theorem byt_drop {zs : List Int} {n i : Nat} : byt (zs.drop n) i = byt zs (n + i) := by
  unfold byt
  simp [List.getD]
theorem byt_zero (n i : Nat) : byt (List.replicate n 0) i = 0 := by
  unfold byt
  by_cases h : i < n <;> simp [List.getD, h]
theorem byt_set {zs : List Int} {i : Nat} (h : i < zs.length) (z : Int) (j : Nat) : byt (zs.set i z) j = if j = i then z else byt zs j := by
  unfold byt
  by_cases e : j = i
  · subst e; simp [List.getD, h]
  · rw [if_neg e]; simp [List.getD, Ne.symm e]
theorem Blk.bys {w : World} {g : Nat} {zs : List Int} (h : Blk w g zs) (hs : AllB zs) {n : Nat} (hn : n ≤ zs.length) : Bys w (some ⟨g, 0, none⟩) n (zs.take n) :=
  ⟨by simp; omega, hs.take n, .inr ⟨g, 0, rfl, h.lt, fun i hi => by rw [Nat.zero_add, byt_take hi]; exact h.cell (by omega)⟩⟩
theorem Blk.all {w : World} {g : Nat} {zs : List Int} (h : Blk w g zs) (hs : AllB zs) : Bys w (some ⟨g, 0, none⟩) zs.length zs := by
  have := h.bys hs (Nat.le_refl _)
  rwa [List.take_of_length_le (Nat.le_refl _)] at this
theorem Blk.from {w : World} {g : Nat} {zs : List Int} (h : Blk w g zs) (hs : AllB zs) (k : Nat) : Bys w (some ⟨g, k, none⟩) (zs.length - k) (zs.drop k) :=
  ⟨by simp, hs.drop k, .inr ⟨g, k, rfl, h.lt, fun i hi => by rw [byt_drop]; exact h.cell (by omega)⟩⟩

theorem Blk.bysn {w : World} {g n : Nat} {zs : List Int} (h : Blk w g zs) (hs : AllB zs) (hn : zs.length = n) : Bys w (some ⟨g, 0, none⟩) n zs := by
  subst hn
  exact h.all hs
/-- The front of a slice of bytes, and what is behind it. -/
theorem Bys.front {w : World} {a : Option Addr} {n : Nat} {zs : List Int} (h : Bys w a n zs) {k : Nat} (hk : k ≤ n) : Bys w a k (zs.take k) := by
  refine ⟨by rw [List.length_take, h.len]; omega, h.small.take k, ?_⟩
  rcases h.place with h0 | ⟨b, off, ha, hlt, hc⟩
  · exact .inl (by omega)
  · exact .inr ⟨b, off, ha, hlt, fun i hi => by rw [byt_take hi]; exact hc i (by omega)⟩
theorem Bys.rest {w : World} {b off n : Nat} {zs : List Int} (h : Bys w (some ⟨b, off, none⟩) n zs) (k : Nat) : Bys w (some ⟨b, off + k, none⟩) (n - k) (zs.drop k) := by
  refine ⟨by rw [List.length_drop, h.len], h.small.drop k, ?_⟩
  rcases h.place with h0 | ⟨b', off', ha, hlt, hc⟩
  · exact .inl (by omega)
  · cases ha
    exact .inr ⟨b, off + k, rfl, hlt, fun i hi => by rw [byt_drop, Nat.add_assoc]; exact hc (k + i) (by omega)⟩
theorem Bys.none {w : World} (a : Option Addr) : Bys w a 0 [] := ⟨rfl, (fun z hz => by cases hz), .inl rfl⟩

/-- Up to place k the one list's bytes, from there on the other's. -/
structure Mix (zs s t : List Int) (k : Nat) : Prop where
  len : zs.length = t.length
  new : ∀ j, j < k → byt zs j = byt t j
  old : ∀ j, k ≤ j → byt zs j = byt s j
theorem Mix.set {zs s t : List Int} {k : Nat} {z : Int} (h : Mix zs s t k) (hk : k < t.length) (hz : z = byt t k) : Mix (zs.set k z) s t (k + 1) := by
  have hk' : k < zs.length := by rw [h.len]; exact hk
  refine ⟨by simp [h.len], fun j hj => ?_, fun j hj => ?_⟩
  · rw [byt_set hk']
    split
    · next e => rw [e, hz]
    · exact h.new j (by omega)
  · rw [byt_set hk', if_neg (by omega)]
    exact h.old j (by omega)
theorem info8 : (Try.prog.info? 5).map (fun i => (i.zero, i.size, i.bytes)) = some (some (.int .u8 0), 1, 1) := by kernel_rfl

theorem byt_app_left {x y : List Int} {i : Nat} (h : i < x.length) : byt (x ++ y) i = byt x i := by
  unfold byt
  simp [List.getD, List.getElem?_append_left h]
theorem byt_app_right {x y : List Int} (i : Nat) : byt (x ++ y) (x.length + i) = byt y i := by
  unfold byt
  simp [List.getD, List.getElem?_append_right (Nat.le_add_right _ _)]
theorem AllB.app {x y : List Int} (hx : AllB x) (hy : AllB y) : AllB (x ++ y) := fun z hz => (List.mem_append.1 hz).elim (hx z) (hy z)
theorem ret_bool {b c : Bool} (h : b = c) : Ending.returned (.bool b) = .returned (.bool c) := by rw [h]

def Front (x y : List Int) (k : Nat) : Prop := ∀ j, j < k → byt x j = byt y j
theorem Front.zero (x y : List Int) : Front x y 0 := fun _ h => by omega
theorem Front.succ {x y : List Int} {k : Nat} (h : Front x y k) (e : byt x k = byt y k) : Front x y (k + 1) := fun j hj => by
  by_cases hk : j = k
  · rw [hk]; exact e
  · exact h j (by omega)
theorem Front.all {x y : List Int} {n : Nat} (hx : x.length = n) (hy : y.length = n) (h : Front x y n) : sameB x y = true :=
  sameB_true (byt_ext (by omega) fun i hi => h i (by omega))

theorem same_any (a b : Option Addr) (la ca lb cb : Nat) (x y : List Int) (w : World) (hx : Bys w a la x) (hy : Bys w b lb y) (hn : la ≤ 1000000000000) :
    Calls Try.prog 35 #[.slice a la ca, .slice b lb cb] w fun e w' => e = .returned (.bool (sameB x y)) ∧ ∃ q, w' = w.drewN q := by
  by_cases hl : la = lb
  · subst hl
    go_enter Try.func35, Try.ntmps35
    go_wp2
    go_loopw [5] (fun i wr => ∃ k q : Nat, k ≤ la ∧ i = .int .i64 k ∧ wr = w.drewN q ∧ Front x y k) (fun i _ => la - (RowKit.intOf i).toNat)
    case atStart => exact ⟨0, 0, Nat.zero_le _, rfl, rfl, Front.zero _ _⟩
    case round =>
      obtain ⟨k, q, hk, rfl, rfl, hf⟩ := hrel
      by_cases hlt : k < la
      · rcases hx.place with h0 | ⟨ba, oa, rfl, _, hca⟩
        · omega
        rcases hy.place with h0 | ⟨bb, ob, rfl, _, hcb⟩
        · omega
        have g1 := hca k hlt
        have g2 := hcb k hlt
        clear hca hcb
        go_wp2
        go_quiet (fail)
        go_wp2
        · have hs : Hid (sameB x y = false) := sameB_at (by simpa using (by assumption : (byt x k != byt y k) = true))
          clear hx hy hf
          go_ret
          exact ⟨ret_bool hs.out.symm, q + nq, by rw [World.drewN_drewN]⟩
        · go_roundw
          case rel => exact ⟨k + 1, q + nq, by omega, by go_num, rfl, hf.succ (by simpa using (by assumption : (byt x k != byt y k) = false))⟩
          case measure => simp [RowKit.intOf]; omega
      · obtain rfl : k = la := by omega
        have hs : Hid (sameB x y = true) := Front.all hx.len hy.len hf
        clear hx hy hf
        go_wp2
        go_ret
        exact ⟨ret_bool hs.out.symm, q, rfl⟩
  · have hs : sameB x y = false := sameB_len (by rw [hx.len, hy.len]; exact hl)
    have hne : ((la : Int) != (lb : Int)) = true := by simp; omega
    rw [hs]
    clear hs hx hy
    go_enter Try.func35, Try.ntmps35
    go_wp2
    go_ret
    exact ⟨rfl, 0, rfl⟩


/-- The slice value v, of the call's own blocks from B on, holds the bytes zs. -/
structure Own (w : World) (B : Nat) (v : Value) (n : Nat) (zs : List Int) : Prop where
  row : w.ownsRow B 5 1 v n (zs.map (Value.int .u8))
  small : AllB zs
theorem Own.len {w : World} {B : Nat} {v : Value} {n : Nat} {zs : List Int} (h : Own w B v n zs) : zs.length = n := by simpa using h.row.1
theorem Own.form {w : World} {B : Nat} {v : Value} {n : Nat} {zs : List Int} (h : Own w B v n zs) : ∃ a c, v = .slice a n c ∧ (a = none → n = 0 ∧ c = 0) ∧ Bys w a n zs ∧ (∀ x, a = some x → B ≤ x.block ∧ x.block < w.heap.size) := by
  rcases h.row.2 with ⟨rfl, rfl⟩ | ⟨g, cap, cur, rfl, hb, hg, hnc, _, hsz, htake⟩
  · exact ⟨none, 0, rfl, (fun _ => ⟨rfl, rfl⟩), ⟨h.len, h.small, .inl rfl⟩, (fun x hx => by cases hx)⟩
  · refine ⟨some ⟨g, 0, none⟩, cap, rfl, (fun h => by cases h), ⟨h.len, h.small, .inr ⟨g, 0, rfl, lt_of_block hg, fun i hi => ?_⟩⟩, fun x hx => by cases hx; exact ⟨hb, lt_of_block hg⟩⟩
    have hl := h.len
    have hc := h.row.cellAt i (by omega)
    rw [Nat.zero_add, hc]
    simp [byt, List.getD, show i < zs.length by omega]
theorem Own.below {w w' : World} {B : Nat} {v : Value} {n : Nat} {zs : List Int} (h : Own w B v n zs) {C : Nat} (hC : w.heap.size ≤ C) (hb : Below C w w') : Own w' B v n zs :=
  ⟨h.row.kept (row := none) ⟨hb.os, hb.tape, hb.output, hb.size, fun k hk _ => hb.block k (by omega)⟩ (by cases v.ownBlock <;> simp), h.small⟩

theorem own_none (w : World) (B : Nat) (hB : B ≤ w.heap.size) : Own (w.alloc (.cells #[] 5)) B (.slice (some ⟨w.heap.size, 0, none⟩) 0 0) 0 [] :=
  ⟨World.ownsRow_lit w #[] 0 hB (Nat.zero_le _) rfl, fun z hz => by cases hz⟩

theorem Bys.alloc {w : World} {a : Option Addr} {n : Nat} {zs : List Int} (h : Bys w a n zs) (o : Obj) : Bys (w.alloc o) a n zs :=
  h.below (Nat.le_refl _) ((Below.refl _ _).alloc (Nat.le_refl _) _)
/-- 'append(s, x...)', s of the call's own, x any slice of bytes. -/
theorem wpList_ap {w : World} {ops : Array Oper} {rest : List Oper} {o : Oper} {a : Act} {Q : Exit → Act → World → Prop} (hgd : o.guard = none) (s x : Operand)
    (ho : o.op = .call { callee := .builtin .append, args := #[s, x], argTypes := #[50, 50] })
    (B : Nat) (v : Value) (n : Nat) (zs : List Int) (hs : a.eval s = v) (hown : Own w B v n zs) (ad : Option Addr) (m c : Nat) (ys : List Int) (hx : a.eval x = .slice ad m c) (hy : Bys w ad m ys) (hnil : ad = none → m = 0 ∧ c = 0)
    (hnm : n + m ≤ 140737488355328) (hB : B ≤ w.heap.size) (w0 : World) (hb : Below B w0 w)
    (h : ∀ v' w', Own w' B v' (n + m) (zs ++ ys) → Below B w0 w' → wpList Try.prog ops Q rest (a.put o.dst v') w') : wpList Try.prog ops Q (o :: rest) a w := by
  obtain ⟨i0, hi, hz0, hz1, hz2⟩ := info_parts info8
  cases ad with
  | none =>
    obtain ⟨rfl, rfl⟩ := hnil rfl
    obtain rfl : ys = [] := List.eq_nil_of_length_eq_zero hy.len
    exact wpList_append_own_none hgd s x 50 ho B 5 i0 1 Try.underlying50 hi v n _ hs hown.row hx (h v w (by simpa using hown) hb)
  | some p =>
    refine wpList_append_own w hgd s x 50 ho B 5 i0 (.int .u8 0) 1 1 Try.underlying50 hi hz0 hz1 hz2 rfl (by decide) v n _ hs hown.row p m c (ys.map (Value.int .u8)) hx (by simp [hy.len]) ?_ ?_ (by unfold maxLen; omega) (by omega) hB ?_
    · intro j u hj
      have hjm : j < m := by
        rcases Nat.lt_or_ge j m with h | h
        · exact h
        · rw [List.getElem?_eq_none (by simp [hy.len]; omega)] at hj; cases hj
      have hv : u = .int .u8 (byt ys j) := by
        rw [List.getElem?_map] at hj
        have hjx : j < ys.length := by rw [hy.len]; exact hjm
        simp [List.getElem?_eq_getElem hjx] at hj
        simp [byt, List.getD, hjx, hj]
      rcases hy.place with h0 | ⟨b, off, hp, _, hcell⟩
      · omega
      · cases hp
        rw [hv, show (⟨b, off, none⟩ : Addr).add j = ⟨b, off + j, none⟩ by unfold Addr.add; split <;> simp_all]
        exact hcell j hjm
    · intro u hu
      obtain ⟨z, _, rfl⟩ := List.mem_map.1 hu
      rfl
    · intro v' w' hown' hgrow _
      refine h v' w' ⟨by rw [List.map_append]; exact hown', hown.small.app hy.small⟩ (hb.grown hgrow hB fun k hk => (hown.row.lt k hk).1)


/-- The slice at a, of n bytes and room c, holds zs. -/
structure Pin (w : World) (a : Option Addr) (n c : Nat) (zs : List Int) : Prop where
  bys : Bys w a n zs
  nil : a = none → n = 0 ∧ c = 0
  cap : n ≤ c
  max : c ≤ 9223372036854775807
theorem Pin.below {w w' : World} {a : Option Addr} {n c : Nat} {zs : List Int} (h : Pin w a n c zs) {B : Nat} (hB : w.heap.size ≤ B) (hb : Below B w w') : Pin w' a n c zs := ⟨h.bys.below hB hb, h.nil, h.cap, h.max⟩
theorem Pin.next {w w' : World} {a : Option Addr} {n c : Nat} {zs : List Int} (h : Pin w a n c zs) (hb : Below w.heap.size w w') : Pin w' a n c zs := h.below (Nat.le_refl _) hb
theorem Pin.drewN {w : World} {a : Option Addr} {n c : Nat} {zs : List Int} (h : Pin w a n c zs) (q : Nat) : Pin (w.drewN q) a n c zs := ⟨h.bys.drewN q, h.nil, h.cap, h.max⟩
theorem Pin.alloc {w : World} {a : Option Addr} {n c : Nat} {zs : List Int} (h : Pin w a n c zs) (o : Obj) : Pin (w.alloc o) a n c zs := ⟨h.bys.alloc o, h.nil, h.cap, h.max⟩
theorem Pin.zero (w : World) : Pin w none 0 0 [] := ⟨Bys.none _, fun _ => ⟨rfl, rfl⟩, Nat.le_refl _, by omega⟩
theorem Pin.len {w : World} {a : Option Addr} {n c : Nat} {zs : List Int} (h : Pin w a n c zs) : zs.length = n := h.bys.len
theorem Blk.pin {w : World} {g c : Nat} {zs : List Int} (h : Blk w g zs) (hs : AllB zs) {n : Nat} (hn : zs.length = n) (hc : n ≤ c) (hm : c ≤ 9223372036854775807) : Pin w (some ⟨g, 0, none⟩) n c zs :=
  ⟨h.bysn hs hn, (fun h => by cases h), hc, hm⟩
theorem Own.pin {w : World} {B : Nat} {v : Value} {n : Nat} {zs : List Int} (h : Own w B v n zs) : ∃ a c, v = .slice a n c ∧ Pin w a n c zs ∧ (∀ x, a = some x → B ≤ x.block ∧ x.block < w.heap.size) := by
  obtain ⟨a, c, rfl, h1, h2, h3⟩ := h.form
  refine ⟨a, c, rfl, ⟨h2, h1, ?_, ?_⟩, h3⟩
  · rcases h.row.2 with ⟨e, _⟩ | ⟨g, cap, cur, e, hb, hg, hnc, hm, hsz, htake⟩
    · cases e; exact Nat.le_refl _
    · cases e; exact hnc
  · rcases h.row.2 with ⟨e, _⟩ | ⟨g, cap, cur, e, hb, hg, hnc, hm, hsz, htake⟩
    · cases e; omega
    · cases e; unfold maxLen at hm; omega
/-- The front of a piece, and what is behind it. -/
theorem Pin.front {w : World} {a : Option Addr} {n c : Nat} {zs : List Int} (h : Pin w a n c zs) {k : Nat} (hk : k ≤ n) (h0 : a = none → k = 0) : Pin w a k c (zs.take k) :=
  ⟨h.bys.front hk, fun e => ⟨h0 e, (h.nil e).2⟩, Nat.le_trans hk h.cap, h.max⟩
theorem Pin.rest {w : World} {b off n c : Nat} {zs : List Int} (h : Pin w (some ⟨b, off, none⟩) n c zs) (k : Nat) : Pin w (some ⟨b, off + k, none⟩) (n - k) (c - k) (zs.drop k) :=
  ⟨h.bys.rest k, (fun e => by cases e), Nat.sub_le_sub_right h.cap k, Nat.le_trans (Nat.sub_le _ _) h.max⟩
theorem Pin.at {w : World} {a : Option Addr} {n c : Nat} {zs : List Int} (h : Pin w a n c zs) (hn : 0 < n) : ∃ b off, a = some ⟨b, off, none⟩ ∧ b < w.heap.size ∧ ∀ i, i < n → w.cell? ⟨b, off + i, none⟩ = some (.int .u8 (byt zs i)) := by
  rcases h.bys.place with h0 | ⟨b, off, e, hlt, hc⟩
  · omega
  · exact ⟨b, off, e, hlt, hc⟩

/-- A piece that a call answers. -/
def RetS (w0 : World) (zs : List Int) (e : Ending) (w' : World) : Prop := ∃ a n c, e = .returned (.slice a n c) ∧ Pin w' a n c zs ∧ Below w0.heap.size w0 w'
/-- A piece and a bool. -/
def RetT (w0 : World) (zs : List Int) (ok : Bool) (e : Ending) (w' : World) : Prop := ∃ a n c, e = .returned (.tuple #[.slice a n c, .bool ok]) ∧ Pin w' a n c zs ∧ Below w0.heap.size w0 w'
/-- A piece that is new, and a bool. -/
def RetN (w0 : World) (zs : List Int) (ok : Bool) (e : Ending) (w' : World) : Prop :=
  ∃ a n c, e = .returned (.tuple #[.slice a n c, .bool ok]) ∧ Pin w' a n c zs ∧ (∀ x, a = some x → w0.heap.size ≤ x.block) ∧ Below w0.heap.size w0 w'
theorem RetN.t {w0 w' : World} {zs : List Int} {ok : Bool} {e : Ending} (h : RetN w0 zs ok e w') : RetT w0 zs ok e w' := by
  obtain ⟨a, n, c, he, hp, _, hb⟩ := h
  exact ⟨a, n, c, he, hp, hb⟩
theorem RetS.nil (w : World) : RetS w [] (.returned (.slice none 0 0)) w := ⟨_, _, _, rfl, Pin.zero _, Below.refl _ _⟩
theorem RetT.nil (w : World) (ok : Bool) : RetT w [] ok (.returned (.tuple #[.slice none 0 0, .bool ok])) w := ⟨_, _, _, rfl, Pin.zero _, Below.refl _ _⟩
/-- A slice of the call's own that holds zs. -/
def ConPost (w : World) (zs : List Int) (e : Ending) (w' : World) : Prop := ∃ v, e = .returned v ∧ Own w' w.heap.size v zs.length zs ∧ Below w.heap.size w w'
/-- A piece, as a row has it. -/
structure Pc where
  a : Option Addr
  n : Nat
  c : Nat
  zs : List Int
instance : Inhabited Pc := ⟨⟨none, 0, 0, []⟩⟩
/-- A row of n pieces. -/
structure Rws (w : World) (a : Option Addr) (n : Nat) (f : Nat → Pc) : Prop where
  place : n = 0 ∨ ∃ b off, a = some ⟨b, off, none⟩ ∧ b < w.heap.size ∧ ∀ i, i < n → w.cell? ⟨b, off + i, none⟩ = some (.slice (f i).a (f i).n (f i).c)
  each : ∀ i, i < n → Pin w (f i).a (f i).n (f i).c (f i).zs
theorem Rws.below {w w' : World} {a : Option Addr} {n : Nat} {f : Nat → Pc} (h : Rws w a n f) {B : Nat} (hB : w.heap.size ≤ B) (hb : Below B w w') : Rws w' a n f := by
  refine ⟨?_, fun i hi => (h.each i hi).below hB hb⟩
  rcases h.place with h0 | ⟨b, off, e, hlt, hc⟩
  · exact .inl h0
  · exact .inr ⟨b, off, e, Nat.lt_of_lt_of_le hlt hb.size, fun i hi => (hb.cell (p := ⟨b, off + i, none⟩) (by show b < B; omega)).trans (hc i hi)⟩
theorem Rws.next {w w' : World} {a : Option Addr} {n : Nat} {f : Nat → Pc} (h : Rws w a n f) (hb : Below w.heap.size w w') : Rws w' a n f := h.below (Nat.le_refl _) hb
theorem Rws.drewN {w : World} {a : Option Addr} {n : Nat} {f : Nat → Pc} (h : Rws w a n f) (q : Nat) : Rws (w.drewN q) a n f := h.next (below_drewN (Below.refl _ _) q)
theorem Rws.at {w : World} {a : Option Addr} {n : Nat} {f : Nat → Pc} (h : Rws w a n f) {i : Nat} (hi : i < n) :
    ∃ b off x k c zs, a = some ⟨b, off, none⟩ ∧ b < w.heap.size ∧ w.cell? ⟨b, off + i, none⟩ = some (.slice x k c) ∧ Pin w x k c zs ∧ (f i).zs = zs ∧ (f i).n = k := by
  rcases h.place with h0 | ⟨b, off, e, hlt, hc⟩
  · omega
  · exact ⟨b, off, _, _, _, _, e, hlt, hc i hi, h.each i hi, rfl, rfl⟩


theorem bys_of_row {w : World} {a : Option Addr} {len cap : Nat} {zs : List Int}
    (h : (a = none ∧ len = 0 ∧ cap = 0 ∧ zs = []) ∨ ∃ x, a = some x ∧ len ≤ cap ∧ cap ≤ maxLen ∧ zs.length = cap ∧ (∀ i, i < zs.length → w.cell? (x.add i) = some (.int .u8 (zs.getD i 0))) ∧ ∀ n ∈ zs, (Lit.int .u8 n).wf = true) :
    Bys w a len (zs.take len) ∧ (a = none → len = 0 ∧ cap = 0) := by
  rcases h with ⟨rfl, rfl, rfl, rfl⟩ | ⟨x, rfl, hl, hm, hz, hcell, hwz⟩
  · exact ⟨⟨rfl, (fun z hz => by cases hz), .inl rfl⟩, fun _ => ⟨rfl, rfl⟩⟩
  · have hs : AllB zs := fun z hz => by
      have := hwz z hz
      simp [Lit.wf, IntKind.min, IntKind.max, IntKind.signed, IntKind.bits] at this
      omega
    refine ⟨⟨by simp; omega, hs.take len, ?_⟩, fun h => by cases h⟩
    by_cases h0 : len = 0
    · exact .inl h0
    · refine .inr ?_
      obtain ⟨b, off, spot⟩ := x
      have hc := hcell 0 (by omega)
      have hspot : spot = none := by simpa [Addr.add] using World.cell?_spot hc
      subst hspot
      refine ⟨b, off, rfl, World.block_lt_of_cell? w ((⟨b, off, none⟩ : Addr).add 0) hc, fun i hi => ?_⟩
      have := hcell i (by omega)
      rw [show (⟨b, off, none⟩ : Addr).add i = ⟨b, off + i, none⟩ by unfold Addr.add; split <;> simp_all] at this
      rw [this, byt_take hi]
      rfl

end Go.Proofs.Ytegcjpocdfmpfaa
