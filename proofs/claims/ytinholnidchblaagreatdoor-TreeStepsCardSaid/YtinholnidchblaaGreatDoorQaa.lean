import Derived.Test.YtinholnidchblaaGreatDoorRows
import Derived.OrdersHeld
import Derived.Deep.RegionHeld
import Derived.WalkKit
import Derived.WalkSpells
import Derived.WalkLawsBesides
import Derived.WalkSmall
import Derived.Deep.QuietTactic
import Derived.BigQuiet
import Derived.IntWalk
import Derived.Lib.Hide
import Derived.Laws.CopyOwn
import Derived.ProofKit
import Derived.Laws.AppendOwnNone
set_option linter.unusedVariables false
set_option linter.unusedSimpArgs false
set_option maxRecDepth 100000
set_option maxHeartbeats 16000000
namespace Go.Proofs.YtinholnidchblaaGreatDoor
open Go.RowKit
theorem rg1 {α : Type _} {xs : List α} {i : Nat} {a : α} : xs.toArray.setIfInBounds i a = (xs.set i a).toArray := List.setIfInBounds_toArray ..
theorem rg2 {α : Type _} {x : α} {xs : List α} {a : α} : (x :: xs).set 0 a = a :: xs := List.set_cons_zero
theorem rg3 {α : Type _} {x : α} {xs : List α} {i : Nat} {a : α} : (x :: xs).set (i + 1) a = x :: xs.set i a := List.set_cons_succ
theorem rg4 {α : Type _} {xs : List α} {i : Nat} (h : i < xs.toArray.size) : xs.toArray[i] = xs[i]'(by simpa using h) := List.getElem_toArray h
theorem rg5 {α : Type _} (a : α) (xs : List α) (i : Nat) (h : i + 1 < (a :: xs).length) : (a :: xs)[i + 1] = xs[i]'(Nat.lt_of_succ_lt_succ h) := List.getElem_cons_succ ..
theorem rg6 {α : Type _} (a : α) (xs : List α) (h : 0 < (a :: xs).length) : (a :: xs)[0] = a := List.getElem_cons_zero ..
theorem rg {α : Type _} : (∀ (xs : List α) (i : Nat) (a : α), xs.toArray.setIfInBounds i a = (xs.set i a).toArray) ∧ (∀ (x : α) (xs : List α) (a : α), (x :: xs).set 0 a = a :: xs) ∧ (∀ (x : α) (xs : List α) (i : Nat) (a : α), (x :: xs).set (i + 1) a = x :: xs.set i a) ∧
  (∀ (xs : List α) (i : Nat) (h : i < xs.toArray.size), xs.toArray[i] = xs[i]'(by simpa using h)) ∧ (∀ (a : α) (xs : List α) (i : Nat) (h : i + 1 < (a :: xs).length), (a :: xs)[i + 1] = xs[i]'(Nat.lt_of_succ_lt_succ h)) ∧ (∀ (a : α) (xs : List α) (h : 0 < (a :: xs).length), (a :: xs)[0] = a) :=
 ⟨fun _ _ _ => rg1, fun _ _ _ => rg2, fun _ _ _ _ => rg3, fun _ _ h => rg4 h, rg5, rg6⟩
section
variable {P : Program} {ops : Array Oper} {Q : Exit → Act → World → Prop} {md : Region.Mode} {S : World → Prop}
theorem rgZ (i : Nat) (v : Value) {oi : Oper} {fuel : Nat} {listed : Array Bool} {a : Act} {w : World} (hi : ops[i]? = some oi) (hy : YieldsIf P ops S oi v a)
  (h : wpAnyH P md ops Q S fuel (listed.setIfInBounds i true) (a.put oi.dst v) w)
  (hs : (Region.noSelect ops && (Region.free md ops listed i && (Region.ready md ops listed).contains i)) = true)
  (hQ : ∀ c a w, Q (.panic c) (a.put oi.dst v) w → Q (.panic c) a w) (hS : S w) : wpAnyH P md ops Q S (fuel + 1) listed a w := by
 rw [Bool.and_eq_true, Bool.and_eq_true] at hs
 exact wpAnyH_take hi hs.1 hs.2.1 hs.2.2 hQ hy hS h
theorem rgC (i : Nat) {o : Oper} {fuel : Nat} {listed : Array Bool} {a : Act} {w : World} (ho : ops[i]? = some o) (hr : Region.ready md ops listed = [i])
  (h : ∀ K' : Act → World → Prop, Shut (∀ a w, S w → (S w → wpAnyH P md ops Q S fuel (listed.setIfInBounds i true) a w) → K' a w) → if Region.wanted o (yielded ops a.tmps) = true then Oper.wp P o a w K' Q else K' (a.put o.dst undef) w) :
  wpAnyH P md ops Q S (fuel + 1) listed a w := wpAnyH_ready (rs := [i]) hr (by simp) (AllReadyH.cons ho h AllReadyH.nil)
end
theorem qH {p : Prop} (h : p) : Hid p := Lib.hid h
def byt (zs : List Int) (i : Nat) : Int := zs.getD i 0
def AllB (zs : List Int) : Prop := ∀ z ∈ zs, 0 ≤ z ∧ z ≤ 255
structure Bys (w : World) (a : Option Addr) (n : Nat) (zs : List Int) : Prop where
 len : zs.length = n
 small : AllB zs
 place : n = 0 ∨ ∃ b off, a = some ⟨b, off, none⟩ ∧ b < w.heap.size ∧ ∀ i, i < n → w.cell? ⟨b, off + i, none⟩ = some (.int .u8 (byt zs i))
theorem byt_bd {zs : List Int} (h : AllB zs) (i : Nat) : 0 ≤ byt zs i ∧ byt zs i ≤ 255 := by
 unfold byt
 by_cases hi : i < zs.length
 ·have := h (zs.getD i 0) (by simp [hi])
  exact this
 ·simp [List.getD, List.getElem?_eq_none (Nat.le_of_not_lt hi)]
theorem Bys.below {w w' : World} {a : Option Addr} {n : Nat} {zs : List Int} (h : Bys w a n zs) {B : Nat} (hB : w.heap.size ≤ B) (hb : Below B w w') : Bys w' a n zs := by
 refine ⟨h.len, h.small, ?_⟩
 rcases h.place with h0 | ⟨b, off, ha, hlt, hc⟩
 ·exact .inl h0
 ·exact .inr ⟨b, off, ha, Nat.lt_of_lt_of_le hlt hb.size, fun i hi => (hb.cell (p := ⟨b, off + i, none⟩) (by show b < B; omega)).trans (hc i hi)⟩
theorem Bys.drewN {w : World} {a : Option Addr} {n : Nat} {zs : List Int} (h : Bys w a n zs) (q : Nat) : Bys (w.drewN q) a n zs :=
 h.below (Nat.le_refl _) (below_drewN (Below.refl _ _) q)
def sameB (x y : List Int) : Bool := decide (x = y)
theorem sameB_true {x y : List Int} (h : x = y) : sameB x y = true := by simp [sameB, h]
theorem sameB_false {x y : List Int} (h : x ≠ y) : sameB x y = false := by simp [sameB, h]
theorem byt_ext {x y : List Int} (hl : x.length = y.length) (h : ∀ i, i < x.length → byt x i = byt y i) : x = y := by
 apply List.ext_getElem hl
 intro i h1 h2
 have := h i h1
 simpa [byt, List.getD, h1, h2] using this
theorem sameB_len {x y : List Int} (h : x.length ≠ y.length) : sameB x y = false := sameB_false fun e => h (by rw [e])
theorem sameB_at {x y : List Int} {i : Nat} (h : byt x i ≠ byt y i) : sameB x y = false := sameB_false fun e => h (by rw [e])
def ints (zs : List Int) : Array Value := (zs.map (Value.int .u8)).toArray
structure Blk (w : World) (g : Nat) (zs : List Int) : Prop where
 row : w.heap[g]? = some (.cells (ints zs) 5 (0, 0))
theorem Blk.lt {w : World} {g : Nat} {zs : List Int} (h : Blk w g zs) : g < w.heap.size := lt_of_block h.row
theorem Blk.cell {w : World} {g : Nat} {zs : List Int} (h : Blk w g zs) {i : Nat} (hi : i < zs.length) : w.cell? ⟨g, i, none⟩ = some (.int .u8 (byt zs i)) := by
 rw [cell_of_row w g i _ _ (0, 0) h.row]
 simp [ints, byt, List.getD, hi]
theorem Blk.free {w : World} {g : Nat} {zs : List Int} (h : Blk w g zs) (i : Nat) : w.frozen? ⟨g, i, none⟩ = false := frozen_of_row w g i _ _ h.row
theorem Blk.set {w : World} {g : Nat} {zs : List Int} (h : Blk w g zs) (i : Nat) (z : Int) : Blk (w.setCell ⟨g, i, none⟩ (.int .u8 z)) g (zs.set i z) := by
 refine ⟨?_⟩
 rw [heap_setCell_same w g i _ _ _ h.row]
 congr 2
 apply Array.ext'
 simp [ints, List.map_set]
theorem Blk.below {w w' : World} {g : Nat} {zs : List Int} (h : Blk w g zs) {B : Nat} (hB : g < B) (hb : Below B w w') : Blk w' g zs := ⟨(hb.block g hB).trans h.row⟩
theorem AllB.take {zs : List Int} (h : AllB zs) (n : Nat) : AllB (zs.take n) := fun z hz => h z (List.mem_of_mem_take hz)
theorem AllB.drop {zs : List Int} (h : AllB zs) (n : Nat) : AllB (zs.drop n) := fun z hz => h z (List.mem_of_mem_drop hz)
theorem byt_take {zs : List Int} {n i : Nat} (h : i < n) : byt (zs.take n) i = byt zs i := by
 unfold byt
 simp [List.getD, h]
theorem byt_drop {zs : List Int} {n i : Nat} : byt (zs.drop n) i = byt zs (n + i) := by
 unfold byt
 simp [List.getD]
theorem byt_set {zs : List Int} {i : Nat} (h : i < zs.length) (z : Int) (j : Nat) : byt (zs.set i z) j = if j = i then z else byt zs j := by
 unfold byt
 by_cases e : j = i
 ·subst e; simp [List.getD, h]
 ·rw [if_neg e]; simp [List.getD, Ne.symm e]
theorem Blk.bys {w : World} {g : Nat} {zs : List Int} (h : Blk w g zs) (hs : AllB zs) {n : Nat} (hn : n ≤ zs.length) : Bys w (some ⟨g, 0, none⟩) n (zs.take n) :=
 ⟨by simp; omega, hs.take n, .inr ⟨g, 0, rfl, h.lt, fun i hi => by rw [Nat.zero_add, byt_take hi]; exact h.cell (by omega)⟩⟩
theorem Blk.all {w : World} {g : Nat} {zs : List Int} (h : Blk w g zs) (hs : AllB zs) : Bys w (some ⟨g, 0, none⟩) zs.length zs := by
 have := h.bys hs (Nat.le_refl _)
 rwa [List.take_of_length_le (Nat.le_refl _)] at this
theorem Blk.bysn {w : World} {g n : Nat} {zs : List Int} (h : Blk w g zs) (hs : AllB zs) (hn : zs.length = n) : Bys w (some ⟨g, 0, none⟩) n zs := by
 subst hn
 exact h.all hs
theorem Bys.front {w : World} {a : Option Addr} {n : Nat} {zs : List Int} (h : Bys w a n zs) {k : Nat} (hk : k ≤ n) : Bys w a k (zs.take k) := by
 refine ⟨by rw [List.length_take, h.len]; omega, h.small.take k, ?_⟩
 rcases h.place with h0 | ⟨b, off, ha, hlt, hc⟩
 ·exact .inl (by omega)
 ·exact .inr ⟨b, off, ha, hlt, fun i hi => by rw [byt_take hi]; exact hc i (by omega)⟩
theorem Bys.rest {w : World} {b off n : Nat} {zs : List Int} (h : Bys w (some ⟨b, off, none⟩) n zs) (k : Nat) : Bys w (some ⟨b, off + k, none⟩) (n - k) (zs.drop k) := by
 refine ⟨by rw [List.length_drop, h.len], h.small.drop k, ?_⟩
 rcases h.place with h0 | ⟨b', off', ha, hlt, hc⟩
 ·exact .inl (by omega)
 ·cases ha
  exact .inr ⟨b, off + k, rfl, hlt, fun i hi => by rw [byt_drop, Nat.add_assoc]; exact hc (k + i) (by omega)⟩
theorem Bys.none {w : World} (a : Option Addr) : Bys w a 0 [] := ⟨rfl, (fun z hz => by cases hz), .inl rfl⟩
structure Mix (zs s t : List Int) (k : Nat) : Prop where
 len : zs.length = t.length
 new : ∀ j, j < k → byt zs j = byt t j
 old : ∀ j, k ≤ j → byt zs j = byt s j
theorem Mix.start {zs t : List Int} (h : zs.length = t.length) : Mix zs zs t 0 := ⟨h, fun _ h => by omega, fun _ _ => rfl⟩
theorem Mix.set {zs s t : List Int} {k : Nat} {z : Int} (h : Mix zs s t k) (hk : k < t.length) (hz : z = byt t k) : Mix (zs.set k z) s t (k + 1) := by
 have hk' : k < zs.length := by rw [h.len]; exact hk
 refine ⟨by simp [h.len], fun j hj => ?_, fun j hj => ?_⟩
 ·rw [byt_set hk']
  split
  ·next e => rw [e, hz]
  ·exact h.new j (by omega)
 ·rw [byt_set hk', if_neg (by omega)]
  exact h.old j (by omega)
theorem Mix.done {zs s t : List Int} {k : Nat} (h : Mix zs s t k) (he : ∀ j, k ≤ j → j < t.length → byt s j = byt t j) : zs = t :=
 byt_ext h.len fun j hj => by
  by_cases e : j < k
  ·exact h.new j e
  ·rw [h.old j (by omega)]
   exact he j (by omega) (by rw [← h.len]; exact hj)
theorem info8 : (Tryz.prog.info? 5).map (fun i => (i.zero, i.size, i.bytes)) = some (some (.int .u8 0), 1, 1) := by kernel_rfl
theorem wpList_mk {w : World} {ops : Array Oper} {rest : List Oper} {o : Oper} {a : Act} {Q : Exit → Act → World → Prop}
  (hg : o.guard = none) (l c : Operand) (hop : o.op = Op.makeSlice 29 l c) (kl kc : IntKind) (L C : Int) (n : Nat) (hl : a.eval l = .int kl L) (hc : a.eval c = .int kc C) (hL : L = (n : Int)) (hC : C = (n : Int)) (b2 : n ≤ 281474976710656)
  (hK : ∀ w', Blk w' w.heap.size (List.replicate n 0) → Below w.heap.size w w' → wpList Tryz.prog ops Q rest (a.put o.dst (.slice (some ⟨w.heap.size, 0, none⟩) n n)) w') :
  wpList Tryz.prog ops Q (o :: rest) a w := by
 obtain ⟨i0, hi, hz0, hz1, hz2⟩ := info_parts info8
 refine wpList_make_full w hg l c 29 hop w.heap.size 5 i0 (.int .u8 0) 1 Tryz.underlying29 hi hz0 hz1 kl kc L C n hl hc hL hC (by rw [hz2]; omega) (by unfold maxLen; omega) (Nat.le_refl _) fun w' hown hgrow => hK w' ⟨?_⟩ ((Below.refl _ _).grown hgrow (Nat.le_refl _) (fun k h => by cases h))
 rcases hown.2 with ⟨h', _⟩ | ⟨g, cap, cur, h', _, hh, _, _, hsz, htake⟩
 ·simp at h'
 ·simp only [Value.slice.injEq, Option.some.injEq, Addr.mk.injEq, and_true, true_and] at h'
  obtain ⟨rfl, rfl⟩ := h'
  rw [hh]
  congr 2
  apply Array.ext'
  rw [List.take_of_length_le (by rw [Array.length_toList, hsz]; exact Nat.le_refl _)] at htake
  rw [htake, show (Value.int IntKind.u8 0).cells = #[Value.int .u8 0] from rfl, Nat.mul_one, toList_madeCells_one]
  simp [ints]
theorem AllB.app {x y : List Int} (hx : AllB x) (hy : AllB y) : AllB (x ++ y) := fun z hz => (List.mem_append.1 hz).elim (hx z) (hy z)
theorem AllB.zeros (n : Nat) : AllB (List.replicate n 0) := fun z hz => by rw [(List.mem_replicate.1 hz).2]; omega
theorem wpList_cp {w : World} {ops : Array Oper} {rest : List Oper} {o : Oper} {a : Act} {Q : Exit → Act → World → Prop}
  (hgd : o.guard = none) (d s : Operand) (ho : o.op = .call { callee := .builtin .copy, args := #[d, s], argTypes := #[29, 29] })
  (g dLen dCap n c : Nat) (ad : Option Addr) (hd : a.eval d = .slice (some ⟨g, 0, none⟩) dLen dCap) (hs : a.eval s = .slice ad n c) (zs x : List Int) (hg : Blk w g zs) (hx : Bys w ad n x) (hl : zs.length = dLen) (hn : n ≤ dLen)
  (B : Nat) (w0 : World) (hb : Below B w0 w) (hB : B ≤ g)
  (hK : ∀ w', Blk w' g (x ++ zs.drop n) → Below B w0 w' → wpList Tryz.prog ops Q rest (a.put o.dst (goInt n)) w') :
  wpList Tryz.prog ops Q (o :: rest) a w := by
 have hc : (x.map (Value.int .u8)).length = n := by rw [List.length_map]; exact hx.len
 refine wpList_copy_splice hgd d s 29 29 ho 5 Tryz.underlying29 (by kernel_rfl) _ _ _ _ _ _ hd hs g 0 (zs.map (Value.int .u8)) 5 hg.row (x.map (Value.int .u8)) (by rw [hc]; exact (Nat.min_eq_left hn).symm) ?_ (by rw [hc, List.length_map]; omega) ?_ B w0 hb hB ?_
 ·intro hpos
  refine ⟨rfl, ?_⟩
  rcases hx.place with h0 | ⟨b, off, rfl, _, hcell⟩
  ·omega
  ·refine ⟨_, rfl, fun j v hj => ?_⟩
   have hjn : j < n := by
    rcases Nat.lt_or_ge j n with h | h
    ·exact h
    ·rw [List.getElem?_eq_none (by omega)] at hj; cases hj
   have hv : v = .int .u8 (byt x j) := by
    rw [List.getElem?_map] at hj
    have hjx : j < x.length := by rw [hx.len]; exact hjn
    simp [List.getElem?_eq_getElem hjx] at hj
    simp [byt, List.getD, hjx, hj]
   rw [hv]; rw [show (⟨b, off, none⟩ : Addr).add j = ⟨b, off + j, none⟩ by unfold Addr.add; split <;> simp_all]
   exact hcell j hjn
 ·intro v hv
  obtain ⟨z, _, rfl⟩ := List.mem_map.1 hv
  rfl
 ·intro w' hrow hbel
  rw [hc]
  refine hK w' ⟨?_⟩ hbel
  rw [hrow.out]
  congr 2
  apply Array.ext'
  simp [splice, ints, hx.len]
theorem ret_bool {b c : Bool} (h : b = c) : Ending.returned (.bool b) = .returned (.bool c) := by rw [h]
def Front (x y : List Int) (k : Nat) : Prop := ∀ j, j < k → byt x j = byt y j
theorem Front.zero (x y : List Int) : Front x y 0 := fun _ h => by omega
theorem Front.succ {x y : List Int} {k : Nat} (h : Front x y k) (e : byt x k = byt y k) : Front x y (k + 1) := fun j hj => by
 by_cases hk : j = k
 ·rw [hk]; exact e
 ·exact h j (by omega)
theorem Front.all {x y : List Int} {n : Nat} (hx : x.length = n) (hy : y.length = n) (h : Front x y n) : sameB x y = true :=
 sameB_true (byt_ext (by omega) fun i hi => h i (by omega))
theorem same_any (a b : Option Addr) (la ca lb cb : Nat) (x y : List Int) (w : World) (hx : Bys w a la x) (hy : Bys w b lb y) (hn : la ≤ 1000000000000) :
  Calls Tryz.prog 23 #[.slice a la ca, .slice b lb cb] w fun e w' => e = .returned (.bool (sameB x y)) ∧ ∃ q, w' = w.drewN q := by
 by_cases hl : la = lb
 ·subst hl
  go_enter Tryz.func23, Tryz.ntmps23
  go_wp2
  go_loopw [5] (fun i wr => ∃ k q : Nat, k ≤ la ∧ i = .int .i64 k ∧ wr = w.drewN q ∧ Front x y k) (fun i _ => la - (RowKit.intOf i).toNat)
  case atStart => exact ⟨0, 0, Nat.zero_le _, rfl, rfl, Front.zero _ _⟩
  case round =>
   obtain ⟨k, q, hk, rfl, rfl, hf⟩ := hrel
   by_cases hlt : k < la
   ·rcases hx.place with h0 | ⟨ba, oa, rfl, _, hca⟩
    ·omega
    rcases hy.place with h0 | ⟨bb, ob, rfl, _, hcb⟩
    ·omega
    have g1 := hca k hlt; have g2 := hcb k hlt; clear hca hcb
    go_wp2
    go_quiet (fail)
    go_wp2
    ·have hs : Hid (sameB x y = false) := sameB_at (by simpa using (by assumption : (byt x k != byt y k) = true))
     clear hx hy hf; go_ret
     exact ⟨ret_bool hs.out.symm, q + nq, by rw [World.drewN_drewN]⟩
    ·go_roundw
     case rel => exact ⟨k + 1, q + nq, by omega, by go_num, rfl, hf.succ (by simpa using (by assumption : (byt x k != byt y k) = false))⟩
     case measure => simp [RowKit.intOf]; omega
   ·obtain rfl : k = la := by omega
    have hs : Hid (sameB x y = true) := Front.all hx.len hy.len hf; clear hx hy hf
    go_wp2
    go_ret
    exact ⟨ret_bool hs.out.symm, q, rfl⟩
 ·have hs : sameB x y = false := sameB_len (by rw [hx.len, hy.len]; exact hl)
  have hne : ((la : Int) != (lb : Int)) = true := by simp; omega
  rw [hs]
  clear hs hx hy
  go_enter Tryz.func23, Tryz.ntmps23
  go_wp2
  go_ret
  exact ⟨rfl, 0, rfl⟩
theorem same_eq (a b : Option Addr) (n ca cb : Nat) (x y : List Int) (w : World) (hx : Bys w a n x) (hy : Bys w b n y) (hn : n ≤ 1000000000000) (e : x = y) :
  Calls Tryz.prog 23 #[.slice a n ca, .slice b n cb] w fun e w' => e = .returned (.bool true) ∧ Below w.heap.size w w' := by
 have := same_any a b n ca n cb x y w hx hy hn
 rw [sameB_true e] at this
 exact this.mono fun e w' ⟨he, q, hw⟩ => ⟨he, hw ▸ below_drewN (Below.refl _ _) q⟩
structure Own (w : World) (B : Nat) (v : Value) (n : Nat) (zs : List Int) : Prop where
 row : w.ownsRow B 5 1 v n (zs.map (Value.int .u8))
 small : AllB zs
theorem Own.len {w : World} {B : Nat} {v : Value} {n : Nat} {zs : List Int} (h : Own w B v n zs) : zs.length = n := by simpa using h.row.1
theorem Own.form {w : World} {B : Nat} {v : Value} {n : Nat} {zs : List Int} (h : Own w B v n zs) : ∃ a c, v = .slice a n c ∧ (a = none → n = 0 ∧ c = 0) ∧ Bys w a n zs ∧ (∀ x, a = some x → B ≤ x.block ∧ x.block < w.heap.size) := by
 rcases h.row.2 with ⟨rfl, rfl⟩ | ⟨g, cap, cur, rfl, hb, hg, hnc, _, hsz, htake⟩
 ·exact ⟨none, 0, rfl, (fun _ => ⟨rfl, rfl⟩), ⟨h.len, h.small, .inl rfl⟩, (fun x hx => by cases hx)⟩
 ·refine ⟨some ⟨g, 0, none⟩, cap, rfl, (fun h => by cases h), ⟨h.len, h.small, .inr ⟨g, 0, rfl, lt_of_block hg, fun i hi => ?_⟩⟩, fun x hx => by cases hx; exact ⟨hb, lt_of_block hg⟩⟩
  have hl := h.len
  have hc := h.row.cellAt i (by omega)
  rw [Nat.zero_add, hc]
  simp [byt, List.getD, show i < zs.length by omega]
theorem Own.below {w w' : World} {B : Nat} {v : Value} {n : Nat} {zs : List Int} (h : Own w B v n zs) {C : Nat} (hC : w.heap.size ≤ C) (hb : Below C w w') : Own w' B v n zs :=
 ⟨h.row.kept (row := none) ⟨hb.os, hb.tape, hb.output, hb.size, fun k hk _ => hb.block k (by omega)⟩ (by cases v.ownBlock <;> simp), h.small⟩
theorem own_none (w : World) (B : Nat) (hB : B ≤ w.heap.size) : Own (w.alloc (.cells #[] 5)) B (.slice (some ⟨w.heap.size, 0, none⟩) 0 0) 0 [] :=
 ⟨World.ownsRow_lit w #[] 0 hB (Nat.zero_le _) rfl, fun z hz => by cases hz⟩
theorem blk_lit {w : World} {cs : Array Value} {zs : List Int} (h : cs = ints zs) : Blk (w.alloc (.cells cs 5)) w.heap.size zs := ⟨by rw [h]; exact heap_alloc_new w _⟩
theorem bys_one (w : World) {z : Int} (h : 0 ≤ z ∧ z ≤ 255) : Bys (w.alloc (.cells #[.int .u8 z] 5)) (some ⟨w.heap.size, 0, none⟩) 1 [z] :=
 (blk_lit (zs := [z]) rfl).all (fun y hy => by rw [List.mem_singleton.1 hy]; exact h)
theorem wpList_ap {w : World} {ops : Array Oper} {rest : List Oper} {o : Oper} {a : Act} {Q : Exit → Act → World → Prop} (hgd : o.guard = none) (s x : Operand)
  (ho : o.op = .call { callee := .builtin .append, args := #[s, x], argTypes := #[29, 29] })
  (B : Nat) (v : Value) (n : Nat) (zs : List Int) (hs : a.eval s = v) (hown : Own w B v n zs) (ad : Option Addr) (m c : Nat) (ys : List Int) (hx : a.eval x = .slice ad m c) (hy : Bys w ad m ys) (hnil : ad = none → m = 0 ∧ c = 0)
  (hnm : n + m ≤ 140737488355328) (hB : B ≤ w.heap.size) (w0 : World) (hb : Below B w0 w)
  (h : ∀ v' w', Own w' B v' (n + m) (zs ++ ys) → Below B w0 w' → wpList Tryz.prog ops Q rest (a.put o.dst v') w') : wpList Tryz.prog ops Q (o :: rest) a w := by
 obtain ⟨i0, hi, hz0, hz1, hz2⟩ := info_parts info8
 cases ad with
 | none =>
  obtain ⟨rfl, rfl⟩ := hnil rfl
  obtain rfl : ys = [] := List.eq_nil_of_length_eq_zero hy.len
  exact wpList_append_own_none hgd s x 29 ho B 5 i0 1 Tryz.underlying29 hi v n _ hs hown.row hx (h v w (by simpa using hown) hb)
 | some p =>
  refine wpList_append_own w hgd s x 29 ho B 5 i0 (.int .u8 0) 1 1 Tryz.underlying29 hi hz0 hz1 hz2 rfl (by decide) v n _ hs hown.row p m c (ys.map (Value.int .u8)) hx (by simp [hy.len]) ?_ ?_ (by unfold maxLen; omega) (by omega) hB ?_
  ·intro j u hj
   have hjm : j < m := by
    rcases Nat.lt_or_ge j m with h | h
    ·exact h
    ·rw [List.getElem?_eq_none (by simp [hy.len]; omega)] at hj; cases hj
   have hv : u = .int .u8 (byt ys j) := by
    rw [List.getElem?_map] at hj
    have hjx : j < ys.length := by rw [hy.len]; exact hjm
    simp [List.getElem?_eq_getElem hjx] at hj
    simp [byt, List.getD, hjx, hj]
   rcases hy.place with h0 | ⟨b, off, hp, _, hcell⟩
   ·omega
   ·cases hp
    rw [hv, show (⟨b, off, none⟩ : Addr).add j = ⟨b, off + j, none⟩ by unfold Addr.add; split <;> simp_all]
    exact hcell j hjm
  ·intro u hu
   obtain ⟨z, _, rfl⟩ := List.mem_map.1 hu
   rfl
  ·intro v' w' hown' hgrow _
   refine h v' w' ⟨by rw [List.map_append]; exact hown', hown.small.app hy.small⟩ (hb.grown hgrow hB fun k hk => (hown.row.lt k hk).1)
structure Pin (w : World) (a : Option Addr) (n c : Nat) (zs : List Int) : Prop where
 bys : Bys w a n zs
 nil : a = none → n = 0 ∧ c = 0
 cap : n ≤ c
 max : c ≤ 9223372036854775807
theorem Pin.below {w w' : World} {a : Option Addr} {n c : Nat} {zs : List Int} (h : Pin w a n c zs) {B : Nat} (hB : w.heap.size ≤ B) (hb : Below B w w') : Pin w' a n c zs := ⟨h.bys.below hB hb, h.nil, h.cap, h.max⟩
theorem Pin.next {w w' : World} {a : Option Addr} {n c : Nat} {zs : List Int} (h : Pin w a n c zs) (hb : Below w.heap.size w w') : Pin w' a n c zs := h.below (Nat.le_refl _) hb
theorem Pin.drewN {w : World} {a : Option Addr} {n c : Nat} {zs : List Int} (h : Pin w a n c zs) (q : Nat) : Pin (w.drewN q) a n c zs := ⟨h.bys.drewN q, h.nil, h.cap, h.max⟩
theorem Pin.zero (w : World) : Pin w none 0 0 [] := ⟨Bys.none _, fun _ => ⟨rfl, rfl⟩, Nat.le_refl _, by omega⟩
theorem Pin.len {w : World} {a : Option Addr} {n c : Nat} {zs : List Int} (h : Pin w a n c zs) : zs.length = n := h.bys.len
theorem Blk.pin {w : World} {g c : Nat} {zs : List Int} (h : Blk w g zs) (hs : AllB zs) {n : Nat} (hn : zs.length = n) (hc : n ≤ c) (hm : c ≤ 9223372036854775807) : Pin w (some ⟨g, 0, none⟩) n c zs :=
 ⟨h.bysn hs hn, (fun h => by cases h), hc, hm⟩
theorem Own.pin {w : World} {B : Nat} {v : Value} {n : Nat} {zs : List Int} (h : Own w B v n zs) : ∃ a c, v = .slice a n c ∧ Pin w a n c zs ∧ (∀ x, a = some x → B ≤ x.block ∧ x.block < w.heap.size) := by
 obtain ⟨a, c, rfl, h1, h2, h3⟩ := h.form
 refine ⟨a, c, rfl, ⟨h2, h1, ?_, ?_⟩, h3⟩
 ·rcases h.row.2 with ⟨e, _⟩ | ⟨g, cap, cur, e, hb, hg, hnc, hm, hsz, htake⟩
  ·cases e; exact Nat.le_refl _
  ·cases e; exact hnc
 ·rcases h.row.2 with ⟨e, _⟩ | ⟨g, cap, cur, e, hb, hg, hnc, hm, hsz, htake⟩
  ·cases e; omega
  ·cases e; unfold maxLen at hm; omega
theorem Pin.at {w : World} {a : Option Addr} {n c : Nat} {zs : List Int} (h : Pin w a n c zs) (hn : 0 < n) : ∃ b off, a = some ⟨b, off, none⟩ ∧ b < w.heap.size ∧ ∀ i, i < n → w.cell? ⟨b, off + i, none⟩ = some (.int .u8 (byt zs i)) := by
 rcases h.bys.place with h0 | ⟨b, off, e, hlt, hc⟩
 ·omega
 ·exact ⟨b, off, e, hlt, hc⟩
def ConPost (w : World) (zs : List Int) (e : Ending) (w' : World) : Prop := ∃ v, e = .returned v ∧ Own w' w.heap.size v zs.length zs ∧ Below w.heap.size w w'
theorem Bys.grown {w w' : World} {a : Option Addr} {n : Nat} {zs : List Int} (h : Bys w a n zs) {row : Option Nat} (hg : w.grownBy w' row) (hne : n = 0 ∨ ∀ x, a = some x → some x.block ≠ row) : Bys w' a n zs := by
 refine ⟨h.len, h.small, ?_⟩
 rcases h.place with h0 | ⟨b, off, e, hlt, hc⟩
 ·exact .inl h0
 rcases hne with h0 | hne
 ·exact .inl h0
 exact .inr ⟨b, off, e, Nat.lt_of_lt_of_le hlt hg.size, fun i hi => hg.cell (hc i hi) (hne ⟨b, off, Option.none⟩ e)⟩
theorem wpList_ap2 {w : World} {ops : Array Oper} {rest : List Oper} {o : Oper} {a : Act} {Q : Exit → Act → World → Prop} (hgd : o.guard = none) (s x : Operand)
  (ho : o.op = .call { callee := .builtin .append, args := #[s, x], argTypes := #[29, 29] })
  (B : Nat) (v : Value) (n : Nat) (zs : List Int) (hs : a.eval s = v) (hown : Own w B v n zs) (p : Addr) (m c : Nat) (ys : List Int) (hx : a.eval x = .slice (some p) m c) (hy : Bys w (some p) m ys)
  (hnm : n + m ≤ 140737488355328) (hB : B ≤ w.heap.size) (w0 : World) (hb : Below B w0 w)
  (h : ∀ v' w', Own w' B v' (n + m) (zs ++ ys) → Below B w0 w' → (∀ a n zs, Bys w a n zs → (n = 0 ∨ ∀ x, a = some x → some x.block ≠ v.ownBlock) → Bys w' a n zs) → wpList Tryz.prog ops Q rest (a.put o.dst v') w') : wpList Tryz.prog ops Q (o :: rest) a w := by
 obtain ⟨i0, hi, hz0, hz1, hz2⟩ := info_parts info8
 refine wpList_append_own w hgd s x 29 ho B 5 i0 (.int .u8 0) 1 1 Tryz.underlying29 hi hz0 hz1 hz2 rfl (by decide) v n _ hs hown.row p m c (ys.map (Value.int .u8)) hx (by simp [hy.len]) ?_ ?_ (by unfold maxLen; omega) (by omega) hB ?_
 ·intro j u hj
  have hjm : j < m := by
   rcases Nat.lt_or_ge j m with h | h
   ·exact h
   ·rw [List.getElem?_eq_none (by simp [hy.len]; omega)] at hj; cases hj
  have hv : u = .int .u8 (byt ys j) := by
   rw [List.getElem?_map] at hj
   have hjx : j < ys.length := by rw [hy.len]; exact hjm
   simp [List.getElem?_eq_getElem hjx] at hj
   simp [byt, List.getD, hjx, hj]
  rcases hy.place with h0 | ⟨b, off, hp, _, hcell⟩
  ·omega
  ·cases hp
   rw [hv, show (⟨b, off, none⟩ : Addr).add j = ⟨b, off + j, none⟩ by unfold Addr.add; split <;> simp_all]
   exact hcell j hjm
 ·intro u hu
  obtain ⟨z, _, rfl⟩ := List.mem_map.1 hu
  rfl
 ·intro v' w' hown' hgrow _
  exact h v' w' ⟨by rw [List.map_append]; exact hown', hown.small.app hy.small⟩ (hb.grown hgrow hB fun k hk => (hown.row.lt k hk).1) fun a n zs hp hne => hp.grown hgrow hne
structure Pc where
 a : Option Addr
 n : Nat
 c : Nat
 zs : List Int
instance : Inhabited Pc := ⟨⟨none, 0, 0, []⟩⟩
theorem bys_of_row {w : World} {a : Option Addr} {len cap : Nat} {zs : List Int}
  (h : (a = none ∧ len = 0 ∧ cap = 0 ∧ zs = []) ∨ ∃ x, a = some x ∧ len ≤ cap ∧ cap ≤ maxLen ∧ zs.length = cap ∧ (∀ i, i < zs.length → w.cell? (x.add i) = some (.int .u8 (zs.getD i 0))) ∧ ∀ n ∈ zs, (Lit.int .u8 n).wf = true) :
  Bys w a len (zs.take len) ∧ (a = none → len = 0 ∧ cap = 0) := by
 rcases h with ⟨rfl, rfl, rfl, rfl⟩ | ⟨x, rfl, hl, hm, hz, hcell, hwz⟩
 ·exact ⟨⟨rfl, (fun z hz => by cases hz), .inl rfl⟩, fun _ => ⟨rfl, rfl⟩⟩
 ·have hs : AllB zs := fun z hz => by
   have := hwz z hz
   simp [Lit.wf, IntKind.min, IntKind.max, IntKind.signed, IntKind.bits] at this
   omega
  refine ⟨⟨by simp; omega, hs.take len, ?_⟩, fun h => by cases h⟩
  by_cases h0 : len = 0
  ·exact .inl h0
  ·refine .inr ?_
   obtain ⟨b, off, spot⟩ := x; have hc := hcell 0 (by omega)
   have hspot : spot = none := by simpa [Addr.add] using World.cell?_spot hc
   subst hspot; refine ⟨b, off, rfl, World.block_lt_of_cell? w ((⟨b, off, none⟩ : Addr).add 0) hc, fun i hi => ?_⟩; have := hcell i (by omega); rw [show (⟨b, off, none⟩ : Addr).add i = ⟨b, off + i, none⟩ by unfold Addr.add; split <;> simp_all] at this; rw [this, byt_take hi]
   rfl
end Go.Proofs.YtinholnidchblaaGreatDoor
