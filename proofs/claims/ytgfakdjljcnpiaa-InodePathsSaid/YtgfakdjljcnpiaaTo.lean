/-
  What stands in bytes where a record has its numbers: the program's told, by contract.
-/
import Derived.Test.YtgfakdjljcnpiaaPu
import Derived.Shelf.Abstract
namespace Go.Proofs.Ytgfakdjljcnpiaa
open Go.RowKit
set_option linter.unusedVariables false
set_option linter.unusedSimpArgs false

theorem cell_alloc {w : World} {p : Addr} {v : Value} (h : w.cell? p = some v) (o : Obj) : (w.alloc o).cell? p = some v :=
  (((Below.refl w.heap.size w).alloc (Nat.le_refl _) o).cell (World.block_lt_of_cell? w p h)).trans h
theorem row_alloc {w : World} {b : Nat} {x : Array Value} {t : TypeId} {fr : Nat × Nat} (h : w.heap[b]? = some (.cells x t fr)) (o : Obj) : (w.alloc o).heap[b]? = some (.cells x t fr) :=
  (((Below.refl w.heap.size w).alloc (Nat.le_refl _) o).block b (lt_of_block h)).trans h
/-- A number's variable. -/
structure Mi (w : World) (b : Nat) (s : Int) : Prop where
  row : w.heap[b]? = some (.cells #[.int .i64 s] 3 (0, 0))
theorem Mi.lt {w : World} {b : Nat} {s : Int} (h : Mi w b s) : b < w.heap.size := lt_of_block h.row
theorem Mi.cell {w : World} {b : Nat} {s : Int} (h : Mi w b s) : w.cell? ⟨b, 0, none⟩ = some (.int .i64 s) := by
  rw [cell_of_row w b 0 _ _ (0, 0) h.row]; rfl
theorem Mi.free {w : World} {b : Nat} {s : Int} (h : Mi w b s) : w.frozen? ⟨b, 0, none⟩ = false := frozen_of_row w b 0 _ _ h.row
theorem Mi.set {w : World} {b : Nat} {s : Int} (h : Mi w b s) (t : Int) : Mi (w.setCell ⟨b, 0, none⟩ (.int .i64 t)) b t := by
  refine ⟨?_⟩
  rw [heap_setCell_same w b 0 _ _ _ h.row]
  rfl
theorem Mi.setCell {w : World} {b g : Nat} {s : Int} (h : Mi w b s) (hne : b ≠ g) (i : Nat) (v : Value) : Mi (w.setCell ⟨g, i, none⟩ v) b s := ⟨by rw [heap_setCell_other w ⟨g, i, none⟩ b v hne]; exact h.row⟩

theorem next_any (bb ba : Nat) (a : Option Addr) (n c : Nat) (x : List Int) (p k : Int) (w : World) (hb : w.cell? ⟨bb, 0, none⟩ = some (.slice a n c)) (hx : Bys w a n x) (hn : n ≤ 1000000000000) (hm : Mi w ba p) (hp : 0 ≤ p ∧ p ≤ 1000) (hk : 0 ≤ k ∧ k ≤ 4) :
    Calls Try.prog 47 #[.int .i64 k, .pointer (some ⟨bb, 0, none⟩), .pointer (some ⟨ba, 0, none⟩)] w fun e w' => e = .returned (.int .i64 (getV n x p k)) ∧ w' = w.setCell ⟨ba, 0, none⟩ (.int .i64 (p + k)) := by
  have hg := get_fun a n c p k x w hx hn
  obtain ⟨z, hz⟩ : ∃ z, z = getV n x p k := ⟨_, rfl⟩
  rw [← hz] at hg ⊢
  have w1 : IntKind.i64.wrap (p + k) = p + k := IntWalk.i64_in _ (by omega)
  have y0 := hm.cell
  have f0 := hm.free
  have l0 := hm.lt
  clear hz hx hm
  go_enter Try.func47, Try.ntmps47
  go_wp2_with (fail)
  refine hg.mono ?_
  rintro e w2 ⟨rfl, rfl⟩
  go_wp2_with (fail)
  go_ret
  exact ⟨rfl, rfl⟩

/-- told's state: the bytes' variable, the result's, the place's, the record's. -/
structure Tw (w0 w : World) (a : Option Addr) (n c : Nat) (x : List Int) (f : Nat → Int) (p : Int) : Prop where
  sl : w.cell? ⟨w0.heap.size, 0, none⟩ = some (.slice a n c)
  bys : Bys w a n x
  res : Rcb w (w0.heap.size + 1) noR
  pl : Mi w (w0.heap.size + 1 + 1) p
  rc : Rcb w (w0.heap.size + 1 + 1 + 1) f
  bel : Below w0.heap.size w0 w
  old : ∀ b off, a = some ⟨b, off, none⟩ → b < w0.heap.size ∨ n = 0
theorem bys_setCell {w : World} {a : Option Addr} {n : Nat} {x : List Int} (h : Bys w a n x) {g i : Nat} {v : Value} (hne : ∀ b off, a = some ⟨b, off, none⟩ → b ≠ g ∨ n = 0) : Bys (w.setCell ⟨g, i, none⟩ v) a n x := by
  refine ⟨h.len, h.small, ?_⟩
  rcases h.place with h0 | ⟨b, off, e, hlt, hc⟩
  · exact .inl h0
  · rcases hne b off e with h1 | h1
    · exact .inr ⟨b, off, e, by simpa using hlt, fun j hj => (World.cell?_setCell_other _ _ _ _ (fun e => h1 (congrArg Addr.block e).symm)).trans (hc j hj)⟩
    · exact .inl h1
section
variable {w0 w : World} {a : Option Addr} {n c : Nat} {x : List Int} {f : Nat → Int} {p : Int}
theorem Tw.call (h : Tw w0 w a n c x f p) (q : Int) : Tw w0 (w.setCell ⟨w0.heap.size + 1 + 1, 0, none⟩ (.int .i64 q)) a n c x f q :=
  ⟨(World.cell?_setCell_other _ _ _ _ (by simp)).trans h.sl, bys_setCell h.bys (g := w0.heap.size + 1 + 1) fun b off e => (h.old b off e).imp (fun h => by omega) id, h.res.setCell (by omega) _ _, h.pl.set q, h.rc.setCell (by omega) _ _, h.bel.setCell (by show w0.heap.size ≤ w0.heap.size + 1 + 1; omega) _, h.old⟩
theorem Tw.put (h : Tw w0 w a n c x f p) (i : Nat) (z : Int) : Tw w0 (w.setCell ⟨w0.heap.size + 1 + 1 + 1, i, none⟩ (.int .i64 z)) a n c x (upd f i z) p :=
  ⟨(World.cell?_setCell_other _ _ _ _ (by simp)).trans h.sl, bys_setCell h.bys (g := w0.heap.size + 1 + 1 + 1) fun b off e => (h.old b off e).imp (fun h => by omega) id, h.res.setCell (by omega) _ _, h.pl.setCell (by omega) _ _, h.rc.set i z, h.bel.setCell (by show w0.heap.size ≤ w0.heap.size + 1 + 1 + 1; omega) _, h.old⟩
theorem Tw.next (h : Tw w0 w a n c x f p) (hn : n ≤ 1000000000000) (k : Int) (hp : 0 ≤ p ∧ p ≤ 1000) (hk : 0 ≤ k ∧ k ≤ 4) :
    Calls Try.prog 47 #[.int .i64 k, .pointer (some ⟨w0.heap.size, 0, none⟩), .pointer (some ⟨w0.heap.size + 1 + 1, 0, none⟩)] w fun e w' => e = .returned (.int .i64 (getV n x p k)) ∧ Tw w0 w' a n c x f (p + k) :=
  (next_any _ _ a n c x p k w h.sl h.bys hn h.pl hp hk).mono fun e w' ⟨h1, h2⟩ => ⟨h1, by rw [h2]; exact h.call _⟩
end
theorem Tw.told {w0 w : World} {a : Option Addr} {c : Nat} {x : List Int} {f : Nat → Int} {p q : Int} (h : Tw w0 w a x.length c x f p) (hn : x.length ≤ 1000000000000) (k : Int) (i : Nat) (he : getV x.length x p k = tld x i) (hp : 0 ≤ p ∧ p ≤ 1000) (hk : 0 ≤ k ∧ k ≤ 4) (hq : p + k = q) :
    Calls Try.prog 47 #[.int .i64 k, .pointer (some ⟨w0.heap.size, 0, none⟩), .pointer (some ⟨w0.heap.size + 1 + 1, 0, none⟩)] w fun e w' => e = .returned (.int .i64 (tld x i)) ∧ Tw w0 w' a x.length c x f q :=
  (h.next hn k hp hk).mono fun e w' ⟨h1, h2⟩ => ⟨by rw [h1, he], by rw [← hq]; exact h2⟩
theorem Tw.cells {w0 w : World} {a : Option Addr} {n c : Nat} {x : List Int} {f : Nat → Int} {p : Int} (h : Tw w0 w a n c x f p) {i : Nat} (hi : i < 21) :
    w.cell? ⟨w0.heap.size + 1 + 1 + 1, i, none⟩ = some (.int .i64 (f i)) ∧ w.frozen? ⟨w0.heap.size + 1 + 1 + 1, i, none⟩ = false ∧ w0.heap.size + 1 + 1 + 1 < w.heap.size := ⟨h.rc.cell hi, h.rc.free i, h.rc.lt⟩
/-- The record as far as its first k numbers are told. -/
def ftR (x : List Int) (k : Nat) : Nat → Int := fun i => if i < k then tld x i else 0
theorem ftR_upd (x : List Int) (k : Nat) : upd (ftR x k) k (tld x k) = ftR x (k + 1) := by
  funext i
  unfold upd ftR
  by_cases h : i = k
  · subst h; simp
  · by_cases h2 : i < k
    · rw [if_neg h, if_pos h2, if_pos (by omega)]
    · rw [if_neg h, if_neg h2, if_neg (by omega)]
theorem ftR_zero (x : List Int) : ftR x 0 = noR := by
  funext i
  simp [ftR, noR]
theorem tld_ptr (x : List Int) (k : Nat) : tld x (3 + k) = getV x.length x ((7 + 2 * k : Nat) : Int) 2 := by
  have ep : posR (3 + k) = 7 + 2 * k := by unfold posR; rw [if_neg (by omega), if_neg (by omega), if_neg (by omega)]; omega
  have ew : widR (3 + k) = 2 := by unfold widR; rw [if_neg (by omega), if_neg (by omega)]
  rw [tld, ep, ew]
  rfl
theorem rcs_ft (x : List Int) : rcs (ftR x 21) = rcs (tld x) := rcs_congr fun i hi => by unfold ftR; rw [if_pos hi]

set_option maxHeartbeats 4000000 in
theorem told_any (a : Option Addr) (n c : Nat) (x : List Int) (w : World) (hx : Bys w a n x) (hn : n ≤ 1000000000) :
    Calls Try.prog 34 #[.slice a n c] w fun e w' => e = .returned (rcv (tld x)) ∧ Below w.heap.size w w' := by
  have hl := hx.len
  subst hl
  have HX := Lib.hid hx
  clear hx
  go_enter Try.func34, Try.ntmps34
  go_upto_region 4 with fail
  obtain ⟨wa, hwa⟩ : ∃ wa, wa = (((w.alloc (.cells #[.slice a x.length c] 25)).alloc (.cells #[.int .i64 0, .int .i64 0, .int .i64 0, .int .i64 0, .int .i64 0, .int .i64 0, .int .i64 0, .int .i64 0, .int .i64 0, .int .i64 0, .int .i64 0, .int .i64 0, .int .i64 0, .int .i64 0, .int .i64 0, .int .i64 0, .int .i64 0, .int .i64 0, .int .i64 0, .int .i64 0, .int .i64 0] 24)).alloc (.cells #[.int .i64 0] 3)).alloc (.cells #[.int .i64 0, .int .i64 0, .int .i64 0, .int .i64 0, .int .i64 0, .int .i64 0, .int .i64 0, .int .i64 0, .int .i64 0, .int .i64 0, .int .i64 0, .int .i64 0, .int .i64 0, .int .i64 0, .int .i64 0, .int .i64 0, .int .i64 0, .int .i64 0, .int .i64 0, .int .i64 0, .int .i64 0] 24) := ⟨_, rfl⟩
  have hT : Tw w wa a x.length c x (ftR x 0) 0 := by
    rw [hwa, ftR_zero]
    have b1 : Below w.heap.size w (w.alloc (.cells #[.slice a x.length c] 25)) := (Below.refl _ _).alloc (Nat.le_refl _) _
    refine ⟨cell_alloc (cell_alloc (cell_alloc (show (w.alloc (.cells #[.slice a x.length c] 25)).cell? ⟨w.heap.size, 0, none⟩ = some (.slice a x.length c) by simp) _) _) _, (((HX.out.alloc _).alloc _).alloc _).alloc _, ?_, ?_, ?_, ((b1.alloc (by simp) _).alloc (by simp; omega) _).alloc (by simp; omega) _, ?_⟩
    · have := ((Rcb.mk' (w.alloc (.cells #[.slice a x.length c] 25)) noR).alloc (.cells #[.int .i64 0] 3)).alloc (.cells (rcs noR) 24)
      rw [show (w.alloc (.cells #[.slice a x.length c] 25)).heap.size = w.heap.size + 1 by simp] at this
      exact this
    · have := row_alloc (heap_alloc_new (((w.alloc (.cells #[.slice a x.length c] 25)).alloc (.cells (rcs noR) 24))) (.cells #[.int .i64 0] 3 (0, 0))) (.cells (rcs noR) 24)
      rw [show ((w.alloc (.cells #[.slice a x.length c] 25)).alloc (.cells (rcs noR) 24)).heap.size = w.heap.size + 1 + 1 by simp] at this
      exact ⟨this⟩
    · have := Rcb.mk' (((w.alloc (.cells #[.slice a x.length c] 25)).alloc (.cells (rcs noR) 24)).alloc (.cells #[.int .i64 0] 3)) noR
      rw [show (((w.alloc (.cells #[.slice a x.length c] 25)).alloc (.cells (rcs noR) 24)).alloc (.cells #[.int .i64 0] 3)).heap.size = w.heap.size + 1 + 1 + 1 by simp] at this
      exact this
    · intro b off e
      rcases HX.out.place with h0 | ⟨b2, off2, e2, hlt, _⟩
      · exact .inr h0
      · rw [e] at e2
        cases e2
        exact .inl hlt
  rw [← hwa]
  have HT := Lib.hid hT
  clear hwa hT
  go_wp2_with (fail)
  refine (HT.out.told (q := 1) (by omega) 1 0 rfl (by omega) (by omega) (by omega)).mono ?_
  rintro e w2 ⟨rfl, hT⟩
  obtain ⟨c0, f0, l0⟩ := hT.cells (i := 0) (by omega)
  have hT2 := hT.put (0) (tld x (0))
  rw [ftR_upd] at hT2
  have HT2 := Lib.hid hT2
  clear hT hT2
  go_wp2_with (fail)
  clear c0 f0 l0
  refine (HT2.out.told (q := 3) (by omega) 2 1 rfl (by omega) (by omega) (by omega)).mono ?_
  rintro e w3 ⟨rfl, hT⟩
  obtain ⟨c0, f0, l0⟩ := hT.cells (i := 1) (by omega)
  have hT2 := hT.put (1) (tld x (1))
  rw [ftR_upd] at hT2
  have HT3 := Lib.hid hT2
  clear hT hT2
  go_wp2_with (fail)
  clear c0 f0 l0
  refine (HT3.out.told (q := ((7 + 2 * 0 : Nat) : Int)) (by omega) 4 2 rfl (by omega) (by omega) (by omega)).mono ?_
  rintro e w4 ⟨rfl, hT⟩
  obtain ⟨c0, f0, l0⟩ := hT.cells (i := 2) (by omega)
  have hT2 := hT.put (2) (tld x (2))
  rw [ftR_upd] at hT2
  have HT4 := Lib.hid hT2
  clear hT hT2
  go_wp2_with (fail)
  clear c0 f0 l0 HT HT2 HT3
  go_loopw [6, 17] (fun _p v wr => ∃ k : Nat, k ≤ 16 ∧ v = .int .i64 k ∧ Tw w wr a x.length c x (ftR x (3 + k)) ((7 + 2 * k : Nat) : Int)) (fun _ v _ => 16 - (RowKit.intOf v).toNat)
  case atStart => exact ⟨0, by omega, rfl, HT4.out⟩
  case round =>
    obtain ⟨k, hk, rfl, hT5⟩ := hrel
    have HT5 := Lib.hid hT5
    clear hT5
    by_cases hlt : k < 16
    · go_wp2_with (fail)
      refine (HT5.out.told (q := ((7 + 2 * (k + 1) : Nat) : Int)) (by omega) 2 (3 + k) (tld_ptr x k).symm (by omega) (by omega) (by omega)).mono ?_
      rintro e w6 ⟨rfl, hT⟩
      obtain ⟨c0, f0, l0⟩ := hT.cells (i := 3 + k) (by omega)
      have hT2 := hT.put (3 + k) (tld x (3 + k))
      rw [ftR_upd] at hT2
      have HT6 := Lib.hid hT2
      clear hT hT2
      go_wp2_with (fail)
      go_roundw
      case rel => exact ⟨k + 1, by omega, by go_num, HT6.out⟩
      case measure => simp [RowKit.intOf]; omega
    · obtain rfl : k = 16 := by omega
      go_wp2_with (fail)
      refine (HT5.out.told (q := ((7 + 2 * 17 : Nat) : Int)) (by omega) 2 19 (tld_ptr x 16).symm (by omega) (by omega) (by omega)).mono ?_
      rintro e w6 ⟨rfl, hT⟩
      obtain ⟨c0, f0, l0⟩ := hT.cells (i := 19) (by omega)
      have hT2 := hT.put (19) (tld x (19))
      rw [ftR_upd] at hT2
      have HT6 := Lib.hid hT2
      clear hT hT2
      go_wp2_with (fail)
      clear c0 f0 l0
      refine (HT6.out.told (q := ((7 + 2 * 18 : Nat) : Int)) (by omega) 2 20 (tld_ptr x 17).symm (by omega) (by omega) (by omega)).mono ?_
      rintro e w7 ⟨rfl, hT⟩
      obtain ⟨c0, f0, l0⟩ := hT.cells (i := 20) (by omega)
      have hT2 := hT.put (20) (tld x (20))
      rw [ftR_upd] at hT2
      have HT7 := Lib.hid hT2
      clear hT hT2
      go_upto_region 14 with fail
      obtain ⟨wz, hwz⟩ : ∃ wz, wz = w7.setCell ⟨w.heap.size + 1 + 1 + 1, 20, none⟩ (.int .i64 (tld x 20)) := ⟨_, rfl⟩
      have hT8 := HT7.out
      rw [← hwz] at hT8 ⊢
      have HT8 := Lib.hid hT8
      clear hwz hT8 HT7 c0 f0 l0
      go_wp2_with (first
        | (refine wpList_ldR (by rfl) (.tmp 5) rfl (w.heap.size + 1 + 1 + 1) rfl _ HT8.out.rc ?_)
        | (refine wpList_stR (by rfl) (.tmp 2) (.tmp 32) rfl (w.heap.size + 1) rfl (ftR x 21) rfl noR HT8.out.res ?_; intro wd hP7 hO7 hB7))
      refine bodyPost_ret (v := rcv (tld x)) ?_ rfl ?_
      · rw [show rcv (tld x) = rcv (ftR x 21) by unfold rcv; rw [rcs_ft]]
        exact res_c1 rfl _ _ ⟨w.heap.size + 1, 0, none⟩ _ rfl (Rcb.load hP7)
      · exact ⟨rfl, hB7 _ _ (by omega) HT8.out.bel⟩
end Go.Proofs.Ytgfakdjljcnpiaa
