/-
  Slices of infos; are they all of a group, and what group they make, by contract.
-/
import Derived.Test.YtcpplppccljmiaaIfs
namespace Go.Proofs.Ytcpplppccljmiaa
open Go.RowKit
set_option linter.unusedVariables false

/-- A slice of n infos. -/
structure Ifs (w : World) (a : Option Addr) (n : Nat) (L : List Inf) : Prop where
  len : L.length = n
  place : n = 0 ∨ ∃ b off, a = some ⟨b, off, none⟩ ∧ b < w.heap.size ∧ ∀ (k j : Nat) (x : Inf) (v : Value), L[k]? = some x → (ifc x)[j]? = some v → w.cell? ⟨b, off + k * 6 + j, none⟩ = some v
theorem Ifs.below {w w' : World} {a : Option Addr} {n : Nat} {L : List Inf} (h : Ifs w a n L) {B : Nat} (hB : w.heap.size ≤ B) (hb : Below B w w') : Ifs w' a n L := by
  refine ⟨h.len, ?_⟩
  rcases h.place with h0 | ⟨b, off, e, hlt, hc⟩
  · exact .inl h0
  · exact .inr ⟨b, off, e, Nat.lt_of_lt_of_le hlt hb.size, fun k j x v hk hj => (hb.cell (p := ⟨b, off + k * 6 + j, none⟩) (by show b < B; omega)).trans (hc k j x v hk hj)⟩
theorem Ifs.next {w w' : World} {a : Option Addr} {n : Nat} {L : List Inf} (h : Ifs w a n L) (hb : Below w.heap.size w w') : Ifs w' a n L := h.below (Nat.le_refl _) hb
/-- The info at a place. -/
theorem Ifs.at {w : World} {a : Option Addr} {n k : Nat} {L : List Inf} (h : Ifs w a n L) (hk : k < n) :
    ∃ b off g q c i m r, a = some ⟨b, off, none⟩ ∧ b < w.heap.size ∧ L[k]? = some ⟨g, q, c, i, m, r⟩ ∧ w.cell? ⟨b, off + k * 6, none⟩ = some (.int .i64 g) ∧ w.cell? ⟨b, off + k * 6 + 1, none⟩ = some (.int .i64 q) ∧
      w.cell? ⟨b, off + k * 6 + 2, none⟩ = some (.int .i64 c) ∧ w.cell? ⟨b, off + k * 6 + 3, none⟩ = some (.int .i64 i) ∧ w.cell? ⟨b, off + k * 6 + 4, none⟩ = some (.int .i64 m) ∧ w.cell? ⟨b, off + k * 6 + 5, none⟩ = some (.int .i64 r) := by
  have hl := h.len
  obtain ⟨x, hx⟩ : ∃ x, L[k]? = some x := ⟨L[k], List.getElem?_eq_getElem (by omega)⟩
  rcases h.place with h0 | ⟨b, off, e, hlt, hc⟩
  · omega
  · obtain ⟨g, q, c, i, m, r⟩ := x
    exact ⟨b, off, g, q, c, i, m, r, e, hlt, hx, hc k 0 _ _ hx rfl, hc k 1 _ _ hx rfl, hc k 2 _ _ hx rfl, hc k 3 _ _ hx rfl, hc k 4 _ _ hx rfl, hc k 5 _ _ hx rfl⟩

/-- The first k stand at their Index. -/
def OrdK (L : List Inf) (k : Nat) : Prop := ∀ (j : Nat) (x : Inf), j < k → L[j]? = some x → x.i = (j : Int)
theorem OrdK.zero (L : List Inf) : OrdK L 0 := fun j x h => by omega
theorem OrdK.succ {L : List Inf} {k : Nat} {x : Inf} (h : OrdK L k) (hx : L[k]? = some x) (e : x.i = (k : Int)) : OrdK L (k + 1) := fun j y hj hy => by
  rcases (by omega : j < k ∨ j = k) with h1 | rfl
  · exact h j y h1 hy
  · rw [hx] at hy; cases hy; exact e
theorem OrdK.all {L : List Inf} (h : OrdK L L.length) : OrdI L := fun k x hx => h k x (by
  rcases Nat.lt_or_ge k L.length with h1 | h1
  · exact h1
  · rw [List.getElem?_eq_none h1] at hx; cases hx) hx
def HasPost (L : List Inf) (cnt : Int) (w0 : World) (e : Ending) (w' : World) : Prop := ∃ ok : Bool, e = .returned (.bool ok) ∧ (ok = true ↔ ((L.length : Int) = cnt ∧ OrdI L)) ∧ Below w0.heap.size w0 w'

set_option maxHeartbeats 2000000 in
theorem hasEach_any (a : Option Addr) (n c : Nat) (L : List Inf) (cnt : Int) (w : World) (h : Ifs w a n L) (hn : n ≤ 1000000000000) :
    Calls Try.prog 27 #[.slice a n c, .int .i64 cnt] w (HasPost L cnt w) := by
  have HL := Lib.hid h.len
  by_cases hc : (n : Int) = cnt
  · have HC := Lib.hid hc
    have hne : (decide ((n : Int) = cnt)) = true := decide_eq_true hc
    go_enter Try.func27, Try.ntmps27
    go_wp2_with (fail)
    go_loopw [5, 6, 13] (fun _p _q v wr => ∃ k : Nat, k ≤ n ∧ v = .int .i64 k ∧ OrdK L k ∧ Below w.heap.size w wr) (fun _ _ v _ => n - (intOf v).toNat)
    case atStart => exact ⟨0, Nat.zero_le _, rfl, OrdK.zero L, Below.refl _ _⟩
    case round =>
      obtain ⟨k, hk, rfl, hor, hb⟩ := hrel
      have HO := Lib.hid hor
      have HB := Lib.hid hb
      have hbs := hb.size
      clear hor
      by_cases hlt : k < n
      · obtain ⟨b, off, g, q, c, i, m, r, rfl, hbl, hx, y0, y1, y2, y3, y4, y5⟩ := (h.next hb).at hlt
        have HX := Lib.hid hx
        clear hx h hb
        by_cases hi : i = (k : Int)
        · go_wp2_with (fail)
          go_roundw
          case rel => exact ⟨k + 1, by omega, by go_num, HO.out.succ HX.out hi, HB.out.alloc hbs _⟩
          case measure => simp [intOf]; omega
        · have d1 : (decide (i = (k : Int))) = false := decide_eq_false hi
          go_wp2_with (fail)
          go_ret
          refine ⟨false, rfl, ?_, HB.out.alloc hbs _⟩
          constructor
          · intro h; cases h
          · intro h; exact absurd (h.2 k _ HX.out) hi
      · obtain rfl : k = n := by omega
        clear h hb
        go_wp2_with (fail)
        go_ret
        refine ⟨true, rfl, ?_, HB.out⟩
        constructor
        · intro _
          exact ⟨by rw [HL.out]; exact HC.out, by have := HO.out; rw [← HL.out] at this; exact this.all⟩
        · intro _; rfl
  · have hne : (decide ((n : Int) = cnt)) = false := decide_eq_false hc
    have HC := Lib.hid hc
    clear h
    go_enter Try.func27, Try.ntmps27
    go_wp2_with (fail)
    go_ret
    refine ⟨false, rfl, ?_, Below.refl _ _⟩
    constructor
    · intro h; cases h
    · intro h; rw [HL.out] at h; exact absurd h.1 HC.out
end Go.Proofs.Ytcpplppccljmiaa
