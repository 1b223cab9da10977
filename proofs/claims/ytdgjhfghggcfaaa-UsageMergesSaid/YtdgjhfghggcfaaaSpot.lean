/-
  Block, Parity, Address and Where of the program.
-/
import Derived.Test.YtdgjhfghggcfaaaRight
namespace Go.Proofs.Ytdgjhfghggcfaaa
open Go.RowKit

/-- A spot and whether it is one. -/
abbrev sv (x y : Int) (b : Bool) : Value := .tuple #[.agg #[.int .i64 x, .int .i64 y], .bool b]

theorem gr_bd {d r s g : Int} (h : Sg d r s g) : 0 ≤ g * r ∧ g * r ≤ 252 :=
  mul_bd (x := 63) (y := 4) h.g0 (by have := h.g1; have := h.s2; omega) (by have := h.r1; omega) h.r2
theorem kd_bd {d k : Int} (h1 : 3 ≤ d) (h2 : 0 ≤ k) : 0 ≤ k / (d - 1) ∧ k / (d - 1) ≤ k ∧ 0 ≤ k % (d - 1) ∧ k % (d - 1) < d - 1 :=
  ⟨Int.ediv_nonneg h2 (by omega), Int.ediv_le_self _ h2, Int.emod_nonneg _ (by omega), Int.emod_lt_of_pos _ (by omega)⟩

/-- A geometry lies in block b. -/
structure Bx (w : World) (b : Nat) (d r s : Int) : Prop where
  lt : b < w.heap.size
  c0 : w.cell? ⟨b, 0, none⟩ = some (.int .i64 d)
  c1 : w.cell? ⟨b, 1, none⟩ = some (.int .i64 r)
  c2 : w.cell? ⟨b, 2, none⟩ = some (.int .i64 s)
theorem Bx.below {w w' : World} {b B : Nat} {d r s : Int} (h : Bx w b d r s) (hb : Below B w w') (hB : w.heap.size ≤ B) : Bx w' b d r s := by
  have hl := Nat.lt_of_lt_of_le h.lt hB
  exact ⟨Nat.lt_of_lt_of_le h.lt hb.size, (hb.cell (p := ⟨b, 0, none⟩) hl).trans h.c0, (hb.cell (p := ⟨b, 1, none⟩) hl).trans h.c1, (hb.cell (p := ⟨b, 2, none⟩) hl).trans h.c2⟩
theorem Bx.next {w w' : World} {b : Nat} {d r s : Int} (h : Bx w b d r s) (hb : Below w.heap.size w w') : Bx w' b d r s := h.below hb (Nat.le_refl _)
theorem Bx.mk' (w : World) (d r s : Int) (t : TypeId) : Bx (w.alloc (.cells #[.int .i64 d, .int .i64 r, .int .i64 s] t (0, 0))) w.heap.size d r s :=
  ⟨by simp, by go_simp, by go_simp, by go_simp⟩
theorem Bx.alloc {w : World} {b : Nat} {d r s : Int} (h : Bx w b d r s) (o : Obj) : Bx (w.alloc o) b d r s := h.below (((Below.refl _ _).alloc (Nat.le_refl _) o)) (Nat.le_refl _)
theorem Bx.drew {w : World} {b : Nat} {d r s : Int} (h : Bx w b d r s) : Bx w.drew b d r s := ⟨h.lt, h.c0, h.c1, h.c2⟩
/-- A spot's cells, free. -/
structure Sx (w : World) (b : Nat) : Prop where
  lt : b < w.heap.size
  c0 : ∃ v, w.cell? ⟨b, 0, none⟩ = some v
  c1 : ∃ v, w.cell? ⟨b, 1, none⟩ = some v
  f0 : w.frozen? ⟨b, 0, none⟩ = false
  f1 : w.frozen? ⟨b, 1, none⟩ = false
theorem Sx.below {w w' : World} {b B : Nat} (h : Sx w b) (hb : Below B w w') (hB : w.heap.size ≤ B) : Sx w' b := by
  have hl := Nat.lt_of_lt_of_le h.lt hB
  obtain ⟨v, hv⟩ := h.c0
  obtain ⟨u, hu⟩ := h.c1
  exact ⟨Nat.lt_of_lt_of_le h.lt hb.size, ⟨v, (hb.cell (p := ⟨b, 0, none⟩) hl).trans hv⟩, ⟨u, (hb.cell (p := ⟨b, 1, none⟩) hl).trans hu⟩, (hb.frozen (p := ⟨b, 0, none⟩) hl).trans h.f0, (hb.frozen (p := ⟨b, 1, none⟩) hl).trans h.f1⟩
theorem Sx.next {w w' : World} {b : Nat} (h : Sx w b) (hb : Below w.heap.size w w') : Sx w' b := h.below hb (Nat.le_refl _)
theorem Sx.drew {w : World} {b : Nat} (h : Sx w b) : Sx w.drew b := ⟨h.lt, h.c0, h.c1, h.f0, h.f1⟩
theorem Sx.mk' (w : World) (x y : Value) (t : TypeId) : Sx (w.alloc (.cells #[x, y] t (0, 0))) w.heap.size :=
  ⟨by simp, ⟨x, by go_simp⟩, ⟨y, by go_simp⟩, by go_simp, by go_simp⟩
theorem two (w : World) (d r s : Int) (t t' : TypeId) :
    Bx ((w.alloc (.cells #[.int .i64 d, .int .i64 r, .int .i64 s] t (0, 0))).alloc (.cells #[.int .i64 0, .int .i64 0] t' (0, 0))) w.heap.size d r s ∧ Sx ((w.alloc (.cells #[.int .i64 d, .int .i64 r, .int .i64 s] t (0, 0))).alloc (.cells #[.int .i64 0, .int .i64 0] t' (0, 0))) (w.heap.size + 1) := by
  refine ⟨(Bx.mk' w d r s t).alloc _, ?_⟩
  have hs := Sx.mk' (w.alloc (.cells #[.int .i64 d, .int .i64 r, .int .i64 s] t (0, 0))) (.int .i64 0) (.int .i64 0) t'
  simpa using hs
theorem bel_two {w w2 : World} {B : Nat} (o o' : Obj) (hB : w.heap.size ≤ B) (hb : Below B ((w.alloc o).alloc o') w2) : Below w.heap.size w w2 :=
  (((Below.refl _ _).alloc (Nat.le_refl _) o).alloc (by simp) o').trans (hb.mono hB)

end Go.Proofs.Ytdgjhfghggcfaaa
