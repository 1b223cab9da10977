/-
  Three cells of the call's own, stored to.
-/
import Derived.Test.YtgdkcdgomopnfaaPuts
import Derived.Deep.RegionHeld3
namespace Go.Proofs.Ytgdkcdgomopnfaa
open Go.RowKit

/-- Three cells of the call's own, free to be written. -/
structure Rc (w : World) (b : Nat) : Prop where
  lt : b < w.heap.size
  c0 : ∃ v, w.cell? ⟨b, 0, none⟩ = some v
  c1 : ∃ v, w.cell? ⟨b, 1, none⟩ = some v
  c2 : ∃ v, w.cell? ⟨b, 2, none⟩ = some v
  f0 : w.frozen? ⟨b, 0, none⟩ = false
  f1 : w.frozen? ⟨b, 1, none⟩ = false
  f2 : w.frozen? ⟨b, 2, none⟩ = false
theorem Rc.mk' (w : World) (t : TypeId) : Rc (w.alloc (.cells #[.int .i64 0, .int .i64 0, .int .i64 0] t (0, 0))) w.heap.size :=
  ⟨by simp, ⟨_, by simp; rfl⟩, ⟨_, by simp; rfl⟩, ⟨_, by simp; rfl⟩, by go_simp, by go_simp, by go_simp⟩
theorem Rc.next {w w' : World} {b : Nat} (h : Rc w b) (hb : Below w.heap.size w w') : Rc w' b := by
  have hl := h.lt
  obtain ⟨x, hx⟩ := h.c0
  obtain ⟨y, hy⟩ := h.c1
  obtain ⟨z, hz⟩ := h.c2
  exact ⟨Nat.lt_of_lt_of_le hl hb.size, ⟨x, (hb.cell (p := ⟨b, 0, none⟩) hl).trans hx⟩, ⟨y, (hb.cell (p := ⟨b, 1, none⟩) hl).trans hy⟩, ⟨z, (hb.cell (p := ⟨b, 2, none⟩) hl).trans hz⟩,
    (hb.frozen (p := ⟨b, 0, none⟩) hl).trans h.f0, (hb.frozen (p := ⟨b, 1, none⟩) hl).trans h.f1, (hb.frozen (p := ⟨b, 2, none⟩) hl).trans h.f2⟩
theorem Rc.alloc {w : World} {b : Nat} (h : Rc w b) (o : Obj) : Rc (w.alloc o) b := h.next ((Below.refl _ _).alloc (Nat.le_refl _) o)
theorem Rc.drew {w : World} {b : Nat} (h : Rc w b) : Rc w.drew b := ⟨h.lt, h.c0, h.c1, h.c2, h.f0, h.f1, h.f2⟩

theorem set_oth {w : World} {a b : Addr} {v : Value} (h : a ≠ b) : (w.setCell a v).cell? b = w.cell? b := World.cell?_setCell_other _ _ _ _ h
theorem set_same {w : World} {a : Addr} {v u : Value} (h : w.cell? a = some u) : (w.setCell a v).cell? a = some v := World.cell?_setCell_same _ _ _ h
/-- Three numbers are stored into block b. -/
def setH (w : World) (b : Nat) (p q r : Int) : World := ((w.setCell ⟨b, 0, none⟩ (.int .i64 p)).setCell ⟨b, 1, none⟩ (.int .i64 q)).setCell ⟨b, 2, none⟩ (.int .i64 r)
theorem Rc.set {w : World} {b : Nat} (h : Rc w b) (p q r : Int) : Bx (setH w b p q r) b p q r := by
  obtain ⟨x, hx⟩ := h.c0
  obtain ⟨y, hy⟩ := h.c1
  obtain ⟨z, hz⟩ := h.c2
  refine ⟨by simpa [setH] using h.lt, ?_, ?_, ?_⟩
  · rw [setH, set_oth (by simp), set_oth (by simp), set_same hx]
  · rw [setH, set_oth (by simp), set_same ((set_oth (by simp)).trans hy)]
  · rw [setH, set_same ((set_oth (by simp)).trans ((set_oth (by simp)).trans hz))]
theorem setH_other {w : World} {b : Nat} (p q r : Int) {x : Addr} (h : b ≠ x.block) : (setH w b p q r).cell? x = w.cell? x := by
  have : ∀ k, (⟨b, k, none⟩ : Addr) ≠ x := fun k e => h (by rw [← e])
  rw [setH, set_oth (this 2), set_oth (this 1), set_oth (this 0)]
theorem Bx.setOther {w : World} {b b' : Nat} {p q r s o i : Int} (h : Bx w b' s o i) (hne : b ≠ b') : Bx (setH w b p q r) b' s o i :=
  ⟨by simpa [setH] using h.lt, (setH_other p q r hne).trans h.c0, (setH_other p q r hne).trans h.c1, (setH_other p q r hne).trans h.c2⟩
theorem Rc.setOther {w : World} {b b' : Nat} {p q r : Int} (h : Rc w b') (hne : b ≠ b') : Rc (setH w b p q r) b' := by
  obtain ⟨x, hx⟩ := h.c0
  obtain ⟨y, hy⟩ := h.c1
  obtain ⟨z, hz⟩ := h.c2
  exact ⟨by simpa [setH] using h.lt, ⟨x, (setH_other p q r hne).trans hx⟩, ⟨y, (setH_other p q r hne).trans hy⟩, ⟨z, (setH_other p q r hne).trans hz⟩, by simpa [setH] using h.f0, by simpa [setH] using h.f1, by simpa [setH] using h.f2⟩
theorem Own.setH {w : World} {B b : Nat} {p q r : Int} {v : Value} {n : Nat} {zs : List Int} (h : Own w B v n zs) (hb : b < B) : Own (setH w b p q r) B v n zs := ((h.setLow (p := ⟨b, 0, none⟩) hb _).setLow (p := ⟨b, 1, none⟩) hb _).setLow (p := ⟨b, 2, none⟩) hb _
theorem _root_.Go.RowKit.Below.setH {w0 w : World} {B b : Nat} {p q r : Int} (h : Below B w0 w) (hb : B ≤ b) : Below B w0 (setH w b p q r) := ((h.setCell (p := ⟨b, 0, none⟩) hb _).setCell (p := ⟨b, 1, none⟩) hb _).setCell (p := ⟨b, 2, none⟩) hb _


/-- One number lies in block b, free to be written. -/
structure M1 (w : World) (b : Nat) (s : Int) : Prop where
  lt : b < w.heap.size
  c0 : w.cell? ⟨b, 0, none⟩ = some (.int .i64 s)
  f0 : w.frozen? ⟨b, 0, none⟩ = false
theorem M1.next {w w' : World} {b : Nat} {s : Int} (h : M1 w b s) (hb : Below w.heap.size w w') : M1 w' b s :=
  ⟨Nat.lt_of_lt_of_le h.lt hb.size, (hb.cell (p := ⟨b, 0, none⟩) h.lt).trans h.c0, (hb.frozen (p := ⟨b, 0, none⟩) h.lt).trans h.f0⟩
theorem M1.mk' (w : World) (s : Int) (t : TypeId) : M1 (w.alloc (.cells #[.int .i64 s] t (0, 0))) w.heap.size s := ⟨by simp, by go_simp, by go_simp⟩
theorem M1.alloc {w : World} {b : Nat} {s : Int} (h : M1 w b s) (o : Obj) : M1 (w.alloc o) b s := h.next ((Below.refl _ _).alloc (Nat.le_refl _) o)
theorem M1.drew {w : World} {b : Nat} {s : Int} (h : M1 w b s) : M1 w.drew b s := ⟨h.lt, h.c0, h.f0⟩
theorem M1.set {w : World} {b : Nat} {s : Int} (h : M1 w b s) (t : Int) : M1 (w.setCell ⟨b, 0, none⟩ (.int .i64 t)) b t := ⟨by simpa using h.lt, set_same h.c0, by simpa using h.f0⟩
/-- Three numbers lie in block b, free to be written. -/
structure M3 (w : World) (b : Nat) (d r s : Int) : Prop extends Bx w b d r s where
  f0 : w.frozen? ⟨b, 0, none⟩ = false
  f1 : w.frozen? ⟨b, 1, none⟩ = false
  f2 : w.frozen? ⟨b, 2, none⟩ = false
theorem M3.next {w w' : World} {b : Nat} {d r s : Int} (h : M3 w b d r s) (hb : Below w.heap.size w w') : M3 w' b d r s :=
  ⟨h.toBx.next hb, (hb.frozen (p := ⟨b, 0, none⟩) h.lt).trans h.f0, (hb.frozen (p := ⟨b, 1, none⟩) h.lt).trans h.f1, (hb.frozen (p := ⟨b, 2, none⟩) h.lt).trans h.f2⟩
theorem M3.mk' (w : World) (d r s : Int) (t : TypeId) : M3 (w.alloc (.cells #[.int .i64 d, .int .i64 r, .int .i64 s] t (0, 0))) w.heap.size d r s := ⟨Bx.mk' w d r s t, by go_simp, by go_simp, by go_simp⟩
theorem M3.alloc {w : World} {b : Nat} {d r s : Int} (h : M3 w b d r s) (o : Obj) : M3 (w.alloc o) b d r s := h.next ((Below.refl _ _).alloc (Nat.le_refl _) o)
theorem M3.set {w : World} {b : Nat} {d r s : Int} (h : M3 w b d r s) (p q t : Int) : M3 (setH w b p q t) b p q t :=
  ⟨Rc.set ⟨h.lt, ⟨_, h.c0⟩, ⟨_, h.c1⟩, ⟨_, h.c2⟩, h.f0, h.f1, h.f2⟩ p q t, by simpa [setH] using h.f0, by simpa [setH] using h.f1, by simpa [setH] using h.f2⟩
theorem M3.drew {w : World} {b : Nat} {d r s : Int} (h : M3 w b d r s) : M3 w.drew b d r s := ⟨h.toBx.drew, h.f0, h.f1, h.f2⟩

end Go.Proofs.Ytgdkcdgomopnfaa
