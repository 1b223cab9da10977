/-
  Summaries: the program's GetSummary, by contract.
-/
import Derived.Test.YtcpplppccljmiaaSu2
namespace Go.Proofs.Ytcpplppccljmiaa
open Go.RowKit
set_option linter.unusedVariables false

/-- Four numbers in a block, free to be written. -/
structure M4 (w : World) (b : Nat) (c i n t : Int) : Prop where
  lt : b < w.heap.size
  c0 : w.cell? ⟨b, 0, none⟩ = some (.int .i64 c)
  c1 : w.cell? ⟨b, 1, none⟩ = some (.int .i64 i)
  c2 : w.cell? ⟨b, 2, none⟩ = some (.int .i64 n)
  c3 : w.cell? ⟨b, 3, none⟩ = some (.int .i64 t)
  f0 : w.frozen? ⟨b, 0, none⟩ = false
  f1 : w.frozen? ⟨b, 1, none⟩ = false
  f2 : w.frozen? ⟨b, 2, none⟩ = false
  f3 : w.frozen? ⟨b, 3, none⟩ = false
theorem M4.next {w w' : World} {b : Nat} {c i n t : Int} (h : M4 w b c i n t) (hb : Below w.heap.size w w') : M4 w' b c i n t :=
  ⟨Nat.lt_of_lt_of_le h.lt hb.size, (hb.cell (p := ⟨b, 0, none⟩) h.lt).trans h.c0, (hb.cell (p := ⟨b, 1, none⟩) h.lt).trans h.c1, (hb.cell (p := ⟨b, 2, none⟩) h.lt).trans h.c2, (hb.cell (p := ⟨b, 3, none⟩) h.lt).trans h.c3,
    (hb.frozen (p := ⟨b, 0, none⟩) h.lt).trans h.f0, (hb.frozen (p := ⟨b, 1, none⟩) h.lt).trans h.f1, (hb.frozen (p := ⟨b, 2, none⟩) h.lt).trans h.f2, (hb.frozen (p := ⟨b, 3, none⟩) h.lt).trans h.f3⟩
theorem M4.mk' (w : World) (c i n t : Int) (ty : TypeId) : M4 (w.alloc (.cells #[.int .i64 c, .int .i64 i, .int .i64 n, .int .i64 t] ty (0, 0))) w.heap.size c i n t := ⟨by simp, by simp, by simp, by simp, by simp, by simp, by simp, by simp, by simp⟩
def set4 (w : World) (b : Nat) (c i n t : Int) : World := (((w.setCell ⟨b, 0, none⟩ (.int .i64 c)).setCell ⟨b, 1, none⟩ (.int .i64 i)).setCell ⟨b, 2, none⟩ (.int .i64 n)).setCell ⟨b, 3, none⟩ (.int .i64 t)
theorem M4.set {w : World} {b : Nat} {c i n t : Int} (h : M4 w b c i n t) (p q r s : Int) : M4 (set4 w b p q r s) b p q r s := by
  refine ⟨by simpa [set4] using h.lt, ?_, ?_, ?_, ?_, by simpa [set4] using h.f0, by simpa [set4] using h.f1, by simpa [set4] using h.f2, by simpa [set4] using h.f3⟩
  · rw [set4, set_othG (by simp), set_othG (by simp), set_othG (by simp), set_sameG h.c0]
  · rw [set4, set_othG (by simp), set_othG (by simp), set_sameG ((set_othG (by simp)).trans h.c1)]
  · rw [set4, set_othG (by simp), set_sameG ((set_othG (by simp)).trans ((set_othG (by simp)).trans h.c2))]
  · rw [set4, set_sameG ((set_othG (by simp)).trans ((set_othG (by simp)).trans ((set_othG (by simp)).trans h.c3)))]
theorem _root_.Go.RowKit.Below.set4 {w0 w : World} {B b : Nat} {p q r s : Int} (h : Below B w0 w) (hb : B ≤ b) : Below B w0 (set4 w b p q r s) := (((h.setCell (p := ⟨b, 0, none⟩) hb _).setCell (p := ⟨b, 1, none⟩) hb _).setCell (p := ⟨b, 2, none⟩) hb _).setCell (p := ⟨b, 3, none⟩) hb _
/-- What GetSummary answers. -/
def gmS (ok : Bool) (c i n t : Int) : Value := if ok then umv c i n t else umv 0 0 0 0
def GsmPost (w : World) (ok : Bool) (c i n t : Int) (e : Ending) (w' : World) : Prop := e = .returned (.tuple #[gmS ok c i n t, .bool ok]) ∧ Below w.heap.size w w'
set_option maxRecDepth 100000 in
set_option maxHeartbeats 4000000 in
theorem getSum_no (d r s o ix : Int) (a : Option Addr) (la ca : Nat) (x : List Int) (w : World) (hx : Bys w a la x) (hn : la ≤ 1000000000000) (c i n t : Int) (hc : c = tv la x 1) (hi : i = tv la x 2) (hnn : n = tv la x 3) (ht : t = tv la x 4) (hok : sumO d r s c i n t = false) :
    Calls Try.prog 8 #[gv d r s, .agg #[.int .i64 o, .int .i64 ix, .slice a la ca]] w (GsmPost w false c i n t) := by
  have htd := fun W hB => told_any a la ca x W (hx.next (w' := W) hB) hn
  rw [← hc, ← hi, ← hnn, ← ht] at htd
  have hps := putSum_any d r s c i n t
  rw [hok] at hps
  obtain ⟨X, hX⟩ : ∃ X, X = ((w.alloc (.cells #[.int .i64 d, .int .i64 r, .int .i64 s] 23 (0, 0))).alloc (.cells #[.int .i64 o, .int .i64 ix, .slice a la ca] 28 (0, 0))).alloc (.cells #[.int .i64 0, .int .i64 0, .int .i64 0, .int .i64 0] 25 (0, 0)) := ⟨_, rfl⟩
  have hB : Below w.heap.size w X := by rw [hX]; exact bel3 _ _ _ _
  have hbx : Bx X w.heap.size d r s := by rw [hX]; exact ((Bx.mk' w d r s _).alloc _).alloc _
  have hgx : Gx X (w.heap.size + 1) o ix (.slice a la ca) := by
    rw [hX, show w.heap.size + 1 = (w.alloc (.cells #[.int .i64 d, .int .i64 r, .int .i64 s] 23 (0, 0))).heap.size by simp]
    exact (Gx.mk' _ o ix _ _).next ((Below.refl _ _).alloc (Nat.le_refl _) _)
  have hm4 : M4 X (w.heap.size + 1 + 1) 0 0 0 0 := by
    rw [hX, show w.heap.size + 1 + 1 = ((w.alloc (.cells #[.int .i64 d, .int .i64 r, .int .i64 s] 23 (0, 0))).alloc (.cells #[.int .i64 o, .int .i64 ix, .slice a la ca] 28 (0, 0))).heap.size by simp]
    exact M4.mk' _ 0 0 0 0 _
  have HT := Lib.hid (htd X hB)
  have HX := Lib.hid hx
  obtain ⟨g, hg⟩ : ∃ g, g = w.heap.size := ⟨_, rfl⟩
  obtain ⟨g1, hg1⟩ : ∃ k, k = w.heap.size + 1 := ⟨_, rfl⟩
  obtain ⟨g2, hg2⟩ : ∃ k, k = w.heap.size + 1 + 1 := ⟨_, rfl⟩
  have HL : Hid (w.heap.size ≤ g2) := Lib.hid (by omega)
  rw [← hg] at hbx
  rw [← hg1] at hgx
  rw [← hg2] at hm4
  have HA := Lib.hid (And.intro hB (And.intro hbx (And.intro hgx hm4)))
  have y0 := hgx.c0
  have y1 := hgx.c1
  have y2 := hgx.c2
  have HPS := Lib.hid hps
  unfold umv at HT HPS
  clear htd hps hB hbx hgx hm4 hc hi hnn ht hx hok
  go_enter Try.func8, Try.ntmps8
  go_wp2_with (fail)
  rw [← hX, ← hg2, ← hg1, ← hg]
  clear hX hg hg1 hg2
  refine HT.out.mono ?_
  rintro e w2 ⟨rfl, hb2⟩
  have hb2a := hb2.alloc hb2.size (.cells #[.int .i64 c, .int .i64 i, .int .i64 n, .int .i64 t] 25 (0, 0))
  have HA3 := Lib.hid (And.intro (HA.out.1.trans (hb2a.mono HA.out.1.size)) (And.intro (HA.out.2.1.next hb2a) (And.intro (HA.out.2.2.1.next hb2a) (HA.out.2.2.2.next hb2a))))
  have hbx2 := HA.out.2.1.next hb2
  have z0 := hbx2.c0
  have z1 := hbx2.c1
  have z2 := hbx2.c2
  have zl := hbx2.lt
  have HM := Lib.hid (M4.mk' w2 c i n t 25)
  clear hb2 hb2a hbx2 HA HT y0 y1 y2
  go_wp2_with (fail)
  refine (HPS.out _).mono ?_
  rintro e w4 ⟨rfl, hb4⟩
  have hb4' := HA3.out.1.trans (hb4.mono HA3.out.1.size)
  have hgx := HA3.out.2.2.1.next hb4
  have hm4 := HA3.out.2.2.2.next hb4
  have hms := HM.out.next hb4
  have HA4 := Lib.hid (And.intro hb4' (And.intro hgx (And.intro hm4 hms)))
  have y0 := hgx.c0
  have y1 := hgx.c1
  have y2 := hgx.c2
  have yl := hgx.lt
  have r0 := hm4.c0
  have r1 := hm4.c1
  have r2 := hm4.c2
  have r3 := hm4.c3
  have q0 := hm4.f0
  have q1 := hm4.f1
  have q2 := hm4.f2
  have q3 := hm4.f3
  have rl := hm4.lt
  clear hb4 hb4' hgx hm4 hms HA3 HM z0 z1 z2 zl HPS
  go_wp2_with (fail)
  have e0 := (HA4.out.2.2.1.set 0 0 0 0).next ((Below.refl _ _).alloc (Nat.le_refl _) (.cells #[.int .i64 0, .int .i64 0, .slice none 0 0] 28 (0, 0)))
  have e1 := HA4.out.1.set4 (p := 0) (q := 0) (r := 0) (s := 0) HL.out
  have e2 := e1.alloc e1.size (.cells #[.int .i64 0, .int .i64 0, .slice none 0 0] 28 (0, 0))
  have k0 := e0.c0
  have k1 := e0.c1
  have k2 := e0.c2
  have k3 := e0.c3
  unfold set4 at k0 k1 k2 k3
  exact bodyPost_ret (v := .tuple #[.agg #[.int .i64 0, .int .i64 0, .int .i64 0, .int .i64 0], .bool false]) (by simp [results, Try.results8, go_sem, k0, k1, k2, k3]) rfl ⟨rfl, e2⟩
set_option maxRecDepth 100000 in
set_option maxHeartbeats 4000000 in
theorem getSum_own (d r s o ix : Int) (a : Option Addr) (la ca : Nat) (x : List Int) (w : World) (hx : Bys w a la x) (hn : la ≤ 1000000000000) (c i n t : Int) (hc : c = tv la x 1) (hi : i = tv la x 2) (hnn : n = tv la x 3) (ht : t = tv la x 4) (hok : sumO d r s c i n t = true) (h1 : (o != 65535) = true) :
    Calls Try.prog 8 #[gv d r s, .agg #[.int .i64 o, .int .i64 ix, .slice a la ca]] w (GsmPost w false c i n t) := by
  have htd := fun W hB => told_any a la ca x W (hx.next (w' := W) hB) hn
  rw [← hc, ← hi, ← hnn, ← ht] at htd
  have hps := putSum_any d r s c i n t
  rw [hok] at hps
  obtain ⟨X, hX⟩ : ∃ X, X = ((w.alloc (.cells #[.int .i64 d, .int .i64 r, .int .i64 s] 23 (0, 0))).alloc (.cells #[.int .i64 o, .int .i64 ix, .slice a la ca] 28 (0, 0))).alloc (.cells #[.int .i64 0, .int .i64 0, .int .i64 0, .int .i64 0] 25 (0, 0)) := ⟨_, rfl⟩
  have hB : Below w.heap.size w X := by rw [hX]; exact bel3 _ _ _ _
  have hbx : Bx X w.heap.size d r s := by rw [hX]; exact ((Bx.mk' w d r s _).alloc _).alloc _
  have hgx : Gx X (w.heap.size + 1) o ix (.slice a la ca) := by
    rw [hX, show w.heap.size + 1 = (w.alloc (.cells #[.int .i64 d, .int .i64 r, .int .i64 s] 23 (0, 0))).heap.size by simp]
    exact (Gx.mk' _ o ix _ _).next ((Below.refl _ _).alloc (Nat.le_refl _) _)
  have hm4 : M4 X (w.heap.size + 1 + 1) 0 0 0 0 := by
    rw [hX, show w.heap.size + 1 + 1 = ((w.alloc (.cells #[.int .i64 d, .int .i64 r, .int .i64 s] 23 (0, 0))).alloc (.cells #[.int .i64 o, .int .i64 ix, .slice a la ca] 28 (0, 0))).heap.size by simp]
    exact M4.mk' _ 0 0 0 0 _
  have HT := Lib.hid (htd X hB)
  have HX := Lib.hid hx
  obtain ⟨g, hg⟩ : ∃ g, g = w.heap.size := ⟨_, rfl⟩
  obtain ⟨g1, hg1⟩ : ∃ k, k = w.heap.size + 1 := ⟨_, rfl⟩
  obtain ⟨g2, hg2⟩ : ∃ k, k = w.heap.size + 1 + 1 := ⟨_, rfl⟩
  have HL : Hid (w.heap.size ≤ g2) := Lib.hid (by omega)
  rw [← hg] at hbx
  rw [← hg1] at hgx
  rw [← hg2] at hm4
  have HA := Lib.hid (And.intro hB (And.intro hbx (And.intro hgx hm4)))
  have y0 := hgx.c0
  have y1 := hgx.c1
  have y2 := hgx.c2
  have HPS := Lib.hid hps
  unfold umv at HT HPS
  clear htd hps hB hbx hgx hm4 hc hi hnn ht hx hok
  go_enter Try.func8, Try.ntmps8
  go_wp2_with (fail)
  rw [← hX, ← hg2, ← hg1, ← hg]
  clear hX hg hg1 hg2
  refine HT.out.mono ?_
  rintro e w2 ⟨rfl, hb2⟩
  have hb2a := hb2.alloc hb2.size (.cells #[.int .i64 c, .int .i64 i, .int .i64 n, .int .i64 t] 25 (0, 0))
  have HA3 := Lib.hid (And.intro (HA.out.1.trans (hb2a.mono HA.out.1.size)) (And.intro (HA.out.2.1.next hb2a) (And.intro (HA.out.2.2.1.next hb2a) (HA.out.2.2.2.next hb2a))))
  have hbx2 := HA.out.2.1.next hb2
  have z0 := hbx2.c0
  have z1 := hbx2.c1
  have z2 := hbx2.c2
  have zl := hbx2.lt
  have HM := Lib.hid (M4.mk' w2 c i n t 25)
  clear hb2 hb2a hbx2 HA HT y0 y1 y2
  go_wp2_with (fail)
  refine (HPS.out _).mono ?_
  rintro e w4 ⟨q, rfl, hq, hql, hb4⟩
  have hb4' := HA3.out.1.trans (hb4.mono HA3.out.1.size)
  have hgx := HA3.out.2.2.1.next hb4
  have hm4 := HA3.out.2.2.2.next hb4
  have hms := HM.out.next hb4
  have HA4 := Lib.hid (And.intro hb4' (And.intro hgx (And.intro hm4 hms)))
  have y0 := hgx.c0
  have y1 := hgx.c1
  have y2 := hgx.c2
  have yl := hgx.lt
  have r0 := hm4.c0
  have r1 := hm4.c1
  have r2 := hm4.c2
  have r3 := hm4.c3
  have q0 := hm4.f0
  have q1 := hm4.f1
  have q2 := hm4.f2
  have q3 := hm4.f3
  have rl := hm4.lt
  clear hb4 hb4' hgx hm4 hms HA3 HM z0 z1 z2 zl HPS hq hql
  go_wp2_with (fail)
  have e0 := (HA4.out.2.2.1.set 0 0 0 0).next ((Below.refl _ _).alloc (Nat.le_refl _) (.cells #[.int .i64 65535, .int .i64 0, .slice (some ⟨q, 0, none⟩) 56 56] 28 (0, 0)))
  have e1 := HA4.out.1.set4 (p := 0) (q := 0) (r := 0) (s := 0) HL.out
  have e2 := e1.alloc e1.size (.cells #[.int .i64 65535, .int .i64 0, .slice (some ⟨q, 0, none⟩) 56 56] 28 (0, 0))
  have k0 := e0.c0
  have k1 := e0.c1
  have k2 := e0.c2
  have k3 := e0.c3
  unfold set4 at k0 k1 k2 k3
  exact bodyPost_ret (v := .tuple #[.agg #[.int .i64 0, .int .i64 0, .int .i64 0, .int .i64 0], .bool false]) (by simp [results, Try.results8, go_sem, k0, k1, k2, k3]) rfl ⟨rfl, e2⟩
set_option maxRecDepth 100000 in
set_option maxHeartbeats 4000000 in
theorem getSum_idx (d r s o ix : Int) (a : Option Addr) (la ca : Nat) (x : List Int) (w : World) (hx : Bys w a la x) (hn : la ≤ 1000000000000) (c i n t : Int) (hc : c = tv la x 1) (hi : i = tv la x 2) (hnn : n = tv la x 3) (ht : t = tv la x 4) (hok : sumO d r s c i n t = true) (h1 : (o != 65535) = false) (h2 : (ix != 0) = true) :
    Calls Try.prog 8 #[gv d r s, .agg #[.int .i64 o, .int .i64 ix, .slice a la ca]] w (GsmPost w false c i n t) := by
  have htd := fun W hB => told_any a la ca x W (hx.next (w' := W) hB) hn
  rw [← hc, ← hi, ← hnn, ← ht] at htd
  have hps := putSum_any d r s c i n t
  rw [hok] at hps
  obtain ⟨X, hX⟩ : ∃ X, X = ((w.alloc (.cells #[.int .i64 d, .int .i64 r, .int .i64 s] 23 (0, 0))).alloc (.cells #[.int .i64 o, .int .i64 ix, .slice a la ca] 28 (0, 0))).alloc (.cells #[.int .i64 0, .int .i64 0, .int .i64 0, .int .i64 0] 25 (0, 0)) := ⟨_, rfl⟩
  have hB : Below w.heap.size w X := by rw [hX]; exact bel3 _ _ _ _
  have hbx : Bx X w.heap.size d r s := by rw [hX]; exact ((Bx.mk' w d r s _).alloc _).alloc _
  have hgx : Gx X (w.heap.size + 1) o ix (.slice a la ca) := by
    rw [hX, show w.heap.size + 1 = (w.alloc (.cells #[.int .i64 d, .int .i64 r, .int .i64 s] 23 (0, 0))).heap.size by simp]
    exact (Gx.mk' _ o ix _ _).next ((Below.refl _ _).alloc (Nat.le_refl _) _)
  have hm4 : M4 X (w.heap.size + 1 + 1) 0 0 0 0 := by
    rw [hX, show w.heap.size + 1 + 1 = ((w.alloc (.cells #[.int .i64 d, .int .i64 r, .int .i64 s] 23 (0, 0))).alloc (.cells #[.int .i64 o, .int .i64 ix, .slice a la ca] 28 (0, 0))).heap.size by simp]
    exact M4.mk' _ 0 0 0 0 _
  have HT := Lib.hid (htd X hB)
  have HX := Lib.hid hx
  obtain ⟨g, hg⟩ : ∃ g, g = w.heap.size := ⟨_, rfl⟩
  obtain ⟨g1, hg1⟩ : ∃ k, k = w.heap.size + 1 := ⟨_, rfl⟩
  obtain ⟨g2, hg2⟩ : ∃ k, k = w.heap.size + 1 + 1 := ⟨_, rfl⟩
  have HL : Hid (w.heap.size ≤ g2) := Lib.hid (by omega)
  rw [← hg] at hbx
  rw [← hg1] at hgx
  rw [← hg2] at hm4
  have HA := Lib.hid (And.intro hB (And.intro hbx (And.intro hgx hm4)))
  have y0 := hgx.c0
  have y1 := hgx.c1
  have y2 := hgx.c2
  have HPS := Lib.hid hps
  unfold umv at HT HPS
  clear htd hps hB hbx hgx hm4 hc hi hnn ht hx hok
  go_enter Try.func8, Try.ntmps8
  go_wp2_with (fail)
  rw [← hX, ← hg2, ← hg1, ← hg]
  clear hX hg hg1 hg2
  refine HT.out.mono ?_
  rintro e w2 ⟨rfl, hb2⟩
  have hb2a := hb2.alloc hb2.size (.cells #[.int .i64 c, .int .i64 i, .int .i64 n, .int .i64 t] 25 (0, 0))
  have HA3 := Lib.hid (And.intro (HA.out.1.trans (hb2a.mono HA.out.1.size)) (And.intro (HA.out.2.1.next hb2a) (And.intro (HA.out.2.2.1.next hb2a) (HA.out.2.2.2.next hb2a))))
  have hbx2 := HA.out.2.1.next hb2
  have z0 := hbx2.c0
  have z1 := hbx2.c1
  have z2 := hbx2.c2
  have zl := hbx2.lt
  have HM := Lib.hid (M4.mk' w2 c i n t 25)
  clear hb2 hb2a hbx2 HA HT y0 y1 y2
  go_wp2_with (fail)
  refine (HPS.out _).mono ?_
  rintro e w4 ⟨q, rfl, hq, hql, hb4⟩
  have hb4' := HA3.out.1.trans (hb4.mono HA3.out.1.size)
  have hgx := HA3.out.2.2.1.next hb4
  have hm4 := HA3.out.2.2.2.next hb4
  have hms := HM.out.next hb4
  have HA4 := Lib.hid (And.intro hb4' (And.intro hgx (And.intro hm4 hms)))
  have y0 := hgx.c0
  have y1 := hgx.c1
  have y2 := hgx.c2
  have yl := hgx.lt
  have r0 := hm4.c0
  have r1 := hm4.c1
  have r2 := hm4.c2
  have r3 := hm4.c3
  have q0 := hm4.f0
  have q1 := hm4.f1
  have q2 := hm4.f2
  have q3 := hm4.f3
  have rl := hm4.lt
  clear hb4 hb4' hgx hm4 hms HA3 HM z0 z1 z2 zl HPS hq hql
  go_wp2_with (fail)
  have e0 := (HA4.out.2.2.1.set 0 0 0 0).next ((Below.refl _ _).alloc (Nat.le_refl _) (.cells #[.int .i64 65535, .int .i64 0, .slice (some ⟨q, 0, none⟩) 56 56] 28 (0, 0)))
  have e1 := HA4.out.1.set4 (p := 0) (q := 0) (r := 0) (s := 0) HL.out
  have e2 := e1.alloc e1.size (.cells #[.int .i64 65535, .int .i64 0, .slice (some ⟨q, 0, none⟩) 56 56] 28 (0, 0))
  have k0 := e0.c0
  have k1 := e0.c1
  have k2 := e0.c2
  have k3 := e0.c3
  unfold set4 at k0 k1 k2 k3
  exact bodyPost_ret (v := .tuple #[.agg #[.int .i64 0, .int .i64 0, .int .i64 0, .int .i64 0], .bool false]) (by simp [results, Try.results8, go_sem, k0, k1, k2, k3]) rfl ⟨rfl, e2⟩
set_option maxRecDepth 100000 in
set_option maxHeartbeats 4000000 in
theorem getSum_diff (d r s o ix : Int) (a : Option Addr) (la ca : Nat) (x : List Int) (w : World) (hx : Bys w a la x) (hn : la ≤ 1000000000000) (c i n t : Int) (hc : c = tv la x 1) (hi : i = tv la x 2) (hnn : n = tv la x 3) (ht : t = tv la x 4) (hok : sumO d r s c i n t = true) (h1 : (o != 65535) = false) (h2 : (ix != 0) = false) (hsame : sameB x (sumL c i n t) = false) :
    Calls Try.prog 8 #[gv d r s, .agg #[.int .i64 o, .int .i64 ix, .slice a la ca]] w (GsmPost w false c i n t) := by
  have htd := fun W hB => told_any a la ca x W (hx.next (w' := W) hB) hn
  rw [← hc, ← hi, ← hnn, ← ht] at htd
  have hps := putSum_any d r s c i n t
  rw [hok] at hps
  obtain ⟨X, hX⟩ : ∃ X, X = ((w.alloc (.cells #[.int .i64 d, .int .i64 r, .int .i64 s] 23 (0, 0))).alloc (.cells #[.int .i64 o, .int .i64 ix, .slice a la ca] 28 (0, 0))).alloc (.cells #[.int .i64 0, .int .i64 0, .int .i64 0, .int .i64 0] 25 (0, 0)) := ⟨_, rfl⟩
  have hB : Below w.heap.size w X := by rw [hX]; exact bel3 _ _ _ _
  have hbx : Bx X w.heap.size d r s := by rw [hX]; exact ((Bx.mk' w d r s _).alloc _).alloc _
  have hgx : Gx X (w.heap.size + 1) o ix (.slice a la ca) := by
    rw [hX, show w.heap.size + 1 = (w.alloc (.cells #[.int .i64 d, .int .i64 r, .int .i64 s] 23 (0, 0))).heap.size by simp]
    exact (Gx.mk' _ o ix _ _).next ((Below.refl _ _).alloc (Nat.le_refl _) _)
  have hm4 : M4 X (w.heap.size + 1 + 1) 0 0 0 0 := by
    rw [hX, show w.heap.size + 1 + 1 = ((w.alloc (.cells #[.int .i64 d, .int .i64 r, .int .i64 s] 23 (0, 0))).alloc (.cells #[.int .i64 o, .int .i64 ix, .slice a la ca] 28 (0, 0))).heap.size by simp]
    exact M4.mk' _ 0 0 0 0 _
  have HT := Lib.hid (htd X hB)
  have HX := Lib.hid hx
  obtain ⟨g, hg⟩ : ∃ g, g = w.heap.size := ⟨_, rfl⟩
  obtain ⟨g1, hg1⟩ : ∃ k, k = w.heap.size + 1 := ⟨_, rfl⟩
  obtain ⟨g2, hg2⟩ : ∃ k, k = w.heap.size + 1 + 1 := ⟨_, rfl⟩
  have HL : Hid (w.heap.size ≤ g2) := Lib.hid (by omega)
  rw [← hg] at hbx
  rw [← hg1] at hgx
  rw [← hg2] at hm4
  have HA := Lib.hid (And.intro hB (And.intro hbx (And.intro hgx hm4)))
  have y0 := hgx.c0
  have y1 := hgx.c1
  have y2 := hgx.c2
  have HPS := Lib.hid hps
  unfold umv at HT HPS
  clear htd hps hB hbx hgx hm4 hc hi hnn ht hx hok
  go_enter Try.func8, Try.ntmps8
  go_wp2_with (fail)
  rw [← hX, ← hg2, ← hg1, ← hg]
  clear hX hg hg1 hg2
  refine HT.out.mono ?_
  rintro e w2 ⟨rfl, hb2⟩
  have hb2a := hb2.alloc hb2.size (.cells #[.int .i64 c, .int .i64 i, .int .i64 n, .int .i64 t] 25 (0, 0))
  have HA3 := Lib.hid (And.intro (HA.out.1.trans (hb2a.mono HA.out.1.size)) (And.intro (HA.out.2.1.next hb2a) (And.intro (HA.out.2.2.1.next hb2a) (HA.out.2.2.2.next hb2a))))
  have hbx2 := HA.out.2.1.next hb2
  have z0 := hbx2.c0
  have z1 := hbx2.c1
  have z2 := hbx2.c2
  have zl := hbx2.lt
  have HM := Lib.hid (M4.mk' w2 c i n t 25)
  clear hb2 hb2a hbx2 HA HT y0 y1 y2
  go_wp2_with (fail)
  refine (HPS.out _).mono ?_
  rintro e w4 ⟨q, rfl, hq, hql, hb4⟩
  have hb4' := HA3.out.1.trans (hb4.mono HA3.out.1.size)
  have hgx := HA3.out.2.2.1.next hb4
  have hm4 := HA3.out.2.2.2.next hb4
  have hms := HM.out.next hb4
  have HA4 := Lib.hid (And.intro hb4' (And.intro hgx (And.intro hm4 hms)))
  have y0 := hgx.c0
  have y1 := hgx.c1
  have y2 := hgx.c2
  have yl := hgx.lt
  have r0 := hm4.c0
  have r1 := hm4.c1
  have r2 := hm4.c2
  have r3 := hm4.c3
  have q0 := hm4.f0
  have q1 := hm4.f1
  have q2 := hm4.f2
  have q3 := hm4.f3
  have rl := hm4.lt
  have heq := equal_any a (some ⟨q, 0, none⟩) la ca 56 56 x (sumL c i n t) (w4.alloc (.cells #[.int .i64 65535, .int .i64 0, .slice (some ⟨q, 0, none⟩) 56 56] 28 (0, 0))) ((HX.out.next hb4').alloc _) ((hq.bysn (sumL_small _ _ _ _) (sumL_len _ _ _ _)).alloc _)
  rw [hsame] at heq
  have HEQ := Lib.hid heq
  clear heq hsame
  clear hb4 hb4' hgx hm4 hms HA3 HM z0 z1 z2 zl HPS hq hql
  go_wp2_with (fail)
  refine HEQ.out.mono ?_
  rintro e w5 ⟨rfl, rfl⟩
  go_wp2_with (fail)
  have e0 := (HA4.out.2.2.1.set 0 0 0 0).next ((Below.refl _ _).alloc (Nat.le_refl _) (.cells #[.int .i64 65535, .int .i64 0, .slice (some ⟨q, 0, none⟩) 56 56] 28 (0, 0)))
  have e1 := HA4.out.1.set4 (p := 0) (q := 0) (r := 0) (s := 0) HL.out
  have e2 := e1.alloc e1.size (.cells #[.int .i64 65535, .int .i64 0, .slice (some ⟨q, 0, none⟩) 56 56] 28 (0, 0))
  have k0 := e0.c0
  have k1 := e0.c1
  have k2 := e0.c2
  have k3 := e0.c3
  unfold set4 at k0 k1 k2 k3
  exact bodyPost_ret (v := .tuple #[.agg #[.int .i64 0, .int .i64 0, .int .i64 0, .int .i64 0], .bool false]) (by simp [results, Try.results8, go_sem, k0, k1, k2, k3]) rfl ⟨rfl, e2⟩
set_option maxRecDepth 100000 in
set_option maxHeartbeats 4000000 in
theorem getSum_yes (d r s o ix : Int) (a : Option Addr) (la ca : Nat) (x : List Int) (w : World) (hx : Bys w a la x) (hn : la ≤ 1000000000000) (c i n t : Int) (hc : c = tv la x 1) (hi : i = tv la x 2) (hnn : n = tv la x 3) (ht : t = tv la x 4) (hok : sumO d r s c i n t = true) (h1 : (o != 65535) = false) (h2 : (ix != 0) = false) (hsame : sameB x (sumL c i n t) = true) :
    Calls Try.prog 8 #[gv d r s, .agg #[.int .i64 o, .int .i64 ix, .slice a la ca]] w (GsmPost w true c i n t) := by
  have htd := fun W hB => told_any a la ca x W (hx.next (w' := W) hB) hn
  rw [← hc, ← hi, ← hnn, ← ht] at htd
  have hps := putSum_any d r s c i n t
  rw [hok] at hps
  obtain ⟨X, hX⟩ : ∃ X, X = ((w.alloc (.cells #[.int .i64 d, .int .i64 r, .int .i64 s] 23 (0, 0))).alloc (.cells #[.int .i64 o, .int .i64 ix, .slice a la ca] 28 (0, 0))).alloc (.cells #[.int .i64 0, .int .i64 0, .int .i64 0, .int .i64 0] 25 (0, 0)) := ⟨_, rfl⟩
  have hB : Below w.heap.size w X := by rw [hX]; exact bel3 _ _ _ _
  have hbx : Bx X w.heap.size d r s := by rw [hX]; exact ((Bx.mk' w d r s _).alloc _).alloc _
  have hgx : Gx X (w.heap.size + 1) o ix (.slice a la ca) := by
    rw [hX, show w.heap.size + 1 = (w.alloc (.cells #[.int .i64 d, .int .i64 r, .int .i64 s] 23 (0, 0))).heap.size by simp]
    exact (Gx.mk' _ o ix _ _).next ((Below.refl _ _).alloc (Nat.le_refl _) _)
  have hm4 : M4 X (w.heap.size + 1 + 1) 0 0 0 0 := by
    rw [hX, show w.heap.size + 1 + 1 = ((w.alloc (.cells #[.int .i64 d, .int .i64 r, .int .i64 s] 23 (0, 0))).alloc (.cells #[.int .i64 o, .int .i64 ix, .slice a la ca] 28 (0, 0))).heap.size by simp]
    exact M4.mk' _ 0 0 0 0 _
  have HT := Lib.hid (htd X hB)
  have HX := Lib.hid hx
  obtain ⟨g, hg⟩ : ∃ g, g = w.heap.size := ⟨_, rfl⟩
  obtain ⟨g1, hg1⟩ : ∃ k, k = w.heap.size + 1 := ⟨_, rfl⟩
  obtain ⟨g2, hg2⟩ : ∃ k, k = w.heap.size + 1 + 1 := ⟨_, rfl⟩
  have HL : Hid (w.heap.size ≤ g2) := Lib.hid (by omega)
  rw [← hg] at hbx
  rw [← hg1] at hgx
  rw [← hg2] at hm4
  have HA := Lib.hid (And.intro hB (And.intro hbx (And.intro hgx hm4)))
  have y0 := hgx.c0
  have y1 := hgx.c1
  have y2 := hgx.c2
  have HPS := Lib.hid hps
  unfold umv at HT HPS
  clear htd hps hB hbx hgx hm4 hc hi hnn ht hx hok
  go_enter Try.func8, Try.ntmps8
  go_wp2_with (fail)
  rw [← hX, ← hg2, ← hg1, ← hg]
  clear hX hg hg1 hg2
  refine HT.out.mono ?_
  rintro e w2 ⟨rfl, hb2⟩
  have hb2a := hb2.alloc hb2.size (.cells #[.int .i64 c, .int .i64 i, .int .i64 n, .int .i64 t] 25 (0, 0))
  have HA3 := Lib.hid (And.intro (HA.out.1.trans (hb2a.mono HA.out.1.size)) (And.intro (HA.out.2.1.next hb2a) (And.intro (HA.out.2.2.1.next hb2a) (HA.out.2.2.2.next hb2a))))
  have hbx2 := HA.out.2.1.next hb2
  have z0 := hbx2.c0
  have z1 := hbx2.c1
  have z2 := hbx2.c2
  have zl := hbx2.lt
  have HM := Lib.hid (M4.mk' w2 c i n t 25)
  clear hb2 hb2a hbx2 HA HT y0 y1 y2
  go_wp2_with (fail)
  refine (HPS.out _).mono ?_
  rintro e w4 ⟨q, rfl, hq, hql, hb4⟩
  have hb4' := HA3.out.1.trans (hb4.mono HA3.out.1.size)
  have hgx := HA3.out.2.2.1.next hb4
  have hm4 := HA3.out.2.2.2.next hb4
  have hms := HM.out.next hb4
  have HA4 := Lib.hid (And.intro hb4' (And.intro hgx (And.intro hm4 hms)))
  have y0 := hgx.c0
  have y1 := hgx.c1
  have y2 := hgx.c2
  have yl := hgx.lt
  have r0 := hm4.c0
  have r1 := hm4.c1
  have r2 := hm4.c2
  have r3 := hm4.c3
  have q0 := hm4.f0
  have q1 := hm4.f1
  have q2 := hm4.f2
  have q3 := hm4.f3
  have rl := hm4.lt
  have s0 := hms.c0
  have s1 := hms.c1
  have s2 := hms.c2
  have s3 := hms.c3
  have sl := hms.lt
  have heq := equal_any a (some ⟨q, 0, none⟩) la ca 56 56 x (sumL c i n t) (w4.alloc (.cells #[.int .i64 65535, .int .i64 0, .slice (some ⟨q, 0, none⟩) 56 56] 28 (0, 0))) ((HX.out.next hb4').alloc _) ((hq.bysn (sumL_small _ _ _ _) (sumL_len _ _ _ _)).alloc _)
  rw [hsame] at heq
  have HEQ := Lib.hid heq
  clear heq hsame
  clear hb4 hb4' hgx hm4 hms HA3 HM z0 z1 z2 zl HPS hq hql
  go_wp2_with (fail)
  refine HEQ.out.mono ?_
  rintro e w5 ⟨rfl, rfl⟩
  go_wp2_with (fail)
  have e0 := (HA4.out.2.2.1.set c i n t).next ((Below.refl _ _).alloc (Nat.le_refl _) (.cells #[.int .i64 65535, .int .i64 0, .slice (some ⟨q, 0, none⟩) 56 56] 28 (0, 0)))
  have e1 := HA4.out.1.set4 (p := c) (q := i) (r := n) (s := t) HL.out
  have e2 := e1.alloc e1.size (.cells #[.int .i64 65535, .int .i64 0, .slice (some ⟨q, 0, none⟩) 56 56] 28 (0, 0))
  have k0 := e0.c0
  have k1 := e0.c1
  have k2 := e0.c2
  have k3 := e0.c3
  unfold set4 at k0 k1 k2 k3
  exact bodyPost_ret (v := .tuple #[.agg #[.int .i64 c, .int .i64 i, .int .i64 n, .int .i64 t], .bool true]) (by simp [results, Try.results8, go_sem, k0, k1, k2, k3]) rfl ⟨rfl, e2⟩
end Go.Proofs.Ytcpplppccljmiaa
