/-
  Block, Parity, Address and Where of the program.
-/
import Derived.Test.YtodjeglcdjodfaaRight
namespace Go.Proofs.Ytodjeglcdjodfaa
open Go.RowKit

/-- A spot and whether it is one. -/
abbrev sv (x y : Int) (b : Bool) : Value := .tuple #[.agg #[.int .i64 x, .int .i64 y], .bool b]

theorem gr_bd {d r s g : Int} (h : Sg d r s g) : 0 ≤ g * r ∧ g * r ≤ 252 :=
  mul_bd (x := 63) (y := 4) h.g0 (by have := h.g1; have := h.s2; omega) (by have := h.r1; omega) h.r2
theorem kd_bd {d k : Int} (h1 : 3 ≤ d) (h2 : 0 ≤ k) : 0 ≤ k / (d - 1) ∧ k / (d - 1) ≤ k ∧ 0 ≤ k % (d - 1) ∧ k % (d - 1) < d - 1 :=
  ⟨Int.ediv_nonneg h2 (by omega), Int.ediv_le_self _ h2, Int.emod_nonneg _ (by omega), Int.emod_lt_of_pos _ (by omega)⟩

/-- A geometry lies in block b. -/
structure Bx (w : World) (b : Nat) (d r s : Int) : Prop where
  lt : b < w.heap.size
  c0 : w.cell? ⟨b, 0, none⟩ = some (.int .i64 d)
  c1 : w.cell? ⟨b, 1, none⟩ = some (.int .i64 r)
  c2 : w.cell? ⟨b, 2, none⟩ = some (.int .i64 s)
theorem Bx.below {w w' : World} {b B : Nat} {d r s : Int} (h : Bx w b d r s) (hb : Below B w w') (hB : w.heap.size ≤ B) : Bx w' b d r s := by
  have hl := Nat.lt_of_lt_of_le h.lt hB
  exact ⟨Nat.lt_of_lt_of_le h.lt hb.size, (hb.cell (p := ⟨b, 0, none⟩) hl).trans h.c0, (hb.cell (p := ⟨b, 1, none⟩) hl).trans h.c1, (hb.cell (p := ⟨b, 2, none⟩) hl).trans h.c2⟩
theorem Bx.next {w w' : World} {b : Nat} {d r s : Int} (h : Bx w b d r s) (hb : Below w.heap.size w w') : Bx w' b d r s := h.below hb (Nat.le_refl _)
theorem Bx.mk' (w : World) (d r s : Int) (t : TypeId) : Bx (w.alloc (.cells #[.int .i64 d, .int .i64 r, .int .i64 s] t (0, 0))) w.heap.size d r s :=
  ⟨by simp, by go_simp, by go_simp, by go_simp⟩
theorem Bx.alloc {w : World} {b : Nat} {d r s : Int} (h : Bx w b d r s) (o : Obj) : Bx (w.alloc o) b d r s := h.below (((Below.refl _ _).alloc (Nat.le_refl _) o)) (Nat.le_refl _)
theorem Bx.drew {w : World} {b : Nat} {d r s : Int} (h : Bx w b d r s) : Bx w.drew b d r s := ⟨h.lt, h.c0, h.c1, h.c2⟩
/-- A spot's cells, free. -/
structure Sx (w : World) (b : Nat) : Prop where
  lt : b < w.heap.size
  c0 : ∃ v, w.cell? ⟨b, 0, none⟩ = some v
  c1 : ∃ v, w.cell? ⟨b, 1, none⟩ = some v
  f0 : w.frozen? ⟨b, 0, none⟩ = false
  f1 : w.frozen? ⟨b, 1, none⟩ = false
theorem Sx.below {w w' : World} {b B : Nat} (h : Sx w b) (hb : Below B w w') (hB : w.heap.size ≤ B) : Sx w' b := by
  have hl := Nat.lt_of_lt_of_le h.lt hB
  obtain ⟨v, hv⟩ := h.c0
  obtain ⟨u, hu⟩ := h.c1
  exact ⟨Nat.lt_of_lt_of_le h.lt hb.size, ⟨v, (hb.cell (p := ⟨b, 0, none⟩) hl).trans hv⟩, ⟨u, (hb.cell (p := ⟨b, 1, none⟩) hl).trans hu⟩, (hb.frozen (p := ⟨b, 0, none⟩) hl).trans h.f0, (hb.frozen (p := ⟨b, 1, none⟩) hl).trans h.f1⟩
theorem Sx.next {w w' : World} {b : Nat} (h : Sx w b) (hb : Below w.heap.size w w') : Sx w' b := h.below hb (Nat.le_refl _)
theorem Sx.drew {w : World} {b : Nat} (h : Sx w b) : Sx w.drew b := ⟨h.lt, h.c0, h.c1, h.f0, h.f1⟩
theorem Sx.mk' (w : World) (x y : Value) (t : TypeId) : Sx (w.alloc (.cells #[x, y] t (0, 0))) w.heap.size :=
  ⟨by simp, ⟨x, by go_simp⟩, ⟨y, by go_simp⟩, by go_simp, by go_simp⟩
theorem two (w : World) (d r s : Int) (t t' : TypeId) :
    Bx ((w.alloc (.cells #[.int .i64 d, .int .i64 r, .int .i64 s] t (0, 0))).alloc (.cells #[.int .i64 0, .int .i64 0] t' (0, 0))) w.heap.size d r s ∧ Sx ((w.alloc (.cells #[.int .i64 d, .int .i64 r, .int .i64 s] t (0, 0))).alloc (.cells #[.int .i64 0, .int .i64 0] t' (0, 0))) (w.heap.size + 1) := by
  refine ⟨(Bx.mk' w d r s t).alloc _, ?_⟩
  have hs := Sx.mk' (w.alloc (.cells #[.int .i64 d, .int .i64 r, .int .i64 s] t (0, 0))) (.int .i64 0) (.int .i64 0) t'
  simpa using hs
theorem bel_two {w w2 : World} {B : Nat} (o o' : Obj) (hB : w.heap.size ≤ B) (hb : Below B ((w.alloc o).alloc o') w2) : Below w.heap.size w w2 :=
  (((Below.refl _ _).alloc (Nat.le_refl _) o).alloc (by simp) o').trans (hb.mono hB)

set_option maxHeartbeats 1000000 in
theorem parity_yes (d r s g k : Int) (w : World) (h : Sg d r s g) (k0 : 0 ≤ k) (k1 : k < r) :
    Calls Try.prog 22 #[gv d r s, .int .i64 g, .int .i64 k] w fun e w' => e = .returned (sv (PD d (g * r + k)) (5 + (g * r + k)) true) ∧ Below w.heap.size w w' := by
  obtain ⟨m1, m2⟩ := gr_bd h
  have d1 := h.d1
  have d2 := h.d2
  have r2 := h.r2
  obtain ⟨hx, hs'⟩ := two w d r s 23 30
  go_enter Try.func22, Try.ntmps22
  go_wp2_with (fail)
  with_reducible refine (hasSeg_yes d r s g _ h).mono ?_
  rintro e w2 ⟨rfl, hb⟩
  have hB := bel_two _ _ (by simp; omega) hb
  have x2 := hx.next hb
  have s2 := hs'.next hb
  have y1 := x2.c0
  have y2 := x2.c1
  have y3 := x2.c2
  clear hb hx hs'
  go_wp2_with (fail)
  with_reducible refine (stripe_any d r s g k _ m1 (by omega) k0 (by omega)).mono ?_
  rintro e w3 ⟨rfl, hb3⟩
  have x3 := x2.next hb3
  have s3 := s2.next hb3
  clear y1 y2 y3
  have y1 := x3.c0
  have y2 := x3.c1
  have y3 := x3.c2
  have hB3 := hB.trans (hb3.mono (Nat.le_of_lt x2.lt))
  clear x2 s2 hb3 hB h
  obtain ⟨q, hq⟩ : ∃ q, q = g * r + k := ⟨_, rfl⟩
  have hq0 : 0 ≤ q := by omega
  have hq1 : q ≤ 400 := by omega
  rw [← hq]
  have Hq := Lib.hid hq
  clear hq
  go_wp2_with (fail)
  with_reducible refine (parityDisk_any d r s q _ d1 d2 hq0 hq1).mono ?_
  rintro e w4 ⟨rfl, hb4⟩
  have s4 := s3.next hb4
  have hB4 := hB3.trans (hb4.mono (Nat.le_of_lt x3.lt))
  clear y1 y2 y3 x3 s3 hB3 hb4
  obtain ⟨_, ⟨v1, c1⟩, ⟨v2, c2⟩, f1, f2⟩ := s4
  go_wp2_with (fail)
  have hq := Hq.out
  refine bodyPost_ret (v := sv (PD d q) (5 + q) true) ?_ rfl ⟨by rw [hq], ?_⟩
  · simp [results, Try.results22, go_sem, c1, c2]
  · exact (hB4.setCell (by simp) _).setCell (by simp) _
set_option maxHeartbeats 1000000 in
theorem parity_out (d r s g k : Int) (w : World) (h : ¬ Sg d r s g) :
    Calls Try.prog 22 #[gv d r s, .int .i64 g, .int .i64 k] w fun e w' => e = .returned (sv 0 0 false) ∧ Below w.heap.size w w' := by
  obtain ⟨hx, hs'⟩ := two w d r s 23 30
  go_enter Try.func22, Try.ntmps22
  go_wp2_with (fail)
  with_reducible refine (hasSeg_no d r s g _ h).mono ?_
  rintro e w2 ⟨rfl, hb⟩
  have hB := bel_two _ _ (by simp; omega) hb
  have s2 := hs'.next hb
  clear hb hx hs'
  obtain ⟨_, ⟨v1, c1⟩, ⟨v2, c2⟩, f1, f2⟩ := s2
  go_wp2_with (fail)
  refine bodyPost_ret (v := sv 0 0 false) ?_ rfl ⟨rfl, ?_⟩
  · simp [results, Try.results22, go_sem, c1, c2]
  · exact (hB.setCell (by simp) _).setCell (by simp) _
set_option maxHeartbeats 1000000 in
theorem parity_low (d r s g k : Int) (w : World) (h : Sg d r s g) (hk : k < 0) :
    Calls Try.prog 22 #[gv d r s, .int .i64 g, .int .i64 k] w fun e w' => e = .returned (sv 0 0 false) ∧ Below w.heap.size w w' := by
  obtain ⟨hx, hs'⟩ := two w d r s 23 30
  go_enter Try.func22, Try.ntmps22
  go_wp2_with (fail)
  with_reducible refine (hasSeg_yes d r s g _ h).mono ?_
  rintro e w2 ⟨rfl, hb⟩
  have hB := bel_two _ _ (by simp; omega) hb
  have s2 := hs'.next hb
  have x2 := hx.next hb
  clear hb hx hs'
  have y1 := x2.c0
  have y2 := x2.c1
  have y3 := x2.c2
  obtain ⟨_, ⟨v1, c1⟩, ⟨v2, c2⟩, f1, f2⟩ := s2
  go_wp2_with (fail)
  refine bodyPost_ret (v := sv 0 0 false) ?_ rfl ⟨rfl, ?_⟩
  · simp [results, Try.results22, go_sem, c1, c2]
  · exact (hB.setCell (by simp) _).setCell (by simp) _
set_option maxHeartbeats 1000000 in
theorem parity_high (d r s g k : Int) (w : World) (h : Sg d r s g) (hk : r ≤ k) :
    Calls Try.prog 22 #[gv d r s, .int .i64 g, .int .i64 k] w fun e w' => e = .returned (sv 0 0 false) ∧ Below w.heap.size w w' := by
  obtain ⟨hx, hs'⟩ := two w d r s 23 30
  have k0 : 0 ≤ k := by have := h.r1; omega
  have r1 := h.r1
  go_enter Try.func22, Try.ntmps22
  go_wp2_with (fail)
  with_reducible refine (hasSeg_yes d r s g _ h).mono ?_
  rintro e w2 ⟨rfl, hb⟩
  have hB := bel_two _ _ (by simp; omega) hb
  have s2 := hs'.next hb
  have x2 := hx.next hb
  clear hb hx hs'
  have y1 := x2.c0
  have y2 := x2.c1
  have y3 := x2.c2
  obtain ⟨_, ⟨v1, c1⟩, ⟨v2, c2⟩, f1, f2⟩ := s2
  go_wp2_with (fail)
  refine bodyPost_ret (v := sv 0 0 false) ?_ rfl ⟨rfl, ?_⟩
  · simp [results, Try.results22, go_sem, c1, c2]
  · exact (hB.setCell (by simp) _).setCell (by simp) _
theorem parity_no (d r s g k : Int) (w : World) (h : ¬ (Sg d r s g ∧ 0 ≤ k ∧ k < r)) :
    Calls Try.prog 22 #[gv d r s, .int .i64 g, .int .i64 k] w fun e w' => e = .returned (sv 0 0 false) ∧ Below w.heap.size w w' := by
  by_cases hs : Sg d r s g
  · by_cases k0 : 0 ≤ k
    · exact parity_high d r s g k w hs (by
        by_cases k1 : k < r
        · exact absurd ⟨hs, k0, k1⟩ h
        · omega)
    · exact parity_low d r s g k w hs (by omega)
  · exact parity_out d r s g k w hs

set_option maxHeartbeats 1000000 in
theorem block_out (d r s g k : Int) (w : World) (h : ¬ Sg d r s g) :
    Calls Try.prog 20 #[gv d r s, .int .i64 g, .int .i64 k] w fun e w' => e = .returned (sv 0 0 false) ∧ Below w.heap.size w w' := by
  obtain ⟨hx, hs'⟩ := two w d r s 23 30
  go_enter Try.func20, Try.ntmps20
  go_wp2_with (fail)
  with_reducible refine (hasSeg_no d r s g _ h).mono ?_
  rintro e w2 ⟨rfl, hb⟩
  have hB := bel_two _ _ (by simp; omega) hb
  have s2 := hs'.next hb
  clear hb hx hs'
  obtain ⟨_, ⟨v1, c1⟩, ⟨v2, c2⟩, f1, f2⟩ := s2
  go_wp2_with (fail)
  refine bodyPost_ret (v := sv 0 0 false) ?_ rfl ⟨rfl, ?_⟩
  · simp [results, Try.results20, go_sem, c1, c2]
  · exact (hB.setCell (by simp) _).setCell (by simp) _
set_option maxHeartbeats 1000000 in
theorem block_low (d r s g k : Int) (w : World) (h : Sg d r s g) (hk : k < 0) :
    Calls Try.prog 20 #[gv d r s, .int .i64 g, .int .i64 k] w fun e w' => e = .returned (sv 0 0 false) ∧ Below w.heap.size w w' := by
  obtain ⟨hx, hs'⟩ := two w d r s 23 30
  go_enter Try.func20, Try.ntmps20
  go_wp2_with (fail)
  with_reducible refine (hasSeg_yes d r s g _ h).mono ?_
  rintro e w2 ⟨rfl, hb⟩
  have hB := bel_two _ _ (by simp; omega) hb
  have s2 := hs'.next hb
  have x2 := hx.next hb
  clear hb hx hs'
  have y1 := x2.c0
  have y2 := x2.c1
  have y3 := x2.c2
  obtain ⟨_, ⟨v1, c1⟩, ⟨v2, c2⟩, f1, f2⟩ := s2
  go_wp2_with (fail)
  refine bodyPost_ret (v := sv 0 0 false) ?_ rfl ⟨rfl, ?_⟩
  · simp [results, Try.results20, go_sem, c1, c2]
  · exact (hB.setCell (by simp) _).setCell (by simp) _
set_option maxHeartbeats 1000000 in
theorem block_high (d r s g k : Int) (w : World) (h : Sg d r s g) (hk : PL d r < k) :
    Calls Try.prog 20 #[gv d r s, .int .i64 g, .int .i64 k] w fun e w' => e = .returned (sv 0 0 false) ∧ Below w.heap.size w w' := by
  obtain ⟨hx, hs'⟩ := two w d r s 23 30
  have k0 : 0 ≤ k := by have := PL_bd h.d1 h.d2 h.r1 h.r2; omega
  have hkf : ¬ k ≤ PL d r := by omega
  go_enter Try.func20, Try.ntmps20
  go_wp2_with (fail)
  with_reducible refine (hasSeg_yes d r s g _ h).mono ?_
  rintro e w2 ⟨rfl, hb⟩
  have hB := bel_two _ _ (by simp; omega) hb
  have s2 := hs'.next hb
  have x2 := hx.next hb
  clear hb hx hs'
  have y1 := x2.c0
  have y2 := x2.c1
  have y3 := x2.c2
  have hs2 := s2
  obtain ⟨_, ⟨v1, c1⟩, ⟨v2, c2⟩, f1, f2⟩ := s2
  go_wp2_with (fail)
  with_reducible refine (placesS_any d r s _ h.d1 h.d2 h.r1 h.r2).mono ?_
  rintro e w3 ⟨rfl, hb3⟩
  have s3 := (hs2.next hb3)
  have hB3 := hB.trans (hb3.mono (Nat.le_of_lt x2.lt))
  clear y1 y2 y3 c1 c2 f1 f2 hb3
  obtain ⟨_, ⟨v1, c1⟩, ⟨v2, c2⟩, f1, f2⟩ := s3
  go_wp2_with (fail)
  refine bodyPost_ret (v := sv 0 0 false) ?_ rfl ⟨rfl, ?_⟩
  · simp [results, Try.results20, go_sem, c1, c2]
  · exact (hB3.setCell (by simp) _).setCell (by simp) _

end Go.Proofs.Ytodjeglcdjodfaa
