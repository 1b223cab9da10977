/-
  Block, Parity, Address and Where of the program.
-/
import Derived.Test.YtciddoeeiamndaaGreatRight
namespace Go.Proofs.YtciddoeeiamndaaGreat
open Go.RowKit

/-- A spot and whether it is one. -/
abbrev sv (x y : Int) (b : Bool) : Value := .tuple #[.agg #[.int .i64 x, .int .i64 y], .bool b]

theorem gr_bd {d r s g : Int} (h : Sg d r s g) : 0 ≤ g * r ∧ g * r ≤ 252 :=
  mul_bd (x := 63) (y := 4) h.g0 (by have := h.g1; have := h.s2; omega) (by have := h.r1; omega) h.r2
theorem kd_bd {d k : Int} (h1 : 3 ≤ d) (h2 : 0 ≤ k) : 0 ≤ k / (d - 1) ∧ k / (d - 1) ≤ k ∧ 0 ≤ k % (d - 1) ∧ k % (d - 1) < d - 1 :=
  ⟨Int.ediv_nonneg h2 (by omega), Int.ediv_le_self _ h2, Int.emod_nonneg _ (by omega), Int.emod_lt_of_pos _ (by omega)⟩

/-- A geometry lies in block b. -/
structure Bx (w : World) (b : Nat) (d r s : Int) : Prop where
  lt : b < w.heap.size
  c0 : w.cell? ⟨b, 0, none⟩ = some (.int .i64 d)
  c1 : w.cell? ⟨b, 1, none⟩ = some (.int .i64 r)
  c2 : w.cell? ⟨b, 2, none⟩ = some (.int .i64 s)
theorem Bx.below {w w' : World} {b B : Nat} {d r s : Int} (h : Bx w b d r s) (hb : Below B w w') (hB : w.heap.size ≤ B) : Bx w' b d r s := by
  have hl := Nat.lt_of_lt_of_le h.lt hB
  exact ⟨Nat.lt_of_lt_of_le h.lt hb.size, (hb.cell (p := ⟨b, 0, none⟩) hl).trans h.c0, (hb.cell (p := ⟨b, 1, none⟩) hl).trans h.c1, (hb.cell (p := ⟨b, 2, none⟩) hl).trans h.c2⟩
theorem Bx.next {w w' : World} {b : Nat} {d r s : Int} (h : Bx w b d r s) (hb : Below w.heap.size w w') : Bx w' b d r s := h.below hb (Nat.le_refl _)
theorem Bx.mk' (w : World) (d r s : Int) (t : TypeId) : Bx (w.alloc (.cells #[.int .i64 d, .int .i64 r, .int .i64 s] t (0, 0))) w.heap.size d r s :=
  ⟨by simp, by go_simp, by go_simp, by go_simp⟩
theorem Bx.alloc {w : World} {b : Nat} {d r s : Int} (h : Bx w b d r s) (o : Obj) : Bx (w.alloc o) b d r s := h.below (((Below.refl _ _).alloc (Nat.le_refl _) o)) (Nat.le_refl _)
theorem Bx.drew {w : World} {b : Nat} {d r s : Int} (h : Bx w b d r s) : Bx w.drew b d r s := ⟨h.lt, h.c0, h.c1, h.c2⟩
/-- A spot's cells, free. -/
structure Sx (w : World) (b : Nat) : Prop where
  lt : b < w.heap.size
  c0 : ∃ v, w.cell? ⟨b, 0, none⟩ = some v
  c1 : ∃ v, w.cell? ⟨b, 1, none⟩ = some v
  f0 : w.frozen? ⟨b, 0, none⟩ = false
  f1 : w.frozen? ⟨b, 1, none⟩ = false
theorem Sx.below {w w' : World} {b B : Nat} (h : Sx w b) (hb : Below B w w') (hB : w.heap.size ≤ B) : Sx w' b := by
  have hl := Nat.lt_of_lt_of_le h.lt hB
  obtain ⟨v, hv⟩ := h.c0
  obtain ⟨u, hu⟩ := h.c1
  exact ⟨Nat.lt_of_lt_of_le h.lt hb.size, ⟨v, (hb.cell (p := ⟨b, 0, none⟩) hl).trans hv⟩, ⟨u, (hb.cell (p := ⟨b, 1, none⟩) hl).trans hu⟩, (hb.frozen (p := ⟨b, 0, none⟩) hl).trans h.f0, (hb.frozen (p := ⟨b, 1, none⟩) hl).trans h.f1⟩
theorem Sx.next {w w' : World} {b : Nat} (h : Sx w b) (hb : Below w.heap.size w w') : Sx w' b := h.below hb (Nat.le_refl _)
theorem Sx.drew {w : World} {b : Nat} (h : Sx w b) : Sx w.drew b := ⟨h.lt, h.c0, h.c1, h.f0, h.f1⟩
theorem Sx.mk' (w : World) (x y : Value) (t : TypeId) : Sx (w.alloc (.cells #[x, y] t (0, 0))) w.heap.size :=
  ⟨by simp, ⟨x, by go_simp⟩, ⟨y, by go_simp⟩, by go_simp, by go_simp⟩
theorem two (w : World) (d r s : Int) (t t' : TypeId) :
    Bx ((w.alloc (.cells #[.int .i64 d, .int .i64 r, .int .i64 s] t (0, 0))).alloc (.cells #[.int .i64 0, .int .i64 0] t' (0, 0))) w.heap.size d r s ∧ Sx ((w.alloc (.cells #[.int .i64 d, .int .i64 r, .int .i64 s] t (0, 0))).alloc (.cells #[.int .i64 0, .int .i64 0] t' (0, 0))) (w.heap.size + 1) := by
  refine ⟨(Bx.mk' w d r s t).alloc _, ?_⟩
  have hs := Sx.mk' (w.alloc (.cells #[.int .i64 d, .int .i64 r, .int .i64 s] t (0, 0))) (.int .i64 0) (.int .i64 0) t'
  simpa using hs
theorem bel_two {w w2 : World} {B : Nat} (o o' : Obj) (hB : w.heap.size ≤ B) (hb : Below B ((w.alloc o).alloc o') w2) : Below w.heap.size w w2 :=
  (((Below.refl _ _).alloc (Nat.le_refl _) o).alloc (by simp) o').trans (hb.mono hB)

set_option maxHeartbeats 1000000 in
theorem parity_yes (d r s g k : Int) (w : World) (h : Sg d r s g) (k0 : 0 ≤ k) (k1 : k < r) :
    Calls Tryz.prog 129 #[gv d r s, .int .i64 g, .int .i64 k] w fun e w' => e = .returned (sv (PD d (g * r + k)) (5 + (g * r + k)) true) ∧ Below w.heap.size w w' := by
  obtain ⟨m1, m2⟩ := gr_bd h
  have d1 := h.d1
  have d2 := h.d2
  have r2 := h.r2
  obtain ⟨hx, hs'⟩ := two w d r s 41 116
  go_enter Tryz.func129, Tryz.ntmps129
  go_wp2_with (fail)
  with_reducible refine (hasSeg_yes d r s g _ h).mono ?_
  rintro e w2 ⟨rfl, hb⟩
  have hB := bel_two _ _ (by simp; omega) hb
  have x2 := hx.next hb
  have s2 := hs'.next hb
  have y1 := x2.c0
  have y2 := x2.c1
  have y3 := x2.c2
  clear hb hx hs'
  go_wp2_with (fail)
  with_reducible refine (stripe_any d r s g k _ m1 (by omega) k0 (by omega)).mono ?_
  rintro e w3 ⟨rfl, hb3⟩
  have x3 := x2.next hb3
  have s3 := s2.next hb3
  clear y1 y2 y3
  have y1 := x3.c0
  have y2 := x3.c1
  have y3 := x3.c2
  have hB3 := hB.trans (hb3.mono (Nat.le_of_lt x2.lt))
  clear x2 s2 hb3 hB h
  obtain ⟨q, hq⟩ : ∃ q, q = g * r + k := ⟨_, rfl⟩
  have hq0 : 0 ≤ q := by omega
  have hq1 : q ≤ 400 := by omega
  rw [← hq]
  have Hq := Lib.hid hq
  clear hq
  go_wp2_with (fail)
  with_reducible refine (parityDisk_any d r s q _ d1 d2 hq0 hq1).mono ?_
  rintro e w4 ⟨rfl, hb4⟩
  have s4 := s3.next hb4
  have hB4 := hB3.trans (hb4.mono (Nat.le_of_lt x3.lt))
  clear y1 y2 y3 x3 s3 hB3 hb4
  obtain ⟨_, ⟨v1, c1⟩, ⟨v2, c2⟩, f1, f2⟩ := s4
  go_wp2_with (fail)
  have hq := Hq.out
  refine bodyPost_ret (v := sv (PD d q) (5 + q) true) ?_ rfl ⟨by rw [hq], ?_⟩
  · simp [results, Tryz.results129, go_sem, c1, c2]
  · exact (hB4.setCell (by simp) _).setCell (by simp) _
set_option maxHeartbeats 1000000 in
theorem parity_out (d r s g k : Int) (w : World) (h : ¬ Sg d r s g) :
    Calls Tryz.prog 129 #[gv d r s, .int .i64 g, .int .i64 k] w fun e w' => e = .returned (sv 0 0 false) ∧ Below w.heap.size w w' := by
  obtain ⟨hx, hs'⟩ := two w d r s 41 116
  go_enter Tryz.func129, Tryz.ntmps129
  go_wp2_with (fail)
  with_reducible refine (hasSeg_no d r s g _ h).mono ?_
  rintro e w2 ⟨rfl, hb⟩
  have hB := bel_two _ _ (by simp; omega) hb
  have s2 := hs'.next hb
  clear hb hx hs'
  obtain ⟨_, ⟨v1, c1⟩, ⟨v2, c2⟩, f1, f2⟩ := s2
  go_wp2_with (fail)
  refine bodyPost_ret (v := sv 0 0 false) ?_ rfl ⟨rfl, ?_⟩
  · simp [results, Tryz.results129, go_sem, c1, c2]
  · exact (hB.setCell (by simp) _).setCell (by simp) _
set_option maxHeartbeats 1000000 in
theorem parity_low (d r s g k : Int) (w : World) (h : Sg d r s g) (hk : k < 0) :
    Calls Tryz.prog 129 #[gv d r s, .int .i64 g, .int .i64 k] w fun e w' => e = .returned (sv 0 0 false) ∧ Below w.heap.size w w' := by
  obtain ⟨hx, hs'⟩ := two w d r s 41 116
  go_enter Tryz.func129, Tryz.ntmps129
  go_wp2_with (fail)
  with_reducible refine (hasSeg_yes d r s g _ h).mono ?_
  rintro e w2 ⟨rfl, hb⟩
  have hB := bel_two _ _ (by simp; omega) hb
  have s2 := hs'.next hb
  have x2 := hx.next hb
  clear hb hx hs'
  have y1 := x2.c0
  have y2 := x2.c1
  have y3 := x2.c2
  obtain ⟨_, ⟨v1, c1⟩, ⟨v2, c2⟩, f1, f2⟩ := s2
  go_wp2_with (fail)
  refine bodyPost_ret (v := sv 0 0 false) ?_ rfl ⟨rfl, ?_⟩
  · simp [results, Tryz.results129, go_sem, c1, c2]
  · exact (hB.setCell (by simp) _).setCell (by simp) _
set_option maxHeartbeats 1000000 in
theorem parity_high (d r s g k : Int) (w : World) (h : Sg d r s g) (hk : r ≤ k) :
    Calls Tryz.prog 129 #[gv d r s, .int .i64 g, .int .i64 k] w fun e w' => e = .returned (sv 0 0 false) ∧ Below w.heap.size w w' := by
  obtain ⟨hx, hs'⟩ := two w d r s 41 116
  have k0 : 0 ≤ k := by have := h.r1; omega
  have r1 := h.r1
  go_enter Tryz.func129, Tryz.ntmps129
  go_wp2_with (fail)
  with_reducible refine (hasSeg_yes d r s g _ h).mono ?_
  rintro e w2 ⟨rfl, hb⟩
  have hB := bel_two _ _ (by simp; omega) hb
  have s2 := hs'.next hb
  have x2 := hx.next hb
  clear hb hx hs'
  have y1 := x2.c0
  have y2 := x2.c1
  have y3 := x2.c2
  obtain ⟨_, ⟨v1, c1⟩, ⟨v2, c2⟩, f1, f2⟩ := s2
  go_wp2_with (fail)
  refine bodyPost_ret (v := sv 0 0 false) ?_ rfl ⟨rfl, ?_⟩
  · simp [results, Tryz.results129, go_sem, c1, c2]
  · exact (hB.setCell (by simp) _).setCell (by simp) _
theorem parity_no (d r s g k : Int) (w : World) (h : ¬ (Sg d r s g ∧ 0 ≤ k ∧ k < r)) :
    Calls Tryz.prog 129 #[gv d r s, .int .i64 g, .int .i64 k] w fun e w' => e = .returned (sv 0 0 false) ∧ Below w.heap.size w w' := by
  by_cases hs : Sg d r s g
  · by_cases k0 : 0 ≤ k
    · exact parity_high d r s g k w hs (by
        by_cases k1 : k < r
        · exact absurd ⟨hs, k0, k1⟩ h
        · omega)
    · exact parity_low d r s g k w hs (by omega)
  · exact parity_out d r s g k w hs

set_option maxHeartbeats 1000000 in
theorem block_out (d r s g k : Int) (w : World) (h : ¬ Sg d r s g) :
    Calls Tryz.prog 112 #[gv d r s, .int .i64 g, .int .i64 k] w fun e w' => e = .returned (sv 0 0 false) ∧ Below w.heap.size w w' := by
  obtain ⟨hx, hs'⟩ := two w d r s 41 116
  go_enter Tryz.func112, Tryz.ntmps112
  go_wp2_with (fail)
  with_reducible refine (hasSeg_no d r s g _ h).mono ?_
  rintro e w2 ⟨rfl, hb⟩
  have hB := bel_two _ _ (by simp; omega) hb
  have s2 := hs'.next hb
  clear hb hx hs'
  obtain ⟨_, ⟨v1, c1⟩, ⟨v2, c2⟩, f1, f2⟩ := s2
  go_wp2_with (fail)
  refine bodyPost_ret (v := sv 0 0 false) ?_ rfl ⟨rfl, ?_⟩
  · simp [results, Tryz.results112, go_sem, c1, c2]
  · exact (hB.setCell (by simp) _).setCell (by simp) _
set_option maxHeartbeats 1000000 in
theorem block_low (d r s g k : Int) (w : World) (h : Sg d r s g) (hk : k < 0) :
    Calls Tryz.prog 112 #[gv d r s, .int .i64 g, .int .i64 k] w fun e w' => e = .returned (sv 0 0 false) ∧ Below w.heap.size w w' := by
  obtain ⟨hx, hs'⟩ := two w d r s 41 116
  go_enter Tryz.func112, Tryz.ntmps112
  go_wp2_with (fail)
  with_reducible refine (hasSeg_yes d r s g _ h).mono ?_
  rintro e w2 ⟨rfl, hb⟩
  have hB := bel_two _ _ (by simp; omega) hb
  have s2 := hs'.next hb
  have x2 := hx.next hb
  clear hb hx hs'
  have y1 := x2.c0
  have y2 := x2.c1
  have y3 := x2.c2
  obtain ⟨_, ⟨v1, c1⟩, ⟨v2, c2⟩, f1, f2⟩ := s2
  go_wp2_with (fail)
  refine bodyPost_ret (v := sv 0 0 false) ?_ rfl ⟨rfl, ?_⟩
  · simp [results, Tryz.results112, go_sem, c1, c2]
  · exact (hB.setCell (by simp) _).setCell (by simp) _
set_option maxHeartbeats 1000000 in
theorem block_high (d r s g k : Int) (w : World) (h : Sg d r s g) (hk : PL d r < k) :
    Calls Tryz.prog 112 #[gv d r s, .int .i64 g, .int .i64 k] w fun e w' => e = .returned (sv 0 0 false) ∧ Below w.heap.size w w' := by
  obtain ⟨hx, hs'⟩ := two w d r s 41 116
  have k0 : 0 ≤ k := by have := PL_bd h.d1 h.d2 h.r1 h.r2; omega
  have hkf : ¬ k ≤ PL d r := by omega
  go_enter Tryz.func112, Tryz.ntmps112
  go_wp2_with (fail)
  with_reducible refine (hasSeg_yes d r s g _ h).mono ?_
  rintro e w2 ⟨rfl, hb⟩
  have hB := bel_two _ _ (by simp; omega) hb
  have s2 := hs'.next hb
  have x2 := hx.next hb
  clear hb hx hs'
  have y1 := x2.c0
  have y2 := x2.c1
  have y3 := x2.c2
  have hs2 := s2
  obtain ⟨_, ⟨v1, c1⟩, ⟨v2, c2⟩, f1, f2⟩ := s2
  go_wp2_with (fail)
  with_reducible refine (placesS_any d r s _ h.d1 h.d2 h.r1 h.r2).mono ?_
  rintro e w3 ⟨rfl, hb3⟩
  have s3 := (hs2.next hb3)
  have hB3 := hB.trans (hb3.mono (Nat.le_of_lt x2.lt))
  clear y1 y2 y3 c1 c2 f1 f2 hb3
  obtain ⟨_, ⟨v1, c1⟩, ⟨v2, c2⟩, f1, f2⟩ := s3
  go_wp2_with (fail)
  refine bodyPost_ret (v := sv 0 0 false) ?_ rfl ⟨rfl, ?_⟩
  · simp [results, Tryz.results112, go_sem, c1, c2]
  · exact (hB3.setCell (by simp) _).setCell (by simp) _

end Go.Proofs.YtciddoeeiamndaaGreat

/-
  Block and Address of the program, where there is one.
-/
namespace Go.Proofs.YtciddoeeiamndaaGreat
open Go.RowKit

theorem stripe_q (d r s g k q : Int) (w : World) (h1 : 0 ≤ g * r) (h2 : g * r ≤ 300) (h3 : 0 ≤ k) (h4 : k ≤ 100) (hq : Hid (q = g * r + k)) :
    Calls Tryz.prog 141 #[gv d r s, .int .i64 g, .int .i64 k] w fun e w' => e = .returned (.int .i64 q) ∧ Below w.heap.size w w' := by
  rw [hq.out]
  exact stripe_any d r s g k w h1 h2 h3 h4
theorem parityDisk_q (d r s q P : Int) (w : World) (h1 : 3 ≤ d) (h2 : d ≤ 16) (h3 : 0 ≤ q) (h4 : q ≤ 400) (hP : Hid (P = PD d q)) :
    Calls Tryz.prog 142 #[gv d r s, .int .i64 q] w fun e w' => e = .returned (.int .i64 P) ∧ Below w.heap.size w w' := by
  rw [hP.out]
  exact parityDisk_any d r s q w h1 h2 h3 h4
/-- The disk of a block: c + 1 behind its row's parity, counted round. -/
def BD (d q c : Int) : Int := (PD d q + 1 + c) % d
set_option maxHeartbeats 1000000 in
theorem block_yes (d r s g k : Int) (w : World) (h : Sg d r s g) (k0 : 0 ≤ k) (k1 : k ≤ PL d r) :
    Calls Tryz.prog 112 #[gv d r s, .int .i64 g, .int .i64 k] w fun e w' => e = .returned (sv (BD d (g * r + k / (d - 1)) (k % (d - 1))) (5 + (g * r + k / (d - 1))) true) ∧ Below w.heap.size w w' := by
  obtain ⟨m1, m2⟩ := gr_bd h
  obtain ⟨p1, p2, p3, p4⟩ := PL_bd h.d1 h.d2 h.r1 h.r2
  have d1 := h.d1
  have d2 := h.d2
  have r1 := h.r1
  have r2 := h.r2
  obtain ⟨a1, a2, a3, a4⟩ := kd_bd (d := d) (k := k) d1 k0
  obtain ⟨a, ha⟩ : ∃ a, a = k / (d - 1) := ⟨_, rfl⟩
  obtain ⟨c, hc⟩ : ∃ c, c = k % (d - 1) := ⟨_, rfl⟩
  obtain ⟨q, hq⟩ : ∃ q, q = g * r + a := ⟨_, rfl⟩
  rw [← ha] at a1 a2
  rw [← hc] at a3 a4
  rw [← ha, ← hc, ← hq]
  have t1 : k.tdiv (d - 1) = a := by rw [Int.tdiv_eq_ediv_of_nonneg k0, ha]
  have t2 : k.tmod (d - 1) = c := by rw [Int.tmod_eq_emod_of_nonneg k0, hc]
  have z1 : d - 1 ≠ 0 := by omega
  have q0 : 0 ≤ q := by omega
  have q1 : q ≤ 400 := by omega
  have hkf : ¬ PL d r < k := by omega
  obtain ⟨hx, hs'⟩ := two w d r s 41 116
  obtain ⟨b1, b2⟩ := PD_bd (q := q) d1
  obtain ⟨P, hP⟩ : ∃ P, P = PD d q := ⟨_, rfl⟩
  have n0 : 0 ≤ P + 1 + c := by omega
  have t3 : (P + 1 + c).tmod d = BD d q c := by rw [Int.tmod_eq_emod_of_nonneg n0, hP]; rfl
  have z2 : d ≠ 0 := by omega
  have w0 : IntKind.i64.wrap (d - 1) = d - 1 := IntWalk.i64_in _ (by omega)
  have w1 : IntKind.i64.wrap a = a := IntWalk.i64_in _ (by omega)
  have w2 : IntKind.i64.wrap (P + 1) = P + 1 := IntWalk.i64_in _ (by omega)
  have w3 : IntKind.i64.wrap (P + 1 + c) = P + 1 + c := IntWalk.i64_in _ (by omega)
  have W0 := Lib.hid w0
  have W1 := Lib.hid w1
  have W2 := Lib.hid w2
  have W3 := Lib.hid w3
  have T1 := Lib.hid t1
  have T2 := Lib.hid t2
  have T3 := Lib.hid t3
  have HA := Lib.hid ha
  have HC := Lib.hid hc
  have HQ := Lib.hid hq
  have HP := Lib.hid hP
  clear w0 w1 w2 w3 t1 t2 t3 ha hc hq hP
  go_enter Tryz.func112, Tryz.ntmps112
  go_wp2_with (fail)
  with_reducible refine (hasSeg_yes d r s g _ h).mono ?_
  rintro e w2 ⟨rfl, hb⟩
  have hB := bel_two _ _ (by simp; omega) hb
  have s2 := hs'.next hb
  have x2 := hx.next hb
  clear hb hx hs'
  have y1 := x2.c0
  have y2 := x2.c1
  have y3 := x2.c2
  go_wp2_with (fail)
  with_reducible refine (placesS_any d r s _ d1 d2 r1 r2).mono ?_
  rintro e w3 ⟨rfl, hb3⟩
  have s3 := (s2.next hb3)
  have x3 := (x2.next hb3)
  have hB3 := hB.trans (hb3.mono (Nat.le_of_lt x2.lt))
  clear y1 y2 y3 x2 s2 hb3 hB
  have y1 := x3.c0
  have y2 := x3.c1
  have y3 := x3.c2
  go_wp2_with (fail)
  have t1 := T1.out
  have w1 := W1.out
  go_region_held3 (fun w' => w'.cell? ⟨w.heap.size, 0, none⟩ = some (.int .i64 d) ∧ w'.cell? ⟨w.heap.size, 1, none⟩ = some (.int .i64 r) ∧ w'.cell? ⟨w.heap.size, 2, none⟩ = some (.int .i64 s))
    (first | go_keep | exact ⟨(x3.drew.next hb4).c0, (x3.drew.next hb4).c1, (x3.drew.next hb4).c2⟩ | exact ⟨((x3.drew.next hb4).next hb5).c0, ((x3.drew.next hb4).next hb5).c1, ((x3.drew.next hb4).next hb5).c2⟩)
    (first | (go_at_call 117
              refine (perRow_any d r s _ d1 d2).mono ?_
              rintro e w4 ⟨rfl, hb4⟩)
           | (go_at_call 141
              refine (stripe_q d r s g a q _ m1 (by omega) a1 (by omega) HQ).mono ?_
              rintro e w5 ⟨rfl, hb5⟩))
  have x5 := (x3.drew.next hb4).next hb5
  have s5 := (s3.drew.next hb4).next hb5
  have hB5 := ((hB3.drew).trans (hb4.mono (Nat.le_of_lt x3.drew.lt))).trans (hb5.mono (Nat.le_of_lt (x3.drew.next hb4).lt))
  clear y1 y2 y3 x3 s3 hB3 hb4 hb5 t1 w1
  have y1 := x5.c0
  have y2 := x5.c1
  have y3 := x5.c2
  go_wp2_with (fail)
  have t2 := T2.out
  have t3 := T3.out
  have w2 := W2.out
  have w3 := W3.out
  go_region_held3 (fun w' => w'.cell? ⟨w.heap.size, 0, none⟩ = some (.int .i64 d) ∧ w'.cell? ⟨w.heap.size, 1, none⟩ = some (.int .i64 r) ∧ w'.cell? ⟨w.heap.size, 2, none⟩ = some (.int .i64 s))
    (first | go_keep | exact ⟨(x5.drew.next hb6).c0, (x5.drew.next hb6).c1, (x5.drew.next hb6).c2⟩ | exact ⟨((x5.drew.next hb6).next hb7).c0, ((x5.drew.next hb6).next hb7).c1, ((x5.drew.next hb6).next hb7).c2⟩)
    (first | (go_at_call 142
              refine (parityDisk_q d r s q P _ d1 d2 q0 q1 HP).mono ?_
              rintro e w6 ⟨rfl, hb6⟩)
           | (go_at_call 117
              refine (perRow_any d r s _ d1 d2).mono ?_
              rintro e w7 ⟨rfl, hb7⟩))
  have x7 := (x5.drew.next hb6).next hb7
  have s7 := (s5.drew.next hb6).next hb7
  have hB7 := ((hB5.drew).trans (hb6.mono (Nat.le_of_lt x5.drew.lt))).trans (hb7.mono (Nat.le_of_lt (x5.drew.next hb6).lt))
  clear y1 y2 y3 x5 s5 hB5 hb6 hb7 t2 t3 w2 w3
  obtain ⟨_, ⟨v1, c1⟩, ⟨v2, c2⟩, f1, f2⟩ := s7
  go_wp2_with (fail)
  refine bodyPost_ret (v := sv (BD d q c) (5 + q) true) ?_ rfl ⟨rfl, ?_⟩
  · simp [results, Tryz.results112, go_sem, c1, c2]
  · exact (hB7.setCell (by simp) _).setCell (by simp) _

/-- There is such a place. -/
structure Pk (d r s g k : Int) : Prop extends Sg d r s g where
  k0 : 1 ≤ k
  k1 : k ≤ PL d r
/-- There is such a block. -/
structure Bk (d r s g k : Int) : Prop extends Sg d r s g where
  k0 : 0 ≤ k
  k1 : k ≤ PL d r
theorem block_no (d r s g k : Int) (w : World) (h : ¬ Bk d r s g k) :
    Calls Tryz.prog 112 #[gv d r s, .int .i64 g, .int .i64 k] w fun e w' => e = .returned (sv 0 0 false) ∧ Below w.heap.size w w' := by
  by_cases hs : Sg d r s g
  · by_cases k0 : 0 ≤ k
    · exact block_high d r s g k w hs (by
        by_cases k1 : k ≤ PL d r
        · exact absurd ⟨hs, k0, k1⟩ h
        · omega)
    · exact block_low d r s g k w hs (by omega)
  · exact block_out d r s g k w hs

end Go.Proofs.YtciddoeeiamndaaGreat
