/-
  Block and Address of the program, where there is one.
-/
import Derived.Test.YtodjeglcdjodfaaSpot
namespace Go.Proofs.Ytodjeglcdjodfaa
open Go.RowKit

theorem stripe_q (d r s g k q : Int) (w : World) (h1 : 0 ≤ g * r) (h2 : g * r ≤ 300) (h3 : 0 ≤ k) (h4 : k ≤ 100) (hq : Hid (q = g * r + k)) :
    Calls Try.prog 32 #[gv d r s, .int .i64 g, .int .i64 k] w fun e w' => e = .returned (.int .i64 q) ∧ Below w.heap.size w w' := by
  rw [hq.out]
  exact stripe_any d r s g k w h1 h2 h3 h4
theorem parityDisk_q (d r s q P : Int) (w : World) (h1 : 3 ≤ d) (h2 : d ≤ 16) (h3 : 0 ≤ q) (h4 : q ≤ 400) (hP : Hid (P = PD d q)) :
    Calls Try.prog 34 #[gv d r s, .int .i64 q] w fun e w' => e = .returned (.int .i64 P) ∧ Below w.heap.size w w' := by
  rw [hP.out]
  exact parityDisk_any d r s q w h1 h2 h3 h4
/-- The disk of a block: c + 1 behind its row's parity, counted round. -/
def BD (d q c : Int) : Int := (PD d q + 1 + c) % d
set_option maxHeartbeats 1000000 in
theorem block_yes (d r s g k : Int) (w : World) (h : Sg d r s g) (k0 : 0 ≤ k) (k1 : k ≤ PL d r) :
    Calls Try.prog 20 #[gv d r s, .int .i64 g, .int .i64 k] w fun e w' => e = .returned (sv (BD d (g * r + k / (d - 1)) (k % (d - 1))) (5 + (g * r + k / (d - 1))) true) ∧ Below w.heap.size w w' := by
  obtain ⟨m1, m2⟩ := gr_bd h
  obtain ⟨p1, p2, p3, p4⟩ := PL_bd h.d1 h.d2 h.r1 h.r2
  have d1 := h.d1
  have d2 := h.d2
  have r1 := h.r1
  have r2 := h.r2
  obtain ⟨a1, a2, a3, a4⟩ := kd_bd (d := d) (k := k) d1 k0
  obtain ⟨a, ha⟩ : ∃ a, a = k / (d - 1) := ⟨_, rfl⟩
  obtain ⟨c, hc⟩ : ∃ c, c = k % (d - 1) := ⟨_, rfl⟩
  obtain ⟨q, hq⟩ : ∃ q, q = g * r + a := ⟨_, rfl⟩
  rw [← ha] at a1 a2
  rw [← hc] at a3 a4
  rw [← ha, ← hc, ← hq]
  have t1 : k.tdiv (d - 1) = a := by rw [Int.tdiv_eq_ediv_of_nonneg k0, ha]
  have t2 : k.tmod (d - 1) = c := by rw [Int.tmod_eq_emod_of_nonneg k0, hc]
  have z1 : d - 1 ≠ 0 := by omega
  have q0 : 0 ≤ q := by omega
  have q1 : q ≤ 400 := by omega
  have hkf : ¬ PL d r < k := by omega
  obtain ⟨hx, hs'⟩ := two w d r s 23 30
  obtain ⟨b1, b2⟩ := PD_bd (q := q) d1
  obtain ⟨P, hP⟩ : ∃ P, P = PD d q := ⟨_, rfl⟩
  have n0 : 0 ≤ P + 1 + c := by omega
  have t3 : (P + 1 + c).tmod d = BD d q c := by rw [Int.tmod_eq_emod_of_nonneg n0, hP]; rfl
  have z2 : d ≠ 0 := by omega
  have w0 : IntKind.i64.wrap (d - 1) = d - 1 := IntWalk.i64_in _ (by omega)
  have w1 : IntKind.i64.wrap a = a := IntWalk.i64_in _ (by omega)
  have w2 : IntKind.i64.wrap (P + 1) = P + 1 := IntWalk.i64_in _ (by omega)
  have w3 : IntKind.i64.wrap (P + 1 + c) = P + 1 + c := IntWalk.i64_in _ (by omega)
  have W0 := Lib.hid w0
  have W1 := Lib.hid w1
  have W2 := Lib.hid w2
  have W3 := Lib.hid w3
  have T1 := Lib.hid t1
  have T2 := Lib.hid t2
  have T3 := Lib.hid t3
  have HA := Lib.hid ha
  have HC := Lib.hid hc
  have HQ := Lib.hid hq
  have HP := Lib.hid hP
  clear w0 w1 w2 w3 t1 t2 t3 ha hc hq hP
  go_enter Try.func20, Try.ntmps20
  go_wp2_with (fail)
  with_reducible refine (hasSeg_yes d r s g _ h).mono ?_
  rintro e w2 ⟨rfl, hb⟩
  have hB := bel_two _ _ (by simp; omega) hb
  have s2 := hs'.next hb
  have x2 := hx.next hb
  clear hb hx hs'
  have y1 := x2.c0
  have y2 := x2.c1
  have y3 := x2.c2
  go_wp2_with (fail)
  with_reducible refine (placesS_any d r s _ d1 d2 r1 r2).mono ?_
  rintro e w3 ⟨rfl, hb3⟩
  have s3 := (s2.next hb3)
  have x3 := (x2.next hb3)
  have hB3 := hB.trans (hb3.mono (Nat.le_of_lt x2.lt))
  clear y1 y2 y3 x2 s2 hb3 hB
  have y1 := x3.c0
  have y2 := x3.c1
  have y3 := x3.c2
  go_wp2_with (fail)
  have t1 := T1.out
  have w1 := W1.out
  go_region_held3 (fun w' => w'.cell? ⟨w.heap.size, 0, none⟩ = some (.int .i64 d) ∧ w'.cell? ⟨w.heap.size, 1, none⟩ = some (.int .i64 r) ∧ w'.cell? ⟨w.heap.size, 2, none⟩ = some (.int .i64 s))
    (first | go_keep | exact ⟨(x3.drew.next hb4).c0, (x3.drew.next hb4).c1, (x3.drew.next hb4).c2⟩ | exact ⟨((x3.drew.next hb4).next hb5).c0, ((x3.drew.next hb4).next hb5).c1, ((x3.drew.next hb4).next hb5).c2⟩)
    (first | (go_at_call 33
              refine (perRow_any d r s _ d1 d2).mono ?_
              rintro e w4 ⟨rfl, hb4⟩)
           | (go_at_call 32
              refine (stripe_q d r s g a q _ m1 (by omega) a1 (by omega) HQ).mono ?_
              rintro e w5 ⟨rfl, hb5⟩))
  have x5 := (x3.drew.next hb4).next hb5
  have s5 := (s3.drew.next hb4).next hb5
  have hB5 := ((hB3.drew).trans (hb4.mono (Nat.le_of_lt x3.drew.lt))).trans (hb5.mono (Nat.le_of_lt (x3.drew.next hb4).lt))
  clear y1 y2 y3 x3 s3 hB3 hb4 hb5 t1 w1
  have y1 := x5.c0
  have y2 := x5.c1
  have y3 := x5.c2
  go_wp2_with (fail)
  have t2 := T2.out
  have t3 := T3.out
  have w2 := W2.out
  have w3 := W3.out
  go_region_held3 (fun w' => w'.cell? ⟨w.heap.size, 0, none⟩ = some (.int .i64 d) ∧ w'.cell? ⟨w.heap.size, 1, none⟩ = some (.int .i64 r) ∧ w'.cell? ⟨w.heap.size, 2, none⟩ = some (.int .i64 s))
    (first | go_keep | exact ⟨(x5.drew.next hb6).c0, (x5.drew.next hb6).c1, (x5.drew.next hb6).c2⟩ | exact ⟨((x5.drew.next hb6).next hb7).c0, ((x5.drew.next hb6).next hb7).c1, ((x5.drew.next hb6).next hb7).c2⟩)
    (first | (go_at_call 34
              refine (parityDisk_q d r s q P _ d1 d2 q0 q1 HP).mono ?_
              rintro e w6 ⟨rfl, hb6⟩)
           | (go_at_call 33
              refine (perRow_any d r s _ d1 d2).mono ?_
              rintro e w7 ⟨rfl, hb7⟩))
  have x7 := (x5.drew.next hb6).next hb7
  have s7 := (s5.drew.next hb6).next hb7
  have hB7 := ((hB5.drew).trans (hb6.mono (Nat.le_of_lt x5.drew.lt))).trans (hb7.mono (Nat.le_of_lt (x5.drew.next hb6).lt))
  clear y1 y2 y3 x5 s5 hB5 hb6 hb7 t2 t3 w2 w3
  obtain ⟨_, ⟨v1, c1⟩, ⟨v2, c2⟩, f1, f2⟩ := s7
  go_wp2_with (fail)
  refine bodyPost_ret (v := sv (BD d q c) (5 + q) true) ?_ rfl ⟨rfl, ?_⟩
  · simp [results, Try.results20, go_sem, c1, c2]
  · exact (hB7.setCell (by simp) _).setCell (by simp) _

set_option maxHeartbeats 1000000 in
theorem address_yes (d r s g k : Int) (w : World) (h : Sg d r s g) (k0 : 1 ≤ k) (k1 : k ≤ PL d r) :
    Calls Try.prog 26 #[gv d r s, .int .i64 g, .int .i64 k] w fun e w' => e = .returned (.int .i64 (g * PL d r + k)) ∧ Below w.heap.size w w' := by
  obtain ⟨p1, p2, p3, p4⟩ := PL_bd h.d1 h.d2 h.r1 h.r2
  obtain ⟨m1, m2⟩ := mul_bd (a := g) (b := PL d r) (x := 63) (y := 59) h.g0 (by have := h.g1; have := h.s2; omega) (by omega) p2
  have d1 := h.d1
  have d2 := h.d2
  have r1 := h.r1
  have r2 := h.r2
  have hkf : ¬ PL d r < k := by omega
  have hx := Bx.mk' w d r s 23
  have w1 : IntKind.i64.wrap (g * PL d r) = g * PL d r := IntWalk.i64_in _ (by omega)
  have w2 : IntKind.i64.wrap (g * PL d r + k) = g * PL d r + k := IntWalk.i64_in _ (by omega)
  have W1 := Lib.hid w1
  have W2 := Lib.hid w2
  clear w1 w2
  go_enter Try.func26, Try.ntmps26
  go_wp2_with (fail)
  with_reducible refine (hasSeg_yes d r s g _ h).mono ?_
  rintro e w2 ⟨rfl, hb⟩
  have hB := bel_box' _ (by simp) hb
  have x2 := hx.next hb
  clear hb hx
  have y1 := x2.c0
  have y2 := x2.c1
  have y3 := x2.c2
  go_wp2_with (fail)
  with_reducible refine (placesS_any d r s _ d1 d2 r1 r2).mono ?_
  rintro e w3 ⟨rfl, hb3⟩
  have x3 := (x2.next hb3)
  have hB3 := hB.trans (hb3.mono (Nat.le_of_lt x2.lt))
  clear y1 y2 y3 x2 hb3 hB
  have y1 := x3.c0
  have y2 := x3.c1
  have y3 := x3.c2
  go_wp2_with (fail)
  with_reducible refine (placesS_any d r s _ d1 d2 r1 r2).mono ?_
  rintro e w4 ⟨rfl, hb4⟩
  have w1 := W1.out
  have w2 := W2.out
  go_wp2_with (fail)
  go_ret
  exact ⟨rfl, hB3.trans (hb4.mono (Nat.le_of_lt x3.lt))⟩

set_option maxHeartbeats 1000000 in
theorem address_out (d r s g k : Int) (w : World) (h : ¬ Sg d r s g) :
    Calls Try.prog 26 #[gv d r s, .int .i64 g, .int .i64 k] w fun e w' => e = .returned (.int .i64 0) ∧ Below w.heap.size w w' := by
  go_enter Try.func26, Try.ntmps26
  go_wp2_with (fail)
  with_reducible refine (hasSeg_no d r s g _ h).mono ?_
  rintro e w2 ⟨rfl, hb⟩
  have hB := bel_box' _ (by simp) hb
  clear hb
  go_wp2_with (fail)
  go_ret
  exact ⟨rfl, hB⟩
set_option maxHeartbeats 1000000 in
theorem address_low (d r s g k : Int) (w : World) (h : Sg d r s g) (hk : k < 1) :
    Calls Try.prog 26 #[gv d r s, .int .i64 g, .int .i64 k] w fun e w' => e = .returned (.int .i64 0) ∧ Below w.heap.size w w' := by
  have hx := Bx.mk' w d r s 23
  go_enter Try.func26, Try.ntmps26
  go_wp2_with (fail)
  with_reducible refine (hasSeg_yes d r s g _ h).mono ?_
  rintro e w2 ⟨rfl, hb⟩
  have hB := bel_box' _ (by simp) hb
  clear hb hx
  go_wp2_with (fail)
  go_ret
  exact ⟨rfl, hB⟩
set_option maxHeartbeats 1000000 in
theorem address_high (d r s g k : Int) (w : World) (h : Sg d r s g) (hk : PL d r < k) :
    Calls Try.prog 26 #[gv d r s, .int .i64 g, .int .i64 k] w fun e w' => e = .returned (.int .i64 0) ∧ Below w.heap.size w w' := by
  have k0 : 1 ≤ k := by have := PL_bd h.d1 h.d2 h.r1 h.r2; omega
  have hkf : ¬ k ≤ PL d r := by omega
  have hx := Bx.mk' w d r s 23
  go_enter Try.func26, Try.ntmps26
  go_wp2_with (fail)
  with_reducible refine (hasSeg_yes d r s g _ h).mono ?_
  rintro e w2 ⟨rfl, hb⟩
  have hB := bel_box' _ (by simp) hb
  have x2 := hx.next hb
  clear hb hx
  have y1 := x2.c0
  have y2 := x2.c1
  have y3 := x2.c2
  go_wp2_with (fail)
  with_reducible refine (placesS_any d r s _ h.d1 h.d2 h.r1 h.r2).mono ?_
  rintro e w3 ⟨rfl, hb3⟩
  have hB3 := hB.trans (hb3.mono (Nat.le_of_lt x2.lt))
  go_wp2_with (fail)
  go_ret
  exact ⟨rfl, hB3⟩
/-- There is such a place. -/
structure Pk (d r s g k : Int) : Prop extends Sg d r s g where
  k0 : 1 ≤ k
  k1 : k ≤ PL d r
theorem address_ok (d r s g k : Int) (w : World) (h : Pk d r s g k) :
    Calls Try.prog 26 #[gv d r s, .int .i64 g, .int .i64 k] w fun e w' => e = .returned (.int .i64 (g * PL d r + k)) ∧ Below w.heap.size w w' := address_yes d r s g k w h.toSg h.k0 h.k1
theorem address_no (d r s g k : Int) (w : World) (h : ¬ Pk d r s g k) :
    Calls Try.prog 26 #[gv d r s, .int .i64 g, .int .i64 k] w fun e w' => e = .returned (.int .i64 0) ∧ Below w.heap.size w w' := by
  by_cases hs : Sg d r s g
  · by_cases k0 : 1 ≤ k
    · exact address_high d r s g k w hs (by
        by_cases k1 : k ≤ PL d r
        · exact absurd ⟨hs, k0, k1⟩ h
        · omega)
    · exact address_low d r s g k w hs (by omega)
  · exact address_out d r s g k w hs
/-- There is such a block. -/
structure Bk (d r s g k : Int) : Prop extends Sg d r s g where
  k0 : 0 ≤ k
  k1 : k ≤ PL d r
theorem block_no (d r s g k : Int) (w : World) (h : ¬ Bk d r s g k) :
    Calls Try.prog 20 #[gv d r s, .int .i64 g, .int .i64 k] w fun e w' => e = .returned (sv 0 0 false) ∧ Below w.heap.size w w' := by
  by_cases hs : Sg d r s g
  · by_cases k0 : 0 ≤ k
    · exact block_high d r s g k w hs (by
        by_cases k1 : k ≤ PL d r
        · exact absurd ⟨hs, k0, k1⟩ h
        · omega)
    · exact block_low d r s g k w hs (by omega)
  · exact block_out d r s g k w hs

end Go.Proofs.Ytodjeglcdjodfaa
