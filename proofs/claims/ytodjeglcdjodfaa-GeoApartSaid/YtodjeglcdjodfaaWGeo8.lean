/-
  The law GeoApart, walked.
-/
import Derived.Test.YtodjeglcdjodfaaGMap
namespace Go.Proofs.Ytodjeglcdjodfaa
open Go.RowKit Go.Maps Go.ChangeMaps Go.MapKept

/-- The spots that are used when k blocks of the segment that begins with the stripe T are. -/
def U1 (d T k : Int) (q e : Int) : Prop := q < T ∨ (T ≤ q ∧ 1 ≤ e ∧ (q - T) * (d - 1) + (e - 1) < k)
/-- .. when all its blocks are, and o of its parities. -/
def U2 (r T o : Int) (q e : Int) : Prop := q < T + r ∧ (q < T + o ∨ 1 ≤ e)
theorem U1_new {d T k : Int} (d1 : 3 ≤ d) (k0 : 0 ≤ k) : ¬ U1 d T k (T + k / (d - 1)) (k % (d - 1) + 1) := by
  obtain ⟨a1, a2, a3, a4⟩ := kd_bd (d := d) (k := k) d1 k0
  have e := Int.mul_ediv_add_emod k (d - 1)
  rw [Int.mul_comm] at e
  rintro (h | ⟨_, _, h⟩)
  · omega
  · rw [show T + k / (d - 1) - T = k / (d - 1) by omega, show k % (d - 1) + 1 - 1 = k % (d - 1) by omega] at h
    omega
theorem U1_put {d T k : Int} (d1 : 3 ≤ d) (k0 : 0 ≤ k) (q e : Int) (h : U1 d T k q e ∨ (q = T + k / (d - 1) ∧ e = k % (d - 1) + 1)) : U1 d T (k + 1) q e := by
  obtain ⟨a1, a2, a3, a4⟩ := kd_bd (d := d) (k := k) d1 k0
  rcases h with (h | ⟨h1, h2, h3⟩) | ⟨rfl, rfl⟩
  · exact .inl h
  · exact .inr ⟨h1, h2, by omega⟩
  · have e := Int.mul_ediv_add_emod k (d - 1)
    rw [Int.mul_comm] at e
    refine .inr ⟨by omega, by omega, ?_⟩
    rw [show T + k / (d - 1) - T = k / (d - 1) by omega, show k % (d - 1) + 1 - 1 = k % (d - 1) by omega]
    omega
theorem U1_zero {d T : Int} (q e : Int) (h : q < T) : U1 d T 0 q e := .inl h
theorem U1_all {d r T : Int} (d1 : 3 ≤ d) (r1 : 1 ≤ r) (q e : Int) (h : U1 d T (PL d r + 1) q e) : U2 r T 0 q e := by
  rcases h with h | ⟨h1, h2, h3⟩
  · exact ⟨by omega, .inl (by omega)⟩
  · refine ⟨?_, .inr h2⟩
    unfold PL at h3
    by_cases g : q - T < r
    · omega
    · have := Int.mul_le_mul_of_nonneg_right (show r ≤ q - T by omega) (show 0 ≤ d - 1 by omega)
      omega
theorem U2_new {r T o : Int} : ¬ U2 r T o (T + o) 0 := by
  rintro ⟨_, h | h⟩ <;> omega
theorem U2_put {r T o : Int} (o1 : o < r) (q e : Int) (h : U2 r T o q e ∨ (q = T + o ∧ e = 0)) : U2 r T (o + 1) q e := by
  rcases h with ⟨h1, h2⟩ | ⟨rfl, rfl⟩
  · exact ⟨h1, by omega⟩
  · exact ⟨by omega, .inl (by omega)⟩

theorem row_in {d r k : Int} (d1 : 3 ≤ d) (k1 : k ≤ PL d r) : k / (d - 1) < r :=
  Int.ediv_lt_of_lt_mul (by omega) (by unfold PL at k1; omega)
theorem block_de (d r s g k : Int) (x y : Int) (w : World) (h : Sg d r s g) (k0 : 0 ≤ k) (k1 : k ≤ PL d r) (hx : x = DE d (g * r + k / (d - 1)) (k % (d - 1) + 1)) (hy : y = 5 + (g * r + k / (d - 1))) :
    Calls Try.prog 20 #[gv d r s, .int .i64 g, .int .i64 k] w fun e w' => e = .returned (sv x y true) ∧ Below w.heap.size w w' := by
  have := block_yes d r s g k w h k0 k1
  rwa [BD_DE, ← hx, ← hy] at this

set_option maxHeartbeats 1000000 in
theorem apart_no (d r s : Int) (w : World) (h : ¬ Rt d r s) : Calls Try.prog 5 #[gv d r s] w fun e w' => e = .returned (.bool true) ∧ Below w.heap.size w w' := by
  have x1 := Bx.mk' w d r s 23
  have hB1 : Below w.heap.size w (w.alloc (.cells #[.int .i64 d, .int .i64 r, .int .i64 s] 23 (0, 0))) := (Below.refl _ _).alloc (Nat.le_refl _) _
  go_enter Try.func5, Try.ntmps5
  go_wp2_with (fail)
  refine (alive_any _).mono ?_
  rintro e w2 ⟨rfl, hb2⟩
  have x2 := x1.next hb2
  have hB2 := hB1.trans (hb2.mono (Nat.le_of_lt x1.lt))
  clear x1 hB1
  have y1 := x2.c0
  have y2 := x2.c1
  have y3 := x2.c2
  go_wp2_with (fail)
  refine (right_no d r s _ h).mono ?_
  rintro e w3 ⟨rfl, hb3⟩
  have x3 := x2.next hb3
  have hB3 := hB2.trans (hb3.mono (Nat.le_of_lt x2.lt))
  clear y1 y2 y3
  clear x2 hB2
  have y1 := x3.c0
  have y2 := x3.c1
  have y3 := x3.c2
  go_wp2_with (fail)
  refine (places_no d r s _ h).mono ?_
  rintro e w4 ⟨rfl, hb4⟩
  have x4 := x3.next hb4
  have hB4 := hB3.trans (hb4.mono (Nat.le_of_lt x3.lt))
  clear y1 y2 y3
  clear x3 hB3
  have y1 := x4.c0
  have y2 := x4.c1
  have y3 := x4.c2
  go_wp2_with (fail)
  go_ret
  exact ⟨rfl, hB4⟩

set_option maxRecDepth 100000 in
set_option maxHeartbeats 4000000 in
theorem apart_yes (d r s : Int) (w : World) (h : Rt d r s) : Calls Try.prog 5 #[gv d r s] w fun e w' => e = .returned (.bool true) ∧ Below w.heap.size w w' := by
  have x1 := Bx.mk' w d r s 23
  have hB1 : Below w.heap.size w (w.alloc (.cells #[.int .i64 d, .int .i64 r, .int .i64 s] 23 (0, 0))) := (Below.refl _ _).alloc (Nat.le_refl _) _
  obtain ⟨p1, p2, p3, p4⟩ := PL_bd h.d1 h.d2 h.r1 h.r2
  have d1 := h.d1
  have d2 := h.d2
  have r1 := h.r1
  have r2 := h.r2
  have s1 := h.s1
  have s2 := h.s2
  obtain ⟨m1, m2⟩ := mul_bd (a := r) (b := d) (x := 4) (y := 16) (by omega) r2 (by omega) d2
  obtain ⟨m3, m4⟩ := mul_bd (a := s) (b := r * d) (x := 64) (y := 64) (by omega) s2 m1 m2
  have hmm := @run_makeMap Try.prog
  go_enter Try.func5, Try.ntmps5
  go_wp2_with (fail)
  refine (alive_any _).mono ?_
  rintro e w2 ⟨rfl, hb2⟩
  have x2 := x1.next hb2
  have hB2 := hB1.trans (hb2.mono (Nat.le_of_lt x1.lt))
  clear x1 hB1
  have y1 := x2.c0
  have y2 := x2.c1
  have y3 := x2.c2
  go_wp2_with (fail)
  refine (right_yes d r s _ h).mono ?_
  rintro e w3 ⟨rfl, hb3⟩
  have x3 := x2.next hb3
  have hB3 := hB2.trans (hb3.mono (Nat.le_of_lt x2.lt))
  clear y1 y2 y3
  clear x2 hB2
  have y1 := x3.c0
  have y2 := x3.c1
  have y3 := x3.c2
  have x4 := x3.alloc (.map #[] 0)
  have hB4 := hB3.alloc (Nat.le_of_lt x3.lt) (.map #[] 0)
  have u4 := Used.start w3 d
  have nm : w.heap.size ≠ w3.heap.size := Nat.ne_of_lt x3.lt
  have nl : w.heap.size ≤ w3.heap.size := Nat.le_of_lt x3.lt
  clear x3 hB3 y1 y2 y3
  go_wp2_with (fail)
  go_loopw [4] (fun v wr => ∃ t : Nat, (t : Int) ≤ s ∧ v = .int .i64 t ∧ Bx wr w.heap.size d r s ∧ Used wr w3.heap.size d (fun q _ => q < t * r) (t * (r * d)) ∧ Below w.heap.size w wr) (fun v _ => (s - intOf v).toNat)
  case atStart => exact ⟨0, by omega, rfl, x4, u4.mono (fun _ _ h _ => h.elim) (by simp), hB4⟩
  case round =>
    obtain ⟨t, t1, rfl, x5, u5, hB5⟩ := hrel
    clear x4 hB4 u4
    have y1 := x5.c0
    have y2 := x5.c1
    have y3 := x5.c2
    by_cases hts : s ≤ (t : Int)
    · obtain rfl : (t : Int) = s := by omega
      have hlen := fun ty => u5.len ty
      obtain ⟨m5, m6⟩ := mul_bd (a := d) (b := r) (x := 16) (y := 4) (by omega) d2 (by omega) r2
      obtain ⟨m7, m8⟩ := mul_bd (a := d * r) (b := (t : Int)) (x := 64) (y := 64) m5 m6 (by omega) s2
      have heq : ((t : Int) * (r * d) == d * r * t) = true := by
        rw [beq_iff_eq, Int.mul_comm r d, Int.mul_comm]
      go_wp2_with (fail)
      go_ret
      exact ⟨rfl, hB5⟩
    have hlt : (t : Int) < s := by omega
    clear hts
    have hsg : Sg d r s t := ⟨h, by omega, hlt⟩
    obtain ⟨e1, e2⟩ := mul_bd (a := (t : Int)) (b := r) (x := 64) (y := 4) (by omega) (by omega) (by omega) r2
    have e3 := Int.mul_le_mul_of_nonneg_right (show (t : Int) + 1 ≤ s by omega) (show 0 ≤ r by omega)
    rw [Int.add_mul, Int.one_mul] at e3
    obtain ⟨e4, e5⟩ := mul_bd (a := (t : Int)) (b := r * d) (x := 64) (y := 64) (by omega) (by omega) m1 m2
    obtain ⟨T, hT⟩ : ∃ T, T = (t : Int) * r := ⟨_, rfl⟩
    obtain ⟨N, hN⟩ : ∃ N, N = (t : Int) * (r * d) := ⟨_, rfl⟩
    rw [← hT] at e1 e2 e3 u5
    rw [← hN] at e4 e5 u5
    have HT := Lib.hid hT
    have HN := Lib.hid hN
    clear hT hN
    obtain ⟨wo, hwo⟩ : ∃ wo, wo = wr := ⟨_, rfl⟩
    subst hwo
    go_wp2_with (fail)
    go_loopw [5] (fun v wr => ∃ k : Nat, (k : Int) ≤ PL d r + 1 ∧ v = .int .i64 k ∧ Bx wr w.heap.size d r s ∧ Used wr w3.heap.size d (U1 d T k) (N + k) ∧ Below w.heap.size w wr) (fun v _ => (PL d r + 1 - intOf v).toNat)
    case atStart => exact ⟨0, by omega, rfl, x5, u5.mono (fun q e h _ => U1_zero q e h) (by simp), hB5⟩
    case round =>
      obtain ⟨k, k1, rfl, x6, u6, hB6⟩ := hrel
      clear x5 u5 hB5 y1 y2 y3
      have y1 := x6.c0
      have y2 := x6.c1
      have y3 := x6.c2
      by_cases hk : (k : Int) ≤ PL d r
      · obtain ⟨a1, a2, a3, a4⟩ := kd_bd (d := d) (k := (k : Int)) d1 (by omega)
        have rl := row_in d1 hk
        obtain ⟨q, hq⟩ : ∃ q, q = T + (k : Int) / (d - 1) := ⟨_, rfl⟩
        obtain ⟨e, he⟩ : ∃ e, e = (k : Int) % (d - 1) + 1 := ⟨_, rfl⟩
        have ok : Ok d q e := ⟨by omega, by omega, by omega, by omega⟩
        have hnew : ¬ U1 d T k q e := by rw [hq, he]; exact U1_new d1 (by omega)
        obtain ⟨x, hx⟩ : ∃ x, x = DE d q e := ⟨_, rfl⟩
        obtain ⟨y, hy⟩ : ∃ y, y = 5 + q := ⟨_, rfl⟩
        obtain ⟨dx1, dx2⟩ := DE_bd (q := q) (e := e) d1
        rw [← hx] at dx1 dx2
        have y0 : 5 ≤ y := by omega
        have ys : y < 5 + s * r := by omega
        have HX : Hid (x = DE d (t * r + (k : Int) / (d - 1)) ((k : Int) % (d - 1) + 1)) := Lib.hid (by rw [hx, hq, he, HT.out])
        have HY : Hid (y = 5 + (t * r + (k : Int) / (d - 1))) := Lib.hid (by rw [hy, hq, HT.out])
        have hx' := Lib.hid hx
        have hy' := Lib.hid hy
        have hq' := Lib.hid hq
        have he' := Lib.hid he
        have z1 : decide (y < 5) = false := decide_eq_false (by omega)
        have z2 : decide (x < 0) = false := decide_eq_false (by omega)
        have z3 : decide (d ≤ x) = false := decide_eq_false (by omega)
        have z4 : decide (5 + s * r ≤ y) = false := decide_eq_false (by omega)
        have hnew' := Lib.hid hnew
        clear hx hy hq he a1 a2 a3 a4 rl hnew
        go_wp2_with (fail)
        refine (places_yes d r s _ h).mono ?_
        rintro e w7 ⟨rfl, hb7⟩
        have x7 := x6.next hb7
        have hB7 := hB6.trans (hb7.mono (Nat.le_of_lt x6.lt))
        clear y1 y2 y3
        clear x6 hB6
        have y1 := x7.c0
        have y2 := x7.c1
        have y3 := x7.c2
        have u7 := u6.below hb7
        go_wp2_with (fail)
        refine (block_de d r s t k x y _ hsg (by omega) hk HX.out HY.out).mono ?_
        rintro e w8 ⟨rfl, hb8⟩
        have x8 := x7.next hb8
        have hB8 := hB7.trans (hb8.mono (Nat.le_of_lt x7.lt))
        clear y1 y2 y3
        clear x7 hB7
        have y1 := x8.c0
        have y2 := x8.c1
        have y3 := x8.c2
        have u8 := u7.below hb8
        have P9 := Px.mk' w8 x y 30
        have x9 := x8.alloc (.cells #[.int .i64 x, .int .i64 y] 30 (0, 0))
        have u9 := u8.alloc (.cells #[.int .i64 x, .int .i64 y] 30 (0, 0))
        have hB9 := hB8.alloc (Nat.le_of_lt x8.lt) (.cells #[.int .i64 x, .int .i64 y] 30 (0, 0))
        clear u6 u7 u8 x8 hB8 y1 y2 y3
        have y1 := x9.c0
        have y2 := x9.c1
        have y3 := x9.c2
        go_wp2_with (fail)
        have X0 := x9.drew
        have Q0 := P9.drew
        have V0 := u9.drew
        have B0 := hB9.drew
        have hlook := V0.look d1 d2 ok hnew'.out
        rw [← hx'.out, ← hy'.out] at hlook
        clear y1 y2 y3
        go_region_held3 (fun w' => w'.cell? ⟨w.heap.size, 0, none⟩ = some (.int .i64 d) ∧ w'.cell? ⟨w.heap.size, 1, none⟩ = some (.int .i64 r) ∧ w'.cell? ⟨w.heap.size, 2, none⟩ = some (.int .i64 s) ∧ w'.cell? ⟨w8.heap.size, 0, none⟩ = some (.int .i64 x) ∧ w'.cell? ⟨w8.heap.size, 1, none⟩ = some (.int .i64 y))
          (first | exact ⟨X1.c0, X1.c1, X1.c2, Q1.c0, Q1.c1⟩ | exact ⟨X0.c0, X0.c1, X0.c2, Q0.c0, Q0.c1⟩ | go_keep)
          (first | (go_at_call 16
                    refine (sectors_yes d r s _ h).mono ?_
                    rintro e w9 ⟨rfl, hb9⟩
                    have X1 := X0.next hb9
                    have Q1 := Q0.next hb9
                    have V1 := V0.below hb9
                    have B1 := B0.trans (hb9.mono (Nat.le_of_lt X0.lt))))
        have Hx := hx'.out
        have Hy := hy'.out
        have hc5 : N + (k : Int) ≤ 5000 := by omega
        obtain ⟨w10, hup, u10, ht10⟩ := V1.put d1 d2 hc5 ok hnew'.out
        rw [← Hx, ← Hy] at hup
        have x10 := X1.grown ht10 nm
        have hB10 := B1.grown ht10.grown (Nat.le_of_lt X1.lt) (fun j e => by cases e; exact nl)
        have u11 : Used w10 w3.heap.size d (U1 d T ((k + 1 : Nat) : Int)) (N + ((k + 1 : Nat) : Int)) := u10.mono (fun q' e' h' _ => by
          rw [show ((k + 1 : Nat) : Int) = (k : Int) + 1 by simp]
          exact U1_put d1 (by omega) q' e' (by rw [← hq'.out, ← he'.out]; exact h')) (by simp; omega)
        clear Hx Hy hlook V0 V1 X0 Q0 B0 B1 u9 u10 x9 hB9 ht10
        have c1 := Q1.c0
        have c2 := Q1.c1
        go_wp2_with (fail)
        go_roundw
        case rel => exact ⟨k + 1, by omega, by go_num, x10, u11, hB10⟩
        case measure => simp [intOf]; omega
      · have hkk : (k : Int) = PL d r + 1 := by omega
        have hcount : PL d r + 1 + r = r * d := by unfold PL; rw [Int.mul_sub]; omega
        have HC := Lib.hid hcount
        have u6' : Used wr w3.heap.size d (U2 r T ((0 : Nat) : Int)) (N + (PL d r + 1) + ((0 : Nat) : Int)) := u6.mono (fun q e h' _ => by rw [hkk] at h'; exact U1_all d1 r1 q e h') (by rw [hkk]; simp)
        clear u6 hkk hcount
        go_wp2_with (fail)
        refine (places_yes d r s _ h).mono ?_
        rintro e w7 ⟨rfl, hb7⟩
        have x7 := x6.next hb7
        have hB7 := hB6.trans (hb7.mono (Nat.le_of_lt x6.lt))
        clear y1 y2 y3
        clear x6 hB6
        have y1 := x7.c0
        have y2 := x7.c1
        have y3 := x7.c2
        have u7 := u6'.below hb7
        clear u6'
        obtain ⟨wi, hwi⟩ : ∃ wi, wi = wr := ⟨_, rfl⟩
        subst hwi
        go_wp2_with (fail)
        go_loopw [8] (fun v wr => ∃ o : Nat, (o : Int) ≤ r ∧ v = .int .i64 o ∧ Bx wr w.heap.size d r s ∧ Used wr w3.heap.size d (U2 r T o) (N + (PL d r + 1) + o) ∧ Below w.heap.size w wr) (fun v _ => (r - intOf v).toNat)
        case atStart => exact ⟨0, by omega, rfl, x7, u7, hB7⟩
        case round =>
          obtain ⟨o, o1, rfl, x8, u8, hB8⟩ := hrel
          clear x7 u7 hB7 y1 y2 y3
          have y1 := x8.c0
          have y2 := x8.c1
          have y3 := x8.c2
          by_cases ho : (o : Int) < r
          · obtain ⟨q, hq⟩ : ∃ q, q = T + (o : Int) := ⟨_, rfl⟩
            have ok : Ok d q 0 := ⟨by omega, by omega, by omega, by omega⟩
            have hnew : ¬ U2 r T o q 0 := by rw [hq]; exact U2_new
            obtain ⟨x, hx⟩ : ∃ x, x = DE d q 0 := ⟨_, rfl⟩
            obtain ⟨y, hy⟩ : ∃ y, y = 5 + q := ⟨_, rfl⟩
            have HX : Hid (x = PD d (t * r + o)) := Lib.hid (by rw [hx, DE_zero d1, hq, HT.out])
            have HY : Hid (y = 5 + (t * r + (o : Int))) := Lib.hid (by rw [hy, hq, HT.out])
            have hx' := Lib.hid hx
            have hy' := Lib.hid hy
            have hq' := Lib.hid hq
            have hnew' := Lib.hid hnew
            have hc5 : N + (PL d r + 1) + (o : Int) ≤ 5000 := by omega
            clear hx hy hq hnew
            go_wp2_with (fail)
            refine (parity_at d r s t o x y _ hsg (by omega) ho HX.out HY.out).mono ?_
            rintro e w9 ⟨rfl, hb9⟩
            have x9 := x8.next hb9
            have hB9 := hB8.trans (hb9.mono (Nat.le_of_lt x8.lt))
            clear y1 y2 y3
            clear x8 hB8
            have y1 := x9.c0
            have y2 := x9.c1
            have y3 := x9.c2
            have u9 := u8.below hb9
            have P10 := Px.mk' w9 x y 30
            have x10 := x9.alloc (.cells #[.int .i64 x, .int .i64 y] 30 (0, 0))
            have u10 := u9.alloc (.cells #[.int .i64 x, .int .i64 y] 30 (0, 0))
            have hB10 := hB9.alloc (Nat.le_of_lt x9.lt) (.cells #[.int .i64 x, .int .i64 y] 30 (0, 0))
            clear u8 u9 x9 hB9 y1 y2 y3
            have hlook := u10.look d1 d2 ok hnew'.out
            obtain ⟨w11, hup, u11, ht11⟩ := u10.put d1 d2 hc5 ok hnew'.out
            rw [← hx'.out, ← hy'.out] at hlook hup
            have x11 := x10.grown ht11 nm
            have hB11 := hB10.grown ht11.grown (Nat.le_of_lt x10.lt) (fun j e => by cases e; exact nl)
            have u12 : Used w11 w3.heap.size d (U2 r T ((o + 1 : Nat) : Int)) (N + (PL d r + 1) + ((o + 1 : Nat) : Int)) := u11.mono (fun q' e' h' _ => by
              rw [show ((o + 1 : Nat) : Int) = (o : Int) + 1 by simp]
              exact U2_put ho q' e' (by rw [← hq'.out]; exact h')) (by simp; omega)
            clear u10 u11 x10 hB10 ht11
            have c1 := P10.c0
            have c2 := P10.c1
            go_wp2_with (fail)
            go_roundw
            case rel => exact ⟨o + 1, by omega, by go_num, x11, u12, hB11⟩
            case measure => simp [intOf]; omega
          · have hor : (o : Int) = r := by omega
            have u9 : Used wr w3.heap.size d (fun q _ => q < ((t + 1 : Nat) : Int) * r) (((t + 1 : Nat) : Int) * (r * d)) := u8.mono (fun q e h' _ => by
              rw [show ((t + 1 : Nat) : Int) = (t : Int) + 1 by simp, Int.add_mul, Int.one_mul, ← HT.out]
              exact h'.1) (by
              rw [show ((t + 1 : Nat) : Int) = (t : Int) + 1 by simp, Int.add_mul, Int.one_mul, ← HN.out, hor, ← HC.out]
              omega)
            have U9 := Lib.hid u9
            clear u8 hor u9
            have ho' : r ≤ (o : Int) := by omega
            clear ho
            go_wp2_with (fail)
            go_roundw
            case rel => exact ⟨t + 1, by omega, by go_num, x8, U9.out, hB8⟩
            case measure => simp [intOf]; omega
theorem law_apart (d r s : Int) (w : World) : Calls Try.prog 5 #[gv d r s] w fun e w' => e = .returned (.bool true) ∧ Below w.heap.size w w' := by
  by_cases h : Rt d r s
  · exact apart_yes d r s w h
  · exact apart_no d r s w h

end Go.Proofs.Ytodjeglcdjodfaa
