/-
  The law ScanSummaries, walked.
-/
import Derived.Test.YtcpplppccljmiaaAl8
namespace Go.Proofs.Ytcpplppccljmiaa
open Go.RowKit
set_option linter.unusedVariables false

/-- What both PutSummary answer, by one word. -/
def PgPost (w : World) (ok : Bool) (o1 i1 : Int) (np : Nat) (zp : List Int) (e : Ending) (w' : World) : Prop := ∃ a c, e = .returned (.tuple #[.agg #[.int .i64 o1, .int .i64 i1, .slice a np c], .bool ok]) ∧ Bys w' a np zp ∧ Below w.heap.size w w'
theorem put_gen (d r s c i n t : Int) : ∃ (ok : Bool) (o1 i1 : Int) (np : Nat) (zp : List Int), np ≤ 56 ∧ (∀ w, Calls Try.prog 6 #[gv d r s, umv c i n t] w (PgPost w ok o1 i1 np zp)) ∧ ∀ w, Calls Try.prog 7 #[gv d r s, umv c i n t] w (PgPost w ok o1 i1 np zp) := by
  cases hok : sumO d r s c i n t with
  | false =>
    refine ⟨false, 0, 0, 0, [], by omega, fun w => ?_, fun w => ?_⟩
    · have h := putSum_any d r s c i n t w
      rw [hok] at h
      refine h.mono ?_
      rintro e w' ⟨rfl, hb⟩
      exact ⟨_, _, rfl, Bys.none _, hb⟩
    · have h := rputSum_any d r s c i n t w
      rw [hok] at h
      refine h.mono ?_
      rintro e w' ⟨rfl, hb⟩
      exact ⟨_, _, rfl, Bys.none _, hb⟩
  | true =>
    refine ⟨true, 65535, 0, 56, sumL c i n t, by omega, fun w => ?_, fun w => ?_⟩
    · have h := putSum_any d r s c i n t w
      rw [hok] at h
      refine h.mono ?_
      rintro e w' ⟨g, rfl, hq, _, hb⟩
      exact ⟨_, _, rfl, hq.bysn (sumL_small _ _ _ _) (sumL_len _ _ _ _), hb⟩
    · have h := rputSum_any d r s c i n t w
      rw [hok] at h
      refine h.mono ?_
      rintro e w' ⟨a, k, rfl, hp, hb⟩
      exact ⟨_, _, rfl, hp.bys, hb⟩
theorem get_gen (d r s o ix : Int) (la : Nat) (x : List Int) (hn : la ≤ 1000000000000) : ∃ (ok : Bool) (p1 p2 p3 p4 : Int), (∀ a ca w, Bys w a la x → Calls Try.prog 8 #[gv d r s, .agg #[.int .i64 o, .int .i64 ix, .slice a la ca]] w fun e w' => e = .returned (.tuple #[umv p1 p2 p3 p4, .bool ok]) ∧ Below w.heap.size w w') ∧
    ∀ a ca w, Pin w a la ca x → Calls Try.prog 9 #[gv d r s, .agg #[.int .i64 o, .int .i64 ix, .slice a la ca]] w fun e w' => e = .returned (.tuple #[umv p1 p2 p3 p4, .bool ok]) ∧ Below w.heap.size w w' := by
  cases hok : gsO d r s o ix la x with
  | false =>
    refine ⟨false, 0, 0, 0, 0, fun a ca w h => ?_, fun a ca w h => ?_⟩
    · have := getSum_any d r s o ix a la ca x w h hn
      rw [hok] at this
      exact this
    · have := rgetSum_any d r s o ix a la ca x w h hn
      rw [hok] at this
      exact this
  | true =>
    refine ⟨true, tv la x 1, tv la x 2, tv la x 3, tv la x 4, fun a ca w h => ?_, fun a ca w h => ?_⟩
    · have := getSum_any d r s o ix a la ca x w h hn
      rw [hok] at this
      exact this
    · have := rgetSum_any d r s o ix a la ca x w h hn
      rw [hok] at this
      exact this

set_option maxRecDepth 100000 in
set_option maxHeartbeats 8000000 in
theorem sums_any (d r s c i n t o ix : Int) (a : Option Addr) (la ca : Nat) (x : List Int) (w : World) (hx : Pin w a la ca x) :
    Calls Try.prog 3 #[gv d r s, umv c i n t, .agg #[.int .i64 o, .int .i64 ix, .slice a la ca]] w fun e w' => e = .returned (.bool true) ∧ Below w.heap.size w w' := by
  obtain ⟨X, hX⟩ : ∃ X, X = ((w.alloc (.cells #[.int .i64 d, .int .i64 r, .int .i64 s] 23 (0, 0))).alloc (.cells #[.int .i64 c, .int .i64 i, .int .i64 n, .int .i64 t] 25 (0, 0))).alloc (.cells #[.int .i64 o, .int .i64 ix, .slice a la ca] 28 (0, 0)) := ⟨_, rfl⟩
  have hB : Below w.heap.size w X := by rw [hX]; exact bel3 _ _ _ _
  have hbx : Bx X w.heap.size d r s := by rw [hX]; exact ((Bx.mk' w d r s _).alloc _).alloc _
  have hms : M4 X (w.heap.size + 1) c i n t := by
    rw [hX, show w.heap.size + 1 = (w.alloc (.cells #[.int .i64 d, .int .i64 r, .int .i64 s] 23 (0, 0))).heap.size by simp]
    exact (M4.mk' _ c i n t _).next ((Below.refl _ _).alloc (Nat.le_refl _) _)
  have hgx : Gx X (w.heap.size + 1 + 1) o ix (.slice a la ca) := by
    rw [hX, show w.heap.size + 1 + 1 = ((w.alloc (.cells #[.int .i64 d, .int .i64 r, .int .i64 s] 23 (0, 0))).alloc (.cells #[.int .i64 c, .int .i64 i, .int .i64 n, .int .i64 t] 25 (0, 0))).heap.size by simp]
    exact Gx.mk' _ o ix _ _
  obtain ⟨g, hg⟩ : ∃ g, g = w.heap.size := ⟨_, rfl⟩
  obtain ⟨g1, hg1⟩ : ∃ k, k = w.heap.size + 1 := ⟨_, rfl⟩
  obtain ⟨g2, hg2⟩ : ∃ k, k = w.heap.size + 1 + 1 := ⟨_, rfl⟩
  rw [← hg] at hbx
  rw [← hg1] at hms
  rw [← hg2] at hgx
  have HA := Lib.hid (And.intro hB (And.intro hbx (And.intro hms (And.intro hgx (hx.next hB)))))
  clear hB hbx hms hgx hx
  have hal := alive_any X
  have HAL := Lib.hid hal
  clear hal
  by_cases hl : 1000 < (la : Int)
  · unfold umv
    go_enter Try.func3, Try.ntmps3
    go_wp2_with (fail)
    rw [← hX, ← hg2, ← hg1, ← hg]
    clear hX hg hg1 hg2
    refine HAL.out.mono ?_
    rintro e w1 ⟨rfl, hb1⟩
    have HB1 := Lib.hid (HA.out.1.trans (hb1.mono HA.out.1.size))
    have hgx := HA.out.2.2.2.1.next hb1
    have y2 := hgx.c2
    clear hb1 hgx
    go_wp2_with (fail)
    go_ret
    exact ⟨rfl, HB1.out⟩
  · obtain ⟨ok, o1, i1, np, zp, hnp, hp1, hp2⟩ := put_gen d r s c i n t
    obtain ⟨ok2, p1, p2, p3, p4, hq1, hq2⟩ := get_gen d r s o ix la x (by omega)
    have hl' : decide (1000 < (la : Int)) = false := decide_eq_false hl
    unfold umv at hp1 hp2 hq1 hq2 ⊢
    have HP := Lib.hid (And.intro hp1 (And.intro hp2 (And.intro hq1 hq2)))
    clear hp1 hp2 hq1 hq2 hl
    go_enter Try.func3, Try.ntmps3
    go_wp2_with (fail)
    rw [← hX, ← hg2, ← hg1, ← hg]
    clear hX hg hg1 hg2
    have HB0 := Lib.hid HA.out.1
    have FG0 := Lib.hid HA.out.2.1
    have FU0 := Lib.hid HA.out.2.2.1
    have FK0 := Lib.hid HA.out.2.2.2.1
    have FP0 := Lib.hid HA.out.2.2.2.2
    clear HA
    refine HAL.out.mono ?_
    rintro e w1 ⟨rfl, hb⟩
    have FG1 := Lib.hid (FG0.out.next hb)
    have FU1 := Lib.hid (FU0.out.next hb)
    have FK1 := Lib.hid (FK0.out.next hb)
    have FP1 := Lib.hid (FP0.out.next hb)
    have HB1 := Lib.hid (HB0.out.trans (hb.mono HB0.out.size))
    clear hb FG0 FU0 FK0 FP0 HB0
    clear HAL
    have b0 := FG1.out.c0
    have b1 := FG1.out.c1
    have b2 := FG1.out.c2
    have bl := FG1.out.lt
    have u0 := FU1.out.c0
    have u1 := FU1.out.c1
    have u2 := FU1.out.c2
    have u3 := FU1.out.c3
    have ul := FU1.out.lt
    have z0 := FK1.out.c0
    have z1 := FK1.out.c1
    have z2 := FK1.out.c2
    have zl := FK1.out.lt
    go_wp2_with (fail)
    refine (HP.out.1 _).mono ?_
    rintro e wG7 ⟨ap, cp, rfl, hbys, hb⟩
    clear b0 b1 b2 bl u0 u1 u2 u3 ul z0 z1 z2 zl
    have hy0 := hbys
    have FG2 := Lib.hid (FG1.out.next hb)
    have FU2 := Lib.hid (FU1.out.next hb)
    have FK2 := Lib.hid (FK1.out.next hb)
    have FP2 := Lib.hid (FP1.out.next hb)
    have HB2 := Lib.hid (HB1.out.trans (hb.mono HB1.out.size))
    clear hb FG1 FU1 FK1 FP1 HB1
    have b0 := FG2.out.c0
    have b1 := FG2.out.c1
    have b2 := FG2.out.c2
    have bl := FG2.out.lt
    have u0 := FU2.out.c0
    have u1 := FU2.out.c1
    have u2 := FU2.out.c2
    have u3 := FU2.out.c3
    have ul := FU2.out.lt
    have z0 := FK2.out.c0
    have z1 := FK2.out.c1
    have z2 := FK2.out.c2
    have zl := FK2.out.lt
    have hb := (Below.refl wG7.heap.size wG7).alloc (Nat.le_refl _) (.cells #[.int .i64 o1, .int .i64 i1, .slice ap np cp] 28 (0, 0))
    have hm := Gx.mk' wG7 o1 i1 (.slice ap np cp) 28
    have hy := hy0.next hb
    clear hy0 hbys
    have FG3 := Lib.hid (FG2.out.next hb)
    have FU3 := Lib.hid (FU2.out.next hb)
    have FK3 := Lib.hid (FK2.out.next hb)
    have FP3 := Lib.hid (FP2.out.next hb)
    have HB3 := Lib.hid (HB2.out.trans (hb.mono HB2.out.size))
    clear hb FG2 FU2 FK2 FP2 HB2
    have G73 := Lib.hid hm
    have S73 := Lib.hid hy
    clear hy
    clear hm
    go_wp2_with (fail)
    refine (HP.out.2.1 _).mono ?_
    rintro e wG9 ⟨aq, cq, rfl, hbys, hb⟩
    clear b0 b1 b2 bl u0 u1 u2 u3 ul z0 z1 z2 zl
    have hy0 := hbys
    have FG4 := Lib.hid (FG3.out.next hb)
    have FU4 := Lib.hid (FU3.out.next hb)
    have FK4 := Lib.hid (FK3.out.next hb)
    have FP4 := Lib.hid (FP3.out.next hb)
    have G74 := Lib.hid (G73.out.next hb)
    have S74 := Lib.hid (S73.out.next hb)
    have HB4 := Lib.hid (HB3.out.trans (hb.mono HB3.out.size))
    clear hb FG3 FU3 FK3 FP3 G73 S73 HB3
    have b0 := FG4.out.c0
    have b1 := FG4.out.c1
    have b2 := FG4.out.c2
    have bl := FG4.out.lt
    have u0 := FU4.out.c0
    have u1 := FU4.out.c1
    have u2 := FU4.out.c2
    have u3 := FU4.out.c3
    have ul := FU4.out.lt
    have z0 := FK4.out.c0
    have z1 := FK4.out.c1
    have z2 := FK4.out.c2
    have zl := FK4.out.lt
    have hb := (Below.refl wG9.heap.size wG9).alloc (Nat.le_refl _) (.cells #[.int .i64 o1, .int .i64 i1, .slice aq np cq] 28 (0, 0))
    have hm := Gx.mk' wG9 o1 i1 (.slice aq np cq) 28
    have hy := hy0.next hb
    clear hy0 hbys
    have FG5 := Lib.hid (FG4.out.next hb)
    have FU5 := Lib.hid (FU4.out.next hb)
    have FK5 := Lib.hid (FK4.out.next hb)
    have FP5 := Lib.hid (FP4.out.next hb)
    have G75 := Lib.hid (G74.out.next hb)
    have S75 := Lib.hid (S74.out.next hb)
    have HB5 := Lib.hid (HB4.out.trans (hb.mono HB4.out.size))
    clear hb FG4 FU4 FK4 FP4 G74 S74 HB4
    have G95 := Lib.hid hm
    have S95 := Lib.hid hy
    clear hy
    clear hm
    go_wp2_with (fail)
    refine (HP.out.2.2.1 _ _ _ FP5.out.bys).mono ?_
    rintro e wM1 ⟨rfl, hb⟩
    clear b0 b1 b2 bl u0 u1 u2 u3 ul z0 z1 z2 zl
    have FG6 := Lib.hid (FG5.out.next hb)
    have FU6 := Lib.hid (FU5.out.next hb)
    have FK6 := Lib.hid (FK5.out.next hb)
    have FP6 := Lib.hid (FP5.out.next hb)
    have G76 := Lib.hid (G75.out.next hb)
    have S76 := Lib.hid (S75.out.next hb)
    have G96 := Lib.hid (G95.out.next hb)
    have S96 := Lib.hid (S95.out.next hb)
    have HB6 := Lib.hid (HB5.out.trans (hb.mono HB5.out.size))
    clear hb FG5 FU5 FK5 FP5 G75 S75 G95 S95 HB5
    have b0 := FG6.out.c0
    have b1 := FG6.out.c1
    have b2 := FG6.out.c2
    have bl := FG6.out.lt
    have u0 := FU6.out.c0
    have u1 := FU6.out.c1
    have u2 := FU6.out.c2
    have u3 := FU6.out.c3
    have ul := FU6.out.lt
    have z0 := FK6.out.c0
    have z1 := FK6.out.c1
    have z2 := FK6.out.c2
    have zl := FK6.out.lt
    have hb := (Below.refl wM1.heap.size wM1).alloc (Nat.le_refl _) (.cells #[.int .i64 p1, .int .i64 p2, .int .i64 p3, .int .i64 p4] 25 (0, 0))
    have hm := M4.mk' wM1 p1 p2 p3 p4 25
    have FG7 := Lib.hid (FG6.out.next hb)
    have FU7 := Lib.hid (FU6.out.next hb)
    have FK7 := Lib.hid (FK6.out.next hb)
    have FP7 := Lib.hid (FP6.out.next hb)
    have G77 := Lib.hid (G76.out.next hb)
    have S77 := Lib.hid (S76.out.next hb)
    have G97 := Lib.hid (G96.out.next hb)
    have S97 := Lib.hid (S96.out.next hb)
    have HB7 := Lib.hid (HB6.out.trans (hb.mono HB6.out.size))
    clear hb FG6 FU6 FK6 FP6 G76 S76 G96 S96 HB6
    have M17 := Lib.hid hm
    clear hm
    go_wp2_with (fail)
    refine (HP.out.2.2.2 _ _ _ FP7.out).mono ?_
    rintro e wM3 ⟨rfl, hb⟩
    clear b0 b1 b2 bl u0 u1 u2 u3 ul z0 z1 z2 zl
    have FG8 := Lib.hid (FG7.out.next hb)
    have FU8 := Lib.hid (FU7.out.next hb)
    have FK8 := Lib.hid (FK7.out.next hb)
    have FP8 := Lib.hid (FP7.out.next hb)
    have G78 := Lib.hid (G77.out.next hb)
    have S78 := Lib.hid (S77.out.next hb)
    have G98 := Lib.hid (G97.out.next hb)
    have S98 := Lib.hid (S97.out.next hb)
    have M18 := Lib.hid (M17.out.next hb)
    have HB8 := Lib.hid (HB7.out.trans (hb.mono HB7.out.size))
    clear hb FG7 FU7 FK7 FP7 G77 S77 G97 S97 M17 HB7
    have c0 := G78.out.c0
    have c1 := G78.out.c1
    have c2 := G78.out.c2
    have cl := G78.out.lt
    have d0 := G98.out.c0
    have d1 := G98.out.c1
    have d2 := G98.out.c2
    have dl := G98.out.lt
    have hb := (Below.refl wM3.heap.size wM3).alloc (Nat.le_refl _) (.cells #[.int .i64 p1, .int .i64 p2, .int .i64 p3, .int .i64 p4] 25 (0, 0))
    have hm := M4.mk' wM3 p1 p2 p3 p4 25
    have FG9 := Lib.hid (FG8.out.next hb)
    have FU9 := Lib.hid (FU8.out.next hb)
    have FK9 := Lib.hid (FK8.out.next hb)
    have FP9 := Lib.hid (FP8.out.next hb)
    have G79 := Lib.hid (G78.out.next hb)
    have S79 := Lib.hid (S78.out.next hb)
    have G99 := Lib.hid (G98.out.next hb)
    have S99 := Lib.hid (S98.out.next hb)
    have M19 := Lib.hid (M18.out.next hb)
    have HB9 := Lib.hid (HB8.out.trans (hb.mono HB8.out.size))
    clear hb FG8 FU8 FK8 FP8 G78 S78 G98 S98 M18 HB8
    have M39 := Lib.hid hm
    clear hm
    have hsb := same_eq ap aq np cp cq zp zp _ S79.out S99.out (by omega) rfl
    have HSB := Lib.hid hsb
    clear hsb
    go_wp2_with (fail)
    refine HSB.out.mono ?_
    rintro e w9 ⟨rfl, hb⟩
    clear c0 c1 c2 cl d0 d1 d2 dl HSB
    have FG10 := Lib.hid (FG9.out.next hb)
    have FU10 := Lib.hid (FU9.out.next hb)
    have FK10 := Lib.hid (FK9.out.next hb)
    have FP10 := Lib.hid (FP9.out.next hb)
    have G710 := Lib.hid (G79.out.next hb)
    have S710 := Lib.hid (S79.out.next hb)
    have G910 := Lib.hid (G99.out.next hb)
    have S910 := Lib.hid (S99.out.next hb)
    have M110 := Lib.hid (M19.out.next hb)
    have M310 := Lib.hid (M39.out.next hb)
    have HB10 := Lib.hid (HB9.out.trans (hb.mono HB9.out.size))
    clear hb FG9 FU9 FK9 FP9 G79 S79 G99 S99 M19 M39 HB9
    have m0 := M110.out.c0
    have m1 := M110.out.c1
    have m2 := M110.out.c2
    have m3 := M110.out.c3
    have n0 := M310.out.c0
    have n1 := M310.out.c1
    have n2 := M310.out.c2
    have n3 := M310.out.c3
    go_wp2_with (fail)
    go_ret
    exact ⟨by simp, HB10.out⟩
end Go.Proofs.Ytcpplppccljmiaa
