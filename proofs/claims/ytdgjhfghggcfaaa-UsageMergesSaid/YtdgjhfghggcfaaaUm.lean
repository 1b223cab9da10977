/-
  The least of some numbers; how many segments some blocks need; is there room: the program's.
-/
import Derived.Test.YtdgjhfghggcfaaaUs
import Derived.Test.YtdgjhfghggcfaaaWhere
namespace Go.Proofs.Ytdgjhfghggcfaaa
open Go.RowKit
set_option linter.unusedVariables false

theorem minF_snoc (ks : List Int) (k m : Int) : minF (ks ++ [k]) m = if k < minF ks m then k else minF ks m := by
  unfold minF
  rw [List.foldl_append]
  rfl
set_option maxHeartbeats 1000000 in
theorem min_any (a : Option Addr) (n c : Nat) (ks : List Int) (w : World) (h : Ins w a n ks) (h0 : 0 < n) (hn : n ≤ 1000000000000) :
    Calls Try.prog 30 #[.slice a n c] w fun e w' => (∃ m : Int, e = .returned (.int .i64 m) ∧ (m < 0 ↔ ¬ noneNeg ks)) ∧ w' = w := by
  have hl := h.len
  obtain ⟨b, off, rfl, hb, hc⟩ := h.at h0
  have hfin : Hid (∀ m : Int, m = minF ks (num ks 0) → (m < 0 ↔ ¬ noneNeg ks)) := Lib.hid fun m hm => by
    rw [hm, minF_neg]
    refine ⟨fun x => x.elim (fun x1 x2 => ?_) id, .inr⟩
    have := x2 (num ks 0) (num_mem (by omega))
    omega
  have y0 := hc 0 h0
  rw [Nat.add_zero] at y0
  have hn1 : (1 : Int) ≤ (n : Int) := by omega
  go_enter Try.func30, Try.ntmps30
  go_wp2_with (fail)
  go_loopw [3, 4] (fun u v wr => ∃ k : Nat, 1 ≤ k ∧ k ≤ n ∧ v = .int .i64 k ∧ u = .int .i64 (minF (ks.take k) (num ks 0)) ∧ wr = w) (fun _ v _ => n - (RowKit.intOf v).toNat)
  case atStart => exact ⟨1, by omega, by omega, rfl, by
    rw [show ks.take 1 = ks.take 0 ++ [num ks 0] from take_num (by omega), minF_snoc]
    simp [minF], rfl⟩
  case round =>
    obtain ⟨k, hk1, hk, rfl, rfl, rfl⟩ := hrel
    by_cases hlt : k < n
    · have k0 : (0 : Int) ≤ (k : Int) := by omega
      have k1 : (k : Int) < (n : Int) := by omega
      have y := hc k hlt
      have hs : minF (ks.take (k + 1)) (num ks 0) = if num ks k < minF (ks.take k) (num ks 0) then num ks k else minF (ks.take k) (num ks 0) := by rw [take_num (by omega), minF_snoc]
      obtain ⟨m, hm⟩ : ∃ m, m = minF (ks.take k) (num ks 0) := ⟨_, rfl⟩
      rw [← hm] at hs ⊢
      have HS := Lib.hid hs
      clear hs hm hc h
      go_wp2_with (fail)
      go_roundw
      case rel => exact ⟨k + 1, by omega, by omega, by go_num, by rw [HS.out], by first | rfl | trivial⟩
      case measure => simp [RowKit.intOf]; omega
    · obtain rfl : k = n := by omega
      have hm := hfin.out (minF (ks.take k) (num ks 0)) (by rw [List.take_of_length_le (by omega)])
      have HM := Lib.hid hm
      clear hm hc h y0
      go_wp2_with (fail)
      go_ret
      exact ⟨⟨_, rfl, HM.out⟩, rfl⟩

theorem cei_split {D n : Int} (hD : 1 ≤ D) : cei D n = n / D + if 0 < n % D then 1 else 0 := by
  unfold cei
  have b := Int.emod_add_mul_ediv n D
  have c := Int.emod_lt_of_pos n (show 0 < D by omega)
  have e := Int.emod_nonneg n (show D ≠ 0 by omega)
  rw [show n + D - 1 = (n % D + D - 1) + D * (n / D) by omega, Int.add_mul_ediv_left _ _ (by omega)]
  by_cases h : 0 < n % D
  · rw [if_pos h, show n % D + D - 1 = (n % D - 1) + D * 1 by omega, Int.add_mul_ediv_left _ _ (by omega), Int.ediv_eq_zero_of_lt (by omega) (by omega)]
    omega
  · rw [if_neg h, Int.ediv_eq_zero_of_lt (by omega) (by omega)]
    omega
/-- The lesser one. -/
def mi (a b : Int) : Int := if b < a then b else a
theorem wf_i64 {n : Int} (h : (Lit.int .i64 n).wf = true) : -9223372036854775808 ≤ n ∧ n ≤ 9223372036854775807 := by
  simp [Lit.wf, IntKind.min, IntKind.max, IntKind.signed, IntKind.bits] at h
  omega
set_option maxHeartbeats 1000000 in
theorem need_any (p1 p2 : Nat) (D M n : Int) (w : World) (hD : 1 ≤ D) (h0 : 0 ≤ n) (hn : n ≤ 9223372036854775807) (hM : M ≤ 100) (c1 : w.cell? ⟨p1, 0, none⟩ = some (.int .i64 D)) (c2 : w.cell? ⟨p2, 0, none⟩ = some (.int .i64 M)) :
    Calls Try.prog 31 #[.int .i64 n, .pointer (some ⟨p1, 0, none⟩), .pointer (some ⟨p2, 0, none⟩)] w fun e w' => e = .returned (.int .i64 (mi (cei D n) M)) ∧ w' = w := by
  have hs := cei_split (n := n) hD
  have z1 : D ≠ 0 := by omega
  have a1 := Int.ediv_nonneg h0 (b := D) (by omega)
  have a2 := Int.ediv_le_self D h0
  have a3 := Int.emod_nonneg n z1
  have a4 := Int.emod_lt_of_pos n (show 0 < D by omega)
  have a5 := Int.emod_add_mul_ediv n D
  have W3 : Int.tdiv n D = n / D := Int.tdiv_eq_ediv_of_nonneg h0
  have W4 : Int.tmod n D = n % D := Int.tmod_eq_emod_of_nonneg h0
  have a6 := Int.mul_nonneg (show 0 ≤ D by omega) a1
  generalize n / D = q at *
  generalize n % D = r at *
  have hq1 : 0 < r → q + 1 ≤ 9223372036854775807 := fun hr0 => by
    by_cases hD1 : D = 1
    · subst hD1; omega
    · have := Int.mul_le_mul_of_nonneg_right (show 2 ≤ D by omega) a1
      omega
  have w5 : IntKind.i64.wrap q = q := IntWalk.i64_in _ (by omega)
  have w6 : IntKind.i64.wrap r = r := IntWalk.i64_in _ (by omega)
  unfold mi
  rw [hs]
  clear hs a5 a2 a4 a6
  by_cases hz : 0 < r
  · rw [if_pos hz]
    have := hq1 hz
    clear hq1
    go_enter Try.func31, Try.ntmps31
    go_wp2_with (fail)
    all_goals go_ret
    all_goals exact ⟨rfl, rfl⟩
  · rw [if_neg hz, Int.add_zero]
    have hz' : decide (0 < r) = false := decide_eq_false hz
    clear hq1
    go_enter Try.func31, Try.ntmps31
    go_wp2_with (fail)
    all_goals go_ret
    all_goals exact ⟨rfl, rfl⟩

set_option maxHeartbeats 2000000 in
theorem fits_out (d r s : Int) (a : Option Addr) (n c : Nat) (old data more : Int) (w : World) (h : ¬ Rt d r s) :
    Calls Try.prog 19 #[gv d r s, .slice a n c, .int .i64 old, .int .i64 data, .int .i64 more] w fun e w' => e = .returned (.bool false) ∧ Below w.heap.size w w' := by
  have x1 := Bx.mk' w d r s 23
  go_enter Try.func19, Try.ntmps19
  go_wp2_with (fail)
  refine (right_no d r s _ h).mono ?_
  rintro e w2 ⟨rfl, hb⟩
  have hB := bel_box' _ (by simp) hb
  clear x1 hb
  go_wp2_with (fail)
  go_ret
  exact ⟨rfl, hB⟩
set_option maxHeartbeats 2000000 in
theorem fits_neg (d r s : Int) (a : Option Addr) (n c : Nat) (old data more : Int) (w : World) (h : Rt d r s) (hneg : old < 0 ∨ data < 0 ∨ more < 0) :
    Calls Try.prog 19 #[gv d r s, .slice a n c, .int .i64 old, .int .i64 data, .int .i64 more] w fun e w' => e = .returned (.bool false) ∧ Below w.heap.size w w' := by
  have x1 := Bx.mk' w d r s 23
  go_enter Try.func19, Try.ntmps19
  go_wp2_with (fail)
  refine (right_yes d r s _ h).mono ?_
  rintro e w2 ⟨rfl, hb⟩
  have hB := bel_box' _ (by simp) hb
  clear x1 hb
  go_wp2_with (fail)
  all_goals go_ret
  all_goals exact ⟨rfl, hB⟩

/-- The least of three. -/
theorem min3 (x y z : Int) : ∃ m1 m2, (if y < x then y else x) = m1 ∧ (if z < m1 then z else m1) = m2 ∧ (0 ≤ x → 0 ≤ y → 0 ≤ z → 0 ≤ m2) :=
  ⟨_, _, rfl, rfl, fun h1 h2 h3 => by split <;> (try split) <;> omega⟩
set_option maxHeartbeats 2000000 in
theorem fits_negk (d r s : Int) (a : Option Addr) (n c : Nat) (ks : List Int) (old data more : Int) (w : World) (h : Rt d r s) (h1 : 0 ≤ old) (h2 : 0 ≤ data) (h3 : 0 ≤ more) (hk : Ins w a n ks) (hn : n ≤ 1000000000000) (hneg : ¬ noneNeg ks) :
    Calls Try.prog 19 #[gv d r s, .slice a n c, .int .i64 old, .int .i64 data, .int .i64 more] w fun e w' => e = .returned (.bool false) ∧ Below w.heap.size w w' := by
  have x1 := Bx.mk' w d r s 23
  have hn0 : 0 < n := by
    rcases Nat.eq_zero_or_pos n with h0 | h0
    · exfalso
      have := hk.len
      rw [h0] at this
      rw [List.eq_nil_of_length_eq_zero this] at hneg
      exact hneg (fun k hk => by cases hk)
    · exact h0
  have hn1 : (0 : Int) < (n : Int) := by omega
  obtain ⟨m1, m2, e1, e2, hm⟩ := min3 old data more
  have hm0 := hm h1 h2 h3
  clear hm
  have HK := Lib.hid hk
  clear hk
  go_enter Try.func19, Try.ntmps19
  go_wp2_with (fail)
  refine (right_yes d r s _ h).mono ?_
  rintro e w2 ⟨rfl, hb⟩
  have hB := bel_box' _ (by simp) hb
  clear x1 hb
  have hmin := min_any a n c ks w2 (HK.out.below (Nat.le_refl _) hB) hn0 hn
  go_wp2_with (fail)
  refine hmin.mono ?_
  rintro e w3 ⟨⟨m, rfl, hmm⟩, rfl⟩
  have hm1 := hmm.2 hneg
  clear hmm hmin
  go_wp2_with (fail)
  go_ret
  exact ⟨rfl, hB⟩

/-- The greater one. -/
def mx (a b : Int) : Int := if a < b then b else a
/-- The program's test is the document's. -/
theorem fit_is {D s u old data more : Int} (hD : 1 ≤ D) (h1 : 0 ≤ old) (h2 : 0 ≤ data) (h3 : 0 ≤ more) (hu : 0 ≤ u) (hs : 0 ≤ s) :
    decide (u + mi (cei D data) (s + 1) + mx (mi old (s + 1) + mi (cei D more) (s + 1)) (2 * mi (cei D more) (s + 1) + 1) ≤ s) = fitP D s u old data more := by
  have a := (cei_bd hD h2).1
  have b := (cei_bd hD h3).1
  unfold fitP
  generalize cei D data = cd at *
  generalize cei D more = cm at *
  have hmax : max (old + cm) (2 * cm + 1) = if old + cm < 2 * cm + 1 then 2 * cm + 1 else old + cm := by rw [Int.max_def]; split <;> split <;> omega
  rw [hmax]
  apply decide_eq_decide.2
  unfold mi mx
  constructor
  · intro h
    refine ⟨h1, h2, h3, ?_⟩
    repeat' split at h
    all_goals split <;> omega
  · rintro ⟨_, _, _, h⟩
    split at h
    all_goals repeat' split
    all_goals omega
set_option maxRecDepth 100000 in
set_option maxHeartbeats 4000000 in
theorem fits_in (d r s : Int) (a : Option Addr) (n c : Nat) (ks : List Int) (old data more : Int) (w : World) (h : Rt d r s) (h1 : 0 ≤ old) (h2 : 0 ≤ data) (h3 : 0 ≤ more) (o1 : old ≤ 9223372036854775807) (o2 : data ≤ 9223372036854775807) (o3 : more ≤ 9223372036854775807) (hk : Ins w a n ks) (hn : n ≤ 1000000000000) (hneg : noneNeg ks) :
    Calls Try.prog 19 #[gv d r s, .slice a n c, .int .i64 old, .int .i64 data, .int .i64 more] w fun e w' => e = .returned (.bool (fitP (PL d r) s (upN ks : Nat) old data more)) ∧ Below w.heap.size w w' := by
  have x1 := Bx.mk' w d r s 23
  obtain ⟨p1, p2, _, _⟩ := PL_bd h.d1 h.d2 h.r1 h.r2
  have s1 := h.s1
  have s2 := h.s2
  have hup : upN ks ≤ n := by rw [← hk.len]; exact upN_le ks
  have HF := Lib.hid (fit_is (D := PL d r) (s := s) (u := (upN ks : Nat)) p1 h1 h2 h3 (by omega) (by omega))
  obtain ⟨D, hD⟩ : ∃ D, D = PL d r := ⟨_, rfl⟩
  have hpl : Hid (∀ w, Calls Try.prog 21 #[gv d r s] w fun e w' => e = .returned (.int .i64 D) ∧ Below w.heap.size w w') := Lib.hid (by rw [hD]; exact fun w => places_yes d r s w h)
  rw [← hD] at p1 p2 HF
  have hnd : Hid (∀ (b1 b2 : Nat) (k : Int) (w : World), 0 ≤ k → k ≤ 9223372036854775807 → w.cell? ⟨b1, 0, none⟩ = some (.int .i64 D) → w.cell? ⟨b2, 0, none⟩ = some (.int .i64 (s + 1)) →
      Calls Try.prog 31 #[.int .i64 k, .pointer (some ⟨b1, 0, none⟩), .pointer (some ⟨b2, 0, none⟩)] w fun e w' => e = .returned (.int .i64 (mi (cei D k) (s + 1))) ∧ w' = w) :=
    Lib.hid fun b1 b2 k w k0 k1 c1 c2 => need_any b1 b2 D (s + 1) k w p1 k0 k1 (by omega) c1 c2
  rw [← hD] at *
  have hcd : 0 ≤ mi (cei D data) (s + 1) ∧ mi (cei D data) (s + 1) ≤ 65 := by
    have := (cei_bd p1 h2).1
    unfold mi; split <;> omega
  have hcm : 0 ≤ mi (cei D more) (s + 1) ∧ mi (cei D more) (s + 1) ≤ 65 := by
    have := (cei_bd p1 h3).1
    unfold mi; split <;> omega
  obtain ⟨cd, hcd'⟩ : ∃ cd, cd = mi (cei D data) (s + 1) := ⟨_, rfl⟩
  obtain ⟨cm, hcm'⟩ : ∃ cm, cm = mi (cei D more) (s + 1) := ⟨_, rfl⟩
  rw [← hcd'] at hcd
  rw [← hcm'] at hcm
  rw [← HF.out, ← hcd', ← hcm']
  have hnd1 : Hid (∀ (b1 b2 : Nat) (w : World), w.cell? ⟨b1, 0, none⟩ = some (.int .i64 D) → w.cell? ⟨b2, 0, none⟩ = some (.int .i64 (s + 1)) →
      Calls Try.prog 31 #[.int .i64 data, .pointer (some ⟨b1, 0, none⟩), .pointer (some ⟨b2, 0, none⟩)] w fun e w' => e = .returned (.int .i64 cd) ∧ w' = w) := Lib.hid fun b1 b2 w c1 c2 => hcd' ▸ hnd.out b1 b2 data w h2 o2 c1 c2
  have hnd2 : Hid (∀ (b1 b2 : Nat) (w : World), w.cell? ⟨b1, 0, none⟩ = some (.int .i64 D) → w.cell? ⟨b2, 0, none⟩ = some (.int .i64 (s + 1)) →
      Calls Try.prog 31 #[.int .i64 more, .pointer (some ⟨b1, 0, none⟩), .pointer (some ⟨b2, 0, none⟩)] w fun e w' => e = .returned (.int .i64 cm) ∧ w' = w) := Lib.hid fun b1 b2 w c1 c2 => hcm' ▸ hnd.out b1 b2 more w h3 o3 c1 c2
  have ho : Hid (0 ≤ mi old (s + 1) ∧ mi old (s + 1) ≤ 65) := Lib.hid (by unfold mi; split <;> omega)
  obtain ⟨mo, hmo⟩ : ∃ mo, (if s + 1 < old then s + 1 else old) = mo := ⟨_, rfl⟩
  have hmo2 : mi old (s + 1) = mo := hmo
  rw [hmo2] at ho ⊢
  have ho1 := ho.out.1
  have ho2 := ho.out.2
  obtain ⟨u, hu⟩ : ∃ u, u = upN ks := ⟨_, rfl⟩
  have hab : Hid (∀ w, Ins w a n ks → Calls Try.prog 32 #[.slice a n c] w fun e w' => e = .returned (.int .i64 (u : Nat)) ∧ w' = w) := Lib.hid fun w hi => hu ▸ above0_any a n c ks w hi hn
  rw [← hu] at hup ⊢
  obtain ⟨ot, hot⟩ : ∃ ot, (if mo + cm < 2 * cm + 1 then 2 * cm + 1 else mo + cm) = ot := ⟨_, rfl⟩
  have hot2 : mx (mo + cm) (2 * cm + 1) = ot := hot
  rw [hot2]
  have hot3 : 0 ≤ ot ∧ ot ≤ 200 := by rw [← hot]; split <;> omega
  obtain ⟨m1, m2, e1, e2, hm⟩ := min3 old data more
  have hm0 := hm h1 h2 h3
  clear hm hot2 hmo2 ho hu HF hcd' hcm' hnd hD
  have HK := Lib.hid hk
  have HNEG : Hid (noneNeg ks) := Lib.hid hneg
  clear hk hneg
  by_cases hn0 : 0 < n
  · have hn1 : (0 : Int) < (n : Int) := by omega
    go_enter Try.func19, Try.ntmps19
    go_wp2_with (fail)
    refine (right_yes d r s _ h).mono ?_
    rintro e w2 ⟨rfl, hb⟩
    have hB := bel_box' _ (by simp) hb
    have x2 := x1.next hb
    have hK2 := Lib.hid (HK.out.below (Nat.le_refl _) hB)
    have hmin := min_any a n c ks w2 hK2.out hn0 hn
    clear x1 hb
    go_wp2_with (fail)
    refine hmin.mono ?_
    rintro e w3 ⟨⟨m, rfl, hmm⟩, rfl⟩
    have hm1 : ¬ m < 0 := fun hh => hmm.1 hh HNEG.out
    have hm1' : 0 ≤ m := by omega
    clear hmm hmin hm1
    have y0 := x2.c0
    have y1 := x2.c1
    have y2 := x2.c2
    have y3 := x2.lt
    have HX := Lib.hid x2
    have HB := Lib.hid hB
    clear x2 hB
    go_wp2_with (fail)
    refine (hpl.out _).mono ?_
    rintro e w4 ⟨rfl, hb4⟩
    obtain ⟨X3, hX3⟩ : ∃ X3, X3 = w3.alloc (.cells #[.int .i64 (s + 1)] 3 (0, 0)) := ⟨_, rfl⟩
    rw [← hX3] at hb4
    have z3 := HX.out.alloc (.cells #[.int .i64 (s + 1)] 3 (0, 0))
    have hB3 := HB.out.alloc (Nat.le_of_lt y3) (.cells #[.int .i64 (s + 1)] 3 (0, 0))
    have hc3 : X3.cell? ⟨w3.heap.size, 0, none⟩ = some (.int .i64 (s + 1)) := by rw [hX3]; go_simp
    have hl3 : w3.heap.size < X3.heap.size := by rw [hX3]; simp
    rw [← hX3] at z3 hB3
    have z4 := z3.next hb4
    have hB4 := hB3.trans (hb4.mono (Nat.le_of_lt z3.lt))
    have hK4 := Lib.hid (HK.out.below (Nat.le_refl _) hB4)
    have v0 := (hb4.cell (p := ⟨w3.heap.size, 0, none⟩) hl3).trans hc3
    have vl := Nat.lt_of_lt_of_le hl3 hb4.size
    have v1 := z4.c0
    have v2 := z4.c1
    have v3 := z4.c2
    have v4 := z4.lt
    have HB4 := Lib.hid hB4
    clear hX3 z3 hB3 hc3 hl3 z4 hB4 hb4 X3 y0 y1 y2
    go_wp2_with (fail)
    refine (hnd2.out _ _ _ (by go_simp) (by go_simp)).mono ?_
    rintro e w5 ⟨rfl, rfl⟩
    go_wp2_with (fail)
    obtain ⟨X, hX⟩ : ∃ X, X = w4.alloc (.cells #[.int .i64 D] 3 (0, 0)) := ⟨_, rfl⟩
    have hXB : Below w4.heap.size w4 X := by rw [hX]; exact (Below.refl _ _).alloc (Nat.le_refl _) _
    have u0 : X.cell? ⟨w.heap.size, 2, none⟩ = some (.int .i64 s) := (hXB.cell (p := ⟨w.heap.size, 2, none⟩) v4).trans v3
    have u1 : X.cell? ⟨w3.heap.size, 0, none⟩ = some (.int .i64 (s + 1)) := (hXB.cell (p := ⟨w3.heap.size, 0, none⟩) vl).trans v0
    have u2 : X.cell? ⟨w4.heap.size, 0, none⟩ = some (.int .i64 D) := by rw [hX]; go_simp
    have HXB : Hid (Below w.heap.size w X) := Lib.hid (HB4.out.trans (hXB.mono (Nat.le_of_lt (Nat.lt_of_le_of_lt (Nat.zero_le _) v4) |> fun _ => Nat.le_of_lt v4)))
    have HA : Hid (∀ q, Calls Try.prog 32 #[.slice a n c] (X.drewN q) fun e w' => e = .returned (.int .i64 (u : Nat)) ∧ w' = X.drewN q) := Lib.hid fun q => hab.out _ ((hK4.out.below (Nat.le_refl _) hXB).drewN q)
    have HN : Hid (∀ q, Calls Try.prog 31 #[.int .i64 data, .pointer (some ⟨w4.heap.size, 0, none⟩), .pointer (some ⟨w3.heap.size, 0, none⟩)] (X.drewN q) fun e w' => e = .returned (.int .i64 cd) ∧ w' = X.drewN q) := Lib.hid fun q => hnd1.out _ _ _ u2 u1
    rw [← hX]
    clear hX hXB v0 vl v1 v2 v3 v4 y3 HK
    have g1 : IntKind.i64.wrap ((u : Int) + cd) = (u : Int) + cd := IntWalk.i64_in _ (by omega)
    have g2 : IntKind.i64.wrap ((u : Int) + cd + ot) = (u : Int) + cd + ot := IntWalk.i64_in _ (by omega)
    go_quiet (first | (go_at_call 32; exact Calls.quiet_of_same (HA.out _)) | (go_at_call 31; exact Calls.quiet_of_same (HN.out _)))
    go_wp2_with (fail)
    go_ret
    exact ⟨rfl, below_drewN HXB.out _⟩
  · obtain rfl : n = 0 := by omega
    go_enter Try.func19, Try.ntmps19
    go_wp2_with (fail)
    refine (right_yes d r s _ h).mono ?_
    rintro e w3 ⟨rfl, hb⟩
    have hB := bel_box' _ (by simp) hb
    have x2 := x1.next hb
    clear x1 hb
    have y0 := x2.c0
    have y1 := x2.c1
    have y2 := x2.c2
    have y3 := x2.lt
    have HX := Lib.hid x2
    have HB := Lib.hid hB
    clear x2 hB
    go_wp2_with (fail)
    refine (hpl.out _).mono ?_
    rintro e w4 ⟨rfl, hb4⟩
    obtain ⟨X3, hX3⟩ : ∃ X3, X3 = w3.alloc (.cells #[.int .i64 (s + 1)] 3 (0, 0)) := ⟨_, rfl⟩
    rw [← hX3] at hb4
    have z3 := HX.out.alloc (.cells #[.int .i64 (s + 1)] 3 (0, 0))
    have hB3 := HB.out.alloc (Nat.le_of_lt y3) (.cells #[.int .i64 (s + 1)] 3 (0, 0))
    have hc3 : X3.cell? ⟨w3.heap.size, 0, none⟩ = some (.int .i64 (s + 1)) := by rw [hX3]; go_simp
    have hl3 : w3.heap.size < X3.heap.size := by rw [hX3]; simp
    rw [← hX3] at z3 hB3
    have z4 := z3.next hb4
    have hB4 := hB3.trans (hb4.mono (Nat.le_of_lt z3.lt))
    have hK4 := Lib.hid (HK.out.below (Nat.le_refl _) hB4)
    have v0 := (hb4.cell (p := ⟨w3.heap.size, 0, none⟩) hl3).trans hc3
    have vl := Nat.lt_of_lt_of_le hl3 hb4.size
    have v1 := z4.c0
    have v2 := z4.c1
    have v3 := z4.c2
    have v4 := z4.lt
    have HB4 := Lib.hid hB4
    clear hX3 z3 hB3 hc3 hl3 z4 hB4 hb4 X3 y0 y1 y2
    go_wp2_with (fail)
    refine (hnd2.out _ _ _ (by go_simp) (by go_simp)).mono ?_
    rintro e w5 ⟨rfl, rfl⟩
    go_wp2_with (fail)
    obtain ⟨X, hX⟩ : ∃ X, X = w4.alloc (.cells #[.int .i64 D] 3 (0, 0)) := ⟨_, rfl⟩
    have hXB : Below w4.heap.size w4 X := by rw [hX]; exact (Below.refl _ _).alloc (Nat.le_refl _) _
    have u0 : X.cell? ⟨w.heap.size, 2, none⟩ = some (.int .i64 s) := (hXB.cell (p := ⟨w.heap.size, 2, none⟩) v4).trans v3
    have u1 : X.cell? ⟨w3.heap.size, 0, none⟩ = some (.int .i64 (s + 1)) := (hXB.cell (p := ⟨w3.heap.size, 0, none⟩) vl).trans v0
    have u2 : X.cell? ⟨w4.heap.size, 0, none⟩ = some (.int .i64 D) := by rw [hX]; go_simp
    have HXB : Hid (Below w.heap.size w X) := Lib.hid (HB4.out.trans (hXB.mono (Nat.le_of_lt (Nat.lt_of_le_of_lt (Nat.zero_le _) v4) |> fun _ => Nat.le_of_lt v4)))
    have HA : Hid (∀ q, Calls Try.prog 32 #[.slice a 0 c] (X.drewN q) fun e w' => e = .returned (.int .i64 (u : Nat)) ∧ w' = X.drewN q) := Lib.hid fun q => hab.out _ ((hK4.out.below (Nat.le_refl _) hXB).drewN q)
    have HN : Hid (∀ q, Calls Try.prog 31 #[.int .i64 data, .pointer (some ⟨w4.heap.size, 0, none⟩), .pointer (some ⟨w3.heap.size, 0, none⟩)] (X.drewN q) fun e w' => e = .returned (.int .i64 cd) ∧ w' = X.drewN q) := Lib.hid fun q => hnd1.out _ _ _ u2 u1
    rw [← hX]
    clear hX hXB v0 vl v1 v2 v3 v4 y3 HK
    have g1 : IntKind.i64.wrap ((u : Int) + cd) = (u : Int) + cd := IntWalk.i64_in _ (by omega)
    have g2 : IntKind.i64.wrap ((u : Int) + cd + ot) = (u : Int) + cd + ot := IntWalk.i64_in _ (by omega)
    go_quiet (first | (go_at_call 32; exact Calls.quiet_of_same (HA.out _)) | (go_at_call 31; exact Calls.quiet_of_same (HN.out _)))
    go_wp2_with (fail)
    go_ret
    exact ⟨rfl, below_drewN HXB.out _⟩
end Go.Proofs.Ytdgjhfghggcfaaa
