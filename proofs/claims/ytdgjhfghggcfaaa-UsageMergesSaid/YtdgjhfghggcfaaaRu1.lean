/-
  Is there room: the document's.
-/
import Derived.Test.YtdgjhfghggcfaaaUm
import Derived.Test.YtdgjhfghggcfaaaRefG
namespace Go.Proofs.Ytdgjhfghggcfaaa
open Go.RowKit
set_option linter.unusedVariables false

/-- What Fits answers. -/
def FitR (d r s : Int) (ks : List Int) (old data more : Int) (b : Bool) : Prop := (¬ Rt d r s → b = false) ∧ (Rt d r s → ¬ noneNeg ks → b = false) ∧ (Rt d r s → noneNeg ks → b = fitP (PL d r) s (upN ks : Nat) old data more)
theorem FitR.one {d r s : Int} {ks : List Int} {old data more : Int} {b c : Bool} (h : FitR d r s ks old data more b) (k : FitR d r s ks old data more c) : b = c := by
  by_cases hr : Rt d r s
  · by_cases hn : noneNeg ks
    · rw [h.2.2 hr hn, k.2.2 hr hn]
    · rw [h.2.1 hr hn, k.2.1 hr hn]
  · rw [h.1 hr, k.1 hr]
theorem fitP_neg {D s u old data more : Int} (h : old < 0 ∨ data < 0 ∨ more < 0) : fitP D s u old data more = false := decide_eq_false (by omega)
theorem fits_any (d r s : Int) (a : Option Addr) (n c : Nat) (ks : List Int) (old data more : Int) (w : World) (o1 : old ≤ 9223372036854775807) (o2 : data ≤ 9223372036854775807) (o3 : more ≤ 9223372036854775807) (hk : Ins w a n ks) (hn : n ≤ 1000000000000) :
    Calls Try.prog 19 #[gv d r s, .slice a n c, .int .i64 old, .int .i64 data, .int .i64 more] w fun e w' => (∃ b, e = .returned (.bool b) ∧ FitR d r s ks old data more b) ∧ Below w.heap.size w w' := by
  by_cases hr : Rt d r s
  · by_cases hneg : old < 0 ∨ data < 0 ∨ more < 0
    · refine (fits_neg d r s a n c old data more w hr hneg).mono ?_
      rintro e w' ⟨rfl, hb⟩
      exact ⟨⟨_, rfl, (fun h => absurd hr h), (fun _ _ => rfl), fun _ _ => (fitP_neg hneg).symm⟩, hb⟩
    · by_cases hno : noneNeg ks
      · refine (fits_in d r s a n c ks old data more w hr (by omega) (by omega) (by omega) o1 o2 o3 hk hn hno).mono ?_
        rintro e w' ⟨rfl, hb⟩
        exact ⟨⟨_, rfl, (fun h => absurd hr h), (fun _ h => absurd hno h), fun _ _ => rfl⟩, hb⟩
      · refine (fits_negk d r s a n c ks old data more w hr (by omega) (by omega) (by omega) hk hn hno).mono ?_
        rintro e w' ⟨rfl, hb⟩
        exact ⟨⟨_, rfl, (fun h => absurd hr h), (fun _ _ => rfl), fun _ h => absurd h hno⟩, hb⟩
  · refine (fits_out d r s a n c old data more w hr).mono ?_
    rintro e w' ⟨rfl, hb⟩
    exact ⟨⟨_, rfl, (fun _ => rfl), (fun h => absurd h hr), fun h => absurd h hr⟩, hb⟩

set_option maxHeartbeats 2000000 in
theorem rfits_out (d r s : Int) (a : Option Addr) (n c : Nat) (old data more : Int) (w : World) (h : ¬ Rt d r s) :
    Calls Try.prog 20 #[gv d r s, .slice a n c, .int .i64 old, .int .i64 data, .int .i64 more] w fun e w' => e = .returned (.bool false) ∧ Below w.heap.size w w' := by
  have x1 := Bx.mk' w d r s 23
  go_enter Try.func20, Try.ntmps20
  go_wp2_with (fail)
  refine (rright_no d r s _ h).mono ?_
  rintro e w2 ⟨rfl, hb⟩
  have hB := bel_box' _ (by simp) hb
  clear x1 hb
  go_wp2_with (fail)
  go_ret
  exact ⟨rfl, hB⟩
set_option maxHeartbeats 2000000 in
theorem rfits_1 (d r s : Int) (a : Option Addr) (n c : Nat) (old data more : Int) (w : World) (h : Rt d r s)  (hb : old < 0) :
    Calls Try.prog 20 #[gv d r s, .slice a n c, .int .i64 old, .int .i64 data, .int .i64 more] w fun e w' => e = .returned (.bool false) ∧ Below w.heap.size w w' := by
  have x1 := Bx.mk' w d r s 23
  have ft : decide (old < 0) = true := decide_eq_true hb
  go_enter Try.func20, Try.ntmps20
  go_wp2_with (fail)
  refine (rright_yes d r s _ h).mono ?_
  rintro e w2 ⟨rfl, hb⟩
  have hB := bel_box' _ (by simp) hb
  have x2 := x1.next hb
  have y2 := x2.c2
  clear x1 hb x2
  go_wp2_with (fail)
  all_goals go_ret
  all_goals exact ⟨rfl, hB⟩
set_option maxHeartbeats 2000000 in
theorem rfits_2 (d r s : Int) (a : Option Addr) (n c : Nat) (old data more : Int) (w : World) (h : Rt d r s) (g1 : ¬ old < 0) (hb : data < 0) :
    Calls Try.prog 20 #[gv d r s, .slice a n c, .int .i64 old, .int .i64 data, .int .i64 more] w fun e w' => e = .returned (.bool false) ∧ Below w.heap.size w w' := by
  have x1 := Bx.mk' w d r s 23
  have f1 : decide (old < 0) = false := decide_eq_false g1
  have ft : decide (data < 0) = true := decide_eq_true hb
  go_enter Try.func20, Try.ntmps20
  go_wp2_with (fail)
  refine (rright_yes d r s _ h).mono ?_
  rintro e w2 ⟨rfl, hb⟩
  have hB := bel_box' _ (by simp) hb
  have x2 := x1.next hb
  have y2 := x2.c2
  clear x1 hb x2
  go_wp2_with (fail)
  all_goals go_ret
  all_goals exact ⟨rfl, hB⟩
set_option maxHeartbeats 2000000 in
theorem rfits_3 (d r s : Int) (a : Option Addr) (n c : Nat) (old data more : Int) (w : World) (h : Rt d r s) (g1 : ¬ old < 0) (g2 : ¬ data < 0) (hb : more < 0) :
    Calls Try.prog 20 #[gv d r s, .slice a n c, .int .i64 old, .int .i64 data, .int .i64 more] w fun e w' => e = .returned (.bool false) ∧ Below w.heap.size w w' := by
  have x1 := Bx.mk' w d r s 23
  have f1 : decide (old < 0) = false := decide_eq_false g1
  have f2 : decide (data < 0) = false := decide_eq_false g2
  have ft : decide (more < 0) = true := decide_eq_true hb
  go_enter Try.func20, Try.ntmps20
  go_wp2_with (fail)
  refine (rright_yes d r s _ h).mono ?_
  rintro e w2 ⟨rfl, hb⟩
  have hB := bel_box' _ (by simp) hb
  have x2 := x1.next hb
  have y2 := x2.c2
  clear x1 hb x2
  go_wp2_with (fail)
  all_goals go_ret
  all_goals exact ⟨rfl, hB⟩
set_option maxHeartbeats 2000000 in
theorem rfits_4 (d r s : Int) (a : Option Addr) (n c : Nat) (old data more : Int) (w : World) (h : Rt d r s) (g1 : ¬ old < 0) (g2 : ¬ data < 0) (g3 : ¬ more < 0) (hb : s < old) :
    Calls Try.prog 20 #[gv d r s, .slice a n c, .int .i64 old, .int .i64 data, .int .i64 more] w fun e w' => e = .returned (.bool false) ∧ Below w.heap.size w w' := by
  have x1 := Bx.mk' w d r s 23
  have f1 : decide (old < 0) = false := decide_eq_false g1
  have f2 : decide (data < 0) = false := decide_eq_false g2
  have f3 : decide (more < 0) = false := decide_eq_false g3
  have ft : decide (s < old) = true := decide_eq_true hb
  go_enter Try.func20, Try.ntmps20
  go_wp2_with (fail)
  refine (rright_yes d r s _ h).mono ?_
  rintro e w2 ⟨rfl, hb⟩
  have hB := bel_box' _ (by simp) hb
  have x2 := x1.next hb
  have y2 := x2.c2
  clear x1 hb x2
  go_wp2_with (fail)
  all_goals go_ret
  all_goals exact ⟨rfl, hB⟩
set_option maxHeartbeats 2000000 in
theorem rfits_5 (d r s : Int) (a : Option Addr) (n c : Nat) (old data more : Int) (w : World) (h : Rt d r s) (g1 : ¬ old < 0) (g2 : ¬ data < 0) (g3 : ¬ more < 0) (g4 : ¬ s < old) (hb : 100000 < data) :
    Calls Try.prog 20 #[gv d r s, .slice a n c, .int .i64 old, .int .i64 data, .int .i64 more] w fun e w' => e = .returned (.bool false) ∧ Below w.heap.size w w' := by
  have x1 := Bx.mk' w d r s 23
  have f1 : decide (old < 0) = false := decide_eq_false g1
  have f2 : decide (data < 0) = false := decide_eq_false g2
  have f3 : decide (more < 0) = false := decide_eq_false g3
  have f4 : decide (s < old) = false := decide_eq_false g4
  have ft : decide (100000 < data) = true := decide_eq_true hb
  go_enter Try.func20, Try.ntmps20
  go_wp2_with (fail)
  refine (rright_yes d r s _ h).mono ?_
  rintro e w2 ⟨rfl, hb⟩
  have hB := bel_box' _ (by simp) hb
  have x2 := x1.next hb
  have y2 := x2.c2
  clear x1 hb x2
  go_wp2_with (fail)
  all_goals go_ret
  all_goals exact ⟨rfl, hB⟩
set_option maxHeartbeats 2000000 in
theorem rfits_6 (d r s : Int) (a : Option Addr) (n c : Nat) (old data more : Int) (w : World) (h : Rt d r s) (g1 : ¬ old < 0) (g2 : ¬ data < 0) (g3 : ¬ more < 0) (g4 : ¬ s < old) (g5 : ¬ 100000 < data) (hb : 100000 < more) :
    Calls Try.prog 20 #[gv d r s, .slice a n c, .int .i64 old, .int .i64 data, .int .i64 more] w fun e w' => e = .returned (.bool false) ∧ Below w.heap.size w w' := by
  have x1 := Bx.mk' w d r s 23
  have f1 : decide (old < 0) = false := decide_eq_false g1
  have f2 : decide (data < 0) = false := decide_eq_false g2
  have f3 : decide (more < 0) = false := decide_eq_false g3
  have f4 : decide (s < old) = false := decide_eq_false g4
  have f5 : decide (100000 < data) = false := decide_eq_false g5
  have ft : decide (100000 < more) = true := decide_eq_true hb
  go_enter Try.func20, Try.ntmps20
  go_wp2_with (fail)
  refine (rright_yes d r s _ h).mono ?_
  rintro e w2 ⟨rfl, hb⟩
  have hB := bel_box' _ (by simp) hb
  have x2 := x1.next hb
  have y2 := x2.c2
  clear x1 hb x2
  go_wp2_with (fail)
  all_goals go_ret
  all_goals exact ⟨rfl, hB⟩

theorem noneNeg_take {ks : List Int} {k : Nat} (hk : k < ks.length) (h : noneNeg (ks.take k)) (h0 : 0 ≤ num ks k) : noneNeg (ks.take (k + 1)) := by
  rw [take_num hk]
  intro z hz
  rcases List.mem_append.1 hz with hz | hz
  · exact h z hz
  · rw [List.mem_singleton.1 hz]; exact h0
set_option maxRecDepth 100000 in
set_option maxHeartbeats 4000000 in
theorem rfits_in (d r s : Int) (a : Option Addr) (n c : Nat) (ks : List Int) (old data more : Int) (w : World) (h : Rt d r s) (g1 : ¬ old < 0) (g2 : ¬ data < 0) (g3 : ¬ more < 0) (g4 : ¬ s < old) (g5 : ¬ 100000 < data) (g6 : ¬ 100000 < more) (hk : Ins w a n ks) (hn : n ≤ 1000000000000) :
    Calls Try.prog 20 #[gv d r s, .slice a n c, .int .i64 old, .int .i64 data, .int .i64 more] w fun e w' => (∃ b, e = .returned (.bool b) ∧ (¬ noneNeg ks → b = false) ∧ (noneNeg ks → b = fitP (PL d r) s (upN ks : Nat) old data more)) ∧ Below w.heap.size w w' := by
  have x1 := Bx.mk' w d r s 23
  obtain ⟨p1, p2, _, _⟩ := PL_bd h.d1 h.d2 h.r1 h.r2
  have s1 := h.s1
  have s2 := h.s2
  have f1 : decide (old < 0) = false := decide_eq_false g1
  have f2 : decide (data < 0) = false := decide_eq_false g2
  have f3 : decide (more < 0) = false := decide_eq_false g3
  have f4 : decide (s < old) = false := decide_eq_false g4
  have f5 : decide (100000 < data) = false := decide_eq_false g5
  have f6 : decide (100000 < more) = false := decide_eq_false g6
  have hl := hk.len
  obtain ⟨D, hD⟩ : ∃ D, D = PL d r := ⟨_, rfl⟩
  have hpl : Hid (∀ w, Calls Try.prog 26 #[gv d r s] w fun e w' => e = .returned (.int .i64 D) ∧ Below w.heap.size w w') := Lib.hid (by rw [hD]; exact fun w => rplaces_yes d r s w h)
  rw [← hD] at p1 p2 ⊢
  clear hD
  have HFP : Hid (∀ u : Int, fitP D s u old data more = decide (u + cei D data + (if old + cei D more < 2 * cei D more + 1 then 2 * cei D more + 1 else old + cei D more) ≤ s)) := Lib.hid fun u => by
    unfold fitP
    have hmax : max (old + cei D more) (2 * cei D more + 1) = if old + cei D more < 2 * cei D more + 1 then 2 * cei D more + 1 else old + cei D more := by rw [Int.max_def]; split <;> split <;> omega
    rw [hmax]
    exact decide_eq_decide.2 ⟨fun h => h.2.2.2, fun h => ⟨by omega, by omega, by omega, h⟩⟩
  have W1 : Int.tdiv (more + D - 1) D = cei D more := Int.tdiv_eq_ediv_of_nonneg (by omega)
  have W2 : Int.tdiv (data + D - 1) D = cei D data := Int.tdiv_eq_ediv_of_nonneg (by omega)
  have b1 := cei_bd (n := more) p1 (by omega)
  have b2 := cei_bd (n := data) p1 (by omega)
  generalize cei D more = cm at *
  generalize cei D data = cd at *
  have HK := Lib.hid hk
  clear hk
  go_enter Try.func20, Try.ntmps20
  go_wp2_with (fail)
  refine (rright_yes d r s _ h).mono ?_
  rintro e w2 ⟨rfl, hb⟩
  have hB := bel_box' _ (by simp) hb
  have x2 := x1.next hb
  have y0 := x2.c0
  have y1 := x2.c1
  have y2 := x2.c2
  have HX := Lib.hid x2
  have HB := Lib.hid hB
  clear x1 hb x2 hB
  go_wp2_with (fail)
  refine (hpl.out _).mono ?_
  rintro e w3 ⟨rfl, hb⟩
  have x3 := HX.out.next hb
  have hB := HB.out.trans (hb.mono (Nat.le_of_lt HX.out.lt))
  have HB3 := Lib.hid hB
  have hk3 := HK.out.below (Nat.le_refl _) hB
  have y2 := x3.c2
  have HX3 := Lib.hid x3
  clear hb hB x3 HX HB HK
  go_wp2_with (fail)
  go_loopw [12, 13] (fun u v wr => ∃ k : Nat, k ≤ n ∧ v = .int .i64 k ∧ u = .int .i64 (upN (ks.take k) : Nat) ∧ noneNeg (ks.take k) ∧ wr = w3) (fun _ v _ => n - (RowKit.intOf v).toNat)
  case atStart => exact ⟨0, by omega, rfl, rfl, (fun z hz => by simp at hz), rfl⟩
  case round =>
    obtain ⟨k, hk, rfl, rfl, hno, rfl⟩ := hrel
    have HNO := Lib.hid hno
    clear hno
    by_cases hlt : k < n
    · obtain ⟨b, off, rfl, hb, hc⟩ := hk3.at (by omega)
      have k0 : (0 : Int) ≤ (k : Int) := by omega
      have k1 : (k : Int) < (n : Int) := by omega
      have y := hc k hlt
      have hu := upN_take (ks := ks) (k := k) (by omega)
      have hm : upN (ks.take k) ≤ 1000000000000 := Nat.le_trans (upN_le _) (by rw [List.length_take]; omega)
      have hmem : Hid (num ks k ∈ ks) := Lib.hid (num_mem (by omega))
      obtain ⟨u, hu0⟩ : ∃ u, u = upN (ks.take k) := ⟨_, rfl⟩
      rw [← hu0] at hu hm ⊢
      have HU := Lib.hid hu
      clear hu hu0 hc hk3
      by_cases hz : num ks k < 0
      · have hz' : decide (num ks k < 0) = true := decide_eq_true hz
        go_wp2_with (fail)
        go_ret
        exact ⟨⟨_, rfl, fun _ => rfl, fun hh => absurd (hh _ hmem.out) (by omega)⟩, HB3.out⟩
      · have hz' : decide (num ks k < 0) = false := decide_eq_false hz
        by_cases hz2 : 0 < num ks k
        · go_wp2_with (fail)
          go_roundw
          case rel => exact ⟨k + 1, by omega, by go_num, by rw [HU.out, if_pos hz2]; rfl, noneNeg_take (by omega) HNO.out (by omega), by first | rfl | trivial⟩
          case measure => simp [RowKit.intOf]; omega
        · have hz3 : decide (0 < num ks k) = false := decide_eq_false hz2
          go_wp2_with (fail)
          go_roundw
          case rel => exact ⟨k + 1, by omega, by go_num, by rw [HU.out, if_neg hz2]; rfl, noneNeg_take (by omega) HNO.out (by omega), by first | rfl | trivial⟩
          case measure => simp [RowKit.intOf]; omega
    · obtain rfl : k = n := by omega
      have hfull : ks.take k = ks := List.take_of_length_le (by omega)
      rw [hfull]
      have HNO2 : Hid (noneNeg ks) := Lib.hid (by have := HNO.out; rwa [hfull] at this)
      have hum : upN ks ≤ 1000000000000 := Nat.le_trans (upN_le _) (by omega)
      obtain ⟨u, hu⟩ : ∃ u, u = upN ks := ⟨_, rfl⟩
      rw [← hu] at hum ⊢
      have HFU := Lib.hid (HFP.out (u : Int))
      have HU := Lib.hid hu
      clear hfull HNO hu hk3
      obtain ⟨ot, hot⟩ : ∃ ot, (if old + cm < 2 * cm + 1 then 2 * cm + 1 else old + cm) = ot := ⟨_, rfl⟩
      have hot3 : 0 ≤ ot ∧ ot ≤ 300000 := by rw [← hot]; split <;> omega
      have v1 : IntKind.i64.wrap cd = cd := IntWalk.i64_in _ (by omega)
      have v2 : IntKind.i64.wrap (data + D) = data + D := IntWalk.i64_in _ (by omega)
      have v3 : IntKind.i64.wrap (data + D - 1) = data + D - 1 := IntWalk.i64_in _ (by omega)
      have v4 : IntKind.i64.wrap ((u : Int) + cd) = (u : Int) + cd := IntWalk.i64_in _ (by omega)
      have v5 : IntKind.i64.wrap (old + cm) = old + cm := IntWalk.i64_in _ (by omega)
      have v6 : IntKind.i64.wrap (2 * cm) = 2 * cm := IntWalk.i64_in _ (by omega)
      have v7 : IntKind.i64.wrap (2 * cm + 1) = 2 * cm + 1 := IntWalk.i64_in _ (by omega)
      have v8 : IntKind.i64.wrap ((u : Int) + cd + ot) = (u : Int) + cd + ot := IntWalk.i64_in _ (by omega)
      have z1 : D ≠ 0 := by omega
      go_wp2_with (fail)
      go_quiet (fail)
      go_wp2_with (fail)
      go_ret
      refine ⟨⟨_, rfl, fun hh => absurd HNO2.out hh, fun _ => ?_⟩, below_drewN HB3.out _⟩
      rw [← HU.out, HFU.out, hot]
theorem rfits_any (d r s : Int) (a : Option Addr) (n c : Nat) (ks : List Int) (old data more : Int) (w : World) (hk : Ins w a n ks) (hn : n ≤ 1000000000000) :
    Calls Try.prog 20 #[gv d r s, .slice a n c, .int .i64 old, .int .i64 data, .int .i64 more] w fun e w' => (∃ b, e = .returned (.bool b) ∧ FitR d r s ks old data more b) ∧ Below w.heap.size w w' := by
  by_cases hr : Rt d r s
  · obtain ⟨p1, p2, _, _⟩ := PL_bd hr.d1 hr.d2 hr.r1 hr.r2
    have s1 := hr.s1
    have s2 := hr.s2
    have fin : (old < 0 ∨ data < 0 ∨ more < 0 ∨ s < old ∨ 100000 < data ∨ 100000 < more) → ∀ e w', (e = Ending.returned (.bool false) ∧ Below w.heap.size w w') → (∃ b, e = .returned (.bool b) ∧ FitR d r s ks old data more b) ∧ Below w.heap.size w w' := by
      rintro hbad e w' ⟨rfl, hb⟩
      refine ⟨⟨_, rfl, (fun h => absurd hr h), (fun _ _ => rfl), fun _ _ => (decide_eq_false ?_).symm⟩, hb⟩
      rintro ⟨h1, h2, h3, h4⟩
      have b1 := cei_bd (n := data) p1 h2
      have b2 := cei_bd (n := more) p1 h3
      have e1 := Int.le_max_left (old + cei (PL d r) more) (2 * cei (PL d r) more + 1)
      have m1 := Int.mul_le_mul_of_nonneg_left p2 b1.1
      have m2 := Int.mul_le_mul_of_nonneg_left p2 b2.1
      omega
    by_cases g1 : old < 0
    · exact (rfits_1 d r s a n c old data more w hr g1).mono (fin (by omega))
    by_cases g2 : data < 0
    · exact (rfits_2 d r s a n c old data more w hr g1 g2).mono (fin (by omega))
    by_cases g3 : more < 0
    · exact (rfits_3 d r s a n c old data more w hr g1 g2 g3).mono (fin (by omega))
    by_cases g4 : s < old
    · exact (rfits_4 d r s a n c old data more w hr g1 g2 g3 g4).mono (fin (by omega))
    by_cases g5 : 100000 < data
    · exact (rfits_5 d r s a n c old data more w hr g1 g2 g3 g4 g5).mono (fin (by omega))
    by_cases g6 : 100000 < more
    · exact (rfits_6 d r s a n c old data more w hr g1 g2 g3 g4 g5 g6).mono (fin (by omega))
    refine (rfits_in d r s a n c ks old data more w hr g1 g2 g3 g4 g5 g6 hk hn).mono ?_
    rintro e w' ⟨⟨b, rfl, h1, h2⟩, hb⟩
    exact ⟨⟨_, rfl, (fun h => absurd hr h), (fun _ => h1), fun _ => h2⟩, hb⟩
  · refine (rfits_out d r s a n c old data more w hr).mono ?_
    rintro e w' ⟨rfl, hb⟩
    exact ⟨⟨_, rfl, (fun _ => rfl), (fun h => absurd h hr), fun h => absurd h hr⟩, hb⟩
end Go.Proofs.Ytdgjhfghggcfaaa
