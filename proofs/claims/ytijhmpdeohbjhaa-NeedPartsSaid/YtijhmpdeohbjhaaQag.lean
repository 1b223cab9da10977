/-
  What all nodes need, of a root alone: Data, More, Fits; by contract.
-/
import Derived.Test.YtijhmpdeohbjhaaQaf
set_option linter.unusedVariables false
set_option linter.unusedSimpArgs false
namespace Go.Proofs.Ytijhmpdeohbjhaa
open Go.RowKit
set_option linter.unusedVariables false
set_option linter.unusedSimpArgs false

theorem undrew {w w2 : World} (h : Below w.drew.heap.size w.drew w2) : Below w.heap.size w w2 := (below_drewN (Below.refl w.heap.size w) 1).trans h
/-- A number's cell, written anew: nothing else has turned. -/
structure Upd (w : World) (p : Nat) (v : Int) (w' : World) : Prop where
  cel : Cel p (.int .i64 v) w'
  turn : Turn (· = p) w w'
theorem Upd.set {w w1 : World} {p : Nat} {v u : Int} (h : Upd w p v w1) : Upd w p u (w1.setCell ⟨p, 0, none⟩ (.int .i64 u)) := ⟨h.cel.set _, h.turn.setO (p := ⟨p, 0, none⟩) rfl _⟩
theorem dataTake (a : Option Addr) (c p : Nat) (v : Int) (w : World) (h : Cel p (.int .i64 v) w) (h0 : 0 ≤ v) (h1 : v ≤ 1000000) :
    Calls Try.prog 25 #[.slice a 0 c, .pointer (some ⟨p, 0, none⟩)] w fun e w' => e = .returned (.tuple #[]) ∧ Upd w p v w' := by
  have HU : Hid (Upd w p v (w.setCell ⟨p, 0, none⟩ (.int .i64 v))) := Lib.hid (Upd.set (v := v) ⟨h, Turn.refl _ _⟩)
  obtain ⟨q0, q1⟩ := h
  go_enter Try.func25, Try.ntmps25
  go_wp2_with (fail)
  go_end0
  exact ⟨rfl, HU.out⟩
theorem moreTake (a : Option Addr) (c p : Nat) (v : Int) (w : World) (h : Cel p (.int .i64 v) w) (h0 : 0 ≤ v) (h1 : v ≤ 1000000) :
    Calls Try.prog 26 #[.slice a 0 c, .pointer (some ⟨p, 0, none⟩)] w fun e w' => e = .returned (.tuple #[]) ∧ Upd w p v w' := by
  have H := Lib.hid h
  have hwv : IntKind.i64.wrap v = v := IntWalk.i64_in (by omega) (by omega)
  obtain ⟨q0, q1⟩ := h
  go_enter Try.func26, Try.ntmps26
  go_wp2_with (fail)
  refine wp_region_held_drew (S := fun w' => w'.cell? ⟨p, 0, none⟩ = some (.int .i64 v)) (by kernel_rfl) ?_ (fun hHeld => ?_)
  · exact q0
  refine wpAnyH_take (i := 0) (v := ?_) rfl (by kernel_rfl) (by kernel_rfl) (by kernel_rfl) (fun _ _ _ h => h) (Or.inl ⟨by rfl, fun w hSw => ?_⟩) (by assumption) ?_
  rotate_left
  · (try dsimp only at hSw); go_simp; try with_reducible rfl
  simp only [Act.put, List.setIfInBounds_toArray, List.set_cons_zero, List.set_cons_succ, List.getElem_toArray, List.getElem_cons_zero]
  refine wpAnyH_take (i := 1) (v := ?_) rfl (by kernel_rfl) (by kernel_rfl) (by kernel_rfl) (fun _ _ _ h => h) (Or.inl ⟨by rfl, fun w hSw => ?_⟩) (by assumption) ?_
  rotate_left
  · (try dsimp only at hSw); go_simp; try with_reducible rfl
  simp only [Act.put, List.setIfInBounds_toArray, List.set_cons_zero, List.set_cons_succ, List.getElem_toArray, List.getElem_cons_succ, List.getElem_cons_zero]
  refine wpAnyH_ready (rs := [2]) (by kernel_rfl) (by simp) ?_
  refine AllReadyH.cons rfl (fun K hK => ?_) AllReadyH.nil
  simp only [List.getElem_toArray, List.getElem_cons_succ, List.getElem_cons_zero]
  go_simp
  refine (pointing_any a 0 c [] _ ⟨rfl, .inl rfl⟩ (by omega)).mono ?_
  rintro e w2 ⟨rfl, hb2⟩
  have hb2 := undrew hb2
  have hz : (ptL [] 0).length = 0 := rfl
  rw [hz]
  clear hz
  have h2 := H.out.next hb2
  have HU : Hid (Upd w p v (w2.setCell ⟨p, 0, none⟩ (.int .i64 v))) := Lib.hid (Upd.set (v := v) ⟨h2, Turn.of_below hb2⟩)
  obtain ⟨q2, q3⟩ := h2
  clear hb2 q0 q1 hHeld
  go_wp2_with (fail)
  refine hK.out _ _ q2 (fun hHeld => ?_)
  clear hK K
  refine wpAnyH_take (i := 3) (v := ?_) rfl (by kernel_rfl) (by kernel_rfl) (by kernel_rfl) (fun _ _ _ h => h) (Or.inl ⟨by rfl, fun w hSw => ?_⟩) (by assumption) ?_
  rotate_left
  · (try dsimp only at hSw); go_simp; try with_reducible rfl
  simp only [Act.put, List.setIfInBounds_toArray, List.set_cons_zero, List.set_cons_succ, List.getElem_toArray, List.getElem_cons_succ, List.getElem_cons_zero]
  refine wpAnyH_ready (rs := [4]) (by kernel_rfl) (by simp) ?_
  refine AllReadyH.cons rfl (fun K hK => ?_) AllReadyH.nil
  simp only [List.getElem_toArray, List.getElem_cons_succ, List.getElem_cons_zero]
  go_simp
  go_wp2_with (fail)
  refine hK.out _ _ HU.out.cel.1 (fun hHeld => ?_)
  clear hK K
  refine wpAnyH_done (by kernel_rfl) ?_ _
  clear hHeld
  go_wp2_with (fail)
  go_end0
  exact ⟨rfl, HU.out⟩
theorem eachData (b c p : Nat) (v : Int) (w : World) (hr : Rot w b) (h : Cel p (.int .i64 v) w) (h0 : 0 ≤ v) (h1 : v ≤ 1000000) (hne : p ≠ b) :
    Calls Try.prog 24 #[.agg #[.slice (some ⟨b, 0, none⟩) 1 1], .func (.func 25) #[] #[.pointer (some ⟨p, 0, none⟩)]] w fun e w' => e = .returned (.tuple #[]) ∧ Upd w p v w' := by
  have H := Lib.hid h
  have HR := Lib.hid hr
  clear h hr
  obtain ⟨X, hX⟩ : ∃ X, X = w.alloc (.cells #[.slice (some ⟨b, 0, none⟩) 1 1] 34 (0, 0)) := ⟨_, rfl⟩
  have hb1 : Below w.heap.size w X := by rw [hX]; exact (Below.refl _ _).alloc (Nat.le_refl _) _
  have HB1 := Lib.hid hb1
  go_enter Try.func24, Try.ntmps24
  go_wp2_with (fail)
  rw [← hX]
  clear hX hb1
  go_loopw [5, 9] (fun _ i wr => (i = .int .i64 0 ∧ wr = X) ∨ (i = .int .i64 1 ∧ Upd w p v wr)) (fun _ i _ => 1 - (RowKit.intOf i).toNat)
  case atStart => exact .inl ⟨rfl, rfl⟩
  case round =>
    rcases hrel with ⟨rfl, rfl⟩ | ⟨rfl, hU⟩
    · have hr := HR.out.next HB1.out
      obtain ⟨r0, r1, r2, r3, r4⟩ := hr
      have H1 := Lib.hid (H.out.next HB1.out)
      go_wp2_with (fail)
      refine (says_root _).mono ?_
      rintro e w2 ⟨a2, c2, rfl, hp2, hb2⟩
      have hb2' := ((Below.refl wr.heap.size wr).alloc (Nat.le_refl _) _).trans (hb2.mono (by simp))
      clear r0 r1 r2 r3 r4
      have HP2 := Lib.hid hp2
      have HB2 := Lib.hid hb2'
      clear hp2 hb2 hb2'
      go_wp2_with (fail)
      refine (there_any a2 0 c2 [] w2 HP2.out (by omega)).mono ?_
      rintro e w3 ⟨a3, c3, rfl, hi3, h31, h32, h33, hb3⟩
      have HB3 := Lib.hid (HB2.out.trans (hb3.mono HB2.out.size))
      clear HB2 HP2 hi3 h31 h32 h33 hb3
      have hth : (thr []).length = 0 := rfl
      rw [hth]
      go_wp2_with (fail)
      refine (dataTake a3 c3 p v w3 (H1.out.next HB3.out) h0 h1).mono ?_
      rintro e w4 ⟨rfl, hu⟩
      have HU : Hid (Upd w p v w4) := Lib.hid ⟨hu.cel, (Turn.of_below (HB1.out.trans (HB3.out.mono HB1.out.size))).trans hu.turn⟩
      clear hu
      go_wp2_with (fail)
      go_roundw
      case rel => exact .inr ⟨rfl, HU.out⟩
      case measure => simp [RowKit.intOf]
    · have HU := Lib.hid hU
      clear hU
      go_wp2_with (fail)
      go_end0
      exact ⟨rfl, HU.out⟩
theorem eachMore (b c p : Nat) (v : Int) (w : World) (hr : Rot w b) (h : Cel p (.int .i64 v) w) (h0 : 0 ≤ v) (h1 : v ≤ 1000000) (hne : p ≠ b) :
    Calls Try.prog 24 #[.agg #[.slice (some ⟨b, 0, none⟩) 1 1], .func (.func 26) #[] #[.pointer (some ⟨p, 0, none⟩)]] w fun e w' => e = .returned (.tuple #[]) ∧ Upd w p v w' := by
  have H := Lib.hid h
  have HR := Lib.hid hr
  clear h hr
  obtain ⟨X, hX⟩ : ∃ X, X = w.alloc (.cells #[.slice (some ⟨b, 0, none⟩) 1 1] 34 (0, 0)) := ⟨_, rfl⟩
  have hb1 : Below w.heap.size w X := by rw [hX]; exact (Below.refl _ _).alloc (Nat.le_refl _) _
  have HB1 := Lib.hid hb1
  go_enter Try.func24, Try.ntmps24
  go_wp2_with (fail)
  rw [← hX]
  clear hX hb1
  go_loopw [5, 9] (fun _ i wr => (i = .int .i64 0 ∧ wr = X) ∨ (i = .int .i64 1 ∧ Upd w p v wr)) (fun _ i _ => 1 - (RowKit.intOf i).toNat)
  case atStart => exact .inl ⟨rfl, rfl⟩
  case round =>
    rcases hrel with ⟨rfl, rfl⟩ | ⟨rfl, hU⟩
    · have hr := HR.out.next HB1.out
      obtain ⟨r0, r1, r2, r3, r4⟩ := hr
      have H1 := Lib.hid (H.out.next HB1.out)
      go_wp2_with (fail)
      refine (says_root _).mono ?_
      rintro e w2 ⟨a2, c2, rfl, hp2, hb2⟩
      have hb2' := ((Below.refl wr.heap.size wr).alloc (Nat.le_refl _) _).trans (hb2.mono (by simp))
      clear r0 r1 r2 r3 r4
      have HP2 := Lib.hid hp2
      have HB2 := Lib.hid hb2'
      clear hp2 hb2 hb2'
      go_wp2_with (fail)
      refine (there_any a2 0 c2 [] w2 HP2.out (by omega)).mono ?_
      rintro e w3 ⟨a3, c3, rfl, hi3, h31, h32, h33, hb3⟩
      have HB3 := Lib.hid (HB2.out.trans (hb3.mono HB2.out.size))
      clear HB2 HP2 hi3 h31 h32 h33 hb3
      have hth : (thr []).length = 0 := rfl
      rw [hth]
      go_wp2_with (fail)
      refine (moreTake a3 c3 p v w3 (H1.out.next HB3.out) h0 h1).mono ?_
      rintro e w4 ⟨rfl, hu⟩
      have HU : Hid (Upd w p v w4) := Lib.hid ⟨hu.cel, (Turn.of_below (HB1.out.trans (HB3.out.mono HB1.out.size))).trans hu.turn⟩
      clear hu
      go_wp2_with (fail)
      go_roundw
      case rel => exact .inr ⟨rfl, HU.out⟩
      case measure => simp [RowKit.intOf]
    · have HU := Lib.hid hU
      clear hU
      go_wp2_with (fail)
      go_end0
      exact ⟨rfl, HU.out⟩
end Go.Proofs.Ytijhmpdeohbjhaa

/-
  Data, More, Fits of a root alone; by contract.
-/
namespace Go.Proofs.Ytijhmpdeohbjhaa
open Go.RowKit
set_option linter.unusedVariables false
set_option linter.unusedSimpArgs false

theorem data_root (b : Nat) (w : World) (hr : Rot w b) :
    Calls Try.prog 14 #[.agg #[.slice (some ⟨b, 0, none⟩) 1 1]] w fun e w' => e = .returned (.int .i64 0) ∧ Below w.heap.size w w' := by
  have hlt := hr.lt
  obtain ⟨X, hX⟩ : ∃ X, X = (w.alloc (.cells #[.slice (some ⟨b, 0, none⟩) 1 1] 34 (0, 0))).alloc (.cells #[.int .i64 0] 3 (0, 0)) := ⟨_, rfl⟩
  have hb1 : Below w.heap.size w X := by rw [hX]; exact ((Below.refl _ _).alloc (Nat.le_refl _) _).alloc (by simp) _
  have hc : Cel (w.heap.size + 1) (.int .i64 0) X := by rw [hX]; exact ⟨by go_simp, by go_simp⟩
  have HC := Lib.hid hc
  have HB1 := Lib.hid hb1
  have HR := Lib.hid (hr.next hb1)
  have HE : Hid (∀ b', b' = b → w.heap.size + 1 ≠ b') := Lib.hid (fun b' e => by omega)
  go_enter Try.func14, Try.ntmps14
  go_wp2_with (fail)
  rw [← hX]
  clear hX hb1 hc hr
  refine (eachData b 1 (w.heap.size + 1) 0 X HR.out HC.out (by omega) (by omega) (HE.out b rfl)).mono ?_
  rintro e w2 ⟨rfl, hu⟩
  have HB2 : Hid (Below w.heap.size w w2) := Lib.hid (HB1.out.trans (hu.turn.below HB1.out.size (fun j e => by subst e; omega)))
  obtain ⟨q0, q1⟩ := hu.cel
  clear hu
  go_wp2_with (fail)
  go_ret
  exact ⟨rfl, HB2.out⟩
theorem more_root (b : Nat) (w : World) (hr : Rot w b) :
    Calls Try.prog 15 #[.agg #[.slice (some ⟨b, 0, none⟩) 1 1]] w fun e w' => e = .returned (.int .i64 4) ∧ Below w.heap.size w w' := by
  have hlt := hr.lt
  obtain ⟨X, hX⟩ : ∃ X, X = (w.alloc (.cells #[.slice (some ⟨b, 0, none⟩) 1 1] 34 (0, 0))).alloc (.cells #[.int .i64 4] 3 (0, 0)) := ⟨_, rfl⟩
  have hb1 : Below w.heap.size w X := by rw [hX]; exact ((Below.refl _ _).alloc (Nat.le_refl _) _).alloc (by simp) _
  have hc : Cel (w.heap.size + 1) (.int .i64 4) X := by rw [hX]; exact ⟨by go_simp, by go_simp⟩
  have HC := Lib.hid hc
  have HB1 := Lib.hid hb1
  have HR := Lib.hid (hr.next hb1)
  have HE : Hid (∀ b', b' = b → w.heap.size + 1 ≠ b') := Lib.hid (fun b' e => by omega)
  go_enter Try.func15, Try.ntmps15
  go_wp2_with (fail)
  rw [← hX]
  clear hX hb1 hc hr
  refine (eachMore b 1 (w.heap.size + 1) 4 X HR.out HC.out (by omega) (by omega) (HE.out b rfl)).mono ?_
  rintro e w2 ⟨rfl, hu⟩
  have HB2 : Hid (Below w.heap.size w w2) := Lib.hid (HB1.out.trans (hu.turn.below HB1.out.size (fun j e => by subst e; omega)))
  obtain ⟨q0, q1⟩ := hu.cel
  clear hu
  go_wp2_with (fail)
  go_ret
  exact ⟨rfl, HB2.out⟩
theorem right_root (b : Nat) (w : World) (hr : Rot w b) : Calls Try.prog 18 #[.agg #[.slice (some ⟨b, 0, none⟩) 1 1]] w fun e w' => e = .returned (.bool true) ∧ Below w.heap.size w w' := by
  have h := right_any (w := w) (n := 1) (c := 1) (na := some ⟨b, 0, none⟩) (f := fun _ => ⟨2, 2, none, 0, 0, [], none, 0, 0, []⟩) ⟨.inr ⟨_, 0, rfl, hr.lt, fun i hi => by
    obtain rfl : i = 0 := Nat.lt_one_iff.1 hi
    exact ⟨hr.c0, hr.c1, hr.c2, hr.c3⟩⟩, fun i _ => Pin.zero _, fun i _ => Enz.zero _⟩ (by omega) (fun i _ => by simp)
  have e : rightB (ndL (fun _ => (⟨2, 2, none, 0, 0, [], none, 0, 0, []⟩ : Nc)) 1) = true := by rfl
  rwa [e] at h
theorem PC_bd {s : Int} (s1 : 12 ≤ s) (s2 : s ≤ 64) : 0 ≤ PC s ∧ PC s ≤ 20 := by unfold PC QC; omega
theorem fits_no (d r s : Int) (b : Nat) (w : World) (h : ¬ Rt d r s) (hr : Rot w b) :
    Calls Try.prog 10 #[gv d r s, .agg #[.slice (some ⟨b, 0, none⟩) 1 1]] w fun e w' => e = .returned (.bool false) ∧ Below w.heap.size w w' := by
  go_enter Try.func10, Try.ntmps10
  go_wp2_with (fail)
  refine (right_no d r s _ h).mono ?_
  rintro e w2 ⟨rfl, hb2⟩
  have HB2 : Hid (Below w.heap.size w w2) := Lib.hid ((((Below.refl w.heap.size w).alloc (Nat.le_refl _) _).alloc (by simp) _).trans (hb2.mono (by simp; omega)))
  clear hb2
  go_wp2_with (fail)
  go_ret
  exact ⟨rfl, HB2.out⟩
set_option maxHeartbeats 1000000 in
theorem fits_yes (d r s : Int) (b : Nat) (w : World) (h : Rt d r s) (hr : Rot w b) :
    Calls Try.prog 10 #[gv d r s, .agg #[.slice (some ⟨b, 0, none⟩) 1 1]] w fun e w' => e = .returned (.bool true) ∧ Below w.heap.size w w' := by
  obtain ⟨p1, p2, _, _⟩ := PL_bd h.d1 h.d2 h.r1 h.r2
  obtain ⟨c1, c2⟩ := PC_bd h.s1 h.s2
  obtain ⟨e1, e2⟩ := QC_bd h.s1 h.s2
  have hq := h.q
  obtain ⟨m1, m2⟩ := mul_bd c1 c2 (by omega : 0 ≤ PL d r) p2
  obtain ⟨m3, m4⟩ := mul_bd (by omega : 0 ≤ QC s) e2 (by omega : 0 ≤ PL d r) p2
  have hq4 : 4 ≤ QC s * PL d r := by omega
  have hcp := fun w => caps_yes d r s w h
  have hpl := fun w => places_yes d r s w h
  have hry := fun w => right_yes d r s w h
  obtain ⟨P, hP⟩ : ∃ P, P = PC s := ⟨_, rfl⟩
  obtain ⟨Q, hQ⟩ : ∃ Q, Q = QC s := ⟨_, rfl⟩
  obtain ⟨L, hL⟩ : ∃ L, L = PL d r := ⟨_, rfl⟩
  rw [← hP, ← hL] at m1 m2
  rw [← hQ, ← hL] at m3 m4 hq4
  simp only [← hP, ← hQ, ← hL] at hcp hpl
  have HCP := Lib.hid hcp
  have HPL := Lib.hid hpl
  have HRY := Lib.hid hry
  obtain ⟨X, hX⟩ : ∃ X, X = (w.alloc (.cells #[.int .i64 d, .int .i64 r, .int .i64 s] 30 (0, 0))).alloc (.cells #[.slice (some ⟨b, 0, none⟩) 1 1] 34 (0, 0)) := ⟨_, rfl⟩
  have hb1 : Below w.heap.size w X := by rw [hX]; exact ((Below.refl _ _).alloc (Nat.le_refl _) _).alloc (by simp) _
  have hz : X.heap.size = w.heap.size + 2 := by rw [hX]; simp
  have g0 : X.cell? ⟨w.heap.size, 0, none⟩ = some (.int .i64 d) := by rw [hX]; go_simp
  have g1 : X.cell? ⟨w.heap.size, 1, none⟩ = some (.int .i64 r) := by rw [hX]; go_simp
  have g2 : X.cell? ⟨w.heap.size, 2, none⟩ = some (.int .i64 s) := by rw [hX]; go_simp
  have t0 : X.cell? ⟨w.heap.size + 1, 0, none⟩ = some (.slice (some ⟨b, 0, none⟩) 1 1) := by rw [hX]; go_simp
  have HK : Hid (∀ X', Below X.heap.size X X' → X'.cell? ⟨w.heap.size, 0, none⟩ = some (.int .i64 d) ∧ X'.cell? ⟨w.heap.size, 1, none⟩ = some (.int .i64 r) ∧ X'.cell? ⟨w.heap.size, 2, none⟩ = some (.int .i64 s) ∧ X'.cell? ⟨w.heap.size + 1, 0, none⟩ = some (.slice (some ⟨b, 0, none⟩) 1 1) ∧ Rot X' b) := Lib.hid fun X' hb' =>
    ⟨(hb'.cell (p := ⟨w.heap.size, 0, none⟩) (by simp; omega)).trans g0, (hb'.cell (p := ⟨w.heap.size, 1, none⟩) (by simp; omega)).trans g1, (hb'.cell (p := ⟨w.heap.size, 2, none⟩) (by simp; omega)).trans g2, (hb'.cell (p := ⟨w.heap.size + 1, 0, none⟩) (by simp; omega)).trans t0, (hr.next hb1).next hb'⟩
  have HB1 := Lib.hid hb1
  clear hP hQ hL hb1 hz h hr hcp hpl hry p1 p2 c1 c2 e1 e2 hq
  go_enter Try.func10, Try.ntmps10
  go_wp2_with (fail)
  rw [← hX]
  clear hX
  refine (HRY.out _).mono ?_
  rintro e w2 ⟨rfl, hb2⟩
  have HB2 := Lib.hid hb2
  obtain ⟨g0, g1, g2, t0, hro⟩ := HK.out w2 HB2.out
  have HRO := Lib.hid hro
  clear hb2 hro
  go_wp2_with (fail)
  refine (right_root b _ HRO.out).mono ?_
  rintro e w3 ⟨rfl, hb3⟩
  have HB3 := Lib.hid (HB2.out.trans (hb3.mono HB2.out.size))
  clear hb3 g0 g1 g2 t0 HRO HB2
  obtain ⟨g0, g1, g2, t0, hro⟩ := HK.out w3 HB3.out
  clear hro
  go_wp2_with (fail)
  refine (HCP.out _).mono ?_
  rintro e w4 ⟨rfl, hb4⟩
  have HB4 := Lib.hid (HB3.out.trans (hb4.mono HB3.out.size))
  clear hb4 g0 g1 g2 t0 HB3
  obtain ⟨g0, g1, g2, t0, hro⟩ := HK.out w4 HB4.out
  clear hro
  go_wp2_with (fail)
  refine (HPL.out _).mono ?_
  rintro e w5 ⟨rfl, hb5⟩
  have HB5 := Lib.hid (HB4.out.trans (hb5.mono HB4.out.size))
  clear hb5 g0 g1 g2 t0 HB4
  obtain ⟨g0, g1, g2, t0, hro⟩ := HK.out w5 HB5.out
  have HRO := Lib.hid hro
  clear hro
  go_wp2_with (fail)
  refine (data_root b _ HRO.out).mono ?_
  rintro e w6 ⟨rfl, hb6⟩
  have HB6 := Lib.hid (HB5.out.trans (hb6.mono HB5.out.size))
  clear hb6 g0 g1 g2 t0 HB5 HRO
  obtain ⟨g0, g1, g2, t0, hro⟩ := HK.out w6 HB6.out
  have HRO := Lib.hid hro
  clear hro
  go_wp2_with (fail)
  refine (more_root b _ HRO.out).mono ?_
  rintro e w7 ⟨rfl, hb7⟩
  have HB7 := Lib.hid (HB6.out.trans (hb7.mono HB6.out.size))
  clear hb7 g0 g1 g2 t0 HB6 HRO
  go_wp2_with (fail)
  go_ret
  exact ⟨rfl, HB1.out.trans (HB7.out.mono HB1.out.size)⟩
end Go.Proofs.Ytijhmpdeohbjhaa

/-
  The statements' first line: blocks that the document fixes. CopyBytes and SameInts by contract.
-/
namespace Go.Proofs.Ytijhmpdeohbjhaa
open Go.RowKit
set_option linter.unusedVariables false
set_option linter.unusedSimpArgs false

theorem copyB_any (a : Option Addr) (n c : Nat) (x : List Int) (w : World) (hx : Pin w a n c x) (hn : n ≤ 1000000000000) :
    Calls Try.prog 8 #[.slice a n c] w (ConPost w x) := by
  go_enter Try.func8, Try.ntmps8
  go_wp2_with (at_builtin; go_must (refine wpList_ap rfl (.tmp 5) (.tmp 6) rfl w.heap.size _ 0 [] rfl (own_none w w.heap.size (Nat.le_refl _)) a n c x rfl (hx.bys.below (Nat.le_refl _) ((Below.refl _ _).alloc (Nat.le_refl _) _)) hx.nil (by omega) (by simp) w ((Below.refl _ _).alloc (Nat.le_refl _) _) ?_); intro v w1 hown1 hb1)
  go_ret
  exact ⟨_, rfl, by rw [hx.bys.len]; simpa using hown1, hb1⟩
theorem cells_ins {w : World} {g n : Nat} {ks : List Int} (h : w.heap[g]? = some (.cells (ks.map (Value.int .i64)).toArray 3 (0, 0))) (hn : ks.length = n) : Ins w (some ⟨g, 0, none⟩) n ks := by
  subst hn
  refine ⟨rfl, .inr ⟨g, 0, rfl, lt_of_block h, fun i hi => ?_⟩⟩
  rw [Nat.zero_add, cell_of_row w g i _ _ (0, 0) h]
  simp [inu, List.getD, hi]
theorem ins_lit {w : World} {g n : Nat} {ks : List Int} {cs : Array Value} (hg : g = w.heap.size) (hn : ks.length = n) (h : cs = (ks.map (Value.int .i64)).toArray) : Ins (w.alloc (.cells cs 3 (0, 0))) (some ⟨g, 0, none⟩) n ks := by
  subst hg h
  exact cells_ins (heap_alloc_new w _) hn
def SmI (w0 : World) (n : Nat) (v : Value) (w : World) : Prop := ∃ k : Nat, k ≤ n ∧ v = .int .i64 k ∧ ∃ q, w = w0.drewN q
set_option maxHeartbeats 1000000 in
theorem sameInts_yes (a b : Option Addr) (n c d : Nat) (ks : List Int) (w : World) (h1 : Ins w a n ks) (h2 : Ins w b n ks) (hn : n ≤ 1000000000000) :
    Calls Try.prog 9 #[.slice a n c, .slice b n d] w fun e w' => e = .returned (.bool true) ∧ Below w.heap.size w w' := by
  go_enter Try.func9, Try.ntmps9
  go_wp2_with (fail)
  go_loopw [5] (fun v wr => SmI w n v wr) (fun v _ => n - (RowKit.intOf v).toNat)
  case atStart => exact ⟨0, by omega, rfl, 0, rfl⟩
  case round =>
    obtain ⟨k, hk, rfl, q, hq⟩ := hrel
    have hB : Below w.heap.size w wr := by rw [hq]; exact below_drewN (Below.refl _ _) q
    have HQ := Lib.hid hq
    clear hq
    by_cases hlt : k < n
    · rcases h1.2 with h0 | ⟨g1, o1, rfl, l1, c1⟩
      · omega
      rcases h2.2 with h0 | ⟨g2, o2, rfl, l2, c2⟩
      · omega
      have k0 : (0 : Int) ≤ (k : Int) := by omega
      have k1 : (k : Int) < (n : Int) := by omega
      have x1 := (hB.cell (p := ⟨g1, o1 + k, none⟩) l1).trans (c1 k hlt)
      have x2 := (hB.cell (p := ⟨g2, o2 + k, none⟩) l2).trans (c2 k hlt)
      clear h1 h2 c1 c2
      go_wp2_with (fail)
      go_quiet (fail)
      go_wp2_with (fail)
      go_roundw
      case rel => exact ⟨k + 1, by omega, by go_num, q + nq, by rw [HQ.out, World.drewN_drewN]⟩
      case measure => simp [RowKit.intOf]; omega
    · obtain rfl : k = n := by omega
      clear h1 h2
      go_wp2_with (fail)
      go_ret
      exact ⟨rfl, hB⟩
/-- There, where the list that it answers is known. -/
theorem there_is {a : Option Addr} {n c : Nat} {zs : List Int} {w : World} (hp : Pin w a n c zs) (hn : n ≤ 1000000000) {T : List Nat} {N : Nat} (hT : thr zs = T) (hN : T.length = N) :
    Calls Try.prog 7 #[.slice a n c] w fun e w' => ∃ a' c', e = .returned (.slice a' N c') ∧ Ins w' a' N (ofN T) ∧ (N ≤ c' ∧ c' ≤ 9223372036854775807) ∧ (∀ x, a' = some x → w.heap.size ≤ x.block ∧ x.block < w'.heap.size) ∧ Below w.heap.size w w' := by
  subst hT hN
  exact (there_any a n c zs w hp hn).mono fun e w' ⟨a', c', h1, h2, h3, h4, h5, h6⟩ => ⟨a', c', h1, h2, ⟨h3, h4⟩, h5, h6⟩
theorem rt0 : Rt 3 3 12 := ⟨⟨by decide, by decide, by decide, by decide, by decide, by decide⟩, by decide⟩
theorem thr0 : thr ((List.replicate 100 (0 : Int)).set 99 1) = [1] := by decide
theorem allB0 : AllB ((List.replicate 100 (0 : Int)).set 99 1) := fun z hz => by
  rcases List.mem_or_eq_of_mem_set hz with h | h
  · exact AllB.zeros 100 z h
  · omega
theorem pt0 : (ptL [15, 16, 43, 44, 72] 5).length = 4 := by decide
set_option maxRecDepth 100000 in
set_option maxHeartbeats 4000000 in
theorem alive_any (w : World) : Calls Try.prog 6 #[] w fun e w' => e = .returned (.bool true) ∧ Below w.heap.size w w' := by
  go_enter Try.func6, Try.ntmps6
  go_wp2_with (at_make; go_must (refine wpList_mk rfl _ _ rfl .i64 .i64 _ _ 100 rfl rfl rfl rfl (by omega) ?_); intro w1 hk1 hb1; have HK1 := Lib.hid hk1; have HB1 := Lib.hid hb1; have f1 := hk1.free 99; have c1 := hk1.cell (i := 99) (by simp); clear hk1 hb1)
  have hbs : Hid (Below w.heap.size w (w1.setCell ⟨w.heap.size, 99, none⟩ (.int .u8 1))) := Lib.hid (HB1.out.setCell (Nat.le_refl _) _)
  have hks := HK1.out.set 99 1
  clear f1 c1
  refine (new_root _).mono ?_
  rintro e w3 ⟨b, rfl, hr, _, hb3⟩
  have HB3 := Lib.hid (hbs.out.trans (hb3.mono hbs.out.size))
  have HP : Hid (Pin w3 (some ⟨w.heap.size, 0, none⟩) 100 100 ((List.replicate 100 (0 : Int)).set 99 1)) := Lib.hid
    ((hks.pin allB0 (by simp) (Nat.le_refl _) (by omega)).next hb3)
  have HR := Lib.hid hr
  clear hbs hks hr hb3
  obtain ⟨X, hX⟩ : ∃ X, X = w3.alloc (.cells #[.slice (some ⟨b, 0, none⟩) 1 1] 34 (0, 0)) := ⟨_, rfl⟩
  have hb4 : Below w3.heap.size w3 X := by rw [hX]; exact (Below.refl _ _).alloc (Nat.le_refl _) _
  obtain ⟨t, ht⟩ : ∃ t, t = w3.heap.size := ⟨_, rfl⟩
  have t0 : X.cell? ⟨t, 0, none⟩ = some (.slice (some ⟨b, 0, none⟩) 1 1) := by rw [hX, ht]; go_simp
  have tl : t < X.heap.size := by rw [hX, ht]; simp
  have HK : Hid (∀ X', Below X.heap.size X X' → X'.cell? ⟨t, 0, none⟩ = some (.slice (some ⟨b, 0, none⟩) 1 1) ∧ Rot X' b ∧ Below w.heap.size w X') := Lib.hid fun X' h' =>
    ⟨(h'.cell (p := ⟨t, 0, none⟩) tl).trans t0, (HR.out.next hb4).next h', (HB3.out.trans (hb4.mono HB3.out.size)).trans (h'.mono (Nat.le_trans HB3.out.size hb4.size))⟩
  have HPX := Lib.hid (HP.out.next hb4)
  clear HP HR hb4 t0 tl
  go_wp2_with (fail)
  rw [← hX, ← ht]
  clear hX ht
  refine (there_any _ 100 100 _ X HPX.out (by omega)).mono ?_
  rintro e w5 ⟨a5, c5, rfl, hi5, _, _, _, hb5⟩
  rw [thr0] at *
  have HB5 := Lib.hid hb5
  have HI5 : Hid (Ins w5 a5 1 [1]) := Lib.hid hi5
  have hl1 : [1].length = 1 := rfl
  rw [hl1]
  clear hi5 hb5 HPX hl1
  go_wp2_with (fail)
  refine (sameInts_yes a5 _ 1 c5 1 [1] _ (HI5.out.alloc _) (ins_lit rfl rfl rfl) (by omega)).mono ?_
  rintro e w6 ⟨rfl, hb6⟩
  have HB6 : Hid (Below X.heap.size X w6) := Lib.hid ((HB5.out.alloc HB5.out.size _).trans (hb6.mono (by have := HB5.out.size; simp; omega)))
  clear hb6
  go_wp2_with (fail)
  refine (pointing_any _ 5 5 [15, 16, 43, 44, 72] _ (ins_lit rfl rfl rfl) (by omega)).mono ?_
  rintro e w7 ⟨rfl, hb7⟩
  rw [pt0]
  have HB7 : Hid (Below X.heap.size X w7) := Lib.hid ((HB6.out.alloc HB6.out.size _).trans (hb7.mono (by have := HB6.out.size; simp; omega)))
  clear hb7 HB6 HB5
  obtain ⟨t0, hr, _⟩ := HK.out w7 HB7.out
  have HR := Lib.hid hr
  clear hr
  go_wp2_with (fail)
  refine (data_root b _ HR.out).mono ?_
  rintro e w8 ⟨rfl, hb8⟩
  have HB8 := Lib.hid (HB7.out.trans (hb8.mono HB7.out.size))
  clear hb8 HB7 t0 HR
  obtain ⟨t0, hr, _⟩ := HK.out w8 HB8.out
  have HR := Lib.hid hr
  clear hr
  go_wp2_with (fail)
  refine (more_root b _ HR.out).mono ?_
  rintro e w9 ⟨rfl, hb9⟩
  have HB9 := Lib.hid (HB8.out.trans (hb9.mono HB8.out.size))
  clear hb9 HB8 t0 HR
  obtain ⟨t0, hr, _⟩ := HK.out w9 HB9.out
  have HR := Lib.hid hr
  clear hr
  go_wp2_with (fail)
  refine (fits_yes 3 3 12 b _ rt0 HR.out).mono ?_
  rintro e w10 ⟨rfl, hb10⟩
  have HB10 := Lib.hid (HB9.out.trans (hb10.mono HB9.out.size))
  clear hb10 HB9 t0 HR
  obtain ⟨_, _, hb⟩ := HK.out w10 HB10.out
  go_wp2_with (fail)
  go_ret
  exact ⟨rfl, hb⟩
end Go.Proofs.Ytijhmpdeohbjhaa
