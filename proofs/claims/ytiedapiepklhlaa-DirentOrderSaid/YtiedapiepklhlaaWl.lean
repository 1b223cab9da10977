/-
  DirentLists, walked.
-/
import Derived.Test.YtiedapiepklhlaaWb
namespace Go.Proofs.Ytiedapiepklhlaa
open Go.RowKit
set_option linter.unusedVariables false
set_option linter.unusedSimpArgs false

theorem put_len_le (L : List En) (x : En) : (eput L x).length ≤ L.length + 1 := by
  cases h : ehas L x.s with
  | true => rw [eput_len_has h]; omega
  | false => rw [eput_len_not h]; omega
set_option maxHeartbeats 8000000 in
theorem lists_any (a0 : Option Addr) (n0 c0 : Nat) (L : List En) (s : ByteArray) (i : Int) (W : World) (h0 : Ens W a0 n0 L) (l0 : n0 ≤ c0) (m0 : c0 ≤ 9223372036854775807) (z0 : a0 = none → n0 = 0 ∧ c0 = 0) (r0 : ∀ x ∈ L, x.s.size ≤ 4611686018427387904) :
    Calls Try.prog 4 #[.slice a0 n0 c0, .agg #[.string s, .int .i64 i]] W fun e w' => e = .returned (.bool true) ∧ Below W.heap.size W w' := by
  have hb0 : Below W.heap.size W (W.alloc (.cells #[.string s, .int .i64 i] 36 (0, 0))) := (Below.refl _ _).alloc (Nat.le_refl _) _
  have ha := alive_any (W.alloc (.cells #[.string s, .int .i64 i] 36 (0, 0)))
  have K0 := Lib.hid hb0
  have H0 := Lib.hid h0
  have Z0 := Lib.hid z0
  have hl := h0.len
  have R0 := Lib.hid r0
  clear h0 z0 r0 hb0
  go_enter Try.func4, Try.ntmps4
  go_wp2_with (fail)
  refine ha.mono ?_
  rintro e w1 ⟨rfl, hb1⟩
  have q0 := hb1.cell (p := ⟨W.heap.size, 0, none⟩) (by simp)
  have q1 := hb1.cell (p := ⟨W.heap.size, 1, none⟩) (by simp)
  rw [show (W.alloc (.cells #[.string s, .int .i64 i] 36 (0, 0))).cell? ⟨W.heap.size, 0, none⟩ = some (.string s) by simp] at q0
  rw [show (W.alloc (.cells #[.string s, .int .i64 i] 36 (0, 0))).cell? ⟨W.heap.size, 1, none⟩ = some (.int .i64 i) by simp] at q1
  have hbx : W.heap.size < w1.heap.size := Nat.lt_of_lt_of_le (by simp) hb1.size
  have C1 := Lib.hid (And.intro q0 (And.intro q1 hbx))
  have K1 := Lib.hid (bt K0.out hb1)
  have hlo := long_any a0 n0 c0 L w1 (H0.out.next K1.out) (by omega) R0.out
  clear ha hb1 q0 q1 hbx
  go_wp2_with (fail)
  refine hlo.mono ?_
  rintro e w' ⟨r, rfl, hr, rfl⟩
  cases r with
  | true =>
    clear hlo hr
    go_wp2_with (fail)
    go_ret
    exact ⟨rfl, K1.out⟩
  | false =>
    have HS := Lib.hid (hr rfl)
    have hn0 : n0 ≤ 300 := by have := HS.out.1; omega
    have hri := rising_any a0 n0 c0 L w' (H0.out.next K1.out) (by omega)
    clear hlo hr
    cases hrs : ris L with
    | false =>
      rw [hrs] at hri
      go_wp2_with (fail)
      refine hri.mono ?_
      rintro e w2 ⟨rfl, hb2⟩
      have K2 := Lib.hid (bt K1.out hb2)
      clear hri hb2
      go_wp2_with (fail)
      go_ret
      exact ⟨rfl, K2.out⟩
    | true =>
      rw [hrs] at hri
      go_wp2_with (fail)
      refine hri.mono ?_
      rintro e w2 ⟨rfl, hb2⟩
      have q0 := (hb2.cell (p := ⟨W.heap.size, 0, none⟩) C1.out.2.2).trans C1.out.1
      have q1 := (hb2.cell (p := ⟨W.heap.size, 1, none⟩) C1.out.2.2).trans C1.out.2.1
      have C2 := Lib.hid (And.intro q0 (And.intro q1 (Nat.lt_of_lt_of_le C1.out.2.2 hb2.size)))
      have K2 := Lib.hid (bt K1.out hb2)
      clear hri hb2 q1
      by_cases h5 : 1000 < s.size
      · have k5 : (1000 : Int) < (s.size : Int) := by omega
        go_wp2_with (fail)
        go_ret
        exact ⟨rfl, K2.out⟩
      have k5 : ¬ (1000 : Int) < (s.size : Int) := by omega
      have hcp := copyE_any a0 n0 c0 L w2 (H0.out.next K2.out) (by omega) Z0.out
      go_wp2_with (fail)
      refine hcp.mono ?_
      rintro e w3 ⟨v3, rfl, ho3, hb3⟩
      obtain ⟨a3, c3, rfl, he3, _⟩ := ho3.ens
      have hfi := find_any a3 n0 c3 L s w3 he3 (by omega)
      have q0' := (hb3.cell (p := ⟨W.heap.size, 0, none⟩) C2.out.2.2).trans C2.out.1
      have q1' := (hb3.cell (p := ⟨W.heap.size, 1, none⟩) C2.out.2.2).trans C2.out.2.1
      have C3 := Lib.hid (And.intro q0' (And.intro q1' (Nat.lt_of_lt_of_le C2.out.2.2 hb3.size)))
      have E3 := Lib.hid he3
      have K3 := Lib.hid (bt K2.out hb3)
      clear hcp ho3 hb3 he3 q0 q1'
      go_wp2_with (fail)
      refine hfi.mono ?_
      rintro e w4 ⟨rfl, hb4⟩
      have q0 := (hb4.cell (p := ⟨W.heap.size, 0, none⟩) C3.out.2.2).trans C3.out.1
      have q1 := (hb4.cell (p := ⟨W.heap.size, 1, none⟩) C3.out.2.2).trans C3.out.2.1
      have C4 := Lib.hid (And.intro q0 (And.intro q1 (Nat.lt_of_lt_of_le C3.out.2.2 hb4.size)))
      have K4 := Lib.hid (bt K3.out hb4)
      have K34 := Lib.hid hb4
      have hrf := rfind_any a0 n0 c0 L s w4 (H0.out.next K4.out) (by omega)
      clear hfi hb4 q0' q1
      go_wp2_with (fail)
      refine hrf.mono ?_
      rintro e w5 ⟨rfl, hb5⟩
      have hb5d : Below w4.heap.size w4 w5.drew := below_drewN hb5 1
      have q0' := (hb5d.cell (p := ⟨W.heap.size, 0, none⟩) C4.out.2.2).trans C4.out.1
      have q1' := (hb5d.cell (p := ⟨W.heap.size, 1, none⟩) C4.out.2.2).trans C4.out.2.1
      have C5 := Lib.hid (And.intro q0' (And.intro q1' (Nat.lt_of_lt_of_le C4.out.2.2 hb5d.size)))
      have K5 := Lib.hid (bt K4.out hb5d)
      have K35 := Lib.hid (bt K34.out hb5d)
      have E5 := Lib.hid (E3.out.next K35.out)
      have hput := put_any a3 n0 c3 L ⟨s, i⟩ w5.drew E5.out (by omega) HS.out.fit (by show s.size ≤ 1000000; omega)
      unfold env at hput
      simp only at hput
      obtain ⟨k, hk⟩ : ∃ k, efix L s = k := ⟨_, rfl⟩
      obtain ⟨hb, hhb⟩ : ∃ x, ehas L s = x := ⟨_, rfl⟩
      have hpl : (eput L ⟨s, i⟩).length ≤ 301 := by have := put_len_le L ⟨s, i⟩; omega
      have hcl : (ecut L s).length ≤ 300 := by have := ecut_le L s; omega
      rw [hk, hhb]
      clear hrf hb5 hb5d q0 hk hhb
      go_wp2_with (fail)
      refine wp_region_held_drew (S := (fun w' => w'.cell? ⟨W.heap.size, 0, none⟩ = some (.string s) ∧ w'.cell? ⟨W.heap.size, 1, none⟩ = some (.int .i64 i))) (by kernel_rfl) ?_ (fun hHeld => ?_)
      · exact ⟨q0', q1'⟩
      refine wpAnyH_take (i := 0) (v := ?_) rfl (by kernel_rfl) (by kernel_rfl) (by kernel_rfl) (fun _ _ _ h => h) (Or.inl ⟨by rfl, fun w hSw => ?_⟩) (by assumption) ?_
      rotate_left
      · (try dsimp only at hSw); go_simp; try with_reducible rfl
      simp only [Act.put, List.setIfInBounds_toArray, List.set_cons_zero, List.set_cons_succ, List.getElem_toArray, List.getElem_cons_zero]
      refine wpAnyH_take (i := 1) (v := ?_) rfl (by kernel_rfl) (by kernel_rfl) (by kernel_rfl) (fun _ _ _ h => h) (Or.inl ⟨by rfl, fun w hSw => ?_⟩) (by assumption) ?_
      rotate_left
      · (try dsimp only at hSw); go_simp; try with_reducible rfl
      simp only [Act.put, List.setIfInBounds_toArray, List.set_cons_zero, List.set_cons_succ, List.getElem_toArray, List.getElem_cons_succ, List.getElem_cons_zero]
      refine wpAnyH_take (i := 2) (v := ?_) rfl (by kernel_rfl) (by kernel_rfl) (by kernel_rfl) (fun _ _ _ h => h) (Or.inl ⟨by rfl, fun w hSw => ?_⟩) (by assumption) ?_
      rotate_left
      · (try dsimp only at hSw); go_simp; try with_reducible rfl
      simp only [Act.put, List.setIfInBounds_toArray, List.set_cons_zero, List.set_cons_succ, List.getElem_toArray, List.getElem_cons_succ, List.getElem_cons_zero]
      refine wpAnyH_take (i := 3) (v := ?_) rfl (by kernel_rfl) (by kernel_rfl) (by kernel_rfl) (fun _ _ _ h => h) (Or.inl ⟨by rfl, fun w hSw => ?_⟩) (by assumption) ?_
      rotate_left
      · (try dsimp only at hSw); go_simp; try with_reducible rfl
      simp only [Act.put, List.setIfInBounds_toArray, List.set_cons_zero, List.set_cons_succ, List.getElem_toArray, List.getElem_cons_succ, List.getElem_cons_zero]
      refine wpAnyH_take (i := 4) (v := ?_) rfl (by kernel_rfl) (by kernel_rfl) (by kernel_rfl) (fun _ _ _ h => h) (Or.inl ⟨by rfl, fun w hSw => ?_⟩) (by assumption) ?_
      rotate_left
      · (try dsimp only at hSw); go_simp; try with_reducible rfl
      simp only [Act.put, List.setIfInBounds_toArray, List.set_cons_zero, List.set_cons_succ, List.getElem_toArray, List.getElem_cons_succ, List.getElem_cons_zero]
      refine wpAnyH_take (i := 5) (v := ?_) rfl (by kernel_rfl) (by kernel_rfl) (by kernel_rfl) (fun _ _ _ h => h) (Or.inl ⟨by rfl, fun w hSw => ?_⟩) (by assumption) ?_
      rotate_left
      · (try dsimp only at hSw); go_simp; try with_reducible rfl
      simp only [Act.put, List.setIfInBounds_toArray, List.set_cons_zero, List.set_cons_succ, List.getElem_toArray, List.getElem_cons_succ, List.getElem_cons_zero]
      refine wpAnyH_take (i := 6) (v := ?_) rfl (by kernel_rfl) (by kernel_rfl) (by kernel_rfl) (fun _ _ _ h => h) (Or.inl ⟨by rfl, fun w hSw => ?_⟩) (by assumption) ?_
      rotate_left
      · (try dsimp only at hSw); go_simp; try with_reducible rfl
      simp only [Act.put, List.setIfInBounds_toArray, List.set_cons_zero, List.set_cons_succ, List.getElem_toArray, List.getElem_cons_succ, List.getElem_cons_zero]
      refine wpAnyH_take (i := 7) (v := ?_) rfl (by kernel_rfl) (by kernel_rfl) (by kernel_rfl) (fun _ _ _ h => h) (Or.inl ⟨by rfl, fun w hSw => ?_⟩) (by assumption) ?_
      rotate_left
      · (try dsimp only at hSw); go_simp; try with_reducible rfl
      simp only [Act.put, List.setIfInBounds_toArray, List.set_cons_zero, List.set_cons_succ, List.getElem_toArray, List.getElem_cons_succ, List.getElem_cons_zero]
      refine wpAnyH_take (i := 8) (v := ?_) rfl (by kernel_rfl) (by kernel_rfl) (by kernel_rfl) (fun _ _ _ h => h) (Or.inl ⟨by rfl, fun w hSw => ?_⟩) (by assumption) ?_
      rotate_left
      · (try dsimp only at hSw); go_simp; try with_reducible rfl
      simp only [Act.put, List.setIfInBounds_toArray, List.set_cons_zero, List.set_cons_succ, List.getElem_toArray, List.getElem_cons_succ, List.getElem_cons_zero]
      refine wpAnyH_take (i := 9) (v := ?_) rfl (by kernel_rfl) (by kernel_rfl) (by kernel_rfl) (fun _ _ _ h => h) (Or.inl ⟨by rfl, fun w hSw => ?_⟩) (by assumption) ?_
      rotate_left
      · (try dsimp only at hSw); go_simp; try with_reducible rfl
      simp only [Act.put, List.setIfInBounds_toArray, List.set_cons_zero, List.set_cons_succ, List.getElem_toArray, List.getElem_cons_succ, List.getElem_cons_zero]
      refine wpAnyH_take (i := 10) (v := ?_) rfl (by kernel_rfl) (by kernel_rfl) (by kernel_rfl) (fun _ _ _ h => h) (Or.inl ⟨by rfl, fun w hSw => ?_⟩) (by assumption) ?_
      rotate_left
      · (try dsimp only at hSw); go_simp; try with_reducible rfl
      simp only [Act.put, List.setIfInBounds_toArray, List.set_cons_zero, List.set_cons_succ, List.getElem_toArray, List.getElem_cons_succ, List.getElem_cons_zero]
      refine wpAnyH_take (i := 12) (v := ?_) rfl (by kernel_rfl) (by kernel_rfl) (by kernel_rfl) (fun _ _ _ h => h) (Or.inl ⟨by rfl, fun w hSw => ?_⟩) (by assumption) ?_
      rotate_left
      · (try dsimp only at hSw); go_simp; try with_reducible rfl
      simp only [Act.put, List.setIfInBounds_toArray, List.set_cons_zero, List.set_cons_succ, List.getElem_toArray, List.getElem_cons_succ, List.getElem_cons_zero]
      refine wpAnyH_take (i := 13) (v := ?_) rfl (by kernel_rfl) (by kernel_rfl) (by kernel_rfl) (fun _ _ _ h => h) (Or.inl ⟨by rfl, fun w hSw => ?_⟩) (by assumption) ?_
      rotate_left
      · (try dsimp only at hSw); go_simp; try with_reducible rfl
      simp only [Act.put, List.setIfInBounds_toArray, List.set_cons_zero, List.set_cons_succ, List.getElem_toArray, List.getElem_cons_succ, List.getElem_cons_zero]
      refine wpAnyH_ready (rs := [11]) (by kernel_rfl) (by simp) ?_
      refine AllReadyH.cons rfl (fun K hK => ?_) AllReadyH.nil
      simp only [List.getElem_toArray, List.getElem_cons_succ, List.getElem_cons_zero]
      go_simp
      refine hput.mono ?_
      rintro e w6 ⟨v6, rfl, ho6, hb6⟩
      obtain ⟨a6, c6, rfl, he6, _⟩ := ho6.ens
      have p0 := (hb6.cell (p := ⟨W.heap.size, 0, none⟩) C5.out.2.2).trans C5.out.1
      have p1 := (hb6.cell (p := ⟨W.heap.size, 1, none⟩) C5.out.2.2).trans C5.out.2.1
      have C6 := Lib.hid (And.intro p0 (And.intro p1 (Nat.lt_of_lt_of_le C5.out.2.2 hb6.size)))
      have K6 := Lib.hid (bt K5.out hb6)
      have K56 := Lib.hid hb6
      have E6 := Lib.hid he6
      go_wp2_with (fail)
      refine hK.out _ _ ⟨p0, p1⟩ (fun hHeld => ?_)
      have hrp := rput_any a0 n0 c0 L ⟨s, i⟩ w6 (H0.out.next K6.out) (by omega) Z0.out l0 m0
      unfold env at hrp
      simp only at hrp
      clear hK K hput ho6 hb6 he6 q0' q1' p0 p1
      refine wpAnyH_ready (rs := [14]) (by kernel_rfl) (by simp) ?_
      refine AllReadyH.cons rfl (fun K hK => ?_) AllReadyH.nil
      simp only [List.getElem_toArray, List.getElem_cons_succ, List.getElem_cons_zero]
      go_simp
      refine hrp.mono ?_
      rintro e w7 ⟨v7, rfl, ho7, hb7⟩
      obtain ⟨a7, c7, rfl, he7, _⟩ := ho7.ens
      have p0 := (hb7.cell (p := ⟨W.heap.size, 0, none⟩) C6.out.2.2).trans C6.out.1
      have p1 := (hb7.cell (p := ⟨W.heap.size, 1, none⟩) C6.out.2.2).trans C6.out.2.1
      have C7 := Lib.hid (And.intro p0 (And.intro p1 (Nat.lt_of_lt_of_le C6.out.2.2 hb7.size)))
      have K7 := Lib.hid (bt K6.out hb7)
      have K57 := Lib.hid (bt K56.out hb7)
      have hs1 := sameE_any a6 a7 _ _ c6 c7 (eput L ⟨s, i⟩) (eput L ⟨s, i⟩) w7 (E6.out.next hb7) he7 (by omega) (by omega)
      rw [sameE_refl] at hs1
      go_wp2_with (fail)
      refine hK.out _ _ ⟨p0, p1⟩ (fun hHeld => ?_)
      clear hK K hrp ho7 hb7 he7 p0 p1
      refine wpAnyH_ready (rs := [15]) (by kernel_rfl) (by simp) ?_
      refine AllReadyH.cons rfl (fun K hK => ?_) AllReadyH.nil
      simp only [List.getElem_toArray, List.getElem_cons_succ, List.getElem_cons_zero]
      go_simp
      refine hs1.mono ?_
      rintro e w8 ⟨rfl, hb8⟩
      have p0 := (hb8.cell (p := ⟨W.heap.size, 0, none⟩) C7.out.2.2).trans C7.out.1
      have p1 := (hb8.cell (p := ⟨W.heap.size, 1, none⟩) C7.out.2.2).trans C7.out.2.1
      have C8 := Lib.hid (And.intro p0 (And.intro p1 (Nat.lt_of_lt_of_le C7.out.2.2 hb8.size)))
      have K8 := Lib.hid (bt K7.out hb8)
      have K58 := Lib.hid (bt K57.out hb8)
      have hcu := cut_any a3 n0 c3 L s w8 (E5.out.next K58.out) (by omega) HS.out.fit
      go_wp2_with (fail)
      refine hK.out _ _ ⟨p0, p1⟩ (fun hHeld => ?_)
      clear hK K hs1 hb8 p1
      refine wpAnyH_take (i := 16) (v := ?_) rfl (by kernel_rfl) (by kernel_rfl) (by kernel_rfl) (fun _ _ _ h => h) (Or.inl ⟨by rfl, fun w hSw => ?_⟩) (by assumption) ?_
      rotate_left
      · (try dsimp only at hSw); go_simp; try with_reducible rfl
      simp only [Act.put, List.setIfInBounds_toArray, List.set_cons_zero, List.set_cons_succ, List.getElem_toArray, List.getElem_cons_succ, List.getElem_cons_zero]
      refine wpAnyH_take (i := 17) (v := ?_) rfl (by kernel_rfl) (by kernel_rfl) (by kernel_rfl) (fun _ _ _ h => h) (Or.inl ⟨by rfl, fun w hSw => ?_⟩) (by assumption) ?_
      rotate_left
      · (try dsimp only at hSw); go_simp; try with_reducible rfl
      simp only [Act.put, List.setIfInBounds_toArray, List.set_cons_zero, List.set_cons_succ, List.getElem_toArray, List.getElem_cons_succ, List.getElem_cons_zero]
      refine wpAnyH_take (i := 18) (v := ?_) rfl (by kernel_rfl) (by kernel_rfl) (by kernel_rfl) (fun _ _ _ h => h) (Or.inl ⟨by rfl, fun w hSw => ?_⟩) (by assumption) ?_
      rotate_left
      · (try dsimp only at hSw); go_simp; try with_reducible rfl
      simp only [Act.put, List.setIfInBounds_toArray, List.set_cons_zero, List.set_cons_succ, List.getElem_toArray, List.getElem_cons_succ, List.getElem_cons_zero]
      refine wpAnyH_take (i := 19) (v := ?_) rfl (by kernel_rfl) (by kernel_rfl) (by kernel_rfl) (fun _ _ _ h => h) (Or.inl ⟨by rfl, fun w hSw => ?_⟩) (by assumption) ?_
      rotate_left
      · (try dsimp only at hSw); go_simp; try with_reducible rfl
      simp only [Act.put, List.setIfInBounds_toArray, List.set_cons_zero, List.set_cons_succ, List.getElem_toArray, List.getElem_cons_succ, List.getElem_cons_zero]
      refine wpAnyH_take (i := 20) (v := ?_) rfl (by kernel_rfl) (by kernel_rfl) (by kernel_rfl) (fun _ _ _ h => h) (Or.inl ⟨by rfl, fun w hSw => ?_⟩) (by assumption) ?_
      rotate_left
      · (try dsimp only at hSw); go_simp; try with_reducible rfl
      simp only [Act.put, List.setIfInBounds_toArray, List.set_cons_zero, List.set_cons_succ, List.getElem_toArray, List.getElem_cons_succ, List.getElem_cons_zero]
      refine wpAnyH_take (i := 22) (v := ?_) rfl (by kernel_rfl) (by kernel_rfl) (by kernel_rfl) (fun _ _ _ h => h) (Or.inl ⟨by rfl, fun w hSw => ?_⟩) (by assumption) ?_
      rotate_left
      · (try dsimp only at hSw); go_simp; try with_reducible rfl
      simp only [Act.put, List.setIfInBounds_toArray, List.set_cons_zero, List.set_cons_succ, List.getElem_toArray, List.getElem_cons_succ, List.getElem_cons_zero]
      refine wpAnyH_take (i := 23) (v := ?_) rfl (by kernel_rfl) (by kernel_rfl) (by kernel_rfl) (fun _ _ _ h => h) (Or.inl ⟨by rfl, fun w hSw => ?_⟩) (by assumption) ?_
      rotate_left
      · (try dsimp only at hSw); go_simp; try with_reducible rfl
      simp only [Act.put, List.setIfInBounds_toArray, List.set_cons_zero, List.set_cons_succ, List.getElem_toArray, List.getElem_cons_succ, List.getElem_cons_zero]
      refine wpAnyH_take (i := 24) (v := ?_) rfl (by kernel_rfl) (by kernel_rfl) (by kernel_rfl) (fun _ _ _ h => h) (Or.inl ⟨by rfl, fun w hSw => ?_⟩) (by assumption) ?_
      rotate_left
      · (try dsimp only at hSw); go_simp; try with_reducible rfl
      simp only [Act.put, List.setIfInBounds_toArray, List.set_cons_zero, List.set_cons_succ, List.getElem_toArray, List.getElem_cons_succ, List.getElem_cons_zero]
      refine wpAnyH_ready (rs := [21]) (by kernel_rfl) (by simp) ?_
      refine AllReadyH.cons rfl (fun K hK => ?_) AllReadyH.nil
      simp only [List.getElem_toArray, List.getElem_cons_succ, List.getElem_cons_zero]
      go_simp
      refine hcu.mono ?_
      rintro e w9 ⟨v9, rfl, ho9, hb9⟩
      obtain ⟨a9, c9, rfl, he9, _⟩ := ho9.ens
      have r0 := (hb9.cell (p := ⟨W.heap.size, 0, none⟩) C8.out.2.2).trans C8.out.1
      have r1 := (hb9.cell (p := ⟨W.heap.size, 1, none⟩) C8.out.2.2).trans C8.out.2.1
      have C9 := Lib.hid (And.intro r0 (And.intro r1 (Nat.lt_of_lt_of_le C8.out.2.2 hb9.size)))
      have K9 := Lib.hid (bt K8.out hb9)
      have K59 := Lib.hid (bt K58.out hb9)
      have E9 := Lib.hid he9
      have hrc := rcut_any a0 n0 c0 L s w9 (H0.out.next K9.out) (by omega)
      go_wp2_with (fail)
      refine hK.out _ _ ⟨r0, r1⟩ (fun hHeld => ?_)
      clear hK K hcu ho9 hb9 he9 p0 r0 r1
      refine wpAnyH_ready (rs := [25]) (by kernel_rfl) (by simp) ?_
      refine AllReadyH.cons rfl (fun K hK => ?_) AllReadyH.nil
      simp only [List.getElem_toArray, List.getElem_cons_succ, List.getElem_cons_zero]
      go_simp
      refine hrc.mono ?_
      rintro e wA ⟨vA, rfl, hoA, hbA⟩
      obtain ⟨aA, cA, rfl, heA, _⟩ := hoA.ens
      have r0 := (hbA.cell (p := ⟨W.heap.size, 0, none⟩) C9.out.2.2).trans C9.out.1
      have r1 := (hbA.cell (p := ⟨W.heap.size, 1, none⟩) C9.out.2.2).trans C9.out.2.1
      have CA := Lib.hid (And.intro r0 (And.intro r1 (Nat.lt_of_lt_of_le C9.out.2.2 hbA.size)))
      have KA := Lib.hid (bt K9.out hbA)
      have K5A := Lib.hid (bt K59.out hbA)
      have hs2 := sameE_any a9 aA _ _ c9 cA (ecut L s) (ecut L s) wA (E9.out.next hbA) heA (by omega) (by omega)
      rw [sameE_refl] at hs2
      go_wp2_with (fail)
      refine hK.out _ _ ⟨r0, r1⟩ (fun hHeld => ?_)
      clear hK K hrc hoA hbA heA r0 r1
      refine wpAnyH_ready (rs := [26]) (by kernel_rfl) (by simp) ?_
      refine AllReadyH.cons rfl (fun K hK => ?_) AllReadyH.nil
      simp only [List.getElem_toArray, List.getElem_cons_succ, List.getElem_cons_zero]
      go_simp
      refine hs2.mono ?_
      rintro e wB ⟨rfl, hbB⟩
      have r0 := (hbB.cell (p := ⟨W.heap.size, 0, none⟩) CA.out.2.2).trans CA.out.1
      have r1 := (hbB.cell (p := ⟨W.heap.size, 1, none⟩) CA.out.2.2).trans CA.out.2.1
      have CB := Lib.hid (And.intro r0 (And.intro r1 (Nat.lt_of_lt_of_le CA.out.2.2 hbB.size)))
      have KB := Lib.hid (bt KA.out hbB)
      have K5B := Lib.hid (bt K5A.out hbB)
      have hs3 := sameE_any a3 a0 n0 n0 c3 c0 L L wB (E5.out.next K5B.out) (H0.out.next KB.out) (by omega) (by omega)
      rw [sameE_refl] at hs3
      go_wp2_with (fail)
      refine hK.out _ _ ⟨r0, r1⟩ (fun hHeld => ?_)
      clear hK K hs2 hbB r0 r1
      refine wpAnyH_take (i := 27) (v := ?_) rfl (by kernel_rfl) (by kernel_rfl) (by kernel_rfl) (fun _ _ _ h => h) (Or.inl ⟨by rfl, fun w hSw => ?_⟩) (by assumption) ?_
      rotate_left
      · (try dsimp only at hSw); go_simp; try with_reducible rfl
      simp only [Act.put, List.setIfInBounds_toArray, List.set_cons_zero, List.set_cons_succ, List.getElem_toArray, List.getElem_cons_succ, List.getElem_cons_zero]
      refine wpAnyH_take (i := 28) (v := ?_) rfl (by kernel_rfl) (by kernel_rfl) (by kernel_rfl) (fun _ _ _ h => h) (Or.inl ⟨by rfl, fun w hSw => ?_⟩) (by assumption) ?_
      rotate_left
      · (try dsimp only at hSw); go_simp; try with_reducible rfl
      simp only [Act.put, List.setIfInBounds_toArray, List.set_cons_zero, List.set_cons_succ, List.getElem_toArray, List.getElem_cons_succ, List.getElem_cons_zero]
      refine wpAnyH_take (i := 29) (v := ?_) rfl (by kernel_rfl) (by kernel_rfl) (by kernel_rfl) (fun _ _ _ h => h) (Or.inl ⟨by rfl, fun w hSw => ?_⟩) (by assumption) ?_
      rotate_left
      · (try dsimp only at hSw); go_simp; try with_reducible rfl
      simp only [Act.put, List.setIfInBounds_toArray, List.set_cons_zero, List.set_cons_succ, List.getElem_toArray, List.getElem_cons_succ, List.getElem_cons_zero]
      refine wpAnyH_take (i := 30) (v := ?_) rfl (by kernel_rfl) (by kernel_rfl) (by kernel_rfl) (fun _ _ _ h => h) (Or.inl ⟨by rfl, fun w hSw => ?_⟩) (by assumption) ?_
      rotate_left
      · (try dsimp only at hSw); go_simp; try with_reducible rfl
      simp only [Act.put, List.setIfInBounds_toArray, List.set_cons_zero, List.set_cons_succ, List.getElem_toArray, List.getElem_cons_succ, List.getElem_cons_zero]
      refine wpAnyH_ready (rs := [31]) (by kernel_rfl) (by simp) ?_
      refine AllReadyH.cons rfl (fun K hK => ?_) AllReadyH.nil
      simp only [List.getElem_toArray, List.getElem_cons_succ, List.getElem_cons_zero]
      go_simp
      refine hs3.mono ?_
      rintro e wC ⟨rfl, hbC⟩
      have r0 := (hbC.cell (p := ⟨W.heap.size, 0, none⟩) CB.out.2.2).trans CB.out.1
      have r1 := (hbC.cell (p := ⟨W.heap.size, 1, none⟩) CB.out.2.2).trans CB.out.2.1
      have KC := Lib.hid (bt KB.out hbC)
      go_wp2_with (fail)
      refine hK.out _ _ ⟨r0, r1⟩ (fun hHeld => ?_)
      clear hK K hs3 hbC r0 r1
      refine wpAnyH_take (i := 32) (v := ?_) rfl (by kernel_rfl) (by kernel_rfl) (by kernel_rfl) (fun _ _ _ h => h) (Or.inl ⟨by rfl, fun w hSw => ?_⟩) (by assumption) ?_
      rotate_left
      · (try dsimp only at hSw); go_simp; try with_reducible rfl
      simp only [Act.put, List.setIfInBounds_toArray, List.set_cons_zero, List.set_cons_succ, List.getElem_toArray, List.getElem_cons_succ, List.getElem_cons_zero]
      refine wpAnyH_take (i := 33) (v := ?_) rfl (by kernel_rfl) (by kernel_rfl) (by kernel_rfl) (fun _ _ _ h => h) (Or.inl ⟨by rfl, fun w hSw => ?_⟩) (by assumption) ?_
      rotate_left
      · (try dsimp only at hSw); go_simp; try with_reducible rfl
      simp only [Act.put, List.setIfInBounds_toArray, List.set_cons_zero, List.set_cons_succ, List.getElem_toArray, List.getElem_cons_succ, List.getElem_cons_zero]
      refine wpAnyH_done (by kernel_rfl) ?_ _
      go_wp2_with (fail)
      go_ret
      exact ⟨by simp, KC.out⟩
end Go.Proofs.Ytiedapiepklhlaa
