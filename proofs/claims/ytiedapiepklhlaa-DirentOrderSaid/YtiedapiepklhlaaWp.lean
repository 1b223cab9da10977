/-
  DirentPuts, walked.
-/
import Derived.Test.YtiedapiepklhlaaWl
namespace Go.Proofs.Ytiedapiepklhlaa
open Go.RowKit
set_option linter.unusedVariables false
set_option linter.unusedSimpArgs false

theorem fit_put {L : List En} {e : En} (h : Fit L) (he : e.s.size ≤ 1000000) : Fit (eput L e) := by
  intro x hx
  unfold eput at hx
  rcases List.mem_append.1 hx with h1 | h1
  · exact h x (List.mem_of_mem_take h1)
  · rcases List.mem_cons.1 h1 with rfl | h1
    · exact he
    · exact h x (List.mem_of_mem_drop h1)
/-- What the law on puts asks of the list that was put. -/
structure PutF (L P : List En) (s : ByteArray) (i : Int) (k : Nat) : Prop where
  fix : efix P s = k
  lt : k < P.length
  at' : eat P k = ⟨s, i⟩
  has : ehas P s = true
  ris : ris P = true
  cut : ecut P s = ecut L s
  len : (ecut L s).length = P.length - 1
  gone : ehas (ecut L s) s = false
  cris : Go.Proofs.Ytiedapiepklhlaa.ris (ecut L s) = true
  fit : Fit P
  le : P.length ≤ 301
theorem putF {L : List En} (hr : ris L = true) (hs : Sml L) {s : ByteArray} (i : Int) (h5 : s.size ≤ 1000000) : PutF L (eput L ⟨s, i⟩) s i (efix L s) := by
  have hL := (ris_rp L).1 hr
  have hP := rp_put hL ⟨s, i⟩
  obtain ⟨h1, h2, h3, h4⟩ := put_found L ⟨s, i⟩
  have h6 := cut_put L ⟨s, i⟩
  have h7 := cut_one hP h2 (by rw [h3])
  rw [h6] at h7
  exact ⟨h1, h2, h3, h4, (ris_rp _).2 hP, h6, h7, cut_gone L s, (ris_rp _).2 (rp_cut hL s), fit_put hs.fit h5, by have := put_len_le L ⟨s, i⟩; have := hs.1; omega⟩
set_option maxHeartbeats 8000000 in
theorem puts_any (a0 : Option Addr) (n0 c0 : Nat) (L : List En) (s : ByteArray) (i : Int) (W : World) (h0 : Ens W a0 n0 L) (m0 : n0 ≤ 9223372036854775807) (r0 : ∀ x ∈ L, x.s.size ≤ 4611686018427387904) :
    Calls Try.prog 6 #[.slice a0 n0 c0, .agg #[.string s, .int .i64 i]] W fun e w' => e = .returned (.bool true) ∧ Below W.heap.size W w' := by
  have hb0 : Below W.heap.size W (W.alloc (.cells #[.string s, .int .i64 i] 36 (0, 0))) := (Below.refl _ _).alloc (Nat.le_refl _) _
  have ha := alive_any (W.alloc (.cells #[.string s, .int .i64 i] 36 (0, 0)))
  have K0 := Lib.hid hb0
  have H0 := Lib.hid h0
  have hl := h0.len
  have R0 := Lib.hid r0
  clear h0 r0 hb0
  go_enter Try.func6, Try.ntmps6
  go_wp2_with (fail)
  refine ha.mono ?_
  rintro e w1 ⟨rfl, hb1⟩
  have q0 := hb1.cell (p := ⟨W.heap.size, 0, none⟩) (by simp)
  have q1 := hb1.cell (p := ⟨W.heap.size, 1, none⟩) (by simp)
  rw [show (W.alloc (.cells #[.string s, .int .i64 i] 36 (0, 0))).cell? ⟨W.heap.size, 0, none⟩ = some (.string s) by simp] at q0
  rw [show (W.alloc (.cells #[.string s, .int .i64 i] 36 (0, 0))).cell? ⟨W.heap.size, 1, none⟩ = some (.int .i64 i) by simp] at q1
  have hbx : W.heap.size < w1.heap.size := Nat.lt_of_lt_of_le (by simp) hb1.size
  have C1 := Lib.hid (And.intro q0 (And.intro q1 hbx))
  have K1 := Lib.hid (bt K0.out hb1)
  have hlo := long_any a0 n0 c0 L w1 (H0.out.next K1.out) m0 R0.out
  clear ha hb1 q0 q1 hbx
  go_wp2_with (fail)
  refine hlo.mono ?_
  rintro e w' ⟨r, rfl, hr, rfl⟩
  cases r with
  | true =>
    clear hlo hr
    go_wp2_with (fail)
    go_ret
    exact ⟨rfl, K1.out⟩
  | false =>
    have HS := Lib.hid (hr rfl)
    have hn0 : n0 ≤ 300 := by have := HS.out.1; omega
    have hri := rising_any a0 n0 c0 L w' (H0.out.next K1.out) (by omega)
    clear hlo hr
    cases hrs : ris L with
    | false =>
      rw [hrs] at hri
      go_wp2_with (fail)
      refine hri.mono ?_
      rintro e w2 ⟨rfl, hb2⟩
      have K2 := Lib.hid (bt K1.out hb2)
      clear hri hb2
      go_wp2_with (fail)
      go_ret
      exact ⟨rfl, K2.out⟩
    | true =>
      rw [hrs] at hri
      have HRS := Lib.hid hrs
      clear hrs
      go_wp2_with (fail)
      refine hri.mono ?_
      rintro e w2 ⟨rfl, hb2⟩
      have q0 := (hb2.cell (p := ⟨W.heap.size, 0, none⟩) C1.out.2.2).trans C1.out.1
      have q1 := (hb2.cell (p := ⟨W.heap.size, 1, none⟩) C1.out.2.2).trans C1.out.2.1
      have C2 := Lib.hid (And.intro q0 (And.intro q1 (Nat.lt_of_lt_of_le C1.out.2.2 hb2.size)))
      have K2 := Lib.hid (bt K1.out hb2)
      clear hri hb2
      by_cases h5 : 1000 < s.size
      · have k5 : (1000 : Int) < (s.size : Int) := by omega
        clear q1
        go_wp2_with (fail)
        go_ret
        exact ⟨rfl, K2.out⟩
      have k5 : ¬ (1000 : Int) < (s.size : Int) := by omega
      have hput := put_any a0 n0 c0 L ⟨s, i⟩ w2 (H0.out.next K2.out) (by omega) HS.out.fit (by show s.size ≤ 1000000; omega)
      have hPF := putF HRS.out HS.out (s := s) i (by omega)
      obtain ⟨P, hP⟩ : ∃ P, eput L ⟨s, i⟩ = P := ⟨_, rfl⟩
      obtain ⟨k, hk⟩ : ∃ k, efix L s = k := ⟨_, rfl⟩
      obtain ⟨np, hnp⟩ : ∃ n, P.length = n := ⟨_, rfl⟩
      rw [hP, hk] at hPF
      rw [hP, hnp] at hput
      have PF := Lib.hid hPF
      have hkn : k < np := by have := hPF.lt; omega
      have hnp1 : np ≤ 301 := by have := hPF.le; omega
      have HNP := Lib.hid hnp
      unfold env at hput
      simp only at hput
      clear hPF hP hk hnp h5
      go_wp2_with (fail)
      refine hput.mono ?_
      rintro e w3 ⟨v3, rfl, ho3, hb3⟩
      obtain ⟨a3, c3, rfl, he3, _⟩ := ho3.ens
      have hfi := find_any a3 np c3 P s w3 he3 (by omega)
      rw [PF.out.fix, PF.out.has] at hfi
      have q0' := (hb3.cell (p := ⟨W.heap.size, 0, none⟩) C2.out.2.2).trans C2.out.1
      have q1' := (hb3.cell (p := ⟨W.heap.size, 1, none⟩) C2.out.2.2).trans C2.out.2.1
      have C3 := Lib.hid (And.intro q0' (And.intro q1' (Nat.lt_of_lt_of_le C2.out.2.2 hb3.size)))
      have E3 := Lib.hid he3
      have K3 := Lib.hid (bt K2.out hb3)
      clear hput ho3 hb3 he3 q0 q1 q1'
      go_wp2_with (fail)
      refine hfi.mono ?_
      rintro e w4 ⟨rfl, hb4⟩
      have hb4d : Below w3.heap.size w3 w4.drew := below_drewN hb4 1
      have q0 := (hb4d.cell (p := ⟨W.heap.size, 0, none⟩) C3.out.2.2).trans C3.out.1
      have q1 := (hb4d.cell (p := ⟨W.heap.size, 1, none⟩) C3.out.2.2).trans C3.out.2.1
      have C4 := Lib.hid (And.intro q0 (And.intro q1 (Nat.lt_of_lt_of_le C3.out.2.2 hb4d.size)))
      have K4 := Lib.hid (bt K3.out hb4d)
      have K34 := Lib.hid hb4d
      have E4 := Lib.hid (E3.out.next hb4d)
      obtain ⟨b, off, rfl, hbl, hd0, hd1⟩ := E4.out.at (i := k) (by omega)
      rw [PF.out.at'] at hd0 hd1
      simp only at hd0 hd1
      have HBL := Lib.hid (And.intro hbl (And.intro hd0 hd1))
      have hri := rising_any (some ⟨b, off, none⟩) np c3 P w4.drew E4.out (by omega)
      rw [PF.out.ris] at hri
      have k0 : (0 : Int) ≤ (k : Int) := by omega
      have k1 : (k : Int) < (np : Int) := by omega
      have d1 : decide ((np : Int) ≤ (k : Int)) = false := decide_eq_false (by omega)
      have d2 : decide (np ≤ k) = false := decide_eq_false (by omega)
      clear hfi hb4 hb4d q0' hbl
      go_wp2_with (fail)
      refine wp_region_held_drew (S := (fun w' => w'.cell? ⟨W.heap.size, 0, none⟩ = some (.string s) ∧ w'.cell? ⟨W.heap.size, 1, none⟩ = some (.int .i64 i) ∧ w'.cell? ⟨b, off + k * 2, none⟩ = some (.string s) ∧ w'.cell? ⟨b, off + k * 2 + 1, none⟩ = some (.int .i64 i))) (by kernel_rfl) ?_ (fun hHeld => ?_)
      · exact ⟨q0, q1, hd0, hd1⟩
      refine wpAnyH_take (i := 0) (v := ?_) rfl (by kernel_rfl) (by kernel_rfl) (by kernel_rfl) (fun _ _ _ h => h) (Or.inl ⟨by rfl, fun w hSw => ?_⟩) (by assumption) ?_
      rotate_left
      · (try dsimp only at hSw); go_simp; try with_reducible rfl
      simp only [Act.put, List.setIfInBounds_toArray, List.set_cons_zero, List.set_cons_succ, List.getElem_toArray, List.getElem_cons_zero]
      refine wpAnyH_take (i := 1) (v := ?_) rfl (by kernel_rfl) (by kernel_rfl) (by kernel_rfl) (fun _ _ _ h => h) (Or.inl ⟨by rfl, fun w hSw => ?_⟩) (by assumption) ?_
      rotate_left
      · (try dsimp only at hSw); go_simp; try with_reducible rfl
      simp only [Act.put, List.setIfInBounds_toArray, List.set_cons_zero, List.set_cons_succ, List.getElem_toArray, List.getElem_cons_succ, List.getElem_cons_zero]
      refine wpAnyH_take (i := 2) (v := ?_) rfl (by kernel_rfl) (by kernel_rfl) (by kernel_rfl) (fun _ _ _ h => h) (Or.inl ⟨by rfl, fun w hSw => ?_⟩) (by assumption) ?_
      rotate_left
      · (try dsimp only at hSw); go_simp; try with_reducible rfl
      simp only [Act.put, List.setIfInBounds_toArray, List.set_cons_zero, List.set_cons_succ, List.getElem_toArray, List.getElem_cons_succ, List.getElem_cons_zero]
      refine wpAnyH_take (i := 3) (v := ?_) rfl (by kernel_rfl) (by kernel_rfl) (by kernel_rfl) (fun _ _ _ h => h) (Or.inl ⟨by rfl, fun w hSw => ?_⟩) (by assumption) ?_
      rotate_left
      · (try dsimp only at hSw); go_simp; try with_reducible rfl
      simp only [Act.put, List.setIfInBounds_toArray, List.set_cons_zero, List.set_cons_succ, List.getElem_toArray, List.getElem_cons_succ, List.getElem_cons_zero]
      refine wpAnyH_take (i := 4) (v := ?_) rfl (by kernel_rfl) (by kernel_rfl) (by kernel_rfl) (fun _ _ _ h => h) (Or.inl ⟨by rfl, fun w hSw => ?_⟩) (by assumption) ?_
      rotate_left
      · (try dsimp only at hSw); go_simp; try with_reducible rfl
      simp only [Act.put, List.setIfInBounds_toArray, List.set_cons_zero, List.set_cons_succ, List.getElem_toArray, List.getElem_cons_succ, List.getElem_cons_zero]
      refine wpAnyH_take (i := 5) (v := ?_) rfl (by kernel_rfl) (by kernel_rfl) (by kernel_rfl) (fun _ _ _ h => h) (Or.inl ⟨by rfl, fun w hSw => ?_⟩) (by assumption) ?_
      rotate_left
      · (try dsimp only at hSw); go_simp; try with_reducible rfl
      simp only [Act.put, List.setIfInBounds_toArray, List.set_cons_zero, List.set_cons_succ, List.getElem_toArray, List.getElem_cons_succ, List.getElem_cons_zero]
      refine wpAnyH_take (i := 6) (v := ?_) rfl (by kernel_rfl) (by kernel_rfl) (by kernel_rfl) (fun _ _ _ h => h) (Or.inl ⟨by rfl, fun w hSw => ?_⟩) (by assumption) ?_
      rotate_left
      · (try dsimp only at hSw); go_simp; try with_reducible rfl
      simp only [Act.put, List.setIfInBounds_toArray, List.set_cons_zero, List.set_cons_succ, List.getElem_toArray, List.getElem_cons_succ, List.getElem_cons_zero]
      refine wpAnyH_take (i := 7) (v := ?_) rfl (by kernel_rfl) (by kernel_rfl) (by kernel_rfl) (fun _ _ _ h => h) (Or.inl ⟨by rfl, fun w hSw => ?_⟩) (by assumption) ?_
      rotate_left
      · (try dsimp only at hSw); go_simp; try with_reducible rfl
      simp only [Act.put, List.setIfInBounds_toArray, List.set_cons_zero, List.set_cons_succ, List.getElem_toArray, List.getElem_cons_succ, List.getElem_cons_zero]
      refine wpAnyH_take (i := 8) (v := ?_) rfl (by kernel_rfl) (by kernel_rfl) (by kernel_rfl) (fun _ _ _ h => h) (Or.inl ⟨by rfl, fun w hSw => ?_⟩) (by assumption) ?_
      rotate_left
      · (try dsimp only at hSw); go_simp; try with_reducible rfl
      simp only [Act.put, List.setIfInBounds_toArray, List.set_cons_zero, List.set_cons_succ, List.getElem_toArray, List.getElem_cons_succ, List.getElem_cons_zero]
      refine wpAnyH_take (i := 9) (v := ?_) rfl (by kernel_rfl) (by kernel_rfl) (by kernel_rfl) (fun _ _ _ h => h) (Or.inl ⟨by rfl, fun w hSw => ?_⟩) (by assumption) ?_
      rotate_left
      · (try dsimp only at hSw); go_simp; try with_reducible rfl
      simp only [Act.put, List.setIfInBounds_toArray, List.set_cons_zero, List.set_cons_succ, List.getElem_toArray, List.getElem_cons_succ, List.getElem_cons_zero]
      refine wpAnyH_take (i := 10) (v := ?_) rfl (by kernel_rfl) (by kernel_rfl) (by kernel_rfl) (fun _ _ _ h => h) (Or.inl ⟨by rfl, fun w hSw => ?_⟩) (by assumption) ?_
      rotate_left
      · (try dsimp only at hSw); go_simp; try with_reducible rfl
      simp only [Act.put, List.setIfInBounds_toArray, List.set_cons_zero, List.set_cons_succ, List.getElem_toArray, List.getElem_cons_succ, List.getElem_cons_zero]
      refine wpAnyH_take (i := 11) (v := ?_) rfl (by kernel_rfl) (by kernel_rfl) (by kernel_rfl) (fun _ _ _ h => h) (Or.inl ⟨by rfl, fun w hSw => ?_⟩) (by assumption) ?_
      rotate_left
      · (try dsimp only at hSw); go_simp; try with_reducible rfl
      simp only [Act.put, List.setIfInBounds_toArray, List.set_cons_zero, List.set_cons_succ, List.getElem_toArray, List.getElem_cons_succ, List.getElem_cons_zero]
      refine wpAnyH_take (i := 12) (v := ?_) rfl (by kernel_rfl) (by kernel_rfl) (by kernel_rfl) (fun _ _ _ h => h) (Or.inl ⟨by rfl, fun w hSw => ?_⟩) (by assumption) ?_
      rotate_left
      · (try dsimp only at hSw); go_simp; try with_reducible rfl
      simp only [Act.put, List.setIfInBounds_toArray, List.set_cons_zero, List.set_cons_succ, List.getElem_toArray, List.getElem_cons_succ, List.getElem_cons_zero]
      refine wpAnyH_take (i := 13) (v := ?_) rfl (by kernel_rfl) (by kernel_rfl) (by kernel_rfl) (fun _ _ _ h => h) (Or.inl ⟨by rfl, fun w hSw => ?_⟩) (by assumption) ?_
      rotate_left
      · (try dsimp only at hSw); go_simp; try with_reducible rfl
      simp only [Act.put, List.setIfInBounds_toArray, List.set_cons_zero, List.set_cons_succ, List.getElem_toArray, List.getElem_cons_succ, List.getElem_cons_zero]
      refine wpAnyH_take (i := 14) (v := ?_) rfl (by kernel_rfl) (by kernel_rfl) (by kernel_rfl) (fun _ _ _ h => h) (Or.inl ⟨by rfl, fun w hSw => ?_⟩) (by assumption) ?_
      rotate_left
      · (try dsimp only at hSw); go_simp; try with_reducible rfl
      simp only [Act.put, List.setIfInBounds_toArray, List.set_cons_zero, List.set_cons_succ, List.getElem_toArray, List.getElem_cons_succ, List.getElem_cons_zero]
      refine wpAnyH_take (i := 15) (v := ?_) rfl (by kernel_rfl) (by kernel_rfl) (by kernel_rfl) (fun _ _ _ h => h) (Or.inl ⟨by rfl, fun w hSw => ?_⟩) (by assumption) ?_
      rotate_left
      · (try dsimp only at hSw); go_simp; try with_reducible rfl
      simp only [Act.put, List.setIfInBounds_toArray, List.set_cons_zero, List.set_cons_succ, List.getElem_toArray, List.getElem_cons_succ, List.getElem_cons_zero]
      refine wpAnyH_take (i := 16) (v := ?_) rfl (by kernel_rfl) (by kernel_rfl) (by kernel_rfl) (fun _ _ _ h => h) (Or.inl ⟨by rfl, fun w hSw => ?_⟩) (by assumption) ?_
      rotate_left
      · (try dsimp only at hSw); go_simp; try with_reducible rfl
      simp only [Act.put, List.setIfInBounds_toArray, List.set_cons_zero, List.set_cons_succ, List.getElem_toArray, List.getElem_cons_succ, List.getElem_cons_zero]
      refine wpAnyH_take (i := 17) (v := ?_) rfl (by kernel_rfl) (by kernel_rfl) (by kernel_rfl) (fun _ _ _ h => h) (Or.inl ⟨by rfl, fun w hSw => ?_⟩) (by assumption) ?_
      rotate_left
      · (try dsimp only at hSw); go_simp; try with_reducible rfl
      simp only [Act.put, List.setIfInBounds_toArray, List.set_cons_zero, List.set_cons_succ, List.getElem_toArray, List.getElem_cons_succ, List.getElem_cons_zero]
      refine wpAnyH_ready (rs := [18]) (by kernel_rfl) (by simp) ?_
      refine AllReadyH.cons rfl (fun K hK => ?_) AllReadyH.nil
      simp only [List.getElem_toArray, List.getElem_cons_succ, List.getElem_cons_zero]
      go_simp
      refine hri.mono ?_
      rintro e w5 ⟨rfl, hb5⟩
      have p0 := (hb5.cell (p := ⟨W.heap.size, 0, none⟩) C4.out.2.2).trans C4.out.1
      have p1 := (hb5.cell (p := ⟨W.heap.size, 1, none⟩) C4.out.2.2).trans C4.out.2.1
      have C5 := Lib.hid (And.intro p0 (And.intro p1 (Nat.lt_of_lt_of_le C4.out.2.2 hb5.size)))
      have K5 := Lib.hid (bt K4.out hb5)
      have E5 := Lib.hid (E4.out.next hb5)
      have s0 := (hb5.cell (p := ⟨b, off + k * 2, none⟩) HBL.out.1).trans HBL.out.2.1
      have s1 := (hb5.cell (p := ⟨b, off + k * 2 + 1, none⟩) HBL.out.1).trans HBL.out.2.2
      go_wp2_with (fail)
      refine hK.out _ _ ⟨p0, p1, s0, s1⟩ (fun hHeld => ?_)
      have hcu := cut_any (some ⟨b, off, none⟩) np c3 P s w5 E5.out (by omega) PF.out.fit
      rw [PF.out.cut, PF.out.len, HNP.out] at hcu
      clear hK K hri hb5 q0 q1 hd0 hd1 p1 s0 s1
      refine wpAnyH_take (i := 19) (v := ?_) rfl (by kernel_rfl) (by kernel_rfl) (by kernel_rfl) (fun _ _ _ h => h) (Or.inl ⟨by rfl, fun w hSw => ?_⟩) (by assumption) ?_
      rotate_left
      · (try dsimp only at hSw); go_simp; try with_reducible rfl
      simp only [Act.put, List.setIfInBounds_toArray, List.set_cons_zero, List.set_cons_succ, List.getElem_toArray, List.getElem_cons_succ, List.getElem_cons_zero]
      refine wpAnyH_take (i := 20) (v := ?_) rfl (by kernel_rfl) (by kernel_rfl) (by kernel_rfl) (fun _ _ _ h => h) (Or.inl ⟨by rfl, fun w hSw => ?_⟩) (by assumption) ?_
      rotate_left
      · (try dsimp only at hSw); go_simp; try with_reducible rfl
      simp only [Act.put, List.setIfInBounds_toArray, List.set_cons_zero, List.set_cons_succ, List.getElem_toArray, List.getElem_cons_succ, List.getElem_cons_zero]
      refine wpAnyH_done (by kernel_rfl) ?_ _
      go_wp2_with (fail)
      refine hcu.mono ?_
      rintro e w6 ⟨v6, rfl, ho6, hb6⟩
      obtain ⟨a6, c6, rfl, he6, _⟩ := ho6.ens
      have hf2 := find_any a6 (np - 1) c6 (ecut L s) s w6 he6 (by omega)
      rw [PF.out.gone] at hf2
      have q0 := (hb6.cell (p := ⟨W.heap.size, 0, none⟩) C5.out.2.2).trans C5.out.1
      have C6 := Lib.hid (And.intro q0 (Nat.lt_of_lt_of_le C5.out.2.2 hb6.size))
      have K6 := Lib.hid (bt K5.out hb6)
      have E6 := Lib.hid he6
      clear hcu ho6 hb6 he6 p0
      go_wp2_with (fail)
      refine hf2.mono ?_
      rintro e w7 ⟨rfl, hb7⟩
      have q0' := (hb7.cell (p := ⟨W.heap.size, 0, none⟩) C6.out.2).trans C6.out.1
      have C7 := Lib.hid (And.intro q0' (Nat.lt_of_lt_of_le C6.out.2 hb7.size))
      have K7 := Lib.hid (bt K6.out hb7)
      have K67 := Lib.hid hb7
      have hr2 := rising_any a6 (np - 1) c6 (ecut L s) w7 (E6.out.next hb7) (by omega)
      rw [PF.out.cris] at hr2
      clear hf2 hb7 q0
      go_wp2_with (fail)
      refine hr2.mono ?_
      rintro e w8 ⟨rfl, hb8⟩
      have q0 := (hb8.cell (p := ⟨W.heap.size, 0, none⟩) C7.out.2).trans C7.out.1
      have K8 := Lib.hid (bt K7.out hb8)
      have K68 := Lib.hid (bt K67.out hb8)
      have hcu2 := cut_any a0 n0 c0 L s w8 (H0.out.next K8.out) (by omega) HS.out.fit
      rw [PF.out.len, HNP.out] at hcu2
      have wn : IntKind.i64.wrap ((np : Int) - 1) = ((np - 1 : Nat) : Int) := (IntWalk.i64_in _ (by omega)).trans (by omega)
      clear hr2 hb8 q0'
      go_wp2_with (fail)
      refine hcu2.mono ?_
      rintro e w9 ⟨v9, rfl, ho9, hb9⟩
      obtain ⟨a9, c9, rfl, he9, _⟩ := ho9.ens
      have K9 := Lib.hid (bt K8.out hb9)
      have hs3 := sameE_any a6 a9 _ _ c6 c9 (ecut L s) (ecut L s) w9 (E6.out.next (bt K68.out hb9)) he9 (by omega) (by omega)
      rw [sameE_refl] at hs3
      clear hcu2 ho9 hb9 he9
      go_wp2_with (fail)
      refine hs3.mono ?_
      rintro e wC ⟨rfl, hbC⟩
      have KC := Lib.hid (bt K9.out hbC)
      clear hs3 hbC
      go_wp2_with (fail)
      go_ret
      exact ⟨rfl, KC.out⟩
end Go.Proofs.Ytiedapiepklhlaa
