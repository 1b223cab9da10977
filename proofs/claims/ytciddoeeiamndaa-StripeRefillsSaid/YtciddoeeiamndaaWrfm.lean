/-
  What a disk's bytes are behind the bank's flush, and stay while it is bad; a slot is filled again: for StripeRefills.
-/
import Derived.Test.YtciddoeeiamndaaSg
namespace Go.Proofs.Ytciddoeeiamndaa
open Go.RowKit Go.Maps
set_option linter.unusedVariables false

theorem call_last (R : Rk) (j : Nat) : (R.call.d j).last = (R.d j).last := by
  unfold Rk.call
  split <;> rfl
theorem wr_last (R : Rk) (i k : Int) (zs : List Int) (j : Nat) : ((R.wr i k zs).d j).last = (R.d j).last := by
  unfold Rk.wr
  split
  · split
    · show (if j = i.toNat then (R.call.d i.toNat).put k.toNat zs else R.call.d j).last = _
      split
      · rename_i e
        rw [e]
        exact call_last R _
      · exact call_last R _
    · exact call_last R _
  · rfl
theorem fl_last (R : Rk) (i j : Nat) (h : i ≠ j ∨ R.callE j ≠ 0) : ((R.fl i).d j).last = (R.d j).last := by
  unfold Rk.fl
  split
  · rw [Int.toNat_natCast]
    split
    · rename_i _ e
      show (if j = i then (R.call.d i).flush R.S else R.call.d j).last = _
      split
      · rename_i e2
        subst e2
        rcases h with h | h
        · exact absurd rfl h
        · exact absurd e h
      · exact call_last R _
    · exact call_last R _
  · rfl
section
variable {R : Rk} {D : Nat → Bool} {C : Nat → Nat → List Int}
theorem B0.dsk (i : Nat) : B0.disk (i : Int) = (i : Int) := by rw [Bn.dk_eq (m := 3) rfl, Bn.dk0 rfl]
theorem Vd.flush_keep (h : Vd R 4 41 noD D C) {s : Nat} (hs : s < 4) (hD : D s = true) : ∀ i, i ≤ 4 → ((flG B0 R i).2.2.d s).last = (R.d s).last := by
  intro i
  induction i with
  | zero => intro _; rfl
  | succ i ih =>
    intro hi
    obtain ⟨h1, h2, h3⟩ := h.flush (B := B0) (m := 3) rfl rfl i (by show i ≤ 4; omega)
    have hcall : (flG B0 R i).2.2.callE s ≠ 0 ∧ (flG B0 R i).2.2.flE (B0.disk (i : Int)) ≠ 12 := by
      rw [B0.dsk]
      rcases h3 with ⟨_, e⟩ | ⟨_, hv⟩
      · rw [e, h.callE hs, (h.fl (i := i) (by omega)).1]
        refine ⟨?_, by split <;> omega⟩
        simp [orD, hD]
      · rw [hv.callE hs, (hv.fl (i := i) (by omega)).1]
        refine ⟨?_, by split <;> omega⟩
        simp [orD, hD]
    rw [flG_go h1 hcall.2, B0.dsk]
    exact (fl_last _ i s (.inr hcall.1)).trans (ih (by omega))
theorem Vd.flush_last (h : Vd R 4 41 noD noD C) : ∀ i, i ≤ 4 → ∀ j k, j < i → k < 41 → sec ((flG B0 R i).2.2.d j).last k = C j k := by
  intro i
  induction i with
  | zero => intro _ j k hj; omega
  | succ i ih =>
    intro hi j k hj hk
    obtain ⟨h1, h2, h3⟩ := h.flush (B := B0) (m := 3) rfl rfl i (by show i ≤ 4; omega)
    have hv : Vd (flG B0 R i).2.2 4 41 noD noD C := by
      rcases h3 with ⟨_, e⟩ | ⟨_, hv⟩
      · rw [e]; exact h
      · exact hv.congr (fun _ _ => rfl) (fun _ _ _ => rfl)
    have hE : (flG B0 R i).2.2.flE (B0.disk (i : Int)) ≠ 12 := by
      rw [B0.dsk, (hv.fl (i := i) (by omega)).1]
      split <;> omega
    rw [flG_go h1 hE, B0.dsk]
    by_cases e : j = i
    · subst e
      have hc := hv.call
      have h0 : 0 ≤ (j : Int) ∧ (j : Int) < (flG B0 R j).2.2.n := ⟨by omega, by rw [hv.hn]; omega⟩
      have hcE : (flG B0 R j).2.2.callE j = 0 := hv.callE (by omega)
      unfold Rk.fl
      rw [if_pos ⟨hv.off, h0⟩, Int.toNat_natCast, if_pos hcE, hv.hS]
      show sec (if j = j then ((flG B0 R j).2.2.call.d j).flush 41 else _).last k = _
      rw [if_pos rfl]
      show sec (joinS 41 ((flG B0 R j).2.2.call.d j).read) k = _
      rw [sec_join (fun s hs => by rw [hc.rd j s (by omega) hs rfl]; exact h.len j s (by omega) hs) hk]
      exact hc.rd j k (by omega) hk rfl
    · rw [fl_last _ i j (.inl fun x => e x.symm)]
      exact ih (by omega) j k (by omega) hk
theorem rfG_last (B : Bn) (R : Rk) (n : Nat) (g q : Int) (i a j : Nat) : ((rfG B R n g q i a).2.d j).last = (R.d j).last := by
  induction a with
  | zero => rfl
  | succ a ih =>
    rw [rfG]
    split
    · exact ih
    · split
      · show ((bw B (rfG B R n g q i a).2 i _ _).d j).last = _
        unfold bw
        split
        · exact (wr_last _ _ _ _ j).trans ih
        · exact ih
      · exact ih
end

/-- The bank behind Join. -/
abbrev B1 (s : Nat) : Bn := ⟨3, 3, 12, 1, (s : Int), 1⟩
theorem join_B1 {s : Nat} (hs : s < 3) : B0.join 1 (s : Int) 1 = B1 s := by
  unfold Bn.join
  rw [if_pos (show memOk 3 (s : Int) 1 = true from decide_eq_true (.inr ⟨.inl rfl, by omega, by omega⟩))]
theorem sml1 (s : Nat) : Sml (B1 s) := ⟨rfl, rfl, rfl⟩
theorem B1.dk (s i : Nat) : (B1 s).dk i = if i = s then 3 else i := by
  unfold Bn.dk Bn.disk
  by_cases e : i = s
  · rw [if_pos ⟨show (1 : Int) ≠ 0 by decide, by rw [e]⟩, if_pos e]; rfl
  · rw [if_neg (fun x => e (by have h : (i : Int) = (s : Int) := x.2; omega)), if_neg e, Int.toNat_natCast]
section
variable {R : Rk} {bad : Nat → Bool} {C : Nat → Nat → List Int} {s g : Nat} {q : Int}
/-- What slots read behind it. -/
def jX (C : Nat → Nat → List Int) (s : Nat) : Nat → Nat → List Int := fun i k => C (if i = s then 3 else i) k
theorem Vd.vw1 (h : Vd R 4 41 bad noD C) (hs : s < 3) (hb : ∀ i, i < 4 → (bad i = true ↔ i = s)) : Vw (B1 s) R noD (fun i => decide (i = s)) (jX C s) := by
  have hno : ∀ i, i < 3 → bad (if i = s then 3 else i) = false := fun i hi => by
    cases hc : bad (if i = s then 3 else i) with
    | false => rfl
    | true =>
      have := (hb _ (by split <;> omega)).1 hc
      split at this <;> omega
  refine (h.vw (B := B1 s) rfl rfl rfl).congr (fun i hi => by rw [B1.dk]; exact hno i hi) (fun i hi => ?_) (fun i k hi hk _ => by rw [B1.dk]; rfl)
  rw [B1.dk, hno i hi, Bool.or_false, decide_eq_decide]
  show (1 : Int) = 1 ∧ (i : Int) = (s : Int) ↔ i = s
  omega
/-- What Refill leaves of the first a rows. -/
def rfC (C : Nat → Nat → List Int) (s g a : Nat) : Nat → Nat → List Int := fun i k => if i = 3 ∧ 5 + 3 * g ≤ k ∧ k < 5 + 3 * g + a then C s k else C i k
theorem Vd.refill (h : Vd R 4 41 bad noD C) (hs : s < 3) (hb : ∀ i, i < 4 → (bad i = true ↔ i = s)) (hg : g < 12) (hw : Whl C g q) (hq : q ≠ 0) (hz : ∀ a, a < 3 → C 3 (5 + (3 * g + a)) = List.replicate 64 0) :
    ∀ a, a ≤ 3 → (rfG (B1 s) R 3 g q s a).1 = none ∧ Vd (rfG (B1 s) R 3 g q s a).2 4 41 bad noD (rfC C s g a) := by
  intro a
  induction a with
  | zero =>
    intro _
    refine ⟨rfl, h.other (fun i k _ _ _ => ?_) (fun i k hi hk => ?_)⟩
    · unfold rfC; rw [if_neg (by omega)]
    · unfold rfC; rw [if_neg (by omega)]; exact h.len i k hi hk
  | succ a ih =>
    intro ha
    obtain ⟨h1, h2⟩ := ih (by omega)
    have hv := h2.vw1 hs hb
    have hrow := hw a (by omega)
    have hk : 5 + (3 * g + a) < 41 := by omega
    have ez : (5 : Int) + ((g : Int) * (B1 s).r + (a : Int)) = ((5 + (3 * g + a) : Nat) : Int) := by show (5 : Int) + ((g : Int) * 3 + (a : Int)) = _; omega
    have hrd : rdO (B1 s) (rfG (B1 s) R 3 g q s a).2 (5 + ((g : Int) * (B1 s).r + (a : Int))) q s = false := by
      rw [ez, hv.rd hs hk]
      have e : jX (rfC C s g a) s s (5 + (3 * g + a)) = List.replicate 64 0 := by
        unfold jX rfC
        rw [if_pos rfl, if_neg (by omega)]
        exact hz a (by omega)
      rw [e, decide_eq_false (fun x => hq (by rw [← x]; rfl)), Bool.and_false]
    have hres := hv.res (k := 5 + (3 * g + a)) (x := s) hk hs hrow (fun i hi hne => ⟨rfl, by unfold jX rfC; rw [if_neg hne, if_neg (by omega)]⟩)
    rw [← ez] at hres
    rw [rfG_go h1 hrd hres.1, hres.2, ez]
    have hb2 := h2.bw (sml1 s) (i := s) (k := 5 + (3 * g + a)) hs (by rw [B1.dk, if_pos rfl]; omega) hk (hrow.len s hs)
    have hb3 : bad 3 = false := by
      cases hc : bad 3 with
      | false => rfl
      | true => have := (hb 3 (by omega)).1 hc; omega
    rw [B1.dk, if_pos rfl, hb3] at hb2
    have e0 : bwE (B1 s) (rfG (B1 s) R 3 g q s a).2 s ((5 + (3 * g + a) : Nat) : Int) (C s (5 + (3 * g + a))) = 0 := hb2.1
    refine ⟨by rw [if_pos e0], hb2.2.other (fun i k _ _ _ => ?_) (fun i k hi hk2 => ?_)⟩
    · show rfC C s g (a + 1) i k = setC (rfC C s g a) 3 (5 + (3 * g + a)) (C s (5 + (3 * g + a))) i k
      unfold setC rfC
      by_cases e : i = 3 ∧ k = 5 + (3 * g + a)
      · rw [if_pos e, if_pos ⟨e.1, by omega, by omega⟩, e.2]
      · rw [if_neg e]
        by_cases e2 : i = 3 ∧ 5 + 3 * g ≤ k ∧ k < 5 + 3 * g + a
        · rw [if_pos e2, if_pos ⟨e2.1, e2.2.1, by omega⟩]
        · rw [if_neg e2, if_neg]
          rintro ⟨x1, x2, x3⟩
          rcases (by omega : k < 5 + 3 * g + a ∨ k = 5 + (3 * g + a)) with y | y
          · exact e2 ⟨x1, x2, y⟩
          · exact e ⟨x1, y⟩
    · unfold rfC
      split
      · exact h.len s k (by omega) hk2
      · exact h.len i k hi hk2
end

end Go.Proofs.Ytciddoeeiamndaa

/-
  StripeRefills, walked.
-/
namespace Go.Proofs.Ytciddoeeiamndaa
open Go.RowKit Go.Maps
set_option linter.unusedVariables false

section
variable {w0 w : World} {M : Nat → Prop} {L : Lay} {b : Nat} {R : Rk} {B : Bn}
/-- The rack's Lasting. -/
theorem st_last {i k : Nat} (h : St w0 M L b R B w) (hi : i < R.n) (hk : k < R.S) : Calls Try.prog 21 #[.pointer (some ⟨L.p, 0, none⟩), .int .i64 i, .int .i64 k] w fun e w' => ∃ a n c, e = .returned (.tuple #[.slice a n c, .int .i64 0]) ∧ Bys w' a n (sec (R.d i).last k) ∧ St w0 M L b R B w' ∧ Below w.heap.size w w' :=
  (lasting_ok M L R w i k h.rk hi hk).mono fun _ _ hp => by
    obtain ⟨a, c, e, hy, _, hb⟩ := hp
    exact ⟨a, _, c, e, hy, h.next hb, hb⟩
end

section
variable (seq : Int) (a : Option Addr) (n c : Nat) (f : Nat → BlP) (s : Int) (w : World)
set_option maxRecDepth 100000 in
set_option maxHeartbeats 1000000 in
theorem refills_out (hbl : Bls w a n f) (hn : n ≤ 9223372036854775807) (h : ¬ (1 ≤ seq ∧ seq < 4294967296 ∧ fitO f n 6 = true ∧ 0 ≤ s ∧ s ≤ 2)) :
    Calls Try.prog 4 #[.int .i64 seq, .slice a n c, .int .i64 s] w fun e w' => e = .returned (.bool true) ∧ Below w.heap.size w w' := by
  have HAL := Lib.hid (alive_any w)
  have HFT1 : Hid (∀ w', Below w.heap.size w w' → Calls Try.prog 9 #[.slice a n c, .int .i64 6] w' fun e w'' => e = .returned (.bool (fitO f n 6)) ∧ Below w'.heap.size w' w'') := fun w' hb => fits_any a n c 6 f w' (hbl.next hb) hn
  clear hbl
  by_cases h1 : 1 ≤ seq
  · have gh1 : decide (seq < 1) = false := decide_eq_false (by omega)
    by_cases h2 : seq < 4294967296
    · have gh2 : decide (4294967296 ≤ seq) = false := decide_eq_false (by omega)
      cases hf1 : fitO f n 6 with
      | false =>
        rw [hf1] at HFT1
        clear h h1 h2 hf1
        go_enter Try.func4, Try.ntmps4
        go_wp2_with (fail)
        refine HAL.out.mono ?_
        rintro e w1 ⟨rfl, hb1⟩
        go_wp2_with (fail)
        refine (HFT1.out w1 hb1).mono ?_
        rintro e w2 ⟨rfl, hc2⟩
        have hb2 := hb1.trans (hc2.mono hb1.size)
        clear hc2
        go_wp2_with (fail)
        go_ret
        exact ⟨rfl, hb2⟩
      | true =>
        rw [hf1] at HFT1
        by_cases h3 : 0 ≤ s
        · have gh3 : decide (s < 0) = false := decide_eq_false (by omega)
          by_cases h4 : s ≤ 2
          · exact absurd ⟨h1, h2, hf1, h3, h4⟩ h
          · have sh4 : 2 < s := by omega
            clear h h1 h2 h3 h4
            go_enter Try.func4, Try.ntmps4
            go_wp2_with (fail)
            refine HAL.out.mono ?_
            rintro e w1 ⟨rfl, hb1⟩
            go_wp2_with (fail)
            refine (HFT1.out w1 hb1).mono ?_
            rintro e w2 ⟨rfl, hc2⟩
            have hb2 := hb1.trans (hc2.mono hb1.size)
            clear hc2
            go_wp2_with (fail)
            go_ret
            exact ⟨rfl, hb2⟩
        · have sh3 : s < 0 := by omega
          clear h h1 h2 h3
          go_enter Try.func4, Try.ntmps4
          go_wp2_with (fail)
          refine HAL.out.mono ?_
          rintro e w1 ⟨rfl, hb1⟩
          go_wp2_with (fail)
          refine (HFT1.out w1 hb1).mono ?_
          rintro e w2 ⟨rfl, hc2⟩
          have hb2 := hb1.trans (hc2.mono hb1.size)
          clear hc2
          go_wp2_with (fail)
          go_ret
          exact ⟨rfl, hb2⟩
    · have sh2 : 4294967296 ≤ seq := by omega
      clear h h1 h2
      go_enter Try.func4, Try.ntmps4
      go_wp2_with (fail)
      refine HAL.out.mono ?_
      rintro e w1 ⟨rfl, hb1⟩
      go_wp2_with (fail)
      go_ret
      exact ⟨rfl, hb1⟩
  · have sh1 : seq < 1 := by omega
    clear h h1
    go_enter Try.func4, Try.ntmps4
    go_wp2_with (fail)
    refine HAL.out.mono ?_
    rintro e w1 ⟨rfl, hb1⟩
    go_wp2_with (fail)
    go_ret
    exact ⟨rfl, hb1⟩
end

section
variable (seq : Int) (a : Option Addr) (n c : Nat) (f : Nat → BlP) (s : Nat) (w : World)
set_option maxRecDepth 100000 in
set_option maxHeartbeats 1000000 in
theorem refills_in (hbl : Bls w a n f) (hn : n ≤ 9223372036854775807) (q0 : 1 ≤ seq) (q1 : seq < 4294967296) (hfit : fitO f n 6 = true) (hs : s < 3) :
    Calls Try.prog 4 #[.int .i64 seq, .slice a n c, .int .i64 s] w fun e w' => e = .returned (.bool true) ∧ Below w.heap.size w w' := by
  have HE : Hid (encB seq f n 6 = true) := fit_enc hbl hfit (by omega) q1
  have HSM : Hid (∀ j, j < n → AllB (f j).p.zs) := fun j hj => (hbl.each j hj).bys.small
  have HBL := Lib.hid hbl
  have HFT : Hid (∀ w', Below w.heap.size w w' → Calls Try.prog 9 #[.slice a n c, .int .i64 6] w' fun e w'' => e = .returned (.bool true) ∧ Below w'.heap.size w' w'') := fun w' hb => by
    have := fits_any a n c 6 f w' (hbl.next hb) hn
    rw [hfit] at this
    exact this
  have HAL := Lib.hid (alive_any w)
  have f1 : decide (seq < 1) = false := decide_eq_false (by omega)
  have f2 : decide (4294967296 ≤ seq) = false := decide_eq_false (by omega)
  have f3 : decide ((s : Int) < 0) = false := decide_eq_false (by omega)
  have f4 : decide ((2 : Int) < (s : Int)) = false := decide_eq_false (by omega)
  have HQ : Hid (1 ≤ seq ∧ seq < 4294967296) := ⟨q0, q1⟩
  have HS := Lib.hid hs
  clear hbl hfit hs q0 q1
  go_enter Try.func4, Try.ntmps4
  go_wp2_with (fail)
  refine HAL.out.mono ?_
  rintro e w1 ⟨rfl, hb1⟩
  go_wp2_with (fail)
  refine (HFT.out w1 hb1).mono ?_
  rintro e w2 ⟨rfl, hb2⟩
  have HB2 := Lib.hid (hb1.trans (hb2.mono hb1.size))
  clear hb1 hb2 HAL HFT
  go_wp2_with (fail)
  refine (open_small w2).mono ?_
  rintro e w3 ⟨L, b, rfl, hst⟩
  have hbl3 := HBL.out.next (HB2.out.trans (hst.bel.mono HB2.out.size))
  have hwr := st_write sml0 4 seq a n c f hst hbl3 hn
  obtain ⟨e1, v1⟩ := Vd.start.write sml0 rfl (by decide) (g := 4) (q := seq) (by omega) HQ.out.1 HQ.out.2 HE.out HSM.out
  rw [show wrE B0 (newRk 4 41) 3 3 4 seq f n = 0 from e1] at hwr
  obtain ⟨R1, hR1⟩ : ∃ R1, R1 = wrR B0 (newRk 4 41) 3 3 4 seq f n := ⟨_, rfl⟩
  rw [← hR1] at hwr
  rw [show wrR B0 (newRk 4 41) 3 3 (4 : Nat) seq f n = R1 from hR1.symm] at v1
  obtain ⟨C, hC⟩ : ∃ C, C = wrS (fun _ _ => List.replicate 64 0) 4 seq f n 3 := ⟨_, rfl⟩
  have HW : Hid (Whl C 4 seq) := by rw [hC]; exact wrS_whl HE.out HSM.out
  have HZ : Hid (∀ a, a < 3 → C 3 (5 + (3 * 4 + a)) = List.replicate 64 0) := fun a _ => by
    rw [hC]
    unfold wrS
    rw [if_neg (by omega)]
  rw [← hC] at v1
  have HV1 := Lib.hid v1
  clear hC hR1 v1 e1 hst hbl3
  go_wp2_with (fail)
  refine hwr.mono ?_
  rintro e w4 ⟨rfl, hst4, _⟩
  have hfl := st_flush (n := 3) hst4 rfl (by omega)
  obtain ⟨f1, f2⟩ := HV1.out.flush0
  rw [f1] at hfl
  obtain ⟨R2, hR2⟩ : ∃ R2, R2 = (flG B0 R1 B0.num).2.2 := ⟨_, rfl⟩
  have HL2 : Hid (∀ k, k < 41 → sec (R2.d s).last k = C s k) := fun k hk => by
    rw [hR2]
    exact HV1.out.flush_last 4 (Nat.le_refl _) s k (by have := HS.out; omega) hk
  rw [← hR2] at hfl f2
  have HV2 : Hid (Vd R2 4 41 noD noD C) := f2.congr (fun _ _ => rfl) (fun _ _ _ => rfl)
  clear hwr hst4 f1 f2 hR2 HV1
  go_wp2_with (fail)
  refine hfl.mono ?_
  rintro e w5 ⟨rfl, hst5, _⟩
  have hs4 : s < 4 := by have := HS.out; omega
  have hdm := st_doom s 0 hst5 (by omega)
  obtain ⟨d1, d2⟩ := HV2.out.doom (i := s) hs4
  rw [d1] at hdm
  obtain ⟨R3, hR3⟩ : ∃ R3, R3 = R2.doom s 0 := ⟨_, rfl⟩
  have HL3 : Hid ((R3.d s).last = (R2.d s).last) := by
    show _ = _
    rw [hR3]
    unfold Rk.doom
    split
    · show (if s = (s : Int).toNat then { R2.d (s : Int).toNat with cnt := 0 } else R2.d s).last = _
      rw [Int.toNat_natCast, if_pos rfl]
    · rfl
  rw [← hR3] at hdm d2
  have HV3 := Lib.hid d2
  clear hfl hst5 d1 d2 hR3 HV2
  go_wp2_with (fail)
  refine hdm.mono ?_
  rintro e w6 ⟨rfl, hst6, _⟩
  have hfl := st_flush (n := 3) hst6 rfl (by omega)
  obtain ⟨f1, f2⟩ := HV3.out.flush0
  rw [f1] at hfl
  obtain ⟨R4, hR4⟩ : ∃ R4, R4 = (flG B0 R3 B0.num).2.2 := ⟨_, rfl⟩
  have HL4 : Hid ((R4.d s).last = (R3.d s).last) := by
    show _ = _
    rw [hR4]
    exact HV3.out.flush_keep hs4 (by simp) 4 (Nat.le_refl _)
  rw [← hR4] at hfl f2
  obtain ⟨bad, hbad⟩ : ∃ bad, bad = orD noD (fun j => noD j || j == s) := ⟨_, rfl⟩
  have HBD : Hid (∀ i, i < 4 → (bad i = true ↔ i = s)) := fun i _ => by rw [hbad]; simp [orD]
  rw [← hbad] at f2
  have HV4 := Lib.hid f2
  clear hdm hst6 f1 f2 hR4 HV3 hbad
  go_wp2_with (fail)
  refine hfl.mono ?_
  rintro e w7 ⟨rfl, hst7, _⟩
  have hsd := st_sound sml0 4 seq hst7
  have hv4 := HV4.out.vw0
  have hno : sndV B0 R4 3 3 4 seq = false := by
    cases hv : sndV B0 R4 3 3 4 seq with
    | false => rfl
    | true =>
      have h2 := (hv4.soundRw (g := 4) (by omega) (fun i a hi ha _ => ⟨(HW.out a ha).len i hi, (HW.out a ha).sm i hi⟩) (by have := HQ.out; omega) HQ.out.2 hv).1 s HS.out
      rw [(HBD.out s hs4).2 rfl] at h2
      cases h2
  rw [hno, show chkE R4 (segO B0 4) = 0 from hv4.chk (hv4.seg (g := 4) (by omega))] at hsd
  clear hfl hst7 hno hv4
  go_wp2_with (fail)
  refine hsd.mono ?_
  rintro e w8 ⟨rfl, hst8, _⟩
  have hjn := st_join 1 s 1 hst8
  rw [join_B1 HS.out] at hjn
  clear hsd hst8
  go_wp2_with (fail)
  refine hjn.mono ?_
  rintro e w9 ⟨rfl, hst9, _⟩
  have hms := st_miss (sml1 s) 4 s seq hst9
  have hv5 := HV4.out.vw1 HS.out HBD.out
  rw [show misV (B1 s) R4 3 4 seq s = true from hv5.missYes (g := 4) (by omega) HS.out (.inr (by
    unfold jX
    rw [if_pos rfl, HZ.out 0 (by omega)]
    intro x
    have : decN (List.replicate 64 0) 0 4 = 0 := rfl
    have := HQ.out.1
    omega)), show chkE R4 (thO (B1 s) 4 s) = 0 from hv5.chk (hv5.thO (g := 4) (by omega) HS.out)] at hms
  have hck : chkE R4 (thO (B1 s) 4 s) = 0 := hv5.chk (hv5.thO (g := 4) (by omega) HS.out)
  have HCK := Lib.hid hck
  clear hjn hst9 hv5 hck
  go_wp2_with (fail)
  refine hms.mono ?_
  rintro e wa ⟨rfl, hsta, _⟩
  have hrf := st_refill (sml1 s) 4 s seq hsta
  obtain ⟨g1, g2⟩ := HV4.out.refill HS.out HBD.out (g := 4) (by omega) HW.out (by have := HQ.out.1; omega) HZ.out 3 (Nat.le_refl _)
  have ge : rfE (B1 s) R4 3 3 4 seq s = 0 := by
    unfold rfE
    rw [HCK.out, if_pos rfl, Int.toNat_natCast, show (rfG (B1 s) R4 3 4 seq s 3).1 = none from g1]
    rfl
  obtain ⟨R5, hR5⟩ : ∃ R5, R5 = (rfG (B1 s) R4 3 4 seq s 3).2 := ⟨_, rfl⟩
  have gr : rfR (B1 s) R4 3 3 4 seq s = R5 := by
    unfold rfR
    rw [HCK.out, if_pos rfl, Int.toNat_natCast, hR5]
  have HL5 : Hid ((R5.d s).last = (R4.d s).last) := by
    show _ = _
    rw [hR5]
    exact rfG_last _ _ _ _ _ _ _ _
  rw [ge, gr] at hrf
  rw [show (rfG (B1 s) R4 3 (4 : Nat) seq s 3).2 = R5 from hR5.symm] at g2
  have HV5 := Lib.hid g2
  clear hms hsta g1 g2 ge gr hR5 HV4 HCK
  go_wp2_with (fail)
  refine hrf.mono ?_
  rintro e wb ⟨rfl, hstb, _⟩
  have hv6 := HV5.out.vw1 HS.out HBD.out
  have hX : ∀ i a, i < 3 → a < 3 → jX (rfC C s 4 3) s i (5 + (3 * 4 + a)) = C i (5 + (3 * 4 + a)) := fun i a hi ha => by
    unfold jX rfC
    by_cases e : i = s
    · rw [if_pos e, if_pos ⟨rfl, by omega, by omega⟩, e]
    · rw [if_neg e, if_neg (by omega)]
  have hW6 : Whl (jX (rfC C s 4 3) s) 4 seq := fun a ha => by
    have h0 := HW.out a ha
    refine ⟨fun i hi => ?_, fun i hi => ?_, fun i hi => ?_, h0.q0, h0.q1, fun t ht => ?_⟩
    · show (jX _ s i _).length = _
      rw [hX i a hi ha]; exact h0.len i hi
    · show AllB (jX _ s i _)
      rw [hX i a hi ha]; exact h0.sm i hi
    · show (jX _ s i _).take 4 = _
      rw [hX i a hi ha]; exact h0.t4 i hi
    · have := h0.tot t ht
      simp only [hX 0 a (by omega) ha, hX 1 a (by omega) ha, hX 2 a (by omega) ha]
      exact this
  have hms := st_miss (sml1 s) 4 s seq hstb
  rw [show misV (B1 s) R5 3 4 seq s = false from hv6.missNo (g := 4) (by omega) HS.out rfl (fun a ha => (hW6 a ha).seq HS.out), show chkE R5 (thO (B1 s) 4 s) = 0 from hv6.chk (hv6.thO (g := 4) (by omega) HS.out)] at hms
  have HSN : Hid (sndV (B1 s) R5 3 3 4 seq = true ∧ chkE R5 (segO (B1 s) 4) = 0) := ⟨hv6.sound (g := 4) (by omega) hW6 (fun _ _ => rfl), hv6.chk (hv6.seg (g := 4) (by omega))⟩
  clear hrf hstb hv6 hX hW6
  go_wp2_with (fail)
  refine hms.mono ?_
  rintro e wc ⟨rfl, hstc, _⟩
  have hsd := st_sound (sml1 s) 4 seq hstc
  rw [HSN.out.1, HSN.out.2] at hsd
  clear hms hstc HSN
  go_wp2_with (fail)
  refine hsd.mono ?_
  rintro e wd ⟨rfl, hstd, _⟩
  have HSTD := Lib.hid hstd
  have HRD : Hid (∀ j : Nat, j < 3 → R5.rdE (3 : Nat) (17 + j : Nat) = 0 ∧ R5.rdV (3 : Nat) (17 + j : Nat) = sec (R5.d s).last (17 + j) ∧ (sec (R5.d s).last (17 + j)).length = 64) := fun j hj => by
    have hb3 : bad 3 = false := by
      cases hc : bad 3 with
      | false => rfl
      | true => have := (HBD.out 3 (by omega)).1 hc; have := HS.out; omega
    obtain ⟨r1, r2⟩ := HV5.out.rdd (i := 3) (k := 17 + j) (by omega) (by omega)
    have r3 : sec (R5.d s).last (17 + j) = C s (17 + j) := by
      rw [HL5.out, HL4.out, HL3.out]
      exact HL2.out (17 + j) (by omega)
    have h0 := (HW.out j hj).len s HS.out
    rw [show 5 + (3 * 4 + j) = 17 + j by omega] at h0
    refine ⟨by rw [r1, hb3]; rfl, ?_, by rw [r3]; exact h0⟩
    rw [r2 hb3, r3]
    unfold rfC
    rw [if_pos ⟨rfl, by omega, by omega⟩]
  have HNS : Hid (R5.n = 4 ∧ R5.S = 41) := ⟨HV5.out.hn, HV5.out.hS⟩
  clear hsd hstd HV5 HL2 HL3 HL4 HL5 HBD HW HZ HE HSM
  go_wp2_with (fail)
  go_loopw [14] (fun i wr => ∃ k : Nat, k ≤ 3 ∧ i = .int .i64 k ∧ St w2 (also (L.M 4) (· = b)) L b R5 (B1 s) wr) (fun i _ => 3 - (RowKit.intOf i).toNat)
  case atStart => exact ⟨0, by omega, rfl, HSTD.out⟩
  case round =>
    obtain ⟨k, hk, rfl, hst8⟩ := hrel
    by_cases hlt : k < 3
    · obtain ⟨r1, r2, r3⟩ := HRD.out k hlt
      have hla := st_last (i := s) (k := 17 + k) hst8 (by rw [HNS.out.1]; exact hs4) (by rw [HNS.out.2]; omega)
      obtain ⟨zs, hzs⟩ : ∃ zs, zs = sec (R5.d s).last (17 + k) := ⟨_, rfl⟩
      rw [← hzs] at hla r2 r3
      have hlt' : (k : Int) < 3 := by omega
      have hw17 : IntKind.i64.wrap (17 + (k : Int)) = 17 + (k : Int) := IntWalk.i64_in _ (by omega)
      have HV17 : Hid ((17 : Int) + (k : Int) = ((17 + k : Nat) : Int)) := by show _ = _; omega
      have H1 : Hid (R5.rdE (3 : Nat) (17 + k : Nat) = 0) := r1
      have H2 : Hid (R5.rdV (3 : Nat) (17 + k : Nat) = zs) := r2
      have H3 := Lib.hid r3
      clear hst8 r1 r2 r3 hzs
      go_wp2_with (fail)
      rw [HV17.out]
      refine hla.mono ?_
      rintro e w9 ⟨a9, n9, c9, rfl, hy9, hst9, _⟩
      obtain rfl : n9 = 64 := by rw [← hy9.len]; exact H3.out
      have hrd := st_rread (3 : Nat) (17 + k : Nat) hst9
      rw [H1.out, H2.out] at hrd
      have HY9 := Lib.hid hy9
      clear hla hst9 hy9
      go_wp2_with (fail)
      rw [HV17.out]
      refine hrd.mono ?_
      rintro e w10 ⟨a10, c10, rfl, hp10, _, hst10, hb10⟩
      have hy10 := HY9.out.below (Nat.le_refl _) hb10
      have hz10 := hp10.bys
      rw [H3.out] at hz10
      have hsm := same_eq a9 a10 64 c9 c10 zs zs w10 hy10 hz10 (by omega) rfl
      have HST10 := Lib.hid hst10
      have e64 : (zs.length : Int) = 64 := by rw [H3.out]; rfl
      have HEN := Lib.hid H3.out
      clear hrd hp10 hst10 hb10 hy10 hz10
      rw [H3.out]
      go_wp2_with (fail)
      refine hsm.mono ?_
      rintro e w11 ⟨rfl, hb11⟩
      have HST11 := Lib.hid (HST10.out.next hb11)
      clear hsm hb11 HST10
      go_wp2_with (fail)
      go_roundw
      case rel => exact ⟨k + 1, by omega, by go_num, HST11.out⟩
      case measure => simp [RowKit.intOf]; omega
    · obtain rfl : k = 3 := by omega
      go_wp2_with (fail)
      go_ret
      exact ⟨rfl, HB2.out.trans (hst8.bel.mono HB2.out.size)⟩
end
theorem refillsW_any (seq : Int) (a : Option Addr) (n c : Nat) (f : Nat → BlP) (s : Int) (w : World) (hbl : Bls w a n f) (hn : n ≤ 9223372036854775807) :
    Calls Try.prog 4 #[.int .i64 seq, .slice a n c, .int .i64 s] w fun e w' => e = .returned (.bool true) ∧ Below w.heap.size w w' := by
  by_cases h : 1 ≤ seq ∧ seq < 4294967296 ∧ fitO f n 6 = true ∧ 0 ≤ s ∧ s ≤ 2
  · obtain ⟨h1, h2, h3, h4, h5⟩ := h
    obtain ⟨s, rfl⟩ := Int.eq_ofNat_of_zero_le h4
    exact refills_in seq a n c f s w hbl hn h1 h2 h3 (by omega)
  · exact refills_out seq a n c f s w hbl hn h

end Go.Proofs.Ytciddoeeiamndaa
