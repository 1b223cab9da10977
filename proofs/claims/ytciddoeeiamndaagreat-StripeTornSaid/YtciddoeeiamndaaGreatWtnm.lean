/-
  What a disk's bytes are behind the bank's flush, and stay while it is bad; a slot is filled again: for StripeRefills.
-/
import Derived.Test.YtciddoeeiamndaaGreatSg
import Derived.Test.YtciddoeeiamndaaGreatOpm
namespace Go.Proofs.YtciddoeeiamndaaGreat
open Go.RowKit Go.Maps
set_option linter.unusedVariables false

theorem call_last (R : Rk) (j : Nat) : (R.call.d j).last = (R.d j).last := by
  unfold Rk.call
  split <;> rfl
theorem wr_last (R : Rk) (i k : Int) (zs : List Int) (j : Nat) : ((R.wr i k zs).d j).last = (R.d j).last := by
  unfold Rk.wr
  split
  · split
    · show (if j = i.toNat then (R.call.d i.toNat).put k.toNat zs else R.call.d j).last = _
      split
      · rename_i e
        rw [e]
        exact call_last R _
      · exact call_last R _
    · exact call_last R _
  · rfl
theorem fl_last (R : Rk) (i j : Nat) (h : i ≠ j ∨ R.callE j ≠ 0) : ((R.fl i).d j).last = (R.d j).last := by
  unfold Rk.fl
  split
  · rw [Int.toNat_natCast]
    split
    · rename_i _ e
      show (if j = i then (R.call.d i).flush R.S else R.call.d j).last = _
      split
      · rename_i e2
        subst e2
        rcases h with h | h
        · exact absurd rfl h
        · exact absurd e h
      · exact call_last R _
    · exact call_last R _
  · rfl
section
variable {R : Rk} {D : Nat → Bool} {C : Nat → Nat → List Int}
theorem B0.dsk (i : Nat) : B0.disk (i : Int) = (i : Int) := by rw [Bn.dk_eq (m := 3) rfl, Bn.dk0 rfl]
theorem Vd.flush_keep (h : Vd R 4 41 noD D C) {s : Nat} (hs : s < 4) (hD : D s = true) : ∀ i, i ≤ 4 → ((flG B0 R i).2.2.d s).last = (R.d s).last := by
  intro i
  induction i with
  | zero => intro _; rfl
  | succ i ih =>
    intro hi
    obtain ⟨h1, h2, h3⟩ := h.flush (B := B0) (m := 3) rfl rfl i (by show i ≤ 4; omega)
    have hcall : (flG B0 R i).2.2.callE s ≠ 0 ∧ (flG B0 R i).2.2.flE (B0.disk (i : Int)) ≠ 12 := by
      rw [B0.dsk]
      rcases h3 with ⟨_, e⟩ | ⟨_, hv⟩
      · rw [e, h.callE hs, (h.fl (i := i) (by omega)).1]
        refine ⟨?_, by split <;> omega⟩
        simp [orD, hD]
      · rw [hv.callE hs, (hv.fl (i := i) (by omega)).1]
        refine ⟨?_, by split <;> omega⟩
        simp [orD, hD]
    rw [flG_go h1 hcall.2, B0.dsk]
    exact (fl_last _ i s (.inr hcall.1)).trans (ih (by omega))
theorem Vd.flush_last (h : Vd R 4 41 noD noD C) : ∀ i, i ≤ 4 → ∀ j k, j < i → k < 41 → sec ((flG B0 R i).2.2.d j).last k = C j k := by
  intro i
  induction i with
  | zero => intro _ j k hj; omega
  | succ i ih =>
    intro hi j k hj hk
    obtain ⟨h1, h2, h3⟩ := h.flush (B := B0) (m := 3) rfl rfl i (by show i ≤ 4; omega)
    have hv : Vd (flG B0 R i).2.2 4 41 noD noD C := by
      rcases h3 with ⟨_, e⟩ | ⟨_, hv⟩
      · rw [e]; exact h
      · exact hv.congr (fun _ _ => rfl) (fun _ _ _ => rfl)
    have hE : (flG B0 R i).2.2.flE (B0.disk (i : Int)) ≠ 12 := by
      rw [B0.dsk, (hv.fl (i := i) (by omega)).1]
      split <;> omega
    rw [flG_go h1 hE, B0.dsk]
    by_cases e : j = i
    · subst e
      have hc := hv.call
      have h0 : 0 ≤ (j : Int) ∧ (j : Int) < (flG B0 R j).2.2.n := ⟨by omega, by rw [hv.hn]; omega⟩
      have hcE : (flG B0 R j).2.2.callE j = 0 := hv.callE (by omega)
      unfold Rk.fl
      rw [if_pos ⟨hv.off, h0⟩, Int.toNat_natCast, if_pos hcE, hv.hS]
      show sec (if j = j then ((flG B0 R j).2.2.call.d j).flush 41 else _).last k = _
      rw [if_pos rfl]
      show sec (joinS 41 ((flG B0 R j).2.2.call.d j).read) k = _
      rw [sec_join (fun s hs => by rw [hc.rd j s (by omega) hs rfl]; exact h.len j s (by omega) hs) hk]
      exact hc.rd j k (by omega) hk rfl
    · rw [fl_last _ i j (.inl fun x => e x.symm)]
      exact ih (by omega) j k (by omega) hk
theorem rfG_last (B : Bn) (R : Rk) (n : Nat) (g q : Int) (i a j : Nat) : ((rfG B R n g q i a).2.d j).last = (R.d j).last := by
  induction a with
  | zero => rfl
  | succ a ih =>
    rw [rfG]
    split
    · exact ih
    · split
      · show ((bw B (rfG B R n g q i a).2 i _ _).d j).last = _
        unfold bw
        split
        · exact (wr_last _ _ _ _ j).trans ih
        · exact ih
      · exact ih
end

/-- The bank behind Join. -/
abbrev B1 (s : Nat) : Bn := ⟨3, 3, 12, 1, (s : Int), 1⟩
theorem join_B1 {s : Nat} (hs : s < 3) : B0.join 1 (s : Int) 1 = B1 s := by
  unfold Bn.join
  rw [if_pos (show memOk 3 (s : Int) 1 = true from decide_eq_true (.inr ⟨.inl rfl, by omega, by omega⟩))]
theorem sml1 (s : Nat) : Sml (B1 s) := ⟨rfl, rfl, rfl⟩
theorem B1.dk (s i : Nat) : (B1 s).dk i = if i = s then 3 else i := by
  unfold Bn.dk Bn.disk
  by_cases e : i = s
  · rw [if_pos ⟨show (1 : Int) ≠ 0 by decide, by rw [e]⟩, if_pos e]; rfl
  · rw [if_neg (fun x => e (by have h : (i : Int) = (s : Int) := x.2; omega)), if_neg e, Int.toNat_natCast]
section
variable {R : Rk} {bad : Nat → Bool} {C : Nat → Nat → List Int} {s g : Nat} {q : Int}
/-- What slots read behind it. -/
def jX (C : Nat → Nat → List Int) (s : Nat) : Nat → Nat → List Int := fun i k => C (if i = s then 3 else i) k
theorem Vd.vw1 (h : Vd R 4 41 bad noD C) (hs : s < 3) (hb : ∀ i, i < 4 → (bad i = true ↔ i = s)) : Vw (B1 s) R noD (fun i => decide (i = s)) (jX C s) := by
  have hno : ∀ i, i < 3 → bad (if i = s then 3 else i) = false := fun i hi => by
    cases hc : bad (if i = s then 3 else i) with
    | false => rfl
    | true =>
      have := (hb _ (by split <;> omega)).1 hc
      split at this <;> omega
  refine (h.vw (B := B1 s) rfl rfl rfl).congr (fun i hi => by rw [B1.dk]; exact hno i hi) (fun i hi => ?_) (fun i k hi hk _ => by rw [B1.dk]; rfl)
  rw [B1.dk, hno i hi, Bool.or_false, decide_eq_decide]
  show (1 : Int) = 1 ∧ (i : Int) = (s : Int) ↔ i = s
  omega
/-- What Refill leaves of the first a rows. -/
def rfC (C : Nat → Nat → List Int) (s g a : Nat) : Nat → Nat → List Int := fun i k => if i = 3 ∧ 5 + 3 * g ≤ k ∧ k < 5 + 3 * g + a then C s k else C i k
theorem Vd.refill (h : Vd R 4 41 bad noD C) (hs : s < 3) (hb : ∀ i, i < 4 → (bad i = true ↔ i = s)) (hg : g < 12) (hw : Whl C g q) (hq : q ≠ 0) (hz : ∀ a, a < 3 → C 3 (5 + (3 * g + a)) = List.replicate 64 0) :
    ∀ a, a ≤ 3 → (rfG (B1 s) R 3 g q s a).1 = none ∧ Vd (rfG (B1 s) R 3 g q s a).2 4 41 bad noD (rfC C s g a) := by
  intro a
  induction a with
  | zero =>
    intro _
    refine ⟨rfl, h.other (fun i k _ _ _ => ?_) (fun i k hi hk => ?_)⟩
    · unfold rfC; rw [if_neg (by omega)]
    · unfold rfC; rw [if_neg (by omega)]; exact h.len i k hi hk
  | succ a ih =>
    intro ha
    obtain ⟨h1, h2⟩ := ih (by omega)
    have hv := h2.vw1 hs hb
    have hrow := hw a (by omega)
    have hk : 5 + (3 * g + a) < 41 := by omega
    have ez : (5 : Int) + ((g : Int) * (B1 s).r + (a : Int)) = ((5 + (3 * g + a) : Nat) : Int) := by show (5 : Int) + ((g : Int) * 3 + (a : Int)) = _; omega
    have hrd : rdO (B1 s) (rfG (B1 s) R 3 g q s a).2 (5 + ((g : Int) * (B1 s).r + (a : Int))) q s = false := by
      rw [ez, hv.rd hs hk]
      have e : jX (rfC C s g a) s s (5 + (3 * g + a)) = List.replicate 64 0 := by
        unfold jX rfC
        rw [if_pos rfl, if_neg (by omega)]
        exact hz a (by omega)
      rw [e, decide_eq_false (fun x => hq (by rw [← x]; rfl)), Bool.and_false]
    have hres := hv.res (k := 5 + (3 * g + a)) (x := s) hk hs hrow (fun i hi hne => ⟨rfl, by unfold jX rfC; rw [if_neg hne, if_neg (by omega)]⟩)
    rw [← ez] at hres
    rw [rfG_go h1 hrd hres.1, hres.2, ez]
    have hb2 := h2.bw (sml1 s) (i := s) (k := 5 + (3 * g + a)) hs (by rw [B1.dk, if_pos rfl]; omega) hk (hrow.len s hs)
    have hb3 : bad 3 = false := by
      cases hc : bad 3 with
      | false => rfl
      | true => have := (hb 3 (by omega)).1 hc; omega
    rw [B1.dk, if_pos rfl, hb3] at hb2
    have e0 : bwE (B1 s) (rfG (B1 s) R 3 g q s a).2 s ((5 + (3 * g + a) : Nat) : Int) (C s (5 + (3 * g + a))) = 0 := hb2.1
    refine ⟨by rw [if_pos e0], hb2.2.other (fun i k _ _ _ => ?_) (fun i k hi hk2 => ?_)⟩
    · show rfC C s g (a + 1) i k = setC (rfC C s g a) 3 (5 + (3 * g + a)) (C s (5 + (3 * g + a))) i k
      unfold setC rfC
      by_cases e : i = 3 ∧ k = 5 + (3 * g + a)
      · rw [if_pos e, if_pos ⟨e.1, by omega, by omega⟩, e.2]
      · rw [if_neg e]
        by_cases e2 : i = 3 ∧ 5 + 3 * g ≤ k ∧ k < 5 + 3 * g + a
        · rw [if_pos e2, if_pos ⟨e2.1, e2.2.1, by omega⟩]
        · rw [if_neg e2, if_neg]
          rintro ⟨x1, x2, x3⟩
          rcases (by omega : k < 5 + 3 * g + a ∨ k = 5 + (3 * g + a)) with y | y
          · exact e2 ⟨x1, x2, y⟩
          · exact e ⟨x1, y⟩
    · unfold rfC
      split
      · exact h.len s k (by omega) hk2
      · exact h.len i k hi hk2
end

end Go.Proofs.YtciddoeeiamndaaGreat

/-
  A rack whose power goes behind so many calls; for StripeTorn.
-/
namespace Go.Proofs.YtciddoeeiamndaaGreat
open Go.RowKit Go.Maps
set_option linter.unusedVariables false

/-- Its power goes at the m-th call from now (or is off); C1 lasts, P is cached. -/
structure Am (off : Bool) (R : Rk) (m : Int) (C1 : Nat → Nat → List Int) (P : Nat → Nat → Option (List Int)) : Prop where
  hn : R.n = 4
  hS : R.S = 41
  off : R.off = off
  cnt : R.cnt = m
  dk : ∀ i, i < 4 → (R.d i).bad = false ∧ (R.d i).cnt = -1
  last : ∀ i k, i < 4 → k < 41 → sec (R.d i).last k = C1 i k
  cache : ∀ i k, i < 4 → k < 41 → (R.d i).cache k = P i k
/-- One sector more is cached. -/
def putP (P : Nat → Nat → Option (List Int)) (i k : Nat) (zs : List Int) : Nat → Nat → Option (List Int) := fun j t => if j = i ∧ t = k then some zs else P j t
section
variable {o : Bool} {R : Rk} {m : Int} {C1 : Nat → Nat → List Int} {P : Nat → Nat → Option (List Int)}
theorem Am.congr (h : Am o R m C1 P) {P' : Nat → Nat → Option (List Int)} (e : ∀ i k, i < 4 → k < 41 → P i k = P' i k) {m' : Int} (em : m = m') : Am o R m' C1 P' :=
  ⟨h.hn, h.hS, h.off, em ▸ h.cnt, h.dk, h.last, fun i k hi hk => (h.cache i k hi hk).trans (e i k hi hk)⟩
theorem Am.hasB (h : Am o R m C1 P) {i k : Nat} (hi : i < 4) (hk : k < 41) : hasB R.n R.S i k = true := hasB_yes (by omega) (by rw [h.hn]; omega) (by omega) (by rw [h.hS]; omega)
theorem Am.dead (h : Am false R 0 C1 P) {i k : Nat} (hi : i < 4) (hk : k < 41) {zs : List Int} (hz : zs.length = 64) : R.wrE i k zs = 12 ∧ Am true (R.wr i k zs) 0 C1 P := by
  have hE : R.callE i = 12 := by unfold Rk.callE; rw [if_pos h.cnt]
  have hc : R.call = { R with off := true } := by unfold Rk.call; rw [if_pos h.cnt]
  constructor
  · unfold Rk.wrE
    rw [if_neg (by rw [h.off]; simp), h.hasB hi hk, decide_eq_true hz, Int.toNat_natCast, hE]
    rfl
  · unfold Rk.wr
    rw [h.off, h.hasB hi hk, decide_eq_true hz, Int.toNat_natCast, Int.toNat_natCast, hE]
    rw [if_pos (show (!false && (true && true)) = true from rfl), if_neg (by omega), hc]
    exact ⟨h.hn, h.hS, rfl, h.cnt, h.dk, h.last, h.cache⟩
theorem Am.wr {m : Nat} (h : Am false R ((m + 1 : Nat) : Int) C1 P) {i k : Nat} (hi : i < 4) (hk : k < 41) {zs : List Int} (hz : zs.length = 64) : R.wrE i k zs = 0 ∧ Am false (R.wr i k zs) (m : Int) C1 (putP P i k zs) := by
  have hcn := h.cnt
  have hcd : ∀ j, j < 4 → (R.d j).called = R.d j := fun j hj => dk_called (h.dk j hj).1 (h.dk j hj).2
  have hE : R.callE i = 0 := by
    unfold Rk.callE
    rw [if_neg (by rw [hcn]; omega), hcd i hi, if_neg (by rw [(h.dk i hi).1]; simp)]
  have hc : R.call = { R with cnt := (m : Int), d := fun j => (R.d j).called } := by
    unfold Rk.call
    rw [if_neg (by rw [hcn]; omega), if_pos (by rw [hcn]; omega), hcn]
    congr 1
    omega
  constructor
  · unfold Rk.wrE
    rw [if_neg (by rw [h.off]; simp), h.hasB hi hk, decide_eq_true hz, Int.toNat_natCast, hE]
    rfl
  · unfold Rk.wr
    rw [h.off, h.hasB hi hk, decide_eq_true hz, Int.toNat_natCast, Int.toNat_natCast, hE]
    rw [if_pos (show (!false && (true && true)) = true from rfl), if_pos rfl, hc]
    have hd : ∀ j, j < 4 → (if j = i then ((R.d i).called).put k zs else (R.d j).called) = if j = i then (R.d i).put k zs else R.d j := fun j hj => by rw [hcd i hi, hcd j hj]
    refine ⟨h.hn, h.hS, h.off, rfl, fun j hj => ?_, fun j t hj ht => ?_, fun j t hj ht => ?_⟩
    · show (if j = i then ((R.d i).called).put k zs else (R.d j).called).bad = false ∧ (if j = i then ((R.d i).called).put k zs else (R.d j).called).cnt = -1
      rw [hd j hj]
      split
      · exact h.dk i hi
      · exact h.dk j hj
    · show sec (if j = i then ((R.d i).called).put k zs else (R.d j).called).last t = _
      rw [hd j hj]
      split
      · rename_i e
        rw [e]
        exact h.last i t hi ht
      · exact h.last j t hj ht
    · show (if j = i then ((R.d i).called).put k zs else (R.d j).called).cache t = putP P i k zs j t
      rw [hd j hj]
      unfold putP
      by_cases e : j = i
      · subst e
        rw [if_pos rfl]
        show (if t = k then some zs else (R.d j).cache t) = _
        by_cases e2 : t = k
        · rw [if_pos e2, if_pos ⟨rfl, e2⟩]
        · rw [if_neg e2, if_neg (fun x => e2 x.2)]; exact h.cache j t hj ht
      · rw [if_neg e, if_neg (fun x => e x.1)]; exact h.cache j t hj ht
end
/-- What is cached of segment 1 behind the first t sectors of a writing. -/
def tP (fb : Nat → BlP) (nb t : Nat) : Nat → Nat → Option (List Int) := fun i k => if i < 3 ∧ 8 ≤ k ∧ k < 11 ∧ 3 * (k - 8) + plc (k - 5) i < t then some (rowE 6 fb nb 2 (k - 8) (plc (k - 5) i)) else none
section
variable {R : Rk} {C1 : Nat → Nat → List Int} {fb : Nat → BlP} {nb : Nat}
theorem tP_put {a c : Nat} (ha : a < 3) (hc : c < 3) (i k : Nat) : putP (tP fb nb (3 * a + c)) (slt (3 + a) c) (8 + a) (rowE 6 fb nb 2 a c) i k = tP fb nb (3 * a + c + 1) i k := by
  have hlt := slt_lt (3 + a) c
  have hp := plc_slt (Q := 3 + a) hc
  unfold putP tP
  by_cases e : i = slt (3 + a) c ∧ k = 8 + a
  · obtain ⟨rfl, rfl⟩ := e
    rw [if_pos ⟨rfl, rfl⟩, show 8 + a - 5 = 3 + a by omega, hp, show 8 + a - 8 = a by omega, if_pos ⟨hlt, by omega, by omega, by omega⟩]
  · rw [if_neg e]
    by_cases e2 : i < 3 ∧ 8 ≤ k ∧ k < 11 ∧ 3 * (k - 8) + plc (k - 5) i < 3 * a + c
    · rw [if_pos e2, if_pos ⟨e2.1, e2.2.1, e2.2.2.1, by omega⟩]
    · rw [if_neg e2, if_neg]
      rintro ⟨x1, x2, x3, x4⟩
      have hpl := plc_lt (k - 5) i
      have h5 : ¬ 3 * (k - 8) + plc (k - 5) i < 3 * a + c := fun y => e2 ⟨x1, x2, x3, y⟩
      have hk : k = 8 + a := by omega
      have hc2 : plc (k - 5) i = c := by omega
      refine e ⟨?_, hk⟩
      have := slt_plc (Q := 3 + a) x1
      rw [hk, show 8 + a - 5 = 3 + a by omega] at hc2
      rw [hc2] at this
      exact this.symm
theorem Am.row {m a : Nat} (h : Am false R (m : Int) C1 (tP fb nb (3 * a))) (ha : a < 3) (hr : Rw3 (rowE 6 fb nb 2 a) 6) :
    ∀ c, c ≤ 3 → (c ≤ m → (wrC B0 (rowD 3 ((3 + a : Nat) : Int)) ((8 + a : Nat) : Int) (rowE 6 fb nb 2 a) R c).1 = false ∧ Am false (wrC B0 (rowD 3 ((3 + a : Nat) : Int)) ((8 + a : Nat) : Int) (rowE 6 fb nb 2 a) R c).2 ((m - c : Nat) : Int) C1 (tP fb nb (3 * a + c))) ∧
      (m < c → (wrC B0 (rowD 3 ((3 + a : Nat) : Int)) ((8 + a : Nat) : Int) (rowE 6 fb nb 2 a) R c).1 = true ∧ Am true (wrC B0 (rowD 3 ((3 + a : Nat) : Int)) ((8 + a : Nat) : Int) (rowE 6 fb nb 2 a) R c).2 0 C1 (tP fb nb (3 * a + m))) := by
  intro c
  induction c with
  | zero => intro _; exact ⟨fun _ => ⟨rfl, h⟩, fun x => by omega⟩
  | succ c ih =>
    intro hc
    obtain ⟨h1, h2⟩ := ih (by omega)
    have hlt := slt_lt (3 + a) c
    rcases Nat.lt_or_ge m c with hmc | hmc
    · obtain ⟨g1, g2⟩ := h2 hmc
      rw [wrC_end (n := c + 1) (by omega) g1]
      exact ⟨fun x => by omega, fun _ => ⟨g1, g2⟩⟩
    · obtain ⟨g1, g2⟩ := h1 hmc
      rw [wrC_go g1, rowD_slt]
      have hb := bw_at (B := B0) (m := 3) rfl hlt (wrC B0 (rowD 3 ((3 + a : Nat) : Int)) ((8 + a : Nat) : Int) (rowE 6 fb nb 2 a) R c).2 ((8 + a : Nat) : Int) (rowE 6 fb nb 2 a c)
      rw [Bn.dk0 rfl] at hb
      rw [hb.1, hb.2]
      rcases Nat.lt_or_ge c m with hm | hm
      · obtain ⟨u, hu⟩ : ∃ u, m - c = u + 1 := ⟨m - c - 1, by omega⟩
        rw [hu] at g2
        obtain ⟨k1, k2⟩ := g2.wr (i := slt (3 + a) c) (k := 8 + a) (by omega) (by omega) (hr.len c (by omega))
        rw [k1]
        have hcc : c < 3 := by omega
        have hmm : ((u : Nat) : Int) = ((m - (c + 1) : Nat) : Int) := by omega
        exact ⟨fun _ => ⟨decide_eq_false (show ¬ (0 : Int) = 12 by decide), k2.congr (fun i k _ _ => tP_put ha hcc i k) hmm⟩, fun x => by omega⟩
      · obtain rfl : m = c := by omega
        rw [Nat.sub_self] at g2
        obtain ⟨k1, k2⟩ := Am.dead g2 (i := slt (3 + a) m) (k := 8 + a) (by omega) (by omega) (hr.len m (by omega))
        rw [k1]
        exact ⟨fun x => by omega, fun _ => ⟨show decide ((12 : Int) = 12) = true from rfl, k2⟩⟩
theorem Am.rows {m : Nat} (h : Am false R (m : Int) C1 (tP fb nb 0)) (hr : ∀ a, a < 3 → Rw3 (rowE 6 fb nb 2 a) 6) :
    ∀ a, a ≤ 3 → (3 * a ≤ m → (wrG B0 3 1 6 fb nb R a).1 = false ∧ Am false (wrG B0 3 1 6 fb nb R a).2 ((m - 3 * a : Nat) : Int) C1 (tP fb nb (3 * a))) ∧
      (m < 3 * a → (wrG B0 3 1 6 fb nb R a).1 = true ∧ Am true (wrG B0 3 1 6 fb nb R a).2 0 C1 (tP fb nb m)) := by
  intro a
  induction a with
  | zero => intro _; exact ⟨fun _ => ⟨rfl, h⟩, fun x => by omega⟩
  | succ a ih =>
    intro ha
    obtain ⟨h1, h2⟩ := ih (by omega)
    rcases Nat.lt_or_ge m (3 * a) with hm | hm
    · obtain ⟨g1, g2⟩ := h2 hm
      rw [wrG_end (m := a + 1) (by omega) g1]
      exact ⟨fun x => by omega, fun _ => ⟨g1, g2⟩⟩
    · obtain ⟨g1, g2⟩ := h1 hm
      have e1 : (5 : Int) + ((1 : Int) * B0.r + (a : Int)) = ((8 + a : Nat) : Int) := by show (5 : Int) + (1 * 3 + (a : Int)) = _; omega
      have e2 : ((1 : Int) * B0.r + (a : Int)) = ((3 + a : Nat) : Int) := by show (1 : Int) * 3 + (a : Int) = _; omega
      rw [wrG_go g1, e1, e2]
      obtain ⟨k1, k2⟩ := g2.row (by omega) (hr a (by omega)) 3 (Nat.le_refl _)
      refine ⟨fun x => ?_, fun x => ?_⟩
      · obtain ⟨j1, j2⟩ := k1 (by omega)
        exact ⟨j1, j2.congr (fun _ _ _ _ => by rw [show 3 * a + 3 = 3 * (a + 1) by omega]) (by omega)⟩
      · obtain ⟨j1, j2⟩ := k2 (by omega)
        exact ⟨j1, j2.congr (fun _ _ _ _ => by rw [show 3 * a + (m - 3 * a) = m by omega]) rfl⟩
end

section
variable {o : Bool} {R : Rk} {m : Int} {C1 : Nat → Nat → List Int} {fb : Nat → BlP} {nb t : Nat}
/-- Behind Restore each sector is what lasted or what was written. -/
theorem Am.restore (h : Am o R m C1 (tP fb nb t)) (hl : ∀ i k, i < 4 → k < 41 → (C1 i k).length = 64) (hr : ∀ a, a < 3 → Rw3 (rowE 6 fb nb 2 a) 6) (ks : List Int) :
    ∃ X : Nat → Nat → List Int, Vd (R.restore ks) 4 41 noD noD X ∧ (∀ i k, i < 4 → k < 41 → sec ((R.restore ks).d i).last k = X i k) ∧ (∀ i k, i < 4 → k < 41 → X i k = C1 i k ∨ (i < 3 ∧ 8 ≤ k ∧ k < 11 ∧ X i k = rowE 6 fb nb 2 (k - 8) (plc (k - 5) i))) := by
  have hX : ∀ i k, i < 4 → k < 41 → (R.d i).rest ks (R.num i) k = C1 i k ∨ (i < 3 ∧ 8 ≤ k ∧ k < 11 ∧ (R.d i).rest ks (R.num i) k = rowE 6 fb nb 2 (k - 8) (plc (k - 5) i)) := fun i k hi hk => by
    unfold Dk.rest
    have hc := h.cache i k hi hk
    by_cases hs : (R.d i).stays ks (R.num i) k = true
    · rw [if_pos hs]
      unfold Dk.read
      rw [hc]
      unfold tP
      by_cases e : i < 3 ∧ 8 ≤ k ∧ k < 11 ∧ 3 * (k - 8) + plc (k - 5) i < t
      · rw [if_pos e]
        exact .inr ⟨e.1, e.2.1, e.2.2.1, rfl⟩
      · rw [if_neg e]
        exact .inl (h.last i k hi hk)
    · rw [if_neg hs]
      exact .inl (h.last i k hi hk)
  have hL : ∀ i k, i < 4 → k < 41 → ((R.d i).rest ks (R.num i) k).length = 64 := fun i k hi hk => by
    rcases hX i k hi hk with e | ⟨e1, e2, e3, e⟩
    · rw [e]; exact hl i k hi hk
    · rw [e]; exact (hr _ (by omega)).len _ (plc_lt _ _)
  have hS : ∀ i k, i < 4 → k < 41 → sec ((R.restore ks).d i).last k = (R.d i).rest ks (R.num i) k := fun i k hi hk => by
    show sec (joinS R.S ((R.d i).rest ks (R.num i))) k = _
    rw [h.hS]
    exact sec_join (fun s hs => hL i s hi hs) hk
  exact ⟨fun i k => (R.d i).rest ks (R.num i) k, ⟨h.hn, h.hS, rfl, rfl, fun i hi => ⟨(h.dk i hi).1, fun _ => (h.dk i hi).2⟩, fun i k hi hk _ => hS i k hi hk, fun i k hi hk => hL i k hi hk⟩, hS, hX⟩
end
section
variable {B : Bn} {R : Rk} {X : Nat → Nat → List Int} {g a : Nat}
/-- A segment that is whole has one Seq. -/
theorem Vw.mixRow (h : Vw B R noD noD X) (hg : g < 12) (ha : a < 3) {u v : Int} (he : whC B R (badL B R 3) (rowD 3 ((g : Int) * B.r + (a : Int))) (5 + ((g : Int) * B.r + (a : Int))) u 3 = some v) : (∀ s, s < 3 → decN (X s (5 + (3 * g + a))) 0 4 = v) ∧ (u = 0 ∨ u = v) ∧ v ≠ 0 := by
  rw [h.at, h.at2] at he
  have hS : ∀ c u v, whS B R (badL B R 3) ((5 + (3 * g + a) : Nat) : Int) (rowD 3 ((3 * g + a : Nat) : Int) c) u = some v → decN (X (slt (3 * g + a) c) (5 + (3 * g + a))) 0 4 = v ∧ (u = 0 ∨ u = v) ∧ v ≠ 0 := fun c u v hw => by
    have hlt := slt_lt (3 * g + a) c
    rw [rowD_slt] at hw
    unfold whS at hw
    rw [if_neg (fun x => by have := (h.bad.1 _ hlt).1 x; cases this), h.ld hlt (by omega), if_neg (by simp), (h.yes _ _ hlt (by omega) rfl).2] at hw
    by_cases e : decN (X (slt (3 * g + a) c) (5 + (3 * g + a))) 0 4 = 0 ∨ (u ≠ 0 ∧ decN (X (slt (3 * g + a) c) (5 + (3 * g + a))) 0 4 ≠ u)
    · rw [if_pos e] at hw; cases hw
    · rw [if_neg e] at hw
      cases hw
      refine ⟨rfl, ?_, fun x => e (.inl x)⟩
      by_cases e0 : u = 0
      · exact .inl e0
      · refine .inr ?_
        by_cases e1 : decN (X (slt (3 * g + a) c) (5 + (3 * g + a))) 0 4 = u
        · exact e1.symm
        · exact absurd (.inr ⟨e0, e1⟩) e
  have e3 : whC B R (badL B R 3) (rowD 3 ((3 * g + a : Nat) : Int)) ((5 + (3 * g + a) : Nat) : Int) u 3 = ((((some u).bind (whS B R (badL B R 3) ((5 + (3 * g + a) : Nat) : Int) (rowD 3 ((3 * g + a : Nat) : Int) 0))).bind (whS B R (badL B R 3) ((5 + (3 * g + a) : Nat) : Int) (rowD 3 ((3 * g + a : Nat) : Int) 1))).bind (whS B R (badL B R 3) ((5 + (3 * g + a) : Nat) : Int) (rowD 3 ((3 * g + a : Nat) : Int) 2))) := rfl
  rw [e3, Option.bind_some] at he
  obtain ⟨u2, k2, k3⟩ := Option.bind_eq_some_iff.1 he
  obtain ⟨u1, k1, k2⟩ := Option.bind_eq_some_iff.1 k2
  obtain ⟨a1, a2, a3⟩ := hS 0 _ _ k1
  obtain ⟨b1, b2, b3⟩ := hS 1 _ _ k2
  obtain ⟨c1, c2, c3⟩ := hS 2 _ _ k3
  have h12 : u1 = u2 := b2.resolve_left a3
  have h23 : u2 = v := c2.resolve_left b3
  subst h12 h23
  refine ⟨fun s hs => ?_, a2, a3⟩
  have hp := slt_plc (Q := 3 * g + a) hs
  rw [← hp]
  have hlt := plc_lt (3 * g + a) s
  rcases (by omega : plc (3 * g + a) s = 0 ∨ plc (3 * g + a) s = 1 ∨ plc (3 * g + a) s = 2) with e | e | e
  · rw [e]; exact a1
  · rw [e]; exact b1
  · rw [e]; exact c1
theorem Vw.mix (h : Vw B R noD noD X) (hg : g < 12) {v : Int} (he : whR B R 3 3 g = some v) : ∀ a s, a < 3 → s < 3 → decN (X s (5 + (3 * g + a))) 0 4 = v := by
  unfold whR at he
  rw [h.chk (h.seg hg), if_pos rfl, h.two, if_neg (by simp; decide)] at he
  have e : whG B R 3 g 3 = ((((some 0).bind fun u => whC B R (badL B R 3) (rowD 3 ((g : Int) * B.r + ((0 : Nat) : Int))) (5 + ((g : Int) * B.r + ((0 : Nat) : Int))) u 3).bind fun u => whC B R (badL B R 3) (rowD 3 ((g : Int) * B.r + ((1 : Nat) : Int))) (5 + ((g : Int) * B.r + ((1 : Nat) : Int))) u 3).bind fun u => whC B R (badL B R 3) (rowD 3 ((g : Int) * B.r + ((2 : Nat) : Int))) (5 + ((g : Int) * B.r + ((2 : Nat) : Int))) u 3) := rfl
  rw [e, Option.bind_some] at he
  obtain ⟨u2, k2, k3⟩ := Option.bind_eq_some_iff.1 he
  obtain ⟨u1, k1, k2⟩ := Option.bind_eq_some_iff.1 k2
  obtain ⟨a1, a2, a3⟩ := h.mixRow hg (by omega) k1
  obtain ⟨b1, b2, b3⟩ := h.mixRow hg (by omega) k2
  obtain ⟨c1, c2, c3⟩ := h.mixRow hg (by omega) k3
  have h12 : u1 = u2 := b2.resolve_left a3
  have h23 : u2 = v := c2.resolve_left b3
  subst h12 h23
  intro a s ha hs
  rcases (by omega : a = 0 ∨ a = 1 ∨ a = 2) with rfl | rfl | rfl
  · exact a1 s hs
  · exact b1 s hs
  · exact c1 s hs
end

end Go.Proofs.YtciddoeeiamndaaGreat

/-
  StripeTorn, walked.
-/
namespace Go.Proofs.YtciddoeeiamndaaGreat
open Go.RowKit Go.Maps
set_option linter.unusedVariables false

section
variable {w0 w : World} {M : Nat → Prop} {L : Lay} {b : Nat} {R : Rk} {B : Bn}
theorem st_last {i k : Nat} (h : St w0 M L b R B w) (hi : i < R.n) (hk : k < R.S) : Calls Tryz.prog 21 #[.pointer (some ⟨L.p, 0, none⟩), .int .i64 i, .int .i64 k] w fun e w' => ∃ a n c, e = .returned (.tuple #[.slice a n c, .int .i64 0]) ∧ Bys w' a n (sec (R.d i).last k) ∧ St w0 M L b R B w' ∧ Below w.heap.size w w' :=
  (lasting_ok M L R w i k h.rk hi hk).mono fun _ _ hp => by
    obtain ⟨a, c, e, hy, _, hb⟩ := hp
    exact ⟨a, _, c, e, hy, h.next hb, hb⟩
theorem st_arm (m : Int) (h : St w0 M L b R B w) (hm : m ≤ 9223372036854775807) : Calls Tryz.prog 19 #[.pointer (some ⟨L.p, 0, none⟩), .int .i64 m] w (StPost w0 M L b { R with cnt := m } B w (.tuple #[])) :=
  (arm_rack M L R w m h.rk hm).mono fun _ _ => h.post (R' := { R with cnt := m }) rfl
end
section
variable {R : Rk} {C : Nat → Nat → List Int}
theorem Vd.flush_none (h : Vd R 4 41 noD noD C) : ∀ i, i ≤ 4 → ∀ j k, j < i → ((flG B0 R i).2.2.d j).cache k = none := by
  intro i
  induction i with
  | zero => intro _ j k hj; omega
  | succ i ih =>
    intro hi j k hj
    obtain ⟨h1, h2, h3⟩ := h.flush (B := B0) (m := 3) rfl rfl i (by show i ≤ 4; omega)
    have hv : Vd (flG B0 R i).2.2 4 41 noD noD C := by
      rcases h3 with ⟨_, e⟩ | ⟨_, hv⟩
      · rw [e]; exact h
      · exact hv.congr (fun _ _ => rfl) (fun _ _ _ => rfl)
    have hE : (flG B0 R i).2.2.flE (B0.disk (i : Int)) ≠ 12 := by
      rw [B0.dsk, (hv.fl (i := i) (by omega)).1]
      split <;> omega
    rw [flG_go h1 hE, B0.dsk]
    have h0 : 0 ≤ (i : Int) ∧ (i : Int) < (flG B0 R i).2.2.n := ⟨by omega, by rw [hv.hn]; omega⟩
    have hcE : (flG B0 R i).2.2.callE i = 0 := hv.callE (by omega)
    unfold Rk.fl
    rw [if_pos ⟨hv.off, h0⟩, Int.toNat_natCast, if_pos hcE, hv.hS]
    show (if j = i then ((flG B0 R i).2.2.call.d i).flush 41 else (flG B0 R i).2.2.call.d j).cache k = none
    by_cases e : j = i
    · rw [if_pos e]; rfl
    · rw [if_neg e]
      have : ((flG B0 R i).2.2.call.d j).cache = ((flG B0 R i).2.2.d j).cache := by unfold Rk.call; split <;> rfl
      rw [this]
      exact ih (by omega) j k (by omega)
theorem two_good {B : Bn} (h : ∀ i : Nat, i < 3 → badP B R (i : Int) = false) : twoB B R 3 = false := by
  have e : badL B R 3 = [] := by
    rw [badL, badL, badL, h 0 (by omega), h 1 (by omega), h 2 (by omega)]
    rfl
  unfold twoB
  rw [e]
  rfl
theorem Am.two {o : Bool} {m : Int} {P : Nat → Nat → Option (List Int)} (h : Am o R m C P) : twoB B0 R 3 = false := two_good fun i hi => by
  unfold badP Rk.failed
  rw [B0.dsk, Int.toNat_natCast, (h.dk i (by omega)).1, Bool.and_false, Bool.or_false]
  exact decide_eq_false (fun x => by have := x.1; cases this)
theorem byt_four {x : List Int} {q : Int} (h : x.take 4 = digs 4 q) : byt x 0 = q % 256 := by
  rw [← byt_take (n := 4) (show 0 < 4 by omega), h]
  rfl
end
/-- How many of the first j sectors are the second writing's. -/
def cntF (X : Nat → Nat → List Int) : Nat → Nat
  | 0 => 0
  | j + 1 => cntF X j + if byt (X (j / 3) (8 + j % 3)) 0 = 6 then 1 else 0
theorem cntF_le (X : Nat → Nat → List Int) (j : Nat) : cntF X j ≤ j := by
  induction j with
  | zero => exact Nat.le_refl _
  | succ j ih => rw [cntF]; split <;> omega
theorem cntF_all {X : Nat → Nat → List Int} {n : Nat} (h : cntF X n = n) {j : Nat} (hj : j < n) : byt (X (j / 3) (8 + j % 3)) 0 = 6 := by
  induction n with
  | zero => omega
  | succ n ih =>
    have := cntF_le X n
    rw [cntF] at h
    by_cases e : byt (X (n / 3) (8 + n % 3)) 0 = 6
    · rw [if_pos e] at h
      rcases Nat.lt_or_ge j n with h1 | h1
      · exact ih (by omega) h1
      · obtain rfl : j = n := by omega
        exact e
    · rw [if_neg e] at h; omega
theorem cntF_none {X : Nat → Nat → List Int} {n : Nat} (h : cntF X n = 0) {j : Nat} (hj : j < n) : byt (X (j / 3) (8 + j % 3)) 0 ≠ 6 := by
  induction n with
  | zero => omega
  | succ n ih =>
    rw [cntF] at h
    by_cases e : byt (X (n / 3) (8 + n % 3)) 0 = 6
    · rw [if_pos e] at h; omega
    · rw [if_neg e] at h
      rcases Nat.lt_or_ge j n with h1 | h1
      · exact ih (by omega) h1
      · obtain rfl : j = n := by omega
        exact e
/-- What Whole tells of a torn segment. -/
theorem torn_whole {R : Rk} {X C1 : Nat → Nat → List Int} {fb : Nat → BlP} {nb : Nat} (h : Vd R 4 41 noD noD X) (h1 : Whl C1 1 5) (h2 : ∀ a, a < 3 → Rw3 (rowE 6 fb nb 2 a) 6) (hX : ∀ i k, i < 4 → k < 41 → X i k = C1 i k ∨ (i < 3 ∧ 8 ≤ k ∧ k < 11 ∧ X i k = rowE 6 fb nb 2 (k - 8) (plc (k - 5) i))) :
    (∀ d s, d < 3 → s < 3 → byt (X d (8 + s)) 0 = 5 ∨ byt (X d (8 + s)) 0 = 6) ∧ whR B0 R 3 3 1 = if cntF X 9 = 9 then some 6 else if cntF X 9 = 0 then some 5 else none := by
  have hv := h.vw0
  have hc1 : ∀ d s, d < 3 → s < 3 → byt (C1 d (8 + s)) 0 = 5 := fun d s hd hs => by
    have := byt_four ((h1 s hs).t4 d hd)
    rw [show 5 + (3 * 1 + s) = 8 + s by omega] at this
    exact this
  have hc2 : ∀ a c, a < 3 → c < 3 → byt (rowE 6 fb nb 2 a c) 0 = 6 := fun a c ha hc => byt_four ((h2 a ha).t4 c hc)
  have hby : ∀ d s, d < 3 → s < 3 → byt (X d (8 + s)) 0 = 5 ∧ X d (8 + s) = C1 d (8 + s) ∨ byt (X d (8 + s)) 0 = 6 ∧ X d (8 + s) = rowE 6 fb nb 2 s (plc (3 + s) d) := fun d s hd hs => by
    rcases hX d (8 + s) (by omega) (by omega) with e | ⟨_, _, _, e⟩
    · exact .inl ⟨by rw [e]; exact hc1 d s hd hs, e⟩
    · rw [show 8 + s - 8 = s by omega, show 8 + s - 5 = 3 + s by omega] at e
      exact .inr ⟨by rw [e]; exact hc2 _ _ hs (plc_lt _ _), e⟩
  refine ⟨fun d s hd hs => (hby d s hd hs).imp And.left And.left, ?_⟩
  have hidx : ∀ d s, d < 3 → s < 3 → (3 * d + s) / 3 = d ∧ (3 * d + s) % 3 = s ∧ 3 * d + s < 9 := fun d s hd hs => by omega
  have mk : ∀ (q : Int) (Y : Nat → Nat → List Int), (∀ a, a < 3 → Rw3 (fun s => Y s (5 + (3 * 1 + a))) q) → (∀ d s, d < 3 → s < 3 → X d (8 + s) = Y d (8 + s)) → Whl X 1 q := fun q Y hY e a ha => by
    have h0 := hY a ha
    have e8 : 5 + (3 * 1 + a) = 8 + a := by omega
    rw [e8] at h0 ⊢
    exact ⟨fun i hi => by rw [e i a hi ha]; exact h0.len i hi, fun i hi => by rw [e i a hi ha]; exact h0.sm i hi, fun i hi => by rw [e i a hi ha]; exact h0.t4 i hi, h0.q0, h0.q1, fun t ht => by
      rw [e 0 a (by omega) ha, e 1 a (by omega) ha, e 2 a (by omega) ha]; exact h0.tot t ht⟩
  by_cases c9 : cntF X 9 = 9
  · rw [if_pos c9]
    refine hv.whole (g := 1) (q := 6) (by omega) (mk 6 (fun i k => rowE 6 fb nb 2 (k - 8) (plc (k - 5) i)) (fun a ha => ?_) (fun d s hd hs => ?_)) (by omega) (fun _ _ x => x) (by decide)
    · have := (h2 a ha).turned (3 + a)
      rw [show 5 + (3 * 1 + a) = 8 + a by omega, show 8 + a - 8 = a by omega, show 8 + a - 5 = 3 + a by omega]
      exact this
    · obtain ⟨i1, i2, i3⟩ := hidx d s hd hs
      have h6 := cntF_all c9 i3
      rw [i1, i2] at h6
      rcases hby d s hd hs with ⟨e, _⟩ | ⟨_, e⟩
      · omega
      · rw [e, show 8 + s - 8 = s by omega, show 8 + s - 5 = 3 + s by omega]
  · rw [if_neg c9]
    by_cases c0 : cntF X 9 = 0
    · rw [if_pos c0]
      refine hv.whole (g := 1) (q := 5) (by omega) (mk 5 C1 h1 (fun d s hd hs => ?_)) (by omega) (fun _ _ x => x) (by decide)
      obtain ⟨i1, i2, i3⟩ := hidx d s hd hs
      have h6 := cntF_none c0 i3
      rw [i1, i2] at h6
      rcases hby d s hd hs with ⟨_, e⟩ | ⟨e, _⟩
      · exact e
      · exact absurd e h6
    · rw [if_neg c0]
      cases hw : whR B0 R 3 3 1 with
      | none => rfl
      | some v =>
        have hm := hv.mix (g := 1) (by omega) hw
        have hd : ∀ d s, d < 3 → s < 3 → (byt (X d (8 + s)) 0 = 6 ↔ v = 6) := fun d s hd hs => by
          have h0 := hm s d hs hd
          rw [show 5 + (3 * 1 + s) = 8 + s by omega] at h0
          rcases hby d s hd hs with ⟨e, e2⟩ | ⟨e, e2⟩
          · have := (h1 s hs).seq hd
            rw [show 5 + (3 * 1 + s) = 8 + s by omega] at this
            rw [e2, this] at h0
            omega
          · rw [e2, (h2 s hs).seq (plc_lt _ _)] at h0
            omega
        have hj : ∀ j, j < 9 → (byt (X (j / 3) (8 + j % 3)) 0 = 6 ↔ v = 6) := fun j hj => hd _ _ (by omega) (by omega)
        by_cases h6 : v = 6
        · have : ∀ n, n ≤ 9 → cntF X n = n := fun n => by
            induction n with
            | zero => intro _; rfl
            | succ n ih => intro hn; rw [cntF, ih (by omega), if_pos ((hj n (by omega)).2 h6)]
          exact absurd (this 9 (Nat.le_refl _)) c9
        · have : ∀ n, n ≤ 9 → cntF X n = 0 := fun n => by
            induction n with
            | zero => intro _; rfl
            | succ n ih => intro hn; rw [cntF, ih (by omega), if_neg (fun x => h6 ((hj n (by omega)).1 x))]
          exact absurd (this 9 (Nat.le_refl _)) c0

end Go.Proofs.YtciddoeeiamndaaGreat

/-
  StripeTorn, walked.
-/
namespace Go.Proofs.YtciddoeeiamndaaGreat
open Go.RowKit Go.Maps
set_option linter.unusedVariables false

section
variable (a : Option Addr) (n c : Nat) (f : Nat → BlP) (a2 : Option Addr) (n2 c2 : Nat) (f2 : Nat → BlP) (m : Int) (ak : Option Addr) (nk ck : Nat) (w : World)
set_option maxRecDepth 100000 in
set_option maxHeartbeats 1000000 in
theorem torn_out (hbl : Bls w a n f) (hn : n ≤ 9223372036854775807) (hbl2 : Bls w a2 n2 f2) (hn2 : n2 ≤ 9223372036854775807) (h : ¬ (fitO f n 6 = true ∧ fitO f2 n2 6 = true ∧ nk ≤ 100 ∧ 0 ≤ m)) :
    Calls Tryz.prog 4 #[.slice a n c, .slice a2 n2 c2, .int .i64 m, .slice ak nk ck] w fun e w' => e = .returned (.bool true) ∧ Below w.heap.size w w' := by
  have HAL := Lib.hid (alive_any w)
  have HFT1 : Hid (∀ w', Below w.heap.size w w' → Calls Tryz.prog 16 #[.slice a n c, .int .i64 6] w' fun e w'' => e = .returned (.bool (fitO f n 6)) ∧ Below w'.heap.size w' w'') := fun w' hb => fits_any a n c 6 f w' (hbl.next hb) hn
  have HFT2 : Hid (∀ w', Below w.heap.size w w' → Calls Tryz.prog 16 #[.slice a2 n2 c2, .int .i64 6] w' fun e w'' => e = .returned (.bool (fitO f2 n2 6)) ∧ Below w'.heap.size w' w'') := fun w' hb => fits_any a2 n2 c2 6 f2 w' (hbl2.next hb) hn2
  clear hbl hbl2
  cases hf1 : fitO f n 6 with
  | false =>
    rw [hf1] at HFT1
    clear h hf1
    go_enter Tryz.func4, Tryz.ntmps4
    go_wp2_with (fail)
    refine HAL.out.mono ?_
    rintro e w1 ⟨rfl, hb1⟩
    go_wp2_with (fail)
    refine (HFT1.out w1 hb1).mono ?_
    rintro e w2 ⟨rfl, hc2⟩
    have hb2 := hb1.trans (hc2.mono hb1.size)
    clear hc2
    go_wp2_with (fail)
    go_ret
    exact ⟨rfl, hb2⟩
  | true =>
    rw [hf1] at HFT1
    cases hf2 : fitO f2 n2 6 with
    | false =>
      rw [hf2] at HFT2
      clear h hf2
      go_enter Tryz.func4, Tryz.ntmps4
      go_wp2_with (fail)
      refine HAL.out.mono ?_
      rintro e w1 ⟨rfl, hb1⟩
      go_wp2_with (fail)
      refine (HFT1.out w1 hb1).mono ?_
      rintro e w2 ⟨rfl, hc2⟩
      have hb2 := hb1.trans (hc2.mono hb1.size)
      clear hc2
      go_wp2_with (fail)
      refine (HFT2.out w2 hb2).mono ?_
      rintro e w3 ⟨rfl, hc3⟩
      have hb3 := hb2.trans (hc3.mono hb2.size)
      clear hc3
      go_wp2_with (fail)
      go_ret
      exact ⟨rfl, hb3⟩
    | true =>
      rw [hf2] at HFT2
      by_cases h1 : nk ≤ 100
      · have gh1 : ¬ (100 : Int) < (nk : Int) := by omega
        by_cases h2 : 0 ≤ m
        · exact absurd ⟨hf1, hf2, h1, h2⟩ h
        · have sh2 : m < 0 := by omega
          clear h h1 h2
          go_enter Tryz.func4, Tryz.ntmps4
          go_wp2_with (fail)
          refine HAL.out.mono ?_
          rintro e w1 ⟨rfl, hb1⟩
          go_wp2_with (fail)
          refine (HFT1.out w1 hb1).mono ?_
          rintro e w2 ⟨rfl, hc2⟩
          have hb2 := hb1.trans (hc2.mono hb1.size)
          clear hc2
          go_wp2_with (fail)
          refine (HFT2.out w2 hb2).mono ?_
          rintro e w3 ⟨rfl, hc3⟩
          have hb3 := hb2.trans (hc3.mono hb2.size)
          clear hc3
          go_wp2_with (fail)
          go_ret
          exact ⟨rfl, hb3⟩
      · have sh1 : (100 : Int) < (nk : Int) := by omega
        clear h h1
        go_enter Tryz.func4, Tryz.ntmps4
        go_wp2_with (fail)
        refine HAL.out.mono ?_
        rintro e w1 ⟨rfl, hb1⟩
        go_wp2_with (fail)
        refine (HFT1.out w1 hb1).mono ?_
        rintro e w2 ⟨rfl, hc2⟩
        have hb2 := hb1.trans (hc2.mono hb1.size)
        clear hc2
        go_wp2_with (fail)
        refine (HFT2.out w2 hb2).mono ?_
        rintro e w3 ⟨rfl, hc3⟩
        have hb3 := hb2.trans (hc3.mono hb2.size)
        clear hc3
        go_wp2_with (fail)
        go_ret
        exact ⟨rfl, hb3⟩
end

section
variable (a : Option Addr) (n c : Nat) (f : Nat → BlP) (a2 : Option Addr) (n2 c2 : Nat) (f2 : Nat → BlP) (m : Nat) (ak : Option Addr) (nk ck : Nat) (ks : List Int) (w : World)
set_option maxRecDepth 100000 in
set_option maxHeartbeats 1000000 in
theorem torn_in (hbl : Bls w a n f) (hn : n ≤ 9223372036854775807) (hbl2 : Bls w a2 n2 f2) (hn2 : n2 ≤ 9223372036854775807) (hx : Ins w ak nk ks) (hm : (m : Int) ≤ 9223372036854775807) (hnk : nk ≤ 100) (hfit : fitO f n 6 = true) (hfit2 : fitO f2 n2 6 = true) :
    Calls Tryz.prog 4 #[.slice a n c, .slice a2 n2 c2, .int .i64 m, .slice ak nk ck] w fun e w' => e = .returned (.bool true) ∧ Below w.heap.size w w' := by
  have HE : Hid (encB 5 f n 6 = true ∧ encB 6 f2 n2 6 = true) := ⟨fit_enc hbl hfit (by omega) (by omega), fit_enc hbl2 hfit2 (by omega) (by omega)⟩
  have HSM : Hid (∀ j, j < n → AllB (f j).p.zs) := fun j hj => (hbl.each j hj).bys.small
  have HSM2 : Hid (∀ j, j < n2 → AllB (f2 j).p.zs) := fun j hj => (hbl2.each j hj).bys.small
  have HBL := Lib.hid hbl
  have HBL2 := Lib.hid hbl2
  have HX := Lib.hid hx
  have HFT : Hid (∀ w', Below w.heap.size w w' → Calls Tryz.prog 16 #[.slice a n c, .int .i64 6] w' fun e w'' => e = .returned (.bool true) ∧ Below w'.heap.size w' w'') := fun w' hb => by
    have := fits_any a n c 6 f w' (hbl.next hb) hn
    rw [hfit] at this
    exact this
  have HFT2 : Hid (∀ w', Below w.heap.size w w' → Calls Tryz.prog 16 #[.slice a2 n2 c2, .int .i64 6] w' fun e w'' => e = .returned (.bool true) ∧ Below w'.heap.size w' w'') := fun w' hb => by
    have := fits_any a2 n2 c2 6 f2 w' (hbl2.next hb) hn2
    rw [hfit2] at this
    exact this
  have HAL := Lib.hid (alive_any w)
  have g1 : ¬ (100 : Int) < (nk : Int) := by omega
  have g2 : decide ((m : Int) < 0) = false := decide_eq_false (by omega)
  have HLT : Hid (∀ b off, ak = some ⟨b, off, none⟩ → nk = 0 ∨ b < w.heap.size) := fun b off e => by
    rcases hx.2 with h0 | ⟨b', off', e2, hl, _⟩
    · exact .inl h0
    · rw [e] at e2; cases e2; exact .inr hl
  clear hbl hbl2 hx hfit hfit2
  go_enter Tryz.func4, Tryz.ntmps4
  go_wp2_with (fail)
  refine HAL.out.mono ?_
  rintro e w1 ⟨rfl, hb1⟩
  go_wp2_with (fail)
  refine (HFT.out w1 hb1).mono ?_
  rintro e wf ⟨rfl, hbf⟩
  have hbg := hb1.trans (hbf.mono hb1.size)
  clear hb1 hbf HAL HFT
  go_wp2_with (fail)
  refine (HFT2.out wf hbg).mono ?_
  rintro e w2 ⟨rfl, hb2⟩
  have HB2 := Lib.hid (hbg.trans (hb2.mono hbg.size))
  clear hbg hb2 HFT2 g1 g2
  go_wp2_with (fail)
  refine (open_small w2).mono ?_
  rintro e w3 ⟨L, b, rfl, hst⟩
  have hbl3 := HBL.out.next (HB2.out.trans (hst.bel.mono HB2.out.size))
  have hwr := st_write sml0 1 5 a n c f hst hbl3 hn
  obtain ⟨e1, v1⟩ := Vd.start.write sml0 rfl (by decide) (g := 1) (q := 5) (by omega) (by omega) (by omega) HE.out.1 HSM.out
  rw [show wrE B0 (newRk 4 41) 3 3 1 5 f n = 0 from e1] at hwr
  obtain ⟨R1, hR1⟩ : ∃ R1, R1 = wrR B0 (newRk 4 41) 3 3 1 5 f n := ⟨_, rfl⟩
  rw [← hR1] at hwr
  rw [show wrR B0 (newRk 4 41) 3 3 (1 : Nat) 5 f n = R1 from hR1.symm] at v1
  obtain ⟨C, hC⟩ : ∃ C, C = wrS (fun _ _ => List.replicate 64 0) 1 5 f n 3 := ⟨_, rfl⟩
  have HW : Hid (Whl C 1 5) := by rw [hC]; exact wrS_whl HE.out.1 HSM.out
  rw [← hC] at v1
  have HV1 := Lib.hid v1
  clear hC hR1 v1 e1 hst hbl3
  go_wp2_with (fail)
  refine hwr.mono ?_
  rintro e w4 ⟨rfl, hst4, _⟩
  have hfl := st_flush (n := 3) hst4 rfl (by omega)
  obtain ⟨f1, f2'⟩ := HV1.out.flush0
  rw [f1] at hfl
  obtain ⟨R2, hR2⟩ : ∃ R2, R2 = (flG B0 R1 B0.num).2.2 := ⟨_, rfl⟩
  have hA : Am false { R2 with cnt := (m : Int) } (m : Int) C (tP f2 n2 0) := by
    have hv : Vd R2 4 41 noD noD C := by rw [hR2]; exact f2'.congr (fun _ _ => rfl) (fun _ _ _ => rfl)
    refine ⟨hv.hn, hv.hS, hv.off, rfl, fun i hi => ⟨(hv.dk i hi).1, (hv.dk i hi).2 rfl⟩, fun i k hi hk => ?_, fun i k hi hk => ?_⟩
    · show sec (R2.d i).last k = _
      rw [hR2]
      exact HV1.out.flush_last 4 (Nat.le_refl _) i k hi hk
    · show (R2.d i).cache k = _
      rw [hR2]
      unfold tP
      rw [if_neg (by omega)]
      exact HV1.out.flush_none 4 (Nat.le_refl _) i k hi
  rw [← hR2] at hfl
  have HA := Lib.hid hA
  have HLC : Hid (∀ i k, i < 4 → k < 41 → (C i k).length = 64) := HV1.out.len
  clear hwr hst4 f1 f2' hR2 HV1 hA
  go_wp2_with (fail)
  refine hfl.mono ?_
  rintro e w5 ⟨rfl, hst5, _⟩
  have har := st_arm (m : Int) hst5 hm
  clear hfl hst5
  go_wp2_with (fail)
  refine har.mono ?_
  rintro e w6 ⟨rfl, hst6, _⟩
  obtain ⟨R3, hR3⟩ : ∃ R3, R3 = { R2 with cnt := (m : Int) } := ⟨_, rfl⟩
  rw [← hR3] at hst6 HA
  have hwr := st_write sml0 1 6 a2 n2 c2 f2 hst6 (HBL2.out.next (HB2.out.trans (hst6.bel.mono HB2.out.size))) hn2
  have hr : ∀ a, a < 3 → Rw3 (rowE 6 f2 n2 2 a) 6 := fun a ha => row_three HE.out.2 HSM2.out ha
  have HR := Lib.hid hr
  obtain ⟨g1, g2⟩ := HA.out.rows hr 3 (Nat.le_refl _)
  have hrg : rgO B0 1 6 = true := by
    unfold rgO
    rw [show segO B0 1 = true from segO_small sml0 (g := 1) (by omega), decide_eq_true (by omega)]
    rfl
  have he' : encB 6 f2 n2 (3 * (3 - 1)) = true := HE.out.2
  obtain ⟨R4, hR4⟩ : ∃ R4, R4 = (wrG B0 3 1 6 f2 n2 R3 3).2 := ⟨_, rfl⟩
  have hwR : wrR B0 R3 3 3 1 6 f2 n2 = R4 := by
    unfold wrR
    rw [hrg, he', HA.out.two, hR4]
    rfl
  have hwE : ∃ er, wrE B0 R3 3 3 1 6 f2 n2 = er ∧ ((m < 9 ∧ er = 12) ∨ (9 ≤ m ∧ er = 0)) := by
    refine ⟨_, rfl, ?_⟩
    unfold wrE
    rw [hrg, he', HA.out.two]
    rcases Nat.lt_or_ge m 9 with h9 | h9
    · rw [(g2 h9).1]
      exact .inl ⟨h9, rfl⟩
    · rw [(g1 h9).1, (g1 h9).2.two]
      exact .inr ⟨h9, rfl⟩
  have hAm : ∃ o m' t, Am o R4 m' C (tP f2 n2 t) := by
    rw [hR4]
    rcases Nat.lt_or_ge m 9 with h9 | h9
    · exact ⟨_, _, _, (g2 h9).2⟩
    · exact ⟨_, _, _, (g1 h9).2⟩
  obtain ⟨er, her, hcase⟩ := hwE
  rw [hwR, her] at hwr
  have HCS := Lib.hid hcase
  have HAM := Lib.hid hAm
  clear har hst6 hr g1 g2 hrg he' hR4 hwR her hcase hAm HA hR3
  go_wp2_with (fail)
  refine hwr.mono ?_
  rintro e w7 ⟨rfl, hst7, _⟩
  have hrs := st_restore ak nk ck ks hst7 (HX.out.next (HB2.out.trans (hst7.bel.mono HB2.out.size))) (by
    by_cases h0 : nk = 0
    · exact .inl h0
    · refine .inr fun bb off e x => ?_
      have h1 := (HLT.out bb off e).resolve_left h0
      have h2 := hst7.lo bb x
      have h3 := HB2.out.size
      omega) (by omega)
  have HRX : Hid (∃ X : Nat → Nat → List Int, Vd (R4.restore ks) 4 41 noD noD X ∧ (∀ i k, i < 4 → k < 41 → sec ((R4.restore ks).d i).last k = X i k) ∧ (∀ i k, i < 4 → k < 41 → X i k = C i k ∨ (i < 3 ∧ 8 ≤ k ∧ k < 11 ∧ X i k = rowE 6 f2 n2 2 (k - 8) (plc (k - 5) i)))) := by
    obtain ⟨o, m', t, hA⟩ := HAM.out
    exact hA.restore HLC.out HR.out ks
  clear hwr hst7 HAM
  go_wp2_with (fail)
  refine hrs.mono ?_
  rintro e w8 ⟨rfl, hst8, _⟩
  obtain ⟨R5, hR5⟩ : ∃ R5, R5 = R4.restore ks := ⟨_, rfl⟩
  rw [← hR5] at hst8 HRX
  obtain ⟨X, hv, hl, hX⟩ := HRX.out
  obtain ⟨hby, hwh⟩ := torn_whole hv HW.out HR.out hX
  have HBY : Hid (∀ d s, d < 3 → s < 3 → (sec (R5.d d).last (8 + s)).length = 64 ∧ ((byt (sec (R5.d d).last (8 + s)) 0 = 5 ∧ cntF X (3 * d + s + 1) = cntF X (3 * d + s)) ∨ (byt (sec (R5.d d).last (8 + s)) 0 = 6 ∧ cntF X (3 * d + s + 1) = cntF X (3 * d + s) + 1))) := fun d s hd hs => by
    rw [hl d (8 + s) (by omega) (by omega)]
    refine ⟨hv.len d (8 + s) (by omega) (by omega), ?_⟩
    have i1 : (3 * d + s) / 3 = d := by omega
    have i2 : (3 * d + s) % 3 = s := by omega
    rw [cntF, i1, i2]
    rcases hby d s hd hs with e | e
    · exact .inl ⟨e, by rw [if_neg (by omega)]; omega⟩
    · exact .inr ⟨e, by rw [if_pos e]⟩
  have HWH : Hid (whR B0 R5 3 3 1 = (if cntF X 9 = 9 then some 6 else if cntF X 9 = 0 then some 5 else none) ∧ chkE R5 (segO B0 1) = 0) := ⟨hwh, hv.vw0.chk (hv.vw0.seg (g := 1) (by omega))⟩
  have HNS : Hid (R5.n = 4 ∧ R5.S = 41) := ⟨hv.hn, hv.hS⟩
  have HST := Lib.hid hst8
  have HCL : Hid (∀ j, cntF X j ≤ j) := cntF_le X
  clear hrs hst8 hv hl hX hby hwh HRX hR5 HW HR HLC HE HSM HSM2 HLT
  go_wp2_with (fail)
  go_loopw [12, 13, 14] (fun u v i wr => ∃ d : Nat, d ≤ 3 ∧ i = .int .i64 d ∧ u = .int .i64 (cntF X (3 * d) : Nat) ∧ v = .int .i64 (3 * d - cntF X (3 * d) : Nat) ∧ St w2 (also (L.M 4) (· = b)) L b R5 B0 wr) (fun _ _ i _ => 3 - (RowKit.intOf i).toNat)
  case atStart => exact ⟨0, by omega, rfl, rfl, rfl, HST.out⟩
  case round =>
    obtain ⟨d, hd, rfl, rfl, rfl, hst9⟩ := hrel
    by_cases hlt : d < 3
    · have HST9 := Lib.hid hst9
      have hd3 : decide ((d : Int) < 3) = true := decide_eq_true (by omega)
      clear hst9
      go_wp2_with (fail)
      go_loopw [12, 13, 15] (fun u v i wr => ∃ s : Nat, s ≤ 3 ∧ i = .int .i64 (8 + s : Nat) ∧ u = .int .i64 (cntF X (3 * d + s) : Nat) ∧ v = .int .i64 (3 * d + s - cntF X (3 * d + s) : Nat) ∧ St w2 (also (L.M 4) (· = b)) L b R5 B0 wr) (fun _ _ i _ => 11 - (RowKit.intOf i).toNat)
      case atStart => exact ⟨0, by omega, rfl, rfl, rfl, HST9.out⟩
      case round =>
        obtain ⟨s, hs, rfl, rfl, rfl, hst10⟩ := hrel
        have hcl := HCL.out (3 * d + s)
        have hcl2 := HCL.out (3 * d + (s + 1))
        by_cases hlt2 : s < 3
        · have hla := st_last (i := d) (k := 8 + s) hst10 (by rw [HNS.out.1]; omega) (by rw [HNS.out.2]; omega)
          obtain ⟨l64, hbb⟩ := HBY.out d s hlt hlt2
          obtain ⟨zs, hzs⟩ : ∃ zs, zs = sec (R5.d d).last (8 + s) := ⟨_, rfl⟩
          rw [← hzs] at hla l64 hbb
          have hlt3 : ((8 + s : Nat) : Int) < 11 := by omega
          have H64 := Lib.hid l64
          clear hst10 hzs l64
          rcases hbb with ⟨b5, k5⟩ | ⟨b6, k6⟩
          · have HK := Lib.hid k5
            have HB5 := Lib.hid b5
            clear k5 b5
            go_wp2_with (fail)
            refine hla.mono ?_
            rintro e wx ⟨ax, nx, cx, rfl, hy, hstx, _⟩
            obtain rfl : nx = 64 := by rw [← hy.len]; exact H64.out
            obtain ⟨bx, ox, rfl, hbx, hcx⟩ := hy.place.resolve_left (by omega)
            have y0 : wx.cell? ⟨bx, ox, none⟩ = some (.int .u8 5) := by have := hcx 0 (by omega); rwa [HB5.out] at this
            have HSTX := Lib.hid hstx
            clear hla hy hcx hstx
            go_wp2_with (fail)
            go_roundw
            case rel =>
              have k := HK.out
              refine ⟨s + 1, by omega, by go_num, ?_, ?_, HSTX.out⟩
              · show _ = Value.int .i64 (cntF X (3 * d + s + 1) : Nat)
                rw [k]
              · show _ = Value.int .i64 (3 * d + s + 1 - cntF X (3 * d + s + 1) : Nat)
                rw [k]
                congr 1
                omega
            case measure => simp [RowKit.intOf]; omega
          · have HK := Lib.hid k6
            have HB6 := Lib.hid b6
            clear k6 b6
            go_wp2_with (fail)
            refine hla.mono ?_
            rintro e wx ⟨ax, nx, cx, rfl, hy, hstx, _⟩
            obtain rfl : nx = 64 := by rw [← hy.len]; exact H64.out
            obtain ⟨bx, ox, rfl, hbx, hcx⟩ := hy.place.resolve_left (by omega)
            have y0 : wx.cell? ⟨bx, ox, none⟩ = some (.int .u8 6) := by have := hcx 0 (by omega); rwa [HB6.out] at this
            have HSTX := Lib.hid hstx
            clear hla hy hcx hstx
            go_wp2_with (fail)
            go_roundw
            case rel =>
              have k := HK.out
              refine ⟨s + 1, by omega, by go_num, ?_, ?_, HSTX.out⟩
              · show _ = Value.int .i64 (cntF X (3 * d + s + 1) : Nat)
                rw [k]
                congr 1
              · show _ = Value.int .i64 (3 * d + s + 1 - cntF X (3 * d + s + 1) : Nat)
                rw [k]
                congr 1
                omega
            case measure => simp [RowKit.intOf]; omega
        · obtain rfl : s = 3 := by omega
          have HSTX := Lib.hid hst10
          clear hst10
          go_wp2_with (fail)
          go_roundw
          case rel => exact ⟨d + 1, by omega, by go_num, rfl, rfl, HSTX.out⟩
          case measure => simp [RowKit.intOf]; omega
    · obtain rfl : d = 3 := by omega
      have hw := st_whole sml0 1 hst9
      rw [HWH.out.1, HWH.out.2] at hw
      clear hst9 hlt
      obtain ⟨q, hq⟩ : ∃ q, q = cntF X 9 := ⟨_, rfl⟩
      have hq9 := HCL.out 9
      rw [← hq] at hw hq9
      rw [show 3 * 3 = 9 from rfl, ← hq]
      obtain ⟨o, ho⟩ : ∃ o, o = 9 - q := ⟨_, rfl⟩
      rw [← ho]
      have hqo : q + o = 9 := by omega
      have hwo : IntKind.i64.wrap ((q : Int) + (o : Int)) = 9 := by rw [IntWalk.i64_in _ (by omega)]; omega
      have HX2 := Lib.hid hq
      clear hq ho HBY
      by_cases q9 : q = 9
      · obtain rfl : o = 0 := by omega
        subst q9
        rw [if_pos rfl] at hw
        clear hqo hq9
        rcases HCS.out with ⟨h9, rfl⟩ | ⟨h9, rfl⟩
        · have hm9 : decide ((m : Int) < 9) = true := decide_eq_true (by omega)
          clear h9
          go_wp2_with (fail)
          refine hw.mono ?_
          rintro e wx ⟨rfl, hstx, _⟩
          have HSTX := Lib.hid hstx
          clear hw hstx
          go_wp2_with (fail)
          go_ret
          exact ⟨rfl, HB2.out.trans (HSTX.out.bel.mono HB2.out.size)⟩
        · have hm9 : decide ((m : Int) < 9) = false := decide_eq_false (by omega)
          clear h9
          go_wp2_with (fail)
          refine hw.mono ?_
          rintro e wx ⟨rfl, hstx, _⟩
          have HSTX := Lib.hid hstx
          clear hw hstx
          go_wp2_with (fail)
          go_ret
          exact ⟨rfl, HB2.out.trans (HSTX.out.bel.mono HB2.out.size)⟩
      · rw [if_neg q9] at hw
        have n9 : ((q : Int) == 9) = false := by simp; omega
        by_cases q0 : q = 0
        · obtain rfl : o = 9 := by omega
          subst q0
          rw [if_pos rfl] at hw
          clear hqo hq9 q9
          rcases HCS.out with ⟨h9, rfl⟩ | ⟨h9, rfl⟩
          · have hm9 : decide ((m : Int) < 9) = true := decide_eq_true (by omega)
            clear h9
            go_wp2_with (fail)
            refine hw.mono ?_
            rintro e wx ⟨rfl, hstx, _⟩
            have HSTX := Lib.hid hstx
            clear hw hstx
            go_wp2_with (fail)
            go_ret
            exact ⟨rfl, HB2.out.trans (HSTX.out.bel.mono HB2.out.size)⟩
          · have hm9 : decide ((m : Int) < 9) = false := decide_eq_false (by omega)
            clear h9
            go_wp2_with (fail)
            refine hw.mono ?_
            rintro e wx ⟨rfl, hstx, _⟩
            have HSTX := Lib.hid hstx
            clear hw hstx
            go_wp2_with (fail)
            go_ret
            exact ⟨rfl, HB2.out.trans (HSTX.out.bel.mono HB2.out.size)⟩
        · rw [if_neg q0] at hw
          have o9 : ((o : Int) == 9) = false := by simp; omega
          clear q9 q0 hqo hq9
          rcases HCS.out with ⟨h9, rfl⟩ | ⟨h9, rfl⟩
          · have hm9 : decide ((m : Int) < 9) = true := decide_eq_true (by omega)
            clear h9
            go_wp2_with (fail)
            refine hw.mono ?_
            rintro e wx ⟨rfl, hstx, _⟩
            have HSTX := Lib.hid hstx
            clear hw hstx
            go_wp2_with (fail)
            go_ret
            exact ⟨rfl, HB2.out.trans (HSTX.out.bel.mono HB2.out.size)⟩
          · have hm9 : decide ((m : Int) < 9) = false := decide_eq_false (by omega)
            clear h9
            go_wp2_with (fail)
            refine hw.mono ?_
            rintro e wx ⟨rfl, hstx, _⟩
            have HSTX := Lib.hid hstx
            clear hw hstx
            go_wp2_with (fail)
            go_ret
            exact ⟨rfl, HB2.out.trans (HSTX.out.bel.mono HB2.out.size)⟩
end

theorem tornW_any (a : Option Addr) (n c : Nat) (f : Nat → BlP) (a2 : Option Addr) (n2 c2 : Nat) (f2 : Nat → BlP) (m : Int) (ak : Option Addr) (nk ck : Nat) (ks : List Int) (w : World) (hbl : Bls w a n f) (hn : n ≤ 9223372036854775807) (hbl2 : Bls w a2 n2 f2) (hn2 : n2 ≤ 9223372036854775807) (hx : Ins w ak nk ks) (hm : (Lit.int .i64 m).wf = true) :
    Calls Tryz.prog 4 #[.slice a n c, .slice a2 n2 c2, .int .i64 m, .slice ak nk ck] w fun e w' => e = .returned (.bool true) ∧ Below w.heap.size w w' := by
  by_cases h : fitO f n 6 = true ∧ fitO f2 n2 6 = true ∧ nk ≤ 100 ∧ 0 ≤ m
  · obtain ⟨h1, h2, h3, h4⟩ := h
    obtain ⟨m, rfl⟩ := Int.eq_ofNat_of_zero_le h4
    have hm' : (m : Int) ≤ 9223372036854775807 := by
      simp [Lit.wf, IntKind.min, IntKind.max, IntKind.signed, IntKind.bits] at hm
      omega
    exact torn_in a n c f a2 n2 c2 f2 m ak nk ck ks w hbl hn hbl2 hn2 hx hm' h3 h1 h2
  · exact torn_out a n c f a2 n2 c2 f2 m ak nk ck w hbl hn hbl2 hn2 h

end Go.Proofs.YtciddoeeiamndaaGreat
