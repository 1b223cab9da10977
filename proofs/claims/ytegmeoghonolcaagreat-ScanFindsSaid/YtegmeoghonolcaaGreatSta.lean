/-
  A rack and its bank side by side, as a law keeps them: each call's contract.
-/
import Derived.Test.YtegmeoghonolcaaGreatBkc
import Derived.Test.YtegmeoghonolcaaGreatOpm
import Derived.Test.YtegmeoghonolcaaGreatGe
set_option linter.unusedSimpArgs false
set_option linter.unusedVariables false
namespace Go.Proofs.YtegmeoghonolcaaGreat
open Go.RowKit Go.Maps
set_option linter.unusedVariables false

structure St (w0 : World) (M : Nat → Prop) (L : Lay) (b : Nat) (R : Rk) (B : Bn) (w : World) : Prop where
  rk : RackAt w M L R
  bk : BnAt w b L.p B
  mb : M b
  nb : ¬ L.M R.n b
  lo : ∀ k, M k → w0.heap.size ≤ k
  bel : Below w0.heap.size w0 w
section
variable {w0 w w' : World} {M : Nat → Prop} {L : Lay} {b n : Nat} {R : Rk} {B : Bn}
theorem St.next (h : St w0 M L b R B w) (hb : Below w.heap.size w w') : St w0 M L b R B w' :=
  ⟨h.rk.below hb, h.bk.next hb, h.mb, h.nb, h.lo, h.bel.trans (hb.mono h.bel.size)⟩
theorem St.turned (h : St w0 M L b R B w) (ht : Turn (L.M R.n) w w') : Below w0.heap.size w0 w' := h.bel.trans (ht.below h.bel.size (fun k hk => h.lo k (h.rk.sub k hk)))
theorem St.call (h : St w0 M L b R B w) {R' : Rk} (hn : R'.n = R.n) (hr : RackAt w' M L R') (ht : Turn (L.M R.n) w w') : St w0 M L b R' B w' :=
  ⟨hr, h.bk.turn ht h.nb, h.mb, by rw [hn]; exact h.nb, h.lo, h.turned ht⟩
/-- What a call leaves: the answer, the state, what has turned. -/
def StPost (w0 : World) (M : Nat → Prop) (L : Lay) (b : Nat) (R' : Rk) (B : Bn) (w : World) (v : Value) (e : Ending) (w' : World) : Prop :=
  e = .returned v ∧ St w0 M L b R' B w' ∧ Turn (L.M R'.n) w w'
theorem St.post (h : St w0 M L b R B w) {R' : Rk} (hn : R'.n = R.n) {v : Value} {e : Ending} (hc : CallPost M L R R' w v e w') : StPost w0 M L b R' B w v e w' :=
  ⟨hc.1, h.call hn hc.2.1 hc.2.2, by rw [hn]; exact hc.2.2⟩

theorem bw_n (B : Bn) (R : Rk) (i k : Int) (zs : List Int) : (bw B R i k zs).n = R.n := by
  unfold bw
  split
  · exact R.wr_n _ _ _
  · rfl
theorem st_flush (h : St w0 M L b R B w) (hd : B.d = (n : Int)) (hn : n ≤ 16) :
    Calls Tryz.prog 17 #[.pointer (some ⟨b, 0, none⟩)] w (StPost w0 M L b (flG B R B.num).2.2 B w (.int .i64 (flG B R B.num).2.1)) :=
  (flush_bank M L R w b n B h.rk h.bk h.nb hd hn).mono fun _ _ => h.post (flG_n B R _)
theorem st_doom (i m : Int) (h : St w0 M L b R B w) (hm : m ≤ 9223372036854775807) :
    Calls Tryz.prog 13 #[.pointer (some ⟨L.p, 0, none⟩), .int .i64 i, .int .i64 m] w (StPost w0 M L b (R.doom i m) B w (.int .i64 (R.dkE i))) :=
  (doom_all i m h.rk hm).mono fun _ _ => h.post (by unfold Rk.doom; split <;> rfl)
/-- What Open leaves, a member that fits having been told. -/
theorem St.opened {w1 : World} {d r s e sl st : Int} {en : Ending} (hr : RackAt w M L R) (hlo : ∀ k, M k → w0.heap.size ≤ k) (hbel : Below w0.heap.size w0 w) (hop : OpenPost L.p R d r s e sl st w en w1) (hok : openOk R d r s sl st = true) :
    ∃ b, en = .returned (.tuple #[.pointer (some ⟨b, 0, none⟩), .int .i64 0]) ∧ w.heap.size ≤ b ∧ St w0 (also M (· = b)) L b R ⟨d, r, s, e, sl, st⟩ w1 := by
  obtain ⟨hb, h⟩ := hop
  rw [hok, if_pos rfl] at h
  obtain ⟨b, rfl, hlt, hB⟩ := h
  have hbl := hB.lt
  refine ⟨b, rfl, hlt, hr.also hb (fun k x => by subst x; exact ⟨hlt, hbl⟩), hB, .inr rfl, fun x => ?_, fun k x => ?_, hbel.trans (hb.mono hbel.size)⟩
  · have := hr.low b (hr.sub b x); omega
  · rcases x with x | rfl
    · exact hlo k x
    · exact Nat.le_trans hbel.size hlt
end

theorem hasSl_at {d : Int} {m i : Nat} (hd : d = (m : Int)) (hi : i < m) : hasSl d (i : Int) = true := decide_eq_true ⟨by omega, by omega⟩
theorem bw_at {B : Bn} {m i : Nat} (hd : B.d = (m : Int)) (hi : i < m) (R : Rk) (k : Int) (zs : List Int) : bw B R (i : Int) k zs = R.wr (B.dk i : Int) k zs ∧ bwE B R (i : Int) k zs = R.wrE (B.dk i : Int) k zs := by
  unfold bw bwE
  rw [hasSl_at hd hi, if_pos rfl, if_pos rfl, Bn.dk_eq hd]
  exact ⟨rfl, rfl⟩
theorem br_at {B : Bn} {m i : Nat} (hd : B.d = (m : Int)) (hi : i < m) (R : Rk) (k : Int) : brV B R (i : Int) k = R.rdV (B.dk i : Int) k ∧ brE B R (i : Int) k = R.rdE (B.dk i : Int) k := by
  unfold brV brE
  rw [hasSl_at hd hi, if_pos rfl, if_pos rfl, Bn.dk_eq hd]
  exact ⟨rfl, rfl⟩
theorem rt_small : Rt 3 3 12 := ⟨⟨by omega, by omega, by omega, by omega, by omega, by omega⟩, by decide⟩
theorem sect_small : sect 3 3 12 = 41 := by
  unfold sect
  rw [if_pos rt_small]
  omega
theorem openOk_small {R : Rk} (hn : R.n = 4) (hS : R.S = 41) (sl st : Int) : openOk R 3 3 12 sl st = memOk 3 sl st := by
  unfold openOk rackOk
  rw [decide_eq_true rt_small, sect_small, hn, hS]
  simp

end Go.Proofs.YtegmeoghonolcaaGreat

/-
  The stripe's small questions, by contract.
-/
namespace Go.Proofs.YtegmeoghonolcaaGreat
open Go.RowKit Go.Maps
set_option linter.unusedVariables false

/-- Is there such a segment? -/
noncomputable def segO (B : Bn) (g : Int) : Bool := open Classical in decide (Sg B.d B.r B.s g)
noncomputable def bkO (B : Bn) (g k : Int) : Bool := open Classical in decide (Bk B.d B.r B.s g k)
noncomputable def spD (B : Bn) (g k : Int) : Int := if bkO B g k then BD B.d (g * B.r + k / (B.d - 1)) (k % (B.d - 1)) else 0
noncomputable def spS (B : Bn) (g k : Int) : Int := if bkO B g k then 5 + (g * B.r + k / (B.d - 1)) else 0
theorem block_all (B : Bn) (g k : Int) (w : World) :
    Calls Tryz.prog 133 #[gv B.d B.r B.s, .int .i64 g, .int .i64 k] w fun e w' => e = .returned (sv (spD B g k) (spS B g k) (bkO B g k)) ∧ Below w.heap.size w w' := by
  classical
  unfold spD spS bkO
  by_cases h : Bk B.d B.r B.s g k
  · rw [decide_eq_true h, if_pos rfl, if_pos rfl]
    exact block_yes B.d B.r B.s g k w h.toSg h.k0 h.k1
  · rw [decide_eq_false h, if_neg (by simp), if_neg (by simp)]
    exact block_no B.d B.r B.s g k w h
theorem bkO_zero (B : Bn) (g : Int) : bkO B g 0 = segO B g := by
  classical
  unfold bkO segO
  by_cases h : Sg B.d B.r B.s g
  · rw [decide_eq_true h]
    exact decide_eq_true ⟨h, by omega, by have := (PL_bd h.d1 h.d2 h.r1 h.r2).1; omega⟩
  · rw [decide_eq_false h]
    exact decide_eq_false fun x => h x.toSg

section
variable {M : Nat → Prop} {L : Lay} {R : Rk} {w : World} {b : Nat} {B : Bn}
theorem boff_any (hr : RackAt w M L R) (hb : BnAt w b L.p B) :
    Calls Tryz.prog 79 #[.pointer (some ⟨b, 0, none⟩)] w fun e w' => e = .returned (.bool R.off) ∧ w' = w := by
  have c0 := hb.c0
  have hf := off_rack M L R w hr
  clear hr hb
  go_enter Tryz.func79, Tryz.ntmps79
  go_wp2_with (go_at_call 116; refine hf.mono ?_; rintro e w' ⟨rfl, rfl⟩)
  go_ret
  exact ⟨rfl, rfl⟩
/-- What check answers. -/
def chkE (R : Rk) (ok : Bool) : Int := if ok then (if R.off then 12 else 0) else 28
theorem check_any (ok : Bool) (hr : RackAt w M L R) (hb : BnAt w b L.p B) :
    Calls Tryz.prog 117 #[.pointer (some ⟨b, 0, none⟩), .bool ok] w fun e w' => e = .returned (.int .i64 (chkE R ok)) ∧ w' = w := by
  unfold chkE
  have hf := boff_any hr hb
  clear hr hb
  cases ok with
  | false =>
    go_enter Tryz.func117, Tryz.ntmps117
    go_wp2_with (fail)
    go_ret
    exact ⟨rfl, rfl⟩
  | true =>
    cases ho : R.off with
    | false =>
      rw [ho] at hf
      go_enter Tryz.func117, Tryz.ntmps117
      go_wp2_with (go_at_call 79; refine hf.mono ?_; rintro e w' ⟨rfl, rfl⟩)
      go_ret
      exact ⟨rfl, rfl⟩
    | true =>
      rw [ho] at hf
      go_enter Tryz.func117, Tryz.ntmps117
      go_wp2_with (go_at_call 79; refine hf.mono ?_; rintro e w' ⟨rfl, rfl⟩)
      go_ret
      exact ⟨rfl, rfl⟩
theorem spotOf_any (g k : Int) (hb : BnAt w b L.p B) :
    Calls Tryz.prog 99 #[.pointer (some ⟨b, 0, none⟩), .int .i64 g, .int .i64 k] w fun e w' => e = .returned (sv (spD B g k) (spS B g k) (bkO B g k)) ∧ Below w.heap.size w w' := by
  obtain ⟨W1, hW1⟩ : ∃ W1, W1 = w.alloc (.cells #[.int .i64 0, .int .i64 0] 150 (0, 0)) := ⟨_, rfl⟩
  have hs1 : Sx W1 w.heap.size := by rw [hW1]; exact Sx.mk' w _ _ _
  have hB1 : Below w.heap.size w W1 := by rw [hW1]; exact (Below.refl _ _).alloc (Nat.le_refl _) _
  have hg := geo_any (hb.next hB1)
  have hk := block_all B g k
  obtain ⟨x, hx⟩ : ∃ x, x = spD B g k := ⟨_, rfl⟩
  obtain ⟨y, hy⟩ : ∃ y, y = spS B g k := ⟨_, rfl⟩
  rw [← hx, ← hy] at hk ⊢
  clear hb hx hy
  go_enter Tryz.func99, Tryz.ntmps99
  go_wp2_with (fail)
  rw [← hW1]
  refine hg.mono ?_
  rintro e w2 ⟨rfl, hb2⟩
  have hs2 := hs1.next hb2
  have hB2 := hB1.trans (hb2.mono hB1.size)
  clear hg hs1 hB1 hW1 hb2
  go_wp2_with (fail)
  refine (hk w2).mono ?_
  rintro e w3 ⟨rfl, hb3⟩
  have hs3 := hs2.next hb3
  have hB3 := hB2.trans (hb3.mono hB2.size)
  obtain ⟨_, ⟨v0, c0⟩, ⟨v1, c1⟩, f0, f1⟩ := hs3
  clear hk hs2 hB2 hb3
  go_wp2_with (fail)
  refine bodyPost_ret (v := sv x y (bkO B g k)) ?_ rfl ⟨rfl, ?_⟩
  · simp [results, Tryz.results99, go_sem, c0, c1]
  · exact (hB3.setCell (by simp) _).setCell (by simp) _
theorem shasSeg_any (g : Int) (hb : BnAt w b L.p B) :
    Calls Tryz.prog 51 #[.pointer (some ⟨b, 0, none⟩), .int .i64 g] w fun e w' => e = .returned (.bool (segO B g)) ∧ Below w.heap.size w w' := by
  have h := spotOf_any g 0 hb
  rw [bkO_zero] at h
  obtain ⟨x, hx⟩ : ∃ x, x = spD B g 0 := ⟨_, rfl⟩
  obtain ⟨y, hy⟩ : ∃ y, y = spS B g 0 := ⟨_, rfl⟩
  rw [← hx, ← hy] at h
  clear hb hx hy
  go_enter Tryz.func51, Tryz.ntmps51
  go_wp2_with (fail)
  refine h.mono ?_
  rintro e w1 ⟨rfl, hb1⟩
  go_wp2_with (fail)
  go_ret
  exact ⟨rfl, hb1.alloc hb1.size _⟩
/-- More slots bad than parity makes good? -/
def twoB (B : Bn) (R : Rk) (n : Nat) : Bool := decide (1 < (badL B R n).length)
theorem beyond_any {n : Nat} (hr : RackAt w M L R) (hb : BnAt w b L.p B) (hd : B.d = (n : Int)) (hn : n ≤ 16) :
    Calls Tryz.prog 53 #[.pointer (some ⟨b, 0, none⟩)] w fun e w' => e = .returned (.bool (twoB B R n)) ∧ Below w.heap.size w w' := by
  have h := bad_any M L R w b n B hr hb hd hn
  have hl := badL_len B R n
  unfold twoB
  obtain ⟨ks, hks⟩ : ∃ ks, ks = badL B R n := ⟨_, rfl⟩
  rw [← hks] at h hl ⊢
  clear hr hb hd hks
  obtain ⟨m, hm⟩ : ∃ m, m = ks.length := ⟨_, rfl⟩
  have h' : Calls Tryz.prog 101 #[.pointer (some ⟨b, 0, none⟩)] w fun e w' => ∃ a c, e = .returned (.slice a m c) ∧ Below w.heap.size w w' := h.mono fun e w' hh => by
    obtain ⟨v, rfl, ho, hb1⟩ := hh
    obtain ⟨a, c, rfl, _, _, _, _⟩ := ho.ins
    exact ⟨a, c, by rw [hm], hb1⟩
  rw [← hm] at hl ⊢
  clear h hm
  have hh : decide ((1 : Int) < m) = decide (1 < m) := by rw [decide_eq_decide]; omega
  go_enter Tryz.func53, Tryz.ntmps53
  go_wp2_with (go_at_call 101; refine h'.mono ?_; rintro e w1 ⟨a, c, rfl, hb1⟩)
  go_ret
  exact ⟨by simp, hb1⟩
end

end Go.Proofs.YtegmeoghonolcaaGreat
