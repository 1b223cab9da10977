/-
  A sector that was read, to be turned in place; for StripeSpoilt.
-/
import Derived.Test.YtciddoeeiamndaaWrdm
namespace Go.Proofs.Ytciddoeeiamndaa
open Go.RowKit Go.Maps
set_option linter.unusedVariables false

theorem wf_u8 {n : Int} (h : (Lit.int .u8 n).wf = true) : 0 ≤ n ∧ n ≤ 255 := by
  simp [Lit.wf, IntKind.min, IntKind.max, IntKind.signed, IntKind.bits] at h
  omega
theorem xr_ne {a b : Int} (ha : 0 ≤ a) (hb : 0 ≤ b) (h : b ≠ 0) : xr a b ≠ a := fun e => by
  unfold xr at e
  have h1 : a.toNat ^^^ b.toNat = a.toNat := by omega
  have h2 : a.toNat ^^^ (a.toNat ^^^ b.toNat) = b.toNat := by rw [← Nat.xor_assoc, Nat.xor_self, Nat.zero_xor]
  rw [h1, Nat.xor_self] at h2
  omega
/-- The list with one byte turned. -/
def trn (L : List Int) (p : Nat) (t : Int) : List Int := L.set p (xr (byt L p) t)
theorem trn_len (L : List Int) (p : Nat) (t : Int) : (trn L p t).length = L.length := by simp [trn]
theorem trn_small {L : List Int} (h : AllB L) (p : Nat) {t : Int} (ht : 0 ≤ t ∧ t ≤ 255) : AllB (trn L p t) := fun z hz => by
  rcases List.mem_or_eq_of_mem_set hz with h1 | rfl
  · exact h z h1
  · exact xr_bd (byt_bd h p) ht
theorem trn_ne {L : List Int} (h : AllB L) {p : Nat} (hp : p < L.length) {t : Int} (ht : 0 ≤ t) (h0 : t ≠ 0) : trn L p t ≠ L := fun e => by
  have h1 := congrArg (fun l => byt l p) e
  simp only [trn, byt_set hp] at h1
  exact xr_ne (byt_bd h p).1 ht h0 h1
theorem trn_twice {L : List Int} (h : AllB L) {p : Nat} (hp : p < L.length) (t : Int) : trn (trn L p t) p t = L := by
  refine byt_ext (by rw [trn_len, trn_len]) fun i _ => ?_
  have hp' : p < (trn L p t).length := by rw [trn_len]; exact hp
  show byt ((trn L p t).set p (xr (byt (trn L p t) p) t)) i = byt L i
  rw [byt_set hp']
  by_cases e : i = p
  · rw [if_pos e, e]
    show xr (byt (L.set p (xr (byt L p) t)) p) t = _
    rw [byt_set hp, if_pos rfl, xr_assoc, xr_self, xr_zero (byt_bd h p).1]
  · rw [if_neg e]
    show byt (L.set p (xr (byt L p) t)) i = _
    rw [byt_set hp, if_neg e]
/-- A sector in a block that may be written to. -/
structure Xs (w : World) (g : Nat) (zs : List Int) : Prop where
  lt : g < w.heap.size
  len : zs.length = 64
  sm : AllB zs
  cell : ∀ i, i < 64 → w.cell? ⟨g, i, none⟩ = some (.int .u8 (byt zs i))
  free : ∀ i, w.frozen? ⟨g, i, none⟩ = false
section
variable {w w' : World} {g : Nat} {zs : List Int}
theorem Xs.next (h : Xs w g zs) (hb : Below w.heap.size w w') : Xs w' g zs :=
  ⟨Nat.lt_of_lt_of_le h.lt hb.size, h.len, h.sm, fun i hi => (hb.cell (p := ⟨g, i, none⟩) h.lt).trans (h.cell i hi), fun i => (hb.frozen (p := ⟨g, i, none⟩) h.lt).trans (h.free i)⟩
theorem Xs.turn {N : Nat → Prop} (h : Xs w g zs) (ht : Turn N w w') (hn : ¬ N g) : Xs w' g zs :=
  ⟨Nat.lt_of_lt_of_le h.lt ht.size, h.len, h.sm, fun i hi => (ht.cell (a := ⟨g, i, none⟩) h.lt hn).trans (h.cell i hi), fun i => (ht.frozen (a := ⟨g, i, none⟩) h.lt hn).trans (h.free i)⟩
theorem Xs.bys (h : Xs w g zs) : Bys w (some ⟨g, 0, none⟩) 64 zs := ⟨h.len, h.sm, .inr ⟨g, 0, rfl, h.lt, fun i hi => by rw [Nat.zero_add]; exact h.cell i hi⟩⟩
theorem Xs.set (h : Xs w g zs) {p : Nat} (hp : p < 64) {t : Int} (ht : 0 ≤ t ∧ t ≤ 255) : Xs (w.setCell ⟨g, p, none⟩ (.int .u8 (bits .xor .u8 (byt zs p) t))) g (trn zs p t) := by
  rw [u8_xr (byt_bd h.sm p) ht]
  refine ⟨by simpa using h.lt, by rw [trn_len]; exact h.len, trn_small h.sm p ht, fun i hi => ?_, fun i => by simpa using h.free i⟩
  show _ = some (Value.int .u8 (byt (zs.set p _) i))
  rw [byt_set (by rw [h.len]; exact hp)]
  by_cases e : i = p
  · subst e
    rw [if_pos rfl]
    exact cell_set_same _ _ _ _ _ (h.cell i hi)
  · rw [if_neg e]
    have e' : ¬ p = i := fun x => e x.symm
    exact (set_oth (by simp [e'])).trans (h.cell i hi)
theorem own_xs {B : Nat} {v : Value} (h : Own w B v 64 zs) (hz : zs.length = 64) : ∃ g c, v = .slice (some ⟨g, 0, none⟩) 64 c ∧ B ≤ g ∧ Xs w g zs := by
  obtain ⟨a, c, e, hp, hlo⟩ := h.pin
  rcases h.row.2 with ⟨e2, h0⟩ | ⟨g, cap, cur, e2, hb, hg, hnc, hm, hsz, htake⟩
  · omega
  · obtain ⟨b', o', e3, hl, hc⟩ := hp.at (by omega)
    rw [e2] at e
    cases e
    cases e3
    exact ⟨g, _, e2, hb, hl, hz, hp.bys.small, fun i hi => by have := hc i hi; rwa [Nat.zero_add] at this, fun i => frozen_of_row w g i _ _ hg⟩
end
set_option maxHeartbeats 1000000 in
theorem write_ok2 (M : Nat → Prop) (L : Lay) (R : Rk) (i s b off c : Nat) (zs : List Int) (w : World) (h : RackAt w M L R) (hoff : R.off = false) (hi : i < R.n) (hs : s < R.S) (hz : Bys w (some ⟨b, off, none⟩) 64 zs) (hzM : ¬ L.M R.n b) (hE : R.callE i = 0) :
    Calls Try.prog 24 #[.pointer (some ⟨L.p, 0, none⟩), .int .i64 i, .int .i64 s, .slice (some ⟨b, off, none⟩) 64 c] w
      (CallPost M L R (R.call.setD i ((R.call.d i).put s zs)) w (.int .i64 0)) := by
  obtain ⟨n, hn⟩ : ∃ n, n = R.n := ⟨_, rfl⟩
  obtain ⟨S, hS⟩ : ∃ S, S = R.S := ⟨_, rfl⟩
  have few := h.few
  have fewS := h.fewS
  have c0 := h.c0
  have c1 := h.c1
  have c2 := h.c2
  have hbd : hasB R.n R.S i s = true := hasB_yes (by omega) (by omega) (by omega) (by omega)
  have hcall := call_rack M L R i w h hi
  rw [hE] at hcall
  rw [hoff] at c2
  rw [← hn] at hi few c0 hbd
  rw [← hS] at hs fewS c1 hbd
  have hn' : Hid (n = R.n) := hn
  have hS' : Hid (S = R.S) := hS
  have hM' : Hid (R.call.n = n ∧ R.call.S = S) := by unfold Hid Rk.call; split <;> exact ⟨hn.symm, hS.symm⟩
  clear hn hS hoff hE
  go_enter Try.func24, Try.ntmps24
  go_wp2_with (go_at_call 51; refine (hasSector_yes L.p L.db n n S i s w c0 c1 hbd).mono ?_; rintro e w' ⟨rfl, rfl⟩)
  refine hcall.mono ?_
  rintro e w1 ⟨rfl, hr1, ht1⟩
  have a0 : w1.cell? ⟨L.p, 0, none⟩ = some (.slice (some ⟨L.db, 0, none⟩) n n) := by
    have := hr1.c0
    rwa [hM'.out.1] at this
  have hd1 := hr1.drv i (by rw [hM'.out.1]; exact hi)
  have a1 := hd1.c1
  rw [hM'.out.2] at hd1
  obtain ⟨nn, D, hc'⟩ := hd1.cache
  have hc := hc'.tight
  clear hc'
  have hz1 : Bys w1 (some ⟨b, off, none⟩) 64 zs := bys_turn hz ht1 (fun b' off' e x => by cases e; exact hzM x)
  have i0 : (0 : Int) ≤ (i : Int) := Int.natCast_nonneg _
  have i1 : (i : Int) < (n : Int) := by omega
  have fin : Hid (∀ (w2 w3 : World) (g : Nat), Below w1.drew.heap.size w1.drew w2 → w1.heap.size ≤ g → Bys w2 (some ⟨g, 0, none⟩) 64 zs → w3.ownsMap Try.prog 3 elemR (L.mb i) (S + 1) (D.put (keyI s) (.lit (.int .i64 (g : Int)))) → w2.mapTurned w3 (L.mb i) →
      RackAt w3 M L (R.call.setD i ((R.call.d i).put s zs)) ∧ Turn (L.M R.n) w w3) := by
    intro w2 w3 g hb hg hy hown ht
    have hr2 : RackAt w2 M L R.call := hr1.drew.below hb
    have ht3 := turn_map ht
    have A := hr1.apart
    have hi1 : i < R.call.n := by rw [hM'.out.1]; exact hi
    have hin : i < R.n := by rw [← hn'.out]; exact hi
    have hd2 := hr2.drv i hi1
    have hdm := Ne.symm (A.md i hi1)
    have hgM : ¬ M g := fun x => by have := hr1.low g x; omega
    have hc2 : CacheD w2 M S (L.mb i) (R.call.d i).cache S D := hc.turn ((turn_drew M w1).trans (Turn.of_below hb)) (hb.block _ hc.own.lt)
    have hca := hc2.put fewS hs hgM hy (ht3.mono fun k e => e ▸ h.sub _ (L.M_mb hin)) hown
    refine ⟨hr2.drive hi1 (ht3.mono fun k e => .inr e) ⟨(ht3.cell (a := ⟨L.db, i * 4, none⟩) hd2.lt hdm).trans hd2.c0, (ht3.cell (a := ⟨L.db, i * 4 + 1, none⟩) hd2.lt hdm).trans hd2.c1, (ht3.cell (a := ⟨L.db, i * 4 + 2, none⟩) hd2.lt hdm).trans hd2.c2, (ht3.cell (a := ⟨L.db, i * 4 + 3, none⟩) hd2.lt hdm).trans hd2.c3, hd2.blk.turn ht3 (A.lm i i hi1 hi1), hd2.len, hd2.small, ?_, hd2.big⟩, ?_⟩
    · rw [hM'.out.2]; exact hca
    · exact ((ht1.trans (turn_drew _ w1)).trans (Turn.of_below hb)).trans (ht3.mono fun k e => e ▸ L.M_mb hin)
  have hzd : Bys w1.drew (some ⟨b, off, none⟩) 64 zs := ⟨hz1.len, hz1.small, hz1.place⟩
  have hcd : CacheD w1.drew M S (L.mb i) (R.call.d i).cache S D := hc.turn (turn_drew M w1) rfl
  have lp := hr1.ltp
  have ld := hr1.ltd
  have d0 : w1.drew.cell? ⟨L.p, 0, none⟩ = some (.slice (some ⟨L.db, 0, none⟩) n n) := a0
  have d1 : w1.drew.cell? ⟨L.db, i * 4 + 1, none⟩ = some (.map (some (L.mb i))) := a1
  have np : Hid (L.p ≠ L.mb i) := Lib.hid (Ne.symm (hr1.apart.mp i (by rw [hM'.out.1]; exact hi)))
  have nd : Hid (L.db ≠ L.mb i) := Lib.hid (Ne.symm (hr1.apart.md i (by rw [hM'.out.1]; exact hi)))
  clear h ht1 hz hz1 hc hr1 hd1
  go_wp2_with (fail)
  go_region_held3 (fun w' => w'.cell? ⟨L.p, 0, none⟩ = some (.slice (some ⟨L.db, 0, none⟩) n n) ∧ w'.cell? ⟨L.db, i * 4 + 1, none⟩ = some (.map (some (L.mb i))))
    (first
      | go_keep
      | exact ⟨(hb2.cell (p := ⟨L.p, 0, none⟩) lp).trans d0, (hb2.cell (p := ⟨L.db, i * 4 + 1, none⟩) ld).trans d1⟩
      | exact ⟨((turn_map ht3).cell (a := ⟨L.p, 0, none⟩) (Nat.lt_of_lt_of_le lp hb2.size) np.out).trans ((hb2.cell (p := ⟨L.p, 0, none⟩) lp).trans d0), ((turn_map ht3).cell (a := ⟨L.db, i * 4 + 1, none⟩) (Nat.lt_of_lt_of_le ld hb2.size) nd.out).trans ((hb2.cell (p := ⟨L.db, i * 4 + 1, none⟩) ld).trans d1)⟩)
    (first
      | (go_at_call 52
         refine (clone_new b off 64 c zs _ hzd (by omega) (by omega)).mono ?_
         rintro e w2 ⟨g, cv, rfl, hg, hy2, hb2⟩
         have hc2 := hcd.turn (Turn.of_below hb2) (hb2.block _ hcd.own.lt)
         obtain ⟨w3, hup, hown3, ht3⟩ := hc2.own.store law3 Try.underlying77 (by unfold maxLen; omega) (hkeyI (by omega : s < 4096)) (elemR_mk g cv)))
  go_wp2_with (fail)
  go_ret
  exact ⟨rfl, fin.out w2 w3 g hb2 hg hy2 hown3 ht3⟩

section
variable {w0 w : World} {M : Nat → Prop} {L : Lay} {b : Nat} {R : Rk} {B : Bn}
/-- The rack's Read: a sector of the call's own, to be written to. -/
theorem st_rown (i k : Int) (h : St w0 M L b R B w) (hl : (R.rdV i k).length = 64) : Calls Try.prog 22 #[.pointer (some ⟨L.p, 0, none⟩), .int .i64 i, .int .i64 k] w fun e w' => ∃ g c, e = .returned (.tuple #[.slice (some ⟨g, 0, none⟩) 64 c, .int .i64 (R.rdE i k)]) ∧ w.heap.size ≤ g ∧ Xs w' g (R.rdV i k) ∧ St w0 (also M (· = g)) L b R B w' ∧ Below w.heap.size w w' :=
  (readP_all i k h.rk).mono fun _ _ hp => by
    obtain ⟨v, rfl, hown, hb⟩ := hp
    rw [hl] at hown
    obtain ⟨g, c, rfl, hg, hx⟩ := own_xs hown hl
    have hlt := hx.lt
    exact ⟨g, c, rfl, hg, hx, ⟨h.rk.also hb (fun k e => by subst e; exact ⟨hg, hlt⟩), h.bk.next hb, .inl h.mb, h.nb, fun k x => x.elim (h.lo k) (fun e => by subst e; exact Nat.le_trans h.bel.size hg), h.bel.trans (hb.mono h.bel.size)⟩, hb⟩
theorem St.store (h : St w0 M L b R B w) {g i : Nat} (hg : M g) (hn : ¬ L.M R.n g) (hb : b ≠ g) (v : Value) : St w0 M L b R B (w.setCell ⟨g, i, none⟩ v) :=
  ⟨h.rk.store hg hn v, h.bk.turn (turn_set w g i v) hb, h.mb, h.nb, h.lo, h.bel.setCell (p := ⟨g, i, none⟩) (h.lo g hg) v⟩
/-- The rack's Write, of bytes that may be written to. -/
theorem st_rwrite {C : Nat → Nat → List Int} {i k : Nat} (g c : Nat) (zs : List Int) (h : St w0 M L b R B w) (hv : Vd R 4 41 noD noD C) (hi : i < 4) (hk : k < 41) (hx : Xs w g zs) (hM : ¬ L.M R.n g) : Calls Try.prog 24 #[.pointer (some ⟨L.p, 0, none⟩), .int .i64 i, .int .i64 k, .slice (some ⟨g, 0, none⟩) 64 c] w (StPost w0 M L b (R.wr i k zs) B w (.int .i64 0)) := by
  have hE : R.callE i = 0 := hv.callE hi
  have e : R.wr i k zs = R.call.setD i ((R.call.d i).put k zs) := by
    unfold Rk.wr
    rw [hv.off, hv.hasB hi hk, decide_eq_true hx.len, Int.toNat_natCast, Int.toNat_natCast, hE]
    rfl
  have hw := write_ok2 M L R i k g 0 c zs w h.rk hv.off (by rw [hv.hn]; exact hi) (by rw [hv.hS]; exact hk) hx.bys hM hE
  rw [← e] at hw
  exact hw.mono fun _ _ => h.post (R.wr_n ..)
end
/-- A segment with a sector turned is not sound. -/
theorem spoilt {R : Rk} {C C2 : Nat → Nat → List Int} {g d r : Nat} {q : Int} {zs : List Int} (h : Vw B0 R noD noD C2) (hg : g < 12) (hw : Whl C g q) (hd : d < 3) (hr : r < 3) (hC : C2 = setC C d (5 + (3 * g + r)) zs) (hz : zs.length = 64) (hs : AllB zs) (hne : zs ≠ C d (5 + (3 * g + r))) : sndV B0 R 3 3 g q = false := by
  cases hv : sndV B0 R 3 3 g q with
  | false => rfl
  | true =>
    have hq := hw 0 (by omega)
    have hl : ∀ s a, s < 3 → a < 3 → (C2 s (5 + (3 * g + a))).length = 64 ∧ AllB (C2 s (5 + (3 * g + a))) := fun s a hs2 ha => by
      rw [hC]
      unfold setC
      split
      · exact ⟨hz, hs⟩
      · exact ⟨(hw a ha).len s hs2, (hw a ha).sm s hs2⟩
    have h2 := (h.soundRw hg (fun s a hs2 ha _ => hl s a hs2 ha) hq.q0 hq.q1 hv).2
    have h3 := (h2 r hr).same (hw r hr) hd fun s hs2 hne2 => by
      show C2 s _ = C s _
      rw [hC]
      unfold setC
      rw [if_neg (fun x => hne2 x.1)]
    have h4 : C2 d (5 + (3 * g + r)) = zs := by rw [hC]; unfold setC; rw [if_pos ⟨rfl, rfl⟩]
    have h5 : C2 d (5 + (3 * g + r)) = C d (5 + (3 * g + r)) := h3
    exact absurd (h4.symm.trans h5) hne

end Go.Proofs.Ytciddoeeiamndaa

/-
  StripeSpoilt, walked.
-/
namespace Go.Proofs.Ytciddoeeiamndaa
open Go.RowKit Go.Maps
set_option linter.unusedVariables false

section
variable (a : Option Addr) (n c : Nat) (f : Nat → BlP) (s p t : Int) (w : World)
set_option maxRecDepth 100000 in
set_option maxHeartbeats 1000000 in
theorem spoilt_out (hbl : Bls w a n f) (hn : n ≤ 9223372036854775807) (h : ¬ (fitO f n 6 = true ∧ 0 ≤ s ∧ s ≤ 8 ∧ 0 ≤ p ∧ p < 64 ∧ t ≠ 0)) :
    Calls Try.prog 7 #[.slice a n c, .int .i64 s, .int .i64 p, .int .u8 t] w fun e w' => e = .returned (.bool true) ∧ Below w.heap.size w w' := by
  have HAL := Lib.hid (alive_any w)
  have HFT1 : Hid (∀ w', Below w.heap.size w w' → Calls Try.prog 9 #[.slice a n c, .int .i64 6] w' fun e w'' => e = .returned (.bool (fitO f n 6)) ∧ Below w'.heap.size w' w'') := fun w' hb => fits_any a n c 6 f w' (hbl.next hb) hn
  clear hbl
  cases hf1 : fitO f n 6 with
  | false =>
    rw [hf1] at HFT1
    clear h hf1
    go_enter Try.func7, Try.ntmps7
    go_wp2_with (fail)
    refine HAL.out.mono ?_
    rintro e w1 ⟨rfl, hb1⟩
    go_wp2_with (fail)
    refine (HFT1.out w1 hb1).mono ?_
    rintro e w2 ⟨rfl, hc2⟩
    have hb2 := hb1.trans (hc2.mono hb1.size)
    clear hc2
    go_wp2_with (fail)
    go_ret
    exact ⟨rfl, hb2⟩
  | true =>
    rw [hf1] at HFT1
    by_cases h1 : 0 ≤ s
    · have gh1 : decide (s < 0) = false := decide_eq_false (by omega)
      by_cases h2 : s ≤ 8
      · have gh2 : decide (8 < s) = false := decide_eq_false (by omega)
        by_cases h3 : 0 ≤ p
        · have gh3 : decide (p < 0) = false := decide_eq_false (by omega)
          by_cases h4 : p < 64
          · have gh4 : decide (64 ≤ p) = false := decide_eq_false (by omega)
            by_cases h5 : t ≠ 0
            · exact absurd ⟨hf1, h1, h2, h3, h4, h5⟩ h
            · have sh5 : t = 0 := by omega
              clear h h1 h2 h3 h4 h5
              go_enter Try.func7, Try.ntmps7
              go_wp2_with (fail)
              refine HAL.out.mono ?_
              rintro e w1 ⟨rfl, hb1⟩
              go_wp2_with (fail)
              refine (HFT1.out w1 hb1).mono ?_
              rintro e w2 ⟨rfl, hc2⟩
              have hb2 := hb1.trans (hc2.mono hb1.size)
              clear hc2
              go_wp2_with (fail)
              go_ret
              exact ⟨rfl, hb2⟩
          · have sh4 : 64 ≤ p := by omega
            clear h h1 h2 h3 h4
            go_enter Try.func7, Try.ntmps7
            go_wp2_with (fail)
            refine HAL.out.mono ?_
            rintro e w1 ⟨rfl, hb1⟩
            go_wp2_with (fail)
            refine (HFT1.out w1 hb1).mono ?_
            rintro e w2 ⟨rfl, hc2⟩
            have hb2 := hb1.trans (hc2.mono hb1.size)
            clear hc2
            go_wp2_with (fail)
            go_ret
            exact ⟨rfl, hb2⟩
        · have sh3 : p < 0 := by omega
          clear h h1 h2 h3
          go_enter Try.func7, Try.ntmps7
          go_wp2_with (fail)
          refine HAL.out.mono ?_
          rintro e w1 ⟨rfl, hb1⟩
          go_wp2_with (fail)
          refine (HFT1.out w1 hb1).mono ?_
          rintro e w2 ⟨rfl, hc2⟩
          have hb2 := hb1.trans (hc2.mono hb1.size)
          clear hc2
          go_wp2_with (fail)
          go_ret
          exact ⟨rfl, hb2⟩
      · have sh2 : 8 < s := by omega
        clear h h1 h2
        go_enter Try.func7, Try.ntmps7
        go_wp2_with (fail)
        refine HAL.out.mono ?_
        rintro e w1 ⟨rfl, hb1⟩
        go_wp2_with (fail)
        refine (HFT1.out w1 hb1).mono ?_
        rintro e w2 ⟨rfl, hc2⟩
        have hb2 := hb1.trans (hc2.mono hb1.size)
        clear hc2
        go_wp2_with (fail)
        go_ret
        exact ⟨rfl, hb2⟩
    · have sh1 : s < 0 := by omega
      clear h h1
      go_enter Try.func7, Try.ntmps7
      go_wp2_with (fail)
      refine HAL.out.mono ?_
      rintro e w1 ⟨rfl, hb1⟩
      go_wp2_with (fail)
      refine (HFT1.out w1 hb1).mono ?_
      rintro e w2 ⟨rfl, hc2⟩
      have hb2 := hb1.trans (hc2.mono hb1.size)
      clear hc2
      go_wp2_with (fail)
      go_ret
      exact ⟨rfl, hb2⟩
end

section
variable (a : Option Addr) (n c : Nat) (f : Nat → BlP) (s p : Nat) (t : Int) (w : World)
set_option maxRecDepth 100000 in
set_option maxHeartbeats 1000000 in
theorem spoilt_in (hbl : Bls w a n f) (hn : n ≤ 9223372036854775807) (hfit : fitO f n 6 = true) (hs : s < 9) (hp : p < 64) (ht : 0 ≤ t ∧ t ≤ 255) (ht0 : t ≠ 0) :
    Calls Try.prog 7 #[.slice a n c, .int .i64 s, .int .i64 p, .int .u8 t] w fun e w' => e = .returned (.bool true) ∧ Below w.heap.size w w' := by
  have HE : Hid (encB 9 f n 6 = true) := fit_enc hbl hfit (by omega) (by omega)
  have HSM : Hid (∀ j, j < n → AllB (f j).p.zs) := fun j hj => (hbl.each j hj).bys.small
  have HBL := Lib.hid hbl
  have HFT : Hid (∀ w', Below w.heap.size w w' → Calls Try.prog 9 #[.slice a n c, .int .i64 6] w' fun e w'' => e = .returned (.bool true) ∧ Below w'.heap.size w' w'') := fun w' hb => by
    have := fits_any a n c 6 f w' (hbl.next hb) hn
    rw [hfit] at this
    exact this
  have HAL := Lib.hid (alive_any w)
  have f1 : decide ((s : Int) < 0) = false := decide_eq_false (by omega)
  have f2 : decide ((8 : Int) < (s : Int)) = false := decide_eq_false (by omega)
  have f3 : decide ((p : Int) < 0) = false := decide_eq_false (by omega)
  have f4 : decide ((64 : Int) ≤ (p : Int)) = false := decide_eq_false (by omega)
  have f5 : (t == 0) = false := by simpa using ht0
  have HX : Hid (s < 9 ∧ p < 64) := ⟨hs, hp⟩
  have HT : Hid ((0 ≤ t ∧ t ≤ 255) ∧ t ≠ 0) := ⟨ht, ht0⟩
  have HD : Hid (s % 3 < 3 ∧ s / 3 < 3) := ⟨by omega, by omega⟩
  have r1 : (s : Int).tmod 3 = ((s % 3 : Nat) : Int) := rfl
  have r2 : wrap64 (14 + wrap64 ((s : Int) / 3)) = ((5 + (3 * 3 + s / 3) : Nat) : Int) := by
    unfold wrap64
    omega
  clear hbl hfit hs ht ht0
  go_enter Try.func7, Try.ntmps7
  go_wp2_with (fail)
  refine HAL.out.mono ?_
  rintro e w1 ⟨rfl, hb1⟩
  go_wp2_with (fail)
  refine (HFT.out w1 hb1).mono ?_
  rintro e w2 ⟨rfl, hb2⟩
  have HB2 := Lib.hid (hb1.trans (hb2.mono hb1.size))
  clear hb1 hb2 HAL HFT
  go_wp2_with (fail)
  refine (open_small w2).mono ?_
  rintro e w3 ⟨L, b, rfl, hst⟩
  have hbl3 := HBL.out.next (HB2.out.trans (hst.bel.mono HB2.out.size))
  have hwr := st_write sml0 3 9 a n c f hst hbl3 hn
  obtain ⟨e1, v1⟩ := Vd.start.write sml0 rfl (by decide) (g := 3) (q := 9) (by omega) (by omega) (by omega) HE.out HSM.out
  rw [show wrE B0 (newRk 4 41) 3 3 3 9 f n = 0 from e1] at hwr
  obtain ⟨R1, hR1⟩ : ∃ R1, R1 = wrR B0 (newRk 4 41) 3 3 3 9 f n := ⟨_, rfl⟩
  rw [← hR1] at hwr
  rw [show wrR B0 (newRk 4 41) 3 3 (3 : Nat) 9 f n = R1 from hR1.symm] at v1
  obtain ⟨C, hC⟩ : ∃ C, C = wrS (fun _ _ => List.replicate 64 0) 3 9 f n 3 := ⟨_, rfl⟩
  have HW : Hid (Whl C 3 9) := by rw [hC]; exact wrS_whl HE.out HSM.out
  rw [← hC] at v1
  have HV1 := Lib.hid v1
  have HV1w := Lib.hid v1.vw0
  obtain ⟨d, hd⟩ : ∃ d, d = s % 3 := ⟨_, rfl⟩
  obtain ⟨r, hr⟩ : ∃ r, r = s / 3 := ⟨_, rfl⟩
  rw [← hd, ← hr] at HD
  rw [← hd] at r1
  rw [← hr] at r2
  obtain ⟨z, hz⟩ : ∃ z, z = 5 + (3 * 3 + r) := ⟨_, rfl⟩
  rw [← hz] at r2
  have HZ := Lib.hid hz
  clear hC hR1 v1 e1 hst hbl3 HE HSM hd hr hz
  go_wp2_with (fail)
  refine hwr.mono ?_
  rintro e w4 ⟨rfl, hst4, _⟩
  obtain ⟨a1, a2⟩ := HV1.out.rdd (i := d) (k := z) (by have := HD.out; omega) (by have := HD.out; have := HZ.out; omega)
  have hlen := HV1.out.len d z (by have := HD.out; omega) (by have := HD.out; have := HZ.out; omega)
  have a2' := a2 rfl
  have hrd := st_rown d z hst4 (by rw [a2']; exact hlen)
  rw [show R1.rdE d z = 0 from a1, a2'] at hrd
  have HLEN := Lib.hid hlen
  have hst4r := Lib.hid hst4
  clear hwr hst4 a1 a2 a2' hlen
  go_wp2_with (fail)
  rw [r2]
  refine hrd.mono ?_
  rintro e w5 ⟨g, c5, rfl, hg5, hx5, hst5, _⟩
  have HGL : Hid (¬ L.M 4 g) := fun x => by
    have h1 := hst4r.out.rk.low g (.inl x)
    omega
  have HGB : Hid (b ≠ g) := fun x => by
    have h1 := hst4r.out.rk.low b hst4r.out.mb
    omega
  have hsd := st_sound sml0 3 9 hst5
  rw [show sndV B0 R1 3 3 3 9 = true from HV1w.out.sound (g := 3) (by omega) HW.out (fun _ _ => rfl), show chkE R1 (segO B0 3) = 0 from HV1w.out.chk (HV1w.out.seg (g := 3) (by omega))] at hsd
  obtain ⟨Z, hZ⟩ : ∃ Z, Z = C d z := ⟨_, rfl⟩
  rw [← hZ] at hx5
  have HZ0 := Lib.hid hZ
  have HX5 := Lib.hid hx5
  clear hrd hst5 hg5 hst4r hZ hx5
  go_wp2_with (fail)
  refine hsd.mono ?_
  rintro e w6 ⟨rfl, hst6, hb6⟩
  have hx6 := HX5.out.next hb6
  have c0 := hx6.cell p hp
  have fr0 := hx6.free p
  have hlg := hx6.lt
  obtain ⟨w7, hw7⟩ : ∃ w7, w7 = w6.setCell ⟨g, p, none⟩ (.int .u8 (bits .xor .u8 (byt Z p) t)) := ⟨_, rfl⟩
  have hx7 := hx6.set hp HT.out.1
  have hst7 := hst6.store (g := g) (i := p) (.inr rfl) (by rw [HV1.out.hn]; exact HGL.out) HGB.out (.int .u8 (bits .xor .u8 (byt Z p) t))
  rw [← hw7] at hx7 hst7
  have hdz : d < 4 ∧ z < 41 := by have := HD.out; have := HZ.out; omega
  have hwr2 := st_rwrite (i := d) (k := z) g c5 _ hst7 HV1.out hdz.1 hdz.2 hx7 (by rw [HV1.out.hn]; exact HGL.out)
  obtain ⟨b1, b2⟩ := HV1.out.wr (i := d) (k := z) (zs := trn Z p t) hdz.1 hdz.2 hx7.len
  obtain ⟨R2, hR2⟩ : ∃ R2, R2 = R1.wr d z (trn Z p t) := ⟨_, rfl⟩
  rw [← hR2] at hwr2 b2
  have v2 : Vd R2 4 41 noD noD (setC C d z (trn Z p t)) := b2.congr (fun _ _ => rfl) (fun _ _ _ => rfl)
  have HV2 := Lib.hid v2
  have HX7 := Lib.hid hx7
  have HZS : Hid (Z.length = 64 ∧ AllB Z) := ⟨HX5.out.len, HX5.out.sm⟩
  have HS2 : Hid (sndV B0 R2 3 3 3 9 = false) := by
    refine spoilt (g := 3) (r := r) (d := d) (zs := trn Z p t) v2.vw0 (by omega) HW.out HD.out.1 HD.out.2 (by rw [HZ.out]) hx7.len hx7.sm ?_
    rw [← HZ.out, ← HZ0.out]
    exact trn_ne HZS.out.2 (by rw [HZS.out.1]; exact hp) HT.out.1.1 HT.out.2
  have HC2 : Hid (chkE R2 (segO B0 3) = 0) := v2.vw0.chk (v2.vw0.seg (g := 3) (by omega))
  clear hsd hst6 hb6 hx6 hx7 hst7 b1 b2 v2 hR2
  go_wp2_with (fail)
  rw [← hw7]
  clear hw7 c0 fr0 hlg
  refine hwr2.mono ?_
  rintro e w8 ⟨rfl, hst8, ht8⟩
  have hx8 := HX7.out.turn ht8 (by rw [HV2.out.hn]; exact HGL.out)
  have HX8 := Lib.hid hx8
  have hsd2 := st_sound sml0 3 9 hst8
  rw [show sndV B0 R2 3 3 3 9 = false from HS2.out, HC2.out] at hsd2
  clear hwr2 hst8 ht8 hx8
  go_wp2_with (fail)
  refine hsd2.mono ?_
  rintro e w9 ⟨rfl, hst9, hb9⟩
  have hx9 := HX8.out.next hb9
  have c0 := hx9.cell p hp
  have fr0 := hx9.free p
  have hlg := hx9.lt
  obtain ⟨wa, hwa⟩ : ∃ wa, wa = w9.setCell ⟨g, p, none⟩ (.int .u8 (bits .xor .u8 (byt (trn Z p t) p) t)) := ⟨_, rfl⟩
  have hxa := hx9.set hp HT.out.1
  have hsta := hst9.store (g := g) (i := p) (.inr rfl) (by rw [HV2.out.hn]; exact HGL.out) HGB.out (.int .u8 (bits .xor .u8 (byt (trn Z p t) p) t))
  rw [← hwa] at hxa hsta
  rw [trn_twice HZS.out.2 (by rw [HZS.out.1]; exact hp)] at hxa
  have hwr3 := st_rwrite (i := d) (k := z) g c5 _ hsta HV2.out hdz.1 hdz.2 hxa (by rw [HV2.out.hn]; exact HGL.out)
  obtain ⟨b1, b2⟩ := HV2.out.wr (i := d) (k := z) (zs := Z) hdz.1 hdz.2 HZS.out.1
  obtain ⟨R3, hR3⟩ : ∃ R3, R3 = R2.wr d z Z := ⟨_, rfl⟩
  rw [← hR3] at hwr3 b2
  have v3 : Vd R3 4 41 noD noD C := (b2.congr (bad' := noD) (D' := noD) (fun _ _ => rfl) (fun _ _ _ => rfl)).other (fun i k hi hk _ => by
    unfold setC
    by_cases e : i = d ∧ k = z
    · rw [if_pos e, e.1, e.2, HZ0.out]
    · rw [if_neg e, if_neg e]) HV1.out.len
  have HS3 : Hid (sndV B0 R3 3 3 3 9 = true ∧ chkE R3 (segO B0 3) = 0) := ⟨v3.vw0.sound (g := 3) (by omega) HW.out (fun _ _ => rfl), v3.vw0.chk (v3.vw0.seg (g := 3) (by omega))⟩
  clear hsd2 hst9 hb9 hx9 hxa hsta b1 b2 v3 hR3
  go_wp2_with (fail)
  rw [← hwa]
  clear hwa c0 fr0 hlg
  refine hwr3.mono ?_
  rintro e wb ⟨rfl, hstb, _⟩
  have hsd3 := st_sound sml0 3 9 hstb
  rw [HS3.out.1, HS3.out.2] at hsd3
  clear hwr3 hstb
  go_wp2_with (fail)
  refine hsd3.mono ?_
  rintro e wc ⟨rfl, hstc, _⟩
  have HSTC := Lib.hid hstc
  clear hsd3 hstc
  go_wp2_with (fail)
  go_ret
  exact ⟨rfl, HB2.out.trans (HSTC.out.bel.mono HB2.out.size)⟩
end
theorem spoiltW_any (a : Option Addr) (n c : Nat) (f : Nat → BlP) (s p t : Int) (w : World) (hbl : Bls w a n f) (hn : n ≤ 9223372036854775807) (ht : (Lit.int .u8 t).wf = true) :
    Calls Try.prog 7 #[.slice a n c, .int .i64 s, .int .i64 p, .int .u8 t] w fun e w' => e = .returned (.bool true) ∧ Below w.heap.size w w' := by
  by_cases h : fitO f n 6 = true ∧ 0 ≤ s ∧ s ≤ 8 ∧ 0 ≤ p ∧ p < 64 ∧ t ≠ 0
  · obtain ⟨h1, h2, h3, h4, h5, h6⟩ := h
    obtain ⟨s, rfl⟩ := Int.eq_ofNat_of_zero_le h2
    obtain ⟨p, rfl⟩ := Int.eq_ofNat_of_zero_le h4
    exact spoilt_in a n c f s p t w hbl hn h1 (by omega) (by omega) (wf_u8 ht) h6
  · exact spoilt_out a n c f s p t w hbl hn h

end Go.Proofs.Ytciddoeeiamndaa
