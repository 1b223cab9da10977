/-
  Disks gone over, one behind the other, as long as none answers that the power is off.
-/
import Derived.Test.YtciddoeeiamndaaGreatDisks
namespace Go.Proofs.YtciddoeeiamndaaGreat
open Go.RowKit Go.Maps

/-- Has it been stopped? What is answered. What is left. -/
def goN {σ : Type} (st : σ → Int → σ) (er : σ → Int → Int) (ds : Nat → Int) (s : σ) : Nat → Bool × Int × σ
  | 0 => (false, 0, s)
  | i + 1 => if (goN st er ds s i).1 then goN st er ds s i else
      if er (goN st er ds s i).2.2 (ds i) = 12 then (true, 12, st (goN st er ds s i).2.2 (ds i))
      else (false, if er (goN st er ds s i).2.2 (ds i) = 11 then 11 else (goN st er ds s i).2.1, st (goN st er ds s i).2.2 (ds i))
section
variable {σ : Type} {st : σ → Int → σ} {er : σ → Int → Int} {ds : Nat → Int} {s : σ} {i : Nat}
theorem goN_on (h : (goN st er ds s i).1 = true) : goN st er ds s (i + 1) = goN st er ds s i := by rw [goN, if_pos h]
theorem goN_end (h : (goN st er ds s i).1 = true) : ∀ j, i ≤ j → goN st er ds s j = goN st er ds s i := by
  intro j hj
  induction j with
  | zero => rw [Nat.le_zero.1 hj]
  | succ j ih =>
    rcases Nat.lt_or_ge i (j + 1) with h1 | h1
    · have e := ih (by omega)
      rw [goN_on (by rw [e]; exact h), e]
    · rw [Nat.le_antisymm hj h1]
theorem goN_stop (h : (goN st er ds s i).1 = false) (h12 : er (goN st er ds s i).2.2 (ds i) = 12) : goN st er ds s (i + 1) = (true, 12, st (goN st er ds s i).2.2 (ds i)) := by
  rw [goN, if_neg (by rw [h]; simp), if_pos h12]
theorem goN_go (h : (goN st er ds s i).1 = false) (h12 : er (goN st er ds s i).2.2 (ds i) ≠ 12) :
    goN st er ds s (i + 1) = (false, if er (goN st er ds s i).2.2 (ds i) = 11 then 11 else (goN st er ds s i).2.1, st (goN st er ds s i).2.2 (ds i)) := by
  rw [goN, if_neg (by rw [h]; simp), if_neg h12]
theorem goN_12 (h : (goN st er ds s i).1 = true) : (goN st er ds s i).2.1 = 12 := by
  induction i with
  | zero => cases h
  | succ i ih =>
    cases h1 : (goN st er ds s i).1 with
    | true => rw [goN_on h1]; exact ih h1
    | false =>
      by_cases h2 : er (goN st er ds s i).2.2 (ds i) = 12
      · rw [goN_stop h1 h2]
      · rw [goN_go h1 h2] at h; cases h
theorem goN_keep (P : σ → Prop) (h0 : P s) (hs : ∀ x d, P x → P (st x d)) : ∀ i, P (goN st er ds s i).2.2 := by
  intro i
  induction i with
  | zero => exact h0
  | succ i ih =>
    cases h1 : (goN st er ds s i).1 with
    | true => rw [goN_on h1]; exact ih
    | false =>
      by_cases h2 : er (goN st er ds s i).2.2 (ds i) = 12
      · rw [goN_stop h1 h2]; exact hs _ _ ih
      · rw [goN_go h1 h2]; exact hs _ _ ih
/-- Two that keep alike. -/
theorem goN_rel {τ : Type} {st' : τ → Int → τ} {er' : τ → Int → Int} {t : τ} (P : σ → τ → Prop) (h0 : P s t) (hs : ∀ x y d, P x y → P (st x d) (st' y d)) (he : ∀ x y d, P x y → er x d = er' y d) :
    ∀ i, (goN st er ds s i).1 = (goN st' er' ds t i).1 ∧ (goN st er ds s i).2.1 = (goN st' er' ds t i).2.1 ∧ P (goN st er ds s i).2.2 (goN st' er' ds t i).2.2 := by
  intro i
  induction i with
  | zero => exact ⟨rfl, rfl, h0⟩
  | succ i ih =>
    obtain ⟨i1, i2, i3⟩ := ih
    cases h1 : (goN st er ds s i).1 with
    | true => rw [goN_on h1, goN_on (i1 ▸ h1)]; exact ⟨i1, i2, i3⟩
    | false =>
      have h1' : (goN st' er' ds t i).1 = false := i1 ▸ h1
      have hE := he _ _ (ds i) i3
      by_cases h2 : er (goN st er ds s i).2.2 (ds i) = 12
      · rw [goN_stop h1 h2, goN_stop h1' (hE ▸ h2)]; exact ⟨rfl, rfl, hs _ _ _ i3⟩
      · rw [goN_go h1 h2, goN_go h1' (hE ▸ h2)]
        exact ⟨rfl, by show (if _ then _ else _) = (if _ then _ else _); rw [hE, i2], hs _ _ _ i3⟩
end

section
variable {w w' : World} {M : Nat → Prop} {L : Lay} {R : Rk} {l : Nat}
theorem Bys.aside {a : Option Addr} {n : Nat} {zs : List Int} (h : Bys w a n zs) (ha : Aside l w w') : Bys w' a n zs := by
  refine ⟨h.len, h.small, ?_⟩
  rcases h.place with h0 | ⟨b, off, e, hlt, hc⟩
  · exact .inl h0
  · exact .inr ⟨b, off, e, Nat.lt_of_lt_of_le hlt ha.turn.size, fun i hi => ha.cell (hc i hi)⟩
theorem DrvAt.aside {S db o lb mb : Nat} {d : Dk} (h : DrvAt w M S db o lb mb d) (ha : Aside l w w') (hm : mb ≠ l) : DrvAt w' M S db o lb mb d := by
  obtain ⟨n, D, hc⟩ := h.cache
  refine ⟨ha.cell h.c0, ha.cell h.c1, ha.cell h.c2, ha.cell h.c3, ⟨ha.block h.blk.row⟩, h.len, h.small, ⟨n, D, ?_⟩, h.big⟩
  exact ⟨ownsMap_of_row hc.own (ha.turn.block _ hc.own.lt hm), hc.has, fun s zs hs hC => by
    obtain ⟨g, hg, hat, hy⟩ := hc.lies s zs hs hC
    exact ⟨g, hg, hat, hy.aside ha⟩, hc.keys⟩
theorem RackAt.aside (h : RackAt w M L R) (ha : Aside l w w') (hl : ¬ L.M R.n l) : RackAt w' M L R := by
  obtain ⟨cs, hcs⟩ := h.rows
  exact ⟨ha.block h.row, ⟨cs, ha.block hcs⟩, fun i hi => (h.drv i hi).aside ha (fun e => hl (e ▸ L.M_mb hi)), h.apart, h.sub, fun k hk => Nat.lt_of_lt_of_le (h.low k hk) ha.turn.size, h.few, h.fewS, h.big⟩
/-- More blocks may turn, that are new. -/
def also (M N : Nat → Prop) : Nat → Prop := fun k => M k ∨ N k
theorem RackAt.also {N : Nat → Prop} (h : RackAt w M L R) (hb : Below w.heap.size w w') (hN : ∀ k, N k → w.heap.size ≤ k ∧ k < w'.heap.size) : RackAt w' (also M N) L R :=
  h.wide hb (fun _ x => x.elim .inl fun y => .inr (hN _ y).1) (fun _ x => .inl x) (fun k x => x.elim (fun y => Nat.lt_of_lt_of_le (h.low k y) hb.size) fun y => (hN _ y).2)
theorem RackAt.narrow {M' : Nat → Prop} (h : RackAt w M' L R) (hM : ∀ k, M k → M' k) (hs : ∀ k, L.M R.n k → M k) : RackAt w M L R :=
  ⟨h.row, h.rows, fun i hi => by
    have hd := h.drv i hi
    obtain ⟨n, D, hc⟩ := hd.cache
    exact ⟨hd.c0, hd.c1, hd.c2, hd.c3, hd.blk, hd.len, hd.small, ⟨n, D, hc.own, hc.has, fun s zs hs hC => by
      obtain ⟨g, hg, hat, hy⟩ := hc.lies s zs hs hC
      exact ⟨g, fun x => hg (hM _ x), hat, hy⟩, hc.keys⟩, hd.big⟩, h.apart, hs, fun k hk => h.low k (hM k hk), h.few, h.fewS, h.big⟩
theorem RackAt.store (h : RackAt w M L R) {b i : Nat} (hb : M b) (hn : ¬ L.M R.n b) (u : Value) : RackAt (w.setCell ⟨b, i, none⟩ u) M L R :=
  h.keep (turn_set w b i u) (fun _ e => e ▸ hb) (fun _ hk e => hn (e ▸ hk))
theorem BnAt.aside {b p : Nat} {B : Bn} (h : BnAt w b p B) (ha : Aside l w w') : BnAt w' b p B := ⟨ha.block h.row⟩
theorem Turn.aside {N : Nat → Prop} {w0 : World} (h : Turn N w0 w) (ha : Aside l w w') (hl : w0.heap.size ≤ l) : Turn N w0 w' :=
  ⟨ha.turn.os.trans h.os, ha.turn.tape.trans h.tape, ha.turn.output.trans h.output, Nat.le_trans h.size ha.turn.size, fun k hk hn => (ha.turn.block k (Nat.lt_of_lt_of_le hk h.size) (by omega)).trans (h.block k hk hn)⟩
theorem Turn.off {N : Nat → Prop} {w0 : World} {b i : Nat} (h : Turn N w0 w) (hb : w0.heap.size ≤ b) (u : Value) : Turn N w0 (w.setCell ⟨b, i, none⟩ u) :=
  ⟨h.os, h.tape, h.output, by simpa using h.size, fun k hk hn => (Below.heap_setCell w _ u k (by show k ≠ b; omega)).trans (h.block k hk hn)⟩
end

end Go.Proofs.YtciddoeeiamndaaGreat
