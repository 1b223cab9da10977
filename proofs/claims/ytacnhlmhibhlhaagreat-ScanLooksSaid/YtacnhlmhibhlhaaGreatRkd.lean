/-
  The bank and the reference's bank answer alike, and keep their racks alike.
-/
import Derived.Test.YtacnhlmhibhlhaaGreatRkc
import Derived.Test.YtacnhlmhibhlhaaGreatRkb
import Derived.Test.YtacnhlmhibhlhaaGreatSta
import Derived.Test.YtacnhlmhibhlhaaGreatRop
set_option linter.unusedSimpArgs false
set_option linter.unusedVariables false
namespace Go.Proofs.YtacnhlmhibhlhaaGreat
open Go.RowKit Go.Maps
set_option linter.unusedVariables false

/-- Each sector reads 64 bytes. -/
def Lens (R : Rk) : Prop := ∀ j s, j < R.n → s < R.S → ((R.d j).read s).length = 64
theorem Rk.fl_S (R : Rk) (i : Int) : (R.fl i).S = R.S := by
  unfold Rk.fl
  split
  · split
    · exact R.call_S
    · exact R.call_S
  · rfl
theorem Lens.fl {R : Rk} (h : Lens R) (i : Int) : Lens (R.fl i) := by
  intro j s hj hs
  rw [Rk.fl_n] at hj
  rw [Rk.fl_S] at hs
  unfold Rk.fl
  split
  · split
    · show ((if j = i.toNat then (R.call.d i.toNat).flush R.S else R.call.d j).read s).length = 64
      by_cases e : j = i.toNat
      · rw [if_pos e]
        subst e
        have h1 : ∀ t, t < R.S → ((R.call.d i.toNat).read t).length = 64 := fun t ht => by rw [called_read]; exact h _ _ hj ht
        show ((none : Option (List Int)).getD (sec (joinS R.S (R.call.d i.toNat).read) s)).length = 64
        rw [Option.getD_none, sec_join h1 hs]
        exact h1 s hs
      · rw [if_neg e, called_read]
        exact h j s hj hs
    · rw [called_read]; exact h j s hj hs
  · exact h j s hj hs
theorem RackAt.lens {w : World} {M : Nat → Prop} {L : Lay} {R : Rk} (h : RackAt w M L R) : Lens R := fun j s hj hs => (Dk.read_len (h.drv j hj) hs).1

section
variable {R : Rk} {F : Rf}
theorem Rel.brV (h : Rel R F) (B : Bn) (i k : Int) : brV B R i k = rcV B F i k := by unfold Go.Proofs.YtacnhlmhibhlhaaGreat.brV rcV; rw [h.rdV]
theorem Rel.brE (h : Rel R F) (B : Bn) (i k : Int) : brE B R i k = rcE B F i k := by unfold Go.Proofs.YtacnhlmhibhlhaaGreat.brE rcE; rw [h.rdE]
theorem Rel.badL (h : Rel R F) (B : Bn) : ∀ n, badL B R n = rbadL B F n
  | 0 => rfl
  | n + 1 => by
    have e : badP B R (n : Int) = rbadP B F (n : Int) := by unfold badP rbadP; rw [h.failed]
    show (if _ then _ else _) = (if _ then _ else _)
    rw [e, h.badL B n]
end

/-- The bank and the reference's bank beside each other. -/
structure Two (w0 : World) (M : Nat → Prop) (L : Lay) (K : RLay) (b y : Nat) (R : Rk) (F : Rf) (B : Bn) (w : World) : Prop where
  st : St w0 M L b R B w
  rf : RefAt w M K F
  rb : RbAt w y K.p B
  my : M y
  ny : ¬ L.M R.n y
  kb : ¬ K.M b
  ky : ¬ K.M y
  ne : ∀ k, L.M R.n k → ¬ K.M k
  by' : b ≠ y
  rel : Rel R F
section
variable {w0 w w' : World} {M : Nat → Prop} {L : Lay} {K : RLay} {b y n : Nat} {R : Rk} {F : Rf} {B : Bn}
theorem Two.next (h : Two w0 M L K b y R F B w) (hb : Below w.heap.size w w') : Two w0 M L K b y R F B w' :=
  ⟨h.st.next hb, h.rf.below hb, h.rb.next hb, h.my, h.ny, h.kb, h.ky, h.ne, h.by', h.rel⟩
/-- The program's bank has been called, the reference's not yet. -/
structure Mid (w0 : World) (M : Nat → Prop) (L : Lay) (K : RLay) (b y : Nat) (R : Rk) (F : Rf) (B C : Bn) (w : World) : Prop where
  st : St w0 M L b R B w
  rf : RefAt w M K F
  rb : RbAt w y K.p C
  my : M y
  ny : ¬ L.M R.n y
  kb : ¬ K.M b
  ky : ¬ K.M y
  ne : ∀ k, L.M R.n k → ¬ K.M k
  by' : b ≠ y
theorem Two.prog {R' : Rk} {v : Value} {e : Ending} (h : Two w0 M L K b y R F B w) (hn : R'.n = R.n) (hp : StPost w0 M L b R' B w v e w') : e = .returned v ∧ Mid w0 M L K b y R' F B B w' ∧ Turn (L.M R.n) w w' := by
  obtain ⟨he, hs, ht⟩ := hp
  rw [hn] at ht
  exact ⟨he, ⟨hs, h.rf.keep ht (fun k hk => h.st.rk.sub k hk) (fun k hk x => h.ne k x hk), h.rb.turn ht h.ny, h.my, by rw [hn]; exact h.ny, h.kb, h.ky, by rw [hn]; exact h.ne, h.by'⟩, ht⟩
theorem Mid.ref {F' : Rf} {v : Value} {e : Ending} (h : Mid w0 M L K b y R F B B w) (hp : RefPost M K F' w v e w') (hr : Rel R F') : e = .returned v ∧ Two w0 M L K b y R F' B w' := by
  obtain ⟨he, hs, ht⟩ := hp
  have hsub := h.rf.sub
  exact ⟨he, ⟨⟨h.st.rk.keep ht (fun k hk => hsub k hk) (fun k hk x => h.ne k hk x), h.st.bk.turn ht h.kb, h.st.mb, h.st.nb, h.st.lo, h.st.bel.trans (ht.below h.st.bel.size (fun k hk => h.st.lo k (hsub k hk)))⟩, hs, h.rb.turn ht h.ky, h.my, h.ny, h.kb, h.ky, h.ne, h.by', hr⟩⟩
end

end Go.Proofs.YtacnhlmhibhlhaaGreat

/-
  Both banks, opened whatever the racks; both flushed.
-/
namespace Go.Proofs.YtacnhlmhibhlhaaGreat
open Go.RowKit Go.Maps
set_option linter.unusedVariables false
section
variable {R : Rk} {F : Rf}
theorem Rel.flG (h : Rel R F) (hl : Lens R) (B : Bn) (i : Nat) : (flG B R i).2.1 = (rflG B F i).2.1 ∧ Rel (flG B R i).2.2 (rflG B F i).2.2 := by
  have := goN_rel (st := Rk.fl) (er := Rk.flT) (ds := fun i => B.disk (i : Int)) (s := R) (st' := Rf.fl) (er' := Rf.flT) (t := F) (fun R F => Rel R F ∧ Lens R) ⟨h, hl⟩ (fun x y d hp => ⟨hp.1.fl d hp.2, hp.2.fl d⟩) (fun x y d hp => by unfold Rk.flT Rf.flT; rw [hp.1.flE]) i
  exact ⟨this.2.1, this.2.2.1⟩
end
theorem RefAt.also {w w' : World} {M N : Nat → Prop} {L : RLay} {F : Rf} (h : RefAt w M L F) (hb : Below w.heap.size w w') (hN : ∀ k, N k → w.heap.size ≤ k ∧ k < w'.heap.size) : RefAt w' (Go.Proofs.YtacnhlmhibhlhaaGreat.also M N) L F := by
  have hw := h.below hb
  obtain ⟨fl, fc, h⟩ := h
  have hs : ∀ {v : Value} {zs : List Int}, SlL w M v zs → SlL w' (Go.Proofs.YtacnhlmhibhlhaaGreat.also M N) v zs := by
    rintro v zs ⟨g, c, rfl, hg, hy⟩
    refine ⟨g, c, rfl, fun x => ?_, hy.next hb⟩
    rcases x with x | x
    · exact hg x
    · rcases hy.place with h0 | ⟨b, off, e, hl, _⟩
      · omega
      · cases e
        have := (hN _ x).1
        omega
  have ht : Turn (fun _ => False) w w' := Turn.of_below hb
  have hf := h.keep ht (fun _ x => x.elim) (fun _ _ x => x)
  exact ⟨fl, fc, ⟨hf.row, hf.cl, hf.cc, hf.cb, hf.cn, fun k hk => hs (h.last k hk), fun k hk => (h.cach k hk).imp id fun ⟨zs, e, hz⟩ => ⟨zs, e, hs hz⟩, hf.apart, fun k hk => .inl (h.sub k hk), fun k hk => hk.elim (fun x => Nat.lt_of_lt_of_le (h.low k x) hb.size) (fun x => (hN k x).2), hf.few, hf.one, hf.fewS, hf.bigp, hf.bigc⟩⟩

/-- Both banks, opened. -/
theorem Two.opened {w0 W w5 w6 : World} {L : Lay} {K : RLay} {R : Rk} {F : Rf} {d r s e sl st : Int} {en en' : Ending} (hb : Both W L K R F) (hr : Rel R F) (hlo : ∀ k, L.M R.n k ∨ K.M k → w0.heap.size ≤ k) (hbel : Below w0.heap.size w0 W)
    (h5 : OpenPost L.p R d r s e sl st W en w5) (h6 : ROpenPost K.p R d r s e sl st w5 en' w6) (hok : openOk R d r s sl st = true) :
    ∃ M b y, en = .returned (.tuple #[.pointer (some ⟨b, 0, none⟩), .int .i64 0]) ∧ en' = .returned (.tuple #[.pointer (some ⟨y, 0, none⟩), .int .i64 0]) ∧ Two w0 M L K b y R F ⟨d, r, s, e, sl, st⟩ w6 := by
  obtain ⟨hb5, h5⟩ := h5
  obtain ⟨hb6, h6⟩ := h6
  rw [hok, if_pos rfl] at h5 h6
  obtain ⟨b, rfl, hlb, hB⟩ := h5
  obtain ⟨y, rfl, hly, hY⟩ := h6
  have hbl := hB.lt
  have hyl := hY.lt
  have hW6 : Below W.heap.size W w6 := hb5.trans (hb6.mono hb5.size)
  have hs5 := hb5.size
  have hs6 := hb6.size
  have hN : ∀ k, (k = b ∨ k = y) → W.heap.size ≤ k ∧ k < w6.heap.size := by
    rintro k (rfl | rfl) <;> omega
  have hL : ∀ k, L.M R.n k → k < W.heap.size := fun k hk => hb.rk.low k (hb.rk.sub k hk)
  have hK : ∀ k, K.M k → k < W.heap.size := fun k hk => hb.rf.low k (hb.rf.sub k hk)
  have hs0 := hbel.size
  refine ⟨also (fun k => L.M R.n k ∨ K.M k) (fun k => k = b ∨ k = y), b, y, rfl, rfl, ⟨hb.rk.also hW6 hN, hB.next hb6, .inr (.inl rfl), fun x => ?_, fun k hk => ?_, hbel.trans (hW6.mono hs0)⟩, hb.rf.also hW6 hN, hY, .inr (.inr rfl), fun x => ?_, fun x => ?_, fun x => ?_, hb.ne, by omega, hr⟩
  · have := hL _ x; omega
  · rcases hk with hk | hk
    · exact hlo k hk
    · have := (hN k hk).1; omega
  · have := hL _ x; omega
  · have := hK _ x; omega
  · have := hK _ x; omega
end Go.Proofs.YtacnhlmhibhlhaaGreat
