/-
  The bank and the reference's bank answer alike, and keep their racks alike.
-/
import Derived.Test.YtoiidhpohghiaaaGreatRal
import Derived.Test.YtoiidhpohghiaaaGreatRly
import Derived.Test.YtoiidhpohghiaaaGreatSt
namespace Go.Proofs.YtoiidhpohghiaaaGreat
open Go.RowKit Go.Maps
set_option linter.unusedVariables false

/-- Each sector reads 64 bytes. -/
def Lens (R : Rk) : Prop := ∀ j s, j < R.n → s < R.S → ((R.d j).read s).length = 64
theorem Rk.fl_S (R : Rk) (i : Int) : (R.fl i).S = R.S := by
  unfold Rk.fl
  split
  · split
    · exact R.call_S
    · exact R.call_S
  · rfl
theorem Lens.fl {R : Rk} (h : Lens R) (i : Int) : Lens (R.fl i) := by
  intro j s hj hs
  rw [Rk.fl_n] at hj
  rw [Rk.fl_S] at hs
  unfold Rk.fl
  split
  · split
    · show ((if j = i.toNat then (R.call.d i.toNat).flush R.S else R.call.d j).read s).length = 64
      by_cases e : j = i.toNat
      · rw [if_pos e]
        subst e
        have h1 : ∀ t, t < R.S → ((R.call.d i.toNat).read t).length = 64 := fun t ht => by rw [called_read]; exact h _ _ hj ht
        show ((none : Option (List Int)).getD (sec (joinS R.S (R.call.d i.toNat).read) s)).length = 64
        rw [Option.getD_none, sec_join h1 hs]
        exact h1 s hs
      · rw [if_neg e, called_read]
        exact h j s hj hs
    · rw [called_read]; exact h j s hj hs
  · exact h j s hj hs
theorem RackAt.lens {w : World} {M : Nat → Prop} {L : Lay} {R : Rk} (h : RackAt w M L R) : Lens R := fun j s hj hs => (Dk.read_len (h.drv j hj) hs).1

section
variable {R : Rk} {F : Rf}
theorem Rel.brV (h : Rel R F) (B : Bn) (i k : Int) : brV B R i k = rbV B F i k := by unfold Go.Proofs.YtoiidhpohghiaaaGreat.brV rbV; rw [h.rdV]
theorem Rel.brE (h : Rel R F) (B : Bn) (i k : Int) : brE B R i k = rbE B F i k := by unfold Go.Proofs.YtoiidhpohghiaaaGreat.brE rbE; rw [h.rdE]
theorem Rel.bwE (h : Rel R F) (B : Bn) (i k : Int) (zs : List Int) : bwE B R i k zs = rwE B F i k zs := by unfold Go.Proofs.YtoiidhpohghiaaaGreat.bwE rwE; rw [h.wrE]
theorem Rel.bw (h : Rel R F) (B : Bn) (i k : Int) (zs : List Int) : Rel (bw B R i k zs) (rw' B F i k zs) := by
  unfold Go.Proofs.YtoiidhpohghiaaaGreat.bw rw'
  split
  · exact h.wr _ _ _
  · exact h
theorem Rel.badL (h : Rel R F) (B : Bn) : ∀ n, badL B R n = rbadL B F n
  | 0 => rfl
  | n + 1 => by
    have e : badP B R (n : Int) = rbadP B F (n : Int) := by unfold badP rbadP; rw [h.failed]
    show (if _ then _ else _) = (if _ then _ else _)
    rw [e, h.badL B n]
theorem Rel.alL (h : Rel R F) (B : Bn) (k : Int) : ∀ n, alL B k R n = ralL B k F n
  | 0 => rfl
  | n + 1 => by
    show (if _ then _ else _) = (if _ then _ else _)
    rw [h.rdE, h.rdV, h.alL B k n]
theorem Rel.flG (h : Rel R F) (hl : Lens R) (B : Bn) (i : Nat) : (flG B R i).2.1 = (rflG B F i).2.1 ∧ Rel (flG B R i).2.2 (rflG B F i).2.2 := by
  have := goN_rel (st := Rk.fl) (er := Rk.flT) (ds := fun i => B.disk (i : Int)) (s := R) (st' := Rf.fl) (er' := Rf.flT) (t := F) (fun R F => Rel R F ∧ Lens R) ⟨h, hl⟩ (fun x y d hp => ⟨hp.1.fl d hp.2, hp.2.fl d⟩) (fun x y d hp => by unfold Rk.flT Rf.flT; rw [hp.1.flE]) i
  exact ⟨this.2.1, this.2.2.1⟩
theorem Rel.evG (h : Rel R F) (B : Bn) (k : Int) (zs : List Int) (i : Nat) : (evG B k zs R i).2.1 = (revG B k zs F i).2.1 ∧ Rel (evG B k zs R i).2.2 (revG B k zs F i).2.2 := by
  have := goN_rel (st := fun R d => R.wr d k zs) (er := fun R d => R.wrE d k zs) (ds := fun i => B.disk (i : Int)) (s := R) (st' := fun F d => F.wr d k zs) (er' := fun F d => F.wrE d k zs) (t := F) (fun R F => Rel R F) h (fun x y d hp => hp.wr d k zs) (fun x y d hp => hp.wrE d k zs) i
  exact ⟨this.2.1, this.2.2⟩
end

/-- The bank and the reference's bank beside each other. -/
structure Two (w0 : World) (M : Nat → Prop) (L : Lay) (K : RLay) (b y : Nat) (R : Rk) (F : Rf) (B : Bn) (w : World) : Prop where
  st : St w0 M L b R B w
  rf : RefAt w M K F
  rb : RbAt w y K.p B
  my : M y
  ny : ¬ L.M R.n y
  kb : ¬ K.M b
  ky : ¬ K.M y
  ne : ∀ k, L.M R.n k → ¬ K.M k
  by' : b ≠ y
  rel : Rel R F
section
variable {w0 w w' : World} {M : Nat → Prop} {L : Lay} {K : RLay} {b y n : Nat} {R : Rk} {F : Rf} {B : Bn}
theorem Two.next (h : Two w0 M L K b y R F B w) (hb : Below w.heap.size w w') : Two w0 M L K b y R F B w' :=
  ⟨h.st.next hb, h.rf.below hb, h.rb.next hb, h.my, h.ny, h.kb, h.ky, h.ne, h.by', h.rel⟩
theorem Two.drewN (h : Two w0 M L K b y R F B w) (q : Nat) : Two w0 M L K b y R F B (w.drewN q) := h.next (below_drewN (Below.refl _ _) q)
theorem Two.drew (h : Two w0 M L K b y R F B w) : Two w0 M L K b y R F B w.drew := h.next (below_drewN (Below.refl _ _) 1)

/-- The program's bank has been called, the reference's not yet. -/
structure Mid (w0 : World) (M : Nat → Prop) (L : Lay) (K : RLay) (b y : Nat) (R : Rk) (F : Rf) (B C : Bn) (w : World) : Prop where
  st : St w0 M L b R B w
  rf : RefAt w M K F
  rb : RbAt w y K.p C
  my : M y
  ny : ¬ L.M R.n y
  kb : ¬ K.M b
  ky : ¬ K.M y
  ne : ∀ k, L.M R.n k → ¬ K.M k
  by' : b ≠ y
theorem Mid.next {C : Bn} (h : Mid w0 M L K b y R F B C w) (hb : Below w.heap.size w w') : Mid w0 M L K b y R F B C w' :=
  ⟨h.st.next hb, h.rf.below hb, h.rb.next hb, h.my, h.ny, h.kb, h.ky, h.ne, h.by'⟩
theorem Mid.drew {C : Bn} (h : Mid w0 M L K b y R F B C w) : Mid w0 M L K b y R F B C w.drew := h.next (below_drewN (Below.refl _ _) 1)
theorem Mid.two (h : Mid w0 M L K b y R F B B w) (hr : Rel R F) : Two w0 M L K b y R F B w := ⟨h.st, h.rf, h.rb, h.my, h.ny, h.kb, h.ky, h.ne, h.by', hr⟩
theorem Two.mid (h : Two w0 M L K b y R F B w) : Mid w0 M L K b y R F B B w := ⟨h.st, h.rf, h.rb, h.my, h.ny, h.kb, h.ky, h.ne, h.by'⟩
theorem Two.prog {R' : Rk} {v : Value} {e : Ending} (h : Two w0 M L K b y R F B w) (hn : R'.n = R.n) (hp : StPost w0 M L b R' B w v e w') : e = .returned v ∧ Mid w0 M L K b y R' F B B w' ∧ Turn (L.M R.n) w w' := by
  obtain ⟨he, hs, ht⟩ := hp
  rw [hn] at ht
  exact ⟨he, ⟨hs, h.rf.keep ht (fun k hk => h.st.rk.sub k hk) (fun k hk x => h.ne k x hk), h.rb.turn ht h.ny, h.my, by rw [hn]; exact h.ny, h.kb, h.ky, by rw [hn]; exact h.ne, h.by'⟩, ht⟩
theorem Mid.ref {F' : Rf} {v : Value} {e : Ending} (h : Mid w0 M L K b y R F B B w) (hp : RefPost M K F' w v e w') (hr : Rel R F') : e = .returned v ∧ Two w0 M L K b y R F' B w' := by
  obtain ⟨he, hs, ht⟩ := hp
  have hsub := h.rf.sub
  exact ⟨he, ⟨⟨h.st.rk.keep ht (fun k hk => hsub k hk) (fun k hk x => h.ne k hk x), h.st.bk.turn ht h.kb, h.st.mb, h.st.nb, h.st.lo, h.st.bel.trans (ht.below h.st.bel.size (fun k hk => h.st.lo k (hsub k hk)))⟩, hs, h.rb.turn ht h.ky, h.my, h.ny, h.kb, h.ky, h.ne, h.by', hr⟩⟩
end

end Go.Proofs.YtoiidhpohghiaaaGreat
