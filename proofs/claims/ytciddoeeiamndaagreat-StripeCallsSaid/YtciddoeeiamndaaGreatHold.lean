/-
  A rack of which nothing fails: what its sectors read.
-/
import Derived.Test.YtciddoeeiamndaaGreatEv
import Derived.Test.YtciddoeeiamndaaGreatAl
import Derived.Test.YtciddoeeiamndaaGreatBad
import Derived.Test.YtciddoeeiamndaaGreatOpn
namespace Go.Proofs.YtciddoeeiamndaaGreat
open Go.RowKit Go.Maps
set_option linter.unusedVariables false

theorem dk_called {d : Dk} (h1 : d.bad = false) (h2 : d.cnt = -1) : d.called = d := by
  obtain ⟨l, c, b, n⟩ := d
  simp only at h1 h2
  subst h1 h2
  rfl
/-- Power and disks are there, and stay. -/
structure Gd (R : Rk) (n S : Nat) : Prop where
  hn : R.n = n
  hS : R.S = S
  off : R.off = false
  cnt : R.cnt = -1
  good : ∀ i, (R.d i).bad = false ∧ (R.d i).cnt = -1
section
variable {R : Rk} {n S : Nat}
theorem Gd.call (h : Gd R n S) : R.call = R := by
  unfold Rk.call
  rw [if_neg (by rw [h.cnt]; omega), if_neg (by rw [h.cnt]; omega)]
  have e : (fun j => (R.d j).called) = R.d := funext fun j => dk_called (h.good j).1 (h.good j).2
  rw [e]
theorem Gd.callE (h : Gd R n S) (i : Nat) : R.callE i = 0 := by
  unfold Rk.callE
  rw [if_neg (by rw [h.cnt]; omega), dk_called (h.good i).1 (h.good i).2, if_neg (by rw [(h.good i).1]; simp)]
theorem Gd.setD (h : Gd R n S) (i : Nat) {d : Dk} (h1 : d.bad = false) (h2 : d.cnt = -1) : Gd (R.setD i d) n S := by
  refine ⟨h.hn, h.hS, h.off, h.cnt, fun j => ?_⟩
  show (if j = i then d else R.d j).bad = false ∧ (if j = i then d else R.d j).cnt = -1
  by_cases e : j = i
  · rw [if_pos e]; exact ⟨h1, h2⟩
  · rw [if_neg e]; exact h.good j
theorem Gd.hasB (h : Gd R n S) {i k : Nat} (hi : i < n) (hk : k < S) : hasB R.n R.S i k = true := hasB_yes (by omega) (by rw [h.hn]; omega) (by omega) (by rw [h.hS]; omega)
theorem Gd.wr (h : Gd R n S) {i k : Nat} (hi : i < n) (hk : k < S) {zs : List Int} (hz : zs.length = 64) : R.wrE i k zs = 0 ∧ R.wr i k zs = R.setD i ((R.d i).put k zs) := by
  unfold Rk.wrE Rk.wr
  rw [h.off, h.hasB hi hk, decide_eq_true hz, Int.toNat_natCast, Int.toNat_natCast, h.callE, h.call]
  exact ⟨rfl, rfl⟩
theorem Gd.fl (h : Gd R n S) {i : Nat} (hi : i < n) : R.flE i = 0 ∧ R.fl i = R.setD i ((R.d i).flush S) := by
  have h0 : 0 ≤ (i : Int) ∧ (i : Int) < R.n := ⟨by omega, by rw [h.hn]; omega⟩
  unfold Rk.flE Rk.fl
  rw [if_neg (by rw [h.off]; simp), if_pos h0, if_pos ⟨h.off, h0⟩, Int.toNat_natCast, h.callE, h.call, h.hS]
  exact ⟨rfl, rfl⟩
theorem Gd.rd (h : Gd R n S) {i k : Nat} (hi : i < n) (hk : k < S) : R.rdE i k = 0 ∧ R.rdV i k = (R.d i).read k := by
  have e : R.rdE i k = 0 := by
    unfold Rk.rdE
    rw [if_neg (by rw [h.off]; simp), if_pos (h.hasB hi hk), Int.toNat_natCast, if_neg (by rw [(h.good i).1]; simp)]
  refine ⟨e, ?_⟩
  unfold Rk.rdV
  rw [if_pos e, Int.toNat_natCast, Int.toNat_natCast]
theorem Gd.failed (h : Gd R n S) (i : Int) : R.failed i = false := by
  unfold Rk.failed
  rw [(h.good i.toNat).1, Bool.and_false]
end

/-- .. and its sectors read C. -/
structure Hd (R : Rk) (n S : Nat) (C : Nat → Nat → List Int) : Prop extends Gd R n S where
  rd : ∀ i k, i < n → k < S → (R.d i).read k = C i k
  len : ∀ i k, i < n → k < S → (C i k).length = 64
/-- One sector more was written. -/
def setC (C : Nat → Nat → List Int) (i k : Nat) (zs : List Int) : Nat → Nat → List Int := fun j t => if j = i ∧ t = k then zs else C j t
section
variable {R : Rk} {n S : Nat} {C : Nat → Nat → List Int}
theorem Hd.start (n S : Nat) : Hd (newRk n S) n S (fun _ _ => List.replicate 64 0) := by
  refine ⟨⟨rfl, rfl, rfl, rfl, fun _ => ⟨rfl, rfl⟩⟩, fun i k _ hk => ?_, fun _ _ _ _ => rfl⟩
  show sec (List.replicate (S * 64) 0) k = List.replicate 64 0
  unfold sec
  rw [List.drop_replicate, List.take_replicate]
  congr 1
  have : (k + 1) * 64 ≤ S * 64 := Nat.mul_le_mul_right _ hk
  omega
theorem Hd.wr (h : Hd R n S C) {i k : Nat} (hi : i < n) (hk : k < S) {zs : List Int} (hz : zs.length = 64) : Hd (R.wr i k zs) n S (setC C i k zs) := by
  rw [(h.toGd.wr hi hk hz).2]
  refine ⟨h.setD i (h.good i).1 (h.good i).2, fun j t hj ht => ?_, fun j t hj ht => ?_⟩
  · show (if j = i then (R.d i).put k zs else R.d j).read t = if j = i ∧ t = k then zs else C j t
    by_cases e : j = i
    · subst e
      rw [if_pos rfl]
      show ((if t = k then some zs else (R.d j).cache t).getD _) = _
      by_cases e2 : t = k
      · rw [if_pos e2, if_pos ⟨rfl, e2⟩]; rfl
      · rw [if_neg e2, if_neg (fun x => e2 x.2)]; exact h.rd j t hj ht
    · rw [if_neg e, if_neg (fun x => e x.1)]; exact h.rd j t hj ht
  · unfold setC
    split
    · exact hz
    · exact h.len j t hj ht
theorem Hd.fl (h : Hd R n S C) {i : Nat} (hi : i < n) : Hd (R.fl i) n S C := by
  rw [(h.toGd.fl hi).2]
  refine ⟨h.setD i (h.good i).1 (h.good i).2, fun j t hj ht => ?_, h.len⟩
  show (if j = i then (R.d i).flush S else R.d j).read t = C j t
  by_cases e : j = i
  · subst e
    rw [if_pos rfl]
    show sec (joinS S (R.d j).read) t = _
    rw [sec_join (fun s hs => by rw [h.rd j s hj hs]; exact h.len j s hj hs) ht]
    exact h.rd j t hj ht
  · rw [if_neg e]; exact h.rd j t hj ht
theorem Hd.restore (h : Hd R n S C) (hc : ∀ i k, i < n → k < S → (R.d i).cache k = none) (ks : List Int) : Hd (R.restore ks) n S C := by
  refine ⟨⟨h.hn, h.hS, rfl, rfl, fun i => h.good i⟩, fun i t hi ht => ?_, h.len⟩
  have e : ∀ s, s < S → (R.d i).rest ks (R.num i) s = (R.d i).read s := fun s hs => by
    unfold Dk.rest Dk.stays Dk.read
    rw [hc i s hi hs]
    rfl
  show sec (joinS R.S ((R.d i).rest ks (R.num i))) t = _
  rw [h.hS, sec_join (fun s hs => by rw [e s hs, h.rd i s hi hs]; exact h.len i s hi hs) ht, e t ht]
  exact h.rd i t hi ht

/-- The number of the disk of place i. -/
def Bn.dk (B : Bn) (i : Nat) : Nat := (B.disk (i : Int)).toNat
theorem Bn.dk_eq {B : Bn} {m : Nat} (hd : B.d = (m : Int)) (i : Nat) : B.disk (i : Int) = (B.dk i : Int) := by
  unfold Bn.dk Bn.disk
  split
  · rw [hd, Int.toNat_natCast]
  · rw [Int.toNat_natCast]
theorem Bn.dk_lt {B : Bn} {m : Nat} (hd : B.d = (m : Int)) {i : Nat} (hi : i < B.num) : B.dk i < m + 1 := by
  unfold Bn.num at hi
  unfold Bn.dk Bn.disk
  rw [hd, Int.toNat_natCast] at hi
  split
  · rw [hd, Int.toNat_natCast]; omega
  · rw [Int.toNat_natCast]
    split at hi <;> omega

/-- What Everywhere leaves while no slot has the spare. -/
def evC (C : Nat → Nat → List Int) (k : Nat) (zs : List Int) (i : Nat) : Nat → Nat → List Int := fun j t => if j < i ∧ t = k then zs else C j t
theorem evC_succ (C : Nat → Nat → List Int) (k : Nat) (zs : List Int) (i : Nat) : setC (evC C k zs i) i k zs = evC C k zs (i + 1) := by
  funext j t
  unfold setC evC
  by_cases h : j = i ∧ t = k
  · rw [if_pos h, if_pos ⟨by omega, h.2⟩]
  · rw [if_neg h]
    by_cases h2 : j < i ∧ t = k
    · rw [if_pos h2, if_pos ⟨by omega, h2.2⟩]
    · rw [if_neg h2, if_neg (by omega)]
theorem ev_good {B : Bn} {m k : Nat} (h : Hd R (m + 1) S C) (hd : B.d = (m : Int)) (hst : B.st = 0) (hk : k < S) {zs : List Int} (hz : zs.length = 64) :
    ∀ i, i ≤ m + 1 → (evG B (k : Int) zs R i).1 = false ∧ (evG B (k : Int) zs R i).2.1 = 0 ∧ Hd (evG B (k : Int) zs R i).2.2 (m + 1) S (evC C k zs i) := by
  intro i
  induction i with
  | zero =>
    intro _
    refine ⟨rfl, rfl, ?_⟩
    have e : evC C k zs 0 = C := by funext j t; unfold evC; rw [if_neg (by omega)]
    rw [e]
    exact h
  | succ i ih =>
    intro hi
    obtain ⟨h1, h2, h3⟩ := ih (by omega)
    have ed : B.disk (i : Int) = (i : Int) := by unfold Bn.disk; rw [if_neg (fun x => x.1 hst)]
    have hw := h3.toGd.wr (i := i) (k := k) (by omega) hk hz
    have e := evG_go (B := B) (k := (k : Int)) (zs := zs) (R := R) (i := i) h1 (by rw [ed, hw.1]; omega)
    rw [e, ed, hw.1, if_neg (by omega), h2]
    refine ⟨rfl, rfl, ?_⟩
    rw [← evC_succ]
    exact h3.wr (by omega) hk hz
theorem al_good {B : Bn} {m k : Nat} (h : Gd R (m + 1) S) (hd : B.d = (m : Int)) (hk : k < S) : ∀ i, i ≤ B.num → (alL B (k : Int) R i).length = i := by
  intro i
  induction i with
  | zero => intro _; rfl
  | succ i ih =>
    intro hi
    have e : R.rdE (B.disk (i : Int)) (k : Int) = 0 := by rw [Bn.dk_eq hd]; exact (h.rd (Bn.dk_lt hd (by omega)) hk).1
    show (if _ then _ else _ : List (List Int)).length = _
    rw [if_pos e, List.length_append, List.length_singleton, ih (by omega)]
theorem bad_good {B : Bn} (h : Gd R n S) (h0 : 0 ≤ B.sl) : ∀ i : Nat, (badL B R i).length = if B.st = 1 ∧ B.sl < (i : Int) then 1 else 0 := by
  intro i
  induction i with
  | zero => rw [if_neg (by omega)]; rfl
  | succ i ih =>
    have e : badP B R (i : Int) = decide (B.st = 1 ∧ (i : Int) = B.sl) := by unfold badP; rw [h.failed, Bool.or_false]
    show (if _ then _ else _ : List Int).length = _
    rw [e]
    by_cases h1 : B.st = 1 ∧ (i : Int) = B.sl
    · rw [if_pos (decide_eq_true h1), List.length_append, List.length_singleton, ih, if_neg (by omega), if_pos (by omega)]
    · rw [if_neg (by rw [decide_eq_false h1]; simp), ih]
      by_cases h2 : B.st = 1 ∧ B.sl < (i : Int)
      · rw [if_pos h2, if_pos (by omega)]
      · rw [if_neg h2, if_neg (by omega)]
end

end Go.Proofs.YtciddoeeiamndaaGreat
