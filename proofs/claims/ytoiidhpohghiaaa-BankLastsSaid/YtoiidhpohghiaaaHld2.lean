/-
  Flushed whole: what lasts.
-/
import Derived.Test.YtoiidhpohghiaaaSt
namespace Go.Proofs.Ytoiidhpohghiaaa
open Go.RowKit Go.Maps
set_option linter.unusedVariables false

/-- Nothing of disk j is cached. -/
def Nc (R : Rk) (S j : Nat) : Prop := ∀ k, k < S → (R.d j).cache k = none
section
variable {R : Rk} {m n S : Nat} {C : Nat → Nat → List Int} {B : Bn}
theorem Gd.fl_nc (h : Gd R n S) {i j : Nat} (hi : i < n) (hj : Nc R S j ∨ j = i) : Nc (R.fl i) S j := by
  rw [(h.fl hi).2]
  intro k hk
  show (if j = i then (R.d i).flush S else R.d j).cache k = none
  by_cases e : j = i
  · rw [if_pos e]; rfl
  · rw [if_neg e]; exact (hj.resolve_right e) k hk
theorem Gd.wr_nc (h : Gd R n S) {i j k : Nat} (hi : i < n) (hk : k < S) {zs : List Int} (hz : zs.length = 64) (hj : Nc R S j) (hne : j ≠ i) : Nc (R.wr i k zs) S j := by
  rw [(h.wr hi hk hz).2]
  intro t ht
  show (if j = i then (R.d i).put k zs else R.d j).cache t = none
  rw [if_neg hne]
  exact hj t ht
theorem fl_good (h : Hd R (m + 1) S C) (hd : B.d = (m : Int)) : ∀ i, i ≤ B.num → (flG B R i).1 = false ∧ (flG B R i).2.1 = 0 ∧ Hd (flG B R i).2.2 (m + 1) S C ∧ ∀ j, (Nc R S j ∨ ∃ i', i' < i ∧ B.dk i' = j) → Nc (flG B R i).2.2 S j := by
  intro i
  induction i with
  | zero => intro _; exact ⟨rfl, rfl, h, fun j hj => hj.elim id (fun x => by obtain ⟨i', h1, _⟩ := x; omega)⟩
  | succ i ih =>
    intro hi
    obtain ⟨h1, h2, h3, h4⟩ := ih (by omega)
    have hlt := Bn.dk_lt hd (i := i) (by omega)
    have ed := Bn.dk_eq hd i
    have hw := h3.toGd.fl hlt
    have e := flG_go (B := B) (R := R) (i := i) h1 (by rw [ed, hw.1]; omega)
    rw [e, ed]
    refine ⟨rfl, h2, h3.fl hlt, fun j hj => h3.toGd.fl_nc hlt ?_⟩
    rcases hj with hj | ⟨i', h5, h6⟩
    · exact .inl (h4 j (.inl hj))
    · by_cases e2 : i' = i
      · subst e2; exact .inr h6.symm
      · exact .inl (h4 j (.inr ⟨i', by omega, h6⟩))
theorem nc_start (n S j : Nat) : Nc (newRk n S) S j := fun _ _ => rfl
theorem dk_inj (hd : B.d = (m : Int)) {i j : Nat} (hi : i < m) (hj : j < m) (h : B.dk i = B.dk j) : i = j := by
  have e1 := Bn.dk_eq hd i
  have e2 := Bn.dk_eq hd j
  rw [← h] at e2
  have e3 : B.disk (i : Int) = B.disk (j : Int) := e1.trans e2.symm
  unfold Bn.disk at e3
  rw [hd] at e3
  split at e3 <;> split at e3 <;> omega
theorem num_ge (hd : B.d = (m : Int)) : m ≤ B.num := by
  unfold Bn.num
  rw [hd, Int.toNat_natCast]
  split <;> omega

/-- What BankLasts keeps: what was written of the spots is read, the others are noughts; disks that are none of the bank's have nothing cached. -/
structure Spt (R : Rk) (B : Bn) (C : Nat → Nat → List Int) (zs : List Int) (f : Nat → Bool) : Prop extends Hd R 4 41 C where
  spot : ∀ k, k < 123 → C (B.dk (k / 41)) (k % 41) = if f k then zs else List.replicate 64 0
  out : ∀ j, (∀ i, i < B.num → B.dk i ≠ j) → Nc R 41 j
def setF (f : Nat → Bool) (k : Nat) : Nat → Bool := fun j => if j = k then true else f j
theorem Spt.start (hd : B.d = 3) (zs : List Int) : Spt (newRk 4 41) B (fun _ _ => List.replicate 64 0) zs (fun _ => false) :=
  ⟨Hd.start 4 41, fun _ _ => rfl, fun j _ => nc_start 4 41 j⟩
theorem Spt.write {zs : List Int} {f : Nat → Bool} (h : Spt R B C zs f) (hd : B.d = ((3 : Nat) : Int)) (hz : zs.length = 64) {k : Nat} (hk : k < 123) :
    bwE B R ((k / 41 : Nat) : Int) ((k % 41 : Nat) : Int) zs = 0 ∧ Spt (bw B R ((k / 41 : Nat) : Int) ((k % 41 : Nat) : Int) zs) B (setC C (B.dk (k / 41)) (k % 41) zs) zs (setF f k) := by
  have hs : k / 41 < 3 := by omega
  have hm : k % 41 < 41 := Nat.mod_lt _ (by omega)
  have hlt : B.dk (k / 41) < 4 := Bn.dk_lt hd (Nat.lt_of_lt_of_le hs (num_ge hd))
  obtain ⟨e1, e2⟩ := bw_at hd hs R ((k % 41 : Nat) : Int) zs
  have hw := h.toGd.wr hlt hm hz
  rw [e1, e2]
  refine ⟨hw.1, h.toHd.wr hlt hm hz, fun j hj => ?_, fun j hj => ?_⟩
  · have hs2 : j / 41 < 3 := by omega
    unfold setC setF
    by_cases e : j = k
    · subst e
      rw [if_pos ⟨rfl, rfl⟩, if_pos rfl]
      rfl
    · have hne : ¬ (B.dk (j / 41) = B.dk (k / 41) ∧ j % 41 = k % 41) := fun x => by
        have := dk_inj hd hs2 hs x.1
        have := x.2
        omega
      rw [if_neg hne, if_neg e]
      exact h.spot j hj
  · exact h.toGd.wr_nc hlt hm hz (h.out j hj) (fun e => hj (k / 41) (Nat.lt_of_lt_of_le hs (num_ge hd)) e.symm)
theorem Spt.flush {zs : List Int} {f : Nat → Bool} (h : Spt R B C zs f) (hd : B.d = ((3 : Nat) : Int)) (ks : List Int) :
    (flG B R B.num).2.1 = 0 ∧ Hd ((flG B R B.num).2.2.restore ks) 4 41 C := by
  obtain ⟨h1, h2, h3, h4⟩ := fl_good h.toHd hd B.num (Nat.le_refl _)
  refine ⟨h2, h3.restore (fun i k hi hk => ?_) ks⟩
  by_cases hx : ∃ i', i' < B.num ∧ B.dk i' = i
  · exact h4 i (.inr hx) k hk
  · exact h4 i (.inl (h.out i (fun i' h5 h6 => hx ⟨i', h5, h6⟩))) k hk
theorem Spt.reads {zs : List Int} {f : Nat → Bool} (h : Spt R B C zs f) {R' : Rk} (h' : Hd R' 4 41 C) (hd : B.d = ((3 : Nat) : Int)) {k : Nat} (hk : k < 123) :
    brE B R' ((k / 41 : Nat) : Int) ((k % 41 : Nat) : Int) = 0 ∧ brV B R' ((k / 41 : Nat) : Int) ((k % 41 : Nat) : Int) = if f k then zs else List.replicate 64 0 := by
  have hs : k / 41 < 3 := by omega
  have hm : k % 41 < 41 := Nat.mod_lt _ (by omega)
  have hlt : B.dk (k / 41) < 4 := Bn.dk_lt hd (Nat.lt_of_lt_of_le hs (num_ge hd))
  obtain ⟨e1, e2⟩ := br_at hd hs R' ((k % 41 : Nat) : Int)
  have hr := h'.toGd.rd hlt hm
  rw [e1, e2]
  exact ⟨hr.1, hr.2.trans ((h'.rd _ _ hlt hm).trans (h.spot k hk))⟩
end

end Go.Proofs.Ytoiidhpohghiaaa
