/-
  A rack of which disks are doomed, and flushed.
-/
import Derived.Test.YtoiidhpohghiaaaSt
namespace Go.Proofs.Ytoiidhpohghiaaa
open Go.RowKit Go.Maps
set_option linter.unusedVariables false

theorem num_ge3 {B : Bn} (hd : B.d = ((3 : Nat) : Int)) : 3 ≤ B.num := by
  unfold Bn.num
  rw [hd, Int.toNat_natCast]
  split <;> omega
/-- The first j disks are doomed as bt tells. -/
structure Dm (R : Rk) (bt : Nat → Bool) (j : Nat) : Prop where
  hn : R.n = 4
  hS : R.S = 41
  off : R.off = false
  cnt : R.cnt = -1
  each : ∀ i, i < 4 → (R.d i).bad = false ∧ (R.d i).cnt = if i < j ∧ bt i = true then 0 else -1
structure Pd (R : Rk) (bt : Nat → Bool) : Prop where
  hn : R.n = 4
  hS : R.S = 41
  off : R.off = false
  cnt : R.cnt = -1
  each : ∀ i, i < 4 → (R.d i).cnt = (if bt i = true then 0 else -1) ∧ ((R.d i).bad = true → bt i = true)
section
variable {R : Rk} {bt : Nat → Bool} {j : Nat} {B : Bn}
theorem Dm.start : Dm (newRk 4 41) bt 0 := ⟨rfl, rfl, rfl, rfl, fun i _ => ⟨rfl, by rw [if_neg (by omega)]; rfl⟩⟩
theorem Dm.yes (h : Dm R bt j) (hj : j < 4) (hb : bt j = true) : Dm (R.doom j 0) bt (j + 1) := by
  unfold Rk.doom
  rw [if_pos ⟨by omega, by rw [h.hn]; omega⟩, Int.toNat_natCast]
  refine ⟨h.hn, h.hS, h.off, h.cnt, fun i hi => ?_⟩
  show (if i = j then _ else R.d i).bad = false ∧ (if i = j then _ else R.d i).cnt = _
  by_cases e : i = j
  · subst e
    rw [if_pos rfl, if_pos ⟨by omega, hb⟩]
    exact ⟨(h.each i hi).1, rfl⟩
  · rw [if_neg e]
    refine ⟨(h.each i hi).1, ?_⟩
    rw [(h.each i hi).2]
    by_cases h2 : i < j ∧ bt i = true
    · rw [if_pos h2, if_pos ⟨by omega, h2.2⟩]
    · rw [if_neg h2, if_neg (fun x => h2 ⟨by omega, x.2⟩)]
theorem Dm.no (h : Dm R bt j) (hb : bt j = false) : Dm R bt (j + 1) := by
  refine ⟨h.hn, h.hS, h.off, h.cnt, fun i hi => ⟨(h.each i hi).1, ?_⟩⟩
  rw [(h.each i hi).2]
  by_cases h2 : i < j ∧ bt i = true
  · rw [if_pos h2, if_pos ⟨by omega, h2.2⟩]
  · rw [if_neg h2, if_neg (fun x => by
      by_cases e : i = j
      · rw [e, hb] at x; cases x.2
      · exact h2 ⟨by omega, x.2⟩)]
theorem Dm.pd (h : Dm R bt 4) : Pd R bt := by
  refine ⟨h.hn, h.hS, h.off, h.cnt, fun i hi => ⟨?_, fun x => ?_⟩⟩
  · rw [(h.each i hi).2]
    by_cases h2 : bt i = true
    · rw [if_pos ⟨hi, h2⟩, if_pos h2]
    · rw [if_neg (fun x => h2 x.2), if_neg h2]
  · rw [(h.each i hi).1] at x; cases x
/-- Each disk that was doomed has failed. -/
def Fin (R : Rk) (bt : Nat → Bool) : Prop := ∀ i, i < 4 → (R.d i).bad = bt i
theorem Pd.call (h : Pd R bt) : Pd R.call bt ∧ Fin R.call bt := by
  have e : R.call = { R with cnt := -1, d := fun j => (R.d j).called } := by
    unfold Rk.call
    rw [if_neg (by rw [h.cnt]; omega), h.cnt]
    rfl
  rw [e]
  have hb : ∀ i, i < 4 → (R.d i).called.bad = bt i := fun i hi => by
    obtain ⟨h1, h2⟩ := h.each i hi
    show ((R.d i).bad || (R.d i).cnt == 0) = bt i
    rw [h1]
    cases hbt : bt i with
    | true => simp
    | false =>
      rw [hbt] at h2
      cases hbd : (R.d i).bad with
      | true => cases h2 hbd
      | false => rfl
  refine ⟨⟨h.hn, h.hS, h.off, rfl, fun i hi => ⟨?_, fun x => by rw [← hb i hi]; exact x⟩⟩, hb⟩
  show (if 0 < (R.d i).cnt then (R.d i).cnt - 1 else (R.d i).cnt) = _
  rw [(h.each i hi).1]
  split <;> split <;> omega
theorem Pd.fl (h : Pd R bt) {i : Nat} (hi : i < 4) : R.flE i ≠ 12 ∧ Pd (R.fl i) bt ∧ Fin (R.fl i) bt := by
  obtain ⟨h1, h2⟩ := h.call
  have h0 : 0 ≤ (i : Int) ∧ (i : Int) < R.n := ⟨by omega, by rw [h.hn]; omega⟩
  have hc : R.callE i ≠ 12 := by
    unfold Rk.callE
    rw [if_neg (by rw [h.cnt]; omega)]
    split <;> omega
  refine ⟨?_, ?_⟩
  · unfold Rk.flE
    rw [if_neg (by rw [h.off]; simp), if_pos h0, Int.toNat_natCast]
    exact hc
  · unfold Rk.fl
    rw [if_pos ⟨h.off, h0⟩, Int.toNat_natCast]
    split
    · refine ⟨⟨h1.hn, h1.hS, h1.off, h1.cnt, fun k hk => ?_⟩, fun k hk => ?_⟩
      · show (if k = i then (R.call.d i).flush R.S else R.call.d k).cnt = _ ∧ ((if k = i then (R.call.d i).flush R.S else R.call.d k).bad = true → _)
        by_cases e : k = i
        · subst e; rw [if_pos rfl]; exact h1.each k hk
        · rw [if_neg e]; exact h1.each k hk
      · show (if k = i then (R.call.d i).flush R.S else R.call.d k).bad = bt k
        by_cases e : k = i
        · subst e; rw [if_pos rfl]; exact h2 k hk
        · rw [if_neg e]; exact h2 k hk
    · exact ⟨h1, h2⟩
theorem pd_fl (h : Pd R bt) (hd : B.d = ((3 : Nat) : Int)) : ∀ i, i ≤ B.num → (flG B R i).1 = false ∧ (flG B R i).2.1 = 0 ∧ Pd (flG B R i).2.2 bt ∧ (0 < i → Fin (flG B R i).2.2 bt) := by
  intro i
  induction i with
  | zero => intro _; exact ⟨rfl, rfl, h, fun x => absurd x (Nat.lt_irrefl _)⟩
  | succ i ih =>
    intro hi
    obtain ⟨h1, h2, h3, _⟩ := ih (by omega)
    have hlt := Bn.dk_lt hd (i := i) (by omega)
    have ed := Bn.dk_eq hd i
    obtain ⟨g1, g2, g3⟩ := h3.fl hlt
    have e := flG_go (B := B) (R := R) (i := i) h1 (by rw [ed]; exact g1)
    rw [e, ed]
    exact ⟨rfl, h2, g2, fun _ => g3⟩
theorem pd_rd (h : Pd R bt) (hf : Fin R bt) {i : Nat} (hi : i < 4) : R.rdE i 0 = if bt i then 13 else 0 := by
  unfold Rk.rdE
  rw [if_neg (by rw [h.off]; simp), if_pos (hasB_yes (by omega) (by rw [h.hn]; omega) (by omega) (by rw [h.hS]; omega)), Int.toNat_natCast, hf i hi]
theorem pd_failed (h : Pd R bt) (hf : Fin R bt) {i : Nat} (hi : i < 4) : R.failed (i : Int) = bt i := by
  unfold Rk.failed
  rw [decide_eq_true (show 0 ≤ (i : Int) ∧ (i : Int) < R.n from ⟨by omega, by rw [h.hn]; omega⟩), Int.toNat_natCast, hf i hi]
  rfl
end
theorem badL_get {B : Bn} {R : Rk} {i : Nat} (hb : badP B R (i : Int) = true) : ∀ m, i < m → (badL B R i).length < (badL B R m).length ∧ (badL B R m).getD (badL B R i).length 0 = (i : Int) := by
  intro m
  induction m with
  | zero => intro h; omega
  | succ m ih =>
    intro h
    by_cases e : i = m
    · subst e
      have e1 : badL B R (i + 1) = badL B R i ++ [(i : Int)] := by
        show (if _ then _ else _) = _
        rw [if_pos hb]
      rw [e1]
      refine ⟨by simp, ?_⟩
      simp [List.getD]
    · obtain ⟨h1, h2⟩ := ih (by omega)
      show (badL B R i).length < (if badP B R (m : Int) then badL B R m ++ [(m : Int)] else badL B R m).length ∧ (if badP B R (m : Int) then badL B R m ++ [(m : Int)] else badL B R m).getD (badL B R i).length 0 = _
      split
      · refine ⟨by rw [List.length_append]; omega, ?_⟩
        rw [List.getD, List.getElem?_append_left h1, ← List.getD]
        exact h2
      · exact ⟨h1, h2⟩
theorem badL_yes {B : Bn} {R : Rk} {i : Nat} (hb : badP B R (i : Int) = true) : (badL B R (i + 1)).length = (badL B R i).length + 1 := by
  show (if _ then _ else _ : List Int).length = _
  rw [if_pos hb, List.length_append, List.length_singleton]
theorem badL_no {B : Bn} {R : Rk} {i : Nat} (hb : badP B R (i : Int) = false) : (badL B R (i + 1)).length = (badL B R i).length := by
  show (if _ then _ else _ : List Int).length = _
  rw [if_neg (by rw [hb]; simp)]

end Go.Proofs.Ytoiidhpohghiaaa
