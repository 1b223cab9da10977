/-
  Put, Get and Pad, each by one contract for every input.
-/
import Derived.Test.YtgfakdjljcnpiaaPut
import Derived.Test.YtgfakdjljcnpiaaGet
import Derived.Test.YtgfakdjljcnpiaaPad
import Derived.Test.YtgfakdjljcnpiaaRefPut
import Derived.Test.YtgfakdjljcnpiaaRefGet
import Derived.Test.YtgfakdjljcnpiaaCopy
namespace Go.Proofs.Ytgfakdjljcnpiaa
open Go.RowKit

/-- What Put answers. -/
def putL (k n : Int) : List Int := if isW k && hasW n k then digs k.toNat n else []
theorem putL_yes {m : Nat} {n : Int} (h1 : 1 ≤ m) (h4 : m ≤ 4) (h : hasW n m = true) : putL m n = digs m n := by
  simp [putL, isW_true (n := (m : Int)) (by omega), h]
theorem putL_no {k n : Int} (h : isW k = false ∨ hasW n k = false) : putL k n = [] := by
  rcases h with h | h <;> simp [putL, h]
theorem putL_small (k n : Int) : AllB (putL k n) := by
  unfold putL
  split
  · exact digs_small _ _
  · intro z hz; cases hz
structure SliceOf (w0 : World) (zs : List Int) (n : Nat) (a : Option Addr) (c : Nat) (w' : World) : Prop where
  bys : Bys w' a n zs
  nil : a = none → n = 0 ∧ c = 0
  bel : Below w0.heap.size w0 w'
/-- A slice that holds zs. -/
def RetB (w0 : World) (zs : List Int) (e : Ending) (w' : World) : Prop := ∃ a c, e = .returned (.slice a zs.length c) ∧ SliceOf w0 zs zs.length a c w'
theorem RetB.own {w0 w' : World} {v : Value} {n : Nat} {zs : List Int} (h : Own w' w0.heap.size v n zs) (hb : Below w0.heap.size w0 w') : RetB w0 zs (.returned v) w' := by
  obtain ⟨a, c, rfl, h1, h2, _⟩ := h.form
  have := h.len
  subst this
  exact ⟨a, c, rfl, h2, h1, hb⟩
theorem RetB.blk {w0 w' : World} {g c : Nat} {zs : List Int} (h : Blk w' g zs) (hs : AllB zs) (hb : Below w0.heap.size w0 w') : RetB w0 zs (.returned (.slice (some ⟨g, 0, none⟩) zs.length c)) w' :=
  ⟨_, _, rfl, h.all hs, (fun h => by cases h), hb⟩
theorem RetB.nil (w0 : World) : RetB w0 [] (.returned (.slice none 0 0)) w0 := ⟨none, 0, rfl, Bys.none _, (fun _ => ⟨rfl, rfl⟩), Below.refl _ _⟩

theorem put_fun (k n : Int) (w : World) : Calls Try.prog 29 #[.int .i64 k, .int .i64 n] w (RetB w (putL k n)) := by
  by_cases h : isW k = false ∨ hasW n k = false
  · rw [putL_no h]
    exact (put_no k n w h).mono fun e w' ⟨he, hw⟩ => by subst he hw; exact RetB.nil _
  · have h1 : isW k = true := by cases hk : isW k <;> simp_all
    have h2 : hasW n k = true := by cases hk : hasW n k <;> simp_all
    obtain ⟨a, b⟩ : 1 ≤ k ∧ k ≤ 4 := by simpa [isW] using h1
    obtain ⟨m, rfl⟩ := Int.eq_ofNat_of_zero_le (by omega : 0 ≤ k)
    rw [putL_yes (by omega) (by omega) h2]
    refine (put_yes m n w (by omega) (by omega) h2).mono fun e w' ⟨he, hb, hl⟩ => ?_
    subst he
    have := RetB.blk (w0 := w) (c := m) hb (digs_small m n) hl
    rwa [digs_len] at this

theorem hasW_quo {m : Nat} {n : Int} (h1 : 1 ≤ m) (h4 : m ≤ 4) (h0 : 0 ≤ n) : (0 < n / 256 ^ m ↔ hasW n m = false) := by
  unfold hasW
  rcases (by omega : m = 1 ∨ m = 2 ∨ m = 3 ∨ m = 4) with rfl | rfl | rfl | rfl <;> simp <;> omega

theorem refPut_fun (k n : Int) (w : World) (hn : n ≤ 9223372036854775807) : Calls Try.prog 33 #[.int .i64 k, .int .i64 n] w (RetB w (putL k n)) := by
  by_cases h : (1 ≤ k ∧ k ≤ 4) ∧ 0 ≤ n
  · obtain ⟨⟨a, b⟩, h0⟩ := h
    obtain ⟨m, rfl⟩ := Int.eq_ofNat_of_zero_le (by omega : 0 ≤ k)
    refine (refPut_long m n w (by omega) (by omega) h0 hn).mono fun e w' ⟨hy, hno, hl⟩ => ?_
    by_cases hq : 0 < n / 256 ^ m
    · rw [hy hq, putL_no (.inr ((hasW_quo (by omega) (by omega) h0).1 hq))]
      exact ⟨none, 0, rfl, Bys.none _, (fun _ => ⟨rfl, rfl⟩), hl⟩
    · obtain ⟨v, rfl, hown⟩ := hno hq
      have h2 : hasW n m = true := by
        cases hk : hasW n m
        · exact absurd ((hasW_quo (by omega) (by omega) h0).2 hk) hq
        · rfl
      rw [putL_yes (by omega) (by omega) h2]
      exact RetB.own hown hl
  · have h' : isW k = false ∨ hasW n k = false := by
      by_cases hk : 1 ≤ k ∧ k ≤ 4
      · right; simp only [hasW, decide_eq_false_iff_not]; omega
      · exact .inl (isW_false hk)
    rw [putL_no h']
    exact (refPut_none k n w (by omega)).mono fun e w' ⟨he, hl⟩ => by subst he; exact ⟨_, 0, rfl, Bys.none _, (fun h => by cases h), hl⟩

theorem copy_fun (a : Option Addr) (la ca : Nat) (x : List Int) (w : World) (hx : Bys w a la x) (hnil : a = none → la = 0 ∧ ca = 0) (hla : la ≤ 1000000000000) :
    Calls Try.prog 10 #[.slice a la ca] w (RetB w x) :=
  (copy_any a la ca x w hx hnil hla).mono fun e w' ⟨v, he, hb, hl⟩ => by
    subst he
    exact RetB.own hb hl

/-- What Get answers. -/
def getO (la : Nat) (p k : Int) : Bool := decide ((1 ≤ k ∧ k ≤ 4) ∧ 0 ≤ p ∧ p ≤ la - k)
def getV (la : Nat) (x : List Int) (p k : Int) : Int := if getO la p k then getN x p.toNat k.toNat else 0
theorem getO_yes {la m p : Nat} (h1 : 1 ≤ m) (h4 : m ≤ 4) (h : p + m ≤ la) : getO la p m = true := by
  unfold getO
  rw [decide_eq_true_eq]
  omega
theorem get_fun (a : Option Addr) (la ca : Nat) (p k : Int) (x : List Int) (w : World) (hx : Bys w a la x) (hn : la ≤ 1000000000000) :
    Calls Try.prog 41 #[.slice a la ca, .int .i64 p, .int .i64 k] w fun e w' => e = .returned (.tuple #[.int .i64 (getV la x p k), .bool (getO la p k)]) ∧ w = w' := by
  by_cases h : (1 ≤ k ∧ k ≤ 4) ∧ 0 ≤ p ∧ p ≤ la - k
  · have ho : getO la p k = true := by simp only [getO, decide_eq_true_eq]; exact h
    obtain ⟨m, rfl⟩ := Int.eq_ofNat_of_zero_le (by omega : 0 ≤ k)
    obtain ⟨q, rfl⟩ := Int.eq_ofNat_of_zero_le h.2.1
    rw [getV, if_pos ho, ho]
    exact get_yes a la ca q m x w hx hn (by omega) (by omega) (by omega)
  · have ho : getO la p k = false := by simp only [getO, decide_eq_false_iff_not]; exact h
    rw [getV, if_neg (by rw [ho]; decide), ho]
    exact get_no a la ca p k w hn (by omega)
theorem refGet_fun (a : Option Addr) (la ca : Nat) (p k : Int) (x : List Int) (w : World) (hx : Bys w a la x) (hn : la ≤ 1000000000000) :
    Calls Try.prog 37 #[.slice a la ca, .int .i64 p, .int .i64 k] w fun e w' => e = .returned (.tuple #[.int .i64 (getV la x p k), .bool (getO la p k)]) ∧ w = w' := by
  by_cases h : (1 ≤ k ∧ k ≤ 4) ∧ 0 ≤ p ∧ p ≤ la - k
  · have ho : getO la p k = true := by simp only [getO, decide_eq_true_eq]; exact h
    obtain ⟨m, rfl⟩ := Int.eq_ofNat_of_zero_le (by omega : 0 ≤ k)
    obtain ⟨q, rfl⟩ := Int.eq_ofNat_of_zero_le h.2.1
    rw [getV, if_pos ho, ho]
    exact refGet_yes a la ca q m x w hx hn (by omega) (by omega) (by omega)
  · have ho : getO la p k = false := by simp only [getO, decide_eq_false_iff_not]; exact h
    rw [getV, if_neg (by rw [ho]; decide), ho]
    exact refGet_no a la ca p k w (by omega)

/-- What Pad answers. -/
def padO (la : Nat) (n : Int) : Bool := decide ((la : Int) ≤ n ∧ n ≤ 65536)
def padF (x : List Int) (n : Int) : List Int := if padO x.length n then padL x n.toNat else []
theorem padF_small {x : List Int} (hx : AllB x) (n : Int) : AllB (padF x n) := by
  unfold padF
  split
  · exact padL_small hx _
  · intro z hz; cases hz
def RetP (w0 : World) (zs : List Int) (ok : Bool) (e : Ending) (w' : World) : Prop := ∃ a c, e = .returned (.tuple #[.slice a zs.length c, .bool ok]) ∧ SliceOf w0 zs zs.length a c w'
theorem pad_fun (a : Option Addr) (la ca : Nat) (n : Int) (x : List Int) (w : World) (hx : Bys w a la x) :
    Calls Try.prog 31 #[.slice a la ca, .int .i64 n] w (RetP w (padF x n) (padO la n)) := by
  by_cases h : (la : Int) ≤ n ∧ n ≤ 65536
  · have ho : padO la n = true := by simp only [padO, decide_eq_true_eq]; exact h
    obtain ⟨m, rfl⟩ := Int.eq_ofNat_of_zero_le (by omega : 0 ≤ n)
    have hL : padF x m = padL x m := by unfold padF; rw [hx.len, ho]; rfl
    rw [hL, ho]
    refine (pad_yes a la ca m x w hx (by omega) (by omega)).mono fun e w' ⟨he, hb, hl⟩ => ?_
    subst he
    have hlen : (padL x m).length = m := padL_len (by rw [hx.len]; omega)
    refine ⟨some ⟨w.heap.size, 0, none⟩, m, ?_, hb.all (padL_small hx.small m), (fun h => by cases h), hl⟩
    rw [hlen]
  · have ho : padO la n = false := by simp only [padO, decide_eq_false_iff_not]; exact h
    have hL : padF x n = [] := by unfold padF; rw [hx.len, ho]; rfl
    rw [hL, ho]
    exact (pad_no a la ca n w (by omega)).mono fun e w' ⟨he, hw⟩ => by subst he hw; exact ⟨none, 0, rfl, Bys.none _, (fun _ => ⟨rfl, rfl⟩), Below.refl _ _⟩

end Go.Proofs.Ytgfakdjljcnpiaa
