/-
  The program's At, Place, Put, New by contract.
-/
import Derived.Test.YtgedgkdnjnbijaaKp
import Derived.Deep.DeepCutAuto
import Derived.Deep.RegionHeld3
namespace Go.Proofs.Ytgedgkdnjnbijaa
open Go.RowKit Go.Maps Go.ChangeMaps Go.MapKept
set_option linter.unusedVariables false
set_option linter.unusedSimpArgs false

theorem PmpAt.lookA {w : World} {p b c : Nat} {A : Nat → Int} {X : Nat → List Int} (h : PmpAt w p b c A X) (k : Int) :
    (Instr.lookup 57 (.map (some b)) (.int .i64 k) false).run Try.prog w = .ok (.int .i64 (adO A k)) w := by
  by_cases h0 : 0 ≤ k
  · obtain ⟨j, rfl⟩ := Int.eq_ofNat_of_zero_le h0
    by_cases ha : A j = 0
    · have := h.ma.no uA (zA w) (k := (j : Int)) (fun s e => by rw [show s = j by omega]; exact fA_no ha) false
      rw [this]
      rcases Nat.lt_or_ge j 828 with h1 | h1
      · rw [adO_yes A h1, ha]; rfl
      · rw [adO_no A (by omega)]; rfl
    · have hj : j < 828 := by
        rcases Nat.lt_or_ge j 828 with h1 | h1
        · exact h1
        · exact absurd (fA_zero (h.ma.far h1)) ha
      obtain ⟨v, ps, hv, hrun⟩ := h.ma.yes2 uA (zA w) (elA_mk ⟨Int.le_refl 0, by omega⟩) (fA_yes ha)
      rw [elA_inv hv] at hrun
      rw [hrun, adO_yes A hj]
  · have := h.ma.no uA (zA w) (k := k) (fun s e => by omega) false
    rw [this, adO_no A (by omega)]
    rfl
theorem at_any {w : World} {p b c : Nat} {A : Nat → Int} {X : Nat → List Int} (h : PmpAt w p b c A X) (k : Int) :
    Calls Try.prog 19 #[.pointer (some ⟨p, 0, none⟩), .int .i64 k] w fun e w' => e = .returned (.int .i64 (adO A k)) ∧ Below w.heap.size w w' := by
  have c0 := h.c0
  have hq := h.lookA k
  obtain ⟨z, hz⟩ : ∃ z, z = adO A k := ⟨_, rfl⟩
  rw [← hz] at hq ⊢
  clear h hz
  go_enter Try.func19, Try.ntmps19
  go_wp2
  go_ret
  exact ⟨rfl, Below.refl _ _⟩
/-- The look-up of bytes. -/
theorem PmpAt.lookX {w : World} {p b c : Nat} {A : Nat → Int} {X : Nat → List Int} (h : PmpAt w p b c A X) (k : Int) :
    (Instr.lookup 59 (.map (some c)) (.int .i64 k) true).run Try.prog w = .ok (.tuple #[payV (if byO X k then byX X k else no56), .bool (byO X k)]) w := by
  by_cases h0 : 0 ≤ k
  · obtain ⟨j, rfl⟩ := Int.eq_ofNat_of_zero_le h0
    by_cases ha : X j = []
    · have := h.mx.no uX (zX w) (k := (j : Int)) (fun s e => by rw [show s = j by omega]; exact fX_no ha) true
      have e : byO X (j : Int) = false := by simp [byO, ha]
      rw [this, e]
      rfl
    · have hj : j < 828 := by
        rcases Nat.lt_or_ge j 828 with h1 | h1
        · exact h1
        · exact absurd (fX_zero (h.mx.far h1)) ha
      obtain ⟨v, ps, hv, hrun⟩ := h.mx.yes uX (zX w) (elX_mk (zs := no56) rfl) (fX_yes ha)
      rw [elX_inv hv] at hrun
      rw [hrun]
      have e : byO X (j : Int) = true := by
        unfold byO
        rw [inK_iff.2 (by omega)]
        cases hx : X j with
        | nil => exact absurd hx ha
        | cons y l => simp [hx]
      have e2 : byX X (j : Int) = X j := by
        unfold byX
        rw [if_pos (inK_iff.2 (by omega))]
        rfl
      rw [e, e2]
      rfl
  · have := h.mx.no uX (zX w) (k := k) (fun s e => by omega) true
    have e : byO X k = false := by simp [byO, show inK k = false from decide_eq_false (by omega)]
    rw [this, e]
    rfl
end Go.Proofs.Ytgedgkdnjnbijaa
