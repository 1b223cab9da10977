/-
  slices.IndexFunc, slices.ContainsFunc of numbers with isNoPointer, by contract.
-/
import Derived.Test.YtgfakdjljcnpiaaSz
import Derived.Shelf.Abstract
namespace Go.Proofs.Ytgfakdjljcnpiaa
open Go.RowKit
set_option linter.unusedVariables false
set_option linter.unusedSimpArgs false

/-- IndexFunc's answer: the first number that is no pointer, or -1. -/
def IxP (ks : List Int) (r : Int) : Prop := (r = -1 ∧ ∀ i, i < ks.length → ptO (num ks i) = true) ∨ (0 ≤ r ∧ ∃ k : Nat, k < ks.length ∧ ptO (num ks k) = false)
set_option maxHeartbeats 1000000 in
theorem indexP_any (w : World) (a : Option Addr) (n c : Nat) (ks : List Int) (h : Ins w a n ks) (hn : n ≤ 1000000000000) :
    Calls Try.prog 48 #[.slice a n c, .func (.func 39) #[] #[]] w fun e w' => ∃ r : Int, e = .returned (.int .i64 r) ∧ IxP ks r ∧ w = w' := by
  have hl := h.len
  subst hl
  have HI := Lib.hid h
  clear h
  go_enter Try.func48, Try.ntmps48
  go_wp2_with (fail)
  go_loop [5, 8] (fun _ v => ∃ k : Nat, k ≤ ks.length ∧ v = .int .i64 k ∧ ∀ i, i < k → ptO (num ks i) = true) (fun _ v => ks.length - (RowKit.intOf v).toNat)
  case atStart => exact ⟨0, by omega, rfl, fun i hi => by omega⟩
  case round =>
    obtain ⟨k, hk, rfl, hI⟩ := hrel
    have HK := Lib.hid hI
    clear hI
    by_cases hlt : k < ks.length
    · obtain ⟨b, off, rfl, hbl, hc⟩ := HI.out.at (by omega : 0 < ks.length)
      have hc1 := hc k hlt
      obtain ⟨z, hz⟩ : ∃ z, z = num ks k := ⟨_, rfl⟩
      rw [← hz] at hc1
      have hcall := noPtr_any z w
      have HZ := Lib.hid hz
      clear hc hz
      cases hb : ptO z with
      | true =>
        rw [hb] at hcall
        go_wp2_with (fail)
        refine hcall.mono ?_
        rintro e w2 ⟨rfl, rfl⟩
        go_wp2_with (fail)
        go_round
        case rel => exact ⟨k + 1, by omega, by go_num, fun i hi => by
          by_cases hik : i = k
          · rw [hik, ← HZ.out, hb]
          · exact HK.out i (by omega)⟩
        case measure => simp [RowKit.intOf]; omega
      | false =>
        rw [hb] at hcall
        go_wp2_with (fail)
        refine hcall.mono ?_
        rintro e w2 ⟨rfl, rfl⟩
        go_wp2_with (fail)
        go_ret
        exact ⟨_, rfl, .inr ⟨by omega, k, hlt, by rw [← HZ.out, hb]⟩, rfl⟩
    · obtain rfl : k = ks.length := by omega
      go_wp2_with (fail)
      go_ret
      exact ⟨_, rfl, .inl ⟨rfl, HK.out⟩, rfl⟩
theorem all_pt {ks : List Int} : ks.all ptO = true ↔ ∀ i, i < ks.length → ptO (num ks i) = true := by
  rw [List.all_eq_true]
  constructor
  · intro h i hi
    have : num ks i = ks[i] := by simp [num, List.getD, hi]
    rw [this]
    exact h _ (List.getElem_mem hi)
  · intro h z hz
    obtain ⟨i, hi, rfl⟩ := List.getElem_of_mem hz
    have := h i hi
    rwa [show num ks i = ks[i] by simp [num, List.getD, hi]] at this
theorem containsP_any (w : World) (a : Option Addr) (n c : Nat) (ks : List Int) (h : Ins w a n ks) (hn : n ≤ 1000000000000) :
    Calls Try.prog 38 #[.slice a n c, .func (.func 39) #[] #[]] w fun e w' => e = .returned (.bool (!ks.all ptO)) ∧ w = w' := by
  have hc := indexP_any w a n c ks h hn
  obtain ⟨B, hB⟩ : ∃ B, B = !ks.all ptO := ⟨_, rfl⟩
  rw [← hB]
  have HB := Lib.hid hB
  clear hB h
  go_enter Try.func38, Try.ntmps38
  go_wp2_with (fail)
  refine hc.mono ?_
  rintro e w2 ⟨r, rfl, hI, rfl⟩
  have HI := Lib.hid hI
  clear hI hc
  by_cases hr : 0 ≤ r
  · go_wp2_with (fail)
    go_ret
    refine ⟨?_, rfl⟩
    rcases HI.out with ⟨h1, _⟩ | ⟨_, k, hk, hp⟩
    · omega
    · have : ks.all ptO = false := by
        cases hh : ks.all ptO with
        | false => rfl
        | true => rw [all_pt.1 hh k hk] at hp; cases hp
      rw [HB.out, this]; simp [hr]
  · go_wp2_with (fail)
    go_ret
    refine ⟨?_, rfl⟩
    rcases HI.out with ⟨_, h1⟩ | ⟨h1, _⟩
    · rw [HB.out, all_pt.2 h1]; simp [hr]
    · omega
end Go.Proofs.Ytgfakdjljcnpiaa
