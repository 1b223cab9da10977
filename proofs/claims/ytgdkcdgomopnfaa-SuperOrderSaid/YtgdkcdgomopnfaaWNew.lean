/-
  SuperNewest, walked.
-/
import Derived.Test.YtgdkcdgomopnfaaNewR
import Derived.Test.YtgdkcdgomopnfaaRows4
namespace Go.Proofs.Ytgdkcdgomopnfaa
open Go.RowKit

theorem nmV_same {f g : Nat → Pc} {n : Nat} (h : SameZ g f n) : nmV g n = nmV f n := by
  induction n with
  | zero => rfl
  | succ n ih => rw [nmV, nmV, h n (by omega), ih fun i hi => h i (by omega)]
theorem nbS_same {f g : Nat → Pc} {n : Nat} (h : SameZ g f n) : nbS g n = nbS f n := by
  induction n with
  | zero => rfl
  | succ n ih => rw [nbS, nbS, h n (by omega), ih fun i hi => h i (by omega)]
set_option maxHeartbeats 4000000 in
theorem new_law (a : Option Addr) (n c : Nat) (f : Nat → Pc) (w : World) (h : Rws w a n f) (hl : n ≤ 9223372036854775807) (hr : ∀ i, i < n → (f i).n ≤ reachBytes) :
    Calls Try.prog 6 #[.slice a n c] w fun e w' => e = .returned (.bool true) ∧ Below w.heap.size w w' := by
  have HR := Lib.hid hr
  clear hr
  go_enter Try.func6, Try.ntmps6
  go_wp2_with (fail)
  refine (alive_any w).mono ?_
  rintro e w1 ⟨rfl, hb1⟩
  replace h := h.next hb1
  have hB := hb1
  clear hb1
  go_wp2_with (fail)
  refine (weigh_any 20000 (by omega) a n c f w1 h hl HR.out).mono ?_
  rintro e w2 ⟨t, ht, rfl, rfl, hw⟩
  have HW := Lib.hid hw
  clear hw
  by_cases hg : 20000 < t
  · have h1 : (20000 : Int) < (t : Int) := by omega
    clear h hg
    go_wp2_with (fail)
    go_ret
    exact ⟨rfl, hB⟩
  have h1 : ¬ (20000 : Int) < (t : Int) := by omega
  obtain ⟨hn, hbn⟩ := HW.out (by omega)
  have HBN := Lib.hid hbn
  have hn2 : n ≤ 20000 := hn
  clear hn hbn HR HW
  go_wp2_with (fail)
  refine (copyRows_any a n c f w1 h (by omega) (fun i hi => by have := HBN.out i hi; omega)).mono ?_
  rintro e w3 ⟨v, g, rfl, ho, hz, hb3⟩
  obtain ⟨ra, rc, rfl, hg3, _, _, _⟩ := ho.rws
  have HZ := Lib.hid hz
  have HGN : Hid (∀ i, i < n → (g i).n ≤ 1000000000000) := by
    show ∀ i, _
    intro i hi
    have h1 := HBN.out i hi
    have h2 := (hg3.each i hi).len
    have h3 := (h.each i hi).len
    rw [hz i hi] at h2
    omega
  have HFN : Hid (∀ i, i < n → (f i).n ≤ 1000000000000) := by
    show ∀ i, _
    intro i hi
    have := HBN.out i hi
    omega
  replace h := h.next hb3
  replace hB := hB.trans (hb3.mono hB.size)
  have e1 := Lib.hid (nmV_same hz)
  have e2 := Lib.hid (nbS_same hz)
  clear hb3 hz ho
  go_wp2_with (fail)
  refine (newestMark_any ra n rc g w3 hg3 (by omega) HGN.out).mono ?_
  rintro e w4 ⟨rfl, hb⟩
  rw [e1.out]
  replace h := h.next hb
  replace hg3 := hg3.next hb
  replace hB := hB.trans (hb.mono hB.size)
  clear hb
  go_wp2_with (fail)
  refine (refNewestMark_any a n c f w4 h (by omega)).mono ?_
  rintro e w5 ⟨rfl, hb⟩
  obtain ⟨s, hs⟩ : ∃ s, s = nmV f n := ⟨_, rfl⟩
  rw [← hs]
  replace h := h.next hb
  replace hg3 := hg3.next hb
  replace hB := hB.trans (hb.mono hB.size)
  clear hb hs e1
  go_wp2_with (fail)
  refine (newestMember_any ra n rc g w5 hg3 (by omega) HGN.out).mono ?_
  rintro e w6 ⟨rfl, hb⟩
  rw [e2.out]
  replace h := h.next hb
  replace hg3 := hg3.next hb
  replace hB := hB.trans (hb.mono hB.size)
  clear hb
  go_wp2_with (fail)
  refine (refNewestMember_any a n c f w6 h (by omega)).mono ?_
  rintro e w7 ⟨rfl, hb⟩
  obtain ⟨B, hs⟩ : ∃ s, s = nbS f n := ⟨_, rfl⟩
  rw [← hs]
  replace h := h.next hb
  replace hg3 := hg3.next hb
  replace hB := hB.trans (hb.mono hB.size)
  clear hb hs e2
  go_wp2_with (fail)
  refine (sameRows_eq ra a n rc c g f w7 hg3 h (by omega) HZ.out HFN.out).mono ?_
  rintro e w8 ⟨rfl, hb⟩
  replace hB := hB.trans (hb.mono hB.size)
  clear hb h hg3
  go_wp2_with (fail)
  go_ret
  exact ⟨ret_bool (by simp), hB⟩

end Go.Proofs.Ytgdkcdgomopnfaa
