/-
  SectorParity, walked.
-/
import Derived.Test.YtegllnjncpaipaaRefQ
import Derived.Test.YtegllnjncpaipaaRows4
import Derived.Test.YtegllnjncpaipaaAl4
namespace Go.Proofs.Ytegllnjncpaipaa
open Go.RowKit

theorem oneUpto_same {f g : Nat → Pc} {n k : Nat} (h : SameZ f g n) (hk : k ≤ n) : oneUpto f k = oneUpto g k := by
  induction k with
  | zero => rfl
  | succ k ih => rw [oneUpto, oneUpto, ih (by omega), h k (by omega), h 0 (by omega)]
theorem oneSeq_same {f g : Nat → Pc} {n : Nat} (h : SameZ f g n) : oneSeq f n = oneSeq g n := by
  rw [oneSeq, oneSeq, oneUpto_same h (Nat.le_refl _)]
theorem sumP_same {f g : Nat → Pc} {n k : Nat} (h : SameZ f g n) (hk : k ≤ n) : sumP f k = sumP g k := by
  induction k with
  | zero => rfl
  | succ k ih => rw [sumP, sumP, ih (by omega), h k (by omega)]
theorem parL_same {f g : Nat → Pc} {n : Nat} (h : SameZ f g n) : parL f n = parL g n := by
  rw [parL, parL, oneSeq_same h]
  cases hg : oneSeq g n
  · rfl
  · have : 0 < n := by rw [oneSeq, Bool.and_eq_true, decide_eq_true_eq] at hg; exact hg.1
    rw [sumP_same h (Nat.le_refl _), h 0 this]
theorem parL_len {f : Nat → Pc} {n : Nat} : (parL f n).length ≤ 64 := by
  cases h : oneSeq f n
  · rw [parL, h]; simp
  · have h' := h
    rw [oneSeq, Bool.and_eq_true] at h'
    have := sumP_len (Nat.le_refl n) h'.2
    rw [parL, h, if_pos rfl, List.length_append, List.length_take]
    omega

set_option maxHeartbeats 4000000 in
theorem walk_parity (a : Option Addr) (n c : Nat) (f : Nat → Pc) (w : World) (h : Rws w a n f) (hn : n ≤ 9223372036854775807) (hb : ∀ i, i < n → (f i).n ≤ reachBytes) :
    Calls Try.prog 4 #[.slice a n c] w fun e w' => e = .returned (.bool true) ∧ Below w.heap.size w w' := by
  have HB := Lib.hid hb
  clear hb
  go_enter Try.func4, Try.ntmps4
  go_wp2_with (fail)
  refine (alive_any w).mono ?_
  rintro e w1 ⟨rfl, hB1⟩
  have h := h.next hB1
  go_wp2_with (fail)
  refine (weigh_any a n c f w1 h hn HB.out).mono ?_
  rintro e w2 ⟨t, ht, rfl, rfl, hT⟩
  have HT := Lib.hid hT
  clear hT
  by_cases ht2 : t ≤ 10000
  · have hT := HT.out ht2
    have hn2 := hT.1
    have HS := Lib.hid (show ∀ i, i < n → (f i).n ≤ 1000000000000 from fun i hi => by have := hT.2 i hi; omega)
    have e1 : ¬ (10000 : Int) < (t : Int) := by omega
    clear hT
    go_wp2_with (fail)
    refine (copyRows_any a n c f w1 h (by omega) HS.out).mono ?_
    rintro e w2 ⟨v2, g, rfl, ho, hz, hb2⟩
    obtain ⟨a2, c2, rfl, hr, _⟩ := ho.rws
    have HZ := Lib.hid hz
    have HO := Lib.hid (oneSeq_same hz)
    have HP := Lib.hid (parL_same hz)
    have h := h.next hb2
    have hB2 := hB1.trans (hb2.mono hB1.size)
    clear hz ho hb2 hB1
    go_wp2_with (fail)
    have q := par_any a2 n c2 g w2 hr hn
    rw [HO.out, HP.out] at q
    refine q.mono ?_
    rintro e w3 ⟨a3, n3, c3, rfl, h3, hb3⟩
    have h := h.next hb3
    have hr := hr.next hb3
    have hB3 := hB2.trans (hb3.mono hB2.size)
    clear q hb3 hB2
    go_wp2_with (fail)
    have q := restore_any a2 n c2 g w3 hr hn
    rw [HO.out, HP.out] at q
    refine q.mono ?_
    rintro e w4 ⟨a4, n4, c4, rfl, h4, hb4⟩
    have h := h.next hb4
    have hr := hr.next hb4
    have h3 := h3.next hb4
    have hB4 := hB3.trans (hb4.mono hB3.size)
    clear q hb4 hB3
    go_wp2_with (fail)
    refine (refPar_any a n c f w4 h hn).mono ?_
    rintro e w5 ⟨a5, n5, c5, rfl, h5, hb5⟩
    obtain rfl : n5 = n3 := by rw [← h5.len, ← h3.len]
    obtain rfl : n5 = n4 := by rw [← h5.len, ← h4.len]
    have h := h.next hb5
    have hr := hr.next hb5
    have h3 := h3.next hb5
    have h4 := h4.next hb5
    have hB5 := hB4.trans (hb5.mono hB4.size)
    have l5 : n5 ≤ 64 := by rw [← h5.len]; exact parL_len
    clear hb5 hB4
    go_wp2_with (fail)
    refine (same_eq _ _ n5 c3 c5 _ _ w5 h3.bys h5.bys (by omega) rfl).mono ?_
    rintro e w6 ⟨rfl, hb6⟩
    have h := h.next hb6
    have hr := hr.next hb6
    have h4 := h4.next hb6
    have h5 := h5.next hb6
    have hB6 := hB5.trans (hb6.mono hB5.size)
    clear hb6 hB5 h3
    go_wp2_with (fail)
    refine (same_eq _ _ n5 c4 c5 _ _ w6 h4.bys h5.bys (by omega) rfl).mono ?_
    rintro e w7 ⟨rfl, hb7⟩
    have h := h.next hb7
    have hr := hr.next hb7
    have hB7 := hB6.trans (hb7.mono hB6.size)
    clear hb7 hB6 h4 h5
    cases hone : oneSeq f n
    all_goals
      clear HO
      go_wp2_with (fail)
      refine (sameRows_eq a2 a n c2 c g f w7 hr h (by omega) HZ.out HS.out).mono ?_
      rintro e w8 ⟨rfl, hb8⟩
      go_wp2_with (fail)
      go_ret
      exact ⟨rfl, hB7.trans (hb8.mono hB7.size)⟩
  · have e1 : (10000 : Int) < (t : Int) := by omega
    go_wp2_with (fail)
    go_ret
    exact ⟨rfl, hB1⟩

end Go.Proofs.Ytegllnjncpaipaa
