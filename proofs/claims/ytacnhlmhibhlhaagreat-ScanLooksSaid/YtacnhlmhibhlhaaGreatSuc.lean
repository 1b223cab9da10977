/-
  Summaries: what GetSummary answers, of a block, by one word for the program and the document.
-/
import Derived.Test.YtacnhlmhibhlhaaGreatSub
set_option linter.unusedSimpArgs false
set_option linter.unusedVariables false
namespace Go.Proofs.YtacnhlmhibhlhaaGreat
open Go.RowKit
set_option linter.unusedVariables false

theorem digs_pair {x : List Int} (hx : AllB x) (p : Nat) : digs 2 (getN x p 2) = [byt x p, byt x (p + 1)] := by
  have h0 := byt_bd hx p
  have h1 := byt_bd hx (p + 1)
  have e : getN x p 2 = byt x p + 256 * byt x (p + 1) := by
    show byt x p + 256 * (byt x (p + 1) + 256 * 0) = _
    omega
  apply byt_ext (by rw [digs_len]; rfl)
  intro i hi
  rw [digs_len] at hi
  rw [byt_digs _ _ _ hi, e]
  rcases (by omega : i = 0 ∨ i = 1) with rfl | rfl
  · show (byt x p + 256 * byt x (p + 1)) / 256 ^ 0 % 256 = byt x p
    omega
  · show (byt x p + 256 * byt x (p + 1)) / 256 ^ 1 % 256 = byt x (p + 1)
    omega
theorem tv_56 {x : List Int} (k : Nat) (hk : k ≤ 4) : tv 56 x (k : Int) = getN x (2 * k) 2 := by
  unfold tv getV
  have ho : getO 56 (2 * (k : Int)) 2 = true := by
    unfold getO
    rw [decide_eq_true_eq]
    omega
  rw [if_pos ho]
  congr 1
theorem take10 {x : List Int} (h : 10 ≤ x.length) : x.take 10 = [byt x 0, byt x 1, byt x 2, byt x 3, byt x 4, byt x 5, byt x 6, byt x 7, byt x 8, byt x 9] := by
  apply byt_ext (by simp; omega)
  intro i hi
  rw [List.length_take] at hi
  rw [byt_take (by omega)]
  rcases (by omega : i = 0 ∨ i = 1 ∨ i = 2 ∨ i = 3 ∨ i = 4 ∨ i = 5 ∨ i = 6 ∨ i = 7 ∨ i = 8 ∨ i = 9) with rfl | rfl | rfl | rfl | rfl | rfl | rfl | rfl | rfl | rfl <;> rfl
/-- A block's payload is that of what stands in it, just if it has the sign, and noughts behind. -/
theorem sum_same {x : List Int} {la : Nat} (hx : AllB x) (hl : x.length = la) : x = sumL (tv la x 1) (tv la x 2) (tv la x 3) (tv la x 4) ↔ (la = 56 ∧ noughtB (x.drop 10) = true ∧ tv la x 0 = 21331) := by
  constructor
  · intro h
    have h56 : la = 56 := by rw [← hl, h]; exact sumL_len _ _ _ _
    subst h56
    generalize tv 56 x 1 = c at h
    generalize tv 56 x 2 = i at h
    generalize tv 56 x 3 = n at h
    generalize tv 56 x 4 = t at h
    refine ⟨rfl, ?_, ?_⟩
    · apply noughtB_true
      intro j hj
      rw [byt_drop, h, sumL, padL]
      have := byt_app_right (x := sumN c i n t) (y := List.replicate (56 - (sumN c i n t).length) 0) j
      rw [sumN_len] at this ⊢
      rw [this]
      exact byt_zero _ _
    · have e0 := tv_56 (x := x) 0 (by omega)
      rw [show ((0 : Nat) : Int) = 0 from rfl] at e0
      rw [e0]
      show byt x 0 + 256 * (byt x 1 + 256 * 0) = 21331
      have hd : digs 2 21331 = [83, 83] := by rfl
      have b0 : byt x 0 = 83 := by rw [h, sumL, padL, sumN, hd]; rfl
      have b1 : byt x 1 = 83 := by rw [h, sumL, padL, sumN, hd]; rfl
      rw [b0, b1]
      rfl
  · rintro ⟨rfl, h2, h3⟩
    have t0 := tv_56 (x := x) 0 (by omega)
    have t1 := tv_56 (x := x) 1 (by omega)
    have t2 := tv_56 (x := x) 2 (by omega)
    have t3 := tv_56 (x := x) 3 (by omega)
    have t4 := tv_56 (x := x) 4 (by omega)
    rw [show ((0 : Nat) : Int) = 0 from rfl] at t0
    rw [show ((1 : Nat) : Int) = 1 from rfl] at t1
    rw [show ((2 : Nat) : Int) = 2 from rfl] at t2
    rw [show ((3 : Nat) : Int) = 3 from rfl] at t3
    rw [show ((4 : Nat) : Int) = 4 from rfl] at t4
    have e : sumN (tv 56 x 1) (tv 56 x 2) (tv 56 x 3) (tv 56 x 4) = x.take 10 := by
      rw [sumN, ← h3, t0, t1, t2, t3, t4, digs_pair hx, digs_pair hx, digs_pair hx, digs_pair hx, digs_pair hx, take10 (by omega)]
      rfl
    have ez : x.drop 10 = List.replicate 46 0 := by
      apply byt_ext (by simp [hl])
      intro j hj
      rw [byt_zero]
      unfold noughtB at h2
      rw [List.all_eq_true] at h2
      have := h2 ((x.drop 10)[j]) (List.getElem_mem hj)
      simp at this
      unfold byt
      rw [List.getD_eq_getElem?_getD, List.getElem?_eq_getElem hj]
      simpa using this
    rw [sumL, padL, sumN_len, e]
    conv => lhs; rw [← List.take_append_drop 10 x, ez]

/-- Does a block tell a summary that is right? -/
noncomputable def gsO (d r s o ix : Int) (la : Nat) (x : List Int) : Bool := decide (o = 65535) && (decide (ix = 0) && (sameB x (sumL (tv la x 1) (tv la x 2) (tv la x 3) (tv la x 4)) && sumO d r s (tv la x 1) (tv la x 2) (tv la x 3) (tv la x 4)))
theorem gsO_own {d r s o ix : Int} {la : Nat} {x : List Int} (h : o ≠ 65535) : gsO d r s o ix la x = false := by unfold gsO; rw [decide_eq_false h]; rfl
theorem gsO_idx {d r s o ix : Int} {la : Nat} {x : List Int} (h : ix ≠ 0) : gsO d r s o ix la x = false := by unfold gsO; rw [decide_eq_false h]; simp
theorem gsO_sum {d r s o ix : Int} {la : Nat} {x : List Int} (h : sumO d r s (tv la x 1) (tv la x 2) (tv la x 3) (tv la x 4) = false) : gsO d r s o ix la x = false := by unfold gsO; rw [h]; simp
theorem gsO_same {d r s o ix : Int} {la : Nat} {x : List Int} (h : sameB x (sumL (tv la x 1) (tv la x 2) (tv la x 3) (tv la x 4)) = false) : gsO d r s o ix la x = false := by unfold gsO; rw [h]; simp
theorem gsO_yes {d r s o ix : Int} {la : Nat} {x : List Int} (h1 : o = 65535) (h2 : ix = 0) (h3 : sameB x (sumL (tv la x 1) (tv la x 2) (tv la x 3) (tv la x 4)) = true) (h4 : sumO d r s (tv la x 1) (tv la x 2) (tv la x 3) (tv la x 4) = true) : gsO d r s o ix la x = true := by
  unfold gsO
  rw [h3, h4, decide_eq_true h1, decide_eq_true h2]
  rfl
theorem getSum_any (d r s o ix : Int) (a : Option Addr) (la ca : Nat) (x : List Int) (w : World) (hx : Bys w a la x) (hn : la ≤ 1000000000000) :
    Calls Tryz.prog 25 #[gv d r s, .agg #[.int .i64 o, .int .i64 ix, .slice a la ca]] w (GsmPost w (gsO d r s o ix la x) (tv la x 1) (tv la x 2) (tv la x 3) (tv la x 4)) := by
  cases hs : sumO d r s (tv la x 1) (tv la x 2) (tv la x 3) (tv la x 4) with
  | false => rw [gsO_sum hs]; exact getSum_no d r s o ix a la ca x w hx hn _ _ _ _ rfl rfl rfl rfl hs
  | true =>
    by_cases ho : o = 65535
    · by_cases hi : ix = 0
      · cases hsm : sameB x (sumL (tv la x 1) (tv la x 2) (tv la x 3) (tv la x 4)) with
        | false => rw [gsO_same hsm]; exact getSum_diff d r s o ix a la ca x w hx hn _ _ _ _ rfl rfl rfl rfl hs (by simp [ho]) (by simp [hi]) hsm
        | true => rw [gsO_yes ho hi hsm hs]; exact getSum_yes d r s o ix a la ca x w hx hn _ _ _ _ rfl rfl rfl rfl hs (by simp [ho]) (by simp [hi]) hsm
      · rw [gsO_idx hi]; exact getSum_idx d r s o ix a la ca x w hx hn _ _ _ _ rfl rfl rfl rfl hs (by simp [ho]) (by simp [hi])
    · rw [gsO_own ho]; exact getSum_own d r s o ix a la ca x w hx hn _ _ _ _ rfl rfl rfl rfl hs (by simp [ho])
theorem rgetSum_any (d r s o ix : Int) (a : Option Addr) (la ca : Nat) (x : List Int) (w : World) (hx : Pin w a la ca x) (hn : la ≤ 1000000000000) :
    Calls Tryz.prog 48 #[gv d r s, .agg #[.int .i64 o, .int .i64 ix, .slice a la ca]] w (GsmPost w (gsO d r s o ix la x) (tv la x 1) (tv la x 2) (tv la x 3) (tv la x 4)) := by
  have hsame := sum_same hx.bys.small hx.len
  have hno : ¬ (la = 56 ∧ noughtB (x.drop 10) = true ∧ tv la x 0 = 21331) → gsO d r s o ix la x = false := fun h => gsO_same (sameB_false fun e => h (hsame.1 e))
  by_cases ho : o = 65535
  · by_cases hi : ix = 0
    · by_cases hl : la = 56
      · cases hz : noughtB (x.drop 10) with
        | false =>
          rw [hno (fun h => by rw [hz] at h; cases h.2.1)]
          exact rgetSum_not d r s o ix a la ca x w hx hn _ _ _ _ rfl rfl rfl rfl (by simp [ho]) (by simp [hi]) hl hz
        | true =>
          by_cases ht : tv la x 0 = 21331
          · have hsm := sameB_true (hsame.2 ⟨hl, hz, ht⟩)
            cases hs : sumO d r s (tv la x 1) (tv la x 2) (tv la x 3) (tv la x 4) with
            | false => rw [gsO_sum hs]; exact rgetSum_right d r s o ix a la ca x w hx hn _ _ _ _ rfl rfl rfl rfl (by simp [ho]) (by simp [hi]) hl hz _ rfl (by simp [ht]) hs
            | true => rw [gsO_yes ho hi hsm hs]; exact rgetSum_yes d r s o ix a la ca x w hx hn _ _ _ _ rfl rfl rfl rfl (by simp [ho]) (by simp [hi]) hl hz _ rfl (by simp [ht]) hs
          · rw [hno (fun h => ht h.2.2)]
            exact rgetSum_num d r s o ix a la ca x w hx hn _ _ _ _ rfl rfl rfl rfl (by simp [ho]) (by simp [hi]) hl hz _ rfl (by simp [ht])
      · rw [hno (fun h => hl h.1)]
        exact rgetSum_len d r s o ix a la ca x w hx hn _ _ _ _ rfl rfl rfl rfl (by simp [ho]) (by simp [hi]) (by simp; omega)
    · rw [gsO_idx hi]; exact rgetSum_idx d r s o ix a la ca x w hx hn _ _ _ _ rfl rfl rfl rfl (by simp [ho]) (by simp [hi])
  · rw [gsO_own ho]; exact rgetSum_own d r s o ix a la ca x w hx hn _ _ _ _ rfl rfl rfl rfl (by simp [ho])
end Go.Proofs.YtacnhlmhibhlhaaGreat

/-
  Summaries: what was put is got again.
-/
namespace Go.Proofs.YtacnhlmhibhlhaaGreat
open Go.RowKit
set_option linter.unusedVariables false

theorem digs_two (v : Int) : digs 2 v = [v % 256, v / 256 % 256] := by
  apply byt_ext (by rw [digs_len]; rfl)
  intro i hi
  rw [digs_len] at hi
  rw [byt_digs _ _ _ hi]
  rcases (by omega : i = 0 ∨ i = 1) with rfl | rfl
  · show v / 256 ^ 0 % 256 = v % 256
    omega
  · show v / 256 ^ 1 % 256 = v / 256 % 256
    omega
theorem two_num {v : Int} (h : 0 ≤ v ∧ v < 65536) : v % 256 + 256 * (v / 256 % 256 + 256 * 0) = v := by omega
theorem tv_sum {c i n t : Int} (hc : 0 ≤ c ∧ c < 65536) (hi : 0 ≤ i ∧ i < 65536) (hn : 0 ≤ n ∧ n < 65536) (ht : 0 ≤ t ∧ t < 65536) : tv 56 (sumL c i n t) 1 = c ∧ tv 56 (sumL c i n t) 2 = i ∧ tv 56 (sumL c i n t) 3 = n ∧ tv 56 (sumL c i n t) 4 = t := by
  have e : sumL c i n t = padL ([83, 83] ++ [c % 256, c / 256 % 256] ++ [i % 256, i / 256 % 256] ++ [n % 256, n / 256 % 256] ++ [t % 256, t / 256 % 256]) 56 := by
    rw [sumL, sumN, digs_two c, digs_two i, digs_two n, digs_two t]
    rfl
  have t1 := tv_56 (x := sumL c i n t) 1 (by omega)
  have t2 := tv_56 (x := sumL c i n t) 2 (by omega)
  have t3 := tv_56 (x := sumL c i n t) 3 (by omega)
  have t4 := tv_56 (x := sumL c i n t) 4 (by omega)
  refine ⟨t1.trans ?_, t2.trans ?_, t3.trans ?_, t4.trans ?_⟩
  · rw [e]; exact two_num hc
  · rw [e]; exact two_num hi
  · rw [e]; exact two_num hn
  · rw [e]; exact two_num ht
theorem gsO_put {d r s c i n t : Int} (h : SumR d r s c i n t) : gsO d r s 65535 0 56 (sumL c i n t) = true := by
  obtain ⟨e1, e2, e3, e4⟩ := tv_sum h.small.1 h.small.2.1 h.small.2.2.1 h.small.2.2.2
  refine gsO_yes rfl rfl ?_ ?_
  · rw [e1, e2, e3, e4]; exact sameB_true rfl
  · rw [e1, e2, e3, e4]; exact sumO_yes h
end Go.Proofs.YtacnhlmhibhlhaaGreat
