/-
  BitsXor's walk.
-/
import Derived.Test.YtcloedhocbkigaaAlive
import Derived.Test.YtcloedhocbkigaaNought
import Derived.Test.YtcloedhocbkigaaArgs
namespace Go.Proofs.Ytcloedhocbkigaa
open Go.RowKit

theorem xorL_comm (x y : List Int) : xorL x y = xorL y x :=
  byt_ext (by rw [xorL_len, xorL_len, Nat.max_comm]) fun i hi => by
    rw [xorL_len] at hi
    rw [byt_xorL hi, byt_xorL (by omega), xr_comm]
theorem byt_xorL' {x y : List Int} (i : Nat) : byt (xorL x y) i = xr (byt x i) (byt y i) := by
  by_cases h : i < max x.length y.length
  · exact byt_xorL h
  · rw [byt_past (by rw [xorL_len]; omega), byt_past (zs := x) (by omega), byt_past (zs := y) (by omega)]
    rfl
theorem xorL_assoc (x y z : List Int) : xorL (xorL x y) z = xorL x (xorL y z) :=
  byt_ext (by simp only [xorL_len]; omega) fun i _ => by
    rw [byt_xorL', byt_xorL', byt_xorL', byt_xorL', xr_assoc]
theorem xorL_back {x y : List Int} (hx : AllB x) (i : Nat) : byt (xorL (xorL x y) y) i = byt x i := by
  rw [byt_xorL', byt_xorL', xr_assoc, xr_self, xr_zero (byt_bd hx i).1]
theorem xorL_self (x : List Int) : noughtB (xorL x x) = true := noughtB_true fun j _ => by rw [byt_xorL', xr_self]
theorem xorL_front {x y : List Int} (hx : AllB x) : (xorL (xorL x y) y).take x.length = x :=
  byt_ext (by rw [List.length_take, xorL_len, xorL_len]; omega) fun i hi => by
    rw [List.length_take] at hi
    rw [byt_take (by omega), xorL_back hx]
theorem xorL_rest {x y : List Int} (hx : AllB x) : noughtB ((xorL (xorL x y) y).drop x.length) = true :=
  noughtB_true fun j _ => by rw [byt_drop, xorL_back hx, byt_past (Nat.le_add_right _ _)]

set_option maxHeartbeats 800000 in
theorem law_xor_in (a b c : Option Addr) (la ca lb cb lc cc n m p : Nat) (x y z : List Int) (w : World) (hx : Bys w a la x) (hy : Bys w b lb y) (hz : Bys w c lc z) (h1 : la ≤ 3000) (h2 : lb ≤ 3000) (h3 : lc ≤ 3000)
    (hn : Hid (n = max la lb)) (hm : Hid (m = max n lc)) (hp : Hid (p = max lb lc)) (hn3 : Hid (n = max lb la)) (hap : Hid (m = max la p)) (hself : Hid (la = max la la)) :
    Calls Try.prog 6 #[.slice a la ca, .slice b lb cb, .slice c lc cc] w fun e w' => e = .returned (.bool true) ∧ Below w.heap.size w w' := by
  have hla : la ≤ n := by rw [hn.out]; omega
  have hlb : lb ≤ n := by rw [hn.out]; omega
  have hn6 : n ≤ 3000 := by rw [hn.out]; omega
  have hm6 : m ≤ 3000 := by rw [hm.out]; omega
  have hp6 : p ≤ 3000 := by rw [hp.out]; omega
  have hmx : (if la < lb then (lb : Int) else (la : Int)) = (n : Int) := by have := hn.out; split <;> omega
  go_enter Try.func6, Try.ntmps6
  go_wp2_with (fail)
  with_reducible refine (alive_any _).mono ?_
  rintro e w1 ⟨rfl, hl1⟩
  have hx1 := hx.next hl1
  have hy1 := hy.next hl1
  have hz1 := hz.next hl1
  go_wp2_with (fail)
  with_reducible refine (xor_n (n := n) _ _ _ _ _ _ _ _ _ hx1 hy1 (by omega) (by omega) hn.out).mono ?_
  rintro e w2 ⟨rfl, hr2, hl2⟩
  have hx2 := hx1.next hl2
  have hy2 := hy1.next hl2
  have hz2 := hz1.next hl2
  have bl2 := hl1.trans (hl2.mono hl1.size)
  clear hx1 hy1 hz1 hl1 hl2
  go_wp2_with (fail)
  with_reducible refine (xor_n (n := n) _ _ _ _ _ _ _ _ _ hr2 hy2 (by omega) (by omega) (by omega)).mono ?_
  rintro e w3 ⟨rfl, hr3, hl3⟩
  have hx3 := hx2.next hl3
  have hy3 := hy2.next hl3
  have hz3 := hz2.next hl3
  have hrr3 := hr2.next hl3
  have bl3 := bl2.trans (hl3.mono bl2.size)
  clear hx2 hy2 hz2 bl2 hl3 hr2
  go_wp2_with (fail)
  with_reducible refine (same_eq _ _ _ _ _ _ _ _ (hr3.front hla) hx3 (by omega) (by rw [← hx.len]; exact xorL_front hx.small)).mono ?_
  rintro e w4 ⟨rfl, hl4⟩
  have hx4 := hx3.next hl4
  have hy4 := hy3.next hl4
  have hz4 := hz3.next hl4
  have hr4 := hrr3.next hl4
  have bl4 := bl3.trans (hl4.mono bl3.size)
  have hs3 : Bys w4 (some ⟨w2.heap.size, la, none⟩) (n - la) ((xorL (xorL x y) y).drop la) := by simpa using (hr3.next hl4).rest la
  have hno : Hid (noughtB ((xorL (xorL x y) y).drop la) = true) := by have := xorL_rest (y := y) hx.small; rwa [hx.len] at this
  clear hx3 hy3 hz3 hrr3 hr3 bl3 hx hy hz hl4
  by_cases hnl : n = la
  all_goals
    try subst hnl
    go_wp2_with (fail)
    first
      | with_reducible refine (nought_yes _ _ _ _ _ hs3 (by omega) hno.out).mono ?_
      | with_reducible refine (nought_yes _ _ _ _ _ (Bys.none _) (by omega) rfl).mono ?_
    rintro e w5 ⟨rfl, rfl⟩
    clear hs3 hno
    go_wp2_with (fail)
    with_reducible refine (xor_n _ _ _ _ _ _ _ _ _ hy4 hx4 (by omega) (by omega) hn3.out).mono ?_
    rintro e w5 ⟨rfl, hr5, hl5⟩
    have hx5 := hx4.next hl5
    have hy5 := hy4.next hl5
    have hz5 := hz4.next hl5
    have hk5 := hr4.next hl5
    have bl5 := bl4.trans (hl5.mono bl4.size)
    clear hx4 hy4 hz4 hr4 bl4 hl5
    go_wp2_with (fail)
    with_reducible refine (same_eq _ _ _ _ _ _ _ _ hk5 hr5 (by omega) (xorL_comm _ _)).mono ?_
    rintro e w6 ⟨rfl, hl6⟩
    have hx6 := hx5.next hl6
    have hy6 := hy5.next hl6
    have hz6 := hz5.next hl6
    have hk6 := hk5.next hl6
    have bl6 := bl5.trans (hl6.mono bl5.size)
    clear hx5 hy5 hz5 hr5 hk5 bl5
    go_wp2_with (fail)
    with_reducible refine (xor_n _ _ _ _ _ _ _ _ _ hk6 hz6 (by omega) (by omega) hm.out).mono ?_
    rintro e w7 ⟨rfl, hr7, hl7⟩
    have hx7 := hx6.next hl7
    have hy7 := hy6.next hl7
    have hz7 := hz6.next hl7
    have bl7 := bl6.trans (hl7.mono bl6.size)
    clear hx6 hy6 hz6 hk6 bl6 hl7
    go_wp2_with (fail)
    with_reducible refine (xor_n _ _ _ _ _ _ _ _ _ hy7 hz7 (by omega) (by omega) hp.out).mono ?_
    rintro e w8 ⟨rfl, hr8, hl8⟩
    have hx8 := hx7.next hl8
    have hk8 := hr7.next hl8
    have bl8 := bl7.trans (hl8.mono bl7.size)
    clear hx7 hy7 hz7 hr7 bl7 hl8
    go_wp2_with (fail)
    with_reducible refine (xor_n _ _ _ _ _ _ _ _ _ hx8 hr8 (by omega) (by omega) hap.out).mono ?_
    rintro e w9 ⟨rfl, hr9, hl9⟩
    have hx9 := hx8.next hl9
    have hk9 := hk8.next hl9
    have bl9 := bl8.trans (hl9.mono bl8.size)
    clear hx8 hk8 hr8 bl8 hl9
    go_wp2_with (fail)
    with_reducible refine (same_eq _ _ _ _ _ _ _ _ hk9 hr9 (by omega) (xorL_assoc _ _ _)).mono ?_
    rintro e w10 ⟨rfl, hl10⟩
    have hx10 := hx9.next hl10
    have bl10 := bl9.trans (hl10.mono bl9.size)
    clear hx9 hk9 hr9 bl9
    go_wp2_with (fail)
    with_reducible refine (xor_n _ _ _ _ _ _ _ _ _ hx10 hx10 (by omega) (by omega) hself.out).mono ?_
    rintro e w11 ⟨rfl, hr11, hl11⟩
    have bl11 := bl10.trans (hl11.mono bl10.size)
    clear hx10 bl10 hl11
    go_wp2_with (fail)
    with_reducible refine (nought_yes _ _ _ _ _ hr11 (by omega) (xorL_self _)).mono ?_
    rintro e w12 ⟨rfl, rfl⟩
    go_wp2_with (fail)
    go_ret
    exact ⟨rfl, bl11⟩

theorem law_xor_big (a b c : Option Addr) (la ca lb cb lc cc : Nat) (w : World) (h : ¬ (la ≤ 3000 ∧ lb ≤ 3000 ∧ lc ≤ 3000)) :
    Calls Try.prog 6 #[.slice a la ca, .slice b lb cb, .slice c lc cc] w fun e w' => e = .returned (.bool true) ∧ Below w.heap.size w w' := by
  by_cases h1 : 3000 < la
  · clear h
    go_enter Try.func6, Try.ntmps6
    go_wp2_with (fail)
    with_reducible refine (alive_any _).mono ?_
    rintro e w1 ⟨rfl, hl1⟩
    go_wp2_with (fail)
    go_ret
    exact ⟨rfl, hl1⟩
  · by_cases h2 : 3000 < lb
    · clear h
      go_enter Try.func6, Try.ntmps6
      go_wp2_with (fail)
      with_reducible refine (alive_any _).mono ?_
      rintro e w1 ⟨rfl, hl1⟩
      go_wp2_with (fail)
      go_ret
      exact ⟨rfl, hl1⟩
    · have h3 : 3000 < lc := by omega
      clear h
      go_enter Try.func6, Try.ntmps6
      go_wp2_with (fail)
      with_reducible refine (alive_any _).mono ?_
      rintro e w1 ⟨rfl, hl1⟩
      go_wp2_with (fail)
      go_ret
      exact ⟨rfl, hl1⟩

theorem law_xor (a b c : Option Addr) (la ca lb cb lc cc : Nat) (x y z : List Int) (w : World) (hx : Bys w a la x) (hy : Bys w b lb y) (hz : Bys w c lc z) :
    Calls Try.prog 6 #[.slice a la ca, .slice b lb cb, .slice c lc cc] w fun e w' => e = .returned (.bool true) ∧ Below w.heap.size w w' := by
  by_cases h : la ≤ 3000 ∧ lb ≤ 3000 ∧ lc ≤ 3000
  · exact law_xor_in a b c la ca lb cb lc cc (max la lb) (max (max la lb) lc) (max lb lc) x y z w hx hy hz h.1 h.2.1 h.2.2 rfl rfl rfl (Nat.max_comm _ _) (Nat.max_assoc _ _ _) (Nat.max_self _).symm
  · exact law_xor_big a b c la ca lb cb lc cc w h

end Go.Proofs.Ytcloedhocbkigaa
