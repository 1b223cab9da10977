/-
  BitsBytes's walk.
-/
import Derived.Test.YtcloedhocbkigaaAlive
import Derived.Test.YtcloedhocbkigaaFun
import Derived.Test.YtcloedhocbkigaaNought
import Derived.Test.YtcloedhocbkigaaArgs
namespace Go.Proofs.Ytcloedhocbkigaa
open Go.RowKit

set_option maxHeartbeats 800000 in
theorem law_bytes_in (a b : Option Addr) (la ca lb cb : Nat) (n : Int) (x y : List Int) (w : World) (hx : Bys w a la x) (hy : Bys w b lb y) (na : a = none → la = 0 ∧ ca = 0) (nb : b = none → lb = 0 ∧ cb = 0) (h5 : la ≤ 5000) (h6 : lb ≤ 5000) :
    Calls Try.prog 4 #[.slice a la ca, .slice b lb cb, .int .i64 n] w fun e w' => e = .returned (.bool true) ∧ Below w.heap.size w w' := by
  have hxl := hx.len
  have hyl := hy.len
  subst hxl hyl
  have HN : Hid (a = none → x.length = 0 ∧ ca = 0) := na
  have HM : Hid (b = none → y.length = 0 ∧ cb = 0) := nb
  have hxx : (xorL x y).length ≤ 10000 := by rw [xorL_len]; omega
  have hpp : (padF x n).length ≤ 100000 := by
    unfold padF
    split
    · next h =>
      simp [padO] at h
      rw [padL_len (by omega)]; omega
    · simp
  clear na nb
  go_enter Try.func4, Try.ntmps4
  go_wp2_with (fail)
  with_reducible refine (alive_any _).mono ?_
  rintro e w1 ⟨rfl, hl1⟩
  have hx1 := hx.next hl1
  have hy1 := hy.next hl1
  go_wp2_with (fail)
  with_reducible refine (copy_fun _ _ _ _ _ hx1 HN.out (by omega)).mono ?_
  rintro e w2 ⟨pa, pc, rfl, hp2⟩
  have hx2 := hx1.next hp2.bel
  have hy2 := hy1.next hp2.bel
  have bl2 := hl1.trans (hp2.bel.mono hl1.size)
  clear hx1 hy1 hl1 hx hy
  go_wp2_with (fail)
  with_reducible refine (copy_fun _ _ _ _ _ hy2 HM.out (by omega)).mono ?_
  rintro e w3 ⟨qa, qc, rfl, hq3⟩
  have hx3 := hx2.next hq3.bel
  have hy3 := hy2.next hq3.bel
  have hp3 := hp2.bys.next hq3.bel
  have bl3 := bl2.trans (hq3.bel.mono bl2.size)
  clear hx2 hy2 bl2 hp2
  go_wp2_with (fail)
  with_reducible refine (pad_fun _ _ _ _ _ _ hp3).mono ?_
  rintro e w4 ⟨ra, rc, rfl, hr4⟩
  have hx4 := hx3.next hr4.bel
  have hy4 := hy3.next hr4.bel
  have hp4 := hp3.next hr4.bel
  have hq4 := hq3.bys.next hr4.bel
  have bl4 := bl3.trans (hr4.bel.mono bl3.size)
  clear hx3 hy3 bl3 hp3 hq3
  go_wp2_with (fail)
  with_reducible refine (refPad_fun _ _ _ _ _ _ hx4).mono ?_
  rintro e w5 ⟨sa, sc, rfl, hs5⟩
  have hx5 := hx4.next hs5.bel
  have hy5 := hy4.next hs5.bel
  have hp5 := hp4.next hs5.bel
  have hq5 := hq4.next hs5.bel
  have hr5 := hr4.bys.next hs5.bel
  have bl5 := bl4.trans (hs5.bel.mono bl4.size)
  clear hx4 hy4 bl4 hp4 hq4 hr4
  go_wp2_with (fail)
  with_reducible refine (nought_any _ _ _ _ _ hp5 (by omega)).mono ?_
  rintro e w6 ⟨rfl, rfl⟩
  go_wp2_with (fail)
  with_reducible refine (refNought_any _ _ _ _ _ hx5 (by omega)).mono ?_
  rintro e w6 ⟨rfl, rfl⟩
  go_wp2_with (fail)
  with_reducible refine (xor_fun _ _ _ _ _ _ _ _ _ hp5 hq5 (by omega) (by omega)).mono ?_
  rintro e w7 ⟨ta, tc, rfl, ht7⟩
  have hx7 := hx5.next ht7.bel
  have hy7 := hy5.next ht7.bel
  have hp7 := hp5.next ht7.bel
  have hq7 := hq5.next ht7.bel
  have hr7 := hr5.next ht7.bel
  have hs7 := hs5.bys.next ht7.bel
  have bl7 := bl5.trans (ht7.bel.mono bl5.size)
  clear hx5 hy5 bl5 hp5 hq5 hr5 hs5
  go_wp2_with (fail)
  with_reducible refine (refXor_fun _ _ _ _ _ _ _ _ _ hx7 hy7 (by omega) (by omega)).mono ?_
  rintro e w8 ⟨ua, uc, rfl, hu8⟩
  have hx8 := hx7.next hu8.bel
  have hy8 := hy7.next hu8.bel
  have hp8 := hp7.next hu8.bel
  have hq8 := hq7.next hu8.bel
  have hr8 := hr7.next hu8.bel
  have hs8 := hs7.next hu8.bel
  have ht8 := ht7.bys.next hu8.bel
  have bl8 := bl7.trans (hu8.bel.mono bl7.size)
  clear hx7 hy7 bl7 hp7 hq7 hr7 hs7 ht7
  go_wp2_with (fail)
  with_reducible refine (same_eq _ _ _ _ _ _ _ _ ht8 hu8.bys (by omega) rfl).mono ?_
  rintro e w9 ⟨rfl, hl9⟩
  have hx9 := hx8.next hl9
  have hy9 := hy8.next hl9
  have hp9 := hp8.next hl9
  have hq9 := hq8.next hl9
  have hr9 := hr8.next hl9
  have hs9 := hs8.next hl9
  have bl9 := bl8.trans (hl9.mono bl8.size)
  clear hx8 hy8 bl8 hp8 hq8 hr8 hs8 ht8 hu8 hl9
  go_wp2_with (fail)
  with_reducible refine (same_eq _ _ _ _ _ _ _ _ hr9 hs9 (by omega) rfl).mono ?_
  rintro e w10 ⟨rfl, hl10⟩
  have hx10 := hx9.next hl10
  have hy10 := hy9.next hl10
  have hp10 := hp9.next hl10
  have hq10 := hq9.next hl10
  have bl10 := bl9.trans (hl10.mono bl9.size)
  clear hx9 hy9 bl9 hp9 hq9 hr9 hs9 hl10
  go_wp2_with (fail)
  with_reducible refine (same_eq _ _ _ _ _ _ _ _ hp10 hx10 (by omega) rfl).mono ?_
  rintro e w11 ⟨rfl, hl11⟩
  have hy11 := hy10.next hl11
  have hq11 := hq10.next hl11
  have bl11 := bl10.trans (hl11.mono bl10.size)
  clear hx10 hy10 bl10 hp10 hq10 hl11
  go_wp2_with (fail)
  with_reducible refine (same_eq _ _ _ _ _ _ _ _ hq11 hy11 (by omega) rfl).mono ?_
  rintro e w12 ⟨rfl, hl12⟩
  have bl12 := bl11.trans (hl12.mono bl11.size)
  clear bl11
  go_wp2_with (fail)
  go_ret
  exact ⟨rfl, bl12⟩

theorem law_bytes (a b : Option Addr) (la ca lb cb : Nat) (n : Int) (x y : List Int) (w : World) (hx : Bys w a la x) (hy : Bys w b lb y) (na : a = none → la = 0 ∧ ca = 0) (nb : b = none → lb = 0 ∧ cb = 0) :
    Calls Try.prog 4 #[.slice a la ca, .slice b lb cb, .int .i64 n] w fun e w' => e = .returned (.bool true) ∧ Below w.heap.size w w' := by
  by_cases h5 : la ≤ 5000
  · by_cases h6 : lb ≤ 5000
    · exact law_bytes_in a b la ca lb cb n x y w hx hy na nb h5 h6
    · have h7 : 5000 < lb := by omega
      clear hx hy na nb
      go_enter Try.func4, Try.ntmps4
      go_wp2_with (fail)
      with_reducible refine (alive_any _).mono ?_
      rintro e w1 ⟨rfl, hl1⟩
      go_wp2_with (fail)
      go_ret
      exact ⟨rfl, hl1⟩
  · have h7 : 5000 < la := by omega
    clear hx hy na nb
    go_enter Try.func4, Try.ntmps4
    go_wp2_with (fail)
    with_reducible refine (alive_any _).mono ?_
    rintro e w1 ⟨rfl, hl1⟩
    go_wp2_with (fail)
    go_ret
    exact ⟨rfl, hl1⟩

end Go.Proofs.Ytcloedhocbkigaa
