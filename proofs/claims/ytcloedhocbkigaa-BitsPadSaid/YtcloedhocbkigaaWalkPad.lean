/-
  BitsPad's walk.
-/
import Derived.Test.YtcloedhocbkigaaAlive
import Derived.Test.YtcloedhocbkigaaNought
import Derived.Test.YtcloedhocbkigaaFun
import Derived.Test.YtcloedhocbkigaaArgs
namespace Go.Proofs.Ytcloedhocbkigaa
open Go.RowKit

theorem padL_front (x : List Int) (n : Nat) : (padL x n).take x.length = x := by simp [padL]
theorem padL_rest (x : List Int) (n : Nat) : noughtB ((padL x n).drop x.length) = true :=
  noughtB_true fun j _ => by
    rw [byt_drop]
    unfold padL
    rw [byt_app_right, byt_zero]

set_option maxHeartbeats 800000 in
theorem law_pad_yes (a : Option Addr) (la ca n : Nat) (x : List Int) (w : World) (hx : Bys w a la x) (h5 : la ≤ 5000) (h : la ≤ n) (hn : n ≤ 65536) :
    Calls Try.prog 7 #[.slice a la ca, .int .i64 n] w fun e w' => e = .returned (.bool true) ∧ Below w.heap.size w w' := by
  go_enter Try.func7, Try.ntmps7
  go_wp2_with (fail)
  with_reducible refine (alive_any _).mono ?_
  rintro e w1 ⟨rfl, hl1⟩
  have hx1 := hx.next hl1
  go_wp2_with (fail)
  with_reducible refine (pad_yes _ _ _ n _ _ hx1 h hn).mono ?_
  rintro e w2 ⟨rfl, hb2, hl2⟩
  have hx2 := hx1.next hl2
  have hr2 := hb2.bysn (padL_small hx.small n) (padL_len (by rw [hx.len]; exact h))
  have bl2 := hl1.trans (hl2.mono hl1.size)
  clear hx1 hl1 hl2 hb2
  go_wp2_with (fail)
  with_reducible refine (same_eq _ _ _ _ _ _ _ _ (hr2.front h) hx2 (by omega) (by rw [← hx.len]; exact padL_front x n)).mono ?_
  rintro e w3 ⟨rfl, hl3⟩
  have bl3 := bl2.trans (hl3.mono bl2.size)
  have hs3 : Bys w3 (some ⟨w1.heap.size, la, none⟩) (n - la) ((padL x n).drop la) := by simpa using (hr2.next hl3).rest la
  have hno : Hid (noughtB ((padL x n).drop la) = true) := by have := padL_rest x n; rwa [hx.len] at this
  clear hx hx2 hr2 bl2 hl3
  by_cases hnl : n = la
  all_goals
    try subst hnl
    go_wp2_with (fail)
    first
      | with_reducible refine (nought_yes _ _ _ _ _ hs3 (by omega) hno.out).mono ?_
      | with_reducible refine (nought_yes _ _ _ _ _ (Bys.none _) (by omega) rfl).mono ?_
    rintro e w5 ⟨rfl, rfl⟩
    go_wp2_with (fail)
    go_ret
    exact ⟨rfl, bl3⟩

set_option maxHeartbeats 800000 in
theorem law_pad_no (a : Option Addr) (la ca : Nat) (n : Int) (w : World) (h5 : la ≤ 5000) (h : n < la ∨ 65536 < n) :
    Calls Try.prog 7 #[.slice a la ca, .int .i64 n] w fun e w' => e = .returned (.bool true) ∧ Below w.heap.size w w' := by
  by_cases hn : n < la
  all_goals
    go_enter Try.func7, Try.ntmps7
    go_wp2_with (fail)
    with_reducible refine (alive_any _).mono ?_
    rintro e w1 ⟨rfl, hl1⟩
    go_wp2_with (fail)
    with_reducible refine (pad_no _ _ _ n _ h).mono ?_
    rintro e w2 ⟨rfl, rfl⟩
    have h6 : la ≤ n → 65536 < n := by omega
    clear h
    first
      | (have h7 : 65536 < n := by omega)
      | skip
    go_wp2_with (fail)
    go_ret
    exact ⟨rfl, hl1⟩

theorem law_pad_big (a : Option Addr) (la ca : Nat) (n : Int) (w : World) (h : 5000 < la) :
    Calls Try.prog 7 #[.slice a la ca, .int .i64 n] w fun e w' => e = .returned (.bool true) ∧ Below w.heap.size w w' := by
  go_enter Try.func7, Try.ntmps7
  go_wp2_with (fail)
  with_reducible refine (alive_any _).mono ?_
  rintro e w1 ⟨rfl, hl1⟩
  go_wp2_with (fail)
  go_ret
  exact ⟨rfl, hl1⟩

theorem law_pad (a : Option Addr) (la ca : Nat) (n : Int) (x : List Int) (w : World) (hx : Bys w a la x) :
    Calls Try.prog 7 #[.slice a la ca, .int .i64 n] w fun e w' => e = .returned (.bool true) ∧ Below w.heap.size w w' := by
  by_cases h5 : la ≤ 5000
  · by_cases h : (la : Int) ≤ n ∧ n ≤ 65536
    · obtain ⟨m, rfl⟩ := Int.eq_ofNat_of_zero_le (by omega : 0 ≤ n)
      exact law_pad_yes a la ca m x w hx h5 (by omega) (by omega)
    · exact law_pad_no a la ca n w h5 (by omega)
  · exact law_pad_big a la ca n w (by omega)

end Go.Proofs.Ytcloedhocbkigaa
