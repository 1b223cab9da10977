/-
  BitsNumbers's walk.
-/
import Derived.Test.YtcloedhocbkigaaAlive
import Derived.Test.YtcloedhocbkigaaFun
import Derived.Test.YtcloedhocbkigaaArgs
namespace Go.Proofs.Ytcloedhocbkigaa
open Go.RowKit

set_option maxHeartbeats 800000 in
theorem law_numbers_in (k n : Int) (a : Option Addr) (la ca : Nat) (p : Int) (x : List Int) (w : World) (hx : Bys w a la x) (h5 : la ≤ 5000) (hn : n ≤ 9223372036854775807) :
    Calls Try.prog 3 #[.int .i64 k, .int .i64 n, .slice a la ca, .int .i64 p] w fun e w' => e = .returned (.bool true) ∧ Below w.heap.size w w' := by
  have hlen : (putL k n).length ≤ 1000000000000 := by
    unfold putL
    split
    · next h =>
      simp [isW] at h
      rw [digs_len]; omega
    · simp
  go_enter Try.func3, Try.ntmps3
  go_wp2_with (fail)
  with_reducible refine (alive_any _).mono ?_
  rintro e w1 ⟨rfl, hl1⟩
  have hx1 := hx.next hl1
  go_wp2_with (fail)
  with_reducible refine (get_fun _ _ _ _ _ _ _ hx1 (by omega)).mono ?_
  rintro e w2 ⟨rfl, rfl⟩
  go_wp2_with (fail)
  with_reducible refine (refGet_fun _ _ _ _ _ _ _ hx1 (by omega)).mono ?_
  rintro e w2 ⟨rfl, rfl⟩
  clear hx hx1
  go_wp2_with (fail)
  with_reducible refine (put_fun _ _ _).mono ?_
  rintro e w2 ⟨a2, c2, rfl, hs2⟩
  have bl2 := hl1.trans (hs2.bel.mono hl1.size)
  go_wp2_with (fail)
  with_reducible refine (refPut_fun _ _ _ hn).mono ?_
  rintro e w3 ⟨a3, c3, rfl, hs3⟩
  have bl3 := bl2.trans (hs3.bel.mono bl2.size)
  go_wp2_with (fail)
  with_reducible refine (same_eq _ _ _ _ _ _ _ _ (hs2.bys.next hs3.bel) hs3.bys hlen rfl).mono ?_
  rintro e w4 ⟨rfl, hl4⟩
  have bl4 := bl3.trans (hl4.mono bl3.size)
  go_wp2_with (fail)
  go_ret
  exact ⟨rfl, bl4⟩

theorem law_numbers (k n : Int) (a : Option Addr) (la ca : Nat) (p : Int) (x : List Int) (w : World) (hx : Bys w a la x) (hn : (Lit.int .i64 n).wf = true) :
    Calls Try.prog 3 #[.int .i64 k, .int .i64 n, .slice a la ca, .int .i64 p] w fun e w' => e = .returned (.bool true) ∧ Below w.heap.size w w' := by
  have hn' : n ≤ 9223372036854775807 := by
    simp [Lit.wf, IntKind.min, IntKind.max, IntKind.signed, IntKind.bits] at hn
    omega
  by_cases h5 : la ≤ 5000
  · exact law_numbers_in k n a la ca p x w hx h5 hn'
  · have h6 : 5000 < la := by omega
    clear hn hx
    go_enter Try.func3, Try.ntmps3
    go_wp2_with (fail)
    with_reducible refine (alive_any _).mono ?_
    rintro e w1 ⟨rfl, hl1⟩
    go_wp2_with (fail)
    go_ret
    exact ⟨rfl, hl1⟩

end Go.Proofs.Ytcloedhocbkigaa
