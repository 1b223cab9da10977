/-
  BitsWider's walk.
-/
import Derived.Test.YtcloedhocbkigaaAlive
import Derived.Test.YtcloedhocbkigaaArgs
namespace Go.Proofs.Ytcloedhocbkigaa
open Go.RowKit

theorem hasW_wider {m : Nat} {n : Int} (h : hasW n m = true) (h1 : 1 ≤ m) (h4 : m < 4) : hasW n ((m : Int) + 1) = true := by
  unfold hasW at h ⊢
  rcases (by omega : m = 1 ∨ m = 2 ∨ m = 3) with rfl | rfl | rfl <;> simp at h ⊢ <;> omega
theorem hasW_top {m : Nat} {n : Int} (h : hasW n m = true) (h1 : 1 ≤ m) (h4 : m < 4) : n / 256 ^ m % 256 = 0 := by
  unfold hasW at h
  rcases (by omega : m = 1 ∨ m = 2 ∨ m = 3) with rfl | rfl | rfl <;> simp at h ⊢ <;> omega
theorem digs_front (m : Nat) (n : Int) : (digs (m + 1) n).take m = digs m n := by
  rw [digs_snoc, List.take_append_of_le_length (by rw [digs_len]; exact Nat.le_refl _), List.take_of_length_le (by rw [digs_len]; exact Nat.le_refl _)]

set_option maxHeartbeats 800000 in
theorem law_wider_in (m : Nat) (n : Int) (w : World) (h1 : 1 ≤ m) (h4 : m < 4) (hw : hasW n m = true) :
    Calls Try.prog 8 #[.int .i64 m, .int .i64 n] w fun e w' => e = .returned (.bool true) ∧ Below w.heap.size w w' := by
  have hw2 : Hid (hasW n ((m + 1 : Nat) : Int) = true) := hasW_wider hw h1 h4
  have hw1 : Hid (hasW n m = true) := hw
  have htop : Hid (byt (digs (m + 1) n) m = 0) := by
    show _ = _
    rw [byt_digs _ _ _ (by omega), hasW_top hw h1 h4]
  have hm0 : ((m : Int) == 0) = false := by simp; omega
  clear hw
  go_enter Try.func8, Try.ntmps8
  go_wp2_with (fail)
  with_reducible refine (alive_any _).mono ?_
  rintro e w1 ⟨rfl, hl1⟩
  go_wp2_with (fail)
  with_reducible refine (put_yes m n _ h1 (by omega) hw1.out).mono ?_
  rintro e w2 ⟨rfl, hb2, hl2⟩
  have hr2 := hb2.bysn (digs_small m n) (digs_len m n)
  have bl2 := hl1.trans (hl2.mono hl1.size)
  clear hl1 hl2 hb2
  go_wp2_with (fail)
  refine (put_yes (m + 1) n _ (by omega) (by omega) hw2.out).mono ?_
  rintro e w3 ⟨rfl, hb3, hl3⟩
  have hr3 := hr2.next hl3
  have hq3 := hb3.bysn (digs_small (m + 1) n) (digs_len (m + 1) n)
  have bl3 := bl2.trans (hl3.mono bl2.size)
  have hlt3 := hb3.lt
  clear hr2 bl2 hl3
  go_wp2_with (fail)
  with_reducible refine (same_eq _ _ _ _ _ _ _ _ (hq3.front (by omega)) hr3 (by omega) (digs_front m n)).mono ?_
  rintro e w4 ⟨rfl, hl4⟩
  have hc : w4.cell? ⟨w2.heap.size, m, none⟩ = some (.int .u8 0) := by
    rw [← htop.out]
    exact (hb3.below hlt3 hl4).cell (by rw [digs_len]; omega)
  have bl4 := bl3.trans (hl4.mono bl3.size)
  clear hr3 hq3 bl3 hl4 hb3
  go_wp2_with (fail)
  go_ret
  exact ⟨rfl, bl4⟩

set_option maxHeartbeats 400000 in
theorem law_wider_four (n : Int) (w : World) (hw : hasW n 4 = true) :
    Calls Try.prog 8 #[.int .i64 4, .int .i64 n] w fun e w' => e = .returned (.bool true) ∧ Below w.heap.size w w' := by
  have hw1 : Hid (hasW n ((4 : Nat) : Int) = true) := hw
  clear hw
  go_enter Try.func8, Try.ntmps8
  go_wp2_with (fail)
  with_reducible refine (alive_any _).mono ?_
  rintro e w1 ⟨rfl, hl1⟩
  go_wp2_with (fail)
  refine (put_yes 4 n _ (by omega) (by omega) hw1.out).mono ?_
  rintro e w2 ⟨rfl, hb2, hl2⟩
  have bl2 := hl1.trans (hl2.mono hl1.size)
  clear hl1 hl2 hb2
  go_wp2_with (fail)
  go_ret
  exact ⟨rfl, bl2⟩

set_option maxHeartbeats 400000 in
theorem law_wider_no (k n : Int) (w : World) (h : isW k = false ∨ hasW n k = false) :
    Calls Try.prog 8 #[.int .i64 k, .int .i64 n] w fun e w' => e = .returned (.bool true) ∧ Below w.heap.size w w' := by
  have h' : Hid (isW k = false ∨ hasW n k = false) := h
  clear h
  go_enter Try.func8, Try.ntmps8
  go_wp2_with (fail)
  with_reducible refine (alive_any _).mono ?_
  rintro e w1 ⟨rfl, hl1⟩
  go_wp2_with (fail)
  with_reducible refine (put_no _ _ _ h'.out).mono ?_
  rintro e w2 ⟨rfl, rfl⟩
  go_wp2_with (fail)
  go_ret
  exact ⟨rfl, hl1⟩

theorem law_wider (k n : Int) (w : World) :
    Calls Try.prog 8 #[.int .i64 k, .int .i64 n] w fun e w' => e = .returned (.bool true) ∧ Below w.heap.size w w' := by
  by_cases h : isW k = false ∨ hasW n k = false
  · exact law_wider_no k n w h
  · have h1 : isW k = true := by cases hk : isW k <;> simp_all
    have h2 : hasW n k = true := by cases hk : hasW n k <;> simp_all
    obtain ⟨a, b⟩ : 1 ≤ k ∧ k ≤ 4 := by simpa [isW] using h1
    obtain ⟨m, rfl⟩ := Int.eq_ofNat_of_zero_le (by omega : 0 ≤ k)
    by_cases h4 : m < 4
    · exact law_wider_in m n w (by omega) h4 h2
    · obtain rfl : m = 4 := by omega
      exact law_wider_four n w h2

end Go.Proofs.Ytcloedhocbkigaa
