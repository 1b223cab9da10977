/-
  BitsBack's walk.
-/
import Derived.Test.YtcloedhocbkigaaAlive
import Derived.Test.YtcloedhocbkigaaFun
import Derived.Test.YtcloedhocbkigaaArgs
namespace Go.Proofs.Ytcloedhocbkigaa
open Go.RowKit

theorem getN_digs (m : Nat) (z : List Int) : ∀ (n : Int) (x : List Int), 0 ≤ n → n < 256 ^ m → getN (x ++ digs m n ++ z) x.length m = n := by
  induction m with
  | zero => intro n x h0 h1; simp at h1; simp [getN]; omega
  | succ m ih =>
    intro n x h0 h1
    have hb : byt (x ++ digs (m + 1) n ++ z) x.length = n % 256 := by
      rw [List.append_assoc, show x.length = x.length + 0 from rfl, byt_app_right]
      simp [digs, byt]
    have he : x ++ digs (m + 1) n ++ z = (x ++ [n % 256]) ++ digs m (n / 256) ++ z := by simp [digs]
    have hi := ih (n / 256) (x ++ [n % 256]) (by omega) (by rw [Int.pow_succ] at h1; omega)
    rw [getN, hb, he, show x.length + 1 = (x ++ [n % 256]).length by simp, hi]
    omega
theorem hasW_lim {m : Nat} {n : Int} (h : hasW n m = true) (h1 : 1 ≤ m) (h4 : m ≤ 4) : 0 ≤ n ∧ n < 256 ^ m := by
  unfold hasW at h
  rcases (by omega : m = 1 ∨ m = 2 ∨ m = 3 ∨ m = 4) with rfl | rfl | rfl | rfl <;> simp at h ⊢ <;> omega

set_option maxHeartbeats 800000 in
theorem law_back_in (m : Nat) (n : Int) (a b : Option Addr) (la ca lb cb : Nat) (x y : List Int) (w : World) (hx : Bys w a la x) (hy : Bys w b lb y) (na : a = none → la = 0 ∧ ca = 0) (nb : b = none → lb = 0 ∧ cb = 0) (h5 : la ≤ 5000) (h6 : lb ≤ 5000)
    (h1 : 1 ≤ m) (h4 : m ≤ 4) (hw : hasW n m = true) :
    Calls Try.prog 5 #[.int .i64 m, .int .i64 n, .slice a la ca, .slice b lb cb] w fun e w' => e = .returned (.bool true) ∧ Below w.heap.size w w' := by
  have HN : Hid (a = none → la = 0 ∧ ca = 0) := na
  have HM : Hid (b = none → lb = 0 ∧ cb = 0) := nb
  have HW : Hid (hasW n m = true) := hw
  have hm0 : ((m : Int) == 0) = false := by simp; omega
  have HG : Hid (getN (x ++ digs m n ++ y) la m = n) := by
    obtain ⟨h0, hlt⟩ := hasW_lim hw h1 h4
    have := getN_digs m y n x h0 hlt
    rwa [hx.len] at this
  clear na nb hw
  go_enter Try.func5, Try.ntmps5
  go_wp2_with (fail)
  with_reducible refine (alive_any _).mono ?_
  rintro e w1 ⟨rfl, hl1⟩
  have hx1 := hx.next hl1
  have hy1 := hy.next hl1
  go_wp2_with (fail)
  with_reducible refine (put_yes m n _ h1 h4 HW.out).mono ?_
  rintro e w2 ⟨rfl, hb2, hl2⟩
  have hx2 := hx1.next hl2
  have hy2 := hy1.next hl2
  have hp2 := hb2.bysn (digs_small m n) (digs_len m n)
  have bl2 := hl1.trans (hl2.mono hl1.size)
  clear hx1 hy1 hl1 hx hy hl2 hb2
  go_wp2_with (fail)
  with_reducible refine (copy_any _ _ _ _ _ hx2 HN.out (by omega)).mono ?_
  rintro e w3 ⟨v3, rfl, hown3, hl3⟩
  have hp3 := hp2.next hl3
  have s3 := hl3.size
  have s2 := bl2.size
  clear hx2 hp2
  go_wp2_with (first
    | (at_builtin; refine wpList_ap rfl (.tmp 49) (.tmp 50) rfl w2.heap.size _ la _ rfl hown3 _ m m _ rfl hp3 (fun h => by cases h) (by omega) s3 w2 hl3 ?_; intro v4 w4 hown4 hl4; have hy4 := hy2.next hl4; have s4 := hl4.size; clear hl3 hp3 hown3)
    | (at_builtin; refine wpList_ap rfl (.tmp 52) (.tmp 53) rfl w2.heap.size _ (la + m) _ rfl hown4 _ lb cb _ rfl hy4 HM.out (by omega) s4 w2 hl4 ?_; intro v5 w5 hown5 hl5; obtain ⟨a5, c5, rfl, _, hb5, _⟩ := hown5.form; have bl5 := bl2.trans (hl5.mono s2); clear hl4 hy4 hown4 s4))
  with_reducible refine (get_yes _ _ _ la m _ _ hb5 (by omega) h1 h4 (by omega)).mono ?_
  rintro e w6 ⟨rfl, rfl⟩
  rw [HG.out]
  go_wp2_with (fail)
  go_ret
  exact ⟨rfl, bl5⟩

theorem hasW_no {m : Nat} {n : Int} (h : hasW n m = false) (h0 : 0 ≤ n) : (2 : Int) ^ (8 * m) ≤ n := by
  simp only [hasW, decide_eq_false_iff_not] at h
  rw [show (8 * (m : Int)).toNat = 8 * m by omega] at h
  omega

set_option maxHeartbeats 800000 in
theorem law_back_no (k n : Int) (a b : Option Addr) (la ca lb cb : Nat) (w : World) (h5 : la ≤ 5000) (h6 : lb ≤ 5000) (h : isW k = false ∨ hasW n k = false) :
    Calls Try.prog 5 #[.int .i64 k, .int .i64 n, .slice a la ca, .slice b lb cb] w fun e w' => e = .returned (.bool true) ∧ Below w.heap.size w w' := by
  have HH : Hid (isW k = false ∨ hasW n k = false) := h
  by_cases hk : 1 ≤ k ∧ k ≤ 4
  · have h2 : hasW n k = false := by
      rcases h with h | h
      · rw [isW_true hk] at h; cases h
      · exact h
    clear h
    by_cases h0 : n < 0
    · obtain ⟨k1, k4⟩ := hk
      clear h2
      go_enter Try.func5, Try.ntmps5
      go_wp2_with (fail)
      with_reducible refine (alive_any _).mono ?_
      rintro e w1 ⟨rfl, hl1⟩
      go_wp2_with (fail)
      with_reducible refine (put_no _ _ _ HH.out).mono ?_
      rintro e w2 ⟨rfl, rfl⟩
      go_wp2_with (fail)
      go_ret
      exact ⟨rfl, hl1⟩
    · have hbig : Hid (∀ m : Nat, k = m → (2 : Int) ^ (8 * m) ≤ n) := fun m hm => by subst hm; exact hasW_no h2 (by omega)
      clear h2
      rcases (by omega : k = 1 ∨ k = 2 ∨ k = 3 ∨ k = 4) with rfl | rfl | rfl | rfl
      · have h3 : (256 : Int) ≤ n := by have := hbig.out 1 rfl; simpa using this
        clear hbig hk
        go_enter Try.func5, Try.ntmps5
        go_wp2_with (fail)
        with_reducible refine (alive_any _).mono ?_
        rintro e w1 ⟨rfl, hl1⟩
        go_wp2_with (fail)
        with_reducible refine (put_no _ _ _ HH.out).mono ?_
        rintro e w2 ⟨rfl, rfl⟩
        go_wp2_with (fail)
        go_ret
        exact ⟨rfl, hl1⟩
      · have h3 : (65536 : Int) ≤ n := by have := hbig.out 2 rfl; simpa using this
        clear hbig hk
        go_enter Try.func5, Try.ntmps5
        go_wp2_with (fail)
        with_reducible refine (alive_any _).mono ?_
        rintro e w1 ⟨rfl, hl1⟩
        go_wp2_with (fail)
        with_reducible refine (put_no _ _ _ HH.out).mono ?_
        rintro e w2 ⟨rfl, rfl⟩
        go_wp2_with (fail)
        go_ret
        exact ⟨rfl, hl1⟩
      · have h3 : (16777216 : Int) ≤ n := by have := hbig.out 3 rfl; simpa using this
        clear hbig hk
        go_enter Try.func5, Try.ntmps5
        go_wp2_with (fail)
        with_reducible refine (alive_any _).mono ?_
        rintro e w1 ⟨rfl, hl1⟩
        go_wp2_with (fail)
        with_reducible refine (put_no _ _ _ HH.out).mono ?_
        rintro e w2 ⟨rfl, rfl⟩
        go_wp2_with (fail)
        go_ret
        exact ⟨rfl, hl1⟩
      · have h3 : (4294967296 : Int) ≤ n := by have := hbig.out 4 rfl; simpa using this
        clear hbig hk
        go_enter Try.func5, Try.ntmps5
        go_wp2_with (fail)
        with_reducible refine (alive_any _).mono ?_
        rintro e w1 ⟨rfl, hl1⟩
        go_wp2_with (fail)
        with_reducible refine (put_no _ _ _ HH.out).mono ?_
        rintro e w2 ⟨rfl, rfl⟩
        go_wp2_with (fail)
        go_ret
        exact ⟨rfl, hl1⟩
  · clear h
    by_cases k1 : k < 1
    · clear hk
      go_enter Try.func5, Try.ntmps5
      go_wp2_with (fail)
      with_reducible refine (alive_any _).mono ?_
      rintro e w1 ⟨rfl, hl1⟩
      go_wp2_with (fail)
      with_reducible refine (put_no _ _ _ HH.out).mono ?_
      rintro e w2 ⟨rfl, rfl⟩
      go_wp2_with (fail)
      go_ret
      exact ⟨rfl, hl1⟩
    · have k4 : 4 < k := by omega
      clear hk
      go_enter Try.func5, Try.ntmps5
      go_wp2_with (fail)
      with_reducible refine (alive_any _).mono ?_
      rintro e w1 ⟨rfl, hl1⟩
      go_wp2_with (fail)
      with_reducible refine (put_no _ _ _ HH.out).mono ?_
      rintro e w2 ⟨rfl, rfl⟩
      go_wp2_with (fail)
      go_ret
      exact ⟨rfl, hl1⟩

theorem law_back_big (k n : Int) (a b : Option Addr) (la ca lb cb : Nat) (w : World) (h : 5000 < la ∨ 5000 < lb) :
    Calls Try.prog 5 #[.int .i64 k, .int .i64 n, .slice a la ca, .slice b lb cb] w fun e w' => e = .returned (.bool true) ∧ Below w.heap.size w w' := by
  by_cases h5 : 5000 < la
  · clear h
    go_enter Try.func5, Try.ntmps5
    go_wp2_with (fail)
    with_reducible refine (alive_any _).mono ?_
    rintro e w1 ⟨rfl, hl1⟩
    go_wp2_with (fail)
    go_ret
    exact ⟨rfl, hl1⟩
  · have h6 : 5000 < lb := by omega
    clear h
    go_enter Try.func5, Try.ntmps5
    go_wp2_with (fail)
    with_reducible refine (alive_any _).mono ?_
    rintro e w1 ⟨rfl, hl1⟩
    go_wp2_with (fail)
    go_ret
    exact ⟨rfl, hl1⟩

theorem law_back (k n : Int) (a b : Option Addr) (la ca lb cb : Nat) (x y : List Int) (w : World) (hx : Bys w a la x) (hy : Bys w b lb y) (na : a = none → la = 0 ∧ ca = 0) (nb : b = none → lb = 0 ∧ cb = 0) :
    Calls Try.prog 5 #[.int .i64 k, .int .i64 n, .slice a la ca, .slice b lb cb] w fun e w' => e = .returned (.bool true) ∧ Below w.heap.size w w' := by
  by_cases h5 : la ≤ 5000 ∧ lb ≤ 5000
  · by_cases h : isW k = false ∨ hasW n k = false
    · exact law_back_no k n a b la ca lb cb w h5.1 h5.2 h
    · have h1 : isW k = true := by cases hk : isW k <;> simp_all
      have h2 : hasW n k = true := by cases hk : hasW n k <;> simp_all
      obtain ⟨c, d⟩ : 1 ≤ k ∧ k ≤ 4 := by simpa [isW] using h1
      obtain ⟨m, rfl⟩ := Int.eq_ofNat_of_zero_le (by omega : 0 ≤ k)
      exact law_back_in m n a b la ca lb cb x y w hx hy na nb h5.1 h5.2 (by omega) (by omega) h2
  · exact law_back_big k n a b la ca lb cb w (by omega)

end Go.Proofs.Ytcloedhocbkigaa
