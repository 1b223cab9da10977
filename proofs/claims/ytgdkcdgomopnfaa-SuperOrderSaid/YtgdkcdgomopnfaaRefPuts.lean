/-
  The reference's Puts, by contract.
-/
import Derived.Test.YtgdkcdgomopnfaaRefR
namespace Go.Proofs.Ytgdkcdgomopnfaa
open Go.RowKit

theorem num_le1 {s : Int} (h : s ≤ 9223372036854775807) (i : Nat) : num [s] i ≤ 9223372036854775807 := by
  match i with
  | 0 => exact h
  | i + 1 => show (0 : Int) ≤ _; omega
theorem num_le3 {d r s : Int} (hd : d ≤ 9223372036854775807) (hr : r ≤ 9223372036854775807) (h : s ≤ 9223372036854775807) (i : Nat) : num [d, r, s] i ≤ 9223372036854775807 := by
  match i with
  | 0 => exact hd
  | 1 => exact hr
  | 2 => exact h
  | i + 3 => show (0 : Int) ≤ _; omega
theorem RetS.up {w w1 w' : World} {zs : List Int} {e : Ending} (h : RetS w1 zs e w') (hb : Below w.heap.size w w1) : RetS w zs e w' := by
  obtain ⟨a, n, c, h1, h2, h3⟩ := h
  exact ⟨a, n, c, h1, h2, hb.trans (h3.mono hb.size)⟩
theorem RetT.of {w0 w' : World} {a : Option Addr} {n c : Nat} {zs : List Int} {ok ok2 : Bool} (hp : Pin w' a n c zs) (ho : ok = ok2) (hb : Below w0.heap.size w0 w') : RetT w0 zs ok (.returned (.tuple #[.slice a n c, .bool ok2])) w' :=
  ⟨a, n, c, by rw [ho], hp, hb⟩
theorem recL_len (k : Int) (ns : List Int) : (recL k ns).length = if recO k ns then 64 else 0 := by
  unfold recL
  split
  · refine padL_len ?_
    have := bodyL_le k ns (wids k).length
    have := wids_len k
    omega
  · rfl
set_option maxHeartbeats 1000000 in
theorem refPutMark_any (s : Int) (w : World) (hs : s ≤ 9223372036854775807) : Calls Try.prog 13 #[mv s] w (RetT w (markL s) (markO s)) := by
  have HL := Lib.hid (show (markL s).length = if markO s then 64 else 0 from recL_len 2 [s])
  obtain ⟨O, hO⟩ : ∃ O, O = markO s := ⟨_, rfl⟩
  obtain ⟨L, hL⟩ : ∃ L, L = markL s := ⟨_, rfl⟩
  have HO := Lib.hid hO
  have HLL := Lib.hid hL
  rw [← hO, ← hL] at HL ⊢
  clear hO hL
  go_enter Try.func13, Try.ntmps13
  go_wp2_with (fail)
  refine (refRecord_any 2 _ _ 1 1 1 [s] _ (by omega) ((ins_one' s (by simp)).alloc _) (ins_one' 4 (by simp)) wl2 (num_le1 hs)).mono ?_
  rintro e w1 ⟨a, n, c, rfl, hp, hb⟩
  change Pin w1 a n c (markL s) at hp
  rw [← HLL.out] at hp
  have hb3 : Below w.heap.size w w1 := (((bel_a1 w _).alloc (by simp) _).alloc (by simp; omega) _).trans (hb.mono (by simp; omega))
  have hn : n = if O then 64 else 0 := by rw [← HL.out]; exact hp.len.symm
  clear hb HL
  cases O
  · obtain rfl : n = 0 := hn
    go_wp2_with (fail)
    go_ret2
    exact ⟨_, _, _, rfl, hp, hb3⟩
  · obtain rfl : n = 64 := hn
    go_wp2_with (fail)
    go_ret2
    exact ⟨_, _, _, rfl, hp, hb3⟩

/-- A member's Slot and State, as the document asks. -/
def memR (s t : Int) : Bool := decide (0 ≤ s ∧ s < 16 ∧ 0 ≤ t ∧ t ≤ 2 ∧ (0 < t ∨ s = 0))
set_option maxHeartbeats 1000000 in
theorem refMember_any (e s t : Int) (w : World) : Calls Try.prog 36 #[bv e s t] w fun e w' => e = .returned (.bool (memR s t)) ∧ Below w.heap.size w w' := by
  obtain ⟨m, hm⟩ : ∃ m, m = memR s t := ⟨_, rfl⟩
  rw [← hm]
  have hM : Hid (m = decide (0 ≤ s ∧ s < 16 ∧ 0 ≤ t ∧ t ≤ 2 ∧ (0 < t ∨ s = 0))) := hm
  clear hm
  go_enter Try.func36, Try.ntmps36
  go_wp2_with (fail)
  all_goals go_ret
  all_goals (refine ⟨ret_bool ?_, bel_a1 w _⟩; rw [hM.out])
  all_goals first | (simp; omega) | (simp_all; rfl) | (simp_all; omega) | simp_all
theorem memR_O (e s t : Int) : memO e s t = (memR s t && recO 3 [e, s, t]) := by
  rw [memO]
  cases h : recO 3 [e, s, t]
  · rw [Bool.and_false, Bool.and_false]
  rw [Bool.and_true, Bool.and_true]
  have h2 : (((true && hasW e 4) && hasW s 1) && hasW t 1) = true := h
  simp only [Bool.true_and, Bool.and_eq_true] at h2
  have hs := hasW_lt1 h2.1.2
  have ht := hasW_lt1 h2.2
  unfold memB memR
  by_cases hh : s < 16 ∧ t ≤ 2 ∧ (t ≠ 0 ∨ s = 0)
  · rw [decide_eq_true hh, decide_eq_true (by omega)]
  · rw [decide_eq_false hh, decide_eq_false (by omega)]
set_option maxHeartbeats 1000000 in
theorem refPutMember_any (m s t : Int) (w : World) (hm : m ≤ 9223372036854775807) (hs : s ≤ 9223372036854775807) (ht : t ≤ 9223372036854775807) :
    Calls Try.prog 15 #[bv m s t] w (RetT w (memL m s t) (memO m s t)) := by
  have x1 := Bx.mk' w m s t 29
  have hB1 := bel_a1 w (.cells #[.int .i64 m, .int .i64 s, .int .i64 t] 29 (0, 0))
  have HR := Lib.hid (memR_O m s t)
  go_enter Try.func15, Try.ntmps15
  go_wp2_with (fail)
  refine (refMember_any m s t _).mono ?_
  rintro e w2 ⟨rfl, hb2⟩
  have x2 := x1.next hb2
  have hB2 := hB1.trans (hb2.mono (Nat.le_of_lt x1.lt))
  clear x1 hB1 hb2
  have y1 := x2.c0
  have y2 := x2.c1
  have y3 := x2.c2
  cases hr : memR s t
  · have hO : Hid (memO m s t = false) := by show _ = _; rw [HR.out, hr]; rfl
    have hL : Hid (memL m s t = []) := by show _ = _; rw [memL, hO.out]; rfl
    clear hr
    go_wp2_with (fail)
    go_ret2
    exact RetT.of (by rw [hL.out]; exact Pin.zero _) hO.out hB2
  · have hO : Hid (recO 3 [m, s, t] = memO m s t) := by show _ = _; rw [HR.out, hr]; rfl
    have hL : Hid (recL 3 [m, s, t] = memL m s t) := by
      show _ = _
      rw [memL, ← hO.out]
      cases hh : recO 3 [m, s, t]
      · rw [recL, hh]; rfl
      · rfl
    have hlen := recL_len 3 [m, s, t]
    rw [hO.out, hL.out] at hlen
    have HLN := Lib.hid hlen
    clear hr hlen
    go_wp2_with (fail)
    refine (refRecord_any 3 _ _ 3 3 3 [m, s, t] _ (by omega) ((ins_three' m s t (by simp)).alloc _) (ins_three' 4 1 1 (by simp)) wl3 (num_le3 hm hs ht)).mono ?_
    rintro e w3 ⟨a, n, c, rfl, hp, hb⟩
    rw [hL.out] at hp
    have hb3 : Below w.heap.size w w3 := ((hB2.alloc (Nat.le_of_lt x2.lt) _).alloc (by have := x2.lt; simp; omega) _).trans (hb.mono (by have := x2.lt; simp; omega))
    have hn : n = if memO m s t then 64 else 0 := by rw [← HLN.out]; exact hp.len.symm
    clear hb
    cases hq : memO m s t
    · rw [hq] at hn
      obtain rfl : n = 0 := hn
      have HQ := Lib.hid hq
      clear hq
      go_wp2_with (fail)
      go_ret2
      exact RetT.of hp HQ.out hb3
    · rw [hq] at hn
      obtain rfl : n = 64 := hn
      have HQ := Lib.hid hq
      clear hq
      go_wp2_with (fail)
      go_ret2
      exact RetT.of hp HQ.out hb3
set_option maxHeartbeats 1000000 in
theorem refPutSuper_any (d r s : Int) (w : World) (hd : d ≤ 9223372036854775807) (hr : r ≤ 9223372036854775807) (hs : s ≤ 9223372036854775807) :
    Calls Try.prog 11 #[sv d r s] w (RetT w (superL d r s) (rtB d r s)) := by
  have x1 := Bx.mk' w d r s 25
  have hB1 := bel_a1 w (.cells #[.int .i64 d, .int .i64 r, .int .i64 s] 25 (0, 0))
  go_enter Try.func11, Try.ntmps11
  go_wp2_with (fail)
  refine (rright_any d r s _).mono ?_
  rintro e w2 ⟨rfl, hb2⟩
  have x2 := x1.next hb2
  have hB2 := hB1.trans (hb2.mono (Nat.le_of_lt x1.lt))
  clear x1 hB1 hb2
  have y1 := x2.c0
  have y2 := x2.c1
  have y3 := x2.c2
  cases hq : rtB d r s
  · have hL : Hid (superL d r s = []) := by show _ = _; rw [superL, hq]; rfl
    have HQ := Lib.hid hq
    clear hq
    go_wp2_with (fail)
    go_ret2
    exact RetT.of (by rw [hL.out]; exact Pin.zero _) HQ.out hB2
  · have hL : Hid (recL 1 [d, r, s] = superL d r s) := by show _ = _; rw [superL, hq]; rfl
    have HQ := Lib.hid hq
    clear hq
    go_wp2_with (fail)
    refine (refRecord_any 1 _ _ 3 3 3 [d, r, s] _ (by omega) ((ins_three' d r s (by simp)).alloc _) (ins_three' 1 1 1 (by simp)) wl1 (num_le3 hd hr hs)).mono ?_
    rintro e w3 ⟨a, n, c, rfl, hp, hb⟩
    rw [hL.out] at hp
    have hb3 : Below w.heap.size w w3 := ((hB2.alloc (Nat.le_of_lt x2.lt) _).alloc (by have := x2.lt; simp; omega) _).trans (hb.mono (by have := x2.lt; simp; omega))
    clear hb
    go_wp2_with (fail)
    go_ret2
    exact RetT.of hp HQ.out hb3

end Go.Proofs.Ytgdkcdgomopnfaa
