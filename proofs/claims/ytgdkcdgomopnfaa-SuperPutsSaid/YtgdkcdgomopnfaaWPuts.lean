/-
  SuperPuts, walked.
-/
import Derived.Test.YtgdkcdgomopnfaaAl5
import Derived.Test.YtgdkcdgomopnfaaSame
namespace Go.Proofs.Ytgdkcdgomopnfaa
open Go.RowKit

theorem small64 (k : Int) (ns : List Int) : (recL k ns).length ≤ 64 := by rw [recL_len]; split <;> omega
theorem markL_le (s : Int) : (markL s).length ≤ 64 := small64 _ _
theorem superL_le (d r s : Int) : (superL d r s).length ≤ 64 := by unfold superL; split; exact small64 _ _; exact Nat.zero_le _
theorem memL_le (d r s : Int) : (memL d r s).length ≤ 64 := by unfold memL; split; exact small64 _ _; exact Nat.zero_le _
set_option maxHeartbeats 4000000 in
theorem puts_law (d r s k m t u : Int) (w : World) (hd : d ≤ 9223372036854775807) (hr : r ≤ 9223372036854775807) (hs : s ≤ 9223372036854775807) (hk : k ≤ 9223372036854775807) (hm : m ≤ 9223372036854775807) (ht : t ≤ 9223372036854775807) (hu : u ≤ 9223372036854775807) :
    Calls Try.prog 3 #[sv d r s, mv k, bv m t u] w fun e w' => e = .returned (.bool true) ∧ Below w.heap.size w w' := by
  obtain ⟨w0, hw0⟩ : ∃ w0, w0 = ((w.alloc (.cells #[.int .i64 d, .int .i64 r, .int .i64 s] 25 (0, 0))).alloc (.cells #[.int .i64 k] 27 (0, 0))).alloc (.cells #[.int .i64 m, .int .i64 t, .int .i64 u] 29 (0, 0)) := ⟨_, rfl⟩
  have a0 : M3 w0 w.heap.size d r s := by rw [hw0]; exact ((M3.mk' w d r s _).alloc _).alloc _
  have b0 : M1 w0 (w.heap.size + 1) k := by rw [hw0]; have := (M1.mk' (w.alloc (.cells #[.int .i64 d, .int .i64 r, .int .i64 s] 25 (0, 0))) k 27).alloc (.cells #[.int .i64 m, .int .i64 t, .int .i64 u] 29 (0, 0)); simpa using this
  have c0 : M3 w0 (w.heap.size + 2) m t u := by rw [hw0]; have := M3.mk' ((w.alloc (.cells #[.int .i64 d, .int .i64 r, .int .i64 s] 25 (0, 0))).alloc (.cells #[.int .i64 k] 27 (0, 0))) m t u 29; simpa using this
  have hB0 : Below w.heap.size w w0 := by rw [hw0]; exact ((bel_a1 w _).alloc (by simp) _).alloc (by simp; omega) _
  go_enter Try.func3, Try.ntmps3
  go_wp2_with (fail)
  rw [← hw0]
  clear hw0
  refine (alive_any w0).mono ?_
  rintro e w1 ⟨rfl, hb1⟩
  have a1 := a0.next hb1
  have b1 := b0.next hb1
  have c1 := c0.next hb1
  have hB1 := hB0.trans (hb1.mono hB0.size)
  clear a0 b0 c0 hB0 hb1
  have y1 := a1.c0
  have y2 := a1.c1
  have y3 := a1.c2
  go_wp2_with (fail)
  refine (putSuper_any d r s w1).mono ?_
  intro e w2 hp
  obtain ⟨p1, n1, c1', rfl, hp1, hb2⟩ := hp.t
  have a2 := a1.next hb2
  have b2 := b1.next hb2
  have c2 := c1.next hb2
  have hB2 := hB1.trans (hb2.mono hB1.size)
  clear a1 b1 c1 hB1 hb2 y1 y2 y3 hp
  have y1 := a2.c0
  have y2 := a2.c1
  have y3 := a2.c2
  go_wp2_with (fail)
  refine (refPutSuper_any d r s w2 hd hr hs).mono ?_
  rintro e w3 ⟨p2, n2, c2', rfl, hp2, hb3⟩
  have hp1 := hp1.next hb3
  have b3 := b2.next hb3
  have c3 := c2.next hb3
  have hB3 := hB2.trans (hb3.mono hB2.size)
  clear a2 b2 c2 hB2 hb3 y1 y2 y3
  have y1 := b3.c0
  go_wp2_with (fail)
  refine (putMark_any k w3).mono ?_
  intro e w4 hp
  obtain ⟨p3, n3, c3', rfl, hp3, hb4⟩ := hp.t
  have hp1 := hp1.next hb4
  have hp2 := hp2.next hb4
  have b4 := b3.next hb4
  have c4 := c3.next hb4
  have hB4 := hB3.trans (hb4.mono hB3.size)
  clear b3 c3 hB3 hb4 y1 hp
  have y1 := b4.c0
  go_wp2_with (fail)
  refine (refPutMark_any k w4 hk).mono ?_
  rintro e w5 ⟨p4, n4, c4', rfl, hp4, hb5⟩
  have hp1 := hp1.next hb5
  have hp2 := hp2.next hb5
  have hp3 := hp3.next hb5
  have c5 := c4.next hb5
  have hB5 := hB4.trans (hb5.mono hB4.size)
  clear b4 c4 hB4 hb5 y1
  have y1 := c5.c0
  have y2 := c5.c1
  have y3 := c5.c2
  go_wp2_with (fail)
  refine (putMember_any m t u w5).mono ?_
  intro e w6 hp
  obtain ⟨p5, n5, c5', rfl, hp5, hb6⟩ := hp.t
  have hp1 := hp1.next hb6
  have hp2 := hp2.next hb6
  have hp3 := hp3.next hb6
  have hp4 := hp4.next hb6
  have c6 := c5.next hb6
  have hB6 := hB5.trans (hb6.mono hB5.size)
  clear c5 hB5 hb6 y1 y2 y3 hp
  have y1 := c6.c0
  have y2 := c6.c1
  have y3 := c6.c2
  go_wp2_with (fail)
  refine (refPutMember_any m t u w6 hm ht hu).mono ?_
  rintro e w7 ⟨p6, n6, c6', rfl, hp6, hb7⟩
  have hp1 := hp1.next hb7
  have hp2 := hp2.next hb7
  have hp3 := hp3.next hb7
  have hp4 := hp4.next hb7
  have hp5 := hp5.next hb7
  have hB7 := hB6.trans (hb7.mono hB6.size)
  clear c6 hB6 hb7 y1 y2 y3
  obtain rfl : n1 = n2 := by rw [← hp1.len, ← hp2.len]
  obtain rfl : n3 = n4 := by rw [← hp3.len, ← hp4.len]
  obtain rfl : n5 = n6 := by rw [← hp5.len, ← hp6.len]
  have l1 : n1 ≤ 64 := by rw [← hp1.len]; exact superL_le _ _ _
  have l3 : n3 ≤ 64 := by rw [← hp3.len]; exact markL_le _
  have l5 : n5 ≤ 64 := by rw [← hp5.len]; exact memL_le _ _ _
  obtain ⟨o1, ho1⟩ : ∃ o, o = rtB d r s := ⟨_, rfl⟩
  obtain ⟨o2, ho2⟩ : ∃ o, o = markO k := ⟨_, rfl⟩
  obtain ⟨o3, ho3⟩ : ∃ o, o = memO m t u := ⟨_, rfl⟩
  rw [← ho1, ← ho2, ← ho3]
  clear ho1 ho2 ho3
  go_wp2_with (fail)
  refine (same_eq p1 p2 n1 c1' c2' _ _ w7 hp1.bys hp2.bys (by omega) rfl).mono ?_
  rintro e w8 ⟨rfl, hb8⟩
  have hp3 := hp3.next hb8
  have hp4 := hp4.next hb8
  have hp5 := hp5.next hb8
  have hp6 := hp6.next hb8
  have hB8 := hB7.trans (hb8.mono hB7.size)
  clear hp1 hp2 hB7 hb8
  go_wp2_with (fail)
  refine (same_eq p3 p4 n3 c3' c4' _ _ w8 hp3.bys hp4.bys (by omega) rfl).mono ?_
  rintro e w9 ⟨rfl, hb9⟩
  have hp5 := hp5.next hb9
  have hp6 := hp6.next hb9
  have hB9 := hB8.trans (hb9.mono hB8.size)
  clear hp3 hp4 hB8 hb9
  go_wp2_with (fail)
  refine (same_eq p5 p6 n5 c5' c6' _ _ w9 hp5.bys hp6.bys (by omega) rfl).mono ?_
  rintro e w10 ⟨rfl, hb10⟩
  have hB10 := hB9.trans (hb10.mono hB9.size)
  clear hp5 hp6 hB9 hb10
  go_wp2_with (fail)
  go_ret
  exact ⟨ret_bool (by simp), hB10⟩

end Go.Proofs.Ytgdkcdgomopnfaa
