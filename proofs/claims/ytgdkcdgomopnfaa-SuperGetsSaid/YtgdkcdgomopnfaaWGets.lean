/-
  SuperGets, walked.
-/
import Derived.Test.YtgdkcdgomopnfaaAl5
namespace Go.Proofs.Ytgdkcdgomopnfaa
open Go.RowKit

set_option maxHeartbeats 4000000 in
theorem gets_law (a : Option Addr) (n c : Nat) (x : List Int) (w : World) (hx : Pin w a n c x) :
    Calls Try.prog 4 #[.slice a n c] w fun e w' => e = .returned (.bool true) ∧ Below w.heap.size w w' := by
  by_cases hn : 2000 < n
  · have h1 : (2000 : Int) < (n : Int) := by omega
    clear hn
    go_enter Try.func4, Try.ntmps4
    go_wp2_with (fail)
    refine (alive_any w).mono ?_
    rintro e w1 ⟨rfl, hb1⟩
    clear hx
    go_wp2_with (fail)
    go_ret
    exact ⟨rfl, hb1⟩
  have h1 : ¬ (2000 : Int) < (n : Int) := by omega
  obtain ⟨d, r, s, hgs⟩ := gsV_agg x
  obtain ⟨e, t, u, hgb⟩ := gbV_agg x
  obtain ⟨m, hgm⟩ : ∃ m, m = gmV x := ⟨_, rfl⟩
  obtain ⟨o1, ho1⟩ : ∃ m, m = gsO x := ⟨_, rfl⟩
  obtain ⟨o2, ho2⟩ : ∃ m, m = gmO x := ⟨_, rfl⟩
  obtain ⟨o3, ho3⟩ : ∃ m, m = gbO x := ⟨_, rfl⟩
  have HS : Hid (∀ w e w', SuperPost w x e w' → e = .returned (.tuple #[sv d r s, .bool o1]) ∧ Below w.heap.size w w') := by
    show ∀ _ _ _, _ → _
    intro w e w' h
    rw [← hgs, ho1]; exact h
  have HM : Hid (∀ w e w', MarkPost w x e w' → e = .returned (.tuple #[mv m, .bool o2]) ∧ Below w.heap.size w w') := by
    show ∀ _ _ _, _ → _
    intro w e w' h
    rw [hgm, ho2]; exact h
  have HB : Hid (∀ w e' w', MemberPost w x e' w' → e' = .returned (.tuple #[bv e t u, .bool o3]) ∧ Below w.heap.size w w') := by
    show ∀ _ _ _, _ → _
    intro w e' w' h
    rw [← hgb, ho3]; exact h
  clear hgs hgb hgm ho1 ho2 ho3
  go_enter Try.func4, Try.ntmps4
  go_wp2_with (fail)
  refine (alive_any w).mono ?_
  rintro e1 w1 ⟨rfl, hb1⟩
  have hx1 := hx.next hb1
  have hB1 := hb1
  clear hx hb1
  go_wp2_with (fail)
  refine (copy_any a n c x w1 hx1.bys hx1.nil (by omega)).mono ?_
  rintro e1 w2 ⟨v2, rfl, ho2, hb2⟩
  obtain ⟨p2, c2, rfl, hp2, _⟩ := ho2.pin
  have hx2 := hx1.next hb2
  have hB2 := hB1.trans (hb2.mono hB1.size)
  clear hx1 hB1 hb2 ho2
  go_wp2_with (fail)
  refine (getSuper_any p2 n c2 x w2 hp2.bys (by omega)).mono ?_
  intro e1 w3 hp
  obtain ⟨rfl, hb3⟩ := HS.out _ _ _ hp
  have hx3 := (hx2.next hb3).alloc (.cells #[.int .i64 d, .int .i64 r, .int .i64 s] 25 (0, 0))
  have hp3 := (hp2.next hb3).alloc (.cells #[.int .i64 d, .int .i64 r, .int .i64 s] 25 (0, 0))
  have s3 := M3.mk' w3 d r s 25
  have hB3' := hB2.trans (hb3.mono hB2.size)
  have hB3 := hB3'.alloc hB3'.size (.cells #[.int .i64 d, .int .i64 r, .int .i64 s] 25 (0, 0))
  clear hx2 hB2 hb3 hp2 hp hB3'
  go_wp2_with (fail)
  refine (refGetSuper_any a n c x _ hx3).mono ?_
  intro e1 w4 hp
  obtain ⟨rfl, hb4⟩ := HS.out _ _ _ hp
  have hx4 := (hx3.next hb4).alloc (.cells #[.int .i64 d, .int .i64 r, .int .i64 s] 25 (0, 0))
  have hp4 := (hp3.next hb4).alloc (.cells #[.int .i64 d, .int .i64 r, .int .i64 s] 25 (0, 0))
  have s4 := (s3.next hb4).alloc (.cells #[.int .i64 d, .int .i64 r, .int .i64 s] 25 (0, 0))
  have t4 := M3.mk' w4 d r s 25
  have hB4' := hB3.trans (hb4.mono hB3.size)
  have hB4 := hB4'.alloc hB4'.size (.cells #[.int .i64 d, .int .i64 r, .int .i64 s] 25 (0, 0))
  clear hx3 hB3 hb4 hp3 hp hB4' s3
  go_wp2_with (fail)
  refine (getMark_any p2 n c2 x _ hp4.bys (by omega)).mono ?_
  intro e1 w5 hp
  obtain ⟨rfl, hb5⟩ := HM.out _ _ _ hp
  have hx5 := (hx4.next hb5).alloc (.cells #[.int .i64 m] 27 (0, 0))
  have hp5 := (hp4.next hb5).alloc (.cells #[.int .i64 m] 27 (0, 0))
  have s5 := (s4.next hb5).alloc (.cells #[.int .i64 m] 27 (0, 0))
  have t5 := (t4.next hb5).alloc (.cells #[.int .i64 m] 27 (0, 0))
  have k5 := M1.mk' w5 m 27
  have hB5' := hB4.trans (hb5.mono hB4.size)
  have hB5 := hB5'.alloc hB5'.size (.cells #[.int .i64 m] 27 (0, 0))
  clear hx4 hB4 hb5 hp4 hp hB5' s4 t4
  go_wp2_with (fail)
  refine (refGetMark_any a n c x _ hx5).mono ?_
  intro e1 w6 hp
  obtain ⟨rfl, hb6⟩ := HM.out _ _ _ hp
  have hx6 := (hx5.next hb6).alloc (.cells #[.int .i64 m] 27 (0, 0))
  have hp6 := (hp5.next hb6).alloc (.cells #[.int .i64 m] 27 (0, 0))
  have s6 := (s5.next hb6).alloc (.cells #[.int .i64 m] 27 (0, 0))
  have t6 := (t5.next hb6).alloc (.cells #[.int .i64 m] 27 (0, 0))
  have k6 := (k5.next hb6).alloc (.cells #[.int .i64 m] 27 (0, 0))
  have l6 := M1.mk' w6 m 27
  have hB6' := hB5.trans (hb6.mono hB5.size)
  have hB6 := hB6'.alloc hB6'.size (.cells #[.int .i64 m] 27 (0, 0))
  clear hx5 hB5 hb6 hp5 hp hB6' s5 t5 k5
  go_wp2_with (fail)
  refine (getMember_any p2 n c2 x _ hp6.bys (by omega)).mono ?_
  intro e1 w7 hp
  obtain ⟨rfl, hb7⟩ := HB.out _ _ _ hp
  have hx7 := (hx6.next hb7).alloc (.cells #[.int .i64 e, .int .i64 t, .int .i64 u] 29 (0, 0))
  have hp7 := (hp6.next hb7).alloc (.cells #[.int .i64 e, .int .i64 t, .int .i64 u] 29 (0, 0))
  have s7 := (s6.next hb7).alloc (.cells #[.int .i64 e, .int .i64 t, .int .i64 u] 29 (0, 0))
  have t7 := (t6.next hb7).alloc (.cells #[.int .i64 e, .int .i64 t, .int .i64 u] 29 (0, 0))
  have k7 := (k6.next hb7).alloc (.cells #[.int .i64 e, .int .i64 t, .int .i64 u] 29 (0, 0))
  have l7 := (l6.next hb7).alloc (.cells #[.int .i64 e, .int .i64 t, .int .i64 u] 29 (0, 0))
  have q7 := M3.mk' w7 e t u 29
  have hB7' := hB6.trans (hb7.mono hB6.size)
  have hB7 := hB7'.alloc hB7'.size (.cells #[.int .i64 e, .int .i64 t, .int .i64 u] 29 (0, 0))
  clear hx6 hB6 hb7 hp6 hp hB7' s6 t6 k6 l6
  go_wp2_with (fail)
  refine (refGetMember_any a n c x _ hx7).mono ?_
  intro e1 w8 hp
  obtain ⟨rfl, hb8⟩ := HB.out _ _ _ hp
  have hx8 := (hx7.next hb8).alloc (.cells #[.int .i64 e, .int .i64 t, .int .i64 u] 29 (0, 0))
  have hp8 := (hp7.next hb8).alloc (.cells #[.int .i64 e, .int .i64 t, .int .i64 u] 29 (0, 0))
  have s8 := s7.next hb8
  have t8 := t7.next hb8
  have k8 := k7.next hb8
  have l8 := l7.next hb8
  have q8 := q7.next hb8
  have hB8' := hB7.trans (hb8.mono hB7.size)
  have hB8 := hB8'.alloc hB8'.size (.cells #[.int .i64 e, .int .i64 t, .int .i64 u] 29 (0, 0))
  clear hx7 hB7 hb8 hp7 hp hB8' s7 t7 k7 l7 q7 HS HM HB
  have s0 := s8.c0; have s1 := s8.c1; have s2 := s8.c2; have sl := s8.lt
  have t0 := t8.c0; have t1 := t8.c1; have t2 := t8.c2; have tl := t8.lt
  have k0 := k8.c0; have kl := k8.lt
  have l0 := l8.c0; have ll := l8.lt
  have q0 := q8.c0; have q1 := q8.c1; have q2 := q8.c2; have ql := q8.lt
  clear s8 t8 k8 l8 q8
  go_wp2_with (fail)
  refine (same_eq p2 a n c2 c _ _ _ hp8.bys hx8.bys (by omega) rfl).mono ?_
  rintro e1 w9 ⟨rfl, hb9⟩
  have hB9 := hB8.trans (hb9.mono hB8.size)
  clear hx8 hp8 hB8 hb9
  go_wp2_with (fail)
  go_ret
  exact ⟨ret_bool (by simp), hB9⟩

end Go.Proofs.Ytgdkcdgomopnfaa
