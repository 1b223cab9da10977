/-
  GetSuper, GetMark, GetMember, by contract.
-/
import Derived.Test.YtgdkcdgomopnfaaGets
namespace Go.Proofs.Ytgdkcdgomopnfaa
open Go.RowKit

set_option maxHeartbeats 1000000 in
theorem getMark_any (a : Option Addr) (n c : Nat) (x : List Int) (w : World) (hx : Bys w a n x) (hn : n ≤ 1000000000000) :
    Calls Try.prog 20 #[.slice a n c] w (MarkPost w x) := by
  obtain ⟨wa, hwa⟩ : ∃ wa, wa = w.alloc (.cells #[.int .i64 0] 27 (0, 0)) := ⟨_, rfl⟩
  have h1 : M1 wa w.heap.size 0 := by rw [hwa]; exact M1.mk' w 0 _
  have hB1 : Below w.heap.size w wa := by rw [hwa]; exact bel_a1 w _
  have hx1 := hx.next hB1
  clear hx
  go_enter Try.func20, Try.ntmps20
  go_wp2_with (fail)
  rw [← hwa]
  clear hwa
  refine (toldMark_any a n c x wa hx1 hn).mono ?_
  rintro e w2 ⟨rfl, hb2⟩
  have h2 := h1.next hb2
  have hB2 := hB1.trans (hb2.mono (Nat.le_of_lt h1.lt))
  clear h1 hB1 hx1 hb2
  obtain ⟨s, hs⟩ : ∃ s, s = gmV x := ⟨_, rfl⟩
  obtain ⟨o, ho⟩ : ∃ s, s = gmO x := ⟨_, rfl⟩
  rw [← hs, ← ho]
  have HS := Lib.hid hs
  have HO := Lib.hid ho
  clear hs ho
  have z1 := h2.c0
  have f1 := h2.f0
  go_wp2_with (fail)
  have k0 := (h2.set s).c0
  exact bodyPost_ret (v := .tuple #[mv s, .bool o]) (by simp [results, Try.results20, go_sem, k0]) rfl ⟨by rw [HS.out, HO.out], hB2.setCell (Nat.le_refl _) _⟩

theorem gsV_agg (x : List Int) : ∃ d r s, gsV x = sv d r s := by
  unfold gsV
  split
  · exact ⟨_, _, _, rfl⟩
  · exact ⟨_, _, _, rfl⟩
set_option maxHeartbeats 1000000 in
theorem getSuper_any (a : Option Addr) (n c : Nat) (x : List Int) (w : World) (hx : Bys w a n x) (hn : n ≤ 1000000000000) :
    Calls Try.prog 18 #[.slice a n c] w (SuperPost w x) := by
  obtain ⟨wa, hwa⟩ : ∃ wa, wa = w.alloc (.cells #[.int .i64 0, .int .i64 0, .int .i64 0] 25 (0, 0)) := ⟨_, rfl⟩
  have h1 : M3 wa w.heap.size 0 0 0 := by rw [hwa]; exact M3.mk' w 0 0 0 _
  have hB1 : Below w.heap.size w wa := by rw [hwa]; exact bel_a1 w _
  have hx1 := hx.next hB1
  clear hx
  go_enter Try.func18, Try.ntmps18
  go_wp2_with (fail)
  rw [← hwa]
  clear hwa
  refine (toldSuper_any a n c x wa hx1 hn).mono ?_
  rintro e w2 ⟨rfl, hb2⟩
  have h2 := h1.next hb2
  have hB2 := hB1.trans (hb2.mono (Nat.le_of_lt h1.lt))
  clear h1 hB1 hx1 hb2
  obtain ⟨d, r, s, hs⟩ := gsV_agg x
  obtain ⟨o, ho⟩ : ∃ s, s = gsO x := ⟨_, rfl⟩
  rw [hs, ← ho]
  have HS := Lib.hid hs
  have HO := Lib.hid ho
  clear hs ho
  have z1 := h2.c0
  have z2 := h2.c1
  have z3 := h2.c2
  have f1 := h2.f0
  have f2 := h2.f1
  have f3 := h2.f2
  go_wp2_with (fail)
  have k := h2.set d r s
  have k0 := k.c0
  have k1 := k.c1
  have k2 := k.c2
  unfold setH at k0 k1 k2
  exact bodyPost_ret (v := .tuple #[sv d r s, .bool o]) (by simp [results, Try.results18, go_sem, k0, k1, k2]) rfl ⟨by rw [HS.out, HO.out], hB2.setH (Nat.le_refl _)⟩

theorem gbV_agg (x : List Int) : ∃ d r s, gbV x = bv d r s := by
  unfold gbV
  split
  · exact ⟨_, _, _, rfl⟩
  · exact ⟨_, _, _, rfl⟩
set_option maxHeartbeats 1000000 in
theorem getMember_any (a : Option Addr) (n c : Nat) (x : List Int) (w : World) (hx : Bys w a n x) (hn : n ≤ 1000000000000) :
    Calls Try.prog 22 #[.slice a n c] w (MemberPost w x) := by
  obtain ⟨wa, hwa⟩ : ∃ wa, wa = w.alloc (.cells #[.int .i64 0, .int .i64 0, .int .i64 0] 29 (0, 0)) := ⟨_, rfl⟩
  have h1 : M3 wa w.heap.size 0 0 0 := by rw [hwa]; exact M3.mk' w 0 0 0 _
  have hB1 : Below w.heap.size w wa := by rw [hwa]; exact bel_a1 w _
  have hx1 := hx.next hB1
  clear hx
  go_enter Try.func22, Try.ntmps22
  go_wp2_with (fail)
  rw [← hwa]
  clear hwa
  refine (toldMember_any a n c x wa hx1 hn).mono ?_
  rintro e w2 ⟨rfl, hb2⟩
  have h2 := h1.next hb2
  have hB2 := hB1.trans (hb2.mono (Nat.le_of_lt h1.lt))
  clear h1 hB1 hx1 hb2
  obtain ⟨d, r, s, hs⟩ := gbV_agg x
  obtain ⟨o, ho⟩ : ∃ s, s = gbO x := ⟨_, rfl⟩
  rw [hs, ← ho]
  have HS := Lib.hid hs
  have HO := Lib.hid ho
  clear hs ho
  have z1 := h2.c0
  have z2 := h2.c1
  have z3 := h2.c2
  have f1 := h2.f0
  have f2 := h2.f1
  have f3 := h2.f2
  go_wp2_with (fail)
  have k := h2.set d r s
  have k0 := k.c0
  have k1 := k.c1
  have k2 := k.c2
  unfold setH at k0 k1 k2
  exact bodyPost_ret (v := .tuple #[bv d r s, .bool o]) (by simp [results, Try.results22, go_sem, k0, k1, k2]) rfl ⟨by rw [HS.out, HO.out], hB2.setH (Nat.le_refl _)⟩

end Go.Proofs.Ytgdkcdgomopnfaa
