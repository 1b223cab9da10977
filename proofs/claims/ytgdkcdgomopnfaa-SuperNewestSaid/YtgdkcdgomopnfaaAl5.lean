/-
  The statements' first line: the program answers what the document fixes.
-/
import Derived.Test.YtgdkcdgomopnfaaBackF
namespace Go.Proofs.Ytgdkcdgomopnfaa
open Go.RowKit

theorem al_w : hasW 258 4 = true := by decide
theorem al_b : byt (markL 258) 3 = 2 ∧ byt (markL 258) 4 = 2 ∧ byt (markL 258) 5 = 1 := by rw [markL_yes al_w]; decide
theorem bel_store {w0 w : World} {B : Nat} (h : Below B w0 w) (hB : B ≤ w.heap.size) (o : Obj) : Below B w0 (w.alloc o) := h.alloc hB o
set_option maxHeartbeats 1000000 in
theorem alive_any (w : World) : Calls Try.prog 9 #[] w fun e w' => e = .returned (.bool true) ∧ Below w.heap.size w w' := by
  have hk := mark_ok al_w
  have k1 := hk.o
  have k2 := hk.v
  have k3 := hk.nb
  have k4 : gbV (markL 258) = bv 0 0 0 := by rw [gbV, k3]; rfl
  clear hk
  go_enter Try.func9, Try.ntmps9
  go_wp2_with (fail)
  refine (putMark_any 258 w).mono ?_
  intro e w1 hp
  rw [markO_iff, al_w] at hp
  obtain ⟨g, rfl, hg, hb, hsm, hl, hB1⟩ := hp.yes
  have hbys := hb.bysn hsm hl
  obtain ⟨L, hL⟩ : ∃ L, L = markL 258 := ⟨_, rfl⟩
  have hab := al_b
  rw [← hL] at hb hbys hsm hl k1 k2 k3 k4 hab
  obtain ⟨q3, q4, q5⟩ := hab
  clear hp hL
  go_wp2_with (fail)
  refine (getMark_any _ 64 64 L w1 hbys (by omega)).mono ?_
  rintro e w2 ⟨rfl, hB2⟩
  rw [k1, k2]
  have hbys2 := (hbys.next hB2).alloc (.cells #[.int .i64 258] 27 (0, 0))
  have m2 := M1.mk' w2 258 27
  have hb2 := (hb.below hb.lt hB2)
  have hB3 := (hB1.trans (hB2.mono hB1.size)).alloc (by have := hB1.size; have := hB2.size; omega) (.cells #[.int .i64 258] 27 (0, 0))
  obtain ⟨w3, hw3⟩ : ∃ w3, w3 = w2.alloc (.cells #[.int .i64 258] 27 (0, 0)) := ⟨_, rfl⟩
  have hb3 : Blk w3 g L := by rw [hw3]; exact hb2.below hb2.lt (bel_a1 w2 _)
  rw [← hw3] at hbys2 m2 hB3
  clear hb2 hB2 hB1 hbys hb
  go_wp2_with (fail)
  rw [← hw3]
  refine (getMember_any _ 64 64 L w3 hbys2 (by omega)).mono ?_
  rintro e w4 ⟨rfl, hB4⟩
  rw [k3, k4]
  have m4 := m2.next hB4
  have hb4 : Blk w4 g L := hb3.below hb3.lt hB4
  have hB5 : Below w.heap.size w w4 := hB3.trans (hB4.mono hB3.size)
  have y1 := m4.c0
  have ly := m4.lt
  have lg := hb4.lt
  have y3 : w4.cell? ⟨g, 3, none⟩ = some (.int .u8 2) := by rw [← q3]; exact hb4.cell (by omega)
  have y4 : w4.cell? ⟨g, 4, none⟩ = some (.int .u8 2) := by rw [← q4]; exact hb4.cell (by omega)
  have y5 : w4.cell? ⟨g, 5, none⟩ = some (.int .u8 1) := by rw [← q5]; exact hb4.cell (by omega)
  clear m2 hb3 hbys2 hB3 hB4 hb4 m4 k1 k2 k3 k4 q3 q4 q5 hw3
  go_wp2_with (fail)
  go_ret
  exact ⟨rfl, hB5.alloc hB5.size _⟩

end Go.Proofs.Ytgdkcdgomopnfaa
