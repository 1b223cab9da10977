/-
  The statements' first line: the program answers what the document fixes.
-/
import Derived.Test.YtcloedhocbkigaaPut
import Derived.Test.YtcloedhocbkigaaGet
import Derived.Test.YtcloedhocbkigaaXor
import Derived.Test.YtcloedhocbkigaaSame
import Derived.Test.YtcloedhocbkigaaCopy
namespace Go.Proofs.Ytcloedhocbkigaa
open Go.RowKit

theorem getA (b : Nat) (w : World) (h : Bys w (some ⟨b, 0, none⟩) 3 [9, 2, 1]) :
    Calls Try.prog 10 #[.slice (some ⟨b, 0, none⟩) 3 3, .int .i64 1, .int .i64 2] w fun e w' => e = .returned (.tuple #[.int .i64 258, .bool true]) ∧ w = w' := by
  have := get_yes (some ⟨b, 0, none⟩) 3 3 1 2 [9, 2, 1] w h (by omega) (by omega) (by omega) (by omega)
  rwa [show getN [9, 2, 1] 1 2 = 258 from rfl] at this
theorem putA (w : World) :
    Calls Try.prog 13 #[.int .i64 2, .int .i64 258] w fun e w' => e = .returned (.slice (some ⟨w.heap.size, 0, none⟩) 2 2) ∧ Blk w' w.heap.size [2, 1] ∧ Below w.heap.size w w' := by
  have := put_yes 2 258 w (by omega) (by omega) (by rfl)
  rwa [show digs 2 258 = [2, 1] from rfl] at this
theorem sameA (b c : Nat) (x y : Int) (w : World) (hx : Bys w (some ⟨b, 0, none⟩) 2 [x, y]) (hy : Bys w (some ⟨c, 0, none⟩) 2 [x, y]) :
    Calls Try.prog 12 #[.slice (some ⟨b, 0, none⟩) 2 2, .slice (some ⟨c, 0, none⟩) 2 2] w fun e w' => e = .returned (.bool true) ∧ ∃ q, w' = w.drewN q := by
  have := same_any _ _ 2 2 2 2 _ _ w hx hy (by omega)
  rwa [sameB_true rfl] at this
theorem xorA (b c : Nat) (w : World) (hx : Bys w (some ⟨b, 0, none⟩) 2 [1, 2]) (hy : Bys w (some ⟨c, 0, none⟩) 1 [3]) :
    Calls Try.prog 20 #[.slice (some ⟨b, 0, none⟩) 2 2, .slice (some ⟨c, 0, none⟩) 1 1] w fun e w' => e = .returned (.slice (some ⟨w.heap.size, 0, none⟩) 2 2) ∧ Blk w' w.heap.size [2, 2] ∧ Below w.heap.size w w' := by
  have := xor_any _ _ 2 2 1 1 _ _ w hx hy (by omega) (by omega)
  rwa [show xorL [1, 2] [3] = [2, 2] from rfl] at this
theorem small1 {a : Int} (ha : 0 ≤ a ∧ a ≤ 255) : AllB [a] := fun z hz => by rw [List.mem_singleton.1 hz]; exact ha
theorem small2 {a b : Int} (ha : 0 ≤ a ∧ a ≤ 255) (hb : 0 ≤ b ∧ b ≤ 255) : AllB [a, b] := fun z hz => by
  rcases List.mem_cons.1 hz with rfl | hz
  · exact ha
  · exact small1 hb z hz

set_option maxHeartbeats 400000 in
theorem alive_any (w : World) : Calls Try.prog 9 #[] w fun e w' => e = .returned (.bool true) ∧ Below w.heap.size w w' := by
  go_enter Try.func9, Try.ntmps9
  go_wp2_with (fail)
  refine (getA _ _ ((blk_lit (zs := [9, 2, 1]) rfl).all (fun z hz => ?_))).mono ?_
  · simp at hz; omega
  rintro e w1 ⟨rfl, rfl⟩
  go_wp2_with (fail)
  refine (putA _).mono ?_
  rintro e w2 ⟨rfl, hb2, hl2⟩
  have h2 : Below w.heap.size w w2 := ((Below.refl _ _).alloc (Nat.le_refl _) _).trans (hl2.mono (by simp))
  have g2 : Blk w2 (w.heap.size + 1) [2, 1] := by simpa using hb2
  have s2 := g2.lt
  clear hl2 hb2
  go_wp2_with (fail)
  refine (sameA _ _ 2 1 _ ((g2.below s2 ((Below.refl _ _).alloc (Nat.le_refl _) _)).all (small2 (by omega) (by omega))) ((blk_lit (zs := [2, 1]) rfl).all (small2 (by omega) (by omega)))).mono ?_
  rintro e w3 ⟨rfl, q3, rfl⟩
  have h3 : Below w.heap.size w (w2.alloc (.cells #[.int .u8 2, .int .u8 1] 5)) := h2.alloc (by omega) _
  go_wp2_with (fail)
  have h4 : Below w.heap.size w ((((w2.alloc (.cells #[.int .u8 2, .int .u8 1] 5)).drewN q3).alloc (.cells #[.int .u8 1, .int .u8 2] 5))) := (below_drewN h3 q3).alloc (by simp; omega) _
  refine (xorA _ _ _ ?hx ?hy).mono ?_
  case hx => exact (bys_lit (by simp) rfl rfl (small2 (by omega) (by omega))).alloc _
  case hy => exact bys_lit (by simp) rfl rfl (small1 (by omega))
  rintro e w5 ⟨rfl, hb5, hl5⟩
  have h5 : Below w.heap.size w w5 := (h4.alloc (by simp; omega) _).trans (hl5.mono (by simp; omega))
  have g5 : Bys w5 (some ⟨w2.heap.size + 1 + 1 + 1, 0, none⟩) 2 [2, 2] := (by simpa using hb5 : Blk w5 (w2.heap.size + 1 + 1 + 1) [2, 2]).all (small2 (by omega) (by omega))
  have s5 := h5.size
  clear hb5 hl5 h4 h3 h2 g2
  go_wp2_with (fail)
  refine (sameA _ _ 2 2 _ ?hx ?hy).mono ?_
  case hx => exact g5.alloc _
  case hy => exact bys_lit rfl rfl rfl (small2 (by omega) (by omega))
  rintro e w6 ⟨rfl, q6, rfl⟩
  go_wp2_with (fail)
  go_ret
  exact ⟨rfl, below_drewN (h5.alloc s5 _) q6⟩

end Go.Proofs.Ytcloedhocbkigaa
