/-
  The caps: the program's.
-/
import Derived.Test.YtdgjhfghggcfaaaRight
namespace Go.Proofs.Ytdgjhfghggcfaaa
open Go.RowKit

set_option maxHeartbeats 1000000 in
theorem caps_yes (d r s : Int) (w : World) (h : Rt d r s) : Calls Try.prog 22 #[gv d r s] w fun e w' => e = .returned (.tuple #[.int .i64 (PC s), .int .i64 (QC s)]) ∧ Below w.heap.size w w' := by
  obtain ⟨q1, q2⟩ := QC_bd h.s1 h.s2
  have s1 := h.s1
  have s2 := h.s2
  have s3 : 2 * QC s ≤ s - 2 := by unfold QC; omega
  go_enter Try.func22, Try.ntmps22
  go_wp2_with (fail)
  with_reducible refine (right_yes d r s _ h).mono ?_
  rintro e w2 ⟨rfl, hb⟩
  have hz : w.heap.size < w2.heap.size := size_box' _ hb
  have hB := bel_box' _ (by simp) hb
  obtain ⟨hc, hf⟩ := bcell hb
  clear hb
  go_wp2_with (fail)
  with_reducible refine (otherCap_any d r s _ s1 s2).mono ?_
  rintro e w3 ⟨rfl, hb3⟩
  have hz3 : w.heap.size < w3.heap.size := Nat.lt_of_lt_of_le hz hb3.size
  obtain ⟨hc3, hf3⟩ := bcell hb3
  go_wp2_with (fail)
  go_ret2
  exact ⟨rfl, hB.trans (hb3.mono (Nat.le_of_lt hz))⟩
end Go.Proofs.Ytdgjhfghggcfaaa
