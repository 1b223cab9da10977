/-
  The reference's Put, by contract.
-/
import Derived.Test.YtgfakdjljcnpiaaNums
import Derived.Test.YtgfakdjljcnpiaaWidth
import Derived.Test.YtgfakdjljcnpiaaCopy
namespace Go.Proofs.Ytgfakdjljcnpiaa
open Go.RowKit

theorem quo_bd {n : Int} (h0 : 0 ≤ n) (k : Nat) : 0 ≤ n / 256 ^ k ∧ n / 256 ^ k ≤ n :=
  ⟨Int.ediv_nonneg h0 (Int.le_of_lt (Int.pow_pos (by omega))), Int.ediv_le_self _ h0⟩

theorem quo_step {n q : Int} {k : Nat} (h : q = n / 256 ^ k) : Hid (q / 256 = n / 256 ^ (k + 1)) := by
  show _ = _
  rw [h, Int.pow_succ, Int.ediv_ediv_of_nonneg (Int.le_of_lt (Int.pow_pos (by omega)))]

def PutLong (w : World) (m : Nat) (n : Int) (e : Ending) (w' : World) : Prop :=
  (0 < n / 256 ^ m → e = .returned (.slice none 0 0)) ∧ (¬ 0 < n / 256 ^ m → ∃ v, e = .returned v ∧ Own w' w.heap.size v m (digs m n)) ∧ Below w.heap.size w w'

set_option maxHeartbeats 800000 in
theorem refPut_long (m : Nat) (n : Int) (w : World) (h1 : 1 ≤ m) (h4 : m ≤ 4) (hn0 : 0 ≤ n) (hn1 : n ≤ 9223372036854775807) :
    Calls Try.prog 33 #[.int .i64 m, .int .i64 n] w (PutLong w m n) := by
  go_enter Try.func33, Try.ntmps33
  go_wp2
  go_loopw [1, 5, 6] (fun sn out i wr => ∃ (k : Nat) (q : Int), k ≤ m ∧ i = .int .i64 k ∧ sn = .int .i64 q ∧ Hid (q = n / 256 ^ k) ∧ 0 ≤ q ∧ q ≤ 9223372036854775807 ∧ Own wr w.heap.size out k (digs k n) ∧ Below w.heap.size w wr)
    (fun _ _ i _ => m - (intOf i).toNat)
  case atStart => exact ⟨0, n, Nat.zero_le _, rfl, rfl, by show _ = _; simp, hn0, hn1, own_none w _ (Nat.le_refl _), (Below.refl _ _).alloc (Nat.le_refl _) _⟩
  case round =>
    obtain ⟨k, q, hk, rfl, rfl, hq, hq0, hq1, hown, hl⟩ := hrel
    by_cases hlt : k < m
    · go_wp2_with (at_builtin; go_must (refine wpList_ap rfl (.tmp 24) (.tmp 28) rfl w.heap.size _ k _ rfl (hown.below (Nat.le_refl _) ((Below.refl _ _).alloc (Nat.le_refl _) _)) _ 1 1 [q % 256] rfl (bys_one wr (by omega)) (fun h => by cases h) (by omega) (by have := hl.size; simp; omega) w (hl.alloc hl.size _) ?_); intro v w1 hown1 hb1)
      go_roundw
      case rel => exact ⟨k + 1, q / 256, by omega, by go_num, rfl, quo_step hq.out, by omega, by omega, by rw [digs_snoc, ← hq.out]; exact hown1, hb1⟩
      case measure => simp [intOf]; omega
    · obtain rfl : k = m := by omega
      go_wp2
      · have hpos : 0 < q := by assumption
        go_ret
        exact ⟨fun _ => rfl, fun h => absurd (by rw [← hq.out]; exact hpos) h, hl⟩
      · have hneg : q ≤ 0 := by assumption
        go_ret
        exact ⟨fun h => absurd (by rw [← hq.out] at h; exact h) (by omega), fun _ => ⟨_, rfl, hown⟩, hl⟩

/-- No such width, or a number below 0: an empty slice. -/
def PutEmpty (w : World) (e : Ending) (w' : World) : Prop := e = .returned (.slice (some ⟨w.heap.size, 0, none⟩) 0 0) ∧ Below w.heap.size w w'

set_option maxHeartbeats 800000 in
theorem refPut_none (k n : Int) (w : World) (h : ¬ (1 ≤ k ∧ k ≤ 4) ∨ n < 0) :
    Calls Try.prog 33 #[.int .i64 k, .int .i64 n] w (PutEmpty w) := by
  by_cases h1 : k < 1
  · clear h
    go_enter Try.func33, Try.ntmps33
    go_wp2
    go_ret
    exact ⟨rfl, (Below.refl _ _).alloc (Nat.le_refl _) _⟩
  · by_cases h4 : 4 < k
    · clear h
      go_enter Try.func33, Try.ntmps33
      go_wp2
      go_ret
      exact ⟨rfl, (Below.refl _ _).alloc (Nat.le_refl _) _⟩
    · have h2 : n < 0 := by omega
      clear h
      go_enter Try.func33, Try.ntmps33
      go_wp2
      go_ret
      exact ⟨rfl, (Below.refl _ _).alloc (Nat.le_refl _) _⟩

end Go.Proofs.Ytgfakdjljcnpiaa
