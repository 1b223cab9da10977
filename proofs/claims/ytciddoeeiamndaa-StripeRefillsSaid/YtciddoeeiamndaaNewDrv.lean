/-
  'newDrive', by contract.
-/
import Derived.Test.YtciddoeeiamndaaDrv
namespace Go.Proofs.Ytciddoeeiamndaa
open Go.RowKit Go.Maps

def newDk (S : Nat) : Dk := ⟨List.replicate (S * 64) 0, noneC, false, -1⟩
/-- What 'newDrive' answers: a struct whose slice and map lie in new blocks. -/
def NewDrvRet (S : Nat) (w : World) (e : Ending) (w' : World) : Prop := ∃ lb mb : Nat, e = .returned (.agg #[.slice (some ⟨lb, 0, none⟩) (S * 64) (S * 64), .map (some mb), .bool false, .int .i64 (-1)]) ∧
  w.heap.size ≤ lb ∧ w.heap.size ≤ mb ∧ lb ≠ mb ∧ lb < w'.heap.size ∧ mb < w'.heap.size ∧ Blk w' lb (List.replicate (S * 64) 0) ∧ w'.ownsMap Try.prog 3 elemR mb 0 (.map []) ∧ Below w.heap.size w w'

theorem newDrv_row {w w1 : World} {u0 u1 u2 u3 : Value} {t : TypeId} {o : Obj} (hl : Below (w.alloc o).heap.size (w.alloc o) w1) (ho : o = .cells #[u0, u1, u2, u3] t (0, 0)) :
    (w1.alloc (.map #[] 0)).cell? ⟨w.heap.size, 0, none⟩ = some u0 ∧ (w1.alloc (.map #[] 0)).cell? ⟨w.heap.size, 1, none⟩ = some u1 ∧ (w1.alloc (.map #[] 0)).cell? ⟨w.heap.size, 2, none⟩ = some u2 ∧ (w1.alloc (.map #[] 0)).cell? ⟨w.heap.size, 3, none⟩ = some u3 ∧
      ∀ i, (w1.alloc (.map #[] 0)).frozen? ⟨w.heap.size, i, none⟩ = false := by
  subst ho
  have h1 : (w1.alloc (.map #[] 0)).heap[w.heap.size]? = some (.cells #[u0, u1, u2, u3] t (0, 0)) := by
    rw [Below.heap_alloc _ _ _ (Nat.lt_of_lt_of_le (by simp) hl.size), hl.block _ (by simp)]
    exact heap_alloc_new w _
  refine ⟨?_, ?_, ?_, ?_, fun i => frozen_of_row _ _ i _ _ h1⟩ <;> (rw [cell_of_row _ _ _ _ _ (0, 0) h1]; rfl)

theorem newDrive_any (S : Nat) (w : World) (hS : S ≤ 4096) :
    Calls Try.prog 56 #[.int .i64 S] w (NewDrvRet S w) := by
  have hmm := @run_makeMap Try.prog
  have hwr : Hid (((S : Int) * 64) = ((S * 64 : Nat) : Int)) := by unfold Hid; omega
  go_enter Try.func56, Try.ntmps56
  go_wp2_with (at_make; refine wpList_mk rfl _ _ rfl .i64 .i64 ((S : Int) * 64) ((S : Int) * 64) (S * 64) rfl rfl hwr.out hwr.out (by omega) ?_; intro w1 hb1 hl1; obtain ⟨c0, c1, c2, c3, f⟩ := newDrv_row hl1 (by rfl))
  have e1 : Hid ((w.alloc (.cells #[.slice none 0 0, .map none, .bool false, .int .i64 0] 79)).heap.size = w.heap.size + 1) := by unfold Hid; simp
  refine bodyPost_ret (v := .agg #[.slice (some ⟨w.heap.size + 1, 0, none⟩) (S * 64) (S * 64), .map (some w1.heap.size), .bool false, .int .i64 (-1)]) ?_ rfl ?_
  · clear hl1
    simp [results, Try.results56, go_sem, c0, c1, c2, c3]
  · have e2 := e1.out
    have hlt := hb1.lt
    have hs1 := hl1.size
    rw [e2] at hlt hs1
    have hb2 : Blk w1 (w.heap.size + 1) (List.replicate (S * 64) 0) := by rw [e2] at hb1; exact hb1
    have t1 : ∀ u0 u1 u2 u3, Turn (· = w.heap.size) (w1.alloc (.map #[] 0)) (((((w1.alloc (.map #[] 0)).setCell ⟨w.heap.size, 0, none⟩ u0).setCell ⟨w.heap.size, 1, none⟩ u1).setCell ⟨w.heap.size, 2, none⟩ u2).setCell ⟨w.heap.size, 3, none⟩ u3) :=
      fun u0 u1 u2 u3 => (((turn_set _ _ 0 u0).trans (turn_set _ _ 1 u1)).trans (turn_set _ _ 2 u2)).trans (turn_set _ _ 3 u3)
    have t2 := fun u0 u1 u2 u3 => (Turn.of_below (M := (· = w.heap.size)) ((Below.refl w1.heap.size w1).alloc (Nat.le_refl _) (.map #[] 0))).trans (t1 u0 u1 u2 u3)
    have hlw : Below w.heap.size w w1 := ((Below.refl _ _).alloc (Nat.le_refl _) _).trans (hl1.mono (by rw [e2]; omega))
    refine ⟨w.heap.size + 1, w1.heap.size, rfl, by omega, by omega, by omega, ?_, ?_, hb2.turn (t2 _ _ _ _) (by omega), ?_, ?_⟩
    · exact Nat.lt_of_lt_of_le hb2.lt (t2 _ _ _ _).size
    · exact Nat.lt_of_lt_of_le (by simp) (t1 _ _ _ _).size
    · exact ownsMap_of_row (World.ownsMap_made _ _ _ _) ((t1 _ _ _ _).block w1.heap.size (by simp) (by omega))
    · exact hlw.trans ((t2 _ _ _ _).below (by omega) (fun k e => by omega))

end Go.Proofs.Ytciddoeeiamndaa
