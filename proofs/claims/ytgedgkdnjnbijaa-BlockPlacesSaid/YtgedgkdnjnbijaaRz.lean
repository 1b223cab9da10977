/-
  The document's empty map, as cells.
-/
import Derived.Test.YtgedgkdnjnbijaaRf
import Derived.Deep.WholeRow
namespace Go.Proofs.Ytgedgkdnjnbijaa
open Go.RowKit

/-- 828 numbers and 828 slices of bytes, all empty. -/
def zrL : List Value := List.replicate 828 (.int .i64 0) ++ List.replicate 828 (.slice none 0 0)
def zrC : Array Value := zrL.toArray
set_option maxRecDepth 100000 in
theorem info_map : (Try.prog.info? 66).map (fun i => (i.zero, i.size)) = some (some (.agg zrC), 1656) := by kernel_rfl
theorem zero_map (w : World) : (zeroValue 66).run Try.prog w = .ok (.agg zrC) w := (zero_of_info info_map).1 w
theorem zrC_get {k : Nat} (h : k < 828) : zrC[k]? = some (.int .i64 0) ∧ zrC[828 + k]? = some (.slice none 0 0) := by
  constructor
  · show (List.toArray zrL)[k]? = _
    rw [List.getElem?_toArray, zrL, List.getElem?_append_left (by rw [List.length_replicate]; exact h), List.getElem?_replicate, if_pos h]
  · show (List.toArray zrL)[828 + k]? = _
    rw [List.getElem?_toArray, zrL, List.getElem?_append_right (by rw [List.length_replicate]; omega), List.length_replicate, List.getElem?_replicate, if_pos (by omega)]
/-- A new map. -/
theorem bmp_new (w : World) : Bmp (w.alloc (.cells zrC 66 (0, 0))) w.heap.size (fun _ => False) (fun _ => 0) (fun _ => []) := by
  have hr := heap_alloc_new w (.cells zrC 66 (0, 0))
  refine ⟨fun _ => noPc, ⟨by simp, fun k hk => ?_, fun k hk => ?_, fun i => frozen_of_row _ _ i _ _ hr, fun k hk => pin_no _, (fun k hk x e => by cases e), (fun h => h), (fun j h => h.elim)⟩, fun k hk => rfl⟩
  · rw [cell_of_row _ _ k _ _ (0, 0) hr, (zrC_get hk).1]
  · rw [cell_of_row _ _ (828 + k) _ _ (0, 0) hr, (zrC_get hk).2]
    rfl
end Go.Proofs.Ytgedgkdnjnbijaa
