/-
  The library's calls on bytes: Equal, Clone, Grow of the nil slice.
-/
import Derived.Test.YtgfakdjljcnpiaaPc
import Derived.Test.YtgfakdjljcnpiaaLay
import Derived.Laws.BytesArg
import Derived.Lib.Bytes
import Derived.Lib.SliceRun
namespace Go.Proofs.Ytgfakdjljcnpiaa
open Go.RowKit

theorem byte_inj {a b : Int} (ha : 0 ≤ a ∧ a ≤ 255) (hb : 0 ≤ b ∧ b ≤ 255) (h : UInt8.ofNat a.toNat = UInt8.ofNat b.toNat) : a = b := by
  have := congrArg UInt8.toNat h
  simp at this
  omega
theorem bytes_inj : ∀ {x y : List Int}, AllB x → AllB y → (x.map fun n => UInt8.ofNat n.toNat) = (y.map fun n => UInt8.ofNat n.toNat) → x = y
  | [], [], _, _, _ => rfl
  | [], _ :: _, _, _, h => by simp at h
  | _ :: _, [], _, _, h => by simp at h
  | a :: x, b :: y, hx, hy, h => by
    simp only [List.map_cons, List.cons.injEq] at h
    rw [byte_inj (hx a List.mem_cons_self) (hy b List.mem_cons_self) h.1, bytes_inj (fun z hz => hx z (List.mem_cons_of_mem _ hz)) (fun z hz => hy z (List.mem_cons_of_mem _ hz)) h.2]
theorem str_same {x y : List Int} (hx : AllB x) (hy : AllB y) : ((strOfNums x).toList == (strOfNums y).toList) = sameB x y := by
  rw [Lib.strOfNums_toList, Lib.strOfNums_toList]
  by_cases h : x = y
  · rw [h, sameB_true rfl, beq_self_eq_true]
  · rw [sameB_false h, beq_eq_false_iff_ne]
    exact fun e => h (bytes_inj hx hy e)
theorem bys_conv {w : World} {a : Option Addr} {n : Nat} {x : List Int} (h : Bys w a n x) (c : Nat) : (convert 25 9 (.slice a n c)).run Try.prog w = .ok (.string (strOfNums x)) w := by
  rcases h.place with h0 | ⟨b, off, rfl, _, hc⟩
  · subst h0
    obtain rfl : x = [] := List.eq_nil_of_length_eq_zero h.len
    cases a with
    | none => exact run_convert_bytes_nil (P := Try.prog) w 25 5 Try.underlying25 Try.underlying5 0 c 9 Try.underlying9
    | some p =>
      rw [run_convert_bytes_string w 25 9 5 (some p) 0 c Try.underlying25 Try.underlying5 Try.underlying9, run_bytesToString w p 0 c [] (run_loadCells_list (P := Try.prog) w p [] (fun j v h => by cases h))]
      rfl
  · exact run_convert_bytes_arg (P := Try.prog) w 25 5 Try.underlying25 Try.underlying5 b off n c x h.len hc 9 Try.underlying9

theorem equal_any (a b : Option Addr) (n c m d : Nat) (x y : List Int) (w : World) (hx : Bys w a n x) (hy : Bys w b m y) :
    Calls Try.prog 35 #[.slice a n c, .slice b m d] w fun e w' => e = .returned (.bool (sameB x y)) ∧ w = w' := by
  have h1 := bys_conv hx c
  have h2 := bys_conv hy d
  rw [← str_same hx.small hy.small]
  clear hx hy
  go_enter Try.func35, Try.ntmps35
  go_wp2
  go_ret
  exact ⟨rfl, rfl⟩

/-- Room for n bytes. -/
def GrowPost (w : World) (e : Ending) (w' : World) : Prop := ∃ v, e = .returned v ∧ Own w' w.heap.size v 0 [] ∧ Below w.heap.size w w'
theorem grow_any (n : Nat) (w : World) (hn : n ≤ 1000000000000) : Calls Try.prog 44 #[.slice none 0 0, .int .i64 n] w (GrowPost w) := by
  by_cases h0 : n = 0
  · subst h0
    refine (Any8.slices_Grow_room growA none 0 0 0 w (Nat.le_refl _) (by omega) (by omega) (by omega)).mono fun e w' ⟨he, hw⟩ => ?_
    subst he hw
    exact ⟨_, rfl, ⟨World.ownsRow_nil _ _ _ _, fun z hz => by cases hz⟩, Below.refl _ _⟩
  · obtain ⟨i0, hi, hz0, hz1, hz2⟩ := info_parts info8
    refine (Any8.slices_Grow_grow growA i0 (.int .u8 0) hi hz0 (by rw [hz1]; omega) none 0 0 n [] w (Nat.le_refl _) (by omega) (by rw [hz2]; omega) (by omega) (by simp) (fun _ => rfl) (fun a h => by cases h)).mono fun e w' ⟨he, hw⟩ => ?_
    subst he hw
    refine ⟨_, rfl, ⟨World.ownsRow_made w.drew _ _ (Nat.le_refl _) ?_ ?_, fun z hz => by cases hz⟩, ?_⟩
    · exact grownCap_le_maxLen w (0 + n) 0 5 (by unfold maxLen; omega)
    · have h1 : n ≤ grownCap w (0 + n) 0 5 := by have := grownCap_ge w (0 + n) 0 5; omega
      simp only [Array.size_append, List.size_toArray, size_zeroCells, List.length_nil]
      show 0 + (0 + n - 0) * 1 + (grownCap w (0 + n) 0 5 - (0 + n)) * 1 = grownCap w (0 + n) 0 5 * 1
      omega
    · exact (below_drewN (Below.refl _ _) 1).alloc (Nat.le_refl _) _

end Go.Proofs.Ytgfakdjljcnpiaa
