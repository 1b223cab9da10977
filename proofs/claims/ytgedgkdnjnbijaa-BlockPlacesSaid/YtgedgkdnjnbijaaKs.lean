/-
  The numbers of a map's blocks, in rising order; the program's Fresh and There by contract.
-/
import Derived.Test.YtgedgkdnjnbijaaKp
import Derived.Test.YtgedgkdnjnbijaaLay
import Derived.Maps.AppendAt
import Derived.Laws.OwnMore
import Derived.Deep.DeepCutAuto
import Derived.Deep.RegionHeld3
namespace Go.Proofs.Ytgedgkdnjnbijaa
open Go.RowKit Go.Maps Go.ChangeMaps Go.MapKept Go.Sort Go.Shelf
set_option linter.unusedVariables false
set_option linter.unusedSimpArgs false

theorem sortsA (m : Nat) : AnyZI.SortsIn Try.prog sortedA_ren Fence.wide m :=
  ⟨fun blk off cap ss W hH hblk hsz => callsIn_wide.2 (AnyM.slices_Sort_int sortA blk off cap ss W hH hblk hsz),
   fun p cap W => callsIn_wide.2 (AnyM.slices_Sort_int_none sortA p cap W)⟩
/-- A slice of numbers of the call's own. -/
def NumP (w : World) (ks : List Int) (e : Ending) (w' : World) : Prop := ∃ v, e = .returned v ∧ OwnI w' w.heap.size v ks.length ks ∧ Below w.heap.size w w'
theorem keysA_any (mb : Option Nat) (w : World) : Calls Try.prog 54 #[.map mb] w fun e w' => e = .returned (.func (.func 59) #[] #[.pointer (some ⟨w.heap.size, 0, none⟩)]) ∧ w' = w.alloc (.cells #[.map mb] 57) :=
  (callsIn_wide (n := 5)).1 (AnyZI.keys_in keysA Fence.wide 5 trivial rfl mb w)
theorem keysX_any (mb : Option Nat) (w : World) : Calls Try.prog 49 #[.map mb] w fun e w' => e = .returned (.func (.func 58) #[] #[.pointer (some ⟨w.heap.size, 0, none⟩)]) ∧ w' = w.alloc (.cells #[.map mb] 59) :=
  (callsIn_wide (n := 5)).1 (AnyZI.keys_in keysX Fence.wide 5 trivial rfl mb w)
theorem sortedA_any {w : World} {R : El} {b Bm N : Nat} {f : Nat → Option (DataW Unit)} (h : Nm w R b f) (hN : N = 828) (hBm : Bm < w.heap.size) (hm : w.cell? ⟨Bm, 0, none⟩ = some (.map (some b))) :
    Calls Try.prog 48 #[.func (.func 59) #[] #[.pointer (some ⟨Bm, 0, none⟩)]] w (NumP w (selL (pres f) N)) := by
  obtain ⟨D, h⟩ := h
  have hsz := h.size
  have hseq : SeqGives Fence.wide 2 Try.prog 59 #[.pointer (some ⟨Bm, 0, none⟩)] encZ (fun ss => ss.Perm (intKeys D)) (Maps.size D) w :=
    AnyZI.keys_gives (ρ := keysA_ren) { keysA with } Fence.wide _ trivial rfl (by omega) Bm b 828 D w hBm hm h.own
  have cS := AnyZI.sorted_in sortedA Fence.wide 5 trivial trivial trivial trivial rfl (by omega) (sortsA _) (enters_of Try.func45 (by kernel_rfl) rfl) 59 #[.pointer (some ⟨Bm, 0, none⟩)] trivial (enters_of Try.func59 (by kernel_rfl) rfl) _ _ (by unfold maxLen; omega) (by omega) w hseq
  refine ((callsIn_wide (n := 5)).1 cS).mono ?_
  rintro e w' ⟨v, ss, rfl, hperm, hrow, hnil, hb⟩
  rw [h.sorted hN hperm] at hrow
  have hl : ss.length = (selL (pres f) N).length := by rw [← h.sorted hN hperm, List.length_mergeSort]
  rw [hl] at hrow
  exact ⟨v, rfl, hrow, hb⟩
theorem sortedX_any {w : World} {R : El} {b Bm N : Nat} {f : Nat → Option (DataW Unit)} (h : Nm w R b f) (hN : N = 828) (hBm : Bm < w.heap.size) (hm : w.cell? ⟨Bm, 0, none⟩ = some (.map (some b))) :
    Calls Try.prog 48 #[.func (.func 58) #[] #[.pointer (some ⟨Bm, 0, none⟩)]] w (NumP w (selL (pres f) N)) := by
  obtain ⟨D, h⟩ := h
  have hsz := h.size
  have hseq : SeqGives Fence.wide 2 Try.prog 58 #[.pointer (some ⟨Bm, 0, none⟩)] encZ (fun ss => ss.Perm (intKeys D)) (Maps.size D) w :=
    AnyZI.keys_gives (ρ := keysX_ren) { keysX with } Fence.wide _ trivial rfl (by omega) Bm b 828 D w hBm hm h.own
  have cS := AnyZI.sorted_in sortedA Fence.wide 5 trivial trivial trivial trivial rfl (by omega) (sortsA _) (enters_of Try.func45 (by kernel_rfl) rfl) 58 #[.pointer (some ⟨Bm, 0, none⟩)] trivial (enters_of Try.func58 (by kernel_rfl) rfl) _ _ (by unfold maxLen; omega) (by omega) w hseq
  refine ((callsIn_wide (n := 5)).1 cS).mono ?_
  rintro e w' ⟨v, ss, rfl, hperm, hrow, hnil, hb⟩
  rw [h.sorted hN hperm] at hrow
  have hl : ss.length = (selL (pres f) N).length := by rw [← h.sorted hN hperm, List.length_mergeSort]
  rw [hl] at hrow
  exact ⟨v, rfl, hrow, hb⟩
theorem numbersA_any {w : World} {R : El} {b N : Nat} {f : Nat → Option (DataW Unit)} (h : Nm w R b f) (hN : N = 828) :
    Calls Try.prog 44 #[.map (some b)] w (NumP w (selL (pres f) N)) := by
  obtain ⟨wb, hwb⟩ : ∃ wb, wb = w.alloc (.cells #[.map (some b)] 57) := ⟨_, rfl⟩
  have hb : Below w.heap.size w wb := by rw [hwb]; exact (Below.refl _ _).alloc (Nat.le_refl _) _
  have hS := sortedA_any (h.next hb) hN (Bm := w.heap.size) (by rw [hwb]; simp) (by rw [hwb, cell_of_row _ _ 0 _ _ (0, 0) (heap_alloc_new w _)]; rfl)
  obtain ⟨L, hL⟩ : ∃ L, L = selL (pres f) N := ⟨_, rfl⟩
  rw [← hL] at hS ⊢
  have hK := keysA_any (some b) w
  rw [← hwb] at hK
  have HS := Lib.hid hS
  have HB := Lib.hid hb
  clear hS hwb hb h hN hL
  go_enter Try.func44, Try.ntmps44
  go_wp2_with (fail)
  refine hK.mono ?_
  rintro e w2 ⟨rfl, rfl⟩
  go_wp2_with (fail)
  refine HS.out.mono ?_
  rintro e w3 ⟨v, rfl, hO, hb3⟩
  have HO := Lib.hid hO
  have HB3 := Lib.hid (HB.out.trans (hb3.mono HB.out.size))
  have HH := Lib.hid HB.out.size
  clear hO hb3
  go_wp2_with (fail)
  go_ret
  exact ⟨_, rfl, ⟨HO.out.1, by
    rcases HO.out.2 with h1 | ⟨g, cap, cur, h1, h2, h3⟩
    · exact .inl h1
    · exact .inr ⟨g, cap, cur, h1, Nat.le_trans HH.out h2, h3⟩⟩, HB3.out⟩
theorem numbersX_any {w : World} {R : El} {b N : Nat} {f : Nat → Option (DataW Unit)} (h : Nm w R b f) (hN : N = 828) :
    Calls Try.prog 41 #[.map (some b)] w (NumP w (selL (pres f) N)) := by
  obtain ⟨wb, hwb⟩ : ∃ wb, wb = w.alloc (.cells #[.map (some b)] 59) := ⟨_, rfl⟩
  have hb : Below w.heap.size w wb := by rw [hwb]; exact (Below.refl _ _).alloc (Nat.le_refl _) _
  have hS := sortedX_any (h.next hb) hN (Bm := w.heap.size) (by rw [hwb]; simp) (by rw [hwb, cell_of_row _ _ 0 _ _ (0, 0) (heap_alloc_new w _)]; rfl)
  obtain ⟨L, hL⟩ : ∃ L, L = selL (pres f) N := ⟨_, rfl⟩
  rw [← hL] at hS ⊢
  have hK := keysX_any (some b) w
  rw [← hwb] at hK
  have HS := Lib.hid hS
  have HB := Lib.hid hb
  clear hS hwb hb h hN hL
  go_enter Try.func41, Try.ntmps41
  go_wp2_with (fail)
  refine hK.mono ?_
  rintro e w2 ⟨rfl, rfl⟩
  go_wp2_with (fail)
  refine HS.out.mono ?_
  rintro e w3 ⟨v, rfl, hO, hb3⟩
  have HO := Lib.hid hO
  have HB3 := Lib.hid (HB.out.trans (hb3.mono HB.out.size))
  have HH := Lib.hid HB.out.size
  clear hO hb3
  go_wp2_with (fail)
  go_ret
  exact ⟨_, rfl, ⟨HO.out.1, by
    rcases HO.out.2 with h1 | ⟨g, cap, cur, h1, h2, h3⟩
    · exact .inl h1
    · exact .inr ⟨g, cap, cur, h1, Nat.le_trans HH.out h2, h3⟩⟩, HB3.out⟩
end Go.Proofs.Ytgedgkdnjnbijaa
