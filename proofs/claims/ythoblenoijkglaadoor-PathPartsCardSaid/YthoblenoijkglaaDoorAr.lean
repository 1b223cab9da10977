/-
  The program's test of a path's names, by contract.
-/
import Derived.Test.YthoblenoijkglaaDoorNm
namespace Go.Proofs.YthoblenoijkglaaDoor
open Go.RowKit
set_option linter.unusedVariables false
set_option linter.unusedSimpArgs false

set_option maxHeartbeats 1000000 in
theorem badN_any (s : ByteArray) (w : World) : Calls Tryd.prog 29 #[.string s] w fun e w' => e = .returned (.bool (!nmB s.data.toList)) ∧ Below w.heap.size w w' := by
  have hc := name_any s w
  go_enter Tryd.func29, Tryd.ntmps29
  go_wp2_with (fail)
  refine hc.mono ?_
  rintro e w' ⟨rfl, hb⟩
  go_wp2_with (fail)
  go_ret
  exact ⟨rfl, hb⟩
/-- The texts ahead of place k are names. -/
def NmTo (L : List (List UInt8)) (k : Nat) : Prop := ∀ j, j < k → nmB (tat L j) = true
theorem NmTo.zero (L : List (List UInt8)) : NmTo L 0 := fun j h => by omega
theorem NmTo.succ {L : List (List UInt8)} {k : Nat} (h : NmTo L k) (e : nmB (tat L k) = true) : NmTo L (k + 1) := fun j hj => by
  by_cases hk : j = k
  · rw [hk]; exact e
  · exact h j (by omega)
theorem NmTo.all {L : List (List UInt8)} (h : NmTo L L.length) : L.all nmB = true := by
  rw [List.all_eq_true]
  intro x hx
  obtain ⟨i, hi, rfl⟩ := List.getElem_of_mem hx
  have := h i hi
  simpa [tat, List.getD, hi] using this
theorem not_allN {L : List (List UInt8)} {k : Nat} (hk : k < L.length) (e : nmB (tat L k) = false) : L.all nmB = false := by
  rw [List.all_eq_false]
  refine ⟨tat L k, tat_mem hk, by rw [e]; decide⟩
set_option maxHeartbeats 1000000 in
theorem indexS_any (w : World) (a : Option Addr) (n c : Nat) (L : List (List UInt8)) (h : Sts w a n L) (hn : n ≤ 1000000) :
    Calls Tryd.prog 39 #[.slice a n c, .func (.func 29) #[] #[]] w fun e w' => ∃ r : Int, e = .returned (.int .i64 r) ∧ decide (0 ≤ r) = !(L.all nmB) ∧ Below w.heap.size w w' := by
  have hl := h.len
  subst hl
  go_enter Tryd.func39, Tryd.ntmps39
  go_wp2_with (fail)
  go_loopw [5, 8] (fun _ v wr => ∃ k : Nat, k ≤ L.length ∧ v = .int .i64 k ∧ Below w.heap.size w wr ∧ NmTo L k) (fun _ v _ => L.length - (RowKit.intOf v).toNat)
  case atStart => exact ⟨0, by omega, rfl, Below.refl _ _, NmTo.zero _⟩
  case round =>
    obtain ⟨k, hk, rfl, hB, hI⟩ := hrel
    have HI := Lib.hid hI
    have HB := Lib.hid hB
    by_cases hlt : k < L.length
    · have k1 : (k : Int) < (L.length : Int) := by omega
      have k0 : (0 : Int) ≤ (k : Int) := by omega
      obtain ⟨b, off, rfl, hbl, hc⟩ := h.at (by omega)
      have x1 := (hB.cell (p := ⟨b, off + k, none⟩) hbl).trans (hc k hlt)
      have hcall := badN_any (tx (tat L k)) wr
      rw [data_tx] at hcall
      clear hc h hB hI
      cases hb : nmB (tat L k) with
      | true =>
        rw [hb] at hcall
        go_wp2_with (fail)
        refine hcall.mono ?_
        rintro e w' ⟨rfl, hb'⟩
        have HB2 := Lib.hid (HB.out.trans (hb'.mono HB.out.size))
        clear hb' hcall
        go_wp2_with (fail)
        go_roundw
        case rel => exact ⟨k + 1, by omega, by go_num, HB2.out, HI.out.succ hb⟩
        case measure => simp [RowKit.intOf]; omega
      | false =>
        rw [hb] at hcall
        go_wp2_with (fail)
        refine hcall.mono ?_
        rintro e w' ⟨rfl, hb'⟩
        have HB2 := Lib.hid (HB.out.trans (hb'.mono HB.out.size))
        clear hb' hcall
        go_wp2_with (fail)
        go_ret
        exact ⟨k, rfl, by rw [not_allN hlt hb]; simp, HB2.out⟩
    · obtain rfl : k = L.length := by omega
      clear h hB hI
      go_wp2_with (fail)
      go_ret
      exact ⟨-1, rfl, by rw [HI.out.all]; rfl, HB.out⟩
set_option maxHeartbeats 1000000 in
theorem containsS_any (w : World) (a : Option Addr) (n c : Nat) (L : List (List UInt8)) (h : Sts w a n L) (hn : n ≤ 1000000) :
    Calls Tryd.prog 28 #[.slice a n c, .func (.func 29) #[] #[]] w fun e w' => e = .returned (.bool (!(L.all nmB))) ∧ Below w.heap.size w w' := by
  have hi := indexS_any w a n c L h hn
  clear h
  go_enter Tryd.func28, Tryd.ntmps28
  go_wp2_with (fail)
  refine hi.mono ?_
  rintro e w' ⟨r, rfl, hr, hb⟩
  go_wp2_with (fail)
  go_ret
  exact ⟨by rw [← hr]; rfl, hb⟩
set_option maxHeartbeats 1000000 in
theorem are_any (w : World) (a : Option Addr) (n c : Nat) (L : List (List UInt8)) (h : Sts w a n L) :
    Calls Tryd.prog 20 #[.slice a n c] w fun e w' => e = .returned (.bool (arP L)) ∧ Below w.heap.size w w' := by
  have hl := h.len
  have HL := Lib.hid hl
  clear hl
  by_cases h8 : n ≤ 8
  · have k8 : (n : Int) ≤ 8 := by omega
    have hc := containsS_any w a n c L h (by omega)
    have hp := Lib.hid (show arP L = L.all nmB by unfold arP; rw [decide_eq_true (by rw [HL.out]; omega)]; rfl)
    clear h
    go_enter Tryd.func20, Tryd.ntmps20
    go_wp2_with (fail)
    refine hc.mono ?_
    rintro e w' ⟨rfl, hb⟩
    go_wp2_with (fail)
    go_ret
    exact ⟨by rw [hp.out]; simp, hb⟩
  · have k8 : ¬ (n : Int) ≤ 8 := by omega
    have hp := Lib.hid (show arP L = false by unfold arP; rw [decide_eq_false (by rw [HL.out]; omega)]; rfl)
    clear h
    go_enter Tryd.func20, Tryd.ntmps20
    go_wp2_with (fail)
    go_ret
    exact ⟨by rw [hp.out]; rfl, Below.refl _ _⟩
end Go.Proofs.YthoblenoijkglaaDoor
