/-
  The document's Join, by contract.
-/
import Derived.Test.YthoblenoijkglaaDoorJo
namespace Go.Proofs.YthoblenoijkglaaDoor
open Go.RowKit
set_option linter.unusedVariables false
set_option linter.unusedSimpArgs false

/-- Each name behind a slash. -/
def runP (L : List (List UInt8)) : List UInt8 := (L.map (47 :: ·)).flatten
theorem runP_snoc (L : List (List UInt8)) (x : List UInt8) : runP (L ++ [x]) = runP L ++ 47 :: x := by simp [runP]
theorem runP_join : ∀ {L : List (List UInt8)}, L ≠ [] → runP L = 47 :: Lib.join L [47]
  | [], h => absurd rfl h
  | x :: r, _ => by
    rw [Lib.join_cons]
    simp [runP, Lib.joinTail]
theorem runP_nil {L : List (List UInt8)} (h : L ≠ []) : runP L ≠ [] := by rw [runP_join h]; simp
theorem take_snoc {L : List (List UInt8)} {k : Nat} (h : k < L.length) : L.take (k + 1) = L.take k ++ [tat L k] := by
  rw [List.take_add_one, List.getElem?_eq_getElem h]
  simp [tat, List.getD, h]
theorem runP_le {L : List (List UInt8)} (h8 : L.length ≤ 8) (h : ∀ x ∈ L, nmB x = true) : (runP L).length ≤ 13 * L.length := by
  induction L with
  | nil => simp [runP]
  | cons x r ih =>
    have h1 := (nmB_pos (h x (by simp))).2.1
    have h2 := ih (by simp at h8; omega) fun y hy => h y (List.mem_cons_of_mem _ hy)
    simp only [runP, List.map_cons, List.flatten_cons, List.length_append, List.length_cons] at h2 ⊢
    omega
set_option maxHeartbeats 2000000 in
theorem rjoin_any (w : World) (a : Option Addr) (n c : Nat) (L : List (List UInt8)) (h : Sts w a n L) :
    Calls Tryd.prog 15 #[.slice a n c] w fun e w' => JoiV (joi L) e ∧ Below w.heap.size w w' := by
  have hl := h.len
  subst hl
  by_cases h8 : 8 < L.length
  · have k8 : (8 : Int) < (L.length : Int) := by omega
    have hj := Lib.hid (show joi L = none by unfold joi arP; rw [decide_eq_false (by omega)]; rfl)
    clear h
    go_enter Tryd.func15, Tryd.ntmps15
    go_wp2_with (fail)
    go_ret2
    exact ⟨by rw [hj.out]; rfl, Below.refl _ _⟩
  · have k8 : ¬ (8 : Int) < (L.length : Int) := by omega
    go_enter Tryd.func15, Tryd.ntmps15
    go_wp2_with (fail)
    go_loopw [4, 5] (fun s v wr => ∃ k : Nat, k ≤ L.length ∧ v = .int .i64 k ∧ s = .string (tx (runP (L.take k))) ∧ Below w.heap.size w wr ∧ NmTo L k) (fun _ v _ => L.length - (RowKit.intOf v).toNat)
    case atStart => exact ⟨0, by omega, rfl, rfl, Below.refl _ _, NmTo.zero _⟩
    case round =>
      obtain ⟨k, hk, rfl, rfl, hB, hI⟩ := hrel
      have HI := Lib.hid hI
      have HB := Lib.hid hB
      by_cases hlt : k < L.length
      · obtain ⟨b, off, rfl, hbl, hc⟩ := h.at (by omega)
        have k0 : (0 : Int) ≤ (k : Int) := by omega
        have k1 : (k : Int) < (L.length : Int) := by omega
        have x1 := (hB.cell (p := ⟨b, off + k, none⟩) hbl).trans (hc k hlt)
        have hcall := rname_any (tx (tat L k)) wr
        rw [data_tx] at hcall
        clear h hc hB hI
        cases hb : nmB (tat L k) with
        | false =>
          have hj := Lib.hid (show joi L = none by unfold joi arP; rw [not_allN hlt hb, Bool.and_false]; rfl)
          rw [hb] at hcall
          go_wp2_with (fail)
          refine hcall.mono ?_
          rintro e w' ⟨rfl, rfl⟩
          go_wp2_with (fail)
          go_ret2
          exact ⟨by rw [hj.out]; rfl, HB.out⟩
        | true =>
          rw [hb] at hcall
          have hsz := runP_le (L := L.take k) (by rw [List.length_take]; omega) fun x hx => by
            obtain ⟨i, hi, rfl⟩ := List.getElem_of_mem hx
            have hi' : i < k := by rw [List.length_take] at hi; omega
            have e : (L.take k)[i] = tat L i := by simp [tat, List.getD, show i < L.length by omega]
            rw [e]
            exact HI.out i hi'
          have hnm := nmB_pos hb
          rw [List.length_take] at hsz
          have kj : ¬ 9223372036854775807 < 1 + (tx (tat L k)).size := by rw [tx_size]; omega
          have km : ¬ 9223372036854775807 < (tx (runP (L.take k))).size + (tx (47 :: tat L k)).size := by rw [tx_size, tx_size]; simp only [List.length_cons]; omega
          have hap := slash_app (tat L k)
          have hap2 := tx_app (runP (L.take k)) (47 :: tat L k)
          rw [← runP_snoc, ← take_snoc hlt] at hap2
          have HS := Lib.hid hsz
          clear hsz hnm
          go_wp2_with (fail)
          refine hcall.mono ?_
          rintro e w' ⟨rfl, rfl⟩
          go_wp2_with (fail)
          go_roundw
          case rel => exact ⟨k + 1, by omega, by go_num, rfl, HB.out, HI.out.succ hb⟩
          case measure => simp [RowKit.intOf]; omega
      · obtain rfl : k = L.length := by omega
        rw [List.take_of_length_le (Nat.le_refl _)]
        have hA := arP_mk (by omega) (fun x hx => List.all_eq_true.1 HI.out.all x hx)
        have hj := Lib.hid (show joi L = some (47 :: Lib.join L [47]) by unfold joi; rw [hA]; rfl)
        clear h hB hI hA
        by_cases h0 : L = []
        · subst h0
          have e1 : (tx (runP [])).toList.isEmpty = true := by rw [Lib.toList_data]; rfl
          go_wp2_with (fail)
          go_ret2
          exact ⟨by rw [hj.out]; rfl, HB.out⟩
        · have e1 : (tx (runP L)).toList.isEmpty = false := by
            rw [Lib.toList_data, data_tx]
            cases hr : runP L with
            | nil => exact absurd hr (runP_nil h0)
            | cons _ _ => rfl
          have hrj := Lib.hid (runP_join h0)
          clear h0
          go_wp2_with (fail)
          go_ret2
          refine ⟨?_, HB.out⟩
          rw [hj.out, ← hrj.out]
          rfl
end Go.Proofs.YthoblenoijkglaaDoor
