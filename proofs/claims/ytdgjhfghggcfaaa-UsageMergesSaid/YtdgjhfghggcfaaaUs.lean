/-
  The small functions over slices of numbers: is a number there, a segment's count, how many are above 0, the least one, SameInts, CopyInts.
-/
import Derived.Test.YtdgjhfghggcfaaaUp
import Derived.Laws.AppendOwnNone
namespace Go.Proofs.Ytdgjhfghggcfaaa
open Go.RowKit
set_option linter.unusedVariables false

/-- A slice of numbers with its room. -/
structure Ink (w : World) (a : Option Addr) (n c : Nat) (ks : List Int) : Prop where
  ins : Ins w a n ks
  nil : a = none → n = 0 ∧ c = 0
  wf : ∀ k ∈ ks, (Lit.int .i64 k).wf = true

/-- Where a number is, from place k on. -/
def idxF (ts : List Int) (z : Int) : Nat → Nat → Int
  | _, 0 => -1
  | k, m + 1 => if z = num ts k then (k : Int) else idxF ts z (k + 1) m
theorem idxF_in {ts : List Int} {z : Int} : ∀ (m k : Nat), k + m = ts.length → (0 ≤ idxF ts z k m ↔ z ∈ ts.drop k)
  | 0, k, h => by
    rw [List.drop_eq_nil_of_le (by omega)]
    simp [idxF]
  | m + 1, k, h => by
    have hk : k < ts.length := by omega
    rw [List.drop_eq_getElem_cons hk, List.mem_cons, ← idxF_in m (k + 1) (by omega)]
    have e : num ts k = ts[k] := by simp [num, List.getD, hk]
    rw [show idxF ts z k (m + 1) = if z = num ts k then (k : Int) else idxF ts z (k + 1) m from rfl, e]
    by_cases hz : z = ts[k]
    · rw [if_pos hz]; simp [hz]
    · rw [if_neg hz]; simp [hz]
set_option maxHeartbeats 1000000 in
theorem index_any (a : Option Addr) (n c : Nat) (ts : List Int) (z : Int) (w : World) (h : Ins w a n ts) (hn : n ≤ 1000000000000) :
    Calls Try.prog 44 #[.slice a n c, .int .i64 z] w fun e w' => (∃ i : Int, e = .returned (.int .i64 i) ∧ (0 ≤ i ↔ z ∈ ts)) ∧ w' = w := by
  have hl := h.len
  have hfin : Hid (∀ i : Int, i = idxF ts z 0 n → (0 ≤ i ↔ z ∈ ts)) := Lib.hid fun i hi => by rw [hi, idxF_in n 0 (by omega), List.drop_zero]
  go_enter Try.func44, Try.ntmps44
  go_wp2_with (fail)
  go_loopw [5, 8] (fun _ v wr => ∃ k : Nat, k ≤ n ∧ v = .int .i64 k ∧ idxF ts z 0 n = idxF ts z k (n - k) ∧ wr = w) (fun _ v _ => n - (RowKit.intOf v).toNat)
  case atStart => exact ⟨0, by omega, rfl, rfl, rfl⟩
  case round =>
    obtain ⟨k, hk, rfl, hx, rfl⟩ := hrel
    by_cases hlt : k < n
    · obtain ⟨b, off, rfl, hb, hc⟩ := h.at (by omega)
      have k0 : (0 : Int) ≤ (k : Int) := by omega
      have k1 : (k : Int) < (n : Int) := by omega
      have y := hc k hlt
      have HX := Lib.hid hx
      clear hx hc h
      have hstep : Hid (idxF ts z k (n - k) = if z = num ts k then (k : Int) else idxF ts z (k + 1) (n - (k + 1))) := Lib.hid (by
        rw [show n - k = (n - (k + 1)) + 1 by omega]; rfl)
      by_cases hz : z = num ts k
      · have hzb : (z == num ts k) = true := by simp [hz]
        have HZ := Lib.hid hz
        clear hz
        go_wp2_with (fail)
        go_ret
        exact ⟨⟨_, rfl, hfin.out _ (by rw [HX.out, hstep.out, if_pos HZ.out])⟩, rfl⟩
      · have hzb : (z == num ts k) = false := by simp [hz]
        have HZ := Lib.hid hz
        clear hz
        go_wp2_with (fail)
        go_roundw
        case rel => exact ⟨k + 1, by omega, by go_num, by rw [HX.out, hstep.out, if_neg HZ.out], by first | rfl | trivial⟩
        case measure => simp [RowKit.intOf]; omega
    · obtain rfl : k = n := by omega
      have HX := Lib.hid hx
      clear hx h
      go_wp2_with (fail)
      go_ret
      exact ⟨⟨_, rfl, hfin.out _ (by rw [HX.out, Nat.sub_self]; rfl)⟩, rfl⟩
theorem contains_any (a : Option Addr) (n c : Nat) (ts : List Int) (z : Int) (w : World) (h : Ins w a n ts) (hn : n ≤ 1000000000000) :
    Calls Try.prog 37 #[.slice a n c, .int .i64 z] w fun e w' => e = .returned (.bool (decide (z ∈ ts))) ∧ w' = w := by
  have hi := index_any a n c ts z w h hn
  clear h
  go_enter Try.func37, Try.ntmps37
  go_wp2_with (fail)
  refine hi.mono ?_
  rintro e w' ⟨⟨i, rfl, hii⟩, rfl⟩
  have HI := Lib.hid hii
  clear hii hi
  go_wp2_with (fail)
  go_ret
  exact ⟨ret_bool (decide_eq_decide.2 HI.out), rfl⟩
set_option maxHeartbeats 1000000 in
theorem among_any (a : Option Addr) (n c : Nat) (ts : List Int) (z : Int) (w : World) (h : Ins w a n ts) (hn : n ≤ 1000000000000) :
    Calls Try.prog 28 #[.slice a n c, .int .i64 z] w fun e w' => e = .returned (.bool (decide (z ∈ ts))) ∧ w' = w := by
  have hl := h.len
  have hfin : Hid (∀ b : Bool, (b = true ↔ 0 ≤ idxF ts z 0 n) → b = decide (z ∈ ts)) := Lib.hid fun b hb => by
    rw [idxF_in n 0 (by omega), List.drop_zero] at hb
    by_cases hz : z ∈ ts
    · rw [decide_eq_true hz]; exact hb.2 hz
    · rw [decide_eq_false hz]
      cases b with
      | false => rfl
      | true => exact absurd (hb.1 rfl) hz
  go_enter Try.func28, Try.ntmps28
  go_wp2_with (fail)
  go_loopw [5] (fun v wr => ∃ k : Nat, k ≤ n ∧ v = .int .i64 k ∧ idxF ts z 0 n = idxF ts z k (n - k) ∧ wr = w) (fun v _ => n - (RowKit.intOf v).toNat)
  case atStart => exact ⟨0, by omega, rfl, rfl, rfl⟩
  case round =>
    obtain ⟨k, hk, rfl, hx, rfl⟩ := hrel
    by_cases hlt : k < n
    · obtain ⟨b, off, rfl, hb, hc⟩ := h.at (by omega)
      have k0 : (0 : Int) ≤ (k : Int) := by omega
      have k1 : (k : Int) < (n : Int) := by omega
      have y := hc k hlt
      have HX := Lib.hid hx
      clear hx hc h
      have hstep : Hid (idxF ts z k (n - k) = if z = num ts k then (k : Int) else idxF ts z (k + 1) (n - (k + 1))) := Lib.hid (by
        rw [show n - k = (n - (k + 1)) + 1 by omega]; rfl)
      by_cases hz : z = num ts k
      · have hzb : (num ts k == z) = true := by simp [hz]
        have HZ := Lib.hid hz
        clear hz
        go_wp2_with (fail)
        go_ret
        exact ⟨ret_bool (hfin.out true (by rw [HX.out, hstep.out, if_pos HZ.out]; simp)), rfl⟩
      · have hzb : (num ts k == z) = false := by simp; omega
        have HZ := Lib.hid hz
        clear hz
        go_wp2_with (fail)
        go_roundw
        case rel => exact ⟨k + 1, by omega, by go_num, by rw [HX.out, hstep.out, if_neg HZ.out], by first | rfl | trivial⟩
        case measure => simp [RowKit.intOf]; omega
    · obtain rfl : k = n := by omega
      have HX := Lib.hid hx
      clear hx h
      go_wp2_with (fail)
      go_ret
      exact ⟨ret_bool (hfin.out false (by rw [HX.out, Nat.sub_self]; simp [idxF])), rfl⟩
theorem countOf_any (a : Option Addr) (n c s : Nat) (ks : List Int) (w : World) (h : Ins w a n ks) (hn : n ≤ 1000000000000) :
    Calls Try.prog 38 #[.slice a n c, .int .i64 s] w fun e w' => e = .returned (.int .i64 (num ks s)) ∧ w' = w := by
  have hl := h.len
  by_cases hs : s < n
  · obtain ⟨b, off, rfl, hb, hc⟩ := h.at (by omega)
    have k0 : (0 : Int) ≤ (s : Int) := by omega
    have k1 : (s : Int) < (n : Int) := by omega
    have y := hc s hs
    clear hc h
    go_enter Try.func38, Try.ntmps38
    go_wp2_with (fail)
    go_ret
    exact ⟨rfl, rfl⟩
  · have hz : num ks s = 0 := num_out (by omega)
    rw [hz]
    have k1 : (n : Int) ≤ (s : Int) := by omega
    clear hz hl h
    go_enter Try.func38, Try.ntmps38
    go_wp2_with (fail)
    go_ret
    exact ⟨rfl, rfl⟩
set_option maxHeartbeats 1000000 in
theorem above0_any (a : Option Addr) (n c : Nat) (ks : List Int) (w : World) (h : Ins w a n ks) (hn : n ≤ 1000000000000) :
    Calls Try.prog 32 #[.slice a n c] w fun e w' => e = .returned (.int .i64 (upN ks : Nat)) ∧ w' = w := by
  have hl := h.len
  go_enter Try.func32, Try.ntmps32
  go_wp2_with (fail)
  go_loopw [3, 5, 8] (fun u _ v wr => ∃ k : Nat, k ≤ n ∧ v = .int .i64 k ∧ u = .int .i64 (upN (ks.take k) : Nat) ∧ wr = w) (fun _ _ v _ => n - (RowKit.intOf v).toNat)
  case atStart => exact ⟨0, by omega, rfl, rfl, rfl⟩
  case round =>
    obtain ⟨k, hk, rfl, rfl, rfl⟩ := hrel
    by_cases hlt : k < n
    · obtain ⟨b, off, rfl, hb, hc⟩ := h.at (by omega)
      have k0 : (0 : Int) ≤ (k : Int) := by omega
      have k1 : (k : Int) < (n : Int) := by omega
      have y := hc k hlt
      have hu := upN_take (ks := ks) (k := k) (by omega)
      have hm : upN (ks.take k) ≤ 1000000000000 := Nat.le_trans (upN_le _) (by rw [List.length_take]; omega)
      obtain ⟨u, hu0⟩ : ∃ u, u = upN (ks.take k) := ⟨_, rfl⟩
      rw [← hu0] at hu hm ⊢
      have HU := Lib.hid hu
      clear hu hu0 hc h
      by_cases hz : 0 < num ks k
      · go_wp2_with (fail)
        go_roundw
        case rel => exact ⟨k + 1, by omega, by go_num, by rw [HU.out, if_pos hz]; rfl, by first | rfl | trivial⟩
        case measure => simp [RowKit.intOf]; omega
      · have hz' : decide (0 < num ks k) = false := decide_eq_false hz
        go_wp2_with (fail)
        go_roundw
        case rel => exact ⟨k + 1, by omega, by go_num, by rw [HU.out, if_neg hz]; rfl, by first | rfl | trivial⟩
        case measure => simp [RowKit.intOf]; omega
    · obtain rfl : k = n := by omega
      rw [List.take_of_length_le (by omega)]
      clear h
      go_wp2_with (fail)
      go_ret
      exact ⟨rfl, rfl⟩
/-- The least of some numbers. -/
def minF (ks : List Int) (m : Int) : Int := ks.foldl (fun m k => if k < m then k else m) m
theorem minF_neg : ∀ (ks : List Int) (m : Int), minF ks m < 0 ↔ m < 0 ∨ ¬ noneNeg ks
  | [], m => by simp [minF, noneNeg]
  | k :: r, m => by
    show minF r (if k < m then k else m) < 0 ↔ _
    rw [minF_neg r]
    have e : noneNeg (k :: r) ↔ 0 ≤ k ∧ noneNeg r := by unfold noneNeg; simp
    rw [e]
    by_cases h1 : noneNeg r
    · simp only [h1, not_true_eq_false, or_false, and_true]
      split <;> omega
    · simp [h1]
end Go.Proofs.Ytdgjhfghggcfaaa
