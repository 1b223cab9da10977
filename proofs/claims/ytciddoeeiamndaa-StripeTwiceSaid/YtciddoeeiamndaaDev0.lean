/-
  The small functions of the device: their contracts.
-/
import Derived.Test.YtciddoeeiamndaaCopy
import Derived.Lib.SliceRun
namespace Go.Proofs.Ytciddoeeiamndaa
open Go.RowKit

/-- 'bytes.Clone' of a slice that is not nil. -/
theorem clone_any (b off la ca : Nat) (x : List Int) (w : World) (hx : Bys w (some ⟨b, off, none⟩) la x) (hla : la ≤ 1000000000000) :
    Calls Try.prog 52 #[.slice (some ⟨b, off, none⟩) la ca] w fun e w' => ∃ v, e = .returned v ∧ Own w' w.heap.size v la x ∧ Below w.heap.size w w' := by
  have hnil : ∀ w, (binOp .eql 37 (.slice (some ⟨b, off, none⟩) la ca) (.slice none 0 0)).run Try.prog w = .ok (.bool false) w := fun w =>
    Lib.run_eql_slice_nil w 37 5 (some ⟨b, off, none⟩) la ca 0 0 Try.underlying37
  go_enter Try.func52, Try.ntmps52
  go_wp2_with (at_builtin; go_must (refine wpList_ap rfl (.tmp 5) (.tmp 6) rfl w.heap.size _ 0 [] rfl (own_none w w.heap.size (Nat.le_refl _)) (some ⟨b, off, none⟩) la ca x rfl (hx.below (Nat.le_refl _) ((Below.refl _ _).alloc (Nat.le_refl _) _)) (fun h => by cases h) (by omega) (by simp) w ((Below.refl _ _).alloc (Nat.le_refl _) _) ?_); intro v w1 hown1 hb1)
  go_ret
  exact ⟨_, rfl, by simpa using hown1, hb1⟩

theorem off_any (p : Nat) (x : Bool) (w : World) (c2 : w.cell? ⟨p, 2, none⟩ = some (.bool x)) :
    Calls Try.prog 94 #[.pointer (some ⟨p, 0, none⟩)] w fun e w' => e = .returned (.bool x) ∧ w = w' := by
  go_enter Try.func94, Try.ntmps94
  go_wp2
  go_ret
  exact ⟨rfl, rfl⟩

theorem hasDisk_any (p db n c : Nat) (i : Int) (w : World) (c0 : w.cell? ⟨p, 0, none⟩ = some (.slice (some ⟨db, 0, none⟩) n c)) :
    Calls Try.prog 35 #[.pointer (some ⟨p, 0, none⟩), .int .i64 i] w fun e w' => e = .returned (.bool (decide (0 ≤ i ∧ i < n))) ∧ w = w' := by
  by_cases h0 : 0 ≤ i
  · by_cases h1 : i < n
    · have hd : decide (0 ≤ i ∧ i < n) = true := by simp; omega
      rw [hd]
      clear hd
      go_enter Try.func35, Try.ntmps35
      go_wp2
      go_ret
      exact ⟨rfl, rfl⟩
    · have hd : decide (0 ≤ i ∧ i < n) = false := by simp; omega
      rw [hd]
      clear hd
      go_enter Try.func35, Try.ntmps35
      go_wp2
      go_ret
      exact ⟨rfl, rfl⟩
  · have hd : decide (0 ≤ i ∧ i < n) = false := by simp; omega
    rw [hd]
    clear hd
    go_enter Try.func35, Try.ntmps35
    go_wp2
    go_ret
    exact ⟨rfl, rfl⟩

theorem lastingOf_any (db o lb s S : Nat) (w : World) (c0 : w.cell? ⟨db, o, none⟩ = some (.slice (some ⟨lb, 0, none⟩) (S * 64) (S * 64))) (hs : s < S) (hS : S ≤ 4096) :
    Calls Try.prog 53 #[.pointer (some ⟨db, o, none⟩), .int .i64 s] w fun e w' => e = .returned (.slice (some ⟨lb, s * 64, none⟩) 64 (S * 64 - s * 64)) ∧ w = w' := by
  go_enter Try.func53, Try.ntmps53
  go_wp2
  go_ret
  refine ⟨?_, rfl⟩
  show Ending.returned (Value.slice _ (s * 64 + 64 - s * 64) _) = _
  rw [Nat.add_sub_cancel_left]

/-- Is there such a sector of such a disk? -/
def hasB (n S : Nat) (i k : Int) : Bool := decide ((0 ≤ i ∧ i < n) ∧ 0 ≤ k ∧ k < S)
theorem hasB_disk {n S : Nat} {i k : Int} (h : ¬ (0 ≤ i ∧ i < n)) : hasB n S i k = false := decide_eq_false fun x => h x.1
theorem hasB_low {n S : Nat} {i k : Int} (h : ¬ 0 ≤ k) : hasB n S i k = false := decide_eq_false fun x => h x.2.1
theorem hasB_high {n S : Nat} {i k : Int} (h : ¬ k < S) : hasB n S i k = false := decide_eq_false fun x => h x.2.2
theorem hasB_yes {n S : Nat} {i k : Int} (h0 : 0 ≤ i) (h1 : i < n) (h2 : 0 ≤ k) (h3 : k < S) : hasB n S i k = true := decide_eq_true ⟨⟨h0, h1⟩, h2, h3⟩
theorem hasB_iff {n S : Nat} {i k : Int} : hasB n S i k = true ↔ (0 ≤ i ∧ i < n) ∧ 0 ≤ k ∧ k < S := by unfold hasB; rw [decide_eq_true_eq]

theorem hasDisk_yes (p db n c : Nat) (i : Int) (w : World) (c0 : w.cell? ⟨p, 0, none⟩ = some (.slice (some ⟨db, 0, none⟩) n c)) (h0 : 0 ≤ i) (h1 : i < n) :
    Calls Try.prog 35 #[.pointer (some ⟨p, 0, none⟩), .int .i64 i] w fun e w' => e = .returned (.bool true) ∧ w = w' := by
  have := hasDisk_any p db n c i w c0
  rwa [show decide (0 ≤ i ∧ i < n) = true by simp; omega] at this
theorem hasDisk_no (p db n c : Nat) (i : Int) (w : World) (c0 : w.cell? ⟨p, 0, none⟩ = some (.slice (some ⟨db, 0, none⟩) n c)) (h : ¬ (0 ≤ i ∧ i < n)) :
    Calls Try.prog 35 #[.pointer (some ⟨p, 0, none⟩), .int .i64 i] w fun e w' => e = .returned (.bool false) ∧ w = w' := by
  have := hasDisk_any p db n c i w c0
  rwa [show decide (0 ≤ i ∧ i < n) = false by simp; omega] at this

theorem hasSector_yes (p db n c S : Nat) (i k : Int) (w : World) (c0 : w.cell? ⟨p, 0, none⟩ = some (.slice (some ⟨db, 0, none⟩) n c)) (c1 : w.cell? ⟨p, 1, none⟩ = some (.int .i64 S)) (h : hasB n S i k = true) :
    Calls Try.prog 51 #[.pointer (some ⟨p, 0, none⟩), .int .i64 i, .int .i64 k] w fun e w' => e = .returned (.bool true) ∧ w = w' := by
  obtain ⟨⟨h0, h1⟩, h2, h3⟩ := hasB_iff.1 h
  clear h
  go_enter Try.func51, Try.ntmps51
  go_wp2_with (go_at_call 35; refine (hasDisk_yes p db n c i w c0 h0 h1).mono ?_; rintro e w' ⟨rfl, rfl⟩)
  go_ret
  exact ⟨rfl, rfl⟩
theorem hasSector_no (p db n c S : Nat) (i k : Int) (w : World) (c0 : w.cell? ⟨p, 0, none⟩ = some (.slice (some ⟨db, 0, none⟩) n c)) (c1 : w.cell? ⟨p, 1, none⟩ = some (.int .i64 S)) (h : hasB n S i k = false) :
    Calls Try.prog 51 #[.pointer (some ⟨p, 0, none⟩), .int .i64 i, .int .i64 k] w fun e w' => e = .returned (.bool false) ∧ w = w' := by
  by_cases hd : 0 ≤ i ∧ i < n
  · obtain ⟨h0, h1⟩ := hd
    by_cases h2 : 0 ≤ k
    · have h3 : ¬ k < S := fun h3 => by rw [hasB_yes h0 h1 h2 h3] at h; cases h
      have h4 : decide (k < (S : Int)) = false := decide_eq_false h3
      clear h
      go_enter Try.func51, Try.ntmps51
      go_wp2_with (go_at_call 35; refine (hasDisk_yes p db n c i w c0 h0 h1).mono ?_; rintro e w' ⟨rfl, rfl⟩)
      go_ret
      exact ⟨rfl, rfl⟩
    · clear h
      go_enter Try.func51, Try.ntmps51
      go_wp2_with (go_at_call 35; refine (hasDisk_yes p db n c i w c0 h0 h1).mono ?_; rintro e w' ⟨rfl, rfl⟩)
      go_ret
      exact ⟨rfl, rfl⟩
  · clear h
    have hc := hasDisk_no p db n c i w c0 hd
    clear hd
    go_enter Try.func51, Try.ntmps51
    go_wp2_with (go_at_call 35; refine hc.mono ?_; rintro e w' ⟨rfl, rfl⟩)
    go_ret
    exact ⟨rfl, rfl⟩

/-- 'called' of a disk: what its two cells hold behind it. -/
theorem called_any (db o : Nat) (x : Bool) (n : Int) (w : World) (c2 : w.cell? ⟨db, o + 2, none⟩ = some (.bool x)) (c3 : w.cell? ⟨db, o + 3, none⟩ = some (.int .i64 n)) (f2 : w.frozen? ⟨db, o + 2, none⟩ = false) (f3 : w.frozen? ⟨db, o + 3, none⟩ = false) (hn : n ≤ 9223372036854775807) :
    Calls Try.prog 80 #[.pointer (some ⟨db, o, none⟩)] w fun e w' => e = .returned (.tuple #[]) ∧
      w' = if n = 0 then w.setCell ⟨db, o + 2, none⟩ (.bool true) else if 0 < n then w.setCell ⟨db, o + 3, none⟩ (.int .i64 (n - 1)) else w := by
  by_cases h0 : n = 0
  · subst h0
    go_enter Try.func80, Try.ntmps80
    go_wp2
    go_end0
    exact ⟨rfl, rfl⟩
  · by_cases h1 : 0 < n
    all_goals
      have hne : (n == 0) = false := by simpa using h0
      go_enter Try.func80, Try.ntmps80
      go_wp2
      go_end0
      exact ⟨rfl, by first | rw [if_pos h1] | rw [if_neg h1] | rfl⟩

/-- Is this number among those kept? -/
def keptB (ks : List Int) (m : Nat) : Bool := decide (0 < ks.length) && ((ks.getD (m % ks.length) 0).tmod 2 != 0)
/-- A slice of numbers. -/
def Ins (w : World) (a : Option Addr) (n : Nat) (ks : List Int) : Prop := ks.length = n ∧ (n = 0 ∨ ∃ b off, a = some ⟨b, off, none⟩ ∧ b < w.heap.size ∧ ∀ i, i < n → w.cell? ⟨b, off + i, none⟩ = some (.int .i64 (ks.getD i 0)))
end Go.Proofs.Ytciddoeeiamndaa
