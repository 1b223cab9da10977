/-
  SameTexts and CopyTexts, by contract.
-/
import Derived.Test.YthoblenoijkglaaDoorSt
namespace Go.Proofs.YthoblenoijkglaaDoor
open Go.RowKit
set_option linter.unusedVariables false
set_option linter.unusedSimpArgs false

/-- The texts ahead of place k are alike. -/
def LikeTo (L M : List (List UInt8)) (k : Nat) : Prop := ∀ j, j < k → tat L j = tat M j
theorem LikeTo.zero (L M : List (List UInt8)) : LikeTo L M 0 := fun j h => by omega
theorem LikeTo.succ {L M : List (List UInt8)} {k : Nat} (h : LikeTo L M k) (e : tat L k = tat M k) : LikeTo L M (k + 1) := fun j hj => by
  by_cases hk : j = k
  · rw [hk]; exact e
  · exact h j (by omega)
theorem text_neq {x y : List UInt8} (h : x ≠ y) : ((tx x).toList == (tx y).toList) = false := by
  rw [Lib.toList_data, Lib.toList_data, data_tx, data_tx]
  exact beq_eq_false_iff_ne.2 h
theorem text_eq (x : List UInt8) : ((tx x).toList == (tx x).toList) = true := by simp
set_option maxHeartbeats 1000000 in
theorem sameT_any (a b : Option Addr) (n m c d : Nat) (L M : List (List UInt8)) (w : World) (h1 : Sts w a n L) (h2 : Sts w b m M) (hn : n ≤ 1000000000000) (hm : m ≤ 1000000000000) :
    Calls Tryd.prog 12 #[.slice a n c, .slice b m d] w fun e w' => e = .returned (.bool (decide (L = M))) ∧ Below w.heap.size w w' := by
  have hl1 := h1.len
  have hl2 := h2.len
  by_cases hnm : n = m
  · subst hnm
    have HL1 := Lib.hid hl1
    have HL2 := Lib.hid hl2
    clear hl1 hl2
    go_enter Tryd.func12, Tryd.ntmps12
    go_wp2_with (fail)
    go_loopw [5] (fun v wr => ∃ k : Nat, k ≤ n ∧ v = .int .i64 k ∧ (∃ q, wr = w.drewN q) ∧ LikeTo L M k) (fun v _ => n - (RowKit.intOf v).toNat)
    case atStart => exact ⟨0, by omega, rfl, ⟨0, rfl⟩, LikeTo.zero _ _⟩
    case round =>
      obtain ⟨k, hk, rfl, ⟨q, hq⟩, hI⟩ := hrel
      have HI := Lib.hid hI
      have hB : Below w.heap.size w wr := by rw [hq]; exact below_drewN (Below.refl _ _) q
      have HQ := Lib.hid hq
      have HB := Lib.hid hB
      clear hq hI
      by_cases hlt : k < n
      · obtain ⟨g1, o1, rfl, l1, c1⟩ := h1.at (by omega)
        obtain ⟨g2, o2, rfl, l2, c2⟩ := h2.at (by omega)
        have k0 : (0 : Int) ≤ (k : Int) := by omega
        have k1 : (k : Int) < (n : Int) := by omega
        have x1 := (hB.cell (p := ⟨g1, o1 + k, none⟩) l1).trans (c1 k hlt)
        have x2 := (hB.cell (p := ⟨g2, o2 + k, none⟩) l2).trans (c2 k hlt)
        clear h1 h2 c1 c2 hB
        by_cases he : tat L k = tat M k
        · have ht := text_eq (tat M k)
          rw [he] at x1
          go_wp2_with (fail)
          go_quiet (fail)
          go_wp2_with (fail)
          go_roundw
          case rel => exact ⟨k + 1, by omega, by go_num, ⟨q + nq, by rw [HQ.out, World.drewN_drewN]⟩, HI.out.succ he⟩
          case measure => simp [RowKit.intOf]; omega
        · have ht := text_neq he
          have hne := Lib.hid (show L ≠ M from fun e => he (by rw [e]))
          clear he
          go_wp2_with (fail)
          go_quiet (fail)
          go_wp2_with (fail)
          go_ret
          exact ⟨by rw [decide_eq_false hne.out]; rfl, below_drewN HB.out _⟩
      · obtain rfl : k = n := by omega
        clear h1 h2 hB
        have heq := Lib.hid (show L = M from tat_ext (by rw [HL1.out, HL2.out]) fun i hi => HI.out i (by rw [← HL1.out]; exact hi))
        go_wp2_with (fail)
        go_ret
        exact ⟨by rw [decide_eq_true heq.out]; rfl, HB.out⟩
  · have kn : ¬ (n : Int) = (m : Int) := by omega
    have hne := Lib.hid (show L ≠ M from fun e => hnm (by rw [← hl1, ← hl2, e]))
    clear h1 h2 hl1 hl2
    go_enter Tryd.func12, Tryd.ntmps12
    go_wp2_with (fail)
    go_ret
    exact ⟨by rw [decide_eq_false hne.out]; rfl, Below.refl _ _⟩
set_option maxHeartbeats 1000000 in
theorem copyT_any (a : Option Addr) (n c : Nat) (L : List (List UInt8)) (w : World) (h : Sts w a n L) (hn : n ≤ 1000000000) (hz : a = none → n = 0 ∧ c = 0) :
    Calls Tryd.prog 13 #[.slice a n c] w fun e w' => ∃ v, e = .returned v ∧ OwnT w' w.heap.size v n L ∧ Below w.heap.size w w' := by
  have hl := h.len
  have ho := ownT_none w w.heap.size (Nat.le_refl _)
  have hb : Below w.heap.size w (w.alloc (.cells #[] 9)) := (Below.refl _ _).alloc (Nat.le_refl _) _
  have hs := h.alloc (.cells #[] 9)
  have HO := Lib.hid ho
  have HB := Lib.hid hb
  have HS := Lib.hid hs
  clear ho hb hs h
  rcases a with _ | p
  · obtain ⟨rfl, rfl⟩ := hz rfl
    obtain rfl : L = [] := List.length_eq_zero_iff.1 hl
    go_enter Tryd.func13, Tryd.ntmps13
    go_wp2_with (at_builtin; go_must (refine wpList_apT0 rfl (.tmp 5) (.tmp 6) rfl w.heap.size _ 0 [] rfl HO.out rfl ?_))
    go_ret
    exact ⟨_, rfl, HO.out, HB.out⟩
  · clear hz
    go_enter Tryd.func13, Tryd.ntmps13
    go_wp2_with (at_builtin; go_must (refine wpList_apT rfl (.tmp 5) (.tmp 6) rfl w.heap.size _ 0 [] rfl HO.out p n c L rfl HS.out (by omega) (by simp) w HB.out ?_); intro v' w' ho' hb')
    rw [Nat.zero_add, List.nil_append] at ho'
    have HO' := Lib.hid ho'
    have HB' := Lib.hid hb'
    clear ho' hb'
    go_wp2_with (fail)
    go_ret
    exact ⟨_, rfl, HO'.out, HB'.out⟩
end Go.Proofs.YthoblenoijkglaaDoor
