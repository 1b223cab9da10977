/-
  Which entries are right: the program's test, the document's, the statements' of rising names; by contract.
-/
import Derived.Test.YtiedapiepklhlaaIw
namespace Go.Proofs.Ytiedapiepklhlaa
open Go.RowKit
set_option linter.unusedVariables false
set_option linter.unusedSimpArgs false

theorem enters_wrong (args : Array Value) (w : World) : (callFunc 37 args).run Try.prog w = .ok (.enter 37 args) w := enters_of (P := Try.prog) Try.func37 (by kernel_rfl) rfl args w
theorem gives_wrong (w : World) : Gives 37 #[] (fun x => !okE x) w := fun x w' _ => wrong_any x w'
theorem any_wrong (L : List En) : (L.any fun x => !okE x) = !(L.all okE) := by
  induction L with
  | nil => rfl
  | cons x L ih => rw [List.any_cons, List.all_cons, ih, Bool.not_and]
set_option maxHeartbeats 2000000 in
theorem areRight_any (a : Option Addr) (n c : Nat) (L : List En) (w : World) (h : Ens w a n L) (hn : n ≤ 1000000000000) :
    Calls Try.prog 25 #[.slice a n c] w fun e w' => e = .returned (.bool (rgt L)) ∧ Below w.heap.size w w' := by
  have hl := h.len
  subst hl
  by_cases h64 : 64 < L.length
  · have k1 : (64 : Int) < (L.length : Int) := by omega
    have hr := Lib.hid (rgt_long h64)
    clear h h64
    go_enter Try.func25, Try.ntmps25
    go_wp2_with (fail)
    go_ret
    exact ⟨by rw [hr.out]; rfl, Below.refl _ _⟩
  have k1 : ¬ (64 : Int) < (L.length : Int) := by omega
  have hct := contains_any _ #[] enters_wrong _ w (gives_wrong w) a L.length c L h hn
  rw [any_wrong] at hct
  have HH := Lib.hid h
  clear h
  cases hw : L.all okE with
  | false =>
    rw [hw] at hct
    have hr := Lib.hid (rgt_bad hw)
    go_enter Try.func25, Try.ntmps25
    go_wp2_with (fail)
    refine hct.mono ?_
    rintro e w' ⟨rfl, hb⟩
    have HB := Lib.hid hb
    clear hct hb
    go_wp2_with (fail)
    go_ret
    exact ⟨by rw [hr.out]; rfl, HB.out⟩
  | true =>
    rw [hw] at hct
    have H64 := Lib.hid h64
    have HW := Lib.hid hw
    clear h64 hw
    go_enter Try.func25, Try.ntmps25
    go_wp2_with (fail)
    refine hct.mono ?_
    rintro e w1 ⟨rfl, hb⟩
    have HB := Lib.hid hb
    have HH1 := Lib.hid (HH.out.next hb)
    clear hct hb
    go_wp2_with (fail)
    go_loopw [3] (fun v wr => ∃ k q : Nat, 1 ≤ k ∧ (k ≤ L.length ∨ k = 1) ∧ v = .int .i64 k ∧ wr = w1.drewN q ∧ RisTo L k) (fun v _ => L.length - (RowKit.intOf v).toNat)
    case atStart => exact ⟨1, 0, by omega, by omega, rfl, rfl, RisTo.one _⟩
    case round =>
      obtain ⟨k, q, hk1, hk, rfl, rfl, hI⟩ := hrel
      have HI := Lib.hid hI
      clear hI
      by_cases hlt : k < L.length
      · have k2 : (k : Int) < (L.length : Int) := by omega
        have k0 : (0 : Int) ≤ (k : Int) := by omega
        obtain ⟨m, rfl⟩ : ∃ m, k = m + 1 := ⟨k - 1, by omega⟩
        have hw1 : IntKind.i64.wrap (((m + 1 : Nat) : Int) - 1) = (m : Int) := by rw [show ((m + 1 : Nat) : Int) - 1 = (m : Int) by omega]; exact IntWalk.i64_in _ (by omega)
        obtain ⟨b, off, rfl, hbl, hc1, hc2⟩ := HH1.out.at (i := m) (by omega)
        obtain ⟨b', off', e', hbl', hd1, hd2⟩ := HH1.out.at (i := m + 1) (by omega)
        cases e'
        have k3 : (m : Int) < (L.length : Int) := by omega
        have k4 : (0 : Int) ≤ (m : Int) := by omega
        clear hc2 hd2 hbl hbl'
        cases hbt : Op.bytesLess (eat L m).s.toList (eat L (m + 1)).s.toList with
        | true =>
          have hbt' : blt (eat L m).s (eat L (m + 1)).s = true := hbt
          have HBT := Lib.hid hbt'
          clear hbt'
          go_wp2_with (fail)
          go_quiet (fail)
          go_wp2_with (fail)
          go_roundw
          case rel => exact ⟨m + 1 + 1, q + nq, by omega, by omega, by go_num, rfl, HI.out.succ (fun j hj => (show j = m from Nat.succ.inj hj) ▸ HBT.out)⟩
          case measure => simp [RowKit.intOf]; omega
        | false =>
          have hr := Lib.hid (rgt_fall (not_ris hlt hbt))
          go_wp2_with (fail)
          go_quiet (fail)
          go_wp2_with (fail)
          go_ret
          exact ⟨by rw [hr.out]; rfl, below_drewN (below_drewN HB.out _) _⟩
      · have k2 : ¬ (k : Int) < (L.length : Int) := by omega
        have hr : rgt L = true := rgt_yes (by have := H64.out; omega) HW.out (RisTo.ris (by
          intro j hj
          exact HI.out j (by omega)))
        have HR := Lib.hid hr
        clear hr
        go_wp2_with (fail)
        go_ret
        exact ⟨by rw [HR.out]; rfl, below_drewN HB.out _⟩
end Go.Proofs.Ytiedapiepklhlaa
