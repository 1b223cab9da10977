/-
  The program's New by contract.
-/
import Derived.Test.YtgedgkdnjnbijaaKa
namespace Go.Proofs.Ytgedgkdnjnbijaa
open Go.RowKit Go.Maps Go.ChangeMaps Go.MapKept
set_option linter.unusedVariables false
set_option linter.unusedSimpArgs false

theorem pmp_new (w : World) : PmpAt (((w.alloc (.map #[] 0)).alloc (.map #[] 0)).alloc (.cells #[.map (some w.heap.size), .map (some (w.heap.size + 1))] 61 (0, 0))) (w.heap.size + 2) w.heap.size (w.heap.size + 1) (fun _ => 0) (fun _ => []) := by
  have s1 : (w.alloc (.map #[] 0)).heap.size = w.heap.size + 1 := by simp
  have s2 : ((w.alloc (.map #[] 0)).alloc (.map #[] 0)).heap.size = w.heap.size + 2 := by simp
  refine ⟨?_, ?_, by simp, by omega, by omega, by omega, ?_, ?_, ⟨fun _ => by omega, fun _ => .inl rfl, fun _ => .inl rfl⟩⟩
  · have := heap_alloc_new ((w.alloc (.map #[] 0)).alloc (.map #[] 0)) (.cells #[.map (some w.heap.size), .map (some (w.heap.size + 1))] 61 (0, 0))
    rw [s2] at this
    rw [cell_of_row _ _ 0 _ _ (0, 0) this]
    rfl
  · have := heap_alloc_new ((w.alloc (.map #[] 0)).alloc (.map #[] 0)) (.cells #[.map (some w.heap.size), .map (some (w.heap.size + 1))] 61 (0, 0))
    rw [s2] at this
    rw [cell_of_row _ _ 1 _ _ (0, 0) this]
    rfl
  · rw [fA_none]
    exact ((Nm.made w elA).next ((Below.refl _ _).alloc (Nat.le_refl _) _)).next ((Below.refl _ _).alloc (Nat.le_refl _) _)
  · rw [fX_none]
    have := (Nm.made (w.alloc (.map #[] 0)) elX).next ((Below.refl _ _).alloc (Nat.le_refl _) (.cells #[.map (some w.heap.size), .map (some (w.heap.size + 1))] 61 (0, 0)))
    rwa [s1] at this
theorem mk_map (w : World) (t : TypeId) : (Instr.makeMap t none).run Try.prog w = .ok (.map (some w.heap.size)) (w.alloc (.map #[] 0)) := rfl
/-- What the program's New answers. -/
def NewP (w : World) (ks : List Int) (e : Ending) (w' : World) : Prop :=
  (nwO ks = true → ∃ p b c, e = .returned (.tuple #[.pointer (some ⟨p, 0, none⟩), .int .i64 0]) ∧ PmpAt w' p b c (num ks) (fun _ => []) ∧ w.heap.size ≤ p ∧ w.heap.size ≤ b ∧ w.heap.size ≤ c) ∧
  (nwO ks = false → e = .returned (.tuple #[.pointer none, .int .i64 28])) ∧ Below w.heap.size w w'
set_option maxRecDepth 10000 in
set_option maxHeartbeats 4000000 in
theorem new_any (a : Option Addr) (n c : Nat) (ks : List Int) (w : World) (h : Ins w a n ks) (hn : n ≤ 1000000000) :
    Calls Try.prog 10 #[.slice a n c] w (NewP w ks) := by
  have hl := h.len
  subst hl
  by_cases h1 : 828 < ks.length
  · have e : nwO ks = false := by rw [nwO, decide_eq_false (by omega)]; rfl
    have k1 : (828 : Int) < (ks.length : Int) := by omega
    have HE := Lib.hid e
    clear h h1 e
    go_enter Try.func10, Try.ntmps10
    go_wp2_with (fail)
    go_ret2
    exact ⟨(fun h => by rw [HE.out] at h; cases h), (fun _ => rfl), Below.refl _ _⟩
  · have HI := Lib.hid h
    have H1 := Lib.hid h1
    have k1 : ¬ (828 : Int) < (ks.length : Int) := by omega
    have HP0 := Lib.hid (pmp_new w)
    have HB0 := Lib.hid (((((Below.refl w.heap.size w).alloc (Nat.le_refl _) (.map #[] 0)).alloc (by simp) (.map #[] 0)).alloc (by simp; omega) (.cells #[.map (some w.heap.size), .map (some (w.heap.size + 1))] 61 (0, 0))))
    clear h h1
    have hmk := mk_map
    go_enter Try.func10, Try.ntmps10
    go_wp2_with (fail)
    go_loopw [5, 6, 16] (fun _ _ v wr => ∃ k : Nat, k ≤ ks.length ∧ v = .int .i64 k ∧ (∀ i, i < k → ptO (num ks i) = true) ∧ PmpAt wr (w.heap.size + 2) w.heap.size (w.heap.size + 1) (nwA ks k) (fun _ => []) ∧ Below w.heap.size w wr) (fun _ _ v _ => ks.length - (RowKit.intOf v).toNat)
    case atStart => exact ⟨0, by omega, rfl, (fun i hi => by omega), by rw [show nwA ks 0 = fun _ => 0 by funext i; simp [nwA]]; exact HP0.out, HB0.out⟩
    case round =>
      obtain ⟨k, hk, rfl, hP, hM, hB⟩ := hrel
      have HP := Lib.hid hP
      have HM := Lib.hid hM
      have HB := Lib.hid hB
      clear hP hM hB HP0 HB0
      by_cases hlt : k < ks.length
      · obtain ⟨b, off, rfl, hbl, hcs⟩ := (HI.out.next HB.out).at (by omega : 0 < ks.length)
        have hc1 := hcs k hlt
        obtain ⟨z, hz2⟩ : ∃ z, z = num ks k := ⟨_, rfl⟩
        rw [← hz2] at hc1
        have HZ := Lib.hid hz2
        have hcall := isAddr_any z wr
        obtain ⟨r, hr⟩ : ∃ r, r = decide (1 ≤ z ∧ z ≤ 65535) := ⟨_, rfl⟩
        rw [← hr] at hcall
        have HR := Lib.hid hr
        clear hcs hz2 hr
        have hk828 : k < 828 := by have := H1.out; omega
        cases r with
        | true =>
          have hzr := of_decide_eq_true HR.out.symm
          obtain ⟨w2, hst, hnm, htn⟩ := HM.out.ma.store uA hk828 (elA_mk ⟨by omega, hzr.2⟩)
          rw [fA_upd _ _ (by omega)] at hnm
          have c0 := HM.out.c0
          have hM2 := HM.out.setA (turn_map htn) hnm (HM.out.ok.setA ⟨by omega, hzr.2⟩ rfl)
          rw [HZ.out, nwA_upd] at hM2
          have HM2 := Lib.hid hM2
          have HB2 := Lib.hid (HB.out.trans ((turn_map htn).below HB.out.size (fun j hj => by rw [hj]; exact Nat.le_refl _)))
          have HZR := Lib.hid hzr
          clear hnm htn hM2 hzr
          go_wp2_with (fail)
          refine hcall.mono ?_
          rintro e w3 ⟨rfl, rfl⟩
          go_wp2_with (fail)
          go_roundw
          case rel =>
            refine ⟨k + 1, by omega, by go_num, (fun i hi => ?_), HM2.out, HB2.out⟩
            by_cases hik : i = k
            · rw [hik, ← HZ.out]; exact decide_eq_true ⟨by have := HZR.out; omega, HZR.out.2⟩
            · exact HP.out i (by omega)
          case measure => simp [RowKit.intOf]; omega
        | false =>
          have hzr := of_decide_eq_false HR.out.symm
          by_cases hz0 : z = 0
          · have d1 : (z != 0) = false := by simp [hz0]
            have HZ0 := Lib.hid hz0
            have HM2 := Lib.hid (show nwA ks k = nwA ks (k + 1) by
              rw [← nwA_upd, ← HZ.out, hz0]
              funext i
              by_cases e : i = k
              · subst e; simp [upd, nwA]
              · simp [upd, nwA, e])
            clear hz0 hzr
            go_wp2_with (fail)
            refine hcall.mono ?_
            rintro e w3 ⟨rfl, rfl⟩
            go_wp2_with (fail)
            go_roundw
            case rel =>
              refine ⟨k + 1, by omega, by go_num, (fun i hi => ?_), by rw [← HM2.out]; exact HM.out, HB.out⟩
              by_cases hik : i = k
              · rw [hik, ← HZ.out, HZ0.out]; rfl
              · exact HP.out i (by omega)
            case measure => simp [RowKit.intOf]; omega
          · have d1 : (z != 0) = true := by simp [hz0]
            have hno := Lib.hid (show nwO ks = false from nwO_no hlt (by rw [← HZ.out]; exact decide_eq_false (by omega)))
            clear hz0 hzr
            go_wp2_with (fail)
            refine hcall.mono ?_
            rintro e w3 ⟨rfl, rfl⟩
            go_wp2_with (fail)
            go_ret2
            exact ⟨(fun h => by rw [hno.out] at h; cases h), (fun _ => rfl), HB.out⟩
      · obtain rfl : k = ks.length := by omega
        have hok := Lib.hid (show nwO ks = true by rw [nwO, decide_eq_true (by have := H1.out; omega), all_pt.2 HP.out]; rfl)
        go_wp2_with (fail)
        go_ret2
        exact ⟨(fun _ => ⟨_, _, _, rfl, by rw [← nwA_all]; exact HM.out, by omega, Nat.le_refl _, by omega⟩), (fun h => by rw [hok.out] at h; cases h), HB.out⟩
end Go.Proofs.Ytgedgkdnjnbijaa
