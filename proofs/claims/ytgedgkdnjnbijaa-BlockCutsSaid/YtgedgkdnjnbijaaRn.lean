/-
  The document's New, by contract.
-/
import Derived.Test.YtgedgkdnjnbijaaRz
import Derived.Deep.DeepCutAuto
import Derived.Deep.RegionHeld3
namespace Go.Proofs.Ytgedgkdnjnbijaa
open Go.RowKit
set_option linter.unusedVariables false
set_option linter.unusedSimpArgs false

theorem nwO_no {ks : List Int} {k : Nat} (hk : k < ks.length) (h : ptO (num ks k) = false) : nwO ks = false := by
  cases hh : nwO ks with
  | false => rfl
  | true =>
    simp only [nwO, Bool.and_eq_true] at hh
    rw [all_pt.1 hh.2 k hk] at h
    cases h
/-- What New answers: a map, or ErrRange. -/
def NewPost (w : World) (ks : List Int) (e : Ending) (w' : World) : Prop :=
  (nwO ks = true → ∃ b, e = .returned (.tuple #[.pointer (some ⟨b, 0, none⟩), .int .i64 0]) ∧ Bmp w' b (fun _ => False) (num ks) (fun _ => []) ∧ w.heap.size ≤ b) ∧
  (nwO ks = false → e = .returned (.tuple #[.pointer none, .int .i64 28])) ∧ Below w.heap.size w w'
set_option maxRecDepth 100000 in
set_option maxHeartbeats 4000000 in
theorem rnew_any (a : Option Addr) (n c : Nat) (ks : List Int) (w : World) (h : Ins w a n ks) (hn : n ≤ 1000000000) :
    Calls Try.prog 12 #[.slice a n c] w (NewPost w ks) := by
  have hl := h.len
  subst hl
  by_cases h1 : 828 < ks.length
  · have e : nwO ks = false := by rw [nwO, decide_eq_false (by omega)]; rfl
    have k1 : (828 : Int) < (ks.length : Int) := by omega
    have HE := Lib.hid e
    clear h h1 e
    go_enter Try.func12, Try.ntmps12
    go_wp2_with (fail)
    go_ret2
    exact ⟨(fun h => by rw [HE.out] at h; cases h), (fun _ => rfl), Below.refl _ _⟩
  · have hz := zero_map
    have HI := Lib.hid h
    have H1 := Lib.hid h1
    have k1 : ¬ (828 : Int) < (ks.length : Int) := by omega
    clear h h1
    go_enter Try.func12, Try.ntmps12
    go_upto_region 4 with fail
    obtain ⟨wa, hwa⟩ : ∃ wa, wa = w.alloc (.cells zrC 66) := ⟨_, rfl⟩
    have HM0 := Lib.hid (show Bmp wa w.heap.size (fun _ => False) (nwA ks 0) (fun _ => []) by
      rw [hwa, show nwA ks 0 = fun _ => 0 by funext i; simp [nwA]]; exact bmp_new w)
    have HB0 := Lib.hid (show Below w.heap.size w wa by rw [hwa]; exact (Below.refl _ _).alloc (Nat.le_refl _) _)
    rw [← hwa]
    clear hwa
    go_wp2_with (fail)
    go_loopw [5] (fun v wr => ∃ k : Nat, k ≤ ks.length ∧ v = .int .i64 k ∧ (∀ i, i < k → ptO (num ks i) = true) ∧ Bmp wr w.heap.size (fun _ => False) (nwA ks k) (fun _ => []) ∧ Below w.heap.size w wr) (fun v _ => ks.length - (RowKit.intOf v).toNat)
    case atStart => exact ⟨0, by omega, rfl, (fun i hi => by omega), HM0.out, HB0.out⟩
    case round =>
      obtain ⟨k, hk, rfl, hP, hM, hB⟩ := hrel
      have HP := Lib.hid hP
      have HM := Lib.hid hM
      have HB := Lib.hid hB
      clear hP hM hB HM0 HB0
      by_cases hlt : k < ks.length
      · obtain ⟨b, off, rfl, hbl, hcs⟩ := (HI.out.next HB.out).at (by omega : 0 < ks.length)
        have hc1 := hcs k hlt
        obtain ⟨z, hz2⟩ : ∃ z, z = num ks k := ⟨_, rfl⟩
        rw [← hz2] at hc1
        have HZ := Lib.hid hz2
        clear hcs hz2
        by_cases hz0 : z < 0
        · have hno := Lib.hid (show nwO ks = false from nwO_no hlt (by rw [← HZ.out]; exact decide_eq_false (by omega)))
          go_wp2_with (fail)
          go_ret2
          exact ⟨(fun h => by rw [hno.out] at h; cases h), (fun _ => rfl), HB.out⟩
        · by_cases hz1 : 65535 < z
          · have hno := Lib.hid (show nwO ks = false from nwO_no hlt (by rw [← HZ.out]; exact decide_eq_false (by omega)))
            go_wp2_with (fail)
            go_ret2
            exact ⟨(fun h => by rw [hno.out] at h; cases h), (fun _ => rfl), HB.out⟩
          · have hpo := Lib.hid (show ptO z = true from decide_eq_true (by omega))
            have hk828 : k < 828 := by have := H1.out; omega
            have c2 := HM.out.ad hk828
            have f2 := HM.out.fr k
            have l2 := HM.out.lt
            go_upto_region 9 with fail
            go_region
            go_wp2_with (fail)
            have hM2 := HM.out.setA hk828 z
            rw [HZ.out, nwA_upd, ← HZ.out] at hM2
            have hM3 := hM2.next (below_drewN (Below.refl _ _) 1)
            have hB3 := below_drewN (HB.out.setCell (p := ⟨w.heap.size, k, none⟩) (Nat.le_refl _) (.int .i64 z)) 1
            refine ⟨⟨k + 1, by omega, by go_num, (fun i hi => ?_), hM3, hB3⟩, by simp [RowKit.intOf]; omega⟩
            by_cases hik : i = k
            · rw [hik, ← HZ.out, hpo.out]
            · exact HP.out i (by omega)
      · obtain rfl : k = ks.length := by omega
        have hok := Lib.hid (show nwO ks = true by rw [nwO, decide_eq_true (by have := H1.out; omega), all_pt.2 HP.out]; rfl)
        go_wp2_with (fail)
        go_ret2
        exact ⟨(fun _ => ⟨_, rfl, by rw [← nwA_all]; exact HM.out, Nat.le_refl _⟩), (fun h => by rw [hok.out] at h; cases h), HB.out⟩
end Go.Proofs.Ytgedgkdnjnbijaa
