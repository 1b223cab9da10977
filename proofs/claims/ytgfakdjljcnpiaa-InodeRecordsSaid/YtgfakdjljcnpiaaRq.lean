/-
  The document's PutPointers and GetPointers, by contract.
-/
import Derived.Test.YtgfakdjljcnpiaaRp
namespace Go.Proofs.Ytgfakdjljcnpiaa
open Go.RowKit
set_option linter.unusedVariables false
set_option linter.unusedSimpArgs false

theorem ppO_no {ks : List Int} {k : Nat} (hk : k < ks.length) (h : ptO (num ks k) = false) : ppO ks = false := by
  cases hh : ppO ks with
  | false => rfl
  | true =>
    simp only [ppO, Bool.and_eq_true] at hh
    rw [all_pt.1 hh.2 k hk] at h
    cases h
theorem pp_pad (ks : List Int) (z : List Int) (k : Nat) : (z ++ Z k) ++ [0] = z ++ Z (k + 1) := by
  rw [List.append_assoc, Z, Z, List.replicate_succ']
set_option maxHeartbeats 4000000 in
theorem rputP_any (a : Option Addr) (n c : Nat) (ks : List Int) (w : World) (h : Ins w a n ks) (hn : n ≤ 1000000) :
    Calls Try.prog 18 #[.slice a n c] w (RetT w (ppF ks) (ppO ks)) := by
  have hl := h.len
  subst hl
  by_cases h1 : 28 < ks.length
  · have e : ppO ks = false := by rw [ppO, decide_eq_false (by omega)]; rfl
    rw [ppF, e]
    clear e
    go_enter Try.func18, Try.ntmps18
    go_wp2
    go_ret2
    exact ⟨_, _, _, rfl, Pin.zero _, Below.refl _ _⟩
  · have HI := Lib.hid h
    clear h
    go_enter Try.func18, Try.ntmps18
    go_wp2_with (fail)
    have HO0 := Lib.hid (own_none w w.heap.size (Nat.le_refl _))
    have HC0 := Lib.hid ((Below.refl w.heap.size w).alloc (Nat.le_refl _) (.cells #[] 5))
    go_loopw [4, 5] (fun u v wr => ∃ k : Nat, k ≤ ks.length ∧ v = .int .i64 k ∧ (∀ i, i < k → ptO (num ks i) = true) ∧ Own wr w.heap.size u (2 * k) (ptsL (num ks) k) ∧ Below w.heap.size w wr) (fun _ v _ => ks.length - (RowKit.intOf v).toNat)
    case atStart => exact ⟨0, by omega, rfl, (fun i hi => by omega), HO0.out, HC0.out⟩
    case round =>
      obtain ⟨k, hk, rfl, hP, hO, hC⟩ := hrel
      have HP := Lib.hid hP
      have HO := Lib.hid hO
      have HC := Lib.hid hC
      clear hP hO hC HO0 HC0
      by_cases hlt : k < ks.length
      · obtain ⟨b, off, rfl, hbl, hcs⟩ := (HI.out.next HC.out).at (by omega : 0 < ks.length)
        have hc1 := hcs k hlt
        obtain ⟨z, hz⟩ : ∃ z, z = num ks k := ⟨_, rfl⟩
        rw [← hz] at hc1
        have hpt := rpointer_any z wr
        have HZ := Lib.hid hz
        clear hcs hz
        cases hpo : ptO z with
        | false =>
          rw [hpo] at hpt
          go_wp2_with (fail)
          refine hpt.mono ?_
          rintro e w2 ⟨rfl, rfl⟩
          go_wp2_with (fail)
          go_ret2
          have e : ppO ks = false := ppO_no hlt (by rw [← HZ.out, hpo])
          rw [ppF, e]
          exact ⟨_, _, _, rfl, Pin.zero _, HC.out⟩
        | true =>
          rw [hpo] at hpt
          go_wp2_with (fail)
          refine hpt.mono ?_
          rintro e w2 ⟨rfl, rfl⟩
          have HT := Lib.hid (ptO_iff.1 hpo)
          clear hpt
          go_wp2_with (fail)
          refine (rput_d 2 z _ (by omega) (by omega) (hasW2_of HT.out)).mono ?_
          rintro e wx ⟨a, c2, rfl, hy, hnil, hl⟩
          have ho := HO.out.below (Nat.le_refl _) hl
          have hc := HC.out.trans (hl.mono HC.out.size)
          have hs := hc.size
          clear hl
          go_wp2_with (at_builtin; go_must (refine wpList_ap rfl (.tmp 22) (.tmp 27) rfl w.heap.size _ (2 * k) _ rfl ho a 2 c2 _ rfl hy hnil (by omega) hs w hc ?_); intro v w3 o b; have HO3 := Lib.hid o; have HC3 := Lib.hid b; clear o b ho hy hnil hc hs)
          go_roundw
          case rel => exact ⟨k + 1, by omega, by go_num, (fun i hi => by
            by_cases hik : i = k
            · rw [hik, ← HZ.out, hpo]
            · exact HP.out i (by omega)), by rw [ptsL, ← HZ.out]; exact HO3.out, HC3.out⟩
          case measure => simp [RowKit.intOf]; omega
      · obtain rfl : k = ks.length := by omega
        have e : ppO ks = true := by rw [ppO, decide_eq_true (by omega), all_pt.2 HP.out]; rfl
        have HE := Lib.hid e
        have HO1 := Lib.hid (show Own wr w.heap.size _ (2 * ks.length + 0) (ptsL (num ks) ks.length ++ Z 0) by rw [pad_zero]; exact HO.out)
        clear e HO HP
        go_wp2_with (fail)
        go_loopw [4] (fun u wq => ∃ k : Nat, 2 * ks.length + k ≤ 56 ∧ Own wq w.heap.size u (2 * ks.length + k) (ptsL (num ks) ks.length ++ Z k) ∧ Below w.heap.size w wq) (fun u _ => 56 - lenV u)
        case atStart => exact ⟨0, by omega, HO1.out, HC.out⟩
        case round =>
          obtain ⟨k, hk, hO, hC⟩ := hrel
          have HO7 := Lib.hid hO
          have HC7 := Lib.hid hC
          obtain ⟨a8, c8, rfl, hp8, _⟩ := hO.pin
          have hs8 := hC.size
          clear hO hC HO1
          by_cases hlt : 2 * ks.length + k < 56
          · go_wp2_with (at_builtin; go_must (refine wpList_ap rfl (.tmp 32) (.tmp 33) rfl w.heap.size _ (2 * ks.length + k) _ rfl (HO7.out.below (Nat.le_refl _) ((Below.refl _ _).alloc (Nat.le_refl _) _)) _ 1 1 [0] rfl (bys_one _ (by omega)) (fun h => by cases h) (by omega) (by simp; omega) w (HC7.out.alloc hs8 _) ?_); intro v9 w9 ho9 hb9)
            obtain ⟨a9, c9, rfl, hp9, _⟩ := ho9.pin
            go_roundw
            case rel => exact ⟨k + 1, by omega, by rw [← pp_pad ks]; exact ho9, hb9⟩
            case measure => simp [lenV]; omega
          · have hk2 : k = 56 - 2 * ks.length := by omega
            have HK := Lib.hid hk2
            clear hk2
            go_wp2_with (fail)
            go_ret2
            rw [ppF, HE.out, if_pos rfl, ppL_eq (by omega), ← HK.out]
            exact ⟨_, _, _, rfl, hp8, HC7.out⟩
set_option maxHeartbeats 4000000 in
theorem rgetP_any (a : Option Addr) (n c : Nat) (x : List Int) (w : World) (h : Bys w a n x) (hn : n ≤ 1000000) :
    Calls Try.prog 20 #[.slice a n c] w (RetK w (gpF x) (decide (x.length = 56))) := by
  have hl := h.len
  subst hl
  by_cases h1 : x.length = 56
  · rw [gpF, if_pos h1, decide_eq_true h1]
    have HX := Lib.hid h
    have HL := Lib.hid h1
    clear h
    rw [h1]
    clear h1
    go_enter Try.func20, Try.ntmps20
    go_wp2_with (fail)
    have HO0 := Lib.hid (ownI_none w w.heap.size (Nat.le_refl _))
    have HC0 := Lib.hid ((Below.refl w.heap.size w).alloc (Nat.le_refl _) (.cells #[] 3))
    go_loopw [4, 5, 6, 7] (fun u v _p _q wr => ∃ k : Nat, k ≤ 28 ∧ v = .int .i64 k ∧ OwnI wr w.heap.size u k (gpL x k) ∧ Below w.heap.size w wr) (fun _ v _ _ _ => 28 - (RowKit.intOf v).toNat)
    case atStart => exact ⟨0, by omega, rfl, HO0.out, HC0.out⟩
    case round =>
      obtain ⟨k, hk, rfl, hO, hB⟩ := hrel
      have HO := Lib.hid hO
      have HB := Lib.hid hB
      clear hO hB HO0 HC0
      by_cases hlt : k < 28
      · have hxr := HX.out.next HB.out
        have hget := refGet_fun a x.length c ((2 * k : Nat) : Int) 2 x wr hxr (by omega)
        rw [HL.out] at hget
        obtain ⟨z, hz⟩ : ∃ z, z = getV x.length x ((2 * k : Nat) : Int) 2 := ⟨_, rfl⟩
        have hz2 := hz
        rw [HL.out] at hz2
        rw [← hz2] at hget
        have HZ := Lib.hid hz
        have w1 : IntKind.i64.wrap (2 * (k : Int)) = ((2 * k : Nat) : Int) := by rw [show 2 * (k : Int) = ((2 * k : Nat) : Int) by omega]; exact IntWalk.i64_in _ (by omega)
        have hs := HB.out.size
        clear hxr hz hz2
        go_wp2_with (fail)
        refine hget.mono ?_
        rintro e w2 ⟨rfl, rfl⟩
        go_wp2_with (at_builtin; go_must (refine wpList_api rfl (.tmp 23) (.tmp 25) rfl w.heap.size _ k _ rfl (HO.out.alloc _) wr.heap.size z rfl (by simp) (by omega) (by simp; omega) w (HB.out.alloc hs _) ?_); intro v3 w3 o b; have HO3 := Lib.hid o; have HB3 := Lib.hid b; clear o b)
        go_roundw
        case rel => exact ⟨k + 1, by omega, by go_num, by rw [gpL, ← HZ.out]; exact HO3.out, HB3.out⟩
        case measure => simp [RowKit.intOf]; omega
      · obtain rfl : k = 28 := by omega
        obtain ⟨a', c', rfl, hi, hc, hm, hnew⟩ := HO.out.ins
        have HIN := Lib.hid hi
        clear hi HO
        go_wp2_with (fail)
        go_ret2
        refine ⟨a', c', ?_, ?_, ?_, ?_, HB.out⟩
        · rw [gpL_len]; rfl
        · rw [gpL_len]; exact HIN.out
        · intro h
          rcases HIN.out.place with h0 | ⟨b, off, e, _⟩
          · omega
          · rw [h] at e; cases e
        · rw [gpL_len]; exact hc
  · rw [gpF, if_neg h1, decide_eq_false h1]
    have d1 : ((x.length : Int) != 56) = true := by simp; omega
    clear h
    go_enter Try.func20, Try.ntmps20
    go_wp2
    go_ret2
    exact ⟨_, _, rfl, ⟨rfl, .inl rfl⟩, (fun _ => ⟨rfl, rfl⟩), Nat.le_refl _, Below.refl _ _⟩
end Go.Proofs.Ytgfakdjljcnpiaa
