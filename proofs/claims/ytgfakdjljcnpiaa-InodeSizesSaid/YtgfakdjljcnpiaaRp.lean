/-
  The document's Put of a record, by contract.
-/
import Derived.Test.YtgfakdjljcnpiaaRr
import Derived.Test.YtgfakdjljcnpiaaPu
namespace Go.Proofs.Ytgfakdjljcnpiaa
open Go.RowKit
set_option linter.unusedVariables false
set_option linter.unusedSimpArgs false

/-- A slice's length. -/
def lenV : Value → Nat
  | .slice _ n _ => n
  | _ => 0
theorem rput_d (m : Nat) (p : Int) (w : World) (h1 : 1 ≤ m) (h4 : m ≤ 4) (hp : hasW p m = true) :
    Calls Try.prog 33 #[.int .i64 m, .int .i64 p] w fun e w' => ∃ a c, e = .returned (.slice a m c) ∧ Bys w' a m (digs m p) ∧ (a = none → m = 0 ∧ c = 0) ∧ Below w.heap.size w w' := by
  have hb := hasW_bd (n := p) (k := (m : Int)) hp (by omega) (by omega)
  refine (refPut_fun m p w (by omega)).mono fun e w' ⟨a, c, he, hs⟩ => ?_
  have e1 : putL m p = digs m p := putL_yes h1 h4 hp
  have e2 := hs.bys
  have e3 := hs.nil
  rw [e1, digs_len] at he e2 e3
  exact ⟨a, c, he, e2, e3, hs.bel⟩
theorem recB_pad (f : Nat → Int) (k : Nat) (h : k ≤ 13) : (recP f 18 ++ Z k) ++ [0] = recP f 18 ++ Z (k + 1) := by
  rw [List.append_assoc, Z, Z, List.replicate_succ']
theorem pad_zero (z : List Int) : z ++ Z 0 = z := by simp [Z]
set_option maxHeartbeats 4000000 in
theorem rput_yesR (f : Nat → Int) (w : World) (hr : RgR f) : Calls Try.prog 12 #[rcv f] w (RetT w (recB f) true) := by
  obtain ⟨wa, hwa⟩ : ∃ wa, wa = w.alloc (.cells (rcs f) 24) := ⟨_, rfl⟩
  have hR : Rcb wa w.heap.size f := by rw [hwa]; exact Rcb.mk' w f
  have hB : Below w.heap.size w wa := by rw [hwa]; exact (Below.refl _ _).alloc (Nat.le_refl _) _
  have hrt := rright_any f wa
  rw [rgO_iff.2 hr] at hrt
  have HRR := Lib.hid hr
  have HR := Lib.hid hR
  have HB := Lib.hid hB
  have HW := Lib.hid hwa
  clear hr hR hB hwa
  go_enter Try.func12, Try.ntmps12
  go_upto_region 1 with fail
  rw [← HW.out]
  go_wp2_with (refine wpList_ldR (by rfl) (.tmp 1) rfl w.heap.size rfl f HR.out ?_)
  refine hrt.mono ?_
  rintro e wb ⟨rfl, hb⟩
  have HRb := Lib.hid (HR.out.next hb)
  have HBb := Lib.hid (HB.out.trans (hb.mono HB.out.size))
  clear hb hrt HR HB HW
  go_upto_region 4 with fail
  have HO0 := Lib.hid (own_none wb wb.heap.size (Nat.le_refl _))
  have HC0 := Lib.hid ((Below.refl wb.heap.size wb).alloc (Nat.le_refl _) (.cells #[] 5))
  obtain ⟨w0, hw0⟩ : ∃ w0, w0 = wb.alloc (.cells #[] 5) := ⟨_, rfl⟩
  rw [← hw0] at HO0 HC0 ⊢
  clear hw0
  have y := (HRb.out.below HRb.out.lt HC0.out).cell (i := 0) (by omega)
  obtain ⟨q, hq⟩ : ∃ q, q = f (0) := ⟨_, rfl⟩
  rw [← hq] at y
  have HQ := Lib.hid hq
  clear hq
  go_wp2_with (fail)
  refine (rput_d 1 q _ (by omega) (by omega) (hasW1' (by rw [HQ.out]; have := HRR.out.kind; omega))).mono ?_
  rintro e wx ⟨a, c, rfl, hy, hnil, hl⟩
  have ho := HO0.out.below (Nat.le_refl _) hl
  have hc := HC0.out.trans (hl.mono HC0.out.size)
  have hs := hc.size
  clear hl y
  go_upto_region 5 with (at_builtin; go_must (refine wpList_ap rfl (.tmp 10) (.tmp 13) rfl wb.heap.size _ (0) _ rfl ho a 1 c _ rfl hy hnil (by omega) hs wb hc ?_); intro v w1 o b; have HO1 := Lib.hid (show Own w1 wb.heap.size v (1) (digs 1 (f 0)) by rw [← HQ.out]; exact o); have HC1 := Lib.hid b; clear o b ho hy hnil hc hs)
  clear HQ HO0 HC0
  have y := (HRb.out.below HRb.out.lt HC1.out).cell (i := 1) (by omega)
  obtain ⟨q, hq⟩ : ∃ q, q = f (1) := ⟨_, rfl⟩
  rw [← hq] at y
  have HQ := Lib.hid hq
  clear hq
  go_wp2_with (fail)
  refine (rput_d 2 q _ (by omega) (by omega) (hasW2_of (by rw [HQ.out]; have := HRR.out.l1; have := HRR.out.l2; omega))).mono ?_
  rintro e wx ⟨a, c, rfl, hy, hnil, hl⟩
  have ho := HO1.out.below (Nat.le_refl _) hl
  have hc := HC1.out.trans (hl.mono HC1.out.size)
  have hs := hc.size
  clear hl y
  go_upto_region 6 with (at_builtin; go_must (refine wpList_ap rfl (.tmp 15) (.tmp 18) rfl wb.heap.size _ (1) _ rfl ho a 2 c _ rfl hy hnil (by omega) hs wb hc ?_); intro v w2 o b; have HO2 := Lib.hid (show Own w2 wb.heap.size v (3) (digs 1 (f 0) ++ digs 2 (f 1)) by rw [← HQ.out]; exact o); have HC2 := Lib.hid b; clear o b ho hy hnil hc hs)
  clear HQ HO1 HC1
  have y := (HRb.out.below HRb.out.lt HC2.out).cell (i := 2) (by omega)
  obtain ⟨q, hq⟩ : ∃ q, q = f (2) := ⟨_, rfl⟩
  rw [← hq] at y
  have HQ := Lib.hid hq
  clear hq
  go_wp2_with (fail)
  refine (rput_d 4 q _ (by omega) (by omega) (hasW4' (by rw [HQ.out]; have := HRR.out.s0; have := HRR.out.s1; omega))).mono ?_
  rintro e wx ⟨a, c, rfl, hy, hnil, hl⟩
  have ho := HO2.out.below (Nat.le_refl _) hl
  have hc := HC2.out.trans (hl.mono HC2.out.size)
  have hs := hc.size
  clear hl y
  go_upto_region 7 with (at_builtin; go_must (refine wpList_ap rfl (.tmp 20) (.tmp 23) rfl wb.heap.size _ (3) _ rfl ho a 4 c _ rfl hy hnil (by omega) hs wb hc ?_); intro v w3 o b; have HO3 := Lib.hid (show Own w3 wb.heap.size v (7 + 2 * 0) (recP f 0) by rw [recP, ptsL, List.append_nil, hdL, ← HQ.out]; exact o); have HC3 := Lib.hid b; clear o b ho hy hnil hc hs)
  clear HQ HO2 HC2
  go_wp2_with (fail)
  go_loopw [4, 5] (fun u v wr => ∃ k : Nat, k ≤ 16 ∧ v = .int .i64 k ∧ Own wr wb.heap.size u (7 + 2 * k) (recP f k) ∧ Below wb.heap.size wb wr) (fun _ v _ => 16 - (RowKit.intOf v).toNat)
  case atStart => exact ⟨0, by omega, rfl, HO3.out, HC3.out⟩
  case round =>
    obtain ⟨k, hk, rfl, hO, hC⟩ := hrel
    have HO4 := Lib.hid hO
    have HC4 := Lib.hid hC
    clear hO hC HO3 HC3
    by_cases hlt : k < 16
    · have hk18 : k < 18 := by omega
      have y := (HRb.out.below HRb.out.lt HC4.out).cell (i := 3 + k) (by omega)
      obtain ⟨q, hq⟩ : ∃ q, q = f (3 + k) := ⟨_, rfl⟩
      rw [← hq] at y
      have HQ := Lib.hid hq
      clear hq
      go_wp2_with (fail)
      refine (rput_d 2 q _ (by omega) (by omega) (hasW2_of (by rw [HQ.out]; exact HRR.out.pt (i := k) (by omega)))).mono ?_
      rintro e wx ⟨a, c, rfl, hy, hnil, hl⟩
      have ho := HO4.out.below (Nat.le_refl _) hl
      have hc := HC4.out.trans (hl.mono HC4.out.size)
      have hs := hc.size
      clear hl y
      go_wp2_with (at_builtin; go_must (refine wpList_ap rfl (.tmp 29) (.tmp 34) rfl wb.heap.size _ (7 + 2 * k) _ rfl ho a 2 c _ rfl hy hnil (by omega) hs wb hc ?_); intro v w5 o b; have HO5 := Lib.hid (show Own w5 wb.heap.size v (7 + 2 * (k + 1)) (recP f (k + 1)) by rw [recP_succ, ← HQ.out]; exact o); have HC5 := Lib.hid b; clear o b ho hy hnil hc hs)
      go_roundw
      case rel => exact ⟨k + 1, by omega, by go_num, HO5.out, HC5.out⟩
      case measure => simp [RowKit.intOf]; omega
    · obtain rfl : k = 16 := by omega
      go_upto_region 11 with fail
      have y := (HRb.out.below HRb.out.lt HC4.out).cell (i := 19) (by omega)
      obtain ⟨q, hq⟩ : ∃ q, q = f (19) := ⟨_, rfl⟩
      rw [← hq] at y
      have HQ := Lib.hid hq
      clear hq
      go_wp2_with (fail)
      refine (rput_d 2 q _ (by omega) (by omega) (hasW2_of (by rw [HQ.out]; exact HRR.out.pt (i := 16) (by omega)))).mono ?_
      rintro e wx ⟨a, c, rfl, hy, hnil, hl⟩
      have ho := HO4.out.below (Nat.le_refl _) hl
      have hc := HC4.out.trans (hl.mono HC4.out.size)
      have hs := hc.size
      clear hl y
      go_upto_region 12 with (at_builtin; go_must (refine wpList_ap rfl (.tmp 36) (.tmp 39) rfl wb.heap.size _ (7 + 2 * 16) _ rfl ho a 2 c _ rfl hy hnil (by omega) hs wb hc ?_); intro v w5 o b; have HO5 := Lib.hid (show Own w5 wb.heap.size v (7 + 2 * 17) (recP f 17) by rw [show (17 : Nat) = 16 + 1 from rfl, recP_succ, ← HQ.out]; exact o); have HC5 := Lib.hid b; clear o b ho hy hnil hc hs)
      clear HQ
      have y := (HRb.out.below HRb.out.lt HC5.out).cell (i := 20) (by omega)
      obtain ⟨q, hq⟩ : ∃ q, q = f (20) := ⟨_, rfl⟩
      rw [← hq] at y
      have HQ := Lib.hid hq
      clear hq
      go_wp2_with (fail)
      refine (rput_d 2 q _ (by omega) (by omega) (hasW2_of (by rw [HQ.out]; exact HRR.out.pt (i := 17) (by omega)))).mono ?_
      rintro e wx ⟨a, c, rfl, hy, hnil, hl⟩
      have ho := HO5.out.below (Nat.le_refl _) hl
      have hc := HC5.out.trans (hl.mono HC5.out.size)
      have hs := hc.size
      clear hl y
      go_wp2_with (at_builtin; go_must (refine wpList_ap rfl (.tmp 41) (.tmp 44) rfl wb.heap.size _ (7 + 2 * 17) _ rfl ho a 2 c _ rfl hy hnil (by omega) hs wb hc ?_); intro v w6 o b; have HO6 := Lib.hid (show Own w6 wb.heap.size v (43 + 0) (recP f 18 ++ Z 0) by rw [pad_zero, show (18 : Nat) = 17 + 1 from rfl, recP_succ, ← HQ.out]; exact o); have HC6 := Lib.hid b; clear o b ho hy hnil hc hs)
      clear HQ
      go_loopw [4] (fun u wr => ∃ k : Nat, k ≤ 13 ∧ Own wr wb.heap.size u (43 + k) (recP f 18 ++ Z k) ∧ Below wb.heap.size wb wr) (fun u _ => 56 - lenV u)
      case atStart => exact ⟨0, by omega, HO6.out, HC6.out⟩
      case round =>
        obtain ⟨k, hk, hO, hC⟩ := hrel
        have HO7 := Lib.hid hO
        have HC7 := Lib.hid hC
        obtain ⟨a8, c8, rfl, hp8, _⟩ := hO.pin
        have hs8 := hC.size
        clear hO hC HO6 HC6
        by_cases hlt : k < 13
        · go_wp2_with (at_builtin; go_must (refine wpList_ap rfl (.tmp 49) (.tmp 50) rfl wb.heap.size _ (43 + k) _ rfl (HO7.out.below (Nat.le_refl _) ((Below.refl _ _).alloc (Nat.le_refl _) _)) _ 1 1 [0] rfl (bys_one wr (by omega)) (fun h => by cases h) (by omega) (by simp; omega) wb (HC7.out.alloc hs8 _) ?_); intro v9 w9 ho9 hb9)
          obtain ⟨a9, c9, rfl, hp9, _⟩ := ho9.pin
          go_roundw
          case rel => exact ⟨k + 1, by omega, by rw [← recB_pad f k (by omega)]; exact ho9, hb9⟩
          case measure => simp [lenV]; omega
        · obtain rfl : k = 13 := by omega
          go_wp2_with (fail)
          go_ret2
          exact ⟨_, _, _, rfl, by rw [recB_eq]; exact hp8, HBb.out.trans (HC7.out.mono HBb.out.size)⟩
theorem rput_noR (f : Nat → Int) (w : World) (hr : rgO f = false) : Calls Try.prog 12 #[rcv f] w (RetT w [] false) := by
  obtain ⟨wa, hwa⟩ : ∃ wa, wa = w.alloc (.cells (rcs f) 24) := ⟨_, rfl⟩
  have hR : Rcb wa w.heap.size f := by rw [hwa]; exact Rcb.mk' w f
  have hB : Below w.heap.size w wa := by rw [hwa]; exact (Below.refl _ _).alloc (Nat.le_refl _) _
  have hrt := rright_any f wa
  rw [hr] at hrt
  have HR := Lib.hid hR
  have HB := Lib.hid hB
  have HW := Lib.hid hwa
  clear hr hR hB hwa
  go_enter Try.func12, Try.ntmps12
  go_upto_region 1 with fail
  rw [← HW.out]
  go_wp2_with (refine wpList_ldR (by rfl) (.tmp 1) rfl w.heap.size rfl f HR.out ?_)
  refine hrt.mono ?_
  rintro e wb ⟨rfl, hb⟩
  have HBb := Lib.hid (HB.out.trans (hb.mono HB.out.size))
  clear hb hrt HR HB HW
  go_wp2_with (fail)
  go_ret2
  exact ⟨_, _, _, rfl, Pin.zero _, HBb.out⟩
theorem rputR_any (f : Nat → Int) (w : World) : Calls Try.prog 12 #[rcv f] w (RetT w (ruB f) (rgO f)) := by
  cases hr : rgO f with
  | true => rw [ruB, hr, if_pos rfl]; exact rput_yesR f w (rgO_iff.1 hr)
  | false => rw [ruB, hr]; exact rput_noR f w hr
end Go.Proofs.Ytgfakdjljcnpiaa
