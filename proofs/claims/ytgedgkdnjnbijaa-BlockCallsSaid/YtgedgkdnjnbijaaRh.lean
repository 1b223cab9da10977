/-
  The document's Move, Fresh and There, by contract.
-/
import Derived.Test.YtgedgkdnjnbijaaRe
namespace Go.Proofs.Ytgedgkdnjnbijaa
open Go.RowKit
set_option linter.unusedVariables false
set_option linter.unusedSimpArgs false

/-- What Move leaves. -/
def MovePost (w : World) (b : Nat) (G : Nat → Prop) (A : Nat → Int) (X : Nat → List Int) (f t : Int) (e : Ending) (w' : World) : Prop :=
  e = .returned (.int .i64 (if moO f t then mvN A f 828 else 0)) ∧ Turn (· = b) w w' ∧ Bmp w' b G (if moO f t then mvA A f t 828 else A) X
theorem move_no {w : World} {b : Nat} {G : Nat → Prop} {A : Nat → Int} {X : Nat → List Int} {f t : Int} (h : moO f t = false) (hm : Bmp w b G A X) : MovePost w b G A X f t (.returned (.int .i64 0)) w := by
  refine ⟨by rw [h]; rfl, Turn.refl _ _, by rw [h]; exact hm⟩
set_option maxRecDepth 10000 in
set_option maxHeartbeats 4000000 in
theorem rmove_any (b : Nat) (G : Nat → Prop) (A : Nat → Int) (X : Nat → List Int) (f t : Int) (w : World) (h : Bmp w b G A X) :
    Calls Try.prog 35 #[.pointer (some ⟨b, 0, none⟩), .int .i64 f, .int .i64 t] w (MovePost w b G A X f t) := by
  have HM := Lib.hid h
  by_cases f0 : f < 1
  · have HN := Lib.hid (move_no (f := f) (t := t) (decide_eq_false (by omega)) h)
    clear h
    go_enter Try.func35, Try.ntmps35
    go_wp2_with (fail)
    refine wp_loop_rounds 2 ?_
    rw [rounds_succ]
    go_wp2_with (fail)
    go_ret
    exact HN.out
  · by_cases t0 : t < 1
    · have HN := Lib.hid (move_no (f := f) (t := t) (decide_eq_false (by omega)) h)
      clear h
      go_enter Try.func35, Try.ntmps35
      go_wp2_with (fail)
      refine wp_loop_rounds 2 ?_
      rw [rounds_succ]
      go_wp2_with (fail)
      go_ret
      exact HN.out
    · by_cases t1 : 65535 < t
      · have HN := Lib.hid (move_no (f := f) (t := t) (decide_eq_false (by omega)) h)
        clear h
        go_enter Try.func35, Try.ntmps35
        go_wp2_with (fail)
        refine wp_loop_rounds 2 ?_
        rw [rounds_succ]
        go_wp2_with (fail)
        go_ret
        exact HN.out
      · have HOK := Lib.hid (show moO f t = true from decide_eq_true (by omega))
        clear h
        go_enter Try.func35, Try.ntmps35
        go_wp2_with (fail)
        go_loopw [7, 8] (fun u v wr => ∃ k : Nat, k ≤ 828 ∧ v = .int .i64 k ∧ u = .int .i64 (mvN A f k) ∧ Turn (· = b) w wr ∧ Bmp wr b G (mvA A f t k) X) (fun _ v _ => 828 - (RowKit.intOf v).toNat)
        case atStart => exact ⟨0, by omega, rfl, rfl, Turn.refl _ _, by rw [mvA_zero]; exact HM.out⟩
        case round =>
          obtain ⟨k, hk, rfl, rfl, hT, hMk⟩ := hrel
          have HT := Lib.hid hT
          have HK := Lib.hid hMk
          clear hT hMk
          by_cases hlt : k < 828
          · have c1 := HK.out.ad hlt
            rw [mvA_at] at c1
            have f1 := HK.out.fr k
            have l1 := HK.out.lt
            obtain ⟨z, hz⟩ : ∃ z, z = A k := ⟨_, rfl⟩
            obtain ⟨m, hm⟩ : ∃ z, z = mvN A f k := ⟨_, rfl⟩
            have hbd := mvN_bd A f k
            rw [← hm] at hbd ⊢
            rw [← hz] at c1
            have HZ := Lib.hid hz
            have HMM := Lib.hid hm
            have w1 : IntKind.i64.wrap (m + 1) = m + 1 := IntWalk.i64_in _ (by omega)
            clear hz hm hbd
            by_cases he : z = f
            · have d1 : (z == f) = true := by simp [he]
              have h2 := HK.out.setA hlt t
              rw [mvA_yes (by rw [← HZ.out, he])] at h2
              have HK2 := Lib.hid h2
              have HT2 := Lib.hid (HT.out.trans (turn_set wr b k (.int .i64 t)))
              have HE := Lib.hid (show m + 1 = mvN A f (k + 1) by rw [mvN, ← HMM.out, ← HZ.out, if_pos he])
              clear h2 he
              go_wp2_with (fail)
              go_roundw
              case rel => exact ⟨k + 1, by omega, by go_num, by rw [← HE.out], HT2.out, HK2.out⟩
              case measure => simp [RowKit.intOf]; omega
            · have d1 : (z == f) = false := by simp [he]
              have h2 := HK.out
              rw [mvA_no (by rw [← HZ.out]; exact he)] at h2
              have HK2 := Lib.hid h2
              have HE := Lib.hid (show m = mvN A f (k + 1) by rw [mvN, ← HMM.out, ← HZ.out, if_neg he]; omega)
              clear h2 he
              go_wp2_with (fail)
              go_roundw
              case rel => exact ⟨k + 1, by omega, by go_num, by rw [← HE.out], HT.out, HK2.out⟩
              case measure => simp [RowKit.intOf]; omega
          · obtain rfl : k = 828 := by omega
            go_wp2_with (fail)
            go_ret
            exact ⟨by rw [HOK.out]; rfl, HT.out, by rw [HOK.out]; exact HK.out⟩
/-- Numbers of the call's own that are answered. -/
def SelPost (w : World) (ks : List Int) (e : Ending) (w' : World) : Prop := ∃ a c, e = .returned (.slice a ks.length c) ∧ Ins w' a ks.length ks ∧ (∀ x, a = some x → w.heap.size ≤ x.block ∧ x.block < w'.heap.size) ∧ Below w.heap.size w w'
theorem SelPost.own {w w' : World} {v : Value} {n : Nat} {ks : List Int} (h : OwnI w' w.heap.size v n ks) (hb : Below w.heap.size w w') : SelPost w ks (.returned v) w' := by
  obtain ⟨a, c, rfl, hi, _, _, hx⟩ := h.ins
  have hl := hi.len
  subst hl
  exact ⟨a, c, rfl, hi, hx, hb⟩
set_option maxRecDepth 10000 in
set_option maxHeartbeats 4000000 in
theorem rfresh_any (b : Nat) (G : Nat → Prop) (A : Nat → Int) (X : Nat → List Int) (w : World) (h : Bmp w b G A X) :
    Calls Try.prog 36 #[.pointer (some ⟨b, 0, none⟩)] w (SelPost w (selL (freP X) 828)) := by
  have HM := Lib.hid h
  clear h
  go_enter Try.func36, Try.ntmps36
  go_wp2_with (fail)
  have HO0 := Lib.hid (ownI_none w w.heap.size (Nat.le_refl _))
  have HC0 := Lib.hid ((Below.refl w.heap.size w).alloc (Nat.le_refl _) (.cells #[] 3))
  go_loopw [3, 4] (fun u v wr => ∃ k n : Nat, k ≤ 828 ∧ n ≤ k ∧ v = .int .i64 k ∧ OwnI wr w.heap.size u n (selL (freP X) k) ∧ Below w.heap.size w wr) (fun _ v _ => 828 - (RowKit.intOf v).toNat)
  case atStart => exact ⟨0, 0, by omega, by omega, rfl, HO0.out, HC0.out⟩
  case round =>
    obtain ⟨k, n, hk, hn, rfl, hO, hB⟩ := hrel
    have HO := Lib.hid hO
    have HB := Lib.hid hB
    clear hO hB HO0 HC0
    by_cases hlt : k < 828
    · obtain ⟨a9, n9, c9, c1, hp, _⟩ := (HM.out.next HB.out).sl hlt
      have hl := hp.len
      have hs := HB.out.size
      clear hp
      by_cases h0 : n9 = 0
      · subst h0
        have HE := Lib.hid (selL_no (freP_no (X := X) hl))
        clear hl
        go_wp2_with (fail)
        go_roundw
        case rel => exact ⟨k + 1, n, by omega, by omega, by go_num, by rw [HE.out]; exact HO.out, HB.out⟩
        case measure => simp [RowKit.intOf]; omega
      · have HE := Lib.hid (selL_yes (freP_yes (X := X) (by rw [hl]; omega)))
        have d1 : (0 : Int) < (n9 : Int) := by omega
        clear hl
        go_wp2_with (at_builtin; go_must (refine wpList_api rfl (.tmp 18) (.tmp 20) rfl w.heap.size _ n _ rfl (HO.out.alloc _) wr.heap.size (k : Int) rfl (by simp) (by omega) (by simp; omega) w (HB.out.alloc hs _) ?_); intro v3 w3 o b; have HO3 := Lib.hid o; have HB3 := Lib.hid b; clear o b)
        go_roundw
        case rel => exact ⟨k + 1, n + 1, by omega, by omega, by go_num, by rw [HE.out]; exact HO3.out, HB3.out⟩
        case measure => simp [RowKit.intOf]; omega
    · obtain rfl : k = 828 := by omega
      go_wp2_with (fail)
      go_ret
      exact SelPost.own HO.out HB.out
set_option maxRecDepth 10000 in
set_option maxHeartbeats 4000000 in
theorem rthere_any (b : Nat) (G : Nat → Prop) (A : Nat → Int) (X : Nat → List Int) (w : World) (h : Bmp w b G A X) :
    Calls Try.prog 37 #[.pointer (some ⟨b, 0, none⟩)] w (SelPost w (selL (theP A X) 828)) := by
  have HM := Lib.hid h
  clear h
  go_enter Try.func37, Try.ntmps37
  go_wp2_with (fail)
  have HO0 := Lib.hid (ownI_none w w.heap.size (Nat.le_refl _))
  have HC0 := Lib.hid ((Below.refl w.heap.size w).alloc (Nat.le_refl _) (.cells #[] 3))
  go_loopw [3, 4] (fun u v wr => ∃ k n : Nat, k ≤ 828 ∧ n ≤ k ∧ v = .int .i64 k ∧ OwnI wr w.heap.size u n (selL (theP A X) k) ∧ Below w.heap.size w wr) (fun _ v _ => 828 - (RowKit.intOf v).toNat)
  case atStart => exact ⟨0, 0, by omega, by omega, rfl, HO0.out, HC0.out⟩
  case round =>
    obtain ⟨k, n, hk, hn, rfl, hO, hB⟩ := hrel
    have HO := Lib.hid hO
    have HB := Lib.hid hB
    clear hO hB HO0 HC0
    by_cases hlt : k < 828
    · obtain ⟨a9, n9, c9, c1, hp, _⟩ := (HM.out.next HB.out).sl hlt
      have c2 := (HM.out.next HB.out).ad hlt
      obtain ⟨z, hz⟩ : ∃ z, z = A k := ⟨_, rfl⟩
      rw [← hz] at c2
      have HZ := Lib.hid hz
      have hl := hp.len
      have hs := HB.out.size
      clear hp hz
      by_cases h0 : n9 = 0
      · subst h0
        by_cases hz0 : 0 < z
        · have HE := Lib.hid (selL_yes (show theP A X k = true by rw [theP, ← HZ.out, decide_eq_true hz0, Bool.or_true]))
          clear hl
          go_wp2_with (at_builtin; go_must (refine wpList_api rfl (.tmp 27) (.tmp 29) rfl w.heap.size _ n _ rfl (HO.out.alloc _) wr.heap.size (k : Int) rfl (by simp) (by omega) (by simp; omega) w (HB.out.alloc hs _) ?_); intro v3 w3 o b; have HO3 := Lib.hid o; have HB3 := Lib.hid b; clear o b)
          go_roundw
          case rel => exact ⟨k + 1, n + 1, by omega, by omega, by go_num, by rw [HE.out]; exact HO3.out, HB3.out⟩
          case measure => simp [RowKit.intOf]; omega
        · have HE := Lib.hid (selL_no (show theP A X k = false by rw [theP, ← HZ.out, decide_eq_false hz0, show (!(X k).isEmpty) = freP X k from rfl, freP_no hl]; rfl))
          clear hl
          go_wp2_with (fail)
          go_roundw
          case rel => exact ⟨k + 1, n, by omega, by omega, by go_num, by rw [HE.out]; exact HO.out, HB.out⟩
          case measure => simp [RowKit.intOf]; omega
      · have HE := Lib.hid (selL_yes (show theP A X k = true by rw [theP, show (!(X k).isEmpty) = freP X k from rfl, freP_yes (by rw [hl]; omega)]; rfl))
        have d1 : (0 : Int) < (n9 : Int) := by omega
        clear hl
        go_wp2_with (at_builtin; go_must (refine wpList_api rfl (.tmp 27) (.tmp 29) rfl w.heap.size _ n _ rfl (HO.out.alloc _) wr.heap.size (k : Int) rfl (by simp) (by omega) (by simp; omega) w (HB.out.alloc hs _) ?_); intro v3 w3 o b; have HO3 := Lib.hid o; have HB3 := Lib.hid b; clear o b)
        go_roundw
        case rel => exact ⟨k + 1, n + 1, by omega, by omega, by go_num, by rw [HE.out]; exact HO3.out, HB3.out⟩
        case measure => simp [RowKit.intOf]; omega
    · obtain rfl : k = 828 := by omega
      go_wp2_with (fail)
      go_ret
      exact SelPost.own HO.out HB.out
end Go.Proofs.Ytgedgkdnjnbijaa
