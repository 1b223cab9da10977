/-
  The document's Put, by contract.
-/
import Derived.Test.YtgedgkdnjnbijaaRc
namespace Go.Proofs.Ytgedgkdnjnbijaa
open Go.RowKit
set_option linter.unusedVariables false
set_option linter.unusedSimpArgs false

theorem upd_upd {α : Type} (f : Nat → α) (k : Nat) (y z : α) : upd (upd f k y) k z = upd f k z := by
  funext i
  unfold upd
  split <;> rfl
theorem put_no {w : World} {b : Nat} {G : Nat → Prop} {A : Nat → Int} {X : Nat → List Int} {k : Int} {x : List Int} (h : ¬ (0 ≤ k ∧ k < 828) ∨ x.length ≠ 56) : PutPost w b G A X k x (.returned (.int .i64 28)) w := by
  have e : puO k x = false := by
    unfold puO
    rcases h with h | h
    · rw [show inK k = false by cases hh : inK k with | false => rfl | true => exact absurd (inK_iff.1 hh) h]; rfl
    · rw [decide_eq_false h, Bool.and_false]
  exact ⟨fun _ => ⟨rfl, rfl⟩, fun h => by rw [e] at h; cases h⟩
set_option maxRecDepth 10000 in
set_option maxHeartbeats 4000000 in
theorem rput_any (b : Nat) (G : Nat → Prop) (A : Nat → Int) (X : Nat → List Int) (k : Int) (a : Option Addr) (n c : Nat) (x : List Int) (w : World) (h : Bmp w b G A X) (hx : Pin w a n c x) (hb : 0 < n → ∀ y, a = some y → y.block ≠ b) :
    Calls Try.prog 30 #[.pointer (some ⟨b, 0, none⟩), .int .i64 k, .slice a n c] w (PutPost w b G A X k x) := by
  have hl := hx.len
  subst hl
  by_cases h0 : k < 0
  · have hno := Lib.hid (put_no (w := w) (b := b) (G := G) (A := A) (X := X) (x := x) (.inl (show ¬ (0 ≤ k ∧ k < 828) by omega)))
    go_enter Try.func30, Try.ntmps30
    go_wp2
    go_ret
    exact hno.out
  · by_cases h1 : 828 ≤ k
    · have hno := Lib.hid (put_no (w := w) (b := b) (G := G) (A := A) (X := X) (x := x) (.inl (show ¬ (0 ≤ k ∧ k < 828) by omega)))
      go_enter Try.func30, Try.ntmps30
      go_wp2
      go_ret
      exact hno.out
    · by_cases h2 : x.length = 56
      · obtain ⟨j, rfl⟩ := Int.eq_ofNat_of_zero_le (show 0 ≤ k by omega)
        have hj : j < 828 := by omega
        have hok := Lib.hid (show puO (j : Int) x = true by rw [puO, inK_iff.2 (by omega), decide_eq_true h2]; rfl)
        have h3 := (h.setA hj 0).none hj
        have ht : Turn (· = b) w ((w.setCell ⟨b, j, none⟩ (.int .i64 0)).setCell ⟨b, 828 + j, none⟩ (.slice none 0 0)) := (turn_set w b j _).trans (turn_set _ b (828 + j) _)
        have hx3 := pin_turn hx ht fun h0 y e => hb h0 y e
        have c1 := h.ad hj
        have c2 := (h.setA hj 0).sl hj
        obtain ⟨a9, n9, c9, c2, _, _⟩ := c2
        have f1 := h.fr j
        have f2 := (h.setA hj 0).fr (828 + j)
        have l1 := h.lt
        obtain ⟨wa, hwa⟩ : ∃ wa, wa = (w.setCell ⟨b, j, none⟩ (.int .i64 0)).setCell ⟨b, 828 + j, none⟩ (.slice none 0 0) := ⟨_, rfl⟩
        rw [← hwa] at h3 ht hx3
        have hno := refNought_any a x.length c x wa hx3.bys (by omega)
        have HX := Lib.hid hx3
        have HM := Lib.hid h3
        have HT := Lib.hid ht
        have HL := Lib.hid (And.intro l1 h2)
        have HG := Lib.hid h.gl
        have HNB := Lib.hid h.ng
        obtain ⟨m, hm⟩ : ∃ m, m = x.length := ⟨_, rfl⟩
        rw [← hm] at hno h2 ⊢
        have HMM := Lib.hid hm
        subst h2
        clear h h3 ht hx3 hx hb h0 h1 hm
        go_enter Try.func30, Try.ntmps30
        go_upto_region 5 with fail
        rw [← hwa]
        clear c1 c2 f1 f2 l1 hwa
        go_wp2_with (fail)
        refine hno.mono ?_
        rintro e w2 ⟨rfl, rfl⟩
        cases hz : noughtB x with
        | true =>
          have HZ := Lib.hid hz
          clear hz hno
          go_wp2_with (fail)
          go_ret
          refine ⟨(fun h => by rw [hok.out] at h; cases h), fun _ => ⟨rfl, HT.out, G, ?_, fun j hj => .inl hj⟩⟩
          rw [bnO, HZ.out, if_pos rfl]
          exact HM.out
        | false =>
          have HZ := Lib.hid hz
          clear hz hno
          go_upto_region 6 with fail
          refine wp_region_held_drew (S := (fun _ => True)) (by kernel_rfl) ?_ (fun hHeld => ?_)
          · exact trivial
          refine wpAnyH_take (i := 0) (v := ?_) rfl (by kernel_rfl) (by kernel_rfl) (by kernel_rfl) (fun _ _ _ h => h) (Or.inl ⟨by rfl, fun w hSw => ?_⟩) (by assumption) ?_
          rotate_left
          · (try dsimp only at hSw); go_simp; try with_reducible rfl
          simp only [Act.put, List.setIfInBounds_toArray, List.set_cons_zero, List.set_cons_succ, List.getElem_toArray, List.getElem_cons_zero]
          refine wpAnyH_take (i := 1) (v := ?_) rfl (by kernel_rfl) (by kernel_rfl) (by kernel_rfl) (fun _ _ _ h => h) (Or.inl ⟨by rfl, fun w hSw => ?_⟩) (by assumption) ?_
          rotate_left
          · (try dsimp only at hSw); go_simp; try with_reducible rfl
          simp only [Act.put, List.setIfInBounds_toArray, List.set_cons_zero, List.set_cons_succ, List.getElem_toArray, List.getElem_cons_succ, List.getElem_cons_zero]
          refine wpAnyH_take (i := 2) (v := ?_) rfl (by kernel_rfl) (by kernel_rfl) (by kernel_rfl) (fun _ _ _ h => h) (Or.inl ⟨by rfl, fun w hSw => ?_⟩) (by assumption) ?_
          rotate_left
          · (try dsimp only at hSw); go_simp; try with_reducible rfl
          simp only [Act.put, List.setIfInBounds_toArray, List.set_cons_zero, List.set_cons_succ, List.getElem_toArray, List.getElem_cons_succ, List.getElem_cons_zero]
          refine wpAnyH_take (i := 4) (v := ?_) rfl (by kernel_rfl) (by kernel_rfl) (by kernel_rfl) (fun _ _ _ h => h) (Or.inl ⟨by rfl, fun w hSw => ?_⟩) (by assumption) ?_
          rotate_left
          · (try dsimp only at hSw); go_simp; try with_reducible rfl
          simp only [Act.put, List.setIfInBounds_toArray, List.set_cons_zero, List.set_cons_succ, List.getElem_toArray, List.getElem_cons_succ, List.getElem_cons_zero]
          refine wpAnyH_take (i := 5) (v := ?_) rfl (by kernel_rfl) (by kernel_rfl) (by kernel_rfl) (fun _ _ _ h => h) (Or.inl ⟨by rfl, fun w hSw => ?_⟩) (by assumption) ?_
          rotate_left
          · (try dsimp only at hSw); go_simp; try with_reducible rfl
          simp only [Act.put, List.setIfInBounds_toArray, List.set_cons_zero, List.set_cons_succ, List.getElem_toArray, List.getElem_cons_succ, List.getElem_cons_zero]
          have HX1 := Lib.hid (show Pin wa.drew a 56 c x by rw [HMM.out]; exact HX.out.next (below_drewN (Below.refl _ _) 1))
          have HM1 := Lib.hid (HM.out.next (below_drewN (Below.refl _ _) 1))
          refine wpAnyH_ready (rs := [3]) (by kernel_rfl) (by simp) ?_
          refine AllReadyH.cons rfl (fun K hK => ?_) AllReadyH.nil
          simp only [List.getElem_toArray, List.getElem_cons_succ, List.getElem_cons_zero]
          go_simp
          refine (copy_any a 56 c x _ HX1.out.bys HX1.out.nil (by omega)).mono ?_
          rintro e w3 ⟨v, rfl, hO, hb3⟩
          obtain ⟨a2, c2, rfl, hp2, hnew⟩ := hO.pin
          have HP := Lib.hid hp2
          have HN := Lib.hid hnew
          have HB := Lib.hid hb3
          have hm3 := HM1.out.next hb3
          obtain ⟨a9, n9, c9, c1, _, _⟩ := hm3.sl hj
          have f1 := hm3.fr (828 + j)
          have l1 := hm3.lt
          have HM3 := Lib.hid hm3
          clear hO hp2 hnew hb3 hm3
          go_wp2_with (fail)
          refine hK.out _ _ trivial (fun hHeld => ?_)
          clear hK K
          refine wpAnyH_take (i := 6) (v := ?_) rfl (by kernel_rfl) (by kernel_rfl) (by kernel_rfl) (fun _ _ _ h => h) (Or.inl ⟨by rfl, fun w hSw => ?_⟩) (by assumption) ?_
          rotate_left
          · (try dsimp only at hSw); go_simp; try with_reducible rfl
          simp only [Act.put, List.setIfInBounds_toArray, List.set_cons_zero, List.set_cons_succ, List.getElem_toArray, List.getElem_cons_succ, List.getElem_cons_zero]
          refine wpAnyH_ready (rs := [7]) (by kernel_rfl) (by simp) ?_
          refine AllReadyH.cons rfl (fun K hK => ?_) AllReadyH.nil
          simp only [List.getElem_toArray, List.getElem_cons_succ, List.getElem_cons_zero]
          go_simp
          refine hK.out _ _ trivial (fun hHeld => ?_)
          clear hK K
          refine wpAnyH_done (by kernel_rfl) ?_ _
          go_wp2_with (fail)
          go_ret
          have hw : w.heap.size ≤ wa.heap.size := HT.out.size
          have h3 : Bmp (w3.setCell ⟨b, 828 + j, none⟩ (.slice a2 56 c2)) b (fun i => G i ∨ (w.heap.size ≤ i ∧ i < w3.heap.size)) (upd A j 0) (upd (upd X j []) j x) :=
            (HM3.out.more (G' := fun i => G i ∨ (w.heap.size ≤ i ∧ i < w3.heap.size)) (fun i h => .inl h) (fun h => by
              rcases h with h | h
              · exact HNB.out h
              · have := HL.out.1; omega) (fun i h => by
              rcases h with h | h
              · exact HM3.out.gl i h
              · exact h.2)).setX hj ⟨a2, 56, c2, x⟩ HP.out (fun y e => .inr ⟨by have := (HN.out y e).1; simp at this; omega, (HN.out y e).2⟩)
          rw [upd_upd] at h3
          refine ⟨(fun h => by rw [hok.out] at h; cases h), fun _ => ⟨rfl, (HT.out.trans (Turn.of_below (below_drewN (Below.refl _ _) 1))).trans ((Turn.of_below HB.out).trans (turn_set w3 b (828 + j) _)), (fun i => G i ∨ (w.heap.size ≤ i ∧ i < w3.heap.size)), ?_, fun i hi => ?_⟩⟩
          · rw [bnO, HZ.out]
            exact h3
          · rcases hi with h | h
            · exact .inl h
            · exact .inr h.1
      · have hno := Lib.hid (put_no (w := w) (b := b) (G := G) (A := A) (X := X) (k := k) (x := x) (.inr h2))
        have d1 : ((x.length : Int) != 56) = true := by simp; omega
        clear h2 hx hb
        go_enter Try.func30, Try.ntmps30
        go_wp2
        go_ret
        exact hno.out
end Go.Proofs.Ytgedgkdnjnbijaa
