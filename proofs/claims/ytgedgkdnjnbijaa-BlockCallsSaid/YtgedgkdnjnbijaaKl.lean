/-
  The program's Place by contract.
-/
import Derived.Test.YtgedgkdnjnbijaaKb
namespace Go.Proofs.Ytgedgkdnjnbijaa
open Go.RowKit Go.Maps Go.ChangeMaps Go.MapKept
set_option linter.unusedVariables false
set_option linter.unusedSimpArgs false

/-- What Place leaves. -/
def PlaceP (w : World) (p b c : Nat) (A : Nat → Int) (X : Nat → List Int) (k t : Int) (e : Ending) (w' : World) : Prop :=
  e = .returned (.int .i64 (if plO X k t then 0 else 28)) ∧ Turn (fun j => j = b ∨ j = c) w w' ∧ PmpAt w' p b c (if plO X k t then upd A k.toNat t else A) (if plO X k t then upd X k.toNat [] else X)
theorem placeP_no {w w' : World} {p b c : Nat} {A : Nat → Int} {X : Nat → List Int} {k t : Int} (h : PmpAt w p b c A X) (hk : plO X k t = false) (hb : Below w.heap.size w w') : PlaceP w p b c A X k t (.returned (.int .i64 28)) w' := by
  unfold PlaceP
  rw [hk]
  exact ⟨rfl, Turn.of_below hb, h.next hb⟩
set_option maxRecDepth 10000 in
set_option maxHeartbeats 4000000 in
theorem place_any {w : World} {p b c : Nat} {A : Nat → Int} {X : Nat → List Int} (h : PmpAt w p b c A X) (k t : Int) :
    Calls Try.prog 21 #[.pointer (some ⟨p, 0, none⟩), .int .i64 k, .int .i64 t] w (PlaceP w p b c A X k t) := by
  have hq := h.lookX k
  have c1 := h.c1
  have hz := zX
  cases ho : byO X k with
  | false =>
    rw [ho] at hq
    have HN := Lib.hid (placeP_no (t := t) h (by rw [plO, ho]; rfl) ((Below.refl w.heap.size w).alloc (Nat.le_refl _) (.cells (payC no56) 70)))
    have hst := store56 w no56_len
    have hst2 := storeC56 w no56_len
    have hs := payC_size no56_len
    clear h ho
    go_enter Try.func21, Try.ntmps21
    go_wp2_with (fail)
    go_ret
    exact HN.out
  | true =>
    rw [ho] at hq
    obtain ⟨j, rfl, hj, e2, hne⟩ := byX_yes ho
    rw [e2] at hq
    obtain ⟨hl, hs8⟩ : (X j).length = 56 ∧ AllB (X j) := by
      rcases h.ok.sz j with h1 | h1
      · exact absurd h1 hne
      · exact h1
    obtain ⟨zs, hzs⟩ : ∃ zs, zs = X j := ⟨_, rfl⟩
    rw [← hzs] at hl hs8 hq
    have hst := store56 w hl
    have hst2 := storeC56 w hl
    have hs := payC_size hl
    obtain ⟨wa, hwa⟩ : ∃ wa, wa = w.alloc (.cells (payC zs) 70) := ⟨_, rfl⟩
    have hB : Below w.heap.size w wa := by rw [hwa]; exact (Below.refl w.heap.size w).alloc (Nat.le_refl _) _
    have hc := isAddr_any t wa
    obtain ⟨r, hr⟩ : ∃ r, r = decide (1 ≤ t ∧ t ≤ 65535) := ⟨_, rfl⟩
    rw [← hr] at hc
    have HO := Lib.hid ho
    have HNE := Lib.hid hne
    cases r with
    | false =>
      have HN := Lib.hid (placeP_no (w' := wa) h (by rw [plO, ho, ← hr]; rfl) hB)
      rw [hwa] at hc HN
      clear h ho hzs hne e2 hl hs8 hB hwa hr HO HNE
      go_enter Try.func21, Try.ntmps21
      go_wp2_with (fail)
      refine hc.mono ?_
      rintro e w3 ⟨rfl, rfl⟩
      go_wp2_with (fail)
      go_ret
      exact HN.out
    | true =>
      have htr := of_decide_eq_true hr.symm
      have hP := h.next hB
      obtain ⟨w2, hd2, hn2, ht2⟩ := hP.mx.drop uX hj
      rw [fX_off] at hn2
      have hP2 := hP.setX (turn_map ht2) hn2 (hP.ok.offX j)
      obtain ⟨w3, hst3, hn3, ht3⟩ := hP2.ma.store uA hj (elA_mk ⟨by omega, htr.2⟩)
      rw [fA_upd _ _ (by omega)] at hn3
      have HP3 := Lib.hid (hP2.setA (turn_map ht3) hn3 (hP2.ok.setA ⟨by omega, htr.2⟩ (upd_at _ _ _)))
      have HT := Lib.hid (((Turn.of_below (M := fun j => j = b ∨ j = c) hB).trans ((turn_map ht2).mono fun j e => .inr e)).trans ((turn_map ht3).mono fun j e => .inl e))
      have HK := Lib.hid (show plO X (j : Int) t = true by rw [plO, ho, ← hr]; rfl)
      have ca := hP.c1
      have cb := hP2.c0
      rw [hwa] at hc ca hd2
      clear h ho hzs hne e2 hl hs8 hB hwa hr HO HNE hP hP2 hn2 hn3 ht2 ht3 htr
      go_enter Try.func21, Try.ntmps21
      go_wp2_with (fail)
      refine hc.mono ?_
      rintro e w3 ⟨rfl, rfl⟩
      go_wp2_with (fail)
      go_ret
      unfold PlaceP
      rw [HK.out, if_pos rfl, if_pos rfl, if_pos rfl]
      exact ⟨rfl, HT.out, HP3.out⟩
end Go.Proofs.Ytgedgkdnjnbijaa
