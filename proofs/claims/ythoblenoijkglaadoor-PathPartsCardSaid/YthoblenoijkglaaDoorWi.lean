/-
  Within, of the program, by contract.
-/
import Derived.Test.YthoblenoijkglaaDoorSp
namespace Go.Proofs.YthoblenoijkglaaDoor
open Go.RowKit
set_option linter.unusedVariables false
set_option linter.unusedSimpArgs false

theorem list_texts {L M : List (List UInt8)} : decide (L.map tx = M.map tx) = decide (L = M) := by
  by_cases h : L = M
  · subst h; simp
  · have : L.map tx ≠ M.map tx := fun e => h (by
      have := congrArg (List.map fun s : ByteArray => s.data.toList) e
      simpa [List.map_map, Function.comp_def, data_tx] using this)
    rw [decide_eq_false h, decide_eq_false this]
theorem tat_map (L : List (List UInt8)) {j : Nat} (h : j < L.length) : (L.map tx).getD j ByteArray.empty = tx (tat L j) := by
  simp [tat, List.getD, h]
theorem equal_any (w : World) (a b : Option Addr) (n c d : Nat) (L M : List (List UInt8)) (h1 : Sts w a n L) (h2 : Sts w b n M) (hn : n ≤ 1000000) :
    Calls Tryd.prog 25 #[.slice a n c, .slice b n d] w fun e w' => e = .returned (.bool (decide (L = M))) ∧ Below w.heap.size w w' := by
  have l1 := h1.len
  have l2 := h2.len
  rcases Nat.eq_zero_or_pos n with h0 | hp
  · subst h0
    obtain rfl : L = [] := List.length_eq_zero_iff.1 l1
    obtain rfl : M = [] := List.length_eq_zero_iff.1 l2
    exact (Any.slices_Equal_string_empty lays193 a b c 0 d w (by omega)).mono fun e w' ⟨he, hw⟩ => ⟨he, hw ▸ Below.refl _ _⟩
  · obtain ⟨b1, o1, rfl, _, c1⟩ := h1.at hp
    obtain ⟨b2, o2, rfl, _, c2⟩ := h2.at hp
    refine (Any.slices_Equal_string lays193 b1 o1 n c b2 o2 n d (L.map tx) (M.map tx) w (by simp [l1]) (by simp [l2]) (by omega) (by omega)
      (fun j hj => by rw [List.length_map] at hj; rw [tat_map L hj]; exact c1 j (by omega)) (fun j hj => by rw [List.length_map] at hj; rw [tat_map M hj]; exact c2 j (by omega))).mono ?_
    rintro e w' ⟨rfl, q, rfl⟩
    refine ⟨?_, below_drewN (Below.refl _ _) q⟩
    rw [List.take_of_length_le (by simp [l1]), List.take_of_length_le (by simp [l2]), list_texts]
set_option maxHeartbeats 2000000 in
theorem within_any (s t : ByteArray) (w : World) (hs : s.size < 4294967281) (ht : t.size < 4294967281) :
    Calls Tryd.prog 16 #[.string s, .string t] w fun e w' => e = .returned (.bool (wit s.data.toList t.data.toList)) ∧ Below w.heap.size w w' := by
  have hc1 := split_any s w hs
  obtain ⟨x, hx⟩ : ∃ x, s.data.toList = x := ⟨_, rfl⟩
  obtain ⟨y, hy⟩ : ∃ y, t.data.toList = y := ⟨_, rfl⟩
  rw [hx] at hc1
  rw [hx, hy]
  have hc2 : ∀ w1, Calls Tryd.prog 8 #[.string t] w1 (SplPost w1 (spl y)) := fun w1 => by rw [← hy]; exact split_any t w1 ht
  clear hx hy hs ht
  cases hA : spl x with
  | none =>
    have hw := Lib.hid (wit_left hA y)
    rw [hA] at hc1
    clear hA
    cases hB : spl y with
    | none =>
      rw [hB] at hc2
      clear hB
      go_enter Tryd.func16, Tryd.ntmps16
      go_wp2_with (fail)
      refine hc1.mono ?_
      rintro e w1 ⟨h1, hb1⟩
      cases h1
      have h2 := hc2 w1
      have HB1 := Lib.hid hb1
      clear hc1 hc2 hb1
      go_wp2_with (fail)
      refine h2.mono ?_
      rintro e w2 ⟨h3, hb2⟩
      cases h3
      have HB2 := Lib.hid (HB1.out.trans (hb2.mono HB1.out.size))
      clear h2 hb2
      go_wp2_with (fail)
      go_ret
      exact ⟨by rw [hw.out]; rfl, HB2.out⟩
    | some M =>
      rw [hB] at hc2
      clear hB
      go_enter Tryd.func16, Tryd.ntmps16
      go_wp2_with (fail)
      refine hc1.mono ?_
      rintro e w1 ⟨h1, hb1⟩
      cases h1
      have h2 := hc2 w1
      have HB1 := Lib.hid hb1
      clear hc1 hc2 hb1
      go_wp2_with (fail)
      refine h2.mono ?_
      rintro e w2 ⟨⟨v, he, ho⟩, hb2⟩
      subst he
      obtain ⟨a2, c2, rfl, _⟩ := ho.sts
      have HB2 := Lib.hid (HB1.out.trans (hb2.mono HB1.out.size))
      clear h2 hb2 ho
      go_wp2_with (fail)
      go_ret
      exact ⟨by rw [hw.out]; rfl, HB2.out⟩
  | some L =>
    rw [hA] at hc1
    cases hB : spl y with
    | none =>
      have hw := Lib.hid (show wit x y = false by unfold wit; rw [hA, hB])
      rw [hB] at hc2
      clear hB hA
      go_enter Tryd.func16, Tryd.ntmps16
      go_wp2_with (fail)
      refine hc1.mono ?_
      rintro e w1 ⟨⟨v, he, ho⟩, hb1⟩
      subst he
      obtain ⟨a1, c1, rfl, _⟩ := ho.sts
      have h2 := hc2 w1
      have HB1 := Lib.hid hb1
      clear hc1 hc2 hb1 ho
      go_wp2_with (fail)
      refine h2.mono ?_
      rintro e w2 ⟨h3, hb2⟩
      cases h3
      have HB2 := Lib.hid (HB1.out.trans (hb2.mono HB1.out.size))
      clear h2 hb2
      go_wp2_with (fail)
      go_ret
      exact ⟨by rw [hw.out]; rfl, HB2.out⟩
    | some M =>
      have hw := Lib.hid (wit_eq hA hB)
      have h8 := arP_len (spl_arP hA)
      have h9 := arP_len (spl_arP hB)
      rw [hB] at hc2
      clear hB hA
      by_cases hlt : L.length < M.length
      · have k3 : (L.length : Int) < (M.length : Int) := by omega
        go_enter Tryd.func16, Tryd.ntmps16
        go_wp2_with (fail)
        refine hc1.mono ?_
        rintro e w1 ⟨⟨v, he, ho⟩, hb1⟩
        subst he
        obtain ⟨a1, c1, rfl, _⟩ := ho.sts
        have h2 := hc2 w1
        have HB1 := Lib.hid hb1
        clear hc1 hc2 hb1 ho
        go_wp2_with (fail)
        refine h2.mono ?_
        rintro e w2 ⟨⟨v, he, ho⟩, hb2⟩
        subst he
        obtain ⟨a2, c2, rfl, _⟩ := ho.sts
        have HB2 := Lib.hid (HB1.out.trans (hb2.mono HB1.out.size))
        clear h2 hb2 ho
        go_wp2_with (fail)
        go_ret
        exact ⟨by rw [hw.out, decide_eq_false (by omega)]; rfl, HB2.out⟩
      · have k3 : ¬ (L.length : Int) < (M.length : Int) := by omega
        go_enter Tryd.func16, Tryd.ntmps16
        go_wp2_with (fail)
        refine hc1.mono ?_
        rintro e w1 ⟨⟨v, he, ho⟩, hb1⟩
        subst he
        obtain ⟨a1, c1, rfl, hS1, hnc, hcm, hz, _⟩ := ho.sts
        have h2 := hc2 w1
        have HB1 := Lib.hid hb1
        have HS1 := Lib.hid hS1
        clear hc1 hc2 hb1 ho hS1
        go_wp2_with (fail)
        refine h2.mono ?_
        rintro e w2 ⟨⟨v, he, ho⟩, hb2⟩
        subst he
        obtain ⟨a2, c2, rfl, hS2, _⟩ := ho.sts
        have hq := equal_any w2 a1 a2 M.length c1 c2 (L.take M.length) M ((HS1.out.next hb2).front (by omega)) hS2 (by omega)
        have HB2 := Lib.hid (HB1.out.trans (hb2.mono HB1.out.size))
        clear h2 hb2 ho hS2
        generalize hqv : decide (L.take M.length = M) = qv at hq
        have HW := Lib.hid (show wit x y = qv by
          rw [hw.out, decide_eq_true (show M.length ≤ L.length by omega), ← hqv, Bool.true_and]
          rw [Bool.eq_iff_iff]
          simp)
        clear hqv hw
        rcases a1 with _ | p1
        · obtain ⟨hz0, rfl⟩ := hz rfl
          obtain rfl : L = [] := List.length_eq_zero_iff.1 hz0
          obtain rfl : M = [] := List.length_eq_zero_iff.1 (by simp at hlt; omega)
          simp only [List.length_nil] at hq
          clear hz hz0 hnc hcm h8 h9 hlt k3 HS1
          go_wp2_with (fail)
          refine hq.mono ?_
          rintro e w3 ⟨rfl, hb3⟩
          have HB3 := Lib.hid (HB2.out.trans (hb3.mono HB2.out.size))
          clear hb3 hq
          go_wp2_with (fail)
          go_ret
          exact ⟨by rw [HW.out]; rfl, HB3.out⟩
        · clear hz
          go_wp2_with (fail)
          refine hq.mono ?_
          rintro e w3 ⟨rfl, hb3⟩
          have HB3 := Lib.hid (HB2.out.trans (hb3.mono HB2.out.size))
          clear hb3 hq
          go_wp2_with (fail)
          go_ret
          exact ⟨by rw [HW.out]; rfl, HB3.out⟩
end Go.Proofs.YthoblenoijkglaaDoor
