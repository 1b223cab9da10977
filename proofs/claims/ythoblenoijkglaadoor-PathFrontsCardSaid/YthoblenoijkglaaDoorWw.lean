/-
  Every Within, program and document; what is put behind a path is within it: the walk.
-/
import Derived.Test.YthoblenoijkglaaDoorWj
import Derived.Test.YthoblenoijkglaaDoorRw
namespace Go.Proofs.YthoblenoijkglaaDoor
open Go.RowKit
set_option linter.unusedVariables false
set_option linter.unusedSimpArgs false

theorem OwnT.base {w : World} {B C : Nat} {v : Value} {n : Nat} {L : List (List UInt8)} (h : OwnT w B v n L) (hC : C ≤ B) : OwnT w C v n L := by
  refine ⟨h.1, ?_⟩
  rcases h.2 with h0 | ⟨g, cap, cur, e, hb, hr⟩
  · exact .inl h0
  · exact .inr ⟨g, cap, cur, e, Nat.le_trans hC hb, hr⟩
theorem behind_none {L : List (List UInt8)} {x : List UInt8} (hA : arP L = true) (h : joi (L ++ [x]) = none) : L.length = 8 ∨ nmB x = false := by
  unfold joi at h
  rw [arP_snoc hA] at h
  split at h
  · cases h
  · next hc =>
    by_cases h8 : L.length = 8
    · exact .inl h8
    · refine .inr ?_
      rw [beq_eq_false_iff_ne.2 h8] at hc
      simpa using hc
theorem behind_some {L : List (List UInt8)} {x s : List UInt8} (h : joi (L ++ [x]) = some s) : spl s = some (L ++ [x]) ∧ s.length ≤ 200 := by
  refine ⟨spl_joi h, ?_⟩
  unfold joi at h
  split at h
  · next hA => cases h; have := joi_len hA; simp; omega
  · cases h
set_option maxHeartbeats 8000000 in
theorem withins_any (s t u : ByteArray) (W : World) : Calls Tryd.prog 5 #[.string s, .string t, .string u] W fun e w' => e = .returned (.bool true) ∧ Below W.heap.size W w' := by
  have hal := alive_any W
  by_cases hs : 3000 < s.size
  · have ks : (3000 : Int) < (s.size : Int) := by omega
    go_enter Tryd.func5, Tryd.ntmps5
    go_wp2_with (fail)
    refine hal.mono ?_
    rintro e w1 ⟨rfl, hb1⟩
    go_wp2_with (fail)
    go_ret
    exact ⟨rfl, hb1⟩
  have ks : ¬ (3000 : Int) < (s.size : Int) := by omega
  by_cases ht : 3000 < t.size
  · have kt : (3000 : Int) < (t.size : Int) := by omega
    go_enter Tryd.func5, Tryd.ntmps5
    go_wp2_with (fail)
    refine hal.mono ?_
    rintro e w1 ⟨rfl, hb1⟩
    go_wp2_with (fail)
    go_ret
    exact ⟨rfl, hb1⟩
  have kt : ¬ (3000 : Int) < (t.size : Int) := by omega
  by_cases hu : 3000 < u.size
  · have ku : (3000 : Int) < (u.size : Int) := by omega
    go_enter Tryd.func5, Tryd.ntmps5
    go_wp2_with (fail)
    refine hal.mono ?_
    rintro e w1 ⟨rfl, hb1⟩
    go_wp2_with (fail)
    go_ret
    exact ⟨rfl, hb1⟩
  have ku : ¬ (3000 : Int) < (u.size : Int) := by omega
  obtain ⟨q, hq⟩ : ∃ q, wit s.data.toList t.data.toList = q := ⟨_, rfl⟩
  have hw1 := fun w1 => within_any s t w1 (by omega) (by omega)
  have hw2 := fun w1 => rwithin_any s t w1 (by omega) (by omega)
  simp only [hq] at hw1 hw2
  have hsp := fun w1 => split_any s w1 (by omega)
  have hss := fun w1 => within_any s s w1 (by omega) (by omega)
  have hsr := fun w1 => within_any s slash w1 (by omega) (by decide)
  have hnu := fun w1 => name_any u w1
  have H1 := Lib.hid hw1
  have H2 := Lib.hid hw2
  have H3 := Lib.hid hsp
  have H4 := Lib.hid hss
  have H5 := Lib.hid hsr
  have H6 := Lib.hid hnu
  have HSZ := Lib.hid hs
  clear hw1 hw2 hsp hss hsr hnu hq hs ht hu
  go_enter Tryd.func5, Tryd.ntmps5
  go_wp2_with (fail)
  refine hal.mono ?_
  rintro e w1 ⟨rfl, hb1⟩
  have HB1 := Lib.hid hb1
  clear hal hb1
  go_wp2_with (fail)
  refine (H1.out w1).mono ?_
  rintro e w2 ⟨rfl, hb2⟩
  have HB2 := Lib.hid (HB1.out.trans (hb2.mono HB1.out.size))
  clear hb2
  go_wp2_with (fail)
  refine (H2.out w2).mono ?_
  rintro e w3 ⟨rfl, hb3⟩
  have HB3 := Lib.hid (HB2.out.trans (hb3.mono HB2.out.size))
  clear hb3
  go_wp2_with (fail)
  refine (H3.out w3).mono ?_
  rintro e w4 ⟨hv, hb4⟩
  have HB4 := Lib.hid (HB3.out.trans (hb4.mono HB3.out.size))
  clear hb4
  cases ho : spl s.data.toList with
  | none =>
    rw [ho] at hv
    cases hv
    have h4 := H4.out w4
    rw [wit_left ho] at h4
    have h5 := H5.out
    simp only [wit_left ho] at h5
    have H5' := Lib.hid h5
    clear h5 ho
    go_wp2_with (fail)
    refine h4.mono ?_
    rintro e w5 ⟨rfl, hb5⟩
    have HB5 := Lib.hid (HB4.out.trans (hb5.mono HB4.out.size))
    clear hb5 h4
    go_wp2_with (fail)
    refine (H5'.out w5).mono ?_
    rintro e w6 ⟨rfl, hb6⟩
    have HB6 := Lib.hid (HB5.out.trans (hb6.mono HB5.out.size))
    clear hb6
    go_wp2_with (fail)
    go_ret
    exact ⟨rfl, HB6.out⟩
  | some L =>
    rw [ho] at hv
    obtain ⟨v, he, hown⟩ := hv
    subst he
    have hown' := hown.base HB3.out.size
    obtain ⟨a1, c1, rfl, hS1, hnc1, _, hz1, _⟩ := hown.sts
    have hA := spl_arP ho
    have h8 := arP_len hA
    have h4 := H4.out w4
    rw [wit_self ho] at h4
    have h5 := H5.out
    have hwr : wit s.data.toList slash.data.toList = true := wit_root ho
    simp only [hwr] at h5
    have H5' := Lib.hid h5
    have HW := Lib.hid hown'
    have HA := Lib.hid hA
    have HO := Lib.hid ho
    clear h5 ho hown hown' hS1 hA hwr
    go_wp2_with (fail)
    refine h4.mono ?_
    rintro e w5 ⟨rfl, hb5⟩
    have HB5 := Lib.hid (HB4.out.trans (hb5.mono HB4.out.size))
    have HW5 := Lib.hid (HW.out.next hb5)
    clear hb5 h4
    go_wp2_with (fail)
    refine (H5'.out w5).mono ?_
    rintro e w6 ⟨rfl, hb6⟩
    have HB6 := Lib.hid (HB5.out.trans (hb6.mono HB5.out.size))
    have HW6 := Lib.hid (HW5.out.next hb6)
    have hsz6 := HB6.out.size
    clear hb6
    have HS1 := Lib.hid (sts_one (w := w6) u rfl)
    have HB6' := Lib.hid (HB6.out.alloc HB6.out.size (.cells #[.string u] 9))
    have HW6' := Lib.hid (HW6.out.alloc (.cells #[.string u] 9))
    go_wp2_with (at_builtin; go_must (refine wpList_apT rfl (.tmp 58) (.tmp 60) rfl W.heap.size _ L.length L rfl HW6'.out ⟨w6.heap.size, 0, none⟩ 1 1 [u.data.toList] rfl HS1.out (by omega) (by simp; omega) W HB6'.out ?_); intro v2 w7 ho7 hb7)
    obtain ⟨a7, c7, ev7, hS7, hnc7, _, hz7, _⟩ := ho7.sts
    subst ev7
    have hj := join_any w7 a7 (L.length + 1) c7 (L ++ [u.data.toList]) hS7 hnc7 (fun e => (hz7 e).1)
    have HB7 := Lib.hid hb7
    clear ho7 hb7 hS7 hz7
    cases hjo : joi (L ++ [u.data.toList]) with
    | none =>
      rw [hjo] at hj
      have hbn := behind_none HA.out hjo
      clear hjo
      go_wp2_with (fail)
      refine hj.mono ?_
      rintro e w8 ⟨hv, hb8⟩
      cases hv
      have HB8 := Lib.hid (HB7.out.trans (hb8.mono HB7.out.size))
      clear hb8 hj
      by_cases h88 : L.length = 8
      · have q8 : ((L.length : Int) == 8) = true := beq_iff_eq.2 (by omega)
        clear h88 hbn
        go_wp2_with (fail)
        go_ret
        exact ⟨rfl, HB8.out⟩
      · have q8 : ((L.length : Int) == 8) = false := beq_eq_false_iff_ne.2 (by omega)
        have hnf : nmB u.data.toList = false := by
          rcases hbn with h | h
          · exact absurd h h88
          · exact h
        have h6 := H6.out w8
        rw [hnf] at h6
        clear h88 hbn hnf
        go_wp2_with (fail)
        refine h6.mono ?_
        rintro e w9 ⟨rfl, hb9⟩
        have HB9 := Lib.hid (HB8.out.trans (hb9.mono HB8.out.size))
        clear hb9 h6
        go_wp2_with (fail)
        go_ret
        exact ⟨rfl, HB9.out⟩
    | some p =>
      rw [hjo] at hj
      obtain ⟨hp, hpl⟩ := behind_some hjo
      have hwf : wit p s.data.toList = true := by
        have hx : (L ++ [u.data.toList]).take L.length = L := by simp
        exact wit_front (n := L.length) hp (by rw [HO.out, hx])
      have hwl : wit s.data.toList p = false := wit_longer hp HO.out (by simp)
      have hwa : ∀ w1, Calls Tryd.prog 16 #[.string (tx p), .string s] w1 fun e w' => e = .returned (.bool true) ∧ Below w1.heap.size w1 w' := fun w1 => by
        have := within_any (tx p) s w1 (by rw [tx_size]; omega) (by have := HSZ.out; omega)
        rw [data_tx, hwf] at this
        exact this
      have hwb : ∀ w1, Calls Tryd.prog 16 #[.string s, .string (tx p)] w1 fun e w' => e = .returned (.bool false) ∧ Below w1.heap.size w1 w' := fun w1 => by
        have := within_any s (tx p) w1 (by have := HSZ.out; omega) (by rw [tx_size]; omega)
        rw [data_tx, hwl] at this
        exact this
      have HWA := Lib.hid hwa
      have HWB := Lib.hid hwb
      clear hjo hp hpl hwf hwl hwa hwb
      go_wp2_with (fail)
      refine hj.mono ?_
      rintro e w8 ⟨hv, hb8⟩
      cases hv
      have HB8 := Lib.hid (HB7.out.trans (hb8.mono HB7.out.size))
      clear hb8 hj
      go_wp2_with (fail)
      refine (HWA.out w8).mono ?_
      rintro e w9 ⟨rfl, hb9⟩
      have HB9 := Lib.hid (HB8.out.trans (hb9.mono HB8.out.size))
      clear hb9
      go_wp2_with (fail)
      refine (HWB.out w9).mono ?_
      rintro e w10 ⟨rfl, hb10⟩
      have HB10 := Lib.hid (HB9.out.trans (hb10.mono HB9.out.size))
      clear hb10
      go_wp2_with (fail)
      go_ret
      exact ⟨rfl, HB10.out⟩
end Go.Proofs.YthoblenoijkglaaDoor
