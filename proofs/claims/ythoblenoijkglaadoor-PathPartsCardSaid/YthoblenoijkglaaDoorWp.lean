/-
  Every Name and Split, program and document: the walk.
-/
import Derived.Test.YthoblenoijkglaaDoorAl
import Derived.Test.YthoblenoijkglaaDoorRt
namespace Go.Proofs.YthoblenoijkglaaDoor
open Go.RowKit
set_option linter.unusedVariables false
set_option linter.unusedSimpArgs false

/-- Two answers of Split to one path are alike. -/
theorem SplV.form {B : Nat} {o : Option (List (List UInt8))} {e : Ending} {w : World} (h : SplV B o e w) :
    ∃ a c, ∃ L : List (List UInt8), ∃ er : Int, e = .returned (.tuple #[.slice a L.length c, .int .i64 er]) ∧ Sts w a L.length L ∧ L.length ≤ c ∧ (a = none → L.length = 0 ∧ c = 0) ∧ (o = none ∧ L = [] ∧ er = 20 ∨ o = some L ∧ er = 0) := by
  cases o with
  | none => cases h; exact ⟨none, 0, [], 20, rfl, sts_nil _ _, Nat.le_refl _, fun _ => ⟨rfl, rfl⟩, .inl ⟨rfl, rfl, rfl⟩⟩
  | some L =>
    obtain ⟨v, rfl, ho⟩ := h
    obtain ⟨a, c, rfl, hS, hc, _, hz, _⟩ := ho.sts
    exact ⟨a, c, L, 0, rfl, hS, hc, hz, .inr ⟨rfl, rfl⟩⟩
set_option maxHeartbeats 4000000 in
theorem parts_any (s : ByteArray) (W : World) : Calls Tryd.prog 3 #[.string s] W fun e w' => e = .returned (.bool true) ∧ Below W.heap.size W w' := by
  have hal := alive_any W
  by_cases h5 : 5000 < s.size
  · have k5 : (5000 : Int) < (s.size : Int) := by omega
    go_enter Tryd.func3, Tryd.ntmps3
    go_wp2_with (fail)
    refine hal.mono ?_
    rintro e w1 ⟨rfl, hb1⟩
    go_wp2_with (fail)
    go_ret
    exact ⟨rfl, hb1⟩
  have k5 : ¬ (5000 : Int) < (s.size : Int) := by omega
  obtain ⟨o, ho⟩ : ∃ o, spl s.data.toList = o := ⟨_, rfl⟩
  have h8 : ∀ L, o = some L → L.length ≤ 8 := fun L h => arP_len (spl_arP (ho.trans h))
  have H8 := Lib.hid h8
  obtain ⟨q, hq⟩ : ∃ q, nmB s.data.toList = q := ⟨_, rfl⟩
  have hc1 := fun w1 => split_any s w1 (by omega)
  have hc2 := fun w1 => rsplit_any s w1 (by omega)
  have hn1 := fun w1 => name_any s w1
  have hn2 := fun w1 => rname_any s w1
  simp only [ho] at hc1 hc2
  simp only [hq] at hn1 hn2
  have H1 := Lib.hid hc1
  have H2 := Lib.hid hc2
  have H3 := Lib.hid hn1
  have H4 := Lib.hid hn2
  clear hc1 hc2 hn1 hn2 ho hq h5 h8
  go_enter Tryd.func3, Tryd.ntmps3
  go_wp2_with (fail)
  refine hal.mono ?_
  rintro e w1 ⟨rfl, hb1⟩
  have HB1 := Lib.hid hb1
  clear hal hb1
  go_wp2_with (fail)
  refine (H1.out w1).mono ?_
  rintro e w2 ⟨hv, hb2⟩
  obtain ⟨a1, c1, L1, e1, rfl, hS1, _, _, hd1⟩ := hv.form
  have HB2 := Lib.hid (HB1.out.trans (hb2.mono HB1.out.size))
  have HS1 := Lib.hid hS1
  have HD1 := Lib.hid hd1
  clear hb2 hv hS1 hd1
  go_wp2_with (fail)
  refine (H2.out w2).mono ?_
  rintro e w3 ⟨hv, hb3⟩
  obtain ⟨a2, c2, L2, e2, rfl, hS2, _, _, hd2⟩ := hv.form
  have HB3 := Lib.hid (HB2.out.trans (hb3.mono HB2.out.size))
  have HS1' := Lib.hid (HS1.out.next hb3)
  obtain ⟨hL, hE⟩ : L1 = L2 ∧ e1 = e2 := by
    rcases HD1.out with ⟨h1, h2, h3⟩ | ⟨h1, h3⟩ <;> rcases hd2 with ⟨g1, g2, g3⟩ | ⟨g1, g3⟩
    · exact ⟨by rw [h2, g2], by rw [h3, g3]⟩
    · rw [h1] at g1; cases g1
    · rw [h1] at g1; cases g1
    · rw [h1] at g1; exact ⟨Option.some.inj g1, by rw [h3, g3]⟩
  subst hL hE
  have hlen : L1.length ≤ 8 := by
    rcases HD1.out with ⟨h1, h2, h3⟩ | ⟨h1, h3⟩
    · rw [h2]; simp
    · exact H8.out _ h1
  have HS2 := Lib.hid hS2
  clear hb3 hv hS2 hd2
  go_wp2_with (fail)
  refine (H3.out w3).mono ?_
  rintro e w4 ⟨rfl, hb4⟩
  have HB4 := Lib.hid (HB3.out.trans (hb4.mono HB3.out.size))
  have hsm := sameT_any a1 a2 L1.length L1.length c1 c2 L1 L1 w4 (HS1'.out.next hb4) (HS2.out.next hb4) (by omega) (by omega)
  rw [decide_eq_true rfl] at hsm
  clear hb4
  go_wp2_with (fail)
  refine (H4.out w4).mono ?_
  rintro e w5 ⟨rfl, rfl⟩
  go_wp2_with (fail)
  refine hsm.mono ?_
  rintro e w6 ⟨rfl, hb6⟩
  have HB6 := Lib.hid (HB4.out.trans (hb6.mono HB4.out.size))
  clear hb6 hsm
  go_wp2_with (fail)
  go_ret
  exact ⟨rfl, HB6.out⟩
end Go.Proofs.YthoblenoijkglaaDoor
