/-
  The statements' first line: paths that the document fixes.
-/
import Derived.Test.YthoblenoijkglaaDoorWi
import Derived.Test.YthoblenoijkglaaDoorTs
namespace Go.Proofs.YthoblenoijkglaaDoor
open Go.RowKit
set_option linter.unusedVariables false
set_option linter.unusedSimpArgs false

theorem al1 : spl (⟨#[47, 97, 47, 98]⟩ : ByteArray).data.toList = some [[97], [98]] := by decide
theorem al2 : spl (⟨#[47, 97, 47]⟩ : ByteArray).data.toList = none := by decide
theorem al3 : nmB (⟨#[120]⟩ : ByteArray).data.toList = true := by decide
theorem al4 : nmB (⟨#[46, 46]⟩ : ByteArray).data.toList = false := by decide
theorem al5 : wit (⟨#[47, 97, 47, 98]⟩ : ByteArray).data.toList (⟨#[47, 97]⟩ : ByteArray).data.toList = true := by decide
theorem al6 : wit (⟨#[47, 97, 98]⟩ : ByteArray).data.toList (⟨#[47, 97]⟩ : ByteArray).data.toList = false := by decide
theorem sts_two {w : World} {g : Nat} (x y : ByteArray) (h : w.heap.size = g) : Sts (w.alloc (.cells #[.string x, .string y] 9 (0, 0))) (some ⟨g, 0, none⟩) 2 [x.data.toList, y.data.toList] := by
  subst h
  exact ⟨rfl, .inr ⟨_, 0, rfl, by simp, fun i hi => by
    rcases (by omega : i = 0 ∨ i = 1) with rfl | rfl <;> simp [tat, tx_data]⟩⟩
set_option maxHeartbeats 4000000 in
theorem alive_any (w : World) : Calls Tryd.prog 7 #[] w fun e w' => e = .returned (.bool true) ∧ Below w.heap.size w w' := by
  have hc1 := split_any ⟨#[47, 97, 47, 98]⟩ w (by decide)
  rw [al1] at hc1
  go_enter Tryd.func7, Tryd.ntmps7
  go_wp2_with (fail)
  refine hc1.mono ?_
  rintro e w1 ⟨⟨v, he, ho⟩, hb1⟩
  subst he
  obtain ⟨a1, c1, rfl, hS1, _⟩ := ho.sts
  have hc2 := split_any ⟨#[47, 97, 47]⟩ w1 (by decide)
  rw [al2] at hc2
  have HB1 := Lib.hid hb1
  have HS1 := Lib.hid hS1
  clear hc1 hb1 ho hS1
  go_wp2_with (fail)
  refine hc2.mono ?_
  rintro e w2 ⟨h2, hb2⟩
  cases h2
  have HB2 := Lib.hid (HB1.out.trans (hb2.mono HB1.out.size))
  have HB2' := Lib.hid (HB2.out.alloc HB2.out.size (.cells #[.string ⟨#[97]⟩, .string ⟨#[98]⟩] 9))
  have hst := sameT_any a1 (some ⟨w2.heap.size, 0, none⟩) 2 2 c1 2 [[97], [98]] [[97], [98]] (w2.alloc (.cells #[.string ⟨#[97]⟩, .string ⟨#[98]⟩] 9)) ((HS1.out.next hb2).alloc _) (sts_two (w := w2) ⟨#[97]⟩ ⟨#[98]⟩ rfl) (by omega) (by omega)
  rw [show decide (([[97], [98]] : List (List UInt8)) = [[97], [98]]) = true from rfl] at hst
  clear hc2 hb2
  go_wp2_with (fail)
  refine hst.mono ?_
  rintro e w3 ⟨rfl, hb3⟩
  have HB3 := Lib.hid (HB2'.out.trans (hb3.mono HB2'.out.size))
  have hn1 := name_any ⟨#[120]⟩ w3
  rw [al3] at hn1
  clear hst hb3
  go_wp2_with (fail)
  refine hn1.mono ?_
  rintro e w4 ⟨rfl, hb4⟩
  have HB4 := Lib.hid (HB3.out.trans (hb4.mono HB3.out.size))
  have hn2 := name_any ⟨#[46, 46]⟩ w4
  rw [al4] at hn2
  clear hn1 hb4
  go_wp2_with (fail)
  refine hn2.mono ?_
  rintro e w5 ⟨rfl, hb5⟩
  have HB5 := Lib.hid (HB4.out.trans (hb5.mono HB4.out.size))
  have hw1 := within_any ⟨#[47, 97, 47, 98]⟩ ⟨#[47, 97]⟩ w5 (by decide) (by decide)
  rw [al5] at hw1
  clear hn2 hb5
  go_wp2_with (fail)
  refine hw1.mono ?_
  rintro e w6 ⟨rfl, hb6⟩
  have HB6 := Lib.hid (HB5.out.trans (hb6.mono HB5.out.size))
  have hw2 := within_any ⟨#[47, 97, 98]⟩ ⟨#[47, 97]⟩ w6 (by decide) (by decide)
  rw [al6] at hw2
  clear hw1 hb6
  go_wp2_with (fail)
  refine hw2.mono ?_
  rintro e w7 ⟨rfl, hb7⟩
  have HB7 := Lib.hid (HB6.out.trans (hb7.mono HB6.out.size))
  clear hw2 hb7
  go_wp2_with (fail)
  go_ret
  exact ⟨rfl, HB7.out⟩
end Go.Proofs.YthoblenoijkglaaDoor
