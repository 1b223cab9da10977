/-
  The statements' first line: entries that the document fixes.
-/
import Derived.Test.YtiedapiepklhlaaRd
import Derived.Test.YtiedapiepklhlaaSame
import Derived.Test.YtiedapiepklhlaaRp
namespace Go.Proofs.Ytiedapiepklhlaa
open Go.RowKit
set_option linter.unusedVariables false
set_option linter.unusedSimpArgs false

theorem al1 : rgt [⟨⟨#[97, 98]⟩, 3⟩] = true := by decide
theorem al2 : encO [⟨⟨#[97, 98]⟩, 3⟩] = [3, 0, 2, 97, 98] := by unfold encO; rw [al1]; decide
theorem blt_data (x y : ByteArray) : blt x y = Op.bytesLess x.data.toList y.data.toList := by unfold blt; rw [Lib.toList_data, Lib.toList_data]
theorem beqS_data (x y : ByteArray) : beqS x y = (x.data.toList == y.data.toList) := by unfold beqS; rw [Lib.toList_data, Lib.toList_data]
theorem al3 : eput [⟨⟨#[98]⟩, 1⟩] ⟨⟨#[97]⟩, 2⟩ = [⟨⟨#[97]⟩, 2⟩, ⟨⟨#[98]⟩, 1⟩] := by
  have h1 : blt ⟨#[98]⟩ ⟨#[97]⟩ = false := by rw [blt_data]; decide
  have h2 : beqS ⟨#[98]⟩ ⟨#[97]⟩ = false := by rw [beqS_data]; decide
  have h0 : efix [⟨⟨#[98]⟩, 1⟩] ⟨#[97]⟩ = 0 := (LowTo.zero _ _).here (by decide) h1
  have hh : ehas [⟨⟨#[98]⟩, 1⟩] ⟨#[97]⟩ = false := by
    rw [ehas_at (by rw [h0]; decide), h0]
    exact h2
  rw [eput_not hh, show efix [⟨⟨#[98]⟩, 1⟩] (En.mk ⟨#[97]⟩ 2).s = 0 from h0]
  rfl
theorem al4 : (ecut [⟨⟨#[97]⟩, 2⟩, ⟨⟨#[98]⟩, 1⟩] ⟨#[98]⟩).length = 1 := by
  have h1 : beqS ⟨#[97]⟩ ⟨#[98]⟩ = false := by rw [beqS_data]; decide
  have h2 : beqS ⟨#[98]⟩ ⟨#[98]⟩ = true := beqS_refl _
  simp [ecut, h1, h2]
set_option maxHeartbeats 4000000 in
theorem alive_any (w : World) : Calls Try.prog 8 #[] w fun e w' => e = .returned (.bool true) ∧ Below w.heap.size w w' := by
  have hc1 := encode_any (some ⟨w.heap.size, 0, none⟩) 1 1 [⟨⟨#[97, 98]⟩, 3⟩] (w.alloc (.cells #[.string ⟨#[97, 98]⟩, .int .i64 3] 36 (0, 0))) (ens_one _ _ rfl) (by omega)
  rw [al1, al2] at hc1
  have HB := Lib.hid ((Below.refl w.heap.size w).alloc (Nat.le_refl _) (.cells #[.string ⟨#[97, 98]⟩, .int .i64 3] 36 (0, 0)))
  go_enter Try.func8, Try.ntmps8
  go_wp2_with (fail)
  refine hc1.mono ?_
  rintro e w1 ⟨v, rfl, ho, hb1⟩
  obtain ⟨va, vc, rfl, hz, hby, _⟩ := ho.form
  have HB1 := Lib.hid (HB.out.trans (hb1.mono HB.out.size))
  have HY1 := Lib.hid hby
  have hput := put_any (some ⟨w1.heap.size, 0, none⟩) 1 1 [⟨⟨#[98]⟩, 1⟩] ⟨⟨#[97]⟩, 2⟩ (w1.alloc (.cells #[.string ⟨#[98]⟩, .int .i64 1] 36 (0, 0))) (ens_one _ _ rfl) (by omega) (fun x hx => by rw [List.mem_singleton.1 hx]; decide) (by decide)
  rw [al3] at hput
  clear hc1 hb1 hby ho hz
  go_wp2_with (fail)
  refine hput.mono ?_
  rintro e w2 ⟨v2, rfl, ho2, hb2⟩
  have hbA : Below w1.heap.size w1 (w1.alloc (.cells #[.string ⟨#[98]⟩, .int .i64 1] 36 (0, 0))) := (Below.refl _ _).alloc (Nat.le_refl _) _
  have hb12 : Below w1.heap.size w1 w2 := hbA.trans (hb2.mono hbA.size)
  have hww := HB1.out.size
  have HB2 := Lib.hid (HB1.out.trans (hb12.mono hww))
  have HY2 := Lib.hid ((HY1.out.next hb12).alloc (.cells #[.int .u8 3, .int .u8 0, .int .u8 2, .int .u8 97, .int .u8 98] 5))
  have HO2 := Lib.hid ho2
  obtain ⟨wa, wc, rfl, hE2, _⟩ := ho2.ens
  have hlit := bys_lit (w := w2) (g := w2.heap.size) (n := 5) (zs := [3, 0, 2, 97, 98]) (cs := #[.int .u8 3, .int .u8 0, .int .u8 2, .int .u8 97, .int .u8 98]) rfl rfl rfl (fun z hz => by simp at hz; omega)
  have hsm := same_eq va (some ⟨w2.heap.size, 0, none⟩) 5 vc 5 [3, 0, 2, 97, 98] [3, 0, 2, 97, 98] (w2.alloc (.cells #[.int .u8 3, .int .u8 0, .int .u8 2, .int .u8 97, .int .u8 98] 5)) HY2.out hlit (by omega) rfl
  have hbL : Below w2.heap.size w2 (w2.alloc (.cells #[.int .u8 3, .int .u8 0, .int .u8 2, .int .u8 97, .int .u8 98] 5)) := (Below.refl _ _).alloc (Nat.le_refl _) _
  have HBL := Lib.hid hbL
  have HE2 := Lib.hid hE2
  have hws2 := HB2.out.size
  clear hput hb2 hbA hb12 ho2 hlit hbL hE2
  go_wp2_with (fail)
  refine hsm.mono ?_
  rintro e w3 ⟨rfl, hb3⟩
  have hb23 : Below w2.heap.size w2 w3 := HBL.out.trans (hb3.mono HBL.out.size)
  have HB3 := Lib.hid (HB2.out.trans (hb23.mono hws2))
  have hE3 := HE2.out.next hb23
  have hE3' := hE3
  obtain ⟨b, off, rfl, _, hd1, _⟩ := hE3.at (i := 0) (by decide)
  rw [Nat.zero_mul, Nat.add_zero] at hd1
  have hd1' : w3.cell? ⟨b, off, none⟩ = some (.string ⟨#[97]⟩) := hd1
  have hcut := cut_any (some ⟨b, off, none⟩) 2 wc [⟨⟨#[97]⟩, 2⟩, ⟨⟨#[98]⟩, 1⟩] ⟨#[98]⟩ w3 hE3' (by omega) (fun x hx => by simp at hx; rcases hx with rfl | rfl <;> decide)
  rw [al4] at hcut
  clear hsm hb3 hb23 hE3 hE3' hd1
  go_wp2_with (fail)
  refine hcut.mono ?_
  rintro e w4 ⟨v4, rfl, ho4, hb4⟩
  obtain ⟨xa, xc, rfl, _⟩ := ho4.ens
  have HB4 := Lib.hid (HB3.out.trans (hb4.mono HB3.out.size))
  clear ho4 hb4 hcut
  go_wp2_with (fail)
  go_ret
  exact ⟨rfl, HB4.out⟩
end Go.Proofs.Ytiedapiepklhlaa
