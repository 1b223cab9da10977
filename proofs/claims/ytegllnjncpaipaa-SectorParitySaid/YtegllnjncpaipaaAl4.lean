/-
  The laws' 'alive', by contract.
-/
import Derived.Test.YtegllnjncpaipaaPar
namespace Go.Proofs.Ytegllnjncpaipaa
open Go.RowKit

def secA : List Int := [7, 0, 0, 0, 2, 0, 3, 0, 9] ++ List.replicate 55 0
def secB : List Int := [7, 0, 0, 0, 0, 0, 0, 0, 1, 1] ++ List.replicate 54 0
def secP : List Int := [7, 0, 0, 0, 2, 0, 3, 0, 8, 1] ++ List.replicate 54 0
theorem encA : encL 7 2 3 [9] = secA ∧ encO 7 2 3 [9] = true := ⟨by kernel_rfl, by kernel_rfl⟩
theorem encB : encL 7 0 0 [1, 1] = secB ∧ encO 7 0 0 [1, 1] = true := ⟨by kernel_rfl, by kernel_rfl⟩
theorem parA (a b : Option Addr) (n c m d : Nat) : parL (row2 ⟨a, n, c, secA⟩ ⟨b, m, d, secB⟩) 2 = secP ∧ oneSeq (row2 ⟨a, n, c, secA⟩ ⟨b, m, d, secB⟩) 2 = true := ⟨by kernel_rfl, by kernel_rfl⟩
theorem resA (a b : Option Addr) (n c m d : Nat) : parL (row2 ⟨a, n, c, secB⟩ ⟨b, m, d, secP⟩) 2 = secA ∧ oneSeq (row2 ⟨a, n, c, secB⟩ ⟨b, m, d, secP⟩) 2 = true := ⟨by kernel_rfl, by kernel_rfl⟩


set_option maxHeartbeats 2000000 in
theorem alive_any (w : World) : Calls Try.prog 8 #[] w fun e w' => e = .returned (.bool true) ∧ Below w.heap.size w w' := by
  go_enter Try.func8, Try.ntmps8
  go_wp2_with (fail)
  have q1 := enc_any 7 2 3 (some ⟨w.heap.size, 0, none⟩) 1 1 [9] _ (bys_one w (z := 9) (by omega))
  rw [encA.1, encA.2] at q1
  refine q1.mono ?_
  rintro e w1 ⟨a1, n1, c1, rfl, hp1, hb1⟩
  clear q1
  obtain rfl : n1 = 64 := hp1.len.symm
  have hB1 : Below w.heap.size w w1 := ((Below.refl _ _).alloc (Nat.le_refl _) _).trans (hb1.mono (by simp))
  clear hb1
  go_wp2_with (fail)
  have q2 := enc_any 7 0 0 (some ⟨w1.heap.size, 0, none⟩) 2 2 [1, 1] _ (bys_lit (w := w1) (cs := #[.int .u8 1, .int .u8 1]) rfl rfl rfl (fun z hz => by simp at hz; omega))
  rw [encB.1, encB.2] at q2
  refine q2.mono ?_
  rintro e w2 ⟨a2, n2, c2, rfl, hp2, hb2⟩
  clear q2
  obtain rfl : n2 = 64 := hp2.len.symm
  have hB2 : Below w.heap.size w w2 := (hB1.alloc hB1.size _).trans (hb2.mono (by have := hB1.size; simp; omega))
  have hp1 := (hp1.alloc (.cells #[.int .u8 1, .int .u8 1] 5)).next hb2
  clear hb2 hB1
  go_wp2_with (fail)
  have q3 := par_any (some ⟨w2.heap.size, 0, none⟩) 2 2 _ _ (rws_two (t := 24) hp1 hp2) (by omega)
  rw [(parA _ _ _ _ _ _).1, (parA _ _ _ _ _ _).2] at q3
  refine q3.mono ?_
  rintro e w3 ⟨a3, n3, c3, rfl, hp3, hb3⟩
  clear q3
  obtain rfl : n3 = 64 := hp3.len.symm
  have hB3 : Below w.heap.size w w3 := (hB2.alloc hB2.size _).trans (hb3.mono (by have := hB2.size; simp; omega))
  have hp1 := (hp1.alloc (.cells #[.slice a1 64 c1, .slice a2 64 c2] 24)).next hb3
  have hp2 := (hp2.alloc (.cells #[.slice a1 64 c1, .slice a2 64 c2] 24)).next hb3
  clear hb3 hB2
  go_wp2_with (fail)
  have q4 := restore_any (some ⟨w3.heap.size, 0, none⟩) 2 2 _ _ (rws_two (t := 24) hp2 hp3) (by omega)
  rw [(resA _ _ _ _ _ _).1, (resA _ _ _ _ _ _).2] at q4
  refine q4.mono ?_
  rintro e w4 ⟨a4, n4, c4, rfl, hp4, hb4⟩
  clear q4
  obtain rfl : n4 = 64 := hp4.len.symm
  have hB4 : Below w.heap.size w w4 := (hB3.alloc hB3.size _).trans (hb4.mono (by have := hB3.size; simp; omega))
  have hp1 := (hp1.alloc (.cells #[.slice a2 64 c2, .slice a3 64 c3] 24)).next hb4
  clear hb4 hB3
  obtain ⟨b, off, rfl, hlt, hc⟩ := hp1.at (by omega)
  have g0 : w4.cell? ⟨b, off, none⟩ = some (.int .u8 7) := hc 0 (by omega)
  have g8 : w4.cell? ⟨b, off + 8, none⟩ = some (.int .u8 9) := hc 8 (by omega)
  clear hc
  go_wp2_with (fail)
  refine (same_eq _ _ 64 c1 c4 _ _ w4 hp1.bys hp4.bys (by omega) rfl).mono ?_
  rintro e w5 ⟨rfl, hb5⟩
  go_wp2_with (fail)
  go_ret
  exact ⟨rfl, hB4.trans (hb5.mono hB4.size)⟩

end Go.Proofs.Ytegllnjncpaipaa
