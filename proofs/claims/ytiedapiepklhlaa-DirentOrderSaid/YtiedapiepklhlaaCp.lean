/-
  Copies of entries, their comparison, their weight; by contract.
-/
import Derived.Test.YtiedapiepklhlaaFi
import Derived.Test.YtiedapiepklhlaaLay
namespace Go.Proofs.Ytiedapiepklhlaa
open Go.RowKit
set_option linter.unusedVariables false
set_option linter.unusedSimpArgs false

theorem clone_any (s : ByteArray) (w : World) (hs : s.size ≤ 281474976710656) : Calls Try.prog 32 #[.string s] w fun e w' => e = .returned (.string s) ∧ Below w.heap.size w w' := by
  have hc : Calls Try.prog 42 #[.string s] w fun e w' => e = .returned (.string s) ∧ Below w.heap.size w w' := Any.stringslite_Clone laysM316 s w hs
  go_enter Try.func32, Try.ntmps32
  go_wp2_with (fail)
  refine hc.mono ?_
  rintro e w' ⟨rfl, hb⟩
  go_wp2_with (fail)
  go_ret
  exact ⟨rfl, hb⟩
theorem take_snoc {L : List En} {k : Nat} (h : k < L.length) : L.take k ++ [eat L k] = L.take (k + 1) := by
  rw [List.take_add_one, eat_get h]; rfl
/-- No name is too long for the library. -/
def Fit (L : List En) : Prop := ∀ x ∈ L, x.s.size ≤ 1000000
theorem Fit.at {L : List En} (h : Fit L) {k : Nat} (hk : k < L.length) : (eat L k).s.size ≤ 281474976710656 := Nat.le_trans (h _ (eat_mem hk)) (by decide)
set_option maxHeartbeats 2000000 in
theorem copies_any (a : Option Addr) (n c : Nat) (L : List En) (w : World) (h : Ens w a n L) (hn : n ≤ 1000000) (hs : Fit L) :
    Calls Try.prog 31 #[.slice a n c] w fun e w' => ∃ v, e = .returned v ∧ OwnE w' w.heap.size v n L ∧ Below w.heap.size w w' := by
  have hl := h.len
  subst hl
  have HH := Lib.hid h
  have HS := Lib.hid hs
  clear h hs
  go_enter Try.func31, Try.ntmps31
  go_wp2_with (fail)
  go_loopw [3, 5, 8] (fun v3 _ v8 wr => ∃ k : Nat, k ≤ L.length ∧ v8 = .int .i64 k ∧ OwnE wr w.heap.size v3 k (L.take k) ∧ Below w.heap.size w wr) (fun _ _ v _ => L.length - (RowKit.intOf v).toNat)
  case atStart => exact ⟨0, by omega, rfl, ownE_nil _ _, Below.refl _ _⟩
  case round =>
    obtain ⟨k, hk, rfl, hO, hB⟩ := hrel
    have HB := Lib.hid hB
    have HO := Lib.hid hO
    by_cases hlt : k < L.length
    · have k1 : (k : Int) < (L.length : Int) := by omega
      have k0 : (0 : Int) ≤ (k : Int) := by omega
      obtain ⟨b, off, rfl, hbl, hd1, hd2⟩ := (HH.out.next hB).at hlt
      have hcl := clone_any (eat L k).s (wr.alloc (.cells #[.string (eat L k).s, .int .i64 (eat L k).i] 36 (0, 0))) (HS.out.at hlt)
      obtain ⟨va, vc, rfl, _, _, _, _, hlo⟩ := hO.ens
      clear hO hB hlo hbl
      go_wp2_with (fail)
      refine hcl.mono ?_
      rintro e w2 ⟨rfl, hb2⟩
      have hb1 : Below wr.heap.size wr (wr.alloc (.cells #[.string (eat L k).s, .int .i64 (eat L k).i] 36 (0, 0))) := (Below.refl _ _).alloc (Nat.le_refl _) _
      have hbw : Below wr.heap.size wr w2 := hb1.trans (hb2.mono hb1.size)
      have c0 := hb2.cell (p := ⟨wr.heap.size, 0, none⟩) (by simp)
      have c1 := hb2.cell (p := ⟨wr.heap.size, 1, none⟩) (by simp)
      have f0 := hb2.frozen (p := ⟨wr.heap.size, 0, none⟩) (by simp)
      rw [show (wr.alloc (.cells #[.string (eat L k).s, .int .i64 (eat L k).i] 36 (0, 0))).cell? ⟨wr.heap.size, 0, none⟩ = some (.string (eat L k).s) by simp] at c0
      rw [show (wr.alloc (.cells #[.string (eat L k).s, .int .i64 (eat L k).i] 36 (0, 0))).cell? ⟨wr.heap.size, 1, none⟩ = some (.int .i64 (eat L k).i) by simp] at c1
      rw [show (wr.alloc (.cells #[.string (eat L k).s, .int .i64 (eat L k).i] 36 (0, 0))).frozen? ⟨wr.heap.size, 0, none⟩ = false by simp] at f0
      have hb3 : Below wr.heap.size wr ((w2.setCell ⟨wr.heap.size, 0, none⟩ (.string (eat L k).s)).alloc (.cells #[.string (eat L k).s, .int .i64 (eat L k).i] 36 (0, 0))) :=
        (hbw.setCell (p := ⟨wr.heap.size, 0, none⟩) (Nat.le_refl _) _).alloc (by simpa using hbw.size) _
      have HO3 := Lib.hid (HO.out.next hb3)
      have HB3 := Lib.hid (HB.out.trans (hb3.mono HB.out.size))
      have HM := Lib.hid (ens_one (w := w2.setCell ⟨wr.heap.size, 0, none⟩ (.string (eat L k).s)) (g := w2.heap.size) (eat L k).s (eat L k).i (by simp))
      have hsz : w.heap.size ≤ w2.heap.size + 1 := by have := HB.out.size; have := hbw.size; omega
      clear hb1 hb2 hbw hb3 hcl
      go_wp2_with (at_builtin; go_must (refine wpList_ape rfl (.tmp 16) (.tmp 18) rfl w.heap.size _ k (L.take k) rfl HO3.out (some ⟨w2.heap.size, 0, none⟩) 1 1 [eat L k] rfl HM.out (fun h => by cases h) (by omega) (by simpa using hsz) w HB3.out ?_); intro v4 w4 ho4 hb4)
      rw [take_snoc hlt] at ho4
      have HO4 := Lib.hid ho4
      have HB4 := Lib.hid hb4
      clear ho4 hb4
      go_roundw
      case rel => exact ⟨k + 1, by omega, by go_num, HO4.out, HB4.out⟩
      case measure => simp [RowKit.intOf]; omega
    · obtain rfl : k = L.length := by omega
      have k1 : ¬ (L.length : Int) < (L.length : Int) := by omega
      rw [List.take_of_length_le (Nat.le_refl _)] at hO
      have HO2 := Lib.hid hO
      clear hO hB
      go_wp2_with (fail)
      go_ret
      exact ⟨_, rfl, HO2.out, HB.out⟩
end Go.Proofs.Ytiedapiepklhlaa
