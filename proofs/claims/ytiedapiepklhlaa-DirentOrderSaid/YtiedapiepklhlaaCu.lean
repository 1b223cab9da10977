/-
  Cut of the program and of the document, by contract.
-/
import Derived.Test.YtiedapiepklhlaaDf
namespace Go.Proofs.Ytiedapiepklhlaa
open Go.RowKit
set_option linter.unusedVariables false
set_option linter.unusedSimpArgs false

theorem enters_cut (args : Array Value) (w : World) : (callFunc 35 args).run Try.prog w = .ok (.enter 35 args) w := enters_of (P := Try.prog) Try.func35 (by kernel_rfl) rfl args w
set_option maxHeartbeats 1000000 in
/-- Cut's closure: has the entry this name? -/
theorem gives_cut (b : Nat) (n : ByteArray) (w0 : World) (hlt : b < w0.heap.size) (hc : w0.cell? ⟨b, 0, none⟩ = some (.string n)) : Gives 35 #[.pointer (some ⟨b, 0, none⟩)] (fun x => beqS x.s n) w0 := by
  intro x w hb
  obtain ⟨s, i⟩ := x
  have c1 := (hb.cell (p := ⟨b, 0, none⟩) hlt).trans hc
  have hbs := hb.size
  have hb2 : b < w.heap.size := by omega
  have HB := Lib.hid ((Below.refl w.heap.size w).alloc (Nat.le_refl _) (.cells #[.string s, .int .i64 i] 36 (0, 0)))
  unfold env
  simp only
  show Calls Try.prog 35 #[.agg #[.string s, .int .i64 i], .pointer (some ⟨b, 0, none⟩)] w _
  clear hb hc hlt hbs
  go_enter Try.func35, Try.ntmps35
  go_wp2_with (fail)
  go_ret
  exact ⟨rfl, HB.out⟩
set_option maxHeartbeats 2000000 in
theorem cut_any (a : Option Addr) (n c : Nat) (L : List En) (s : ByteArray) (w : World) (h : Ens w a n L) (hn : n ≤ 100000) (hs : Fit L) :
    Calls Try.prog 23 #[.slice a n c, .string s] w (InsPost w.heap.size w (ecut L s).length (ecut L s)) := by
  have hb0 : Below w.heap.size w (w.alloc (.cells #[.string s] 9 (0, 0))) := (Below.refl _ _).alloc (Nat.le_refl _) _
  have hcp := copies_any a n c L (w.alloc (.cells #[.string s] 9 (0, 0))) (h.next hb0) (by omega) hs
  have HG := Lib.hid (gives_cut w.heap.size s (w.alloc (.cells #[.string s] 9 (0, 0))) (by simp) (by simp))
  have HB := Lib.hid hb0
  clear h hb0
  go_enter Try.func23, Try.ntmps23
  go_wp2_with (fail)
  refine hcp.mono ?_
  rintro e w1 ⟨v, rfl, ho, hb1⟩
  have hdel := delete_any _ #[.pointer (some ⟨w.heap.size, 0, none⟩)] enters_cut _ _ w1 HG.out hb1 v n L ho (by omega)
  clear ho hb1 hcp
  go_wp2_with (fail)
  refine hdel.mono ?_
  rintro e w2 ⟨v2, rfl, ho2, hb2⟩
  have HO2 := Lib.hid (ho2.lower HB.out.size)
  have HB2 := Lib.hid (HB.out.trans (hb2.mono HB.out.size))
  clear ho2 hb2 hdel
  go_wp2_with (fail)
  go_ret
  exact ⟨_, rfl, HO2.out, HB2.out⟩
theorem cut_step {L : List En} {k : Nat} {s : ByteArray} (hk : k < L.length) : ecut (L.take (k + 1)) s = ecut (L.take k) s ++ (if beqS (eat L k).s s then [] else [eat L k]) := filter_step (p := fun x => beqS x.s s) hk
theorem ecut_le (L : List En) (s : ByteArray) : (ecut L s).length ≤ L.length := List.length_filter_le _ _
set_option maxHeartbeats 2000000 in
theorem rcut_any (a : Option Addr) (n c : Nat) (L : List En) (s : ByteArray) (w : World) (h : Ens w a n L) (hn : n ≤ 100000) :
    Calls Try.prog 24 #[.slice a n c, .string s] w (InsPost w.heap.size w (ecut L s).length (ecut L s)) := by
  have hl := h.len
  subst hl
  have HH := Lib.hid h
  clear h
  go_enter Try.func24, Try.ntmps24
  go_wp2_with (fail)
  go_loopw [5, 6] (fun v5 v wr => ∃ k : Nat, k ≤ L.length ∧ v = .int .i64 k ∧ OwnE wr w.heap.size v5 (ecut (L.take k) s).length (ecut (L.take k) s) ∧ Below w.heap.size w wr) (fun _ v _ => L.length - (RowKit.intOf v).toNat)
  case atStart => exact ⟨0, by omega, rfl, ownE_none w _ (Nat.le_refl _), (Below.refl _ _).alloc (Nat.le_refl _) _⟩
  case round =>
    obtain ⟨k, hk, rfl, hO, hB⟩ := hrel
    have HO := Lib.hid hO
    have HB := Lib.hid hB
    by_cases hlt : k < L.length
    · have k1 : (k : Int) < (L.length : Int) := by omega
      have k0 : (0 : Int) ≤ (k : Int) := by omega
      obtain ⟨b, off, rfl, hbl, hd1, hd2⟩ := (HH.out.next hB).at hlt
      have hst := cut_step (s := s) hlt
      obtain ⟨va, vc, rfl, _⟩ := hO.ens
      clear hO hB hbl
      cases hb : ((eat L k).s.toList == s.toList) with
      | true =>
        have hb' : beqS (eat L k).s s = true := hb
        rw [hb', if_pos rfl, List.append_nil] at hst
        have HST := Lib.hid hst
        have hb2 : ((eat L k).s.toList != s.toList) = false := by rw [bne, hb]; rfl
        clear hst hb'
        go_wp2_with (fail)
        go_roundw
        case rel => exact ⟨k + 1, by omega, by go_num, by rw [HST.out]; exact HO.out, HB.out⟩
        case measure => simp [RowKit.intOf]; omega
      | false =>
        have hb' : beqS (eat L k).s s = false := hb
        rw [hb', if_neg (by decide)] at hst
        have HST := Lib.hid hst
        have hb2 : ((eat L k).s.toList != s.toList) = true := by rw [bne, hb]; rfl
        have HO1 := Lib.hid (HO.out.alloc (.cells #[.string (eat L k).s, .int .i64 (eat L k).i] 36 (0, 0)))
        have HB1 := Lib.hid (HB.out.alloc HB.out.size (.cells #[.string (eat L k).s, .int .i64 (eat L k).i] 36 (0, 0)))
        have HM := Lib.hid (ens_one (w := wr) (g := wr.heap.size) (eat L k).s (eat L k).i rfl)
        have hsz := HB.out.size
        have hle := Nat.le_trans (ecut_le (L.take k) s) (by rw [List.length_take]; omega : (L.take k).length ≤ 100000)
        clear hst hb'
        go_wp2_with (at_builtin; go_must (refine wpList_ape rfl (.tmp 21) (.tmp 26) rfl w.heap.size _ (ecut (L.take k) s).length (ecut (L.take k) s) rfl HO1.out (some ⟨wr.heap.size, 0, none⟩) 1 1 [eat L k] rfl HM.out (fun h => by cases h) (by omega) (by simp; omega) w HB1.out ?_); intro v4 w4 ho4 hb4)
        have HO4 := Lib.hid ho4
        have HB4 := Lib.hid hb4
        clear ho4 hb4
        go_roundw
        case rel => exact ⟨k + 1, by omega, by go_num, by rw [HST.out, List.length_append]; exact HO4.out, HB4.out⟩
        case measure => simp [RowKit.intOf]; omega
    · obtain rfl : k = L.length := by omega
      have k1 : ¬ (L.length : Int) < (L.length : Int) := by omega
      rw [List.take_of_length_le (Nat.le_refl _)] at hO
      have HO2 := Lib.hid hO
      clear hO hB
      go_wp2_with (fail)
      go_ret
      exact ⟨_, rfl, HO2.out, HB.out⟩
end Go.Proofs.Ytiedapiepklhlaa
