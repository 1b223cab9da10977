/-
  Every Join, program and document, and its splitting again: the walk.
-/
import Derived.Test.YthoblenoijkglaaDoorWp
import Derived.Test.YthoblenoijkglaaDoorRj
namespace Go.Proofs.YthoblenoijkglaaDoor
open Go.RowKit
set_option linter.unusedVariables false
set_option linter.unusedSimpArgs false

/-- Two answers of Join to the same names are alike. -/
theorem JoiV.form {o : Option (List UInt8)} {e : Ending} (h : JoiV o e) :
    ∃ (x : ByteArray) (er : Int), e = .returned (.tuple #[.string x, .int .i64 er]) ∧ (o = none ∧ x = ⟨#[]⟩ ∧ er = 20 ∨ ∃ s, o = some s ∧ x = tx s ∧ er = 0) := by
  cases o with
  | none => cases h; exact ⟨_, 20, rfl, .inl ⟨rfl, rfl, rfl⟩⟩
  | some s => cases h; exact ⟨_, 0, rfl, .inr ⟨s, rfl, rfl, rfl⟩⟩
set_option maxHeartbeats 4000000 in
theorem joins_any (a : Option Addr) (n c : Nat) (L : List (List UInt8)) (W : World) (h : Sts W a n L) (hnc : n ≤ c) (hcm : c ≤ 9223372036854775807) (hz : a = none → n = 0 ∧ c = 0) (hsz : ∀ x ∈ L, x.length ≤ 140737488355328) :
    Calls Tryd.prog 4 #[.slice a n c] W fun e w' => e = .returned (.bool true) ∧ Below W.heap.size W w' := by
  have hal := alive_any W
  have hl := h.len
  subst hl
  have H := Lib.hid h
  have HSZ := Lib.hid hsz
  clear h hsz
  by_cases h5 : 1000 < L.length
  · have k5 : (1000 : Int) < (L.length : Int) := by omega
    go_enter Tryd.func4, Tryd.ntmps4
    go_wp2_with (fail)
    refine hal.mono ?_
    rintro e w1 ⟨rfl, hb1⟩
    go_wp2_with (fail)
    go_ret
    exact ⟨rfl, hb1⟩
  have k5 : ¬ (1000 : Int) < (L.length : Int) := by omega
  go_enter Tryd.func4, Tryd.ntmps4
  go_wp2_with (fail)
  refine hal.mono ?_
  rintro e w1 ⟨rfl, hb1⟩
  have HB1 := Lib.hid hb1
  have H1 := Lib.hid (H.out.next hb1)
  clear hal hb1
  go_wp2_with (fail)
  go_loopw [3, 4] (fun vs vi wr => ∃ (k m : Nat), k ≤ L.length ∧ vi = .int .i64 k ∧ vs = .int .i64 m ∧ m ≤ 20000 ∧ wr = w1) (fun _ vi _ => L.length - (RowKit.intOf vi).toNat)
  case atStart => exact ⟨0, 0, by omega, rfl, rfl, by omega, rfl⟩
  case round =>
    obtain ⟨k, m, hk, rfl, rfl, hm, rfl⟩ := hrel
    by_cases hlt : k < L.length
    · obtain ⟨b, off, rfl, hbl, hc⟩ := H1.out.at (by omega)
      have k0 : (0 : Int) ≤ (k : Int) := by omega
      have k1 : (k : Int) < (L.length : Int) := by omega
      have x1 := hc k hlt
      have hle := HSZ.out _ (tat_mem hlt)
      have hts := tx_size (tat L k)
      clear hc
      by_cases hbig : 20000 < m + (tat L k).length
      · have k6 : (20000 : Int) < (m : Int) + ((tat L k).length : Int) := by omega
        go_wp2_with (fail)
        go_ret
        exact ⟨rfl, HB1.out⟩
      · have k6 : ¬ (20000 : Int) < (m : Int) + ((tat L k).length : Int) := by omega
        go_wp2_with (fail)
        go_roundw
        case rel => exact ⟨k + 1, m + (tat L k).length, by omega, by go_num, by go_num, by omega, trivial⟩
        case measure => simp [RowKit.intOf]; omega
    · obtain rfl : k = L.length := by omega
      have hcp := copyT_any a L.length c L wr H1.out (by omega) hz
      obtain ⟨o, ho⟩ : ∃ o, joi L = o := ⟨_, rfl⟩
      have HO := Lib.hid ho
      clear ho
      go_wp2_with (fail)
      refine hcp.mono ?_
      rintro e w2 ⟨v, rfl, hown, hb2⟩
      obtain ⟨a2, c2, rfl, hS2, hnc2, _, hz2, _⟩ := hown.sts
      have HB2 := Lib.hid (HB1.out.trans (hb2.mono HB1.out.size))
      have H2 := Lib.hid (H1.out.next hb2)
      have HS2 := Lib.hid hS2
      have hj := join_any w2 a2 L.length c2 L hS2 hnc2 (fun e => (hz2 e).1)
      rw [HO.out] at hj
      clear hcp hb2 hown hS2 hz2
      go_wp2_with (fail)
      refine hj.mono ?_
      rintro e w3 ⟨hv, hb3⟩
      obtain ⟨x1, e1, rfl, hd1⟩ := hv.form
      have HB3 := Lib.hid (HB2.out.trans (hb3.mono HB2.out.size))
      have H3 := Lib.hid (H2.out.next hb3)
      have HS3 := Lib.hid (HS2.out.next hb3)
      have HD1 := Lib.hid hd1
      have hj2 := rjoin_any w3 a L.length c L H3.out
      rw [HO.out] at hj2
      clear hj hb3 hv hd1
      go_wp2_with (fail)
      refine hj2.mono ?_
      rintro e w4 ⟨hv, hb4⟩
      obtain ⟨x2, e2, rfl, hd2⟩ := hv.form
      have HB4 := Lib.hid (HB3.out.trans (hb4.mono HB3.out.size))
      have H4 := Lib.hid (H3.out.next hb4)
      have HS4 := Lib.hid (HS3.out.next hb4)
      obtain ⟨hX, hE⟩ : x1 = x2 ∧ e1 = e2 := by
        rcases HD1.out with ⟨h1, h2, h3⟩ | ⟨s, h1, h2, h3⟩ <;> rcases hd2 with ⟨g1, g2, g3⟩ | ⟨t, g1, g2, g3⟩
        · exact ⟨by rw [h2, g2], by rw [h3, g3]⟩
        · rw [h1] at g1; cases g1
        · rw [h1] at g1; cases g1
        · rw [h1] at g1; cases g1; exact ⟨by rw [h2, g2], by rw [h3, g3]⟩
      subst hX hE
      have hsm := sameT_any a2 a L.length L.length c2 c L L w4 HS4.out H4.out (by omega) (by omega)
      rw [decide_eq_true rfl] at hsm
      have hxx : (x1.toList == x1.toList) = true := by simp
      clear hj2 hb4 hv hd2
      go_wp2_with (fail)
      refine hsm.mono ?_
      rintro e w5 ⟨rfl, hb5⟩
      have HB5 := Lib.hid (HB4.out.trans (hb5.mono HB4.out.size))
      have H5 := Lib.hid (H4.out.next hb5)
      clear hb5 hsm
      rcases HD1.out with ⟨h1, rfl, rfl⟩ | ⟨s, h1, rfl, rfl⟩
      · go_wp2_with (fail)
        go_ret
        exact ⟨rfl, HB5.out⟩
      · have hsp := split_any (tx s) w5 (by
          rw [tx_size]
          have := HO.out
          rw [h1] at this
          unfold joi at this
          split at this
          · next hA => cases this; have := joi_len hA; simp; omega
          · cases this)
        rw [data_tx, spl_joi (HO.out.trans h1)] at hsp
        clear hxx
        go_wp2_with (fail)
        refine hsp.mono ?_
        rintro e w6 ⟨⟨v, he, hown⟩, hb6⟩
        subst he
        obtain ⟨a6, c6, rfl, hS6, _⟩ := hown.sts
        have HB6 := Lib.hid (HB5.out.trans (hb6.mono HB5.out.size))
        have hs6 := sameT_any a6 a L.length L.length c6 c L L w6 hS6 (H5.out.next hb6) (by omega) (by omega)
        rw [decide_eq_true rfl] at hs6
        clear hsp hb6 hown hS6
        go_wp2_with (fail)
        refine hs6.mono ?_
        rintro e w7 ⟨rfl, hb7⟩
        have HB7 := Lib.hid (HB6.out.trans (hb7.mono HB6.out.size))
        clear hs6 hb7
        go_wp2_with (fail)
        go_ret
        exact ⟨rfl, HB7.out⟩
end Go.Proofs.YthoblenoijkglaaDoor
