/-
  DirentBack, walked.
-/
import Derived.Test.YtiedapiepklhlaaWc
namespace Go.Proofs.Ytiedapiepklhlaa
open Go.RowKit
set_option linter.unusedVariables false
set_option linter.unusedSimpArgs false

theorem decode_none {a : Option Addr} {n c : Nat} {z0 : List Int} {w : World} (h : Pin w a n c z0) (hn : n ≤ 1000000) (hd : decO z0 = none) :
    Calls Try.prog 13 #[.slice a n c] w fun e w' => ∃ v, e = .returned (.tuple #[v, .bool false]) ∧ OwnE w' w.heap.size v 0 [] ∧ Below w.heap.size w w' := by
  have := decode_any a n c z0 w h hn
  rw [hd] at this
  exact this
theorem decode_some {a : Option Addr} {n c : Nat} {z0 : List Int} {w : World} {M : List En} (h : Pin w a n c z0) (hn : n ≤ 1000000) (hd : decO z0 = some M) :
    Calls Try.prog 13 #[.slice a n c] w fun e w' => ∃ v, e = .returned (.tuple #[v, .bool true]) ∧ OwnE w' w.heap.size v M.length M ∧ Below w.heap.size w w' := by
  have := decode_any a n c z0 w h hn
  rw [hd] at this
  exact this
theorem encode_no {a : Option Addr} {n c : Nat} {L : List En} {w : World} (h : Ens w a n L) (hn : n ≤ 1000000) (hr : rgt L = false) :
    Calls Try.prog 11 #[.slice a n c] w fun e w' => ∃ v, e = .returned (.tuple #[v, .bool false]) ∧ Own w' w.heap.size v 0 [] ∧ Below w.heap.size w w' := by
  have := encode_any a n c L w h hn
  rw [hr, show encO L = [] by unfold encO; rw [hr]; rfl] at this
  exact this
theorem encode_yes {a : Option Addr} {n c : Nat} {L : List En} {w : World} (h : Ens w a n L) (hn : n ≤ 1000000) (hr : rgt L = true) :
    Calls Try.prog 11 #[.slice a n c] w fun e w' => ∃ v, e = .returned (.tuple #[v, .bool true]) ∧ Own w' w.heap.size v (encL L).length (encL L) ∧ Below w.heap.size w w' := by
  have := encode_any a n c L w h hn
  rw [hr, show encO L = encL L by unfold encO; rw [hr]; rfl] at this
  exact this
theorem encL_small {L : List En} (h : rgt L = true) : (encL L).length ≤ 1000 := by
  have := encL_len (rgt_all h).2.1
  have := (rgt_all h).1
  omega
set_option maxHeartbeats 4000000 in
theorem back_any (a0 : Option Addr) (n0 c0 : Nat) (L : List En) (a1 : Option Addr) (n1 c1 : Nat) (x1 : List Int) (W : World) (h0 : Ens W a0 n0 L) (m0 : n0 ≤ 9223372036854775807) (r0 : ∀ x ∈ L, x.s.size ≤ 4611686018427387904) (h1 : Pin W a1 n1 c1 x1) :
    Calls Try.prog 5 #[.slice a0 n0 c0, .slice a1 n1 c1] W fun e w' => e = .returned (.bool true) ∧ Below W.heap.size W w' := by
  have ha := alive_any W
  have H0 := Lib.hid h0
  have H1 := Lib.hid h1
  have hl := h0.len
  have hl1 := h1.len
  have R0 := Lib.hid r0
  clear h0 h1 r0
  go_enter Try.func5, Try.ntmps5
  go_wp2_with (fail)
  refine ha.mono ?_
  rintro e w1 ⟨rfl, hb1⟩
  have K1 := Lib.hid hb1
  have hlo := long_any a0 n0 c0 L w1 (H0.out.next hb1) m0 R0.out
  clear ha hb1
  go_wp2_with (fail)
  refine hlo.mono ?_
  rintro e w' ⟨r, rfl, hr, rfl⟩
  cases r with
  | true =>
    clear hlo hr
    go_wp2_with (fail)
    go_ret
    exact ⟨rfl, K1.out⟩
  | false =>
    have HS := Lib.hid (hr rfl)
    have hn0 : n0 ≤ 300 := by have := HS.out.1; omega
    clear hlo hr
    by_cases h5 : 5000 < n1
    · have k5 : (5000 : Int) < (n1 : Int) := by omega
      go_wp2_with (fail)
      go_ret
      exact ⟨rfl, K1.out⟩
    have k5 : ¬ (5000 : Int) < (n1 : Int) := by omega
    cases hrg : rgt L with
    | false =>
      have hen := encode_no (c := c0) (H0.out.next K1.out) (by omega) hrg
      go_wp2_with (fail)
      refine hen.mono ?_
      rintro e w2 ⟨v2, rfl, ho2, hb2⟩
      have K2 := Lib.hid (bt K1.out hb2)
      clear hen ho2 hb2
      cases hod : decO x1 with
      | none =>
        have hde := decode_none (H1.out.next K2.out) (by omega) hod
        clear hod
        go_wp2_with (fail)
        refine hde.mono ?_
        rintro e wY ⟨vY, rfl, hoY, hbY⟩
        obtain ⟨aY, cY, rfl, _⟩ := hoY.ens
        have KY := Lib.hid (bt K2.out hbY)
        clear hde hoY hbY
        go_wp2_with (fail)
        go_ret
        exact ⟨rfl, KY.out⟩
      | some M =>
        have hde := decode_some (H1.out.next K2.out) (by omega) hod
        obtain ⟨hrM, heM⟩ := encO_dec H1.out.bys.small hod
        have hM64 := (rgt_all hrM).1
        have HRM := Lib.hid hrM
        have HEM := Lib.hid heM
        clear hod hrM heM
        go_wp2_with (fail)
        refine hde.mono ?_
        rintro e wY ⟨vY, rfl, hoY, hbY⟩
        obtain ⟨aY, cY, rfl, heY, _⟩ := hoY.ens
        have KY := Lib.hid (bt K2.out hbY)
        have hen2 := encode_yes (c := cY) heY (by omega) HRM.out
        rw [HEM.out, hl1] at hen2
        clear hde hoY hbY heY
        go_wp2_with (fail)
        refine hen2.mono ?_
        rintro e wZ ⟨vZ, rfl, hoZ, hbZ⟩
        obtain ⟨aZ, cZ, rfl, zZ, hyZ, _⟩ := hoZ.form
        have KZ := Lib.hid (bt KY.out hbZ)
        have hsb := same_eq aZ a1 n1 cZ c1 x1 x1 wZ hyZ (H1.out.next KZ.out).bys (by omega) rfl
        clear hen2 hoZ hbZ hyZ zZ
        go_wp2_with (fail)
        refine hsb.mono ?_
        rintro e wV ⟨rfl, hbV⟩
        have KV := Lib.hid (bt KZ.out hbV)
        clear hsb hbV
        go_wp2_with (fail)
        go_ret
        exact ⟨rfl, KV.out⟩
    | true =>
      have hen := encode_yes (c := c0) (H0.out.next K1.out) (by omega) hrg
      have hsm := encL_small hrg
      have HRG := Lib.hid hrg
      clear hrg
      go_wp2_with (fail)
      refine hen.mono ?_
      rintro e w2 ⟨v2, rfl, ho2, hb2⟩
      obtain ⟨a2, c2, rfl, hp2, _⟩ := ho2.pin
      have K2 := Lib.hid (bt K1.out hb2)
      have hd2 := decode_some hp2 (by omega) (decO_enc HRG.out)
      rw [hl] at hd2
      clear hen ho2 hb2 hp2
      go_wp2_with (fail)
      refine hd2.mono ?_
      rintro e w3 ⟨v3, rfl, ho3, hb3⟩
      obtain ⟨a3, c3, rfl, he3, _⟩ := ho3.ens
      have K3 := Lib.hid (bt K2.out hb3)
      have hs1 := sameE_any a3 a0 n0 n0 c3 c0 L L w3 he3 (H0.out.next K3.out) (by omega) (by omega)
      rw [sameE_refl] at hs1
      clear hd2 ho3 hb3 he3
      go_wp2_with (fail)
      refine hs1.mono ?_
      rintro e w4 ⟨rfl, hb4⟩
      have K4 := Lib.hid (bt K3.out hb4)
      clear hs1 hb4
      cases hod : decO x1 with
      | none =>
        have hde := decode_none (H1.out.next K4.out) (by omega) hod
        clear hod
        go_wp2_with (fail)
        refine hde.mono ?_
        rintro e wY ⟨vY, rfl, hoY, hbY⟩
        obtain ⟨aY, cY, rfl, _⟩ := hoY.ens
        have KY := Lib.hid (bt K4.out hbY)
        clear hde hoY hbY
        go_wp2_with (fail)
        go_ret
        exact ⟨rfl, KY.out⟩
      | some M =>
        have hde := decode_some (H1.out.next K4.out) (by omega) hod
        obtain ⟨hrM, heM⟩ := encO_dec H1.out.bys.small hod
        have hM64 := (rgt_all hrM).1
        have HRM := Lib.hid hrM
        have HEM := Lib.hid heM
        clear hod hrM heM
        go_wp2_with (fail)
        refine hde.mono ?_
        rintro e wY ⟨vY, rfl, hoY, hbY⟩
        obtain ⟨aY, cY, rfl, heY, _⟩ := hoY.ens
        have KY := Lib.hid (bt K4.out hbY)
        have hen2 := encode_yes (c := cY) heY (by omega) HRM.out
        rw [HEM.out, hl1] at hen2
        clear hde hoY hbY heY
        go_wp2_with (fail)
        refine hen2.mono ?_
        rintro e wZ ⟨vZ, rfl, hoZ, hbZ⟩
        obtain ⟨aZ, cZ, rfl, zZ, hyZ, _⟩ := hoZ.form
        have KZ := Lib.hid (bt KY.out hbZ)
        have hsb := same_eq aZ a1 n1 cZ c1 x1 x1 wZ hyZ (H1.out.next KZ.out).bys (by omega) rfl
        clear hen2 hoZ hbZ hyZ zZ
        go_wp2_with (fail)
        refine hsb.mono ?_
        rintro e wV ⟨rfl, hbV⟩
        have KV := Lib.hid (bt KZ.out hbV)
        clear hsb hbV
        go_wp2_with (fail)
        go_ret
        exact ⟨rfl, KV.out⟩
end Go.Proofs.Ytiedapiepklhlaa
