/-
  DirentCodes, walked.
-/
import Derived.Test.YtiedapiepklhlaaAl
import Derived.Test.YtiedapiepklhlaaPl
namespace Go.Proofs.Ytiedapiepklhlaa
open Go.RowKit
set_option linter.unusedVariables false
set_option linter.unusedSimpArgs false

theorem bt {a b c : World} (h : Below a.heap.size a b) (k : Below b.heap.size b c) : Below a.heap.size a c := h.trans (k.mono h.size)
set_option maxHeartbeats 1000000 in
theorem copyB_any (a : Option Addr) (n c : Nat) (zs : List Int) (w : World) (h : Pin w a n c zs) (hn : n ≤ 1000000) :
    Calls Try.prog 14 #[.slice a n c] w fun e w' => ∃ v, e = .returned v ∧ Own w' w.heap.size v n zs ∧ Below w.heap.size w w' := by
  have HH := Lib.hid (h.alloc (.cells #[] 5)).bys
  have HO := Lib.hid (own_none w w.heap.size (Nat.le_refl _))
  have HB := Lib.hid ((Below.refl w.heap.size w).alloc (Nat.le_refl _) (.cells #[] 5))
  have HZ := Lib.hid h.nil
  clear h
  go_enter Try.func14, Try.ntmps14
  go_wp2_with (at_builtin; go_must (refine wpList_ap rfl (.tmp 5) (.tmp 6) rfl w.heap.size _ 0 [] rfl HO.out a n c zs rfl HH.out HZ.out (by omega) (by simp) w HB.out ?_); intro v4 w4 ho4 hb4)
  rw [Nat.zero_add, List.nil_append] at ho4
  have HO4 := Lib.hid ho4
  have HB4 := Lib.hid hb4
  clear ho4 hb4
  go_wp2_with (fail)
  go_ret
  exact ⟨_, rfl, HO4.out, HB4.out⟩
theorem sameE_refl (L : List En) : sameE L L = true := decide_eq_true rfl
set_option maxHeartbeats 4000000 in
theorem codes_any (a0 : Option Addr) (n0 c0 : Nat) (L : List En) (a1 : Option Addr) (n1 c1 : Nat) (x1 : List Int) (W : World) (h0 : Ens W a0 n0 L) (m0 : n0 ≤ 9223372036854775807) (z0 : a0 = none → n0 = 0 ∧ c0 = 0) (r0 : ∀ x ∈ L, x.s.size ≤ 4611686018427387904) (h1 : Pin W a1 n1 c1 x1) :
    Calls Try.prog 3 #[.slice a0 n0 c0, .slice a1 n1 c1] W fun e w' => e = .returned (.bool true) ∧ Below W.heap.size W w' := by
  have ha := alive_any W
  have H0 := Lib.hid h0
  have H1 := Lib.hid h1
  have Z0 := Lib.hid z0
  have hl := h0.len
  have R0 := Lib.hid r0
  have hm1 := h1.max
  have hc1 := h1.cap
  clear h0 h1 z0 r0
  go_enter Try.func3, Try.ntmps3
  go_wp2_with (fail)
  refine ha.mono ?_
  rintro e w1 ⟨rfl, hb1⟩
  have K1 := Lib.hid hb1
  have hlo := long_any a0 n0 c0 L w1 (H0.out.next hb1) m0 R0.out
  clear ha hb1
  go_wp2_with (fail)
  refine hlo.mono ?_
  rintro e w' ⟨r, rfl, hr, rfl⟩
  cases r with
  | true =>
    clear hlo hr
    go_wp2_with (fail)
    go_ret
    exact ⟨rfl, K1.out⟩
  | false =>
    have HS := Lib.hid (hr rfl)
    have hn0 : n0 ≤ 300 := by have := HS.out.1; omega
    clear hlo hr
    by_cases h5 : 5000 < n1
    · have k5 : (5000 : Int) < (n1 : Int) := by omega
      go_wp2_with (fail)
      go_ret
      exact ⟨rfl, K1.out⟩
    have k5 : ¬ (5000 : Int) < (n1 : Int) := by omega
    have hcp := copyE_any a0 n0 c0 L w' (H0.out.next K1.out) (by omega) Z0.out
    go_wp2_with (fail)
    refine hcp.mono ?_
    rintro e w2 ⟨v2, rfl, ho2, hb2⟩
    obtain ⟨a2, c2, rfl, he2, _⟩ := ho2.ens
    have hen := encode_any a2 n0 c2 L w2 he2 (by omega)
    have E2 := Lib.hid he2
    have K2 := Lib.hid (bt K1.out hb2)
    clear hcp ho2 hb2 he2
    go_wp2_with (fail)
    refine hen.mono ?_
    rintro e w3 ⟨v3, rfl, ho3, hb3⟩
    obtain ⟨a3, c3, rfl, z3, hy3, _⟩ := ho3.form
    have hre := rencode_any a0 n0 c0 L w3 (H0.out.next (bt K2.out hb3)) (by omega)
    have Y3 := Lib.hid hy3
    have K23 := Lib.hid hb3
    have K3 := Lib.hid (bt K2.out hb3)
    clear hen ho3 hb3 hy3 z3
    go_wp2_with (fail)
    refine hre.mono ?_
    rintro e w4 ⟨v4, rfl, ho4, hb4⟩
    obtain ⟨a4, c4, rfl, z4, hy4, _⟩ := ho4.form
    have hcb := copyB_any a1 n1 c1 x1 w4 (H1.out.next (bt K3.out hb4)) (by omega)
    have Y4 := Lib.hid hy4
    have K34 := Lib.hid hb4
    have K4 := Lib.hid (bt K3.out hb4)
    clear hre ho4 hb4 hy4 z4
    go_wp2_with (fail)
    refine hcb.mono ?_
    rintro e w5 ⟨v5, rfl, ho5, hb5⟩
    obtain ⟨a5, c5, rfl, hp5, _⟩ := ho5.pin
    have hde := decode_any a5 n1 c5 x1 w5 hp5 (by omega)
    have K45 := Lib.hid hb5
    have K5 := Lib.hid (bt K4.out hb5)
    clear hcb ho5 hb5 hp5
    go_wp2_with (fail)
    refine hde.mono ?_
    rintro e w6 ⟨v6, rfl, ho6, hb6⟩
    obtain ⟨a6, c6, rfl, he6, _⟩ := ho6.ens
    have hrd := rdecode_any a1 n1 c1 x1 w6 (H1.out.next (bt K5.out hb6)) (by omega)
    have E6 := Lib.hid he6
    have K56 := Lib.hid hb6
    have K6 := Lib.hid (bt K5.out hb6)
    clear hde ho6 hb6 he6
    go_wp2_with (fail)
    refine hrd.mono ?_
    rintro e w7 ⟨v7, rfl, ho7, hb7⟩
    obtain ⟨a7, c7, rfl, he7, _⟩ := ho7.ens
    have E7 := Lib.hid he7
    have K67 := Lib.hid hb7
    have K7 := Lib.hid (bt K6.out hb7)
    have K47 := Lib.hid (bt (bt K45.out K56.out) hb7)
    have hle : (encO L).length ≤ 1000000 := by
      unfold encO
      cases hr : rgt L with
      | false => simp
      | true => rw [if_pos rfl]; have := encL_len (rgt_all hr).2.1; have := (rgt_all hr).1; omega
    have hsb := same_eq a3 a4 (encO L).length c3 c4 (encO L) (encO L) w7 (Y3.out.next (bt K34.out K47.out)) (Y4.out.next K47.out) (by omega) rfl
    have hsd : ((decO x1).getD []).length ≤ 1000 := by
      cases hd : decO x1 with
      | none => simp
      | some M => have := (rgt_all (encO_dec H1.out.bys.small hd).1).1; simp; omega
    have HSD := Lib.hid hsd
    generalize hdo : decO x1 = od at *
    generalize hrg : rgt L = rg at *
    clear hrd ho7 hb7 he7 hle hsd
    go_wp2_with (fail)
    refine hsb.mono ?_
    rintro e w8 ⟨rfl, hb8⟩
    have hs1 := sameE_any a6 a7 _ _ c6 c7 (od.getD []) (od.getD []) w8 (E6.out.next (bt K67.out hb8)) (E7.out.next hb8) (by have := HSD.out; omega) (by have := HSD.out; omega)
    rw [sameE_refl] at hs1
    have K8 := Lib.hid (bt K7.out hb8)
    have K28 := Lib.hid (bt (bt (bt K23.out K34.out) K47.out) hb8)
    clear hsb hb8
    go_wp2_with (fail)
    refine hs1.mono ?_
    rintro e w9 ⟨rfl, hb9⟩
    have hs2 := sameE_any a2 a0 n0 n0 c2 c0 L L w9 (E2.out.next (bt K28.out hb9)) (H0.out.next (bt K8.out hb9)) (by omega) (by omega)
    rw [sameE_refl] at hs2
    have K9 := Lib.hid (bt K8.out hb9)
    clear hs1 hb9
    go_wp2_with (fail)
    refine hs2.mono ?_
    rintro e wA ⟨rfl, hbA⟩
    have KA := Lib.hid (bt K9.out hbA)
    clear hs2 hbA
    go_wp2_with (fail)
    go_ret
    exact ⟨rfl, KA.out⟩
end Go.Proofs.Ytiedapiepklhlaa
