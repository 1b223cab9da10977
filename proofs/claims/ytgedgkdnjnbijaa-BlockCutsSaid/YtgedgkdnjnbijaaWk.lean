/-
  The law BlockCalls, walked (of any map that does as its contracts say).
-/
import Derived.Test.YtgedgkdnjnbijaaArgB
import Derived.Test.YtgedgkdnjnbijaaCk
namespace Go.Proofs.Ytgedgkdnjnbijaa
open Go.RowKit
set_option linter.unusedVariables false
set_option linter.unusedSimpArgs false

/-- All four maps. -/
structure Quad (Pmp : Pred) (w0 w : World) (p b q o : Nat) (T D G Tq Dq : Nat → Prop) (S : Nat) (A : Nat → Int) (X : Nat → List Int) (A0 : Nat → Int) : Prop where
  m : Two Pmp w p b T D G A X A X
  s : Sml X
  c : Two Pmp w q o Tq Dq (fun _ => False) A0 (fun _ => []) A0 (fun _ => [])
  ap : ∀ j, T j → ¬ Dq j
  no : ¬ T o
  lo : ∀ j, T j → w0.heap.size ≤ j
  bel : Below w0.heap.size w0 w
  sz : S ≤ w.heap.size
  dq : ∀ j, Dq j → j < S
  ol : o < S
  nb : ¬ Dq b
  bo : b ≠ o
  bl : w0.heap.size ≤ b
section
variable {Pmp : Pred} {w0 w w' : World} {p b q o S : Nat} {T D G Tq Dq T' D' G' : Nat → Prop} {A A' : Nat → Int} {X X' : Nat → List Int} {A0 : Nat → Int}
theorem Quad.step (H : MapOk Pmp) (h : Quad Pmp w0 w p b q o T D G Tq Dq S A X A0) (hm : Two Pmp w' p b T' D' G' A' X' A' X') (hs : Sml X') (hi : Inc w w' b T D G T' D' G') : Quad Pmp w0 w' p b q o T' D' G' Tq Dq S A' X' A0 := by
  refine ⟨hm, hs, ⟨H.turn h.c.pm hi.turn (fun j hj x => x.elim (fun t => h.ap j t hj) (fun e => h.nb (e ▸ hj))), h.c.rm.turn hi.turn (fun x => x.elim h.no (fun e => h.bo e.symm)) (fun j x => x.elim), h.c.nb, h.c.ng⟩,
    fun j hj x => ?_, fun x => ?_, fun j hj => ?_, h.bel.trans (hi.below h.bel.size h.lo h.bl), Nat.le_trans h.sz hi.turn.size, h.dq, h.ol, h.nb, h.bo, h.bl⟩
  · rcases hi.t j hj with t | t
    · exact h.ap j t x
    · have := h.dq j x
      have := h.sz
      omega
  · rcases hi.t o x with t | t
    · exact h.no t
    · have := h.ol
      have := h.sz
      omega
  · rcases hi.t j hj with t | t
    · exact h.lo j t
    · exact Nat.le_trans h.bel.size t
theorem Quad.next (H : MapOk Pmp) (h : Quad Pmp w0 w p b q o T D G Tq Dq S A X A0) (hb : Below w.heap.size w w') : Quad Pmp w0 w' p b q o T D G Tq Dq S A X A0 := h.step H (h.m.next H hb) h.s (Inc.next hb)
end
set_option maxRecDepth 100000 in
set_option maxHeartbeats 4000000 in
theorem great_any (a : Option Addr) (len cap : Nat) (f : Nat → Cb) (w : World) (hc : CbsAt w a len f) (hl : len ≤ maxLen) :
    Calls Try.prog 9 #[.slice a len cap] w fun e w' => ∃ z, e = .returned (.bool z) ∧ Below w.heap.size w w' ∧ (z = false → len ≤ 200 ∧ ∀ j, j < len → (f j).l ≤ 20000) := by
  unfold maxLen at hl
  by_cases h : 200 < len
  · have h1 : (200 : Int) < (len : Int) := by omega
    clear hc
    go_enter Try.func9, Try.ntmps9
    go_wp2_with (fail)
    go_ret
    exact ⟨true, rfl, Below.refl _ _, fun e => by cases e⟩
  · have h1 : decide ((200 : Int) < (len : Int)) = false := decide_eq_false (by omega)
    have HN := Lib.hid (show len ≤ 200 by omega)
    have HCS := Lib.hid hc
    clear hc h
    go_enter Try.func9, Try.ntmps9
    go_wp2_with (fail)
    clear h1
    go_loopw [3, 4] (fun u v wr => ∃ m i : Nat, i ≤ len ∧ m ≤ 20000 ∧ u = .int .i64 m ∧ v = .int .i64 i ∧ (∀ j, j < i → (f j).l ≤ 20000) ∧ Below w.heap.size w wr) (fun _ v _ => len - (RowKit.intOf v).toNat)
    case atStart => exact ⟨0, 0, by omega, by omega, rfl, rfl, (fun j hj => absurd hj (Nat.not_lt_zero _)), Below.refl _ _⟩
    case round =>
      obtain ⟨m, i, i1, m1, rfl, rfl, hj, hb⟩ := hrel
      have HJ := Lib.hid hj
      have HB := Lib.hid hb
      clear hj hb
      by_cases hlt : i < len
      · rcases HCS.out with h0 | ⟨b, off, rfl, hlb, hcall⟩
        · omega
        have hci := (hcall i hlt).next hlb HB.out
        have k3 := hci.k3
        have b3 := hci.few
        unfold reachBytes at b3
        obtain ⟨x, hx⟩ : ∃ x, x = (f i).l := ⟨_, rfl⟩
        rw [← hx] at k3 b3
        have HXX := Lib.hid hx
        have i0 : (0 : Int) ≤ (i : Int) := by omega
        have i2 : (i : Int) < (len : Int) := by omega
        have e2 : IntKind.i64.wrap ((m : Int) + (x : Int)) = (m : Int) + (x : Int) := IntWalk.i64_in _ (by omega)
        clear hx hcall hci
        by_cases hs : m + x ≤ 20000
        · have g1 : decide ((20000 : Int) < (m : Int) + (x : Int)) = false := decide_eq_false (by omega)
          clear b3
          go_wp2_with (fail)
          go_roundw
          case rel =>
            refine ⟨m + x, i + 1, by omega, hs, by go_num, by go_num, fun j hj => ?_, HB.out⟩
            by_cases ej : j = i
            · subst ej
              rw [← HXX.out]
              omega
            · exact HJ.out j (by omega)
          case measure => simp [RowKit.intOf]; omega
        · have g1 : (20000 : Int) < (m : Int) + (x : Int) := by omega
          clear b3
          go_wp2_with (fail)
          go_ret
          exact ⟨true, rfl, HB.out, fun e => by cases e⟩
      · obtain rfl : i = len := by omega
        clear hlt m1
        go_wp2_with (fail)
        go_ret
        exact ⟨false, rfl, HB.out, fun _ => ⟨HN.out, HJ.out⟩⟩
set_option maxRecDepth 100000 in
set_option maxHeartbeats 16000000 in
theorem calls_any {Pmp : Pred} (H : MapOk Pmp) (a0 : Option Addr) (n0 c0 : Nat) (ks : List Int) (a1 : Option Addr) (n1 c1 : Nat) (f1 : Nat → Cb) (w : World) (h0 : Ins w a0 n0 ks) (z0 : a0 = none → n0 = 0 ∧ c0 = 0) (h1 : CbsAt w a1 n1 f1) (hl : n1 ≤ maxLen) :
    Calls Try.prog 3 #[.slice a0 n0 c0, .slice a1 n1 c1] w fun e w' => e = .returned (.bool true) ∧ Below w.heap.size w w' := by
  have HH := Lib.hid H
  have HL := Lib.hid h0
  have HZ := Lib.hid z0
  have HCS := Lib.hid h1
  have HLE := Lib.hid hl
  clear H h0 z0 h1 hl
  go_enter Try.func3, Try.ntmps3
  go_wp2_with (fail)
  refine (alive_any HH.out w).mono ?_
  rintro e wb ⟨rfl, hb⟩
  have HB := Lib.hid hb
  clear hb
  go_wp2_with (fail)
  refine (great_any a1 n1 c1 f1 wb (HCS.out.next HB.out) HLE.out).mono ?_
  rintro e w1 ⟨z, rfl, hb, hz⟩
  replace HB := Lib.hid (HB.out.trans (hb.mono HB.out.size))
  clear hb
  cases z with
  | true =>
    clear hz
    go_wp2_with (fail)
    go_ret
    exact ⟨rfl, HB.out⟩
  | false =>
    have HF := Lib.hid (hz rfl)
    clear hz
    by_cases g0 : 2000 < n0
    · have k0 : (2000 : Int) < (n0 : Int) := by omega
      clear g0
      go_wp2_with (fail)
      go_ret
      exact ⟨rfl, HB.out⟩
    have k0 : decide ((2000 : Int) < (n0 : Int)) = false := decide_eq_false (by omega)
    have HN := Lib.hid (show n0 ≤ 2000 by omega)
    clear g0
    go_wp2_with (fail)
    refine (cpints_any a0 n0 c0 ks w1 (HL.out.next HB.out) HZ.out (by have := HN.out; omega)).mono ?_
    rintro e w2 ⟨a2, x2, rfl, hi, hz2, hb⟩
    replace HB := Lib.hid (HB.out.trans (hb.mono HB.out.size))
    have HI := Lib.hid hi
    have HZ2 := Lib.hid (show a2 = none → n0 = 0 ∧ x2 = 0 from fun e => hz2 e)
    clear hi hz2 hb k0
    go_wp2_with (fail)
    refine (HH.out.new a2 n0 x2 ks _ HI.out HZ2.out HN.out).mono ?_
    rintro e w3 ⟨hy, hn, hb⟩
    have HSZ := Lib.hid HB.out.size
    replace HB := Lib.hid (HB.out.trans (hb.mono HB.out.size))
    clear hb
    have HRN := Lib.hid (rnew_any a0 n0 c0 ks w3 (HL.out.next HB.out) (by have := HN.out; omega))
    cases hnw : nwO ks with
    | false =>
      obtain rfl := hn hnw
      have HW := Lib.hid hnw
      clear hy hn hnw
      go_wp2_with (fail)
      refine HRN.out.mono ?_
      rintro e w4 ⟨_, hn, hb⟩
      obtain rfl := hn HW.out
      replace HB := Lib.hid (HB.out.trans (hb.mono HB.out.size))
      clear hb hn
      go_wp2_with (fail)
      go_ret
      exact ⟨rfl, HB.out⟩
    | true =>
      obtain ⟨p, T, D, rfl, hP, hD⟩ := hy hnw
      have HP := Lib.hid hP
      have HD := Lib.hid (show ∀ j, D j → w.heap.size ≤ j from fun j hj => Nat.le_trans HSZ.out (hD j hj))
      have HW := Lib.hid hnw
      clear hy hn hnw hP hD
      go_wp2_with (fail)
      refine HRN.out.mono ?_
      rintro e w4 ⟨hy, _, hb⟩
      obtain ⟨b, rfl, hM, hbl⟩ := hy HW.out
      have HT := Lib.hid (show Two Pmp w4 p b T D (fun _ => False) (num ks) (fun _ => []) (num ks) (fun _ => []) from ⟨HH.out.next HP.out hb, hM, fun x => Nat.lt_irrefl _ (Nat.lt_of_lt_of_le (HH.out.lt HP.out _ x) hbl), fun _ x => x.elim⟩)
      have HBL := Lib.hid (Nat.le_trans HB.out.size hbl)
      replace HB := Lib.hid (HB.out.trans (hb.mono HB.out.size))
      clear hb hy hM hbl HP HRN
      go_wp2_with (fail)
      refine (HH.out.clone HT.out.pm).mono ?_
      rintro e w5 ⟨q, Tq, Dq, rfl, hQ, hTq, hDq, hb⟩
      have HQ := Lib.hid hQ
      have HT5 := Lib.hid (HT.out.next HH.out hb)
      have HAP := Lib.hid (show (∀ j, T j → ¬ Dq j) ∧ ¬ Dq b from ⟨fun j hj x => (hDq j x).elim (fun y => y.2 hj) (Nat.not_le.2 (HT.out.tlt HH.out j hj)), fun x => (hDq _ x).elim (fun y => HT.out.nb y.1) (Nat.not_le.2 HT.out.rm.lt)⟩)
      replace HB := Lib.hid (HB.out.trans (hb.mono HB.out.size))
      have HRN := Lib.hid (rnew_any a0 n0 c0 ks w5 (HL.out.next HB.out) (by have := HN.out; omega))
      clear hQ hTq hDq hb HT
      go_wp2_with (fail)
      refine HRN.out.mono ?_
      rintro e w6 ⟨hy, _, hb⟩
      obtain ⟨o, rfl, hM, hol⟩ := hy HW.out
      have HQU := Lib.hid (show Quad Pmp w w6 p b q o T D (fun _ => False) Tq Dq w6.heap.size (num ks) (fun _ => []) (num ks) from
        ⟨HT5.out.next HH.out hb, Sml.nil, ⟨HH.out.next HQ.out hb, hM, fun x => Nat.lt_irrefl _ (Nat.lt_of_lt_of_le (HH.out.lt HQ.out _ x) hol), fun _ x => x.elim⟩, HAP.out.1,
          fun x => Nat.lt_irrefl _ (Nat.lt_of_lt_of_le (HT5.out.tlt HH.out _ x) hol), fun j hj => HD.out j (HH.out.td HT5.out.pm j hj), HB.out.trans (hb.mono HB.out.size), Nat.le_refl _,
          fun j hj => Nat.lt_of_lt_of_le (HH.out.lt HQ.out j hj) hb.size, hM.lt, HAP.out.2, fun e => Nat.lt_irrefl _ (Nat.lt_of_lt_of_le HT5.out.rm.lt (e ▸ hol)), HBL.out⟩)
      obtain ⟨S, hS⟩ : ∃ s, s = w6.heap.size := ⟨_, rfl⟩
      rw [← hS] at HQU
      clear hb hy hM hol HRN HQ HT5 HAP HB hS HD HBL HSZ
      go_wp2_with (fail)
      go_loopw [12] (fun v wr => ∃ (i : Nat) (A : Nat → Int) (X : Nat → List Int) (T D G : Nat → Prop), i ≤ n1 ∧ v = .int .i64 i ∧ Quad Pmp w wr p b q o T D G Tq Dq S A X (num ks)) (fun v _ => n1 - (RowKit.intOf v).toNat)
      case atStart => exact ⟨0, _, _, _, _, _, by omega, rfl, HQU.out⟩
      case round =>
        obtain ⟨i, A, X, T1, D1, G1, hi, rfl, hq⟩ := hrel
        clear HQU
        have HQ := Lib.hid hq
        clear hq
        by_cases hlt : i < n1
        · rcases HCS.out with h0 | ⟨g', off, rfl, hlb, hcall⟩
          · omega
          have hci := (hcall i hlt).next hlb HQ.out.bel
          have hfew := HF.out.2 i hlt
          have hlo : 0 < (f1 i).l → ∀ y, (f1 i).a = some y → ¬ T1 y.block ∧ y.block ≠ b := fun h0 y e => by
            rcases (hcall i hlt).pin.bys.place with h1 | ⟨b2, off2, e2, hl2, _⟩
            · omega
            · rw [e2] at e
              cases e
              exact ⟨fun x => by have := HQ.out.lo _ x; simp at this; omega, fun x => by have := HQ.out.bl; simp at x; omega⟩
          have HTO := Lib.hid (told_all HH.out (f1 i) HQ.out.m HQ.out.s hci.wf hci.pin hlo (by omega))
          have k0 := hci.k0
          have k1 := hci.k1
          have k2 := hci.k2
          have k3 := hci.k3
          have i0 : (0 : Int) ≤ (i : Int) := by omega
          have i2 : (i : Int) < (n1 : Int) := by omega
          have n200 := HF.out.1
          clear hci hfew hlo hcall
          go_wp2_with (fail)
          refine HTO.out.mono ?_
          rintro e9 w11 ⟨rfl, A', X', T', D', G', h2, h3, h4⟩
          have HQ' := Lib.hid (HQ.out.step HH.out h2 h3 h4)
          clear HTO k0 k1 k2 k3 h2 h3 h4
          go_wp2_with (fail)
          go_roundw
          case rel => exact ⟨i + 1, A', X', T', D', G', by omega, by go_num, HQ'.out⟩
          case measure => simp [RowKit.intOf]; omega
        · go_wp2_with (fail)
          refine (samep_any HH.out HQ.out.m HQ.out.s).mono ?_
          rintro e w7 ⟨rfl, hb⟩
          replace HQ := Lib.hid (HQ.out.next HH.out hb)
          clear hb
          go_wp2_with (fail)
          refine (samep_any HH.out HQ.out.c Sml.nil).mono ?_
          rintro e w8 ⟨rfl, hb⟩
          have HE := Lib.hid (HQ.out.bel.trans (hb.mono HQ.out.bel.size))
          clear hb
          go_wp2_with (fail)
          go_ret
          exact ⟨rfl, HE.out⟩
end Go.Proofs.Ytgedgkdnjnbijaa
