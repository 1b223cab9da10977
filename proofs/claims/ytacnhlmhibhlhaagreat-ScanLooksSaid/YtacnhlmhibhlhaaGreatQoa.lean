/-
  The reference's stripe: what the others of a row tell.
-/
import Derived.Test.YtacnhlmhibhlhaaGreatQpa
import Derived.Test.YtacnhlmhibhlhaaGreatHb
import Derived.Test.YtacnhlmhibhlhaaGreatWra
import Derived.Test.YtacnhlmhibhlhaaGreatRwa
set_option linter.unusedSimpArgs false
set_option linter.unusedVariables false
namespace Go.Proofs.YtacnhlmhibhlhaaGreat
open Go.RowKit Go.Maps
set_option linter.unusedVariables false

section
variable {M : Nat → Prop} {L : RLay} {R : Rk} {F : Rf} {w : World} {B : Bn} {b : Nat}
/-- Between two rounds of others. -/
structure OtI (w : World) (B : Bn) (R : Rk) (Q z q : Int) (j0 j : Nat) (v : Value) (f : Nat → Pc) (wr : World) : Prop where
  own : OwnR wr w.heap.size v (cnt j0 j) f
  all : ∀ t, t < j → t = j0 ∨ rdO B R z q (rowD 3 Q t) = true
  zs : ∀ t, t < cnt j0 j → (f t).zs = brV B R (rowD 3 Q (skp j0 t)) z
  bel : Below w.heap.size w wr
set_option maxRecDepth 100000 in
set_option maxHeartbeats 4000000 in
theorem others_any (g q : Int) (a x : Nat) (hr : RefAt w M L F) (hb : RbAt w b L.p B) (hrel : Rel R F) (hS : Sml B) (hg : Sg 3 3 12 g) (ha : a < 3) (hx : x < 3) :
    Calls Tryz.prog 92 #[.pointer (some ⟨b, 0, none⟩), .int .i64 g, .int .i64 a, spV x (5 + (g * 3 + a)), .int .i64 q] w (RetN w (resL B R (5 + (g * 3 + a)) q x 3) (resO B R (5 + (g * 3 + a)) q x 3)) := by
  obtain ⟨z, hz⟩ : ∃ z, z = 5 + (g * 3 + (a : Int)) := ⟨_, rfl⟩
  obtain ⟨Q, hQ⟩ : ∃ Q, Q = g * 3 + (a : Int) := ⟨_, rfl⟩
  obtain ⟨j0, hj0, hjx⟩ := rowD_sur Q hx
  obtain ⟨W1, hW1⟩ : ∃ W1, W1 = w.alloc (.cells #[.int .i64 x, .int .i64 z] 150 (0, 0)) := ⟨_, rfl⟩
  have hB1 : Below w.heap.size w W1 := by rw [hW1]; exact (Below.refl _ _).alloc (Nat.le_refl _) _
  obtain ⟨p, hp⟩ : ∃ p, p = w.heap.size := ⟨_, rfl⟩
  have d0 : W1.cell? ⟨p, 0, none⟩ = some (.int .i64 x) := by rw [hW1, hp]; simp
  have d1 : W1.cell? ⟨p, 1, none⟩ = some (.int .i64 z) := by rw [hW1, hp]; simp
  have hl1 : p < W1.heap.size := by rw [hW1, hp]; simp
  have HR := Lib.hid hr
  have HB := Lib.hid hb
  have HREL := Lib.hid hrel
  have HL := Lib.hid (hr.len64 hrel B)
  have HSP : Hid (∀ m j : Nat, m = 3 * a + j → j < 3 → ∀ w, Calls Tryz.prog 88 #[gv 3 3 12, .int .i64 g, .int .i64 (m : Nat)] w fun e w' => e = .returned (spV (rowD 3 Q j) z) ∧ Below w.heap.size w w') := fun m j hm hj w => by
    subst hm
    have := spot_any g (3 * a + j) w hg (by omega)
    rw [qD_at g hj, qS_at g hj, ← hz, ← hQ] at this
    exact this
  obtain ⟨A0, hA0⟩ : ∃ A0 : Nat, A0 = 3 * a := ⟨_, rfl⟩
  obtain ⟨E, hE⟩ : ∃ E : Nat, E = 3 * a + 3 := ⟨_, rfl⟩
  have c1 := hb.c1
  have c2 := hb.c2
  have c3 := hb.c3
  rw [hS.d] at c1
  rw [hS.r] at c2
  rw [hS.s] at c3
  have hbl := hb.lt
  rw [← hz]
  have a0 : (0 : Int) ≤ (a : Int) := by omega
  have a1 : (a : Int) < 3 := by omega
  have HC : Hid (∀ wr, Below W1.heap.size W1 wr → wr.cell? ⟨b, 1, none⟩ = some (.int .i64 3) ∧ wr.cell? ⟨b, 2, none⟩ = some (.int .i64 3) ∧ wr.cell? ⟨b, 3, none⟩ = some (.int .i64 12)) := fun wr hb' =>
    have h1 : Below w.heap.size w wr := hB1.trans (hb'.mono hB1.size)
    ⟨(h1.cell (p := ⟨b, 1, none⟩) hbl).trans c1, (h1.cell (p := ⟨b, 2, none⟩) hbl).trans c2, (h1.cell (p := ⟨b, 3, none⟩) hbl).trans c3⟩
  have HB1 := Lib.hid hB1
  have HD : Hid (∀ wr, Below W1.heap.size W1 wr → wr.cell? ⟨p, 0, none⟩ = some (.int .i64 x) ∧ wr.cell? ⟨p, 1, none⟩ = some (.int .i64 z)) := fun wr hb' =>
    ⟨(hb'.cell (p := ⟨p, 0, none⟩) hl1).trans d0, (hb'.cell (p := ⟨p, 1, none⟩) hl1).trans d1⟩
  have HJX := Lib.hid hjx
  have eA : IntKind.i64.wrap ((a : Int) * 3) = (A0 : Int) := by rw [IntWalk.i64_in _ (by omega)]; omega
  have eB : IntKind.i64.wrap (((a : Int) + 1) * 3) = (E : Int) := by rw [IntWalk.i64_in _ (by omega)]; omega
  have HAE : Hid (A0 = 3 * a ∧ E = 3 * a + 3 ∧ a < 3) := ⟨hA0, hE, ha⟩
  have HFR : Hid (resL B R z q x 3 = resL B R z q x 3) := rfl
  have HNO : Hid (∀ j, j < 3 → j ≠ j0 → rdO B R z q (rowD 3 Q j) = false → resO B R z q x 3 = false ∧ resL B R z q x 3 = []) := fun j hj hne hf => by
    obtain ⟨h1, h2⟩ := rowD_bd Q j
    obtain ⟨t, ht⟩ := Int.eq_ofNat_of_zero_le h1
    rw [ht] at hf h2
    exact resO_no (t := t) (by omega) (fun e => hne (rowD_inj hj hj0 (by rw [ht, hjx, e]))) hf
  have HYES : Hid (∀ f : Nat → Pc, (∀ t, t < 3 → t = j0 ∨ rdO B R z q (rowD 3 Q t) = true) → (∀ t, t < 2 → (f t).zs = brV B R (rowD 3 Q (skp j0 t)) z) → resO B R z q x 3 = oneSeq f 2 ∧ resL B R z q x 3 = parL f 2) := fun f h1 h2 => resO_yes HL.out hx hj0 hjx h1 h2
  have HNE : Hid (∀ j, j < 3 → j ≠ j0 → ¬ rowD 3 Q j = (x : Int)) := fun j hj hne e => hne (rowD_inj hj hj0 (e.trans hjx.symm))
  have HJ0 := Lib.hid hj0
  clear hz hQ hjx d0 d1 hl1 hr hb hrel hB1 hA0 hE ha hj0 hg hS hx
  go_enter Tryz.func92, Tryz.ntmps92
  go_wp2_with (fail)
  rw [← hW1, ← hp]
  obtain ⟨W2, hW2⟩ : ∃ W2, W2 = W1.alloc (.cells #[] 42) := ⟨_, rfl⟩
  have hs1 : W1.heap.size = p + 1 := by rw [hW1, hp]; simp
  have ho2 : OwnR W2 W1.heap.size (.slice (some ⟨p + 1, 0, none⟩) 0 0) 0 (fun _ => default) := by rw [← hs1, hW2]; exact ownR_none _ _ (Nat.le_refl _) _
  have hb2 : Below W1.heap.size W1 W2 := by rw [hW2]; exact (Below.refl _ _).alloc (Nat.le_refl _) _
  have HO2 := Lib.hid ho2
  have HB2 := Lib.hid hb2
  rw [← hW2]
  clear hW1 hW2 ho2 hb2 hp hs1 c1 c2 c3 hbl eA
  have hE9 : E ≤ 9 := by have := HAE.out; omega
  go_loopw [12, 13, 14, 15, 16] (fun v i _p _q _r wr => ∃ (j m : Nat) (f : Nat → Pc), j ≤ 3 ∧ m + 3 = E + j ∧ i = .int .i64 m ∧ OtI W1 B R Q z q j0 j v f wr) (fun _ i _ _ _ _ => E - (RowKit.intOf i).toNat)
  case atStart => exact ⟨0, A0, _, by omega, by have := HAE.out; omega, rfl, by rw [show cnt j0 0 = 0 from rfl]; exact HO2.out, (fun t ht => absurd ht (Nat.not_lt_zero _)), (fun t ht => by rw [show cnt j0 0 = 0 from rfl] at ht; omega), HB2.out⟩
  case round =>
    obtain ⟨j, m, f, hj, hm, rfl, hI⟩ := hrel
    obtain ⟨c1, c2, c3⟩ := HC.out wr hI.bel
    obtain ⟨ra, rc, rfl, _, _, _, _⟩ := hI.own.rws
    by_cases hlt : j < 3
    · have hmE : (m : Int) < (E : Int) := by omega
      have hsp := HSP.out m j (by have := HAE.out; omega) hlt
      have hBr := HB1.out.trans (hI.bel.mono HB1.out.size)
      by_cases hjj : j = j0
      · subst hjj
        rw [HJX.out] at hsp
        have HI := Lib.hid hI
        have HM := Lib.hid hm
        clear hI hm hBr
        go_wp2_with (fail)
        refine (hsp _).mono ?_
        rintro e w3 ⟨rfl, hb3⟩
        have hb4 : Below w3.heap.size w3 (w3.alloc (.cells #[.int .i64 x, .int .i64 z] 150)) := (Below.refl _ _).alloc (Nat.le_refl _) _
        have hb34 := hb3.trans (hb4.mono hb3.size)
        have hB4 := HI.out.bel.trans (hb34.mono HI.out.bel.size)
        have HB4 := Lib.hid hB4
        have HO4 := Lib.hid (HI.out.own.next hb34)
        obtain ⟨d0, d1⟩ := HD.out _ hB4
        clear hsp hb3 hb4 hb34 c1 c2 c3 hB4
        go_wp2_with (fail)
        go_roundw
        case rel =>
          have e1 : cnt j (j + 1) = cnt j j := by unfold cnt; split <;> split <;> omega
          refine ⟨j + 1, m + 1, f, by omega, by have := HM.out; omega, by go_num, ⟨by rw [e1]; exact HO4.out, fun t ht => ?_, fun t ht => ?_, HB4.out⟩⟩
          · by_cases e : t = j
            · exact .inl e
            · exact HI.out.all t (by omega)
          · rw [e1] at ht
            exact HI.out.zs t ht
        case measure => simp [RowKit.intOf]; omega
      · obtain ⟨D, hD⟩ : ∃ D, D = rowD 3 Q j := ⟨_, rfl⟩
        have hne := HNE.out j hlt hjj
        rw [← hD] at hsp hne
        have hne2 : (D == (x : Int)) = false := by simpa using hne
        have HI := Lib.hid hI
        have HM := Lib.hid hm
        have HDD := Lib.hid hD
        have HJJ := Lib.hid hjj
        clear hI hm hBr hD hjj
        go_wp2_with (fail)
        refine (hsp _).mono ?_
        rintro e w3 ⟨rfl, hb3⟩
        obtain ⟨W4, hW4⟩ : ∃ W4, W4 = w3.alloc (.cells #[.int .i64 D, .int .i64 z] 150) := ⟨_, rfl⟩
        have hb4 : Below w3.heap.size w3 W4 := by rw [hW4]; exact (Below.refl _ _).alloc (Nat.le_refl _) _
        have hb34 := hb3.trans (hb4.mono hb3.size)
        have hB4 := HI.out.bel.trans (hb34.mono HI.out.bel.size)
        have HB4 := Lib.hid hB4
        have HO4 := Lib.hid (HI.out.own.next hb34)
        obtain ⟨d0, d1⟩ := HD.out _ hB4
        rw [hW4] at d0 d1
        have hBw := HB1.out.trans (hB4.mono HB1.out.size)
        have hgd := good_any (B := B) D z q (HR.out.below hBw) (HB.out.next hBw) HREL.out
        rw [HDD.out, ← HDD.out] at hgd
        clear hsp hb3 hb4 hb34 c1 c2 c3 hB4 hBw
        cases hok : rdO B R z q (rowD 3 Q j) with
        | false =>
          rw [HDD.out, hok] at hgd
          rw [← HDD.out] at hgd
          obtain ⟨n1, n2⟩ := HNO.out j hlt HJJ.out hok
          have HN1 := Lib.hid n1
          have HN2 := Lib.hid n2
          clear hok n1 n2
          go_wp2_with (fail)
          rw [← hW4]
          clear hW4 d0 d1
          refine hgd.mono ?_
          rintro e w5 ⟨a5, n5, c5, rfl, hp5, hlo5, hb5⟩
          have HBX := Lib.hid (HB1.out.trans ((HB4.out.trans (hb5.mono HB4.out.size)).mono HB1.out.size))
          clear hgd hp5 hlo5 hb5
          go_wp2_with (fail)
          go_ret2
          rw [HN1.out, HN2.out]
          exact ⟨none, 0, 0, rfl, Pin.zero _, (fun x hx => by cases hx), HBX.out⟩
        | true =>
          rw [HDD.out, hok] at hgd
          rw [← HDD.out] at hgd
          have HOK := Lib.hid hok
          clear hok
          go_wp2_with (fail)
          rw [← hW4]
          clear hW4 d0 d1
          refine hgd.mono ?_
          rintro e w5 ⟨a5, n5, c5, rfl, hp5, hlo5, hb5⟩
          have hB5 : Below W1.heap.size W1 w5 := HB4.out.trans (hb5.mono HB4.out.size)
          have hO5 := HO4.out.next hb5
          have hap : Hid (n5 = 0 ∨ ∀ y, a5 = some y → some y.block ≠ (Value.slice ra (cnt j0 j) rc).ownBlock) := .inr fun y hy e2 => by
            have h5 := hlo5 y hy
            have h6 := (HO4.out.row.lt _ e2.symm).2
            omega
          have HO6 : Hid (OwnR (w5.alloc (.cells #[.slice a5 n5 c5] 42 (0, 0))) W1.heap.size (.slice ra (cnt j0 j) rc) (cnt j0 j) f) := hO5.next ((Below.refl _ _).alloc (Nat.le_refl _) _)
          have HP6 : Hid (Pin (w5.alloc (.cells #[.slice a5 n5 c5] 42 (0, 0))) a5 n5 c5 (brV B R D z)) := hp5.alloc _
          have HB6 : Hid (Below W1.heap.size W1 (w5.alloc (.cells #[.slice a5 n5 c5] 42 (0, 0)))) := hB5.alloc hB5.size _
          have HC6 : Hid ((w5.alloc (.cells #[.slice a5 n5 c5] 42 (0, 0))).cell? ⟨w5.heap.size, 0, none⟩ = some (.slice a5 n5 c5)) := by show _ = _; simp
          have hcn : Hid (cnt j0 j + 1 ≤ 1000000000000) := by show _ ≤ _; unfold cnt; split <;> omega
          clear hgd hp5 hlo5 hb5 hB5 hO5
          go_wp2_with (at_builtin; go_must (refine wpList_apR rfl (.tmp 56) (.tmp 58) rfl W1.heap.size _ (cnt j0 j) f rfl HO6.out w5.heap.size rfl a5 n5 c5 (brV B R D z) HC6.out HP6.out hap.out hcn.out HB6.out.size W1 HB6.out ?_); intro v7 w7 hO7 hb7 hgr7 hat7)
          go_roundw
          case rel =>
            have e1 : cnt j0 (j + 1) = cnt j0 j + 1 := by have := HJJ.out; unfold cnt; split <;> split <;> omega
            have e2 : skp j0 (cnt j0 j) = j := by have := HJJ.out; unfold skp cnt; split <;> split <;> omega
            refine ⟨j + 1, m + 1, _, by omega, by have := HM.out; omega, by go_num, ⟨by rw [e1]; exact hO7, fun t ht => ?_, fun t ht => ?_, hb7⟩⟩
            · by_cases e : t = j
              · subst e; exact .inr HOK.out
              · exact HI.out.all t (by omega)
            · rw [e1] at ht
              rcases Nat.lt_or_ge t (cnt j0 j) with h1 | h1
              · rw [snoc_old h1]; exact HI.out.zs t h1
              · obtain rfl : t = cnt j0 j := by omega
                rw [snoc_new, e2, HDD.out]
          case measure => simp [RowKit.intOf]; omega
    · obtain rfl : j = 3 := by omega
      have hmE : (m : Int) = (E : Int) := by omega
      have e1 : cnt j0 3 = 2 := by have := HJ0.out; unfold cnt; split <;> omega
      have hI' := hI.own
      rw [e1] at hI'
      obtain ⟨ra', rc', he, hrw, hnc, hcm, _⟩ := hI'.rws
      cases he
      rw [e1]
      have hpr := refPar_any ra 2 rc f wr hrw (by omega)
      obtain ⟨y1, y2⟩ := HYES.out f (fun t ht => hI.all t ht) (fun t ht => hI.zs t (by rw [e1]; exact ht))
      rw [← y1, ← y2] at hpr
      have HI := Lib.hid hI
      clear hI hI' hrw y1 y2 e1 hlt
      have hmE2 : m = E := by omega
      subst hmE2
      clear hmE hm
      go_wp2_with (fail)
      refine hpr.mono ?_
      rintro e w6 ⟨a6, n6, c6, rfl, hp6, hlo6, hb6⟩
      have HBX : Hid (Below w.heap.size w w6) := (HB1.out.trans (HI.out.bel.mono HB1.out.size)).trans (hb6.mono (Nat.le_trans HB1.out.size HI.out.bel.size))
      have HLO : Hid (∀ x, a6 = some x → w.heap.size ≤ x.block) := fun y hy => Nat.le_trans (Nat.le_trans HB1.out.size HI.out.bel.size) (hlo6 y hy)
      clear hpr hb6 hlo6 c1 c2 c3
      go_wp2_with (fail)
      go_ret2
      exact ⟨a6, n6, c6, rfl, hp6, HLO.out, HBX.out⟩
end

end Go.Proofs.YtacnhlmhibhlhaaGreat

/-
  The reference's Missing and Sound, by contract.
-/
namespace Go.Proofs.YtacnhlmhibhlhaaGreat
open Go.RowKit Go.Maps
set_option linter.unusedVariables false

theorem sg_small {g : Int} (h0 : 0 ≤ g) (h1 : g < 12) : Sg 3 3 12 g := by
  refine ⟨⟨⟨by omega, by omega, by omega, by omega, by omega, by omega⟩, by unfold QC PL; omega⟩, h0, by omega⟩
section
variable {B : Bn} {g i : Int}
theorem segO_in (hS : Sml B) (h0 : 0 ≤ g) (h1 : g < 12) : segO B g = true := by
  classical
  unfold segO
  refine decide_eq_true ?_
  rw [hS.d, hS.r, hS.s]
  exact sg_small h0 h1
theorem segO_out (hS : Sml B) (h : g < 0 ∨ 12 ≤ g) : segO B g = false := by
  cases hc : segO B g with
  | false => rfl
  | true =>
    have := segO_yes hc
    have h0 := this.g0
    have h1 := this.g1
    rw [hS.s] at h1
    omega
end
theorem RefAt.c7 {w : World} {M : Nat → Prop} {L : RLay} {F : Rf} (h : RefAt w M L F) : w.cell? ⟨L.p, 7, none⟩ = some (.bool F.dead) := by obtain ⟨fl, fc, h⟩ := h; exact h.c7

section
variable {M : Nat → Prop} {L : RLay} {R : Rk} {F : Rf} {w : World} {B : Bn} {b : Nat}
end

end Go.Proofs.YtacnhlmhibhlhaaGreat

/-
  The reference's Decode: its payload is new.
-/
namespace Go.Proofs.YtacnhlmhibhlhaaGreat
open Go.RowKit

set_option maxHeartbeats 1000000 in
theorem refDecN_no (a : Option Addr) (n c : Nat) (x : List Int) (w : World) (hx : Pin w a n c x) (hn : n ≠ 64) :
    Calls Tryz.prog 45 #[.slice a n c] w (DecNew w x) := by
  have ho : Hid (decO x = false) := by show _ = _; simp [decO, hx.len, hn]
  have hi : ((n : Int) != 64) = true := by simp; omega
  clear hx hn
  go_enter Tryz.func45, Tryz.ntmps45
  go_wp2_with (fail)
  exact bodyPost_ret (v := .tuple #[hv 0 0 0, .slice none 0 0, .bool false]) (by simp [results, Tryz.results45, go_sem]) rfl (by
    rw [DecNew, decN, decN, decN, decL, ho.out]
    exact ⟨_, _, _, rfl, Pin.zero _, (fun y hy => by cases hy), ((Below.refl _ _).alloc (Nat.le_refl _) _)⟩)

set_option maxHeartbeats 2000000 in
theorem refDecN_yes (a : Option Addr) (c : Nat) (x : List Int) (w : World) (hx : Pin w a 64 c x) :
    Calls Tryz.prog 45 #[.slice a 64 c] w (DecNew w x) := by
  have ho : Hid (decO x = true) := by show _ = _; simp [decO, hx.len]
  obtain ⟨b, off, rfl, hlt, _⟩ := hx.at (by omega)
  have hcap := hx.cap
  have hmax := hx.max
  have hc8 : ¬ c = 8 := by omega
  have hx1 := (hx.alloc (.cells #[.int .i64 0, .int .i64 0, .int .i64 0] 102 (0, 0))).alloc (.cells #[.int .i64 0, .int .i64 0, .int .i64 0] 102 (0, 0))
  go_enter Tryz.func45, Tryz.ntmps45
  go_wp2_with (fail)
  refine (refGet_yes _ 64 c 0 4 x _ hx1.bys (by omega) (by omega) (by omega) (by omega)).mono ?_
  rintro e w1 ⟨rfl, rfl⟩
  obtain ⟨p, hp⟩ : ∃ p, p = getN x 0 4 := ⟨_, rfl⟩
  rw [← hp]
  have hP := Lib.hid hp
  clear hp
  go_wp2_with (fail)
  refine (refGet_yes _ 64 c 4 2 x _ ((hx.alloc _).alloc _).bys (by omega) (by omega) (by omega) (by omega)).mono ?_
  rintro e w1 ⟨rfl, rfl⟩
  obtain ⟨q, hq⟩ : ∃ p, p = getN x 4 2 := ⟨_, rfl⟩
  rw [← hq]
  have hQ := Lib.hid hq
  clear hq
  go_wp2_with (fail)
  refine (refGet_yes _ 64 c 6 2 x _ ((hx.alloc _).alloc _).bys (by omega) (by omega) (by omega) (by omega)).mono ?_
  rintro e w1 ⟨rfl, rfl⟩
  obtain ⟨r, hr⟩ : ∃ p, p = getN x 6 2 := ⟨_, rfl⟩
  rw [← hr]
  have hR := Lib.hid hr
  clear hr
  go_wp2_with (fail)
  obtain ⟨w2, hw2⟩ : ∃ w2, w2 = (w.alloc (.cells #[.int .i64 0, .int .i64 0, .int .i64 0] 102)).alloc (.cells #[.int .i64 p, .int .i64 q, .int .i64 r] 102) := ⟨_, rfl⟩
  have hd : Hx w2.drew (w.heap.size + 1) p q r := by rw [hw2]; have := Hx.mk' (w.alloc (.cells #[.int .i64 0, .int .i64 0, .int .i64 0] 102)) p q r 102; simpa using this.drew
  have hz : Rc w2.drew w.heap.size := by rw [hw2]; exact ((Rc.mk' w 102).alloc _).drew
  have hx2 : Pin w2.drew (some ⟨b, off, none⟩) 64 c x := by rw [hw2]; exact ((hx.alloc _).alloc _).drewN 1
  have hB2 : Below w.heap.size w w2.drew := by rw [hw2]; exact below_drewN (((Below.refl _ _).alloc (Nat.le_refl _) _).alloc (by simp) _) 1
  rw [← hw2]
  clear hw2 hx hx1
  have hc0 := hd.c0
  have hc1 := hd.c1
  have hc2 := hd.c2
  refine wp_region_held_drew (S := (fun w' => w'.cell? ⟨w.heap.size + 1, 0, none⟩ = some (.int .i64 p) ∧ w'.cell? ⟨w.heap.size + 1, 1, none⟩ = some (.int .i64 q) ∧ w'.cell? ⟨w.heap.size + 1, 2, none⟩ = some (.int .i64 r))) (by kernel_rfl) ?_ (fun hHeld => ?_)
  · exact ⟨hc0, hc1, hc2⟩
  refine rgY 0 ?_ rfl (by kernel_rfl) (fun _ _ _ h => h) (.inl ⟨by rfl, fun w hSw => ?_⟩) (by assumption) ?_
  rotate_left
  · (try dsimp only at hSw); go_simp; try with_reducible rfl
  simp only [Act.put, rg1, rg2, rg3, rg4, rg6]
  refine rgY 1 ?_ rfl (by kernel_rfl) (fun _ _ _ h => h) (.inl ⟨by rfl, fun w hSw => ?_⟩) (by assumption) ?_
  rotate_left
  · (try dsimp only at hSw); go_simp; try with_reducible rfl
  simp only [Act.put, rg1, rg2, rg3, rg4, rg5, rg6]
  refine rgY 2 ?_ rfl (by kernel_rfl) (fun _ _ _ h => h) (.inl ⟨by rfl, fun w hSw => ?_⟩) (by assumption) ?_
  rotate_left
  · (try dsimp only at hSw); go_simp; try with_reducible rfl
  simp only [Act.put, rg1, rg2, rg3, rg4, rg5, rg6]
  refine wpAnyH_ready (rs := [3]) (by kernel_rfl) (by simp) ?_
  refine AllReadyH.cons rfl (fun K hK => ?_) AllReadyH.nil
  simp only [List.getElem_toArray, List.getElem_cons_succ, List.getElem_cons_zero]
  go_simp
  refine (copy_any _ 56 (c - 8) (x.drop 8) _ (hx2.rest 8).bys (fun h => by cases h) (by omega)).mono ?_
  rintro e w3 ⟨v3, rfl, ho3, hb3⟩
  have hd3 := hd.next hb3
  have hz3 := hz.next hb3
  have hB3 := hB2.trans (hb3.mono hB2.size)
  have hz2lt := hz.lt
  have HBS := Lib.hid hB2.size
  have hxl : (x.drop 8).length = 56 := by rw [List.length_drop, hx2.len]
  have HXL := Lib.hid hxl
  clear hd hz hB2 hb3 hx2 hxl
  obtain ⟨v0, z0⟩ := hz3.c0
  obtain ⟨v1, z1⟩ := hz3.c1
  obtain ⟨v2, z2⟩ := hz3.c2
  have f0 := hz3.f0
  have f1 := hz3.f1
  have f2 := hz3.f2
  go_wp2_with (fail)
  refine hK.out _ _ ⟨hd3.c0, hd3.c1, hd3.c2⟩ (fun hHeld => ?_)
  clear hK K
  refine wpAnyH_ready (rs := [4]) (by kernel_rfl) (by simp) ?_
  refine AllReadyH.cons rfl (fun K hK => ?_) AllReadyH.nil
  simp only [List.getElem_toArray, List.getElem_cons_succ, List.getElem_cons_zero]
  go_simp
  have hd4 : Hx (setH w3 w.heap.size p q r) (w.heap.size + 1) p q r := hd3.setOther (by omega)
  have hr4 : Hx (setH w3 w.heap.size p q r) w.heap.size p q r := hz3.set p q r
  have ho4 : Own (setH w3 w.heap.size p q r) w2.drew.heap.size v3 56 (x.drop 8) := ho3.setH hz2lt
  have hB4 : Below w.heap.size w (setH w3 w.heap.size p q r) := hB3.setH (Nat.le_refl _)
  refine hK.out _ (setH w3 w.heap.size p q r) ⟨hd4.c0, hd4.c1, hd4.c2⟩ (fun hHeld => ?_)
  clear hK K
  obtain ⟨w4, hw4⟩ : ∃ w4, w4 = setH w3 w.heap.size p q r := ⟨_, rfl⟩
  rw [← hw4] at hd4 hr4 ho4 hB4 hHeld ⊢
  clear hw4
  obtain ⟨a4, c4, rfl, hp4, hlo4⟩ := ho4.pin
  have HLO : Hid (∀ y, a4 = some y → w.heap.size ≤ y.block) := fun y hy => Nat.le_trans HBS.out (hlo4 y hy).1
  clear hlo4
  refine rgY 5 ?_ rfl (by kernel_rfl) (fun _ _ _ h => h) (.inl ⟨by rfl, fun w hSw => ?_⟩) (by assumption) ?_
  rotate_left
  · (try dsimp only at hSw); go_simp; try with_reducible rfl
  simp only [Act.put, rg1, rg2, rg3, rg4, rg5, rg6]
  refine rgY 6 ?_ rfl (by kernel_rfl) (fun _ _ _ h => h) (.inl ⟨by rfl, fun w hSw => ?_⟩) (by assumption) ?_
  rotate_left
  · (try dsimp only at hSw); go_simp; try with_reducible rfl
  simp only [Act.put, rg1, rg2, rg3, rg4, rg5, rg6]
  refine wpAnyH_done (by kernel_rfl) ?_ _
  go_wp2_with (fail)
  have g0 := hr4.c0
  have g1 := hr4.c1
  have g2 := hr4.c2
  exact bodyPost_ret (v := .tuple #[hv p q r, .slice a4 56 c4, .bool true]) (by simp [results, Tryz.results45, go_sem, g0, g1, g2]) rfl (by
    rw [DecNew, decN, decN, decN, decL, ho.out, ← hP.out, ← hQ.out, ← hR.out]
    exact ⟨_, _, _, rfl, hp4, HLO.out, hB4⟩)

theorem refDecN_any (a : Option Addr) (n c : Nat) (x : List Int) (w : World) (hx : Pin w a n c x) : Calls Tryz.prog 45 #[.slice a n c] w (DecNew w x) := by
  by_cases h : n = 64
  · subst h; exact refDecN_yes a c x w hx
  · exact refDecN_no a n c x w hx h

end Go.Proofs.YtacnhlmhibhlhaaGreat
