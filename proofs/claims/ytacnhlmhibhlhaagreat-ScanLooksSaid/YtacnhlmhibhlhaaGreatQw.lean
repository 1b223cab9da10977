/-
  The reference's Whole, by contract.
-/
import Derived.Test.YtacnhlmhibhlhaaGreatQr
import Derived.Test.YtacnhlmhibhlhaaGreatRwa
import Derived.Test.YtacnhlmhibhlhaaGreatWhb
set_option linter.unusedSimpArgs false
set_option linter.unusedVariables false
namespace Go.Proofs.YtacnhlmhibhlhaaGreat
open Go.RowKit Go.Maps
set_option linter.unusedVariables false

/-- What a segment's first i sectors tell, by flat numbers. -/
def whN (B : Bn) (R : Rk) (ks : List Int) (g : Int) : Nat → Option Int
  | 0 => some 0
  | i + 1 => (whN B R ks g i).bind (whS B R ks (qS g i) (qD g i))
theorem whN_row {B : Bn} {R : Rk} {g : Int} (hS : Sml B) (a : Nat) : whN B R (badL B R 3) g (3 * a) = whG B R 3 g a := by
  induction a with
  | zero => rfl
  | succ a ih =>
    rw [show 3 * (a + 1) = 3 * a + 2 + 1 by omega, whN, show 3 * a + 2 = 3 * a + 1 + 1 by omega, whN, show 3 * a + 1 = 3 * a + 0 + 1 by omega, whN, show 3 * a + 0 = 3 * a by omega, ih, whG]
    have d0 := qD_at g (a := a) (j := 0) (by omega)
    have d1 := qD_at g (a := a) (j := 1) (by omega)
    have d2 := qD_at g (a := a) (j := 2) (by omega)
    have s0 := qS_at g (a := a) (j := 0) (by omega)
    have s1 := qS_at g (a := a) (j := 1) (by omega)
    have s2 := qS_at g (a := a) (j := 2) (by omega)
    rw [show 3 * a + 0 = 3 * a by omega] at d0 s0
    rw [d0, s0, show 3 * a + 0 + 1 = 3 * a + 1 by omega, d1, s1, show 3 * a + 1 + 1 = 3 * a + 2 by omega, d2, s2, hS.r]
    cases whG B R 3 g a with
    | none => rfl
    | some u =>
      show _ = whC B R (badL B R 3) (rowD 3 (g * 3 + a)) (5 + (g * 3 + a)) u 3
      rw [whC, whC, whC, whC]
theorem whN_none {B : Bn} {R : Rk} {ks : List Int} {g : Int} {i n : Nat} (h : i ≤ n) (hc : whN B R ks g i = none) : whN B R ks g n = none := by
  induction n with
  | zero => obtain rfl : i = 0 := by omega
            exact hc
  | succ n ih =>
    rcases Nat.lt_or_ge n i with h1 | h1
    · obtain rfl : i = n + 1 := by omega
      exact hc
    · rw [whN, ih h1]; rfl
/-- How the reference's number goes with it. -/
def WhI2 (B : Bn) (R : Rk) (ks : List Int) (g : Int) (i : Nat) (s : Int) : Prop :=
  (whN B R ks g i = some 0 ∧ s = -1 ∧ ∀ j, j < i → qD g j ∈ ks) ∨ (1 ≤ s ∧ whN B R ks g i = some s) ∨ (whN B R ks g i = none ∧ s = 0)
section
variable {B : Bn} {R : Rk} {ks : List Int} {g s : Int} {i : Nat}
theorem WhI2.skip (h : WhI2 B R ks g i s) (hm : qD g i ∈ ks) : WhI2 B R ks g (i + 1) s := by
  have e : ∀ u, whN B R ks g i = some u → whN B R ks g (i + 1) = some u := fun u hu => by rw [whN, hu]; show whS _ _ _ _ _ _ = _; rw [whS, if_pos hm]
  rcases h with ⟨h1, h2, h3⟩ | ⟨h1, h2⟩ | ⟨h1, h2⟩
  · refine .inl ⟨e 0 h1, h2, fun j hj => ?_⟩
    by_cases hji : j = i
    · subst hji; exact hm
    · exact h3 j (by omega)
  · exact .inr (.inl ⟨h1, e s h2⟩)
  · exact .inr (.inr ⟨whN_none (Nat.le_succ i) h1, h2⟩)
theorem WhI2.bad (h : WhI2 B R ks g i s) (hm : ¬ qD g i ∈ ks) (hb : ldO B R (qD g i) (qS g i) = false) : whN B R ks g (i + 1) = none := by
  rw [whN]
  cases whN B R ks g i with
  | none => rfl
  | some u => show whS _ _ _ _ _ _ = _; rw [whS, if_neg hm, if_pos hb]
theorem WhI2.other {v : Int} (h : WhI2 B R ks g i s) (hm : ¬ qD g i ∈ ks) (hb : ldO B R (qD g i) (qS g i) = true) (hv : v = decN (brV B R (qD g i) (qS g i)) 0 4) (h0 : 0 ≤ s) (hne : v ≠ s) : whN B R ks g (i + 1) = none := by
  rcases h with ⟨h1, h2, h3⟩ | ⟨h1, h2⟩ | ⟨h1, h2⟩
  · omega
  · rw [whN, h2]
    show whS _ _ _ _ _ _ = _
    rw [whS, if_neg hm, if_neg (by rw [hb]; simp), ← hv, if_pos (.inr ⟨by omega, hne⟩)]
  · exact whN_none (Nat.le_succ i) h1
theorem WhI2.same {v : Int} (h : WhI2 B R ks g i s) (hm : ¬ qD g i ∈ ks) (hb : ldO B R (qD g i) (qS g i) = true) (hv : v = decN (brV B R (qD g i) (qS g i)) 0 4) (hv0 : 0 ≤ v) (hs : s < 0 ∨ v = s) : WhI2 B R ks g (i + 1) v := by
  rcases h with ⟨h1, h2, h3⟩ | ⟨h1, h2⟩ | ⟨h1, h2⟩
  · by_cases hz : v = 0
    · refine .inr (.inr ⟨?_, hz⟩)
      rw [whN, h1]
      show whS _ _ _ _ _ _ = _
      rw [whS, if_neg hm, if_neg (by rw [hb]; simp), ← hv, if_pos (.inl hz)]
    · refine .inr (.inl ⟨by omega, ?_⟩)
      rw [whN, h1]
      show whS _ _ _ _ _ _ = _
      rw [whS, if_neg hm, if_neg (by rw [hb]; simp), ← hv, if_neg (by omega)]
  · obtain rfl : v = s := by omega
    refine .inr (.inl ⟨h1, ?_⟩)
    rw [whN, h2]
    show whS _ _ _ _ _ _ = _
    rw [whS, if_neg hm, if_neg (by rw [hb]; simp), ← hv, if_neg (by omega)]
  · exact .inr (.inr ⟨whN_none (Nat.le_succ i) h1, by omega⟩)
/-- At the end. -/
theorem WhI2.fin (h : WhI2 B R ks g 9 s) (hk : ks.length ≤ 1) : (s < 1 → whN B R ks g 9 = none) ∧ (1 ≤ s → whN B R ks g 9 = some s) := by
  rcases h with ⟨h1, h2, h3⟩ | ⟨h1, h2⟩ | ⟨h1, h2⟩
  · exfalso
    have a := h3 0 (by omega)
    have b := h3 1 (by omega)
    match ks, hk with
    | [], _ => cases a
    | [k], _ =>
      have e0 : qD g 0 = k := List.mem_singleton.1 a
      have e1 : qD g 1 = k := List.mem_singleton.1 b
      have := rowD_inj (Q := g * 3 + ((0 : Nat) : Int)) (i := 0) (j := 1) (by omega) (by omega) (e0.trans e1.symm)
      omega
  · exact ⟨fun x => by omega, fun _ => h2⟩
  · exact ⟨fun _ => h1, fun x => by omega⟩
end
section
variable {M : Nat → Prop} {L : RLay} {R : Rk} {F : Rf} {w : World} {B : Bn} {b : Nat}
set_option maxRecDepth 100000 in
set_option maxHeartbeats 8000000 in
theorem whole_ref (g : Int) (hr : RefAt w M L F) (hb : RbAt w b L.p B) (hrel : Rel R F) (hS : Sml B) :
    Calls Tryz.prog 46 #[.pointer (some ⟨b, 0, none⟩), .int .i64 g] w fun e w' => e = .returned (.tuple #[.int .i64 ((whR B R 3 3 g).getD 0), .bool (whR B R 3 3 g).isSome, .int .i64 (chkE R (segO B g))]) ∧ Below w.heap.size w w' := by
  have c0 := hb.c0
  have c1 := hb.c1
  have c2 := hb.c2
  have c3 := hb.c3
  rw [hS.d] at c1
  rw [hS.r] at c2
  rw [hS.s] at c3
  have c7 := hr.c7
  rw [← hrel.off] at c7
  have HNO : segO B g = false → Hid (whR B R 3 3 g = none ∧ chkE R (segO B g) = 28) := fun h => by
    have hc : chkE R (segO B g) = 28 := by rw [h]; rfl
    exact ⟨by unfold whR; rw [hc]; rfl, hc⟩
  by_cases g0 : g < 0
  · have H := HNO (segO_out hS (.inl g0))
    clear HNO hr hb hrel hS
    go_enter Tryz.func46, Tryz.ntmps46
    go_wp2_with (fail)
    go_ret3
    rw [H.out.1, H.out.2]
    exact ⟨rfl, Below.refl _ _⟩
  by_cases g1 : 12 ≤ g
  · have H := HNO (segO_out hS (.inr g1))
    have d0 : decide (g < 0) = false := decide_eq_false g0
    clear HNO hr hb hrel hS g0
    go_enter Tryz.func46, Tryz.ntmps46
    go_wp2_with (fail)
    go_ret3
    rw [H.out.1, H.out.2]
    exact ⟨rfl, Below.refl _ _⟩
  have hth := segO_in hS (g := g) (by omega) (by omega)
  have d0 : decide (g < 0) = false := decide_eq_false g0
  have d1 : decide (12 ≤ g) = false := decide_eq_false g1
  have hg := sg_small (g := g) (by omega) (by omega)
  clear HNO g0 g1
  cases hoff : R.off with
  | true =>
    rw [hoff] at c7
    have H : Hid (whR B R 3 3 g = none ∧ chkE R (segO B g) = 12) := by
      have hc : chkE R (segO B g) = 12 := by unfold chkE; rw [hth, hoff]; rfl
      exact ⟨by unfold whR; rw [hc]; rfl, hc⟩
    clear hr hb hrel hS hth hoff hg
    go_enter Tryz.func46, Tryz.ntmps46
    go_wp2_with (fail)
    go_ret3
    rw [H.out.1, H.out.2]
    exact ⟨rfl, Below.refl _ _⟩
  | false =>
    rw [hoff] at c7
    obtain ⟨ks, hks⟩ : ∃ ks, ks = badL B R 3 := ⟨_, rfl⟩
    have H : Hid ((1 < ks.length → whR B R 3 3 g = none) ∧ (ks.length ≤ 1 → whR B R 3 3 g = whN B R ks g 9) ∧ chkE R (segO B g) = 0) := by
      have hc : chkE R (segO B g) = 0 := by unfold chkE; rw [hth, hoff]; rfl
      refine ⟨fun h => ?_, fun h => ?_, hc⟩
      · unfold whR twoB
        rw [if_pos hc, ← hks, decide_eq_true h]
        rfl
      · unfold whR twoB
        rw [if_pos hc, ← hks, decide_eq_false (by omega), hks]
        have := whN_row (R := R) (g := g) hS 3
        rw [if_neg (by simp)]
        exact this.symm
    have hbd := rbad_any 3 hr hb hS.d (by omega)
    rw [← hrel.badL, ← hks] at hbd
    have HR := Lib.hid hr
    have HB := Lib.hid hb
    have HREL := Lib.hid hrel
    have HSM := Lib.hid hS
    have HG := Lib.hid hg
    have hbl := hb.lt
    have HC : Hid (∀ wr, Below w.heap.size w wr → (wr.cell? ⟨b, 1, none⟩ = some (.int .i64 3) ∧ wr.cell? ⟨b, 2, none⟩ = some (.int .i64 3) ∧ wr.cell? ⟨b, 3, none⟩ = some (.int .i64 12))) := fun wr h1 =>
      ⟨(h1.cell (p := ⟨b, 1, none⟩) hbl).trans c1, (h1.cell (p := ⟨b, 2, none⟩) hbl).trans c2, (h1.cell (p := ⟨b, 3, none⟩) hbl).trans c3⟩
    have hk3 : ks.length ≤ 3 := by rw [hks]; exact badL_len B R 3
    obtain ⟨n, hn⟩ : ∃ n, n = ks.length := ⟨_, rfl⟩
    obtain ⟨k0, hk0⟩ : ∃ k, k = ks.getD 0 0 := ⟨_, rfl⟩
    have HKM : Hid (0 < n → k0 ∈ ks) := fun h => by
      rw [hk0]
      match ks, hn with
      | [], e => rw [e] at h; exact absurd h (Nat.lt_irrefl _)
      | k :: l, _ => exact List.mem_cons_self
    have HKO : Hid (∀ D : Int, n ≤ 1 → (n = 0 ∨ k0 ≠ D) → ¬ D ∈ ks) := fun D h1 h2 hm => by
      match ks, hn, hk0, hm with
      | [], _, _, hm => cases hm
      | [k], e, hk, hm =>
        have : D = k := List.mem_singleton.1 hm
        rcases h2 with h2 | h2
        · rw [h2] at e; cases e
        · exact h2 (by rw [hk, this]; rfl)
      | k :: l :: r, e, _, _ => rw [e] at h1; simp at h1
    rw [← hn] at H hk3
    clear hr hb hrel hS hth hoff hg hks
    go_enter Tryz.func46, Tryz.ntmps46
    go_wp2_with (fail)
    refine hbd.mono ?_
    rintro e w1 ⟨v, rfl, ho, hb1⟩
    obtain ⟨ka, kc, rfl, hins, hnc, hcm, _⟩ := ho.ins
    rw [← hn] at hins hnc ⊢
    have HINS : Hid (n = 0 ∨ ∃ kb ko, ka = some ⟨kb, ko, none⟩ ∧ kb < w1.heap.size ∧ w1.cell? ⟨kb, ko, none⟩ = some (.int .i64 k0)) := by
      rcases hins.2 with h | ⟨kb, ko, e, hl, hc⟩
      · exact .inl h
      · by_cases h0 : n = 0
        · exact .inl h0
        · exact .inr ⟨kb, ko, e, hl, by have := hc 0 (by omega); rwa [Nat.add_zero, ← hk0] at this⟩
    have HB1 := Lib.hid hb1
    have HN := Lib.hid hn
    clear hbd ho hins hb1 hk0 hn c0 c1 c2 c3 c7 hbl
    go_wp2_with (fail)
    clear d0 d1
    go_loopw [8, 9, 10, 11, 12, 13, 14, 15] (fun u v _p _q _r _s _t _x wr => ∃ (i : Nat) (s : Int), i ≤ 9 ∧ v = .int .i64 i ∧ u = .int .i64 s ∧ (n ≤ 1 → WhI2 B R ks g i s) ∧ Below w1.heap.size w1 wr) (fun _ v _ _ _ _ _ _ _ => 9 - (RowKit.intOf v).toNat)
    case atStart => exact ⟨0, -1, by omega, rfl, rfl, fun _ => .inl ⟨rfl, rfl, fun j hj => absurd hj (Nat.not_lt_zero _)⟩, Below.refl _ _⟩
    case round =>
      obtain ⟨i, s, hi, rfl, rfl, hJ, hbw⟩ := hrel
      obtain ⟨c1, c2, c3⟩ := HC.out wr (HB1.out.trans (hbw.mono HB1.out.size))
      have HJ := Lib.hid hJ
      have HBW := Lib.hid hbw
      clear hJ hbw
      by_cases hlt : i < 9
      · obtain ⟨D, hD⟩ : ∃ D, D = qD g i := ⟨_, rfl⟩
        obtain ⟨z, hz⟩ : ∃ z, z = qS g i := ⟨_, rfl⟩
        have hsp : ∀ w, Calls Tryz.prog 88 #[gv 3 3 12, .int .i64 g, .int .i64 i] w fun e w' => e = .returned (spV D z) ∧ Below w.heap.size w w' := fun w => by
          rw [hD, hz]
          exact spot_any g i w HG.out hlt
        have HDZ : Hid (D = qD g i ∧ z = qS g i) := ⟨hD, hz⟩
        clear hD hz
        go_wp2_with (fail)
        go_quiet (fail)
        have hbq : Below w1.heap.size w1 (wr.drewN nq) := below_drewN HBW.out nq
        obtain ⟨wo, hwo⟩ : ∃ wo, wo = wr.drewN nq := ⟨_, rfl⟩
        rw [← hwo] at hbq ⊢
        clear hwo c1 c2 c3
        obtain ⟨c1, c2, c3⟩ := HC.out wo (HB1.out.trans (hbq.mono HB1.out.size))
        have HBQ := Lib.hid hbq
        clear hbq
        go_wp2_with (fail)
        refine (hsp _).mono ?_
        rintro e w3 ⟨rfl, hb3⟩
        have hB3 := HBQ.out.trans (hb3.mono HBQ.out.size)
        have HB3 := Lib.hid hB3
        have HB4 : Hid (Below w1.heap.size w1 (w3.alloc (.cells #[.int .i64 D, .int .i64 z] 150))) := hB3.alloc hB3.size _
        clear hb3 hsp c1 c2 c3 hB3
        by_cases hn0 : n = 0
        · have HNM : Hid (n ≤ 1 → ¬ qD g i ∈ ks) := fun h => by rw [← HDZ.out.1]; exact HKO.out D h (.inl hn0)
          have HN0 := Lib.hid hn0
          have g1 : decide ((0 : Int) < (n : Int)) = false := decide_eq_false (by omega)
          have g1' : decide (0 < n) = false := decide_eq_false (by omega)
          clear hn0
          go_wp2_with (fail)
          go_quiet (fail)
          obtain ⟨X, hX⟩ : ∃ X, X = (w3.alloc (.cells #[.int .i64 D, .int .i64 z] 150)).drewN nq := ⟨_, rfl⟩
          obtain ⟨p, hp⟩ : ∃ p, p = w3.heap.size := ⟨_, rfl⟩
          have HBX : Hid (Below w1.heap.size w1 X) := by rw [hX]; exact below_drewN HB4.out nq
          have s0 : X.cell? ⟨p, 0, none⟩ = some (.int .i64 D) := by rw [hX, hp]; simp
          have s1 : X.cell? ⟨p, 1, none⟩ = some (.int .i64 z) := by rw [hX, hp]; simp
          rw [← hX, ← hp]
          have hBw := HB1.out.trans (HBX.out.mono HB1.out.size)
          have hrd := rbread_any D z (HR.out.below hBw) (HB.out.next hBw)
          rw [← HREL.out.brE, ← HREL.out.brV] at hrd
          clear hX hp hBw
          by_cases he : brE B R D z = 0
          · rw [he] at hrd
            obtain ⟨zs, hzs⟩ : ∃ zs, zs = brV B R D z := ⟨_, rfl⟩
            have hdo : decO zs = true := by rw [hzs, ((HR.out.len64 HREL.out B).dec D z), ldO, decide_eq_true he]
            have hld : ldO B R (qD g i) (qS g i) = true := by rw [← HDZ.out.1, ← HDZ.out.2, ldO, decide_eq_true he]
            obtain ⟨v, hv⟩ : ∃ v, v = decN zs 0 4 := ⟨_, rfl⟩
            have hv0 : 0 ≤ v := by
              rw [hv, decN, hdo, if_pos rfl]
              exact (getN_bd (by rw [hzs]; exact (HR.out.len64 HREL.out B).small D z) 0 4).1
            have HVV : Hid (v = decN (brV B R (qD g i) (qS g i)) 0 4) := by show _ = _; rw [hv, hzs, ← HDZ.out.1, ← HDZ.out.2]
            have HLD := Lib.hid hld
            have HV0 := Lib.hid hv0
            rw [← hzs] at hrd
            have HVE := Lib.hid hv
            clear he hzs hdo hld hv
            go_wp2_with (fail)
            refine hrd.mono ?_
            rintro e w5 ⟨vv, rfl, ho5, hb5⟩
            obtain ⟨a5, c5, rfl, hp5, _⟩ := ho5.pin
            have HB5 := Lib.hid (HBX.out.trans (hb5.mono HBX.out.size))
            have hdc := refDec_any a5 zs.length c5 zs w5 hp5
            clear hrd ho5 hp5 hb5 s0 s1
            go_wp2_with (fail)
            refine hdc.mono ?_
            rintro e w6 ⟨a6, n6, c6, rfl, hp6, hb6⟩
            rw [← HVE.out]
            have HB6 := Lib.hid (HB5.out.trans (hb6.mono HB5.out.size))
            obtain ⟨o1, ho1⟩ : ∃ o, o = decN zs 4 2 := ⟨_, rfl⟩
            obtain ⟨o2, ho2⟩ : ∃ o, o = decN zs 6 2 := ⟨_, rfl⟩
            obtain ⟨dd, hdd⟩ : ∃ o, o = decO zs := ⟨_, rfl⟩
            rw [← ho1, ← ho2, ← hdd]
            have HBZ1 : Hid (Below w1.heap.size w1 (w6.alloc (.cells #[.int .i64 v, .int .i64 o1, .int .i64 o2] 102))) := HB6.out.alloc HB6.out.size _
            have HBZ := Lib.hid (HB1.out.trans (HBZ1.out.mono HB1.out.size))
            clear hdc hp6 hb6 ho1 ho2 hdd
            rcases (by omega : s < 0 ∨ 0 ≤ s) with hs0 | hs0
            · have HNY : Hid (n ≤ 1 → WhI2 B R ks g (i + 1) v) := fun h => (HJ.out h).same (HNM.out h) HLD.out HVV.out HV0.out (.inl hs0)
              have g2 : decide (0 ≤ s) = false := decide_eq_false (by omega)
              clear hs0
              go_wp2_with (fail)
              go_roundw
              case rel => exact ⟨i + 1, v, by omega, by go_num, rfl, HNY.out, HBZ1.out⟩
              case measure => simp [RowKit.intOf]; omega
            · have g2 : decide (0 ≤ s) = true := decide_eq_true hs0
              by_cases hvs : v = s
              · have HNY : Hid (n ≤ 1 → WhI2 B R ks g (i + 1) v) := fun h => (HJ.out h).same (HNM.out h) HLD.out HVV.out HV0.out (.inr hvs)
                have g3 : (v != s) = false := by simp [hvs]
                clear hvs hs0
                go_wp2_with (fail)
                go_roundw
                case rel => exact ⟨i + 1, v, by omega, by go_num, rfl, HNY.out, HBZ1.out⟩
                case measure => simp [RowKit.intOf]; omega
              · have HNN : Hid (n ≤ 1 → whN B R ks g (i + 1) = none) := fun h => (HJ.out h).other (HNM.out h) HLD.out HVV.out hs0 hvs
                have g3 : (v != s) = true := by simpa using hvs
                clear hvs hs0
                go_wp2_with (fail)
                go_ret3
                have hres : whR B R 3 3 g = none := by
                  rcases Nat.lt_or_ge 1 n with h | h
                  · exact H.out.1 h
                  · rw [H.out.2.1 h]
                    exact whN_none (i := i + 1) hlt (HNN.out h)
                rw [hres, H.out.2.2]
                exact ⟨rfl, HBZ.out⟩
          · have hld : ldO B R (qD g i) (qS g i) = false := by rw [← HDZ.out.1, ← HDZ.out.2, ldO, decide_eq_false he]
            have HNN : Hid (n ≤ 1 → whN B R ks g (i + 1) = none) := fun h => (HJ.out h).bad (HNM.out h) hld
            obtain ⟨er, her⟩ : ∃ e, e = brE B R D z := ⟨_, rfl⟩
            rw [br_nil he] at hrd
            rw [← her] at hrd he
            have hne : (er != 0) = true := by simpa using he
            clear he her hld
            go_wp2_with (fail)
            refine hrd.mono ?_
            rintro e w5 ⟨vv, rfl, ho5, hb5⟩
            obtain ⟨a5, c5, rfl, hp5, _⟩ := ho5.pin
            have HB5 := Lib.hid (HBX.out.trans (hb5.mono HBX.out.size))
            have hdc := refDec_any a5 0 c5 [] w5 hp5
            clear hrd ho5 hp5 hb5 s0 s1
            go_wp2_with (fail)
            refine hdc.mono ?_
            rintro e w6 ⟨a6, n6, c6, rfl, hp6, hb6⟩
            obtain ⟨o0, ho0⟩ : ∃ o, o = decN ([] : List Int) 0 4 := ⟨_, rfl⟩
            obtain ⟨o1, ho1⟩ : ∃ o, o = decN ([] : List Int) 4 2 := ⟨_, rfl⟩
            obtain ⟨o2, ho2⟩ : ∃ o, o = decN ([] : List Int) 6 2 := ⟨_, rfl⟩
            obtain ⟨dd, hdd⟩ : ∃ o, o = decO ([] : List Int) := ⟨_, rfl⟩
            rw [← ho0, ← ho1, ← ho2, ← hdd]
            have HB6 := Lib.hid (HB5.out.trans (hb6.mono HB5.out.size))
            have HBZ : Hid (Below w.heap.size w (w6.alloc (.cells #[.int .i64 o0, .int .i64 o1, .int .i64 o2] 102))) := HB1.out.trans ((HB6.out.alloc HB6.out.size _).mono HB1.out.size)
            clear hdc hp6 hb6 ho0 ho1 ho2 hdd
            go_wp2_with (fail)
            go_ret3
            have hres : whR B R 3 3 g = none := by
              rcases Nat.lt_or_ge 1 n with h | h
              · exact H.out.1 h
              · rw [H.out.2.1 h]
                exact whN_none (i := i + 1) hlt (HNN.out h)
            rw [hres, H.out.2.2]
            exact ⟨rfl, HBZ.out⟩
        · obtain ⟨kb, ko, rfl, hkl, hkc⟩ := HINS.out.resolve_left hn0
          have k3 : w3.cell? ⟨kb, ko, none⟩ = some (.int .i64 k0) := (HB3.out.cell (p := ⟨kb, ko, none⟩) hkl).trans hkc
          have kl3 : kb < w3.heap.size := Nat.lt_of_lt_of_le hkl HB3.out.size
          have n0 : (0 : Int) < (n : Int) := by omega
          have HKK : Hid (0 < n) := by show _ < _; omega
          have g1 : decide ((0 : Int) < (n : Int)) = true := decide_eq_true n0
          have g1' : decide (0 < n) = true := decide_eq_true HKK.out
          have n0' : 0 < n := HKK.out
          clear hkl hkc hn0
          by_cases hkd : k0 = D
          · subst hkd
            have HNY : Hid (n ≤ 1 → WhI2 B R ks g (i + 1) s) := fun h => (HJ.out h).skip (by rw [← HDZ.out.1]; exact HKM.out HKK.out)
            go_wp2_with (fail)
            go_quiet (fail)
            have HBX : Hid (Below w1.heap.size w1 ((w3.alloc (.cells #[.int .i64 k0, .int .i64 z] 150)).drewN nq)) := below_drewN HB4.out nq
            clear k3 kl3
            go_wp2_with (fail)
            go_roundw
            case rel => exact ⟨i + 1, s, by omega, by go_num, rfl, HNY.out, HBX.out⟩
            case measure => simp [RowKit.intOf]; omega
          · have HNM : Hid (n ≤ 1 → ¬ qD g i ∈ ks) := fun h => by rw [← HDZ.out.1]; exact HKO.out D h (.inr hkd)
            have hkd2 : (k0 == D) = false := by simpa using hkd
            clear hkd
            go_wp2_with (fail)
            go_quiet (fail)
            clear k3 kl3 hkd2
            obtain ⟨X, hX⟩ : ∃ X, X = (w3.alloc (.cells #[.int .i64 D, .int .i64 z] 150)).drewN nq := ⟨_, rfl⟩
            obtain ⟨p, hp⟩ : ∃ p, p = w3.heap.size := ⟨_, rfl⟩
            have HBX : Hid (Below w1.heap.size w1 X) := by rw [hX]; exact below_drewN HB4.out nq
            have s0 : X.cell? ⟨p, 0, none⟩ = some (.int .i64 D) := by rw [hX, hp]; simp
            have s1 : X.cell? ⟨p, 1, none⟩ = some (.int .i64 z) := by rw [hX, hp]; simp
            rw [← hX, ← hp]
            have hBw := HB1.out.trans (HBX.out.mono HB1.out.size)
            have hrd := rbread_any D z (HR.out.below hBw) (HB.out.next hBw)
            rw [← HREL.out.brE, ← HREL.out.brV] at hrd
            clear hX hp hBw
            by_cases he : brE B R D z = 0
            · rw [he] at hrd
              obtain ⟨zs, hzs⟩ : ∃ zs, zs = brV B R D z := ⟨_, rfl⟩
              have hdo : decO zs = true := by rw [hzs, ((HR.out.len64 HREL.out B).dec D z), ldO, decide_eq_true he]
              have hld : ldO B R (qD g i) (qS g i) = true := by rw [← HDZ.out.1, ← HDZ.out.2, ldO, decide_eq_true he]
              obtain ⟨v, hv⟩ : ∃ v, v = decN zs 0 4 := ⟨_, rfl⟩
              have hv0 : 0 ≤ v := by
                rw [hv, decN, hdo, if_pos rfl]
                exact (getN_bd (by rw [hzs]; exact (HR.out.len64 HREL.out B).small D z) 0 4).1
              have HVV : Hid (v = decN (brV B R (qD g i) (qS g i)) 0 4) := by show _ = _; rw [hv, hzs, ← HDZ.out.1, ← HDZ.out.2]
              have HLD := Lib.hid hld
              have HV0 := Lib.hid hv0
              rw [← hzs] at hrd
              have HVE := Lib.hid hv
              clear he hzs hdo hld hv
              go_wp2_with (fail)
              refine hrd.mono ?_
              rintro e w5 ⟨vv, rfl, ho5, hb5⟩
              obtain ⟨a5, c5, rfl, hp5, _⟩ := ho5.pin
              have HB5 := Lib.hid (HBX.out.trans (hb5.mono HBX.out.size))
              have hdc := refDec_any a5 zs.length c5 zs w5 hp5
              clear hrd ho5 hp5 hb5 s0 s1
              go_wp2_with (fail)
              refine hdc.mono ?_
              rintro e w6 ⟨a6, n6, c6, rfl, hp6, hb6⟩
              rw [← HVE.out]
              have HB6 := Lib.hid (HB5.out.trans (hb6.mono HB5.out.size))
              obtain ⟨o1, ho1⟩ : ∃ o, o = decN zs 4 2 := ⟨_, rfl⟩
              obtain ⟨o2, ho2⟩ : ∃ o, o = decN zs 6 2 := ⟨_, rfl⟩
              obtain ⟨dd, hdd⟩ : ∃ o, o = decO zs := ⟨_, rfl⟩
              rw [← ho1, ← ho2, ← hdd]
              have HBZ1 : Hid (Below w1.heap.size w1 (w6.alloc (.cells #[.int .i64 v, .int .i64 o1, .int .i64 o2] 102))) := HB6.out.alloc HB6.out.size _
              have HBZ := Lib.hid (HB1.out.trans (HBZ1.out.mono HB1.out.size))
              clear hdc hp6 hb6 ho1 ho2 hdd
              rcases (by omega : s < 0 ∨ 0 ≤ s) with hs0 | hs0
              · have HNY : Hid (n ≤ 1 → WhI2 B R ks g (i + 1) v) := fun h => (HJ.out h).same (HNM.out h) HLD.out HVV.out HV0.out (.inl hs0)
                have g2 : decide (0 ≤ s) = false := decide_eq_false (by omega)
                clear hs0
                go_wp2_with (fail)
                go_roundw
                case rel => exact ⟨i + 1, v, by omega, by go_num, rfl, HNY.out, HBZ1.out⟩
                case measure => simp [RowKit.intOf]; omega
              · have g2 : decide (0 ≤ s) = true := decide_eq_true hs0
                by_cases hvs : v = s
                · have HNY : Hid (n ≤ 1 → WhI2 B R ks g (i + 1) v) := fun h => (HJ.out h).same (HNM.out h) HLD.out HVV.out HV0.out (.inr hvs)
                  have g3 : (v != s) = false := by simp [hvs]
                  clear hvs hs0
                  go_wp2_with (fail)
                  go_roundw
                  case rel => exact ⟨i + 1, v, by omega, by go_num, rfl, HNY.out, HBZ1.out⟩
                  case measure => simp [RowKit.intOf]; omega
                · have HNN : Hid (n ≤ 1 → whN B R ks g (i + 1) = none) := fun h => (HJ.out h).other (HNM.out h) HLD.out HVV.out hs0 hvs
                  have g3 : (v != s) = true := by simpa using hvs
                  clear hvs hs0
                  go_wp2_with (fail)
                  go_ret3
                  have hres : whR B R 3 3 g = none := by
                    rcases Nat.lt_or_ge 1 n with h | h
                    · exact H.out.1 h
                    · rw [H.out.2.1 h]
                      exact whN_none (i := i + 1) hlt (HNN.out h)
                  rw [hres, H.out.2.2]
                  exact ⟨rfl, HBZ.out⟩
            · have hld : ldO B R (qD g i) (qS g i) = false := by rw [← HDZ.out.1, ← HDZ.out.2, ldO, decide_eq_false he]
              have HNN : Hid (n ≤ 1 → whN B R ks g (i + 1) = none) := fun h => (HJ.out h).bad (HNM.out h) hld
              obtain ⟨er, her⟩ : ∃ e, e = brE B R D z := ⟨_, rfl⟩
              rw [br_nil he] at hrd
              rw [← her] at hrd he
              have hne : (er != 0) = true := by simpa using he
              clear he her hld
              go_wp2_with (fail)
              refine hrd.mono ?_
              rintro e w5 ⟨vv, rfl, ho5, hb5⟩
              obtain ⟨a5, c5, rfl, hp5, _⟩ := ho5.pin
              have HB5 := Lib.hid (HBX.out.trans (hb5.mono HBX.out.size))
              have hdc := refDec_any a5 0 c5 [] w5 hp5
              clear hrd ho5 hp5 hb5 s0 s1
              go_wp2_with (fail)
              refine hdc.mono ?_
              rintro e w6 ⟨a6, n6, c6, rfl, hp6, hb6⟩
              obtain ⟨o0, ho0⟩ : ∃ o, o = decN ([] : List Int) 0 4 := ⟨_, rfl⟩
              obtain ⟨o1, ho1⟩ : ∃ o, o = decN ([] : List Int) 4 2 := ⟨_, rfl⟩
              obtain ⟨o2, ho2⟩ : ∃ o, o = decN ([] : List Int) 6 2 := ⟨_, rfl⟩
              obtain ⟨dd, hdd⟩ : ∃ o, o = decO ([] : List Int) := ⟨_, rfl⟩
              rw [← ho0, ← ho1, ← ho2, ← hdd]
              have HB6 := Lib.hid (HB5.out.trans (hb6.mono HB5.out.size))
              have HBZ : Hid (Below w.heap.size w (w6.alloc (.cells #[.int .i64 o0, .int .i64 o1, .int .i64 o2] 102))) := HB1.out.trans ((HB6.out.alloc HB6.out.size _).mono HB1.out.size)
              clear hdc hp6 hb6 ho0 ho1 ho2 hdd
              go_wp2_with (fail)
              go_ret3
              have hres : whR B R 3 3 g = none := by
                rcases Nat.lt_or_ge 1 n with h | h
                · exact H.out.1 h
                · rw [H.out.2.1 h]
                  exact whN_none (i := i + 1) hlt (HNN.out h)
              rw [hres, H.out.2.2]
              exact ⟨rfl, HBZ.out⟩
      · obtain rfl : i = 9 := by omega
        clear hlt
        go_wp2_with (fail)
        go_quiet (fail)
        have hbq : Below w1.heap.size w1 (wr.drewN nq) := below_drewN HBW.out nq
        obtain ⟨wo, hwo⟩ : ∃ wo, wo = wr.drewN nq := ⟨_, rfl⟩
        rw [← hwo] at hbq ⊢
        have HBQ := Lib.hid (HB1.out.trans (hbq.mono HB1.out.size))
        clear hwo c1 c2 c3 hbq
        rcases Nat.lt_or_ge 1 n with hn1 | hn1
        · have HR1 := Lib.hid (H.out.1 hn1)
          have n1 : (1 : Int) < (n : Int) := by omega
          clear hn1
          go_wp2_with (fail)
          go_ret3
          rw [HR1.out, H.out.2.2]
          exact ⟨rfl, HBQ.out⟩
        · obtain ⟨f1, f2⟩ := (HJ.out hn1).fin (by rw [← HN.out]; exact hn1)
          have HR1 := Lib.hid (H.out.2.1 hn1)
          have n1 : decide ((1 : Int) < (n : Int)) = false := decide_eq_false (by omega)
          have n1' : decide (1 < n) = false := decide_eq_false (by omega)
          clear hn1
          rcases (by omega : s < 1 ∨ 1 ≤ s) with hs1 | hs1
          · have HS := Lib.hid (f1 hs1)
            clear f1 f2
            go_wp2_with (fail)
            go_ret3
            rw [HR1.out, HS.out, H.out.2.2]
            exact ⟨rfl, HBQ.out⟩
          · have HS := Lib.hid (f2 hs1)
            have hs2 : decide (s < 1) = false := decide_eq_false (by omega)
            clear f1 f2 hs1
            go_wp2_with (fail)
            go_ret3
            rw [HR1.out, HS.out, H.out.2.2]
            exact ⟨rfl, HBQ.out⟩
end

end Go.Proofs.YtacnhlmhibhlhaaGreat
