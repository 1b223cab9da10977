/-
  The law InodeTurned, walked.
-/
import Derived.Test.YtgfakdjljcnpiaaAl
namespace Go.Proofs.Ytgfakdjljcnpiaa
open Go.RowKit
set_option linter.unusedVariables false
set_option linter.unusedSimpArgs false

theorem wf_u8 {n : Int} (h : (Lit.int .u8 n).wf = true) : 0 ≤ n ∧ n ≤ 255 := by
  simp [Lit.wf, IntKind.min, IntKind.max, IntKind.signed, IntKind.bits] at h
  omega
def xr (a b : Int) : Int := ((a.toNat ^^^ b.toNat : Nat) : Int)
theorem xr_bd {a b : Int} (ha : 0 ≤ a ∧ a ≤ 255) (hb : 0 ≤ b ∧ b ≤ 255) : 0 ≤ xr a b ∧ xr a b ≤ 255 := by
  have : a.toNat ^^^ b.toNat < 2 ^ 8 := Nat.xor_lt_two_pow (by omega) (by omega)
  unfold xr
  omega
theorem u8_xr {a b : Int} (ha : 0 ≤ a ∧ a ≤ 255) (hb : 0 ≤ b ∧ b ≤ 255) : bits .xor .u8 a b = xr a b := u8_xor a b ha.1 (by omega) hb.1 (by omega)
theorem xr_ne {a b : Int} (ha : 0 ≤ a) (hb : 0 ≤ b) (h : b ≠ 0) : xr a b ≠ a := fun e => by
  unfold xr at e
  have h1 : a.toNat ^^^ b.toNat = a.toNat := by omega
  have h2 : a.toNat ^^^ (a.toNat ^^^ b.toNat) = b.toNat := by rw [← Nat.xor_assoc, Nat.xor_self, Nat.zero_xor]
  rw [h1, Nat.xor_self] at h2
  omega
/-- The list with one byte turned. -/
def trn (L : List Int) (p : Nat) (t : Int) : List Int := L.set p (xr (byt L p) t)
theorem trn_len (L : List Int) (p : Nat) (t : Int) : (trn L p t).length = L.length := by simp [trn]
theorem trn_small {L : List Int} (h : AllB L) (p : Nat) {t : Int} (ht : 0 ≤ t ∧ t ≤ 255) : AllB (trn L p t) := fun z hz => by
  rcases List.mem_or_eq_of_mem_set hz with h1 | rfl
  · exact h z h1
  · exact xr_bd (byt_bd h p) ht
theorem trn_ne {L : List Int} (h : AllB L) {p : Nat} (hp : p < L.length) {t : Int} (ht : 0 ≤ t) (h0 : t ≠ 0) : trn L p t ≠ L := fun e => by
  have h1 := congrArg (fun l => byt l p) e
  simp only [trn, byt_set hp] at h1
  exact xr_ne (byt_bd h p).1 ht h0 h1
theorem eq_turned {f : Nat → Int} (h : RgR f) {y : List Int} (hy : AllB y) (hne : y ≠ recB f) (ho : okG y = true) : eqR (gR y) f = false := by
  obtain ⟨i, hi, hn⟩ := tld_turn h hy hne ho
  cases he : eqR (gR y) f with
  | false => rfl
  | true =>
    have := eqR_iff.1 he i hi
    rw [gR, if_pos ho] at this
    exact absurd this hn
set_option maxRecDepth 100000 in
set_option maxHeartbeats 8000000 in
theorem turned_any (f : Nat → Int) (q v : Int) (w : World) (hv : 0 ≤ v ∧ v ≤ 255) :
    Calls Try.prog 8 #[rcv f, .int .i64 q, .int .u8 v] w fun e w' => e = .returned (.bool true) ∧ Below w.heap.size w w' := by
  obtain ⟨wa, hwa⟩ : ∃ wa, wa = w.alloc (.cells (rcs f) 24) := ⟨_, rfl⟩
  have hR : Rcb wa w.heap.size f := by rw [hwa]; exact Rcb.mk' w f
  have hB : Below w.heap.size w wa := by rw [hwa]; exact (Below.refl _ _).alloc (Nat.le_refl _) _
  have HR := Lib.hid hR
  have HB := Lib.hid hB
  have HW := Lib.hid hwa
  have hal := alive_any wa
  have HV := Lib.hid hv
  clear hR hB hwa hv
  cases hr : rgO f with
  | false =>
    go_enter Try.func8, Try.ntmps8
    go_upto_region 1 with fail
    rw [← HW.out]
    clear HW
    go_wp2_with (fail)
    refine hal.mono ?_
    rintro e wb ⟨rfl, hb⟩
    replace HB := Lib.hid (HB.out.trans (hb.mono HB.out.size))
    replace HR := Lib.hid (HR.out.next hb)
    clear hb hal
    go_wp2_with (refine wpList_ldR (by rfl) (.tmp 3) rfl w.heap.size rfl f HR.out ?_)
    refine (put_noR f wb hr).mono ?_
    rintro e wc ⟨a2, n2, c2, rfl, _, _, hb⟩
    replace HB := Lib.hid (HB.out.trans (hb.mono HB.out.size))
    clear hb
    go_wp2_with (fail)
    go_ret
    exact ⟨rfl, HB.out⟩
  | true =>
    have HRR := Lib.hid (rgO_iff.1 hr)
    clear hr
    by_cases q0 : q < 0
    · go_enter Try.func8, Try.ntmps8
      go_upto_region 1 with fail
      rw [← HW.out]
      clear HW
      go_wp2_with (fail)
      refine hal.mono ?_
      rintro e wb ⟨rfl, hb⟩
      replace HB := Lib.hid (HB.out.trans (hb.mono HB.out.size))
      replace HR := Lib.hid (HR.out.next hb)
      clear hb hal
      go_wp2_with (refine wpList_ldR (by rfl) (.tmp 3) rfl w.heap.size rfl f HR.out ?_)
      refine (put_blkR f wb HRR.out).mono ?_
      rintro e wc ⟨g, rfl, hk, hg, hb⟩
      replace HB := Lib.hid (HB.out.trans (hb.mono HB.out.size))
      have HN := Lib.hid (show w.heap.size < g by have := HR.out.lt; omega)
      replace HR := Lib.hid (HR.out.next hb)
      have HK := Lib.hid hk
      clear hb hg hk
      go_wp2_with (fail)
      go_ret
      exact ⟨rfl, HB.out⟩
    by_cases q1 : 56 ≤ q
    · go_enter Try.func8, Try.ntmps8
      go_upto_region 1 with fail
      rw [← HW.out]
      clear HW
      go_wp2_with (fail)
      refine hal.mono ?_
      rintro e wb ⟨rfl, hb⟩
      replace HB := Lib.hid (HB.out.trans (hb.mono HB.out.size))
      replace HR := Lib.hid (HR.out.next hb)
      clear hb hal
      go_wp2_with (refine wpList_ldR (by rfl) (.tmp 3) rfl w.heap.size rfl f HR.out ?_)
      refine (put_blkR f wb HRR.out).mono ?_
      rintro e wc ⟨g, rfl, hk, hg, hb⟩
      replace HB := Lib.hid (HB.out.trans (hb.mono HB.out.size))
      have HN := Lib.hid (show w.heap.size < g by have := HR.out.lt; omega)
      replace HR := Lib.hid (HR.out.next hb)
      have HK := Lib.hid hk
      clear hb hg hk
      go_wp2_with (fail)
      go_ret
      exact ⟨rfl, HB.out⟩
    by_cases v0 : v = 0
    · subst v0
      go_enter Try.func8, Try.ntmps8
      go_upto_region 1 with fail
      rw [← HW.out]
      clear HW
      go_wp2_with (fail)
      refine hal.mono ?_
      rintro e wb ⟨rfl, hb⟩
      replace HB := Lib.hid (HB.out.trans (hb.mono HB.out.size))
      replace HR := Lib.hid (HR.out.next hb)
      clear hb hal
      go_wp2_with (refine wpList_ldR (by rfl) (.tmp 3) rfl w.heap.size rfl f HR.out ?_)
      refine (put_blkR f wb HRR.out).mono ?_
      rintro e wc ⟨g, rfl, hk, hg, hb⟩
      replace HB := Lib.hid (HB.out.trans (hb.mono HB.out.size))
      have HN := Lib.hid (show w.heap.size < g by have := HR.out.lt; omega)
      replace HR := Lib.hid (HR.out.next hb)
      have HK := Lib.hid hk
      clear hb hg hk
      go_wp2_with (fail)
      go_ret
      exact ⟨rfl, HB.out⟩
    obtain ⟨p, rfl⟩ := Int.eq_ofNat_of_zero_le (show 0 ≤ q by omega)
    have hp56 : p < 56 := by omega
    have hpi : (p : Int) < 56 := by omega
    have hv0 : (v == 0) = false := by simpa using v0
    have HV0 := Lib.hid v0
    clear v0 q0 q1
    go_enter Try.func8, Try.ntmps8
    go_upto_region 1 with fail
    rw [← HW.out]
    clear HW
    go_wp2_with (fail)
    refine hal.mono ?_
    rintro e wb ⟨rfl, hb⟩
    replace HB := Lib.hid (HB.out.trans (hb.mono HB.out.size))
    replace HR := Lib.hid (HR.out.next hb)
    clear hb hal
    go_wp2_with (refine wpList_ldR (by rfl) (.tmp 3) rfl w.heap.size rfl f HR.out ?_)
    refine (put_blkR f wb HRR.out).mono ?_
    rintro e wc ⟨g, rfl, hk, hg, hb⟩
    replace HB := Lib.hid (HB.out.trans (hb.mono HB.out.size))
    have HN := Lib.hid (show w.heap.size < g by have := HR.out.lt; omega)
    replace HR := Lib.hid (HR.out.next hb)
    have HK := Lib.hid hk
    clear hb hg hk
    have cp := HK.out.cell (i := p) (by rw [recB_len]; exact hp56)
    have fp := HK.out.free p
    have lp := HK.out.lt
    obtain ⟨z, hz⟩ : ∃ z, z = byt (recB f) p := ⟨_, rfl⟩
    rw [← hz] at cp
    have hxz : bits .xor .u8 z v = xr z v := by rw [hz]; exact u8_xr (byt_bd (recB_small f) p) HV.out
    have hs := HK.out.set p (xr z v)
    have hss : (recB f).set p (xr z v) = trn (recB f) p v := by rw [hz]; rfl
    rw [hss] at hs
    have HK2 := Lib.hid (show Bys _ _ 56 _ from hs.bysn (trn_small (recB_small f) p HV.out) (by rw [trn_len, recB_len]))
    have HR2 := Lib.hid (HR.out.setCell (show w.heap.size ≠ g by have := HN.out; omega) p (.int .u8 (xr z v)))
    have HB2 := Lib.hid (HB.out.setCell (p := ⟨g, p, none⟩) (by show w.heap.size ≤ g; have := HN.out; omega) (.int .u8 (xr z v)))
    clear hs hss hz
    go_wp2_with (fail)
    refine (getR_any _ 56 56 (trn (recB f) p v) _ HK2.out (by omega)).mono ?_
    rintro e wd ⟨rfl, hb⟩
    replace HB := Lib.hid (HB2.out.trans (hb.mono HB2.out.size))
    replace HR := Lib.hid (HR2.out.next hb)
    clear hb HB2 HR2 HK2 cp fp lp
    obtain ⟨s, hs⟩ : ∃ g, g = gR (trn (recB f) p v) := ⟨_, rfl⟩
    obtain ⟨is, his⟩ : ∃ g, g = okG (trn (recB f) p v) := ⟨_, rfl⟩
    have hne : is = true → eqR s f = false := fun h => by rw [hs]; exact eq_turned HRR.out (trn_small (recB_small f) p HV.out) (trn_ne (recB_small f) (by rw [recB_len]; exact hp56) HV.out.1 HV0.out) (by rw [← his]; exact h)
    rw [← hs, ← his]
    have HE := Lib.hid hne
    clear hs his hne HK HN
    go_upto_region 8 with (refine wpList_stR (by rfl) (.tmp 9) (.tmp 54) rfl wd.heap.size rfl s rfl noR (Rcb.mk' wd noR) ?_; intro we hPg hOg hBg)
    have hb : Below wd.heap.size wd we := hBg _ _ (Nat.le_refl _) ((Below.refl _ _).alloc (Nat.le_refl _) _)
    replace HB := Lib.hid (HB.out.trans (hb.mono HB.out.size))
    replace HR := Lib.hid (HR.out.next hb)
    obtain ⟨b1, hb1⟩ : ∃ b, b = wd.heap.size := ⟨_, rfl⟩
    rw [← hb1] at hPg ⊢
    have HS := Lib.hid hPg
    clear hPg hOg hBg hb hb1
    cases is with
    | false =>
      go_wp2_with (fail)
      go_ret
      exact ⟨rfl, HB.out⟩
    | true =>
      have hq : ∀ w, (binOp .neq 24 (rcv s) (rcv f)).run Try.prog w = .ok (.bool true) w := fun w => by rw [run_neqR, HE.out rfl]; rfl
      go_wp2_with (first
        | (refine wpList_ldR (by rfl) (.tmp 9) rfl b1 rfl s HS.out ?_)
        | (refine wpList_ldR (by rfl) (.tmp 3) rfl w.heap.size rfl f HR.out ?_))
      go_ret
      exact ⟨rfl, HB.out⟩
end Go.Proofs.Ytgfakdjljcnpiaa
