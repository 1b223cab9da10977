/-
  MetaLoads, by contract.
-/
import Derived.Test.YtegcjpocdfmpfaaVba
import Derived.Test.YtegcjpocdfmpfaaVap
import Derived.Test.YtegcjpocdfmpfaaVaw
import Derived.Test.YtegcjpocdfmpfaaVaz
import Derived.Test.YtegcjpocdfmpfaaVbb
set_option linter.unusedVariables false
set_option linter.unusedSimpArgs false
set_option maxRecDepth 100000
set_option maxHeartbeats 16000000
namespace Go.Proofs.Ytegcjpocdfmpfaa
open Go.RowKit

/-- Two answers of Load that are alike are the same. -/
theorem ldP_two {L : List Nd} {f g : Nat → Nw} {n m : Nat} (h1 : lnL f n = L) (h2 : lnL g m = L) : n = m ∧ ∀ i, i < n → (f i).nd = (g i).nd := by
  have e1 := congrArg List.length h1
  have e2 := congrArg List.length h2
  rw [lnL_len] at e1 e2
  have e : n = m := by omega
  refine ⟨e, fun i hi => ?_⟩
  rw [← lnL_get f hi, ← lnL_get g (by omega : i < m), h1, h2]
theorem metaLoads_any (d r s : Int) (aA : Option Addr) (nA cA : Nat) (ks : List Int) (aD : Option Addr) (nD cD : Nat) (f : Nat → Pc) (root : Int) (w : World) (hi : Ins w aA nA ks) (hD : Rws w aD nD f) (hnD : nD ≤ 9223372036854775807) (hrb : ∀ i, i < nD → (f i).n ≤ reachBytes) :
    Calls Try.prog 4 #[gv d r s, .slice aA nA cA, .slice aD nD cD, .int .i64 root] w fun e w' => e = .returned (.bool true) ∧ Below w.heap.size w w' := by
  have hx := Bx.mk' w d r s 23
  have hB : Below w.heap.size w (w.alloc (.cells #[.int .i64 d, .int .i64 r, .int .i64 s] 23 (0, 0))) := (Below.refl _ _).alloc (Nat.le_refl _) _
  obtain ⟨w1, hw1⟩ : ∃ w1, w1 = w.alloc (.cells #[.int .i64 d, .int .i64 r, .int .i64 s] 23 (0, 0)) := ⟨_, rfl⟩
  rw [← hw1] at hx hB
  have HX := Lib.hid hx
  have HB := Lib.hid hB
  have HI := Lib.hid hi
  have HD := Lib.hid hD
  have HND := Lib.hid (And.intro hnD hrb)
  have HW := Lib.hid hw1
  clear hx hB hi hD hnD hrb hw1
  go_enter Try.func4, Try.ntmps4
  go_wp2_with (fail)
  rw [← HW.out]
  obtain ⟨g, hg⟩ : ∃ g, g = w.heap.size := ⟨_, rfl⟩
  rw [← hg] at HX
  have HG := Lib.hid hg
  rw [← hg]
  clear hg
  refine (alive_any w1).mono ?_
  rintro e w2 ⟨rfl, hb2⟩
  have HX2 := Lib.hid (HX.out.next hb2)
  have HB2 := Lib.hid (HB.out.trans (hb2.mono HB.out.size))
  clear hb2 HX HB
  have HI2 := Lib.hid (HI.out.next HB2.out)
  have HD2 := Lib.hid (HD.out.next HB2.out)
  by_cases h300 : 300 < nA
  · have k0 : (300 : Int) < (nA : Int) := by omega
    go_wp2_with (fail)
    go_ret
    exact ⟨rfl, HB2.out⟩
  have k0 : ¬ (300 : Int) < (nA : Int) := by omega
  have hwg := weigh_any 20000 (by omega) aD nD cD f w2 HD2.out HND.out.1 HND.out.2
  have e20 : ((20000 : Nat) : Int) = 20000 := rfl
  rw [e20] at hwg
  have HWG := Lib.hid hwg
  clear hwg e20
  go_wp2_with (fail)
  refine HWG.out.mono ?_
  rintro e w3 ⟨t, ht, rfl, rfl, hf⟩
  by_cases ht2 : 20000 < t
  · have k1 : (20000 : Int) < (t : Int) := by omega
    go_wp2_with (fail)
    go_ret
    exact ⟨rfl, HB2.out⟩
  obtain ⟨hn2, hf2⟩ := hf (by omega)
  have k1 : ¬ (20000 : Int) < (t : Int) := by omega
  by_cases hda : nD < nA
  · have k2 : (nD : Int) < (nA : Int) := by omega
    have HF := Lib.hid hf2
    clear hf2 hf
    go_wp2_with (fail)
    go_ret
    exact ⟨rfl, HB2.out⟩
  have k2 : ¬ (nD : Int) < (nA : Int) := by omega
  obtain ⟨w4, hw4⟩ : ∃ w4, w4 = w2.alloc (.cells #[.slice aA nA cA, .slice aD nD cD] 43) := ⟨_, rfl⟩
  have hb4 : Below w2.heap.size w2 w4 := by rw [hw4]; exact (Below.refl _ _).alloc (Nat.le_refl _) _
  have hr4 : w4.heap[w2.heap.size]? = some (.cells #[.slice aA nA cA, .slice aD nD cD] 43 (0, 0)) := by rw [hw4]; exact heap_alloc_new w2 _
  have hsto : Sto w4 w2.heap.size aA nA cA aD nD cD ks f :=
    ⟨lt_of_block hr4, cell_of_row _ _ 0 _ _ (0, 0) hr4, cell_of_row _ _ 1 _ _ (0, 0) hr4, HI2.out.next hb4, HD2.out.next hb4, by omega, by omega, fun i hi => by have := hf2 i (by omega); omega⟩
  have HSTO := Lib.hid hsto
  have HB4 := Lib.hid (HB2.out.trans (hb4.mono HB2.out.size))
  have HX4 := Lib.hid (HX2.out.next hb4)
  have HW4 := Lib.hid hw4
  clear hb4 hr4 hsto hw4 hf2 hf ht2 hda h300
  have c0 := HX2.out.c0
  have c1 := HX2.out.c1
  have c2 := HX2.out.c2
  have d0 := HX4.out.c0
  have d1 := HX4.out.c1
  have d2 := HX4.out.c2
  obtain ⟨p, hp⟩ : ∃ p, p = w2.heap.size := ⟨_, rfl⟩
  rw [← hp] at HSTO
  have HP := Lib.hid hp
  go_upto_region 6 with fail
  rw [← HW4.out, ← hp]
  clear hp c0 c1 c2 k0 k1 k2
  go_wp2_with (fail)
  obtain ⟨R, hR⟩ : ∃ R, R = ldR (adO d r s) (blkF ks f) root := ⟨_, rfl⟩
  have HR := Lib.hid hR
  refine (pload_any d r s p aA nA cA aD nD cD ks f root w4 HSTO.out).mono ?_
  rw [← hR]
  clear hR
  rintro e w5 ⟨hb5, hv5⟩
  have HX5 := Lib.hid (HX4.out.next hb5)
  have HB5 := Lib.hid (HB4.out.trans (hb5.mono HB4.out.size))
  have HSTO5 := Lib.hid (HSTO.out.next hb5)
  clear hb5 d0 d1 d2
  have d0 := HX5.out.c0
  have d1 := HX5.out.c1
  have d2 := HX5.out.c2
  have hrl := rload_any ⟨d, r, s, p, aA, nA, cA, aD, nD, cD, ks, f, w5⟩ root w5 HSTO5.out rfl
  have hR2 : (if geoO d r s = true then ldR (adN d r s) (blkF ks f) root else .error 15) = R := by
    rw [HR.out, adO]
    by_cases hge : geoO d r s = true
    · rw [if_pos hge, if_pos hge]
    · rw [if_neg hge, if_neg hge, ld_none]
  have hrl2 : Calls Try.prog 26 #[gv d r s, .pointer (some ⟨p, 0, none⟩), .int .i64 root] w5 (LdP w5 R) := by
    rw [← hR2]
    exact hrl
  have HRL := Lib.hid hrl2
  clear hrl hrl2 hR2
  cases R with
  | error er =>
    have hv5' : e = .returned (.tuple #[.slice none 0 0, .slice none 0 0, .int .i64 er]) := hv5
    subst hv5'
    clear hv5
    go_wp2_with (fail)
    refine HRL.out.mono ?_
    rintro e w6 ⟨hb6, hv6⟩
    have hv6' : e = .returned (.tuple #[.slice none 0 0, .slice none 0 0, .int .i64 er]) := hv6
    subst hv6'
    have HB6 := Lib.hid (HB5.out.trans (hb6.mono HB5.out.size))
    clear hv6 hb6 d0 d1 d2
    go_wp2_with (fail)
    refine (sameList_yes none none 0 0 0 (fun _ => default) (fun _ => default) w6 (.inl rfl) (.inl rfl) (by omega) (fun i hi => by omega)).mono ?_
    rintro e w7 ⟨rfl, hb7⟩
    have HB7 := Lib.hid (HB6.out.trans (hb7.mono HB6.out.size))
    clear hb7
    go_wp2_with (fail)
    refine (sameInts_yes none none 0 0 0 [] w7 ⟨rfl, .inl rfl⟩ ⟨rfl, .inl rfl⟩ (by omega)).mono ?_
    rintro e w8 ⟨rfl, hb8⟩
    have HB8 := Lib.hid (HB7.out.trans (hb8.mono HB7.out.size))
    clear hb8
    go_wp2_with (fail)
    go_ret
    exact ⟨rfl, HB8.out⟩
  | ok x =>
    obtain ⟨L, l⟩ := x
    obtain ⟨hL1, hL2, hL3⟩ := ld_few HR.out.symm
    obtain ⟨a1, n1, c1', a2, c2', f1, rfl, hn1, hk1, hl1, hi1⟩ := hv5
    have HN1 := Lib.hid hn1
    have HL1 := Lib.hid hl1
    have HI1 := Lib.hid hi1
    have HBD := Lib.hid (And.intro hL1 (And.intro hL2 hL3))
    clear hn1 hk1 hl1 hi1 hL1 hL2 hL3
    go_wp2_with (fail)
    refine HRL.out.mono ?_
    rintro e w6 ⟨hb6, hv6⟩
    obtain ⟨a3, n3, c3', a4, c4', f3, rfl, hn3, hk3, hl3, hi3⟩ := hv6
    obtain ⟨rfl, hnd⟩ := ldP_two HL1.out hl3
    have HN6 := Lib.hid (HN1.out.next hb6)
    have HI6 := Lib.hid (HI1.out.next hb6)
    have HN3 := Lib.hid hn3
    have HI3 := Lib.hid hi3
    have HND2 := Lib.hid hnd
    have HB6 := Lib.hid (HB5.out.trans (hb6.mono HB5.out.size))
    have hln : L.length = n1 := by rw [← HL1.out, lnL_len]
    have HM := Lib.hid (show ∀ i, i < n1 → (f1 i).n ≤ 1000000000000 from fun i hi => by
      have h1 := HBD.out.2.1 i (by omega)
      have h2 : L.getD i default = (f1 i).nd := by rw [← HL1.out, lnL_get f1 hi]
      rw [h2] at h1
      rcases HN6.out with h0 | ⟨b', o', e', _, hc'⟩
      · omega
      · have h3 := (hc' i hi).ins.len
        have h4 : (f1 i).ks.length ≤ 828 := h1
        omega)
    have hn56 : n1 ≤ 56 := by have := HBD.out.1; omega
    clear hb6 hn3 hk3 hl3 hi3 hnd hln HN1 HI1 d0 d1 d2
    go_wp2_with (fail)
    refine (sameList_yes a1 a3 n1 c1' c3' f1 f3 w6 HN6.out HN3.out (by omega) (fun i hi => ⟨HND2.out i hi, HM.out i hi⟩)).mono ?_
    rintro e w7 ⟨rfl, hb7⟩
    have HB7 := Lib.hid (HB6.out.trans (hb7.mono HB6.out.size))
    have HI67 := Lib.hid (HI6.out.next hb7)
    have HI37 := Lib.hid (HI3.out.next hb7)
    clear hb7
    go_wp2_with (fail)
    refine (sameInts_yes a2 a4 l.length c2' c4' l w7 HI67.out HI37.out (by have := HBD.out.2.2; omega)).mono ?_
    rintro e w8 ⟨rfl, hb8⟩
    have HB8 := Lib.hid (HB7.out.trans (hb8.mono HB7.out.size))
    clear hb8
    go_wp2_with (fail)
    go_ret
    exact ⟨rfl, HB8.out⟩
end Go.Proofs.Ytegcjpocdfmpfaa
