/-
  A worker that has met all: isInOrder, by contract.
-/
import Derived.Test.YtijhmpdeohbjhaaQad
import Derived.Test.YtijhmpdeohbjhaaQac
import Derived.Test.YtijhmpdeohbjhaaQab
import Derived.Test.YtijhmpdeohbjhaaQaa
import Derived.RangeFuncNested
import Derived.RangeFuncLeaves
import Derived.RangeFuncCalls
import Derived.LoopIn
import Derived.Shelf.Abstract
import Derived.BigRegionIn
set_option linter.unusedVariables false
set_option linter.unusedSimpArgs false
namespace Go.Proofs.Ytijhmpdeohbjhaa
open Go.RowKit
set_option linter.unusedVariables false
set_option linter.unusedSimpArgs false

section
variable {w : World} {wb pb eb n c : Nat} {na : Option Addr} {f : Nat → Nc}
set_option maxRecDepth 100000 in
set_option maxHeartbeats 16000000 in
theorem isInOrder_any (h : Mtd w wb pb eb na n c f) (hok : EntOk n f) {a : Nat} (ha : a < n) :
    Calls Try.prog 31 #[.pointer (some ⟨wb, 0, none⟩), .int .i64 a] w fun e w' => e = .returned (.bool (inOrd (ndL f n) a)) ∧ Below w.heap.size w w' := by
  have hn := hok.1
  have c1 := h.wk.c1
  have hlk := h.pl.ok (a := a) (by omega)
  have H := Lib.hid h
  have HOK := Lib.hid hok
  by_cases hm : a ∈ met (chs (ndL f n))
  · rw [if_pos hm, decide_eq_true hm] at hlk
    obtain ⟨ix, hix⟩ : ∃ ix, ix = (met (chs (ndL f n))).idxOf a := ⟨_, rfl⟩
    rw [← hix] at hlk
    by_cases he : (ix : Int) = (a : Int)
    · have hixa : ix = a := by omega
      clear he
      subst hixa
      have hlc := links_any (h.next (below_drewN (Below.refl _ _) 1)) hok ha
      have HP : Hid (inOrd (ndL f n) ix = (decide (lnkM (ndL f n) ix = (f ix).l) && (if isD (f ix).nd then decide (ix = 0) || decide (cntE (chs (ndL f n)) (met (chs (ndL f n))) ix = 1) else decide (cntE (chs (ndL f n)) (met (chs (ndL f n))) ix ≤ 200)))) := Lib.hid (by
        have e1 : plc (chs (ndL f n)) ix = ix := hix.symm
        unfold inOrd
        rw [decide_eq_true hm, decide_eq_true e1, nat_ndL ha]
        rfl)
      have HA := Lib.hid ha
      have HB0 : Hid (Below w.heap.size w (w.drewN 1)) := Lib.hid (below_drewN (Below.refl _ _) 1)
      have c0 := h.wk.c0
      obtain ⟨b, off, rfl, hbl, d0, d1, d2, d3⟩ := h.nds.at ha
      have k0 : (0 : Int) ≤ (ix : Int) := by omega
      have k1 : (ix : Int) < (n : Int) := by omega
      have HBL := Lib.hid hbl
      have D1 := Lib.hid d1
      have C0 := Lib.hid c0
      have hwl := h.wk.lt
      have HWL := Lib.hid hwl
      clear h hok hm hix ha d0 d2 d3 hwl hbl
      go_enter Try.func31, Try.ntmps31
      go_wp2_with (fail)
      refine wp_region_held_drew (S := (fun w' => w'.cell? ⟨wb, 0, none⟩ = some (.slice (some ⟨b, off, none⟩) n c) ∧ w'.cell? ⟨b, off + ix * 4 + 1, none⟩ = some (.int .i64 (f ix).l))) (by kernel_rfl) ?_ (fun hHeld => ?_)
      · exact ⟨c0, d1⟩
      refine wpAnyH_take (i := 0) (v := ?_) rfl (by kernel_rfl) (by kernel_rfl) (by kernel_rfl) (fun _ _ _ h => h) (Or.inl ⟨by rfl, fun w hSw => ?_⟩) (by assumption) ?_
      rotate_left
      · (try dsimp only at hSw); go_simp; try with_reducible rfl
      simp only [Act.put, List.setIfInBounds_toArray, List.set_cons_zero, List.set_cons_succ, List.getElem_toArray, List.getElem_cons_zero]
      refine wpAnyH_take (i := 1) (v := ?_) rfl (by kernel_rfl) (by kernel_rfl) (by kernel_rfl) (fun _ _ _ h => h) (Or.inl ⟨by rfl, fun w hSw => ?_⟩) (by assumption) ?_
      rotate_left
      · (try dsimp only at hSw); go_simp; try with_reducible rfl
      simp only [Act.put, List.setIfInBounds_toArray, List.set_cons_zero, List.set_cons_succ, List.getElem_toArray, List.getElem_cons_succ, List.getElem_cons_zero]
      refine wpAnyH_take (i := 2) (v := ?_) rfl (by kernel_rfl) (by kernel_rfl) (by kernel_rfl) (fun _ _ _ h => h) (Or.inl ⟨by rfl, fun w hSw => ?_⟩) (by assumption) ?_
      rotate_left
      · (try dsimp only at hSw); go_simp; try with_reducible rfl
      simp only [Act.put, List.setIfInBounds_toArray, List.set_cons_zero, List.set_cons_succ, List.getElem_toArray, List.getElem_cons_succ, List.getElem_cons_zero]
      refine wpAnyH_take (i := 3) (v := ?_) rfl (by kernel_rfl) (by kernel_rfl) (by kernel_rfl) (fun _ _ _ h => h) (Or.inl ⟨by rfl, fun w hSw => ?_⟩) (by assumption) ?_
      rotate_left
      · (try dsimp only at hSw); go_simp; try with_reducible rfl
      simp only [Act.put, List.setIfInBounds_toArray, List.set_cons_zero, List.set_cons_succ, List.getElem_toArray, List.getElem_cons_succ, List.getElem_cons_zero]
      refine wpAnyH_take (i := 4) (v := ?_) rfl (by kernel_rfl) (by kernel_rfl) (by kernel_rfl) (fun _ _ _ h => h) (Or.inl ⟨by rfl, fun w hSw => ?_⟩) (by assumption) ?_
      rotate_left
      · (try dsimp only at hSw); go_simp; try with_reducible rfl
      simp only [Act.put, List.setIfInBounds_toArray, List.set_cons_zero, List.set_cons_succ, List.getElem_toArray, List.getElem_cons_succ, List.getElem_cons_zero]
      refine wpAnyH_take (i := 5) (v := ?_) rfl (by kernel_rfl) (by kernel_rfl) (by kernel_rfl) (fun _ _ _ h => h) (Or.inl ⟨by rfl, fun w hSw => ?_⟩) (by assumption) ?_
      rotate_left
      · (try dsimp only at hSw); go_simp; try with_reducible rfl
      simp only [Act.put, List.setIfInBounds_toArray, List.set_cons_zero, List.set_cons_succ, List.getElem_toArray, List.getElem_cons_succ, List.getElem_cons_zero]
      refine wpAnyH_take (i := 6) (v := ?_) rfl (by kernel_rfl) (by kernel_rfl) (by kernel_rfl) (fun _ _ _ h => h) (Or.inl ⟨by rfl, fun w hSw => ?_⟩) (by assumption) ?_
      rotate_left
      · (try dsimp only at hSw); go_simp; try with_reducible rfl
      simp only [Act.put, List.setIfInBounds_toArray, List.set_cons_zero, List.set_cons_succ, List.getElem_toArray, List.getElem_cons_succ, List.getElem_cons_zero]
      refine wpAnyH_take (i := 7) (v := ?_) rfl (by kernel_rfl) (by kernel_rfl) (by kernel_rfl) (fun _ _ _ h => h) (Or.inl ⟨by rfl, fun w hSw => ?_⟩) (by assumption) ?_
      rotate_left
      · (try dsimp only at hSw); go_simp; try with_reducible rfl
      simp only [Act.put, List.setIfInBounds_toArray, List.set_cons_zero, List.set_cons_succ, List.getElem_toArray, List.getElem_cons_succ, List.getElem_cons_zero]
      refine wpAnyH_take (i := 8) (v := ?_) rfl (by kernel_rfl) (by kernel_rfl) (by kernel_rfl) (fun _ _ _ h => h) (Or.inl ⟨by rfl, fun w hSw => ?_⟩) (by assumption) ?_
      rotate_left
      · (try dsimp only at hSw); go_simp; try with_reducible rfl
      simp only [Act.put, List.setIfInBounds_toArray, List.set_cons_zero, List.set_cons_succ, List.getElem_toArray, List.getElem_cons_succ, List.getElem_cons_zero]
      refine wpAnyH_take (i := 9) (v := ?_) rfl (by kernel_rfl) (by kernel_rfl) (by kernel_rfl) (fun _ _ _ h => h) (Or.inl ⟨by rfl, fun w hSw => ?_⟩) (by assumption) ?_
      rotate_left
      · (try dsimp only at hSw); go_simp; try with_reducible rfl
      simp only [Act.put, List.setIfInBounds_toArray, List.set_cons_zero, List.set_cons_succ, List.getElem_toArray, List.getElem_cons_succ, List.getElem_cons_zero]
      refine wpAnyH_take (i := 10) (v := ?_) rfl (by kernel_rfl) (by kernel_rfl) (by kernel_rfl) (fun _ _ _ h => h) (Or.inl ⟨by rfl, fun w hSw => ?_⟩) (by assumption) ?_
      rotate_left
      · (try dsimp only at hSw); go_simp; try with_reducible rfl
      simp only [Act.put, List.setIfInBounds_toArray, List.set_cons_zero, List.set_cons_succ, List.getElem_toArray, List.getElem_cons_succ, List.getElem_cons_zero]
      refine wpAnyH_take (i := 11) (v := ?_) rfl (by kernel_rfl) (by kernel_rfl) (by kernel_rfl) (fun _ _ _ h => h) (Or.inl ⟨by rfl, fun w hSw => ?_⟩) (by assumption) ?_
      rotate_left
      · (try dsimp only at hSw); go_simp; try with_reducible rfl
      simp only [Act.put, List.setIfInBounds_toArray, List.set_cons_zero, List.set_cons_succ, List.getElem_toArray, List.getElem_cons_succ, List.getElem_cons_zero]
      refine wpAnyH_take (i := 12) (v := ?_) rfl (by kernel_rfl) (by kernel_rfl) (by kernel_rfl) (fun _ _ _ h => h) (Or.inl ⟨by rfl, fun w hSw => ?_⟩) (by assumption) ?_
      rotate_left
      · (try dsimp only at hSw); go_simp; try with_reducible rfl
      simp only [Act.put, List.setIfInBounds_toArray, List.set_cons_zero, List.set_cons_succ, List.getElem_toArray, List.getElem_cons_succ, List.getElem_cons_zero]
      refine wpAnyH_take (i := 13) (v := ?_) rfl (by kernel_rfl) (by kernel_rfl) (by kernel_rfl) (fun _ _ _ h => h) (Or.inl ⟨by rfl, fun w hSw => ?_⟩) (by assumption) ?_
      rotate_left
      · (try dsimp only at hSw); go_simp; try with_reducible rfl
      simp only [Act.put, List.setIfInBounds_toArray, List.set_cons_zero, List.set_cons_succ, List.getElem_toArray, List.getElem_cons_succ, List.getElem_cons_zero]
      refine wpAnyH_take (i := 14) (v := ?_) rfl (by kernel_rfl) (by kernel_rfl) (by kernel_rfl) (fun _ _ _ h => h) (Or.inl ⟨by rfl, fun w hSw => ?_⟩) (by assumption) ?_
      rotate_left
      · (try dsimp only at hSw); go_simp; try with_reducible rfl
      simp only [Act.put, List.setIfInBounds_toArray, List.set_cons_zero, List.set_cons_succ, List.getElem_toArray, List.getElem_cons_succ, List.getElem_cons_zero]
      refine wpAnyH_take (i := 15) (v := ?_) rfl (by kernel_rfl) (by kernel_rfl) (by kernel_rfl) (fun _ _ _ h => h) (Or.inl ⟨by rfl, fun w hSw => ?_⟩) (by assumption) ?_
      rotate_left
      · (try dsimp only at hSw); go_simp; try with_reducible rfl
      simp only [Act.put, List.setIfInBounds_toArray, List.set_cons_zero, List.set_cons_succ, List.getElem_toArray, List.getElem_cons_succ, List.getElem_cons_zero]
      refine wpAnyH_take (i := 16) (v := ?_) rfl (by kernel_rfl) (by kernel_rfl) (by kernel_rfl) (fun _ _ _ h => h) (Or.inl ⟨by rfl, fun w hSw => ?_⟩) (by assumption) ?_
      rotate_left
      · (try dsimp only at hSw); go_simp; try with_reducible rfl
      simp only [Act.put, List.setIfInBounds_toArray, List.set_cons_zero, List.set_cons_succ, List.getElem_toArray, List.getElem_cons_succ, List.getElem_cons_zero]
      refine wpAnyH_take (i := 17) (v := ?_) rfl (by kernel_rfl) (by kernel_rfl) (by kernel_rfl) (fun _ _ _ h => h) (Or.inl ⟨by rfl, fun w hSw => ?_⟩) (by assumption) ?_
      rotate_left
      · (try dsimp only at hSw); go_simp; try with_reducible rfl
      simp only [Act.put, List.setIfInBounds_toArray, List.set_cons_zero, List.set_cons_succ, List.getElem_toArray, List.getElem_cons_succ, List.getElem_cons_zero]
      refine wpAnyH_take (i := 18) (v := ?_) rfl (by kernel_rfl) (by kernel_rfl) (by kernel_rfl) (fun _ _ _ h => h) (Or.inl ⟨by rfl, fun w hSw => ?_⟩) (by assumption) ?_
      rotate_left
      · (try dsimp only at hSw); go_simp; try with_reducible rfl
      simp only [Act.put, List.setIfInBounds_toArray, List.set_cons_zero, List.set_cons_succ, List.getElem_toArray, List.getElem_cons_succ, List.getElem_cons_zero]
      refine wpAnyH_ready (rs := [19]) (by kernel_rfl) (by simp) ?_
      refine AllReadyH.cons rfl (fun K hK => ?_) AllReadyH.nil
      simp only [List.getElem_toArray, List.getElem_cons_succ, List.getElem_cons_zero]
      go_simp
      refine hlc.mono ?_
      rintro e w2 ⟨rfl, hb2⟩
      have c02 := (hb2.cell (p := ⟨wb, 0, none⟩) HWL.out).trans C0.out
      have d12 := (hb2.cell (p := ⟨b, off + ix * 4 + 1, none⟩) HBL.out).trans D1.out
      have HB2 := Lib.hid (HB0.out.trans (hb2.mono HB0.out.size))
      have H2 := Lib.hid ((H.out.next HB0.out).next hb2)
      clear hlc hb2
      go_wp2_with (fail)
      refine hK.out _ _ ⟨c02, d12⟩ (fun _ => ?_)
      clear hK K
      refine wpAnyH_take (i := 20) (v := ?_) rfl (by kernel_rfl) (by kernel_rfl) (by kernel_rfl) (fun _ _ _ h => h) (Or.inl ⟨by rfl, fun w hSw => ?_⟩) (by assumption) ?_
      rotate_left
      · (try dsimp only at hSw); go_simp; try with_reducible rfl
      simp only [Act.put, List.setIfInBounds_toArray, List.set_cons_zero, List.set_cons_succ, List.getElem_toArray, List.getElem_cons_succ, List.getElem_cons_zero]
      refine wpAnyH_take (i := 21) (v := ?_) rfl (by kernel_rfl) (by kernel_rfl) (by kernel_rfl) (fun _ _ _ h => h) (Or.inl ⟨by rfl, fun w hSw => ?_⟩) (by assumption) ?_
      rotate_left
      · (try dsimp only at hSw); go_simp; try with_reducible rfl
      simp only [Act.put, List.setIfInBounds_toArray, List.set_cons_zero, List.set_cons_succ, List.getElem_toArray, List.getElem_cons_succ, List.getElem_cons_zero]
      refine wpAnyH_done (by kernel_rfl) ?_ _
      clear c02 d12 c0 d1 hlk c1 k0 k1
      by_cases hl : lnkM (ndL f n) ix = (f ix).l
      · rw [decide_eq_true hl] at HP
        have hx : ((f ix).l != lnkM (ndL f n) ix) = false := by rw [hl]; simp
        rw [hx]
        have hid := isDir_any H2.out.wr HA.out (by have := HOK.out.1; omega)
        clear hl hx
        cases hd : isD (f ix).nd with
        | true =>
          rw [hd] at hid HP
          clear hd
          by_cases h0 : ix = 0
          · have HQ : Hid (inOrd (ndL f n) ix = true) := Lib.hid (by rw [HP.out, decide_eq_true h0]; rfl)
            clear HP
            subst h0
            go_wp2_with (fail)
            refine hid.mono ?_
            rintro e w3 ⟨rfl, hb3⟩
            have HB3 := Lib.hid (HB2.out.trans (hb3.mono HB2.out.size))
            clear hid hb3
            go_wp2_with (fail)
            go_ret
            exact ⟨by rw [HQ.out]; rfl, HB3.out⟩
          · have HQ : Hid (inOrd (ndL f n) ix = decide (cntE (chs (ndL f n)) (met (chs (ndL f n))) ix = 1)) := Lib.hid (by rw [HP.out, decide_eq_false h0]; rfl)
            clear HP
            have z0 : ¬ (ix : Int) = 0 := by omega
            have Z0 : Hid (((ix : Int) == 0) = false) := Lib.hid (by simpa using z0)
            clear h0
            go_wp2_with (fail)
            refine hid.mono ?_
            rintro e w3 ⟨rfl, hb3⟩
            have HB3 := Lib.hid (HB2.out.trans (hb3.mono HB2.out.size))
            have h3 := H2.out.next hb3
            have c23 := h3.wk.c2
            obtain ⟨N, hE⟩ := h3.en
            have hg := hE.get (a := ix) (by have := HA.out; have := HOK.out.1; omega)
            obtain ⟨K9, hK9⟩ : ∃ K9, K9 = cntE (chs (ndL f n)) (met (chs (ndL f n))) ix := ⟨_, rfl⟩
            rw [← hK9] at hg HQ
            clear hid hb3 h3 hE hK9
            go_wp2_with (fail)
            go_ret
            refine ⟨?_, HB3.out⟩
            rw [HQ.out]
            have e9 : decide ((K9 : Int) = 1) = decide (K9 = 1) := decide_eq_decide.2 (by omega)
            rw [← e9]
            have z9 := Z0.out
            simp [z9]
            try rfl
        | false =>
          rw [hd] at hid HP
          clear hd
          have HQ : Hid (inOrd (ndL f n) ix = decide (cntE (chs (ndL f n)) (met (chs (ndL f n))) ix ≤ 200)) := Lib.hid (by rw [HP.out]; rfl)
          clear HP
          go_wp2_with (fail)
          refine hid.mono ?_
          rintro e w3 ⟨rfl, hb3⟩
          have HB3 := Lib.hid (HB2.out.trans (hb3.mono HB2.out.size))
          have h3 := H2.out.next hb3
          have c23 := h3.wk.c2
          obtain ⟨N, hE⟩ := h3.en
          have hg := hE.get (a := ix) (by have := HA.out; have := HOK.out.1; omega)
          obtain ⟨K9, hK9⟩ : ∃ K9, K9 = cntE (chs (ndL f n)) (met (chs (ndL f n))) ix := ⟨_, rfl⟩
          rw [← hK9] at hg HQ
          clear hid hb3 h3 hE hK9
          go_wp2_with (fail)
          go_ret
          refine ⟨?_, HB3.out⟩
          rw [HQ.out]
          have e9 : decide ((K9 : Int) ≤ 200) = decide (K9 ≤ 200) := decide_eq_decide.2 (by omega)
          rw [← e9]
          rfl
      · have hx : ((f ix).l != lnkM (ndL f n) ix) = true := by simpa using fun e => hl e.symm
        rw [decide_eq_false hl, Bool.false_and] at HP
        rw [hx]
        clear hl hx
        go_wp2_with (fail)
        go_ret
        exact ⟨by rw [HP.out]; rfl, HB2.out⟩
    · have hne : ((ix : Int) != (a : Int)) = true := by simpa using he
      have HR : Hid (inOrd (ndL f n) a = false) := Lib.hid (by unfold inOrd; rw [decide_eq_false (p := plc (chs (ndL f n)) a = a) (fun e => he (by rw [hix]; exact congrArg Int.ofNat e)), Bool.false_and, Bool.and_false])
      clear h hok hm hix
      go_enter Try.func31, Try.ntmps31
      go_wp2_with (fail)
      refine wp_region_held_drew (S := fun _ => True) (by kernel_rfl) trivial (fun _ => ?_)
      refine wpAnyH_take (i := 0) (v := ?_) rfl (by kernel_rfl) (by kernel_rfl) (by kernel_rfl) (fun _ _ _ h => h) (Or.inl ⟨by rfl, fun w hSw => ?_⟩) (by assumption) ?_
      rotate_left
      · (try dsimp only at hSw); go_simp; try with_reducible rfl
      simp only [Act.put, List.setIfInBounds_toArray, List.set_cons_zero, List.set_cons_succ, List.getElem_toArray, List.getElem_cons_zero]
      refine wpAnyH_take (i := 1) (v := ?_) rfl (by kernel_rfl) (by kernel_rfl) (by kernel_rfl) (fun _ _ _ h => h) (Or.inl ⟨by rfl, fun w hSw => ?_⟩) (by assumption) ?_
      rotate_left
      · (try dsimp only at hSw); go_simp; try with_reducible rfl
      simp only [Act.put, List.setIfInBounds_toArray, List.set_cons_zero, List.set_cons_succ, List.getElem_toArray, List.getElem_cons_succ, List.getElem_cons_zero]
      refine wpAnyH_take (i := 2) (v := ?_) rfl (by kernel_rfl) (by kernel_rfl) (by kernel_rfl) (fun _ _ _ h => h) (Or.inl ⟨by rfl, fun w hSw => ?_⟩) (by assumption) ?_
      rotate_left
      · (try dsimp only at hSw); go_simp; try with_reducible rfl
      simp only [Act.put, List.setIfInBounds_toArray, List.set_cons_zero, List.set_cons_succ, List.getElem_toArray, List.getElem_cons_succ, List.getElem_cons_zero]
      refine wpAnyH_take (i := 3) (v := ?_) rfl (by kernel_rfl) (by kernel_rfl) (by kernel_rfl) (fun _ _ _ h => h) (Or.inl ⟨by rfl, fun w hSw => ?_⟩) (by assumption) ?_
      rotate_left
      · (try dsimp only at hSw); go_simp; try with_reducible rfl
      simp only [Act.put, List.setIfInBounds_toArray, List.set_cons_zero, List.set_cons_succ, List.getElem_toArray, List.getElem_cons_succ, List.getElem_cons_zero]
      refine wpAnyH_take (i := 4) (v := ?_) rfl (by kernel_rfl) (by kernel_rfl) (by kernel_rfl) (fun _ _ _ h => h) (Or.inl ⟨by rfl, fun w hSw => ?_⟩) (by assumption) ?_
      rotate_left
      · (try dsimp only at hSw); go_simp; try with_reducible rfl
      simp only [Act.put, List.setIfInBounds_toArray, List.set_cons_zero, List.set_cons_succ, List.getElem_toArray, List.getElem_cons_succ, List.getElem_cons_zero]
      refine wpAnyH_take (i := 5) (v := ?_) rfl (by kernel_rfl) (by kernel_rfl) (by kernel_rfl) (fun _ _ _ h => h) (Or.inl ⟨by rfl, fun w hSw => ?_⟩) (by assumption) ?_
      rotate_left
      · (try dsimp only at hSw); go_simp; try with_reducible rfl
      simp only [Act.put, List.setIfInBounds_toArray, List.set_cons_zero, List.set_cons_succ, List.getElem_toArray, List.getElem_cons_succ, List.getElem_cons_zero]
      refine wpAnyH_take (i := 6) (v := ?_) rfl (by kernel_rfl) (by kernel_rfl) (by kernel_rfl) (fun _ _ _ h => h) (Or.inl ⟨by rfl, fun w hSw => ?_⟩) (by assumption) ?_
      rotate_left
      · (try dsimp only at hSw); go_simp; try with_reducible rfl
      simp only [Act.put, List.setIfInBounds_toArray, List.set_cons_zero, List.set_cons_succ, List.getElem_toArray, List.getElem_cons_succ, List.getElem_cons_zero]
      refine wpAnyH_take (i := 7) (v := ?_) rfl (by kernel_rfl) (by kernel_rfl) (by kernel_rfl) (fun _ _ _ h => h) (Or.inl ⟨by rfl, fun w hSw => ?_⟩) (by assumption) ?_
      rotate_left
      · (try dsimp only at hSw); go_simp; try with_reducible rfl
      simp only [Act.put, List.setIfInBounds_toArray, List.set_cons_zero, List.set_cons_succ, List.getElem_toArray, List.getElem_cons_succ, List.getElem_cons_zero]
      refine wpAnyH_take (i := 8) (v := undef) rfl (by kernel_rfl) (by kernel_rfl) (by kernel_rfl) (fun _ _ _ h => h) (Or.inr ⟨by rfl, rfl⟩) (by assumption) ?_
      simp only [Act.put, List.setIfInBounds_toArray, List.set_cons_zero, List.set_cons_succ, List.getElem_toArray, List.getElem_cons_succ, List.getElem_cons_zero]
      refine wpAnyH_take (i := 9) (v := undef) rfl (by kernel_rfl) (by kernel_rfl) (by kernel_rfl) (fun _ _ _ h => h) (Or.inr ⟨by rfl, rfl⟩) (by assumption) ?_
      simp only [Act.put, List.setIfInBounds_toArray, List.set_cons_zero, List.set_cons_succ, List.getElem_toArray, List.getElem_cons_succ, List.getElem_cons_zero]
      refine wpAnyH_take (i := 10) (v := undef) rfl (by kernel_rfl) (by kernel_rfl) (by kernel_rfl) (fun _ _ _ h => h) (Or.inr ⟨by rfl, rfl⟩) (by assumption) ?_
      simp only [Act.put, List.setIfInBounds_toArray, List.set_cons_zero, List.set_cons_succ, List.getElem_toArray, List.getElem_cons_succ, List.getElem_cons_zero]
      refine wpAnyH_take (i := 11) (v := undef) rfl (by kernel_rfl) (by kernel_rfl) (by kernel_rfl) (fun _ _ _ h => h) (Or.inr ⟨by rfl, rfl⟩) (by assumption) ?_
      simp only [Act.put, List.setIfInBounds_toArray, List.set_cons_zero, List.set_cons_succ, List.getElem_toArray, List.getElem_cons_succ, List.getElem_cons_zero]
      refine wpAnyH_take (i := 12) (v := undef) rfl (by kernel_rfl) (by kernel_rfl) (by kernel_rfl) (fun _ _ _ h => h) (Or.inr ⟨by rfl, rfl⟩) (by assumption) ?_
      simp only [Act.put, List.setIfInBounds_toArray, List.set_cons_zero, List.set_cons_succ, List.getElem_toArray, List.getElem_cons_succ, List.getElem_cons_zero]
      refine wpAnyH_take (i := 13) (v := undef) rfl (by kernel_rfl) (by kernel_rfl) (by kernel_rfl) (fun _ _ _ h => h) (Or.inr ⟨by rfl, rfl⟩) (by assumption) ?_
      simp only [Act.put, List.setIfInBounds_toArray, List.set_cons_zero, List.set_cons_succ, List.getElem_toArray, List.getElem_cons_succ, List.getElem_cons_zero]
      refine wpAnyH_take (i := 14) (v := undef) rfl (by kernel_rfl) (by kernel_rfl) (by kernel_rfl) (fun _ _ _ h => h) (Or.inr ⟨by rfl, rfl⟩) (by assumption) ?_
      simp only [Act.put, List.setIfInBounds_toArray, List.set_cons_zero, List.set_cons_succ, List.getElem_toArray, List.getElem_cons_succ, List.getElem_cons_zero]
      refine wpAnyH_take (i := 15) (v := undef) rfl (by kernel_rfl) (by kernel_rfl) (by kernel_rfl) (fun _ _ _ h => h) (Or.inr ⟨by rfl, rfl⟩) (by assumption) ?_
      simp only [Act.put, List.setIfInBounds_toArray, List.set_cons_zero, List.set_cons_succ, List.getElem_toArray, List.getElem_cons_succ, List.getElem_cons_zero]
      refine wpAnyH_take (i := 16) (v := undef) rfl (by kernel_rfl) (by kernel_rfl) (by kernel_rfl) (fun _ _ _ h => h) (Or.inr ⟨by rfl, rfl⟩) (by assumption) ?_
      simp only [Act.put, List.setIfInBounds_toArray, List.set_cons_zero, List.set_cons_succ, List.getElem_toArray, List.getElem_cons_succ, List.getElem_cons_zero]
      refine wpAnyH_take (i := 17) (v := undef) rfl (by kernel_rfl) (by kernel_rfl) (by kernel_rfl) (fun _ _ _ h => h) (Or.inr ⟨by rfl, rfl⟩) (by assumption) ?_
      simp only [Act.put, List.setIfInBounds_toArray, List.set_cons_zero, List.set_cons_succ, List.getElem_toArray, List.getElem_cons_succ, List.getElem_cons_zero]
      refine wpAnyH_take (i := 18) (v := undef) rfl (by kernel_rfl) (by kernel_rfl) (by kernel_rfl) (fun _ _ _ h => h) (Or.inr ⟨by rfl, rfl⟩) (by assumption) ?_
      simp only [Act.put, List.setIfInBounds_toArray, List.set_cons_zero, List.set_cons_succ, List.getElem_toArray, List.getElem_cons_succ, List.getElem_cons_zero]
      refine wpAnyH_take (i := 19) (v := undef) rfl (by kernel_rfl) (by kernel_rfl) (by kernel_rfl) (fun _ _ _ h => h) (Or.inr ⟨by rfl, rfl⟩) (by assumption) ?_
      simp only [Act.put, List.setIfInBounds_toArray, List.set_cons_zero, List.set_cons_succ, List.getElem_toArray, List.getElem_cons_succ, List.getElem_cons_zero]
      refine wpAnyH_take (i := 20) (v := undef) rfl (by kernel_rfl) (by kernel_rfl) (by kernel_rfl) (fun _ _ _ h => h) (Or.inr ⟨by rfl, rfl⟩) (by assumption) ?_
      simp only [Act.put, List.setIfInBounds_toArray, List.set_cons_zero, List.set_cons_succ, List.getElem_toArray, List.getElem_cons_succ, List.getElem_cons_zero]
      refine wpAnyH_take (i := 21) (v := ?_) rfl (by kernel_rfl) (by kernel_rfl) (by kernel_rfl) (fun _ _ _ h => h) (Or.inl ⟨by rfl, fun w hSw => ?_⟩) (by assumption) ?_
      rotate_left
      · (try dsimp only at hSw); go_simp; try with_reducible rfl
      simp only [Act.put, List.setIfInBounds_toArray, List.set_cons_zero, List.set_cons_succ, List.getElem_toArray, List.getElem_cons_succ, List.getElem_cons_zero]
      refine wpAnyH_done (by kernel_rfl) ?_ _
      go_wp2_with (fail)
      go_ret
      exact ⟨by rw [HR.out]; rfl, below_drewN (Below.refl _ _) 1⟩
  · rw [if_neg hm, decide_eq_false hm] at hlk
    have HR : Hid (inOrd (ndL f n) a = false) := Lib.hid (by unfold inOrd; rw [decide_eq_false hm, Bool.false_and])
    clear h hok hm
    go_enter Try.func31, Try.ntmps31
    go_wp2_with (fail)
    refine wp_region_held_drew (S := fun _ => True) (by kernel_rfl) trivial (fun _ => ?_)
    refine wpAnyH_take (i := 0) (v := ?_) rfl (by kernel_rfl) (by kernel_rfl) (by kernel_rfl) (fun _ _ _ h => h) (Or.inl ⟨by rfl, fun w hSw => ?_⟩) (by assumption) ?_
    rotate_left
    · (try dsimp only at hSw); go_simp; try with_reducible rfl
    simp only [Act.put, List.setIfInBounds_toArray, List.set_cons_zero, List.set_cons_succ, List.getElem_toArray, List.getElem_cons_zero]
    refine wpAnyH_take (i := 1) (v := ?_) rfl (by kernel_rfl) (by kernel_rfl) (by kernel_rfl) (fun _ _ _ h => h) (Or.inl ⟨by rfl, fun w hSw => ?_⟩) (by assumption) ?_
    rotate_left
    · (try dsimp only at hSw); go_simp; try with_reducible rfl
    simp only [Act.put, List.setIfInBounds_toArray, List.set_cons_zero, List.set_cons_succ, List.getElem_toArray, List.getElem_cons_succ, List.getElem_cons_zero]
    refine wpAnyH_take (i := 2) (v := ?_) rfl (by kernel_rfl) (by kernel_rfl) (by kernel_rfl) (fun _ _ _ h => h) (Or.inl ⟨by rfl, fun w hSw => ?_⟩) (by assumption) ?_
    rotate_left
    · (try dsimp only at hSw); go_simp; try with_reducible rfl
    simp only [Act.put, List.setIfInBounds_toArray, List.set_cons_zero, List.set_cons_succ, List.getElem_toArray, List.getElem_cons_succ, List.getElem_cons_zero]
    refine wpAnyH_take (i := 3) (v := undef) rfl (by kernel_rfl) (by kernel_rfl) (by kernel_rfl) (fun _ _ _ h => h) (Or.inr ⟨by rfl, rfl⟩) (by assumption) ?_
    simp only [Act.put, List.setIfInBounds_toArray, List.set_cons_zero, List.set_cons_succ, List.getElem_toArray, List.getElem_cons_succ, List.getElem_cons_zero]
    refine wpAnyH_take (i := 4) (v := undef) rfl (by kernel_rfl) (by kernel_rfl) (by kernel_rfl) (fun _ _ _ h => h) (Or.inr ⟨by rfl, rfl⟩) (by assumption) ?_
    simp only [Act.put, List.setIfInBounds_toArray, List.set_cons_zero, List.set_cons_succ, List.getElem_toArray, List.getElem_cons_succ, List.getElem_cons_zero]
    refine wpAnyH_take (i := 5) (v := undef) rfl (by kernel_rfl) (by kernel_rfl) (by kernel_rfl) (fun _ _ _ h => h) (Or.inr ⟨by rfl, rfl⟩) (by assumption) ?_
    simp only [Act.put, List.setIfInBounds_toArray, List.set_cons_zero, List.set_cons_succ, List.getElem_toArray, List.getElem_cons_succ, List.getElem_cons_zero]
    refine wpAnyH_take (i := 6) (v := ?_) rfl (by kernel_rfl) (by kernel_rfl) (by kernel_rfl) (fun _ _ _ h => h) (Or.inl ⟨by rfl, fun w hSw => ?_⟩) (by assumption) ?_
    rotate_left
    · (try dsimp only at hSw); go_simp; try with_reducible rfl
    simp only [Act.put, List.setIfInBounds_toArray, List.set_cons_zero, List.set_cons_succ, List.getElem_toArray, List.getElem_cons_succ, List.getElem_cons_zero]
    refine wpAnyH_take (i := 7) (v := ?_) rfl (by kernel_rfl) (by kernel_rfl) (by kernel_rfl) (fun _ _ _ h => h) (Or.inl ⟨by rfl, fun w hSw => ?_⟩) (by assumption) ?_
    rotate_left
    · (try dsimp only at hSw); go_simp; try with_reducible rfl
    simp only [Act.put, List.setIfInBounds_toArray, List.set_cons_zero, List.set_cons_succ, List.getElem_toArray, List.getElem_cons_succ, List.getElem_cons_zero]
    refine wpAnyH_take (i := 8) (v := undef) rfl (by kernel_rfl) (by kernel_rfl) (by kernel_rfl) (fun _ _ _ h => h) (Or.inr ⟨by rfl, rfl⟩) (by assumption) ?_
    simp only [Act.put, List.setIfInBounds_toArray, List.set_cons_zero, List.set_cons_succ, List.getElem_toArray, List.getElem_cons_succ, List.getElem_cons_zero]
    refine wpAnyH_take (i := 9) (v := undef) rfl (by kernel_rfl) (by kernel_rfl) (by kernel_rfl) (fun _ _ _ h => h) (Or.inr ⟨by rfl, rfl⟩) (by assumption) ?_
    simp only [Act.put, List.setIfInBounds_toArray, List.set_cons_zero, List.set_cons_succ, List.getElem_toArray, List.getElem_cons_succ, List.getElem_cons_zero]
    refine wpAnyH_take (i := 10) (v := undef) rfl (by kernel_rfl) (by kernel_rfl) (by kernel_rfl) (fun _ _ _ h => h) (Or.inr ⟨by rfl, rfl⟩) (by assumption) ?_
    simp only [Act.put, List.setIfInBounds_toArray, List.set_cons_zero, List.set_cons_succ, List.getElem_toArray, List.getElem_cons_succ, List.getElem_cons_zero]
    refine wpAnyH_take (i := 11) (v := undef) rfl (by kernel_rfl) (by kernel_rfl) (by kernel_rfl) (fun _ _ _ h => h) (Or.inr ⟨by rfl, rfl⟩) (by assumption) ?_
    simp only [Act.put, List.setIfInBounds_toArray, List.set_cons_zero, List.set_cons_succ, List.getElem_toArray, List.getElem_cons_succ, List.getElem_cons_zero]
    refine wpAnyH_take (i := 12) (v := undef) rfl (by kernel_rfl) (by kernel_rfl) (by kernel_rfl) (fun _ _ _ h => h) (Or.inr ⟨by rfl, rfl⟩) (by assumption) ?_
    simp only [Act.put, List.setIfInBounds_toArray, List.set_cons_zero, List.set_cons_succ, List.getElem_toArray, List.getElem_cons_succ, List.getElem_cons_zero]
    refine wpAnyH_take (i := 13) (v := undef) rfl (by kernel_rfl) (by kernel_rfl) (by kernel_rfl) (fun _ _ _ h => h) (Or.inr ⟨by rfl, rfl⟩) (by assumption) ?_
    simp only [Act.put, List.setIfInBounds_toArray, List.set_cons_zero, List.set_cons_succ, List.getElem_toArray, List.getElem_cons_succ, List.getElem_cons_zero]
    refine wpAnyH_take (i := 14) (v := undef) rfl (by kernel_rfl) (by kernel_rfl) (by kernel_rfl) (fun _ _ _ h => h) (Or.inr ⟨by rfl, rfl⟩) (by assumption) ?_
    simp only [Act.put, List.setIfInBounds_toArray, List.set_cons_zero, List.set_cons_succ, List.getElem_toArray, List.getElem_cons_succ, List.getElem_cons_zero]
    refine wpAnyH_take (i := 15) (v := undef) rfl (by kernel_rfl) (by kernel_rfl) (by kernel_rfl) (fun _ _ _ h => h) (Or.inr ⟨by rfl, rfl⟩) (by assumption) ?_
    simp only [Act.put, List.setIfInBounds_toArray, List.set_cons_zero, List.set_cons_succ, List.getElem_toArray, List.getElem_cons_succ, List.getElem_cons_zero]
    refine wpAnyH_take (i := 16) (v := undef) rfl (by kernel_rfl) (by kernel_rfl) (by kernel_rfl) (fun _ _ _ h => h) (Or.inr ⟨by rfl, rfl⟩) (by assumption) ?_
    simp only [Act.put, List.setIfInBounds_toArray, List.set_cons_zero, List.set_cons_succ, List.getElem_toArray, List.getElem_cons_succ, List.getElem_cons_zero]
    refine wpAnyH_take (i := 17) (v := undef) rfl (by kernel_rfl) (by kernel_rfl) (by kernel_rfl) (fun _ _ _ h => h) (Or.inr ⟨by rfl, rfl⟩) (by assumption) ?_
    simp only [Act.put, List.setIfInBounds_toArray, List.set_cons_zero, List.set_cons_succ, List.getElem_toArray, List.getElem_cons_succ, List.getElem_cons_zero]
    refine wpAnyH_take (i := 18) (v := undef) rfl (by kernel_rfl) (by kernel_rfl) (by kernel_rfl) (fun _ _ _ h => h) (Or.inr ⟨by rfl, rfl⟩) (by assumption) ?_
    simp only [Act.put, List.setIfInBounds_toArray, List.set_cons_zero, List.set_cons_succ, List.getElem_toArray, List.getElem_cons_succ, List.getElem_cons_zero]
    refine wpAnyH_take (i := 19) (v := undef) rfl (by kernel_rfl) (by kernel_rfl) (by kernel_rfl) (fun _ _ _ h => h) (Or.inr ⟨by rfl, rfl⟩) (by assumption) ?_
    simp only [Act.put, List.setIfInBounds_toArray, List.set_cons_zero, List.set_cons_succ, List.getElem_toArray, List.getElem_cons_succ, List.getElem_cons_zero]
    refine wpAnyH_take (i := 20) (v := undef) rfl (by kernel_rfl) (by kernel_rfl) (by kernel_rfl) (fun _ _ _ h => h) (Or.inr ⟨by rfl, rfl⟩) (by assumption) ?_
    simp only [Act.put, List.setIfInBounds_toArray, List.set_cons_zero, List.set_cons_succ, List.getElem_toArray, List.getElem_cons_succ, List.getElem_cons_zero]
    refine wpAnyH_take (i := 21) (v := ?_) rfl (by kernel_rfl) (by kernel_rfl) (by kernel_rfl) (fun _ _ _ h => h) (Or.inl ⟨by rfl, fun w hSw => ?_⟩) (by assumption) ?_
    rotate_left
    · (try dsimp only at hSw); go_simp; try with_reducible rfl
    simp only [Act.put, List.setIfInBounds_toArray, List.set_cons_zero, List.set_cons_succ, List.getElem_toArray, List.getElem_cons_succ, List.getElem_cons_zero]
    refine wpAnyH_done (by kernel_rfl) ?_ _
    go_wp2_with (fail)
    go_ret
    exact ⟨by rw [HR.out]; rfl, below_drewN (Below.refl _ _) 1⟩
end
end Go.Proofs.Ytijhmpdeohbjhaa

/-
  The program's Right: by contract.
-/
namespace Go.Proofs.Ytijhmpdeohbjhaa
open Go.RowKit
set_option linter.unusedVariables false
set_option linter.unusedSimpArgs false

theorem allIn_succ {p : Nat → Bool} {k : Nat} (h : ∀ i, i < k → p i = true) (e : p k = true) : ∀ i, i < k + 1 → p i = true := fun i hi => by
  by_cases hk : i = k
  · rw [hk]; exact e
  · exact h i (by omega)
section
variable {w : World} {n c : Nat} {na : Option Addr} {f : Nat → Nc}
set_option maxRecDepth 100000 in
set_option maxHeartbeats 16000000 in
theorem right_any (h : Nds w na n f) (hn : n ≤ 1000000) (hm : ∀ i, i < n → (f i).en ≤ 1000000) :
    Calls Try.prog 18 #[.agg #[.slice na n c]] w fun e w' => e = .returned (.bool (rightB (ndL f n))) ∧ Below w.heap.size w w' := by
  have hmf : ∀ (fn : Fn) (first cap : Array Value) (w : World), (Instr.makeFunc fn first cap).run Try.prog w = .ok (.func fn first cap) w := fun _ _ _ _ => rfl
  have hfm : Hid (rightB (ndL f n) = (decide (1 ≤ n) && (decide (n ≤ 56) && (isD (nat (ndL f n) 0) && (!((ndL f n).any (wrongB n)) && (List.range n).all (inOrd (ndL f n))))))) := Lib.hid (by
    have := right_form (L := ndL f n)
    rwa [ndL_len] at this)
  by_cases h1 : n < 1
  · obtain rfl : n = 0 := by omega
    have HR : Hid (rightB (ndL f 0) = false) := Lib.hid (by rw [hfm.out]; rfl)
    clear h hm hfm
    go_enter Try.func18, Try.ntmps18
    go_wp2_with (fail)
    go_ret
    exact ⟨by rw [HR.out]; rfl, (Below.refl _ _).alloc (Nat.le_refl _) _⟩
  have k1 : ¬ (n : Int) < 1 := by omega
  by_cases h2 : 56 < n
  · have HR : Hid (rightB (ndL f n) = false) := Lib.hid (by rw [hfm.out, decide_eq_false (by omega : ¬ n ≤ 56), Bool.false_and, Bool.and_false])
    have k2 : (56 : Int) < (n : Int) := by omega
    clear h hm hfm h1 h2
    go_enter Try.func18, Try.ntmps18
    go_wp2_with (fail)
    go_ret
    exact ⟨by rw [HR.out]; rfl, (Below.refl _ _).alloc (Nat.le_refl _) _⟩
  have k2 : ¬ (56 : Int) < (n : Int) := by omega
  rw [decide_eq_true (by omega : 1 ≤ n), decide_eq_true (by omega : n ≤ 56), nat_ndL (show 0 < n by omega)] at hfm
  have HN := Lib.hid (And.intro (Nat.le_of_not_lt h1) (Nat.le_of_not_lt h2))
  have k0 : (0 : Int) < (n : Int) := by omega
  obtain ⟨b, off, rfl, hbl, d0, d1, d2, d3⟩ := h.at (show 0 < n by omega)
  have e0 : off + 0 * 4 = off := by omega
  rw [e0] at d0
  have hb0 : ∀ o, (w.alloc o).cell? ⟨b, off, none⟩ = some (.int .i64 (f 0).k) := fun o => (((Below.refl w.heap.size w).alloc (Nat.le_refl _) o).cell (p := ⟨b, off, none⟩) hbl).trans d0
  have HH := Lib.hid h
  have HM := Lib.hid hm
  by_cases h3 : (f 0).k = 2
  · have hd : isD (f 0).nd = true := by
      have : isD (f 0).nd = ((f 0).k == 2) := rfl
      rw [this, h3]; rfl
    rw [hd] at hfm
    obtain ⟨wb, hwb⟩ : ∃ wb, wb = w.heap.size + 1 := ⟨_, rfl⟩
    obtain ⟨w1, hw1⟩ : ∃ w1, w1 = (w.alloc (.cells #[.slice (some ⟨b, off, none⟩) n c] 34 (0, 0))).alloc (.cells #[.slice (some ⟨b, off, none⟩) n c, .map none, .map none] 59 (0, 0)) := ⟨_, rfl⟩
    have hb1 : Below w.heap.size w w1 := by rw [hw1]; exact ((Below.refl _ _).alloc (Nat.le_refl _) _).alloc (by simp) _
    have hwk : WkB w1 wb (some ⟨b, off, none⟩) n c none none := by
      rw [hw1, hwb]
      have := heap_alloc_new (w.alloc (.cells #[.slice (some ⟨b, off, none⟩) n c] 34 (0, 0))) (.cells #[.slice (some ⟨b, off, none⟩) n c, .map none, .map none] 59 (0, 0))
      simpa [WkB] using this
    have hwr : Wr w1 wb (some ⟨b, off, none⟩) n c f := ⟨⟨_, _, hwk⟩, h.next hb1⟩
    have hct := containsN_any _ #[.pointer (some ⟨wb, 0, none⟩)] enters_49 _ w1 (some ⟨b, off, none⟩) n c f (gives_49 hwr hn hm) hwr.nds hn
    have HB1 := Lib.hid hb1
    have HWR := Lib.hid hwr
    have c0 := hwk.c0
    have HWB := Lib.hid hwb
    clear h hm hb1 hwk hwr d0 d1 d2 d3 hbl e0 h1 h2 hd
    cases hx : (ndL f n).any (wrongB n) with
    | true =>
      have HR : Hid (rightB (ndL f n) = false) := Lib.hid (by rw [hfm.out, hx]; rfl)
      rw [hx] at hct
      clear hx hfm
      go_enter Try.func18, Try.ntmps18
      go_wp2_with (fail)
      rw [← hw1, ← hwb]
      clear hw1 hwb
      refine hct.mono ?_
      rintro e w2 ⟨rfl, hb2⟩
      have HB2 := Lib.hid (HB1.out.trans (hb2.mono HB1.out.size))
      clear hct hb2
      go_wp2_with (fail)
      go_ret
      exact ⟨by rw [HR.out]; rfl, HB2.out⟩
    | false =>
      have HR : Hid (rightB (ndL f n) = (List.range n).all (inOrd (ndL f n))) := Lib.hid (by rw [hfm.out, hx]; rfl)
      have hok : EntOk n f := ⟨HN.out.2, fun i hi => by
        rw [List.any_eq_false] at hx
        have h5 : (f i).nd ∈ ndL f n := List.mem_map.2 ⟨i, List.mem_range.2 hi, rfl⟩
        have h6 := hx _ h5
        rcases (wrongB_iff HN.out.2).1 (by simpa using h6) with h7 | h7
        · have h8 : (f i).e = [] := h7.2.1
          rw [h8]
          exact ⟨by simp, fun y hy => by cases hy⟩
        · refine ⟨h7.2.2.1, fun y hy => ?_⟩
          have := h7.2.2.2.1 y hy
          exact ⟨by omega, this.2.2⟩⟩
      have HOK := Lib.hid hok
      rw [hx] at hct
      clear hx hfm hok
      go_enter Try.func18, Try.ntmps18
      go_wp2_with (fail)
      rw [← hw1, ← hwb]
      clear hw1 hwb
      refine hct.mono ?_
      rintro e w2 ⟨rfl, hb2⟩
      have hma := meetAll_any (HWR.out.next hb2) HOK.out HN.out.1
      have HB2 := Lib.hid (HB1.out.trans (hb2.mono HB1.out.size))
      clear hct hb2
      go_wp2_with (fail)
      refine hma.mono ?_
      rintro e w3 ⟨rfl, hT3, pb, eb, hwk3, hnds3, hpl3, hen3, hp1, hp2⟩
      have hmt : Mtd w3 wb pb eb (some ⟨b, off, none⟩) n c f := ⟨hwk3, hnds3, hpl3, hen3⟩
      have HB3 : Hid (Below w.heap.size w w3) := Lib.hid (HB2.out.trans (hT3.below HB2.out.size (fun k e => by have := HWB.out; omega)))
      have HMT := Lib.hid hmt
      have c03 := hwk3.c0
      clear hma hT3 hwk3 hnds3 hpl3 hen3 hp1 hp2 hmt
      go_wp2_with (fail)
      go_loopw [4, 42] (fun _ v wr => ∃ k : Nat, k ≤ n ∧ v = .int .i64 k ∧ Below w3.heap.size w3 wr ∧ ∀ i, i < k → inOrd (ndL f n) i = true) (fun _ v _ => n - (RowKit.intOf v).toNat)
      case atStart => exact ⟨0, Nat.zero_le _, rfl, Below.refl _ _, fun i hi => by omega⟩
      case round =>
        obtain ⟨k, hk, rfl, hB, hI⟩ := hrel
        have HI := Lib.hid hI
        have HB := Lib.hid hB
        by_cases hlt : k < n
        · have j1 : (k : Int) < (n : Int) := by omega
          have hio := isInOrder_any (HMT.out.next hB) HOK.out hlt
          clear hB hI
          cases hb : inOrd (ndL f n) k with
          | true =>
            rw [hb] at hio
            have HI2 := Lib.hid (allIn_succ HI.out hb)
            clear hb
            go_wp2_with (fail)
            refine hio.mono ?_
            rintro e w5 ⟨rfl, hb5⟩
            have HB5 := Lib.hid (HB.out.trans (hb5.mono HB.out.size))
            clear hio hb5
            go_wp2_with (fail)
            go_roundw
            case rel => exact ⟨k + 1, by omega, by go_num, HB5.out, HI2.out⟩
            case measure => simp [RowKit.intOf]; omega
          | false =>
            rw [hb] at hio
            have HF : Hid (rightB (ndL f n) = false) := Lib.hid (by
              rw [HR.out, List.all_eq_false]
              exact ⟨k, List.mem_range.2 hlt, by rw [hb]; decide⟩)
            clear hb
            go_wp2_with (fail)
            refine hio.mono ?_
            rintro e w5 ⟨rfl, hb5⟩
            have HB5 := Lib.hid (HB.out.trans (hb5.mono HB.out.size))
            clear hio hb5
            go_wp2_with (fail)
            go_ret
            exact ⟨by rw [HF.out]; rfl, HB3.out.trans (HB5.out.mono HB3.out.size)⟩
        · obtain rfl : k = n := by omega
          have HF : Hid (rightB (ndL f k) = true) := Lib.hid (by
            rw [HR.out, List.all_eq_true]
            exact fun i hi => HI.out i (List.mem_range.1 hi))
          clear hB hI
          go_wp2_with (fail)
          go_ret
          exact ⟨by rw [HF.out]; rfl, HB3.out.trans (HB.out.mono HB3.out.size)⟩
  · have hd : isD (f 0).nd = false := by
      have : isD (f 0).nd = ((f 0).k == 2) := rfl
      rw [this]; simpa using h3
    have HR : Hid (rightB (ndL f n) = false) := Lib.hid (by rw [hfm.out, hd]; rfl)
    clear h hm hfm h1 h2 hd d0 d1 d2 d3 hbl e0
    go_enter Try.func18, Try.ntmps18
    go_wp2_with (fail)
    go_ret
    exact ⟨by rw [HR.out]; rfl, (Below.refl _ _).alloc (Nat.le_refl _) _⟩
end
end Go.Proofs.Ytijhmpdeohbjhaa

/-
  Ranging over a closure that hands out one value, with rounds that are passed over.
-/
namespace Go.Proofs.Ytijhmpdeohbjhaa
open Go.RowKit Go.Maps

theorem turn_put (w : World) (l : Nat) (o : Obj) : Turn (· = l) w (w.putObj l o) := ⟨rfl, rfl, rfl, by simp, fun k _ hk => World.putObj_heap_other hk⟩
/-- Of what was there only block l has turned, and that held no cells. -/
structure Aside (l : Nat) (w w' : World) : Prop where
  turn : Turn (· = l) w w'
  no : ∀ cs t f, w.heap[l]? ≠ some (.cells cs t f)
theorem aside_put {w : World} {l : Nat} {o : Obj} (h : w.heap[l]? = some o) (ho : o.isCells = false) (o' : Obj) : Aside l w (w.putObj l o') :=
  ⟨turn_put w l o', fun cs t f e => by rw [h] at e; cases e; cases ho⟩
theorem Aside.cell {l : Nat} {w w' : World} (h : Aside l w w') {a : Addr} {v : Value} (hc : w.cell? a = some v) : w'.cell? a = some v := by
  have hlt := World.block_lt_of_cell? w _ hc
  by_cases e : a.block = l
  · exfalso
    unfold World.cell? at hc
    cases ho : w.heap[a.block]? with
    | none => simp [ho] at hc
    | some o =>
      rw [ho] at hc
      rw [e] at ho
      cases o <;> first | exact h.no _ _ _ ho | simp at hc
  · exact (h.turn.cell hlt e).trans hc
theorem Aside.frozen {l : Nat} {w w' : World} (h : Aside l w w') {a : Addr} {v : Value} (hc : w.cell? a = some v) : w'.frozen? a = w.frozen? a := by
  have hlt := World.block_lt_of_cell? w _ hc
  by_cases e : a.block = l
  · exfalso
    unfold World.cell? at hc
    cases ho : w.heap[a.block]? with
    | none => simp [ho] at hc
    | some o =>
      rw [ho] at hc
      rw [e] at ho
      cases o <;> first | exact h.no _ _ _ ho | simp at hc
  · exact h.turn.frozen hlt e
/-- How a round of the body ends. -/
def roundEnd (Kp : World → World → Prop) (I : World → Prop) (Ix : Code → World → Prop) (W : World) : Exit → Act → World → Prop
  | .normal, _, W' => Kp W W' ∧ I W'
  | .ret, _, W' => Kp W W' ∧ Ix .ret W'
  | .exit id, _, W' => Kp W W' ∧ Ix (.exit id) W'
  | _, _, _ => False
/-- What only speaks of cells that are there, and of blocks ahead of C. -/
structure Abides (C : Nat) (p : World → Prop) : Prop where
  below : ∀ X X', p X → Below X.heap.size X X' → p X'
  aside : ∀ l X X', C ≤ l → p X → Aside l X X' → p X'
theorem Abides.mono {C C' : Nat} {p : World → Prop} (h : Abides C p) (hC : C ≤ C') : Abides C' p := ⟨h.below, fun l X X' hl => h.aside l X X' (Nat.le_trans hC hl)⟩
theorem Abides.and {C : Nat} {p q : World → Prop} (h : Abides C p) (k : Abides C q) : Abides C (fun X => p X ∧ q X) :=
  ⟨fun X X' hp hb => ⟨h.below X X' hp.1 hb, k.below X X' hp.2 hb⟩, fun l X X' hl hp ha => ⟨h.aside l X X' hl hp.1 ha, k.aside l X X' hl hp.2 ha⟩⟩
theorem Abides.pure (C : Nat) (p : Prop) : Abides C (fun _ => p) := ⟨fun _ _ h _ => h, fun _ _ _ _ h _ => h⟩
theorem Abides.ex {α : Type} {C : Nat} {p : α → World → Prop} (h : ∀ x, Abides C (p x)) : Abides C (fun X => ∃ x, p x X) :=
  ⟨fun X X' ⟨x, hx⟩ hb => ⟨x, (h x).below X X' hx hb⟩, fun l X X' hl ⟨x, hx⟩ ha => ⟨x, (h x).aside l X X' hl hx ha⟩⟩
theorem Abides.heap {C : Nat} {k : Nat} {o : Obj} (hk : k < C) : Abides C (fun X => X.heap[k]? = some o) :=
  ⟨fun X X' h hb => (hb.block k (Array.getElem?_eq_some_iff.1 h).1).trans h, fun l X X' hl h ha => (ha.turn.block k (Array.getElem?_eq_some_iff.1 h).1 (by omega)).trans h⟩

/-- What a closure that hands out values promises: the rounds i < n that are not passed over, in turn, each at a value as D says, as long as they say 'yes'. -/
def Rounds1 (gf : Nat) (lb : Array Value) (n : Nat) (sk : Nat → Bool) (D : Nat → Value → World → Prop) (B : Nat → World → Prop) : Prop :=
  ∀ (l : Nat) (J : Nat → World → Prop) (Jx : World → Prop) (W : World), l < W.heap.size → (∀ i, Abides W.heap.size (J i)) → Abides W.heap.size Jx → (∀ i X, J i X → B i X) →
    (∀ i X, i < n → sk i = true → J i X → J (i + 1) X) →
    (∀ i v X, i < n → sk i = false → J i X → D i v X → YieldAt Fence.wide 1 Try.prog l #[v] X fun e X' => (e = .returned (.bool true) ∧ J (i + 1) X') ∨ (e = .returned (.bool false) ∧ Jx X')) →
    J 0 W → CallsIn Fence.wide 2 Try.prog gf (#[.func (.yield l) #[] #[]] ++ lb) W fun e W' => (∃ v, e = .returned v) ∧ (J n W' ∨ Jx W')

theorem wp_over1 {Kp : World → World → Prop} {g : Operand} {ps : Array Tmp} {assign body : Code} {Q : Exit → Act → World → Prop} {a : Act} {w : World} {gf : Nat} {lb : Array Value} {n : Nat} {sk : Nat → Bool} {D : Nat → Value → World → Prop} {B : Nat → World → Prop}
    (hg : a.eval g = .func (.func gf) #[] lb) (eg : ∀ args w, (callFunc gf args).run Try.prog w = .ok (.enter gf args) w) (hseq : Rounds1 gf lb n sk D B) (hps : ps.size = 1)
    (I : Nat → World → Prop) (Ix : Code → World → Prop) (Ax : Nat → Act → World → Prop) (hB : ∀ i X, I i X → B i X)
    (hI : ∀ i, Abides w.heap.size (I i)) (hIx : ∀ c, Abides w.heap.size (Ix c)) (hAx : ∀ i a', Abides w.heap.size (Ax i a'))
    (hN : ∀ X X', Kp X X' → KeepsFrom w.heap.size X X') (h0 : I 0 w)
    (hassign : ∀ (l i : Nat) (v : Value) (X : World) (K : Act → World → Prop), i < n → w.heap.size ≤ X.heap.size → I i X → D i v X → (∀ a' X', Below X.heap.size X X' → Ax i a' X' → K a' X') →
      assign.wpIn (Fence.wide.inRound l) 1 Try.prog (Exit.then K (fun _ _ _ => False)) { tmps := (ps.zip #[v]).foldl (fun t (p, v) => t.setIfInBounds p v) a.tmps, defers := [] } X)
    (hskip : ∀ i X, i < n → sk i = true → I i X → I (i + 1) X)
    (hbody : ∀ (l i : Nat) (a' : Act) (X : World), i < n → sk i = false → w.heap.size ≤ X.heap.size → I i X → Ax i a' X → body.wpIn (Fence.wide.inRound l) 1 Try.prog (roundEnd Kp (I (i + 1)) Ix X) a' X)
    (hdone : ∀ (D : Nat) (X : World), w.heap.size ≤ D → I n X → X.heap[D]? = some (.deferred (some [])) → Q .normal { a with defers := { target := .collected D, args := #[] } :: a.defers } X)
    (hstop : ∀ (D : Nat) (c : Code) (X : World), w.heap.size ≤ D → Ix c X → X.heap[D]? = some (.deferred (some [])) → c.wpIn Fence.wide 3 Try.prog Q { a with defers := { target := .collected D, args := #[] } :: a.defers } X) :
    (Code.rangeFunc g ps assign body).wpIn Fence.wide 3 Try.prog Q a w := by
  refine wpIn_rangeFunc fun fn _ => ?_
  obtain ⟨rc, hrc⟩ : ∃ rc : LoopState → Option Code → Loop, rc = fun st pe => { state := st, pending := pe, fn := fn, tmps := a.tmps, params := ps, assign := assign, body := body, defers := w.heap.size } := ⟨_, rfl⟩
  obtain ⟨l, hl⟩ : ∃ l, l = w.heap.size + 1 := ⟨_, rfl⟩
  obtain ⟨W1, hW1⟩ : ∃ W1, W1 = (w.alloc (.deferred (some []))).alloc (.loop (rc .ready none)) := ⟨_, rfl⟩
  have sz : (w.alloc (.deferred (some []))).heap.size = w.heap.size + 1 := by simp
  have hL : W1.heap[l]? = some (.loop (rc .ready none)) := by
    rw [hW1, hl, ← sz]; exact World.alloc_heap_new _ _
  have hD : W1.heap[w.heap.size]? = some (.deferred (some [])) := by
    rw [hW1]; exact (Below.heap_alloc _ _ _ (by rw [sz]; omega)).trans (World.alloc_heap_new w _)
  have hb1 : Below w.heap.size w W1 := by rw [hW1]; exact ((Below.refl _ w).alloc (Nat.le_refl _) _).alloc (by rw [sz]; omega) _
  have hI1 : I 0 W1 := (hI 0).below _ _ h0 hb1
  have hs1 : W1.heap.size = w.heap.size + 2 := by rw [hW1]; simp
  refine ⟨l, [{ target := .collected w.heap.size, args := #[] }], W1, { target := .fn (.func gf) lb, args := #[.func (.yield l) #[] #[]] }, W1, gf, #[.func (.yield l) #[] #[]] ++ lb, W1, ?_, ?_, fun _ _ => trivial, ?_, fun _ => by omega, ?_⟩
  · rw [hW1, hl, hrc]; exact run_enterLoop_outer _ _ _ _ _
  · simp only [resolve, hg]
    simp [go_sem]
  · simp [invoke, go_sem, eg]
  · refine (hseq l (fun i X => I i X ∧ X.heap[l]? = some (.loop (rc .ready none)) ∧ X.heap[w.heap.size]? = some (.deferred (some [])))
      (fun X => ∃ c, Ix c X ∧ X.heap[l]? = some (.loop (rc .done (some c))) ∧ X.heap[w.heap.size]? = some (.deferred (some []))) W1 (by omega)
      (fun i => ((hI i).mono (by omega)).and ((Abides.heap (by omega)).and (Abides.heap (by omega))))
      (Abides.ex fun c => ((hIx c).mono (by omega)).and ((Abides.heap (by omega)).and (Abides.heap (by omega))))
      (fun i X h => hB i X h.1) (fun i X hi hk h => ⟨hskip i X hi hk h.1, h.2⟩) ?_ ⟨hI1, hL, hD⟩).mono ?_
    · rintro i v X hi hsk ⟨hx, hl1, hd1⟩ hDv
      have hlt : l < X.heap.size := (Array.getElem?_eq_some_iff.1 hl1).1
      have hy := run_yield (P := Try.prog) (args := #[v]) hl1 (by rw [hrc]; exact hps.symm)
      rw [hrc] at hy
      refine ⟨fn, _, assign, body, hy, roundIn_of_wpIn trivial (hassign l i v X _ hi (by omega) hx hDv fun a' Xa hba hax => ?_)⟩
      have hl1a : Xa.heap[l]? = some (.loop (rc .ready none)) := (hba.block l hlt).trans hl1
      have hd1a : Xa.heap[w.heap.size]? = some (.deferred (some [])) := (hba.block _ (by omega)).trans hd1
      have hxa := (hI i).below _ _ hx hba
      have hlta : l < Xa.heap.size := (Array.getElem?_eq_some_iff.1 hl1a).1
      refine ⟨_, run_beginRound hl1a (by rw [hrc]), ?_⟩
      obtain ⟨X2, hX2⟩ : ∃ X2, X2 = Xa.putObj l (.loop { rc .ready none with state := .busy }) := ⟨_, rfl⟩
      have hta : Aside l Xa X2 := by rw [hX2]; exact aside_put hl1a rfl _
      have ht := hta.turn
      have hl2 : X2.heap[l]? = some (.loop { rc .ready none with state := .busy }) := by rw [hX2]; exact World.putObj_heap_same hlta
      have hd2 : X2.heap[w.heap.size]? = some (.deferred (some [])) := (ht.block _ (by omega) (by omega)).trans hd1a
      have h2 : I i X2 := (hI i).aside l _ _ (by omega) hxa hta
      have h2a : Ax i a' X2 := (hAx i a').aside l _ _ (by omega) hax hta
      rw [← hX2]
      refine wpIn_mono (hbody l i a' X2 hi hsk (by rw [hX2]; simp; omega) h2 h2a) ?_
      have fin : ∀ (jump : Option Code) (X3 : World), Kp X2 X3 → ∃ X4, (Instr.endRound l jump).run Try.prog X3 = .ok (.bool jump.isNone) X4 ∧ Aside l X3 X4 ∧
          X4.heap[l]? = some (.loop (rc (if jump.isNone then .ready else .done) jump)) ∧ X4.heap[w.heap.size]? = some (.deferred (some [])) := fun jump X3 h3 => by
        have e3 : X3.heap[l]? = some (.loop { rc .ready none with state := .busy }) := (hN _ _ h3).same _ _ (by omega) hl2 rfl
        have e4 : X3.heap[w.heap.size]? = some (.deferred (some [])) := (hN _ _ h3).same _ _ (Nat.le_refl _) hd2 rfl
        have hlt3 : l < X3.heap.size := (Array.getElem?_eq_some_iff.1 e3).1
        refine ⟨_, run_endRound (P := Try.prog) jump e3, aside_put e3 rfl _, ?_, (World.putObj_heap_other (by omega)).trans e4⟩
        rw [hrc]
        exact World.putObj_heap_same hlt3
      rintro e a3 X3 hp
      cases e with
      | normal =>
        obtain ⟨h3, hi3⟩ := hp
        obtain ⟨X4, hr, ht4, hl4, hd4⟩ := fin none X3 h3
        exact ⟨_, _, hr, .inl ⟨rfl, (hI _).aside l _ _ (by omega) hi3 ht4, hl4, hd4⟩⟩
      | ret =>
        obtain ⟨h3, hi3⟩ := hp
        obtain ⟨X4, hr, ht4, hl4, hd4⟩ := fin (some .ret) X3 h3
        exact ⟨_, _, hr, .inr ⟨rfl, .ret, (hIx _).aside l _ _ (by omega) hi3 ht4, hl4, hd4⟩⟩
      | exit id =>
        obtain ⟨h3, hi3⟩ := hp
        obtain ⟨X4, hr, ht4, hl4, hd4⟩ := fin (some (.exit id)) X3 h3
        exact ⟨_, _, hr, .inr ⟨rfl, .exit id, (hIx _).aside l _ _ (by omega) hi3 ht4, hl4, hd4⟩⟩
      | goto t => exact hp.elim
      | panic ch => exact hp.elim
      | outgrown => exact hp.elim
    · rintro e W2 ⟨⟨v, rfl⟩, (⟨hi, hl2, hd2⟩ | ⟨c, hi, hl2, hd2⟩)⟩
      · refine ⟨none, _, by have := run_endLoop (P := Try.prog) hl2 (by rw [hrc]; simp); rw [hrc] at this; exact this, hdone _ _ (Nat.le_refl _) ((hI _).aside l _ _ (by omega) hi (aside_put hl2 rfl _)) ((World.putObj_heap_other (by omega)).trans hd2)⟩
      · refine ⟨some c, _, by have := run_endLoop (P := Try.prog) hl2 (by rw [hrc]; simp); rw [hrc] at this; exact this, hstop _ c _ (Nat.le_refl _) ((hIx _).aside l _ _ (by omega) hi (aside_put hl2 rfl _)) ((World.putObj_heap_other (by omega)).trans hd2)⟩

end Go.Proofs.Ytijhmpdeohbjhaa

/-
  Blocks, plainly: which of them are there.
-/
namespace Go.Proofs.Ytijhmpdeohbjhaa
set_option linter.unusedVariables false
set_option linter.unusedSimpArgs false

/-- Has a row of bytes one that isn't 0? -/
def hasB (l : List Int) : Bool := l.any fun z => z != 0
/-- A block of bytes. -/
def blkB (b : List Int) (i : Nat) : List Int := (b.drop (56 * i)).take 56
/-- How many blocks bytes have. -/
def nBl (n : Nat) : Nat := (n + 55) / 56
/-- The blocks that are there. -/
def thr (b : List Int) : List Nat := (List.range (nBl b.length)).filter fun i => hasB (blkB b i)
theorem hasB_app (x y : List Int) : hasB (x ++ y) = (hasB x || hasB y) := by simp [hasB]
theorem hasB_zeros (n : Nat) : hasB (List.replicate n 0) = false := by
  simp [hasB]
theorem blkB_out {b : List Int} {i : Nat} (h : nBl b.length ≤ i) : blkB b i = [] := by
  unfold nBl at h
  unfold blkB
  rw [List.drop_eq_nil_of_le (by omega)]
  rfl
/-- Beyond the last block there is none. -/
theorem thr_wide {b : List Int} {N : Nat} (h : nBl b.length ≤ N) : (List.range N).filter (fun i => hasB (blkB b i)) = thr b := by
  obtain ⟨k, rfl⟩ : ∃ k, N = nBl b.length + k := ⟨N - nBl b.length, by omega⟩
  rw [List.range_add, List.filter_append]
  have e : ((List.range k).map (nBl b.length + ·)).filter (fun i => hasB (blkB b i)) = [] := by
    rw [List.filter_eq_nil_iff]
    intro a ha
    obtain ⟨j, _, rfl⟩ := List.mem_map.1 ha
    rw [blkB_out (Nat.le_add_right _ j)]
    decide
  rw [e, List.append_nil]
  rfl
theorem thr_lt {b : List Int} {x : Nat} (h : x ∈ thr b) : x * 56 < b.length := by
  have h1 := List.mem_range.1 (List.mem_filter.1 h).1
  unfold nBl at h1
  omega
theorem thr_rises (b : List Int) : (thr b).Pairwise (· < ·) := List.Pairwise.filter _ List.pairwise_lt_range
theorem blkB_zeros (b : List Int) (n i : Nat) : hasB (blkB (b ++ List.replicate n 0) i) = hasB (blkB b i) := by
  unfold blkB
  rw [List.drop_append, List.take_append, hasB_app]
  have e : hasB ((List.drop (56 * i - b.length) (List.replicate n (0 : Int))).take (56 - (b.drop (56 * i)).length)) = false := by
    rw [List.drop_replicate, List.take_replicate]
    exact hasB_zeros _
  rw [e, Bool.or_false]
theorem thr_zeros (b : List Int) (n : Nat) : thr (b ++ List.replicate n 0) = thr b := by
  rw [← thr_wide (b := b) (N := nBl (b ++ List.replicate n (0 : Int)).length) (by unfold nBl; simp only [List.length_append, List.length_replicate]; omega)]
  unfold thr
  refine List.filter_congr fun i _ => ?_
  rw [blkB_zeros]
theorem thr_none (n : Nat) : thr (List.replicate n 0) = [] := by
  have := thr_zeros [] n
  simpa [thr, nBl] using this
/-- Bytes behind whole blocks. -/
theorem thr_parts {a : List Int} {m : Nat} (h : a.length = 56 * m) (b : List Int) : thr (a ++ b) = thr a ++ (thr b).map (m + ·) := by
  have hn : nBl (a ++ b).length = m + nBl b.length := by
    unfold nBl
    rw [List.length_append, h]
    omega
  have ha : nBl a.length = m := by unfold nBl; rw [h]; omega
  unfold thr
  rw [hn, List.range_add, List.filter_append, ha, List.filter_map]
  congr 1
  · refine List.filter_congr fun i hi => ?_
    have hi' := List.mem_range.1 hi
    unfold blkB
    rw [List.drop_append_of_le_length (by omega), List.take_append_of_le_length (by rw [List.length_drop]; omega)]
  · congr 1
    refine List.filter_congr fun i hi => ?_
    show hasB (blkB (a ++ b) (m + i)) = hasB (blkB b i)
    unfold blkB
    rw [List.drop_append, List.drop_eq_nil_of_le (by omega), List.nil_append, h, show 56 * (m + i) - 56 * m = 56 * i by omega]
/-- The blocks there of the first k of them. -/
def thrK (b : List Int) (k : Nat) : List Nat := (List.range k).filter fun i => hasB (blkB b i)
theorem thrK_step (b : List Int) (k : Nat) : thrK b (k + 1) = thrK b k ++ if hasB (blkB b k) then [k] else [] := by
  unfold thrK
  rw [List.range_succ, List.filter_append]
  congr 1
  cases h : hasB (blkB b k) <;> simp [h]
theorem thrK_end (b : List Int) : thrK b (nBl b.length) = thr b := rfl
end Go.Proofs.Ytijhmpdeohbjhaa

/-
  The library's cutting of bytes into chunks, by contract.
-/
namespace Go.Proofs.Ytijhmpdeohbjhaa
open Go.RowKit Go.Maps
set_option linter.unusedVariables false
attribute [local go_sem] Oper.semAt_some

theorem bys_aside {w w' : World} {a : Option Addr} {n : Nat} {zs : List Int} {l : Nat} (h : Bys w a n zs) (ha : Aside l w w') : Bys w' a n zs := by
  refine ⟨h.len, h.small, ?_⟩
  rcases h.place with h0 | ⟨b, off, e, hlt, hc⟩
  · exact .inl h0
  · exact .inr ⟨b, off, e, Nat.lt_of_lt_of_le hlt ha.turn.size, fun i hi => ha.cell (hc i hi)⟩
theorem Pin.aside {w w' : World} {a : Option Addr} {n c : Nat} {zs : List Int} {l : Nat} (h : Pin w a n c zs) (ha : Aside l w w') : Pin w' a n c zs := ⟨bys_aside h.bys ha, h.nil, h.cap, h.max⟩
/-- The two boxes of the closure: the bytes, the size. -/
structure Bch (ps pn : Nat) (a : Option Addr) (n c : Nat) (zs : List Int) (X : World) : Prop where
  cs : X.cell? ⟨ps, 0, none⟩ = some (.slice a n c)
  cn : X.cell? ⟨pn, 0, none⟩ = some (.int .i64 56)
  ls : ps < X.heap.size
  ln : pn < X.heap.size
  pin : Pin X a n c zs
section
variable {ps pn : Nat} {a : Option Addr} {n c : Nat} {zs : List Int} {X X' : World}
end
theorem chunk_any (a : Option Addr) (n c : Nat) (zs : List Int) (w : World) (h : Pin w a n c zs) :
    Calls Try.prog 16 #[.slice a n c, .int .i64 56] w fun e w' => ∃ ps pn, e = .returned (.func (.func 27) #[] #[.pointer (some ⟨ps, 0, none⟩), .pointer (some ⟨pn, 0, none⟩)]) ∧
      Bch ps pn a n c zs w' ∧ w.heap.size ≤ ps ∧ w.heap.size ≤ pn ∧ Below w.heap.size w w' := by
  have H := Lib.hid h
  clear h
  go_enter Try.func16, Try.ntmps16
  go_wp2_with (fail)
  go_ret
  obtain ⟨X, hX⟩ : ∃ X, X = (w.alloc (.cells #[.slice a n c] 22 (0, 0))).alloc (.cells #[.int .i64 56] 3 (0, 0)) := ⟨_, rfl⟩
  have hb : Below w.heap.size w X := by rw [hX]; exact ((Below.refl w.heap.size w).alloc (Nat.le_refl _) _).alloc (by simp) _
  have z : X.heap.size = w.heap.size + 2 := by rw [hX]; simp
  have e3 : X.cell? ⟨w.heap.size, 0, none⟩ = some (.slice a n c) := by rw [hX]; go_simp
  have e4 : X.cell? ⟨w.heap.size + 1, 0, none⟩ = some (.int .i64 56) := by rw [hX]; go_simp
  rw [← hX]
  exact ⟨w.heap.size, w.heap.size + 1, rfl, ⟨e3, e4, by omega, by omega, H.out.next hb⟩, Nat.le_refl _, by omega, hb⟩

theorem below_drew' (w : World) : Below w.heap.size w w.drew := below_drewN (Below.refl _ _) 1
theorem pin_blk {X : World} {a : Option Addr} {n c : Nat} {zs : List Int} (h : Pin X a n c zs) {b off k p m : Nat} (ha : a = some ⟨b, off, none⟩) (hp : p = 56 * k) (hm : m = min 56 (n - p)) (hl : p < n) : Pin X (some ⟨b, off + p, none⟩) m m (blkB zs k) := by
  subst ha
  have h1 := h.rest p
  have h2 := h1.front (k := m) (by omega) (by intro e; cases e)
  have e : (zs.drop p).take m = blkB zs k := by
    unfold blkB
    rw [← hp, hm, List.take_eq_take_iff, List.length_drop, h.len]
    omega
  rw [e] at h2
  exact ⟨h2.bys, (fun e => by cases e), Nat.le_refl _, by have := h.cap; have := h.max; omega⟩

set_option maxRecDepth 100000 in
set_option maxHeartbeats 4000000 in
theorem chunk_rounds (ps pn : Nat) (a : Option Addr) (n c : Nat) (zs : List Int) (hn : n ≤ 1000000000000) :
    Rounds1 27 #[.pointer (some ⟨ps, 0, none⟩), .pointer (some ⟨pn, 0, none⟩)] (nBl n) (fun _ => false) (fun k v X => ∃ a' m, v = .slice a' m m ∧ m ≤ 56 ∧ Pin X a' m m (blkB zs k)) (fun k X => Bch ps pn a n c zs X) := by
  intro l J Jx W _ hA hAx hB hS hY h0
  have HA := Lib.hid hA
  have HB := Lib.hid hB
  have HY := Lib.hid hY
  have HJ := Lib.hid h0
  clear hB hY hA hAx hS h0
  refine callsIn_of_wp Try.func27 rfl trivial ?_ rfl
  simp only [Try.ntmps27, List.size_toArray, List.length_cons, List.length_nil, Nat.reduceAdd, Nat.reduceSub, Array.replicate_succ, Array.replicate_zero, List.push_toArray, List.append_toArray, List.nil_append, List.cons_append]
  gi_wp2
  gi_loopw [4, 5] (fun i _ wr => ∃ k : Nat, k ≤ nBl n ∧ i = .int .i64 ((56 * k : Nat) : Int) ∧ J k wr) (fun i _ _ => nBl n * 56 - (RowKit.intOf i).toNat)
  case atStart => exact ⟨0, Nat.zero_le _, rfl, HJ.out⟩
  case round =>
    obtain ⟨k, hk, rfl, hJ⟩ := hrel
    have hbk := HB.out k wr hJ
    have y3 := hbk.cs
    have y4 := hbk.cn
    have HJk := Lib.hid hJ
    have HBK := Lib.hid hbk
    obtain ⟨p, hp⟩ : ∃ p, p = 56 * k := ⟨_, rfl⟩
    rw [← hp]
    have HP := Lib.hid hp
    have HK := Lib.hid hk
    have hq : k < nBl n ↔ p < n := by unfold nBl; omega
    have hcap := hbk.pin.cap
    have hmax := hbk.pin.max
    clear hbk hJ hp hk
    by_cases hlt : k < nBl n
    · have hpn := hq.1 hlt
      obtain ⟨b, off, ha, _⟩ := HBK.out.pin.at (by omega)
      obtain ⟨m, hm⟩ : ∃ m, m = min 56 (n - p) := ⟨_, rfl⟩
      have HPB := Lib.hid (pin_blk HBK.out.pin ha HP.out hm hpn)
      have hm0 : m ≤ 56 := by omega
      have hm1 : p + m ≤ n := by omega
      have hm2 : m ≤ c := by omega
      have k1 : (p : Int) < (n : Int) := by omega
      have k2 : (p : Int) ≤ (n : Int) := by omega
      have HM := Lib.hid hm
      clear hm hq
      subst ha
      by_cases h56 : n - p < 56
      · obtain rfl : m = n - p := by have := HM.out; omega
        have c1 : decide (((n - p : Nat) : Int) < (56 : Int)) = true := by simp; omega
        have c2 : decide (n - p < 56) = true := by simp; omega
        have hYk := HY.out k (.slice (some ⟨b, off + p, none⟩) (n - p) (n - p)) wr.drew hlt trivial ((HA.out k).below _ _ HJk.out (below_drew' wr)) ⟨_, _, rfl, hm0, HPB.out.drewN 1⟩
        obtain ⟨fn, tmps, assign, body, hy, hR⟩ := hYk
        gi_wp2
        gi_region
        gi_wp2
        refine hR.mono ?_
        clear hR
        rintro e W' (⟨rfl, hJ'⟩ | ⟨rfl, hx⟩)
        · have HJ' := Lib.hid hJ'
          have y5 := (HB.out (k + 1) W' hJ').cn
          clear hJ' hy y3 y4
          gi_wp2
          go_roundw
          case rel => exact ⟨k + 1, by omega, by have := HP.out; congr 1; omega, HJ'.out⟩
          case measure => have := HP.out; simp [RowKit.intOf]; omega
        · have HJ' := Lib.hid hx
          clear hx
          gi_wp2
          refine bodyPost_ret (results_none rfl _ _ _) rfl ?_
          exact ⟨⟨_, rfl⟩, .inr HJ'.out⟩
      · obtain rfl : m = 56 := by have := HM.out; omega
        have c1 : decide (((n - p : Nat) : Int) < (56 : Int)) = false := by simp; omega
        have c2 : decide (n - p < 56) = false := by simp; omega
        have hYk := HY.out k (.slice (some ⟨b, off + p, none⟩) 56 56) wr.drew hlt trivial ((HA.out k).below _ _ HJk.out (below_drew' wr)) ⟨_, _, rfl, hm0, HPB.out.drewN 1⟩
        obtain ⟨fn, tmps, assign, body, hy, hR⟩ := hYk
        gi_wp2
        gi_region
        gi_wp2
        refine hR.mono ?_
        clear hR
        rintro e W' (⟨rfl, hJ'⟩ | ⟨rfl, hx⟩)
        · have HJ' := Lib.hid hJ'
          have y5 := (HB.out (k + 1) W' hJ').cn
          clear hJ' hy y3 y4
          gi_wp2
          go_roundw
          case rel => exact ⟨k + 1, by omega, by have := HP.out; congr 1; omega, HJ'.out⟩
          case measure => have := HP.out; simp [RowKit.intOf]; omega
        · have HJ' := Lib.hid hx
          clear hx
          gi_wp2
          refine bodyPost_ret (results_none rfl _ _ _) rfl ?_
          exact ⟨⟨_, rfl⟩, .inr HJ'.out⟩
    · obtain rfl : k = nBl n := by have := HK.out; omega
      have k1 : decide ((p : Int) < (n : Int)) = false := decide_eq_false (by have := hq.2; omega)
      have k2 : decide (p < n) = false := decide_eq_false (by have := hq.2; omega)
      clear hq
      gi_wp2
      go_end0
      exact ⟨⟨_, rfl⟩, .inl HJk.out⟩
end Go.Proofs.Ytijhmpdeohbjhaa

/-
  Has a slice of bytes no byte but 0: the program's and the reference's, by contract.
-/
namespace Go.Proofs.Ytijhmpdeohbjhaa
open Go.RowKit

def noughtB (zs : List Int) : Bool := zs.all (· == 0)
def Zeros (zs : List Int) (k : Nat) : Prop := ∀ j, j < k → byt zs j = 0
theorem Zeros.zero (zs : List Int) : Zeros zs 0 := fun _ h => by omega
theorem Zeros.succ {zs : List Int} {k : Nat} (h : Zeros zs k) (e : byt zs k = 0) : Zeros zs (k + 1) := fun j hj => by
  by_cases hk : j = k
  · rw [hk]; exact e
  · exact h j (by omega)
theorem noughtB_true {zs : List Int} (h : ∀ j, j < zs.length → byt zs j = 0) : noughtB zs = true := by
  unfold noughtB
  rw [List.all_eq_true]
  intro z hz
  obtain ⟨i, hi, rfl⟩ := List.getElem_of_mem hz
  have := h i hi
  simpa [byt, List.getD, hi] using this
theorem noughtB_false {zs : List Int} {k : Nat} (hk : k < zs.length) (h : byt zs k ≠ 0) : noughtB zs = false := by
  unfold noughtB
  rw [List.all_eq_false]
  refine ⟨zs[k], List.getElem_mem hk, ?_⟩
  simpa [byt, List.getD, hk] using h

set_option maxHeartbeats 400000 in
theorem nought_any (a : Option Addr) (la ca : Nat) (x : List Int) (w : World) (hx : Bys w a la x) (hn : la ≤ 1000000000000) :
    Calls Try.prog 17 #[.slice a la ca] w fun e w' => e = .returned (.bool (noughtB x)) ∧ w = w' := by
  go_enter Try.func17, Try.ntmps17
  go_wp2
  go_loop [7] (fun i => ∃ k : Nat, k ≤ la ∧ i = .int .i64 k ∧ Zeros x k) (fun i => la - (RowKit.intOf i).toNat)
  case atStart => exact ⟨0, Nat.zero_le _, rfl, Zeros.zero _⟩
  case round =>
    obtain ⟨k, hk, rfl, hf⟩ := hrel
    have hxl : Hid (x.length = la) := hx.len
    by_cases hlt : k < la
    · rcases hx.place with h0 | ⟨ba, oa, rfl, _, hca⟩
      · omega
      have g1 := hca k hlt
      clear hca hx
      go_wp2
      · have hs : Hid (noughtB x = false) := noughtB_false (by rw [hxl.out]; exact hlt) (by simpa using (by assumption : (byt x k != 0) = true))
        clear hxl hf
        go_ret
        exact ⟨ret_bool hs.out.symm, rfl⟩
      · go_round
        case rel => exact ⟨k + 1, by omega, by go_num, hf.succ (by simpa using (by assumption : (byt x k != 0) = false))⟩
        case measure => simp [RowKit.intOf]; omega
    · obtain rfl : k = la := by omega
      have hs : Hid (noughtB x = true) := noughtB_true (by rw [hxl.out]; exact hf)
      clear hx hf hxl
      go_wp2
      go_ret
      exact ⟨ret_bool hs.out.symm, rfl⟩

end Go.Proofs.Ytijhmpdeohbjhaa
