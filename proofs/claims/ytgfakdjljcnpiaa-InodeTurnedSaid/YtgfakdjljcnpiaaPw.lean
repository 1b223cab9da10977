/-
  A record's pointers, and whether they may be: the program's, by contract.
-/
import Derived.Test.YtgfakdjljcnpiaaRm
import Derived.Test.YtgfakdjljcnpiaaSz
namespace Go.Proofs.Ytgfakdjljcnpiaa
open Go.RowKit
set_option linter.unusedVariables false
set_option linter.unusedSimpArgs false

/-- A record's pointers; its own ones alone. -/
def ptsR (f : Nat → Int) : Nat → Int := fun i => f (3 + i)
def p16 (f : Nat → Int) : Nat → Int := fun i => if i < 16 then f (3 + i) else 0
theorem p16_upd (f : Nat → Int) : ∀ i, i < 18 → upd (upd (p16 f) 16 (f 19)) 17 (f 20) i = ptsR f i := fun i hi => by
  unfold upd p16 ptsR
  by_cases h1 : i = 17
  · subst h1; rfl
  · by_cases h2 : i = 16
    · subst h2; rfl
    · rw [if_neg h1, if_neg h2, if_pos (by omega)]
theorem run_copyP (w : World) (ty : TypeId) (g s c d : Nat) (f : Nat → Int) (hg : Pcb w g noR) (hs : Rcb w s f) :
    (Builtin.copy_ #[34, 34] ty #[.slice (some ⟨g, 0, none⟩) 18 d, .slice (some ⟨s, 3, none⟩) 16 c]).run Try.prog w = .ok (goInt 16) (w.setRow g (pcs (p16 f))) := by
  have := run_copy_row (P := Try.prog) w 34 34 ty 3 g 0 18 d ⟨s, 3, none⟩ 16 c (pcs noR) 49 ((List.range 16).map fun i => Value.int .i64 (f (3 + i))) Try.underlying34 (by kernel_rfl) hg.row rfl ?_ (by simp [pcs]) ?_
  · rw [this]
    rfl
  · intro j v hj
    have hj16 : j < 16 := by
      rcases Nat.lt_or_ge j 16 with h | h
      · exact h
      · rw [List.getElem?_eq_none (by simp; omega)] at hj; cases hj
    have hv : v = .int .i64 (f (3 + j)) := by
      rw [List.getElem?_map, List.getElem?_range hj16] at hj
      simpa using hj.symm
    rw [hv, show (⟨s, 3, none⟩ : Addr).add j = ⟨s, 3 + j, none⟩ by unfold Addr.add; split <;> simp_all]
    exact hs.cell (by omega)
  · intro v hv
    obtain ⟨i, _, rfl⟩ := List.mem_map.1 hv
    rfl
theorem step_copyP {ops : Array Oper} {o : Oper} {a : Act} {w : World} {K : Act → World → Prop} {Q : Exit → Act → World → Prop} {E : Prop} (hgd : o.guard = none) (d s : Operand)
    (ho : o.op = .call { callee := .builtin .copy, args := #[d, s], argTypes := #[34, 34] }) (g p c e : Nat) (hd : a.eval d = .slice (some ⟨g, 0, none⟩) 18 e) (hs : a.eval s = .slice (some ⟨p, 3, none⟩) 16 c)
    (f : Nat → Int) (hg : Pcb w g noR) (hp : Rcb w p f) (h : K (a.put o.dst (goInt 16)) (w.setRow g (pcs (p16 f)))) :
    if Region.wanted o (yielded ops a.tmps) = true then Oper.wp Try.prog o a w K Q else E := by
  have hw : Region.wanted o (yielded ops a.tmps) = true := by simp [Region.wanted, hgd]
  rw [if_pos hw]
  have hrun := run_copyP w o.type g p c e f hg hp
  unfold Oper.wp
  simp [execOp, ho, resolve, invoke, builtin, hd, hs, hrun, Result.andThen]
  exact h
set_option maxHeartbeats 1000000 in
theorem pointers_any (f : Nat → Int) (w : World) : Calls Try.prog 27 #[rcv f] w fun e w' => e = .returned (pcv (ptsR f)) ∧ Below w.heap.size w w' := by
  go_enter Try.func27, Try.ntmps27
  go_wp2_with (fail)
  obtain ⟨wa, hwa⟩ : ∃ wa, wa = (((w.alloc (.cells (rcs f) 24)).alloc (.cells #[.int .i64 0, .int .i64 0, .int .i64 0, .int .i64 0, .int .i64 0, .int .i64 0, .int .i64 0, .int .i64 0, .int .i64 0, .int .i64 0, .int .i64 0, .int .i64 0, .int .i64 0, .int .i64 0, .int .i64 0, .int .i64 0, .int .i64 0, .int .i64 0] 49)).alloc (.cells #[.int .i64 0, .int .i64 0, .int .i64 0, .int .i64 0, .int .i64 0, .int .i64 0, .int .i64 0, .int .i64 0, .int .i64 0, .int .i64 0, .int .i64 0, .int .i64 0, .int .i64 0, .int .i64 0, .int .i64 0, .int .i64 0, .int .i64 0, .int .i64 0] 49)) := ⟨_, rfl⟩
  have hR : Rcb wa w.heap.size f := by rw [hwa]; exact ((Rcb.mk' w f).alloc _).alloc _
  have hP1 : Pcb wa (w.heap.size + 1) noR := by
    rw [hwa]
    have := (Pcb.mk' (w.alloc (.cells (rcs f) 24)) noR).alloc (.cells (pcs noR) 49)
    rw [show (w.alloc (.cells (rcs f) 24)).heap.size = w.heap.size + 1 by simp] at this
    exact this
  have hP2 : Pcb wa (w.heap.size + 1 + 1) noR := by
    rw [hwa]
    have := Pcb.mk' ((w.alloc (.cells (rcs f) 24)).alloc (.cells (pcs noR) 49)) noR
    rw [show ((w.alloc (.cells (rcs f) 24)).alloc (.cells (pcs noR) 49)).heap.size = w.heap.size + 1 + 1 by simp] at this
    exact this
  have hB : Below w.heap.size w wa := by rw [hwa]; exact (((Below.refl _ _).alloc (Nat.le_refl _) _).alloc (by simp) _).alloc (by simp; omega) _
  rw [← hwa]
  have HR := Lib.hid hR
  have HP1 := Lib.hid hP1
  have HP2 := Lib.hid hP2
  have HB := Lib.hid hB
  clear hwa hR hP1 hP2 hB
  go_region_law (refine step_copyP rfl (.tmp 4) (.tmp 6) rfl (w.heap.size + 1 + 1) w.heap.size 16 18 (by simp [Act.eval, Act.put]) (by simp [Act.eval, Act.put]) f HP2.out.drew HR.out.drew ?_)
  obtain ⟨wb, hwb⟩ : ∃ wb, wb = wa.drew.setRow (w.heap.size + 1 + 1) (pcs (p16 f)) := ⟨_, rfl⟩
  have hR2 : Rcb wb w.heap.size f := by rw [hwb]; exact HR.out.drew.setRow (by omega) _
  have hP3 : Pcb wb (w.heap.size + 1) noR := by rw [hwb]; exact HP1.out.drew.setRow (by omega) _
  have hP4 : Pcb wb (w.heap.size + 1 + 1) (p16 f) := by rw [hwb]; exact HP2.out.drew.putRow _
  have hB2 : Below w.heap.size w wb := by rw [hwb]; exact setRow_below (below_drewN HB.out 1) (by omega) _
  rw [← hwb]
  clear HR HP1 HP2 HB hwb
  have y4 := hR2.cell (i := 19) (by omega)
  have y5 := hR2.cell (i := 20) (by omega)
  have lt2 := hP4.lt
  have z16 := hP4.cell (i := 16) (by omega)
  have z17 := hP4.cell (i := 17) (by omega)
  have f16 := hP4.free 16
  have f17 := hP4.free 17
  have HR2 := Lib.hid hR2
  have HP3 := Lib.hid hP3
  have HP4 := Lib.hid hP4
  have HB2 := Lib.hid hB2
  clear hR2 hP3 hP4 hB2
  go_upto_region 4 with fail
  obtain ⟨wc, hwc⟩ : ∃ wc, wc = (wb.setCell ⟨w.heap.size + 1 + 1, 16, none⟩ (.int .i64 (f 19))).setCell ⟨w.heap.size + 1 + 1, 17, none⟩ (.int .i64 (f 20)) := ⟨_, rfl⟩
  have hP5 : Pcb wc (w.heap.size + 1 + 1) (ptsR f) := by
    rw [hwc]
    have := (HP4.out.set 16 (f 19)).set 17 (f 20)
    exact ⟨by rw [this.row, pcs_congr (p16_upd f)]⟩
  have hP6 : Pcb wc (w.heap.size + 1) noR := by rw [hwc]; exact (HP3.out.setCell (by omega) _ _).setCell (by omega) _ _
  have hB3 : Below w.heap.size w wc := by rw [hwc]; exact (HB2.out.setCell (by show w.heap.size ≤ w.heap.size + 1 + 1; omega) _).setCell (by show w.heap.size ≤ w.heap.size + 1 + 1; omega) _
  rw [← hwc]
  clear hwc y4 y5 lt2 z16 z17 f16 f17 HR2 HP3 HP4 HB2
  have HB3 := Lib.hid hB3
  have HP5 := Lib.hid hP5
  have HP6 := Lib.hid hP6
  clear hP5 hP6 hB3
  go_wp2_with (first
    | (refine wpList_ldP (by rfl) (.tmp 3) rfl (w.heap.size + 1 + 1) rfl (ptsR f) HP5.out ?_)
    | (refine wpList_stP (by rfl) (.tmp 2) (.tmp 14) rfl (w.heap.size + 1) rfl (ptsR f) rfl noR HP6.out ?_; intro wd hP7 hO7 hB7))
  refine bodyPost_ret (v := pcv (ptsR f)) ?_ rfl ?_
  · exact res_c1 rfl _ _ ⟨w.heap.size + 1, 0, none⟩ _ rfl (Pcb.load hP7)
  · exact ⟨rfl, hB7 _ _ (by omega) HB3.out⟩

theorem run_idx (g : Nat → Int) {k : Nat} (h : k < 18) (w : World) : (Instr.index 49 (pcv g) (.int .i64 (k : Int))).run Try.prog w = .ok (.int .i64 (g k)) w := by
  rcases (by omega : k = 0 ∨ k = 1 ∨ k = 2 ∨ k = 3 ∨ k = 4 ∨ k = 5 ∨ k = 6 ∨ k = 7 ∨ k = 8 ∨ k = 9 ∨ k = 10 ∨ k = 11 ∨ k = 12 ∨ k = 13 ∨ k = 14 ∨ k = 15 ∨ k = 16 ∨ k = 17) with rfl | rfl | rfl | rfl | rfl | rfl | rfl | rfl | rfl | rfl | rfl | rfl | rfl | rfl | rfl | rfl | rfl | rfl <;> kernel_rfl
set_option maxHeartbeats 2000000 in
theorem within_any (f : Nat → Int) (w : World) : Calls Try.prog 43 #[rcv f] w fun e w' => e = .returned (.bool (pwO f)) ∧ Below w.heap.size w w' := by
  obtain ⟨P, hP⟩ : ∃ P, P = pwO f := ⟨_, rfl⟩
  rw [← hP]
  have HP := Lib.hid hP
  clear hP
  obtain ⟨wa, hwa⟩ : ∃ wa, wa = w.alloc (.cells (rcs f) 24) := ⟨_, rfl⟩
  have hR : Rcb wa w.heap.size f := by rw [hwa]; exact Rcb.mk' w f
  have hB : Below w.heap.size w wa := by rw [hwa]; exact (Below.refl _ _).alloc (Nat.le_refl _) _
  have y2 := hR.cell (i := 2) (by omega)
  obtain ⟨s, hs⟩ : ∃ s, s = f 2 := ⟨_, rfl⟩
  rw [← hs] at y2
  have hbk := blocks_any s wa
  obtain ⟨nb, hnb⟩ : ∃ nb, nb = blkN s := ⟨_, rfl⟩
  rw [← hnb] at hbk
  have hpt := pointers_any f wa
  obtain ⟨g, hg⟩ : ∃ g, g = ptsR f := ⟨_, rfl⟩
  rw [← hg] at hpt
  have HG := Lib.hid hg
  have HS := Lib.hid hs
  have HN := Lib.hid hnb
  have HR := Lib.hid hR
  have HB := Lib.hid hB
  clear hg hs hnb hR hB
  go_enter Try.func43, Try.ntmps43
  go_upto_region 1 with fail
  rw [← hwa]
  clear hwa
  go_wp2_with (fail)
  refine hbk.mono ?_
  rintro e w2 ⟨rfl, rfl⟩
  go_wp2_with (refine wpList_ldR (by rfl) (.tmp 1) rfl w.heap.size rfl f HR.out ?_)
  refine hpt.mono ?_
  rintro e wb ⟨rfl, hb⟩
  have HB2 := Lib.hid (HB.out.trans (hb.mono HB.out.size))
  clear hb hpt hbk y2
  go_wp2_with (fail)
  go_loop [4, 5, 11] (fun _p _q v => ∃ k : Nat, k ≤ 18 ∧ v = .int .i64 k ∧ ∀ i, i < k → atO f i = true) (fun _ _ v => 18 - (RowKit.intOf v).toNat)
  case atStart => exact ⟨0, by omega, rfl, fun i hi => by omega⟩
  case round =>
    obtain ⟨k, hk, rfl, hI⟩ := hrel
    have HI := Lib.hid hI
    clear hI
    by_cases hlt : k < 18
    · obtain ⟨p, hp⟩ : ∃ p, p = g k := ⟨_, rfl⟩
      have hix := run_idx g hlt
      rw [← hp] at hix
      have hn := noPtr_any p wb
      have hf := firstTold_any k hlt wb
      obtain ⟨t, ht⟩ : ∃ t, t = ftI k := ⟨_, rfl⟩
      rw [← ht] at hf
      have hat : atO f k = (ptO p && (decide (p = 0) || decide (t < nb))) := by
        rw [hp, HG.out, ht, HN.out, HS.out]; rfl
      have HA := Lib.hid hat
      clear hat ht hp
      cases hpo : ptO p with
      | false =>
        rw [hpo] at hn
        go_wp2_with (fail)
        refine hn.mono ?_
        rintro e w2 ⟨rfl, rfl⟩
        go_wp2_with (fail)
        go_ret
        refine ⟨?_, HB2.out⟩
        have e : pwO f = false := by
          cases hh : pwO f with
          | false => rfl
          | true => have := pwO_iff.1 hh k hlt; rw [HA.out, hpo] at this; cases this
        rw [HP.out, e]
        rfl
      | true =>
        rw [hpo] at hn
        by_cases h0 : p = 0
        · have d0 : (p != 0) = false := by simp [h0]
          have hok : atO f k = true := by rw [HA.out, hpo, decide_eq_true h0]; rfl
          have HO := Lib.hid hok
          clear h0 hok
          go_wp2_with (fail)
          refine hn.mono ?_
          rintro e w2 ⟨rfl, rfl⟩
          go_wp2_with (fail)
          go_round
          case rel => exact ⟨k + 1, by omega, by go_num, fun i hi => by
            by_cases hik : i = k
            · rw [hik, HO.out]
            · exact HI.out i (by omega)⟩
          case measure => simp [RowKit.intOf]; omega
        · have d0 : (p != 0) = true := by simp [h0]
          by_cases h1 : nb ≤ t
          · have hno : atO f k = false := by rw [HA.out, hpo, decide_eq_false h0, decide_eq_false (by omega)]; rfl
            have HO := Lib.hid hno
            clear h0 hno
            go_wp2_with (fail)
            refine hn.mono ?_
            rintro e w2 ⟨rfl, rfl⟩
            go_wp2_with (fail)
            refine hf.mono ?_
            rintro e w2 ⟨rfl, rfl⟩
            go_wp2_with (fail)
            go_ret
            refine ⟨?_, HB2.out⟩
            have e : pwO f = false := by
              cases hh : pwO f with
              | false => rfl
              | true => have := pwO_iff.1 hh k hlt; rw [HO.out] at this; cases this
            rw [HP.out, e]
            rfl
          · have hok : atO f k = true := by rw [HA.out, hpo, decide_eq_false h0, decide_eq_true (by omega)]; rfl
            have HO := Lib.hid hok
            clear h0 hok
            go_wp2_with (fail)
            refine hn.mono ?_
            rintro e w2 ⟨rfl, rfl⟩
            go_wp2_with (fail)
            refine hf.mono ?_
            rintro e w2 ⟨rfl, rfl⟩
            go_wp2_with (fail)
            go_round
            case rel => exact ⟨k + 1, by omega, by go_num, fun i hi => by
              by_cases hik : i = k
              · rw [hik, HO.out]
              · exact HI.out i (by omega)⟩
            case measure => simp [RowKit.intOf]; omega
    · obtain rfl : k = 18 := by omega
      have e : P = true := by rw [HP.out]; exact pwO_iff.2 HI.out
      go_wp2_with (fail)
      go_ret
      exact ⟨rfl, HB2.out⟩
end Go.Proofs.Ytgfakdjljcnpiaa
