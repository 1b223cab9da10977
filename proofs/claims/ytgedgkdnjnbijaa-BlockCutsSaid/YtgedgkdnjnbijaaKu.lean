/-
  The program's Put by contract; arrays of 56 bytes.
-/
import Derived.Test.YtgedgkdnjnbijaaKa
import Derived.Deep.MidRow
namespace Go.Proofs.Ytgedgkdnjnbijaa
open Go.RowKit Go.Maps Go.ChangeMaps Go.MapKept
set_option linter.unusedVariables false
set_option linter.unusedSimpArgs false

theorem uP : Try.prog.underlying 70 = some (.array 56 5) := Try.underlying70
theorem sizeX : (Try.prog.info? 70).map (·.size) = some 56 := by kernel_rfl
/-- 56 bytes that lie anywhere are loaded whole. -/
theorem Pin.load56 {w : World} {b off c : Nat} {zs : List Int} (h : Pin w (some ⟨b, off, none⟩) 56 c zs) : (Instr.loadAt 70 (.pointer (some ⟨b, off, none⟩))).run Try.prog w = .ok (payV zs) w := by
  simp only [Instr.loadAt, Instr.sureAddr, Sem.run_bind, Sem.run_pure, Result.andThen]
  obtain ⟨b', off', e, _, hc⟩ := h.at (by omega)
  cases e
  refine run_loadVar_mid w b off 70 (zs.map (Value.int .u8)) _ (fun j v hv => ?_) uP rfl (by rw [sizeX, List.length_map, h.len])
  have hj : j < zs.length := by
    rcases Nat.lt_or_ge j zs.length with h1 | h1
    · exact h1
    · rw [List.getElem?_eq_none (by simpa using h1)] at hv; cases hv
  rw [hc j (by rw [← h.len]; exact hj)]
  rw [List.getElem?_map, List.getElem?_eq_getElem hj] at hv
  simp at hv
  simp [byt, List.getD, hj, hv]
theorem exec_load {P : Program} {ρ : Operand → Value} {o : Oper} {t : TypeId} {x : Operand} {p v : Value} {w : World} (ho : o.op = .load t x) (hx : ρ x = p) (h : (Instr.loadAt t p).run P w = .ok v w) : (execOp ρ o).run P w = .ok (.value v) w := by
  unfold execOp
  simp only [ho, hx, Sem.run_bind, h, Result.andThen_ok, Sem.run_pure]
theorem Pmp.off {b c g : Nat} {T : Nat → Prop} (hT : ∀ j, T j ↔ j = b ∨ j = c) (h : ¬ T g) : g ≠ b ∧ g ≠ c := ⟨fun e => h ((hT g).2 (.inl e)), fun e => h ((hT g).2 (.inr e))⟩
/-- What Put leaves. -/
def PutP (w : World) (p b c : Nat) (A : Nat → Int) (X : Nat → List Int) (k : Int) (x : List Int) (e : Ending) (w' : World) : Prop :=
  e = .returned (.int .i64 (if puO k x then 0 else 28)) ∧ Turn (fun j => j = b ∨ j = c) w w' ∧ PmpAt w' p b c (if puO k x then upd A k.toNat 0 else A) (if puO k x then upd X k.toNat (bnO x) else X)
theorem putP_no {w : World} {p b c : Nat} {A : Nat → Int} {X : Nat → List Int} {k : Int} {x : List Int} (h : PmpAt w p b c A X) (hk : ¬ (0 ≤ k ∧ k < 828) ∨ x.length ≠ 56) : PutP w p b c A X k x (.returned (.int .i64 28)) w := by
  have e : puO k x = false := by
    unfold puO
    rcases hk with h | h
    · rw [show inK k = false by cases hh : inK k with | false => rfl | true => exact absurd (inK_iff.1 hh) h]; rfl
    · rw [decide_eq_false h, Bool.and_false]
  unfold PutP
  rw [e]
  exact ⟨rfl, Turn.refl _ _, h⟩
set_option maxRecDepth 10000 in
set_option maxHeartbeats 4000000 in
theorem put_any {w : World} {p b c : Nat} {A : Nat → Int} {X : Nat → List Int} (h : PmpAt w p b c A X) (k : Int) (a : Option Addr) (n m : Nat) (x : List Int) (hx : Pin w a n m x) (hb : 0 < n → ∀ y, a = some y → y.block ≠ b ∧ y.block ≠ c) :
    Calls Try.prog 16 #[.pointer (some ⟨p, 0, none⟩), .int .i64 k, .slice a n m] w (PutP w p b c A X k x) := by
  have hl := hx.len
  subst hl
  have hc0 := isBlock_any k w
  by_cases h0 : ¬ (0 ≤ k ∧ k < 828)
  · have hno := Lib.hid (putP_no (x := x) h (.inl h0))
    rw [show inK k = false by cases hh : inK k with | false => rfl | true => exact absurd (inK_iff.1 hh) h0] at hc0
    clear h h0 hb hx
    go_enter Try.func16, Try.ntmps16
    go_wp2_with (fail)
    refine hc0.mono ?_
    rintro e w2 ⟨rfl, rfl⟩
    go_wp2_with (fail)
    go_ret
    exact hno.out
  · have h00 : 0 ≤ k ∧ k < 828 := by omega
    rw [inK_iff.2 h00] at hc0
    by_cases h2 : x.length = 56
    · obtain ⟨j, rfl⟩ := Int.eq_ofNat_of_zero_le (show 0 ≤ k by omega)
      have hj : j < 828 := by omega
      have hok := Lib.hid (show puO (j : Int) x = true by rw [puO, inK_iff.2 (by omega), decide_eq_true h2]; rfl)
      obtain ⟨w1, hd1, hn1, ht1⟩ := h.ma.drop uA hj
      rw [fA_off] at hn1
      have c0 := h.c0
      have h1 := h.setA (turn_map ht1) hn1 (h.ok.offA j)
      have hx1 : Pin w1 a x.length m x := pin_turn hx (turn_map ht1) fun h0 y e => (hb h0 y e).1
      have c1 := h1.c1
      have hno := nought_any a x.length m x w1 hx1.bys (by omega)
      obtain ⟨by0, off, rfl, _, _⟩ := hx1.at (by omega)
      have HBC := Lib.hid (show by0 ≠ c from (hb (by omega) _ rfl).2)
      have HX := Lib.hid hx1
      have HM := Lib.hid h1
      have HT := Lib.hid (turn_map ht1)
      obtain ⟨q, hq⟩ : ∃ q, q = x.length := ⟨_, rfl⟩
      rw [← hq] at hno h2 ⊢
      have HMM := Lib.hid hq
      subst h2
      clear h h1 ht1 hx1 hx hb h0 h00 hn1 hq
      cases hz : noughtB x with
      | true =>
        rw [hz] at hno
        obtain ⟨w2, hd2, hn2, ht2⟩ := HM.out.mx.drop uX hj
        rw [fX_off] at hn2
        have HM2 := Lib.hid (HM.out.setX (turn_map ht2) hn2 (HM.out.ok.offX j))
        have HT2 := Lib.hid ((HT.out.mono (M' := fun j => j = b ∨ j = c) fun j e => .inl e).trans ((turn_map ht2).mono fun j e => .inr e))
        have HZ := Lib.hid hz
        clear hz hn2 ht2
        go_enter Try.func16, Try.ntmps16
        go_wp2_with (fail)
        refine hc0.mono ?_
        rintro e w4 ⟨rfl, rfl⟩
        go_wp2_with (fail)
        refine hno.mono ?_
        rintro e w5 ⟨rfl, rfl⟩
        go_wp2_with (fail)
        go_ret
        unfold PutP
        rw [hok.out, if_pos rfl, if_pos rfl, if_pos rfl, bnO, HZ.out]
        exact ⟨rfl, HT2.out, HM2.out⟩
      | false =>
        rw [hz] at hno
        have HZ := Lib.hid hz
        have hne : x ≠ [] := fun e => by have := HMM.out; rw [e] at this; cases this
        have hmd : PmpAt w1.drew p b c (upd A j 0) X := HM.out.next (below_drewN (Below.refl _ _) 1)
        have cd := hmd.c1
        obtain ⟨w2, hst, hn2, ht2⟩ := hmd.mx.store uX hj (elX_mk HMM.out.symm)
        rw [fX_upd _ _ hne] at hn2
        have HM2 := Lib.hid (hmd.setX (turn_map ht2) hn2 (hmd.ok.setX (.inr ⟨HMM.out.symm, HX.out.bys.small⟩) (upd_at _ _ _)))
        have HT2 := Lib.hid (((HT.out.mono (M' := fun j => j = b ∨ j = c) fun j e => .inl e).trans (Turn.of_below (below_drewN (Below.refl _ _) 1))).trans ((turn_map ht2).mono fun j e => .inr e))
        have hld : (Instr.loadAt 70 (.pointer (some ⟨by0, off, none⟩))).run Try.prog w1.drew = .ok (payV x) w1.drew := by
          have h5 : Pin w1.drew (some ⟨by0, off, none⟩) x.length m x := HX.out.drewN 1
          rw [← HMM.out] at h5
          exact h5.load56
        have har : ∀ w, (Instr.arrayAt 70 (.slice (some ⟨by0, off, none⟩) 56 m)).run Try.prog w = .ok (.pointer (some ⟨by0, off, none⟩)) w := fun w => by
          simp [Instr.arrayAt, run_underlying uP, Result.andThen]
        have HL2 := Lib.hid (show (Instr.loadAt 70 (.pointer (some ⟨by0, off, none⟩))).run Try.prog w2 = .ok (payV x) w2 by
          have h5 : Pin w2 (some ⟨by0, off, none⟩) x.length m x := pin_turn (HX.out.drewN 1) (turn_map ht2) fun _ y e => by cases e; exact HBC.out
          rw [← HMM.out] at h5
          exact h5.load56)
        clear hz hn2 ht2 hne hmd
        go_enter Try.func16, Try.ntmps16
        go_wp2_with (fail)
        refine hc0.mono ?_
        rintro e w4 ⟨rfl, rfl⟩
        go_wp2_with (fail)
        refine hno.mono ?_
        rintro e w5 ⟨rfl, rfl⟩
        go_upto_region 6 with fail
        refine wp_region_held_drew (S := (fun w' => w'.cell? ⟨p, 1, none⟩ = some (.map (some c)) ∧ (Instr.loadAt 70 (.pointer (some ⟨by0, off, none⟩))).run Try.prog w' = .ok (payV x) w')) (by kernel_rfl) ?_ (fun hHeld => ?_)
        · exact ⟨cd, hld⟩
        refine wpAnyH_take (i := 0) (v := ?_) rfl (by kernel_rfl) (by kernel_rfl) (by kernel_rfl) (fun _ _ _ h => h) (Or.inl ⟨by rfl, fun w hSw => ?_⟩) (by assumption) ?_
        rotate_left
        · (try dsimp only at hSw); go_simp; try with_reducible rfl
        simp only [Act.put, List.setIfInBounds_toArray, List.set_cons_zero, List.set_cons_succ, List.getElem_toArray, List.getElem_cons_zero]
        refine wpAnyH_take (i := 1) (v := ?_) rfl (by kernel_rfl) (by kernel_rfl) (by kernel_rfl) (fun _ _ _ h => h) (Or.inl ⟨by rfl, fun w hSw => ?_⟩) (by assumption) ?_
        rotate_left
        · (try dsimp only at hSw); go_simp; try with_reducible rfl
        simp only [Act.put, List.setIfInBounds_toArray, List.set_cons_zero, List.set_cons_succ, List.getElem_toArray, List.getElem_cons_succ, List.getElem_cons_zero]
        refine wpAnyH_take (i := 2) (v := ?_) rfl (by kernel_rfl) (by kernel_rfl) (by kernel_rfl) (fun _ _ _ h => h) (Or.inl ⟨by rfl, fun w hSw => ?_⟩) (by assumption) ?_
        rotate_left
        · (try dsimp only at hSw); go_simp; try with_reducible rfl
        simp only [Act.put, List.setIfInBounds_toArray, List.set_cons_zero, List.set_cons_succ, List.getElem_toArray, List.getElem_cons_succ, List.getElem_cons_zero]
        refine wpAnyH_take (i := 3) (v := ?_) rfl (by kernel_rfl) (by kernel_rfl) (by kernel_rfl) (fun _ _ _ h => h) (Or.inl ⟨by rfl, fun w hSw => ?_⟩) (by assumption) ?_
        rotate_left
        · (try dsimp only at hSw); go_simp; try with_reducible rfl
        simp only [Act.put, List.setIfInBounds_toArray, List.set_cons_zero, List.set_cons_succ, List.getElem_toArray, List.getElem_cons_succ, List.getElem_cons_zero]
        refine wpAnyH_take (i := 4) (v := ?_) rfl (by kernel_rfl) (by kernel_rfl) (by kernel_rfl) (fun _ _ _ h => h) (Or.inl ⟨by rfl, fun w hSw => ?_⟩) (by assumption) ?_
        rotate_left
        · (try dsimp only at hSw); go_simp; try with_reducible rfl
        simp only [Act.put, List.setIfInBounds_toArray, List.set_cons_zero, List.set_cons_succ, List.getElem_toArray, List.getElem_cons_succ, List.getElem_cons_zero]
        refine wpAnyH_take (i := 5) (v := ?_) rfl (by kernel_rfl) (by kernel_rfl) (by kernel_rfl) (fun _ _ _ h => h) (Or.inl ⟨by rfl, fun w hSw => ?_⟩) (by assumption) ?_
        rotate_left
        · (try dsimp only at hSw); go_simp; try with_reducible rfl
        simp only [Act.put, List.setIfInBounds_toArray, List.set_cons_zero, List.set_cons_succ, List.getElem_toArray, List.getElem_cons_succ, List.getElem_cons_zero]
        refine wpAnyH_take (i := 6) (v := ?_) rfl (by kernel_rfl) (by kernel_rfl) (by kernel_rfl) (fun _ _ _ h => h) (Or.inl ⟨by rfl, fun w hSw => ?_⟩) (by assumption) ?_
        rotate_left
        · (try dsimp only at hSw); go_simp; try with_reducible rfl
        simp only [Act.put, List.setIfInBounds_toArray, List.set_cons_zero, List.set_cons_succ, List.getElem_toArray, List.getElem_cons_succ, List.getElem_cons_zero]
        refine wpAnyH_take (i := 7) (v := payV x) rfl (by kernel_rfl) (by kernel_rfl) (by kernel_rfl) (fun _ _ _ h => h) (Or.inl ⟨by rfl, fun w hSw => ?_⟩) (by assumption) ?_
        · exact exec_load (x := .tmp 33) (by rfl) (by rfl) hSw.2
        simp only [Act.put, List.setIfInBounds_toArray, List.set_cons_zero, List.set_cons_succ, List.getElem_toArray, List.getElem_cons_succ, List.getElem_cons_zero]
        refine wpAnyH_ready (rs := [8]) (by kernel_rfl) (by simp) ?_
        refine AllReadyH.cons rfl (fun K hK => ?_) AllReadyH.nil
        simp only [List.getElem_toArray, List.getElem_cons_succ, List.getElem_cons_zero]
        go_simp
        refine hK.out _ _ ⟨(HM2.out).c1, HL2.out⟩ (fun hHeld => ?_)
        clear hK K
        refine wpAnyH_done (by kernel_rfl) ?_ _
        go_wp2_with (fail)
        go_ret
        unfold PutP
        rw [hok.out, if_pos rfl, if_pos rfl, if_pos rfl, bnO, HZ.out]
        exact ⟨rfl, HT2.out, HM2.out⟩
    · have hno := Lib.hid (putP_no (k := k) (x := x) h (.inr h2))
      have k1 : ((x.length : Int) != 56) = true := by simp; omega
      clear h h0 hb hx h2 h00
      go_enter Try.func16, Try.ntmps16
      go_wp2_with (fail)
      refine hc0.mono ?_
      rintro e w2 ⟨rfl, rfl⟩
      go_wp2_with (fail)
      go_ret
      exact hno.out
end Go.Proofs.Ytgedgkdnjnbijaa
