/-
  DeviceCalls' walk.
-/
import Derived.Test.YtcgemckookefmaaSet2
namespace Go.Proofs.Ytcgemckookefmaa
open Go.RowKit Go.Maps

theorem CallsAt.next {w w1 : World} {a : Option Addr} {len : Nat} {f : Nat → Cl × Pl} (h : CallsAt w a len f) (hl1 : Below w.heap.size w w1) : CallsAt w1 a len f := by
  rcases h with h0 | ⟨b, off, e, hlt, hcall⟩
  · exact .inl h0
  · refine .inr ⟨b, off, e, Nat.lt_of_lt_of_le hlt hl1.size, fun i hi => ?_⟩
    have hci := hcall i hi
    obtain ⟨k0, k1, k2, k3, k4⟩ := hci.next hlt hl1
    obtain ⟨big, hz, n3, hk, n4, bz, bk⟩ := hci.lists
    refine ⟨k0, k1, k2, k3, k4, ⟨big, hz.next hl1, n3, ⟨hk.1, ?_⟩, n4, bz, bk⟩⟩
    rcases hk.2 with h0 | ⟨b', off', e', hlt', hcc⟩
    · exact .inl h0
    · exact .inr ⟨b', off', e', Nat.lt_of_lt_of_le hlt' hl1.size, fun i hi => (hl1.cell (p := ⟨b', off' + i, none⟩) hlt').trans (hcc i hi)⟩

theorem Rk.wr_S (R : Rk) (i s : Int) (zs : List Int) : (R.wr i s zs).S = R.S := by
  unfold Rk.wr
  split
  · split
    · exact R.call_S
    · exact R.call_S
  · rfl
theorem Rk.fl_S (R : Rk) (i : Int) : (R.fl i).S = R.S := by
  unfold Rk.fl
  split
  · split
    · exact R.call_S
    · exact R.call_S
  · rfl
theorem Rk.step_n (R : Rk) (c : Cl) : (R.step c).n = R.n := by
  unfold Rk.step
  split
  · exact R.wr_n _ _ _
  · split
    · exact R.fl_n _
    · split
      · rfl
      · split
        · exact R.doom_n _ _
        · split
          · rfl
          · split
            · exact R.ld_n _ _
            · rfl
theorem Rk.step_S (R : Rk) (c : Cl) : (R.step c).S = R.S := by
  unfold Rk.step
  split
  · exact R.wr_S _ _ _
  · split
    · exact R.fl_S _
    · split
      · rfl
      · split
        · unfold Rk.doom
          split <;> rfl
        · split
          · rfl
          · split
            · unfold Rk.ld
              split <;> rfl
            · rfl

set_option maxRecDepth 100000 in
set_option maxHeartbeats 2000000 in
theorem calls_bad (a : Option Addr) (len cap : Nat) (f : Nat → Cl × Pl) (n s : Int) (w : World) (hc : CallsAt w a len f) (hl : len ≤ maxLen) (hbad : ¬ ((1 ≤ n ∧ n ≤ 17) ∧ 1 ≤ s ∧ s ≤ 4096)) :
    Calls Try.prog 3 #[.int .i64 n, .int .i64 s, .slice a len cap] w fun e w' => e = .returned (.bool true) ∧ Below w.heap.size w w' := by
  have Hbad := Lib.hid hbad
  have Hc := Lib.hid hc
  clear hc hbad
  go_enter Try.func3, Try.ntmps3
  go_wp2_with (fail)
  with_reducible refine (alive2_any _).mono ?_
  rintro e w1 ⟨rfl, hl1⟩
  have hc1 := Lib.hid (Hc.out.next hl1)
  go_wp2_with (fail)
  refine (great_any n s a len cap f w1 hc1.out hl).mono ?_
  rintro e w2 ⟨bg, rfl, hsm, q, rfl⟩
  have hl2 : Below w.heap.size w (w1.drewN q) := below_drewN hl1 q
  clear hsm
  cases bg with
  | true =>
    go_wp2_with (fail)
    go_ret
    exact ⟨rfl, hl2⟩
  | false =>
    obtain ⟨wn, hwn⟩ : ∃ wn, wn = w1.drewN q := ⟨_, rfl⟩
    rw [← hwn] at hl2 ⊢
    clear hwn hc1 hl1
    go_wp2_with (fail)
    refine (new_bad n s wn Hbad.out).mono ?_
    rintro e w' ⟨rfl, rfl⟩
    go_wp2_with (fail)
    refine (rnew_bad n s wn (by have := Hbad.out; omega)).mono ?_
    rintro e w3 ⟨rfl, hl3⟩
    have hB3 := hl2.trans (hl3.mono hl2.size)
    go_wp2_with (fail)
    go_ret
    exact ⟨rfl, hB3.alloc hB3.size _⟩

set_option maxRecDepth 100000 in
set_option maxHeartbeats 4000000 in
theorem calls_good (a : Option Addr) (len cap : Nat) (f : Nat → Cl × Pl) (n s : Nat) (w : World) (hc : CallsAt w a len f) (hl : len ≤ maxLen) (n1 : 1 ≤ n) (n2 : n ≤ 17) (s1 : 1 ≤ s) (s2 : s ≤ 4096) :
    Calls Try.prog 3 #[.int .i64 n, .int .i64 s, .slice a len cap] w fun e w' => e = .returned (.bool true) ∧ Below w.heap.size w w' := by
  have Hc := Lib.hid hc
  clear hc
  go_enter Try.func3, Try.ntmps3
  go_wp2_with (fail)
  with_reducible refine (alive2_any _).mono ?_
  rintro e w1 ⟨rfl, hl1⟩
  have hc1 := Lib.hid (Hc.out.next hl1)
  go_wp2_with (fail)
  refine (great_any n s a len cap f w1 hc1.out hl).mono ?_
  rintro e w2 ⟨bg, rfl, hsm, q, rfl⟩
  have hl2 : Below w.heap.size w (w1.drewN q) := below_drewN hl1 q
  cases bg with
  | true =>
    clear hsm
    go_wp2_with (fail)
    go_ret
    exact ⟨rfl, hl2⟩
  | false =>
    obtain ⟨_, _, g1, g2⟩ := hsm rfl
    have G2 := Lib.hid g2
    clear hsm g2
    obtain ⟨wn, hwn⟩ : ∃ wn, wn = w1.drewN q := ⟨_, rfl⟩
    rw [← hwn] at hl2 ⊢
    clear hwn hc1 hl1
    go_wp2_with (fail)
    refine (new_ok n s wn n1 n2 s1 s2).mono ?_
    rintro e w3 ⟨L, rfl, hr3, hM0, hl3⟩
    have hB3 := hl2.trans (hl3.mono hl2.size)
    have hMw : Hid (∀ k, L.M n k → w.heap.size ≤ k) := fun k hk => Nat.le_trans hl2.size (hM0 k hk)
    clear hM0 hl3
    go_wp2_with (fail)
    refine (rnew_ok n s w3 n1 n2 s1 s2).mono ?_
    rintro e w4 ⟨v, xs, rfl, hD, hx1, hx2, hx3, hl4⟩
    obtain ⟨K, hKp, hKw, hboth⟩ := both_new2 (R := newRk n s) hr3 hl4 hD hx1 hx2 hx3 (by omega) (by have := lt_of_block hD.row; omega) n1 n2 s1 s2
    have hkp : 0 < n * s := Nat.mul_pos n1 s1
    obtain ⟨g0, m0, f0⟩ := hD.form 0 (by omega) hkp
    obtain ⟨g1', m1, f1⟩ := hD.form 1 (by omega) hkp
    obtain ⟨g2', m2, f2⟩ := hD.form 2 (by omega) n1
    obtain ⟨g3', m3, f3⟩ := hD.form 3 (by omega) n1
    rw [f0, f1, f2, f3] at hboth
    rw [f0, f1, f2, f3]
    have hB4 := hB3.trans (hl4.mono hB3.size)
    have hKw' : Hid (∀ k, BothM L K (newRk n s) k → w.heap.size ≤ k) := fun k hk => by
      rcases hk with hk | hk
      · exact hMw.out k hk
      · exact Nat.le_trans hB3.size (hKw k hk)
    have hrel := Rel.new n s
    clear hD hx1 hx2 hx3 hl4 hKw f0 f1 f2 f3 hr3 hB3 hl2
    go_wp2_with (fail)
    go_loopw [11] (fun v wr => ∃ (i : Nat) (R : Rk) (F : Rf), i ≤ len ∧ v = .int .i64 i ∧ Rel R F ∧ R.n = n ∧ R.S = s ∧ Both wr L K R F ∧ Below w.heap.size w wr) (fun v _ => len - (intOf v).toNat)
    case atStart => exact ⟨0, _, _, by omega, rfl, hrel, rfl, rfl, hboth, hB4.alloc hB4.size _⟩
    case round =>
      obtain ⟨i, R, F, i1, rfl, hF, hn, hS, hb, hB⟩ := hrel
      clear hboth
      have hTM : Hid (∀ k, BothM L K R k → w.heap.size ≤ k) := fun k hk => hKw'.out k (by unfold BothM at hk ⊢; rwa [hn] at hk)
      by_cases hlt : i < len
      · rcases Hc.out with h0 | ⟨b, off, rfl, hbw, hcall⟩
        · omega
        have hci := hcall i hlt
        have hlists := hci.lists
        obtain ⟨z1, z2⟩ := G2.out i hlt
        obtain ⟨c, hcd⟩ : ∃ c, c = (f i).1 := ⟨_, rfl⟩
        obtain ⟨p, hpd⟩ : ∃ p, p = (f i).2 := ⟨_, rfl⟩
        rw [← hcd, ← hpd] at hci hlists
        rw [← hcd] at z1 z2
        clear hcd hpd hcall
        have i0 : (0 : Int) ≤ (i : Int) := by omega
        have i2 : (i : Int) < (len : Int) := by omega
        have hcell : Hid (∀ w', Below w.heap.size w w' → w'.cell? ⟨b, off + i * 5, none⟩ = some (.int .i64 c.what) ∧ w'.cell? ⟨b, off + i * 5 + 1, none⟩ = some (.int .i64 c.i) ∧ w'.cell? ⟨b, off + i * 5 + 2, none⟩ = some (.int .i64 c.n) ∧ w'.cell? ⟨b, off + i * 5 + 3, none⟩ = some (.slice p.a3 c.zs.length p.c3) ∧ w'.cell? ⟨b, off + i * 5 + 4, none⟩ = some (.slice p.a4 c.ks.length p.c4)) := Lib.hid fun w' h => hci.next hbw h
        have hBd : Below w.heap.size w wr.drew := hB.drew
        have hbd : Both wr.drew L K R F := hb.below ⟨rfl, rfl, rfl, Nat.le_refl _, fun _ _ => rfl⟩
        have hst := hF.step hb.rk c
        have ht := told_any L K R F wr.drew c p hbd (hlists.at hBd hTM.out (by omega) (by omega)) hF.n hst.off (.inl (hF.wrE _ _ _))
        rw [hF.tb hb.rk c, hKp] at ht
        have Ht := Lib.hid ht
        have Hst := Lib.hid hst
        clear ht hst hci hlists z1 z2 hb hbd
        go_wp2_with (fail)
        refine wp_region_held_drew (S := (fun w' => w'.cell? ⟨b, off + i * 5, none⟩ = some (.int .i64 c.what) ∧ w'.cell? ⟨b, off + i * 5 + 1, none⟩ = some (.int .i64 c.i) ∧ w'.cell? ⟨b, off + i * 5 + 2, none⟩ = some (.int .i64 c.n) ∧ w'.cell? ⟨b, off + i * 5 + 3, none⟩ = some (.slice p.a3 c.zs.length p.c3) ∧ w'.cell? ⟨b, off + i * 5 + 4, none⟩ = some (.slice p.a4 c.ks.length p.c4))) (by kernel_rfl) ?_ (fun hHeld => ?_)
        · exact hcell.out _ hBd
        refine wpAnyH_take (i := 0) (v := ?_) rfl (by kernel_rfl) (by kernel_rfl) (by kernel_rfl) (fun _ _ _ h => h) (Or.inl ⟨by rfl, fun w hSw => ?_⟩) (by assumption) ?_
        rotate_left
        · (try dsimp only at hSw); go_simp; try with_reducible rfl
        simp only [Act.put, List.setIfInBounds_toArray, List.set_cons_zero, List.set_cons_succ, List.getElem_toArray, List.getElem_cons_zero]
        refine wpAnyH_take (i := 1) (v := ?_) rfl (by kernel_rfl) (by kernel_rfl) (by kernel_rfl) (fun _ _ _ h => h) (Or.inl ⟨by rfl, fun w hSw => ?_⟩) (by assumption) ?_
        rotate_left
        · (try dsimp only at hSw); go_simp; try with_reducible rfl
        simp only [Act.put, List.setIfInBounds_toArray, List.set_cons_zero, List.set_cons_succ, List.getElem_toArray, List.getElem_cons_succ, List.getElem_cons_zero]
        refine wpAnyH_take (i := 2) (v := ?_) rfl (by kernel_rfl) (by kernel_rfl) (by kernel_rfl) (fun _ _ _ h => h) (Or.inl ⟨by rfl, fun w hSw => ?_⟩) (by assumption) ?_
        rotate_left
        · (try dsimp only at hSw); go_simp; try with_reducible rfl
        simp only [Act.put, List.setIfInBounds_toArray, List.set_cons_zero, List.set_cons_succ, List.getElem_toArray, List.getElem_cons_succ, List.getElem_cons_zero]
        refine wpAnyH_take (i := 3) (v := ?_) rfl (by kernel_rfl) (by kernel_rfl) (by kernel_rfl) (fun _ _ _ h => h) (Or.inl ⟨by rfl, fun w hSw => ?_⟩) (by assumption) ?_
        rotate_left
        · (try dsimp only at hSw); go_simp; try with_reducible rfl
        simp only [Act.put, List.setIfInBounds_toArray, List.set_cons_zero, List.set_cons_succ, List.getElem_toArray, List.getElem_cons_succ, List.getElem_cons_zero]
        refine wpAnyH_take (i := 4) (v := ?_) rfl (by kernel_rfl) (by kernel_rfl) (by kernel_rfl) (fun _ _ _ h => h) (Or.inl ⟨by rfl, fun w hSw => ?_⟩) (by assumption) ?_
        rotate_left
        · (try dsimp only at hSw); go_simp; try with_reducible rfl
        simp only [Act.put, List.setIfInBounds_toArray, List.set_cons_zero, List.set_cons_succ, List.getElem_toArray, List.getElem_cons_succ, List.getElem_cons_zero]
        refine wpAnyH_ready (rs := [5]) (by kernel_rfl) (by simp) ?_
        refine AllReadyH.cons rfl (fun K hK => ?_) AllReadyH.nil
        simp only [List.getElem_toArray, List.getElem_cons_succ, List.getElem_cons_zero]
        go_simp
        refine Ht.out.mono ?_
        rintro e w9 ⟨rfl, hb9, ht9⟩
        have hB9 := hBd.trans (ht9.below hBd.size hTM.out)
        go_wp2_with (fail)
        refine hK.out _ _ (hcell.out _ hB9) (fun hHeld => ?_)
        clear hK K
        refine wpAnyH_take (i := 6) (v := ?_) rfl (by kernel_rfl) (by kernel_rfl) (by kernel_rfl) (fun _ _ _ h => h) (Or.inl ⟨by rfl, fun w hSw => ?_⟩) (by assumption) ?_
        rotate_left
        · (try dsimp only at hSw); go_simp; try with_reducible rfl
        simp only [Act.put, List.setIfInBounds_toArray, List.set_cons_zero, List.set_cons_succ, List.getElem_toArray, List.getElem_cons_succ, List.getElem_cons_zero]
        refine wpAnyH_take (i := 7) (v := ?_) rfl (by kernel_rfl) (by kernel_rfl) (by kernel_rfl) (fun _ _ _ h => h) (Or.inl ⟨by rfl, fun w hSw => ?_⟩) (by assumption) ?_
        rotate_left
        · (try dsimp only at hSw); go_simp; try with_reducible rfl
        simp only [Act.put, List.setIfInBounds_toArray, List.set_cons_zero, List.set_cons_succ, List.getElem_toArray, List.getElem_cons_succ, List.getElem_cons_zero]
        refine wpAnyH_take (i := 8) (v := ?_) rfl (by kernel_rfl) (by kernel_rfl) (by kernel_rfl) (fun _ _ _ h => h) (Or.inl ⟨by rfl, fun w hSw => ?_⟩) (by assumption) ?_
        rotate_left
        · (try dsimp only at hSw); go_simp; try with_reducible rfl
        simp only [Act.put, List.setIfInBounds_toArray, List.set_cons_zero, List.set_cons_succ, List.getElem_toArray, List.getElem_cons_succ, List.getElem_cons_zero]
        refine wpAnyH_take (i := 10) (v := ?_) rfl (by kernel_rfl) (by kernel_rfl) (by kernel_rfl) (fun _ _ _ h => h) (Or.inl ⟨by rfl, fun w hSw => ?_⟩) (by assumption) ?_
        rotate_left
        · (try dsimp only at hSw); go_simp; try with_reducible rfl
        simp only [Act.put, List.setIfInBounds_toArray, List.set_cons_zero, List.set_cons_succ, List.getElem_toArray, List.getElem_cons_succ, List.getElem_cons_zero]
        obtain ⟨R1, hR1⟩ : ∃ R1, R1 = R.step c := ⟨_, rfl⟩
        obtain ⟨F1, hF1⟩ : ∃ F1, F1 = F.step c := ⟨_, rfl⟩
        have hst := Hst.out
        rw [← hR1, ← hF1] at hst hb9
        have HR1 := Lib.hid hR1
        clear hR1 hF1
        have hn1 : Hid (R1.n = n) := by unfold Hid; rw [HR1.out, Rk.step_n]; exact hn
        have hS1 : Hid (R1.S = s) := by unfold Hid; rw [HR1.out, Rk.step_S]; exact hS
        obtain ⟨xo, hxo⟩ : ∃ xo, xo = R1.off := ⟨_, rfl⟩
        have hoff := off_rack _ L R1 w9 hb9.rk
        rw [← hxo] at hoff
        have Hoff := Lib.hid hoff
        have k7 : w9.cell? ⟨w4.heap.size, 7, none⟩ = some (.bool xo) := by
          obtain ⟨fl, fc, hx⟩ := hb9.rf
          have := hx.c7
          rw [hKp] at this
          rw [this, hxo, hst.off]
        have hxx : (xo != xo) = false := by simp
        clear hoff hxo
        have ht9' := Lib.hid ht9
        clear ht9
        refine wpAnyH_ready (rs := [9, 11]) (by kernel_rfl) (by simp) ?_
        refine AllReadyH.cons rfl (fun K hK => ?_) (AllReadyH.cons rfl (fun K hK => ?_) AllReadyH.nil)
        · simp only [List.getElem_toArray, List.getElem_cons_succ, List.getElem_cons_zero]
          go_simp
          refine Hoff.out.mono ?_
          rintro e w' ⟨rfl, rfl⟩
          go_wp2_with (fail)
          refine hK.out _ _ (hcell.out _ hB9) (fun hHeld => ?_)
          clear hK K
          refine wpAnyH_ready (rs := [11]) (by kernel_rfl) (by simp) ?_
          refine AllReadyH.cons rfl (fun K hK => ?_) AllReadyH.nil
          simp only [List.getElem_toArray, List.getElem_cons_succ, List.getElem_cons_zero]
          go_simp
          refine hK.out _ _ (hcell.out _ hB9) (fun hHeld => ?_)
          clear hK K
          refine wpAnyH_take (i := 12) (v := ?_) rfl (by kernel_rfl) (by kernel_rfl) (by kernel_rfl) (fun _ _ _ h => h) (Or.inl ⟨by rfl, fun w hSw => ?_⟩) (by assumption) ?_
          rotate_left
          · (try dsimp only at hSw); go_simp; try with_reducible rfl
          simp only [Act.put, List.setIfInBounds_toArray, List.set_cons_zero, List.set_cons_succ, List.getElem_toArray, List.getElem_cons_succ, List.getElem_cons_zero]
          refine wpAnyH_take (i := 13) (v := ?_) rfl (by kernel_rfl) (by kernel_rfl) (by kernel_rfl) (fun _ _ _ h => h) (Or.inl ⟨by rfl, fun w hSw => ?_⟩) (by assumption) ?_
          rotate_left
          · (try dsimp only at hSw); go_simp; try with_reducible rfl
          simp only [Act.put, List.setIfInBounds_toArray, List.set_cons_zero, List.set_cons_succ, List.getElem_toArray, List.getElem_cons_succ, List.getElem_cons_zero]
          refine wpAnyH_done (by kernel_rfl) ?_ _
          go_wp2_with (fail)
          go_roundw
          case rel => exact ⟨i + 1, R1, F1, by omega, by go_num, hst, hn1.out, hS1.out, hb9, hB9⟩
          case measure => simp [intOf]; omega
        · simp only [List.getElem_toArray, List.getElem_cons_succ, List.getElem_cons_zero]
          go_simp
          refine hK.out _ _ (hcell.out _ hB9) (fun hHeld => ?_)
          clear hK K
          refine wpAnyH_ready (rs := [9]) (by kernel_rfl) (by simp) ?_
          refine AllReadyH.cons rfl (fun K hK => ?_) AllReadyH.nil
          simp only [List.getElem_toArray, List.getElem_cons_succ, List.getElem_cons_zero]
          go_simp
          refine Hoff.out.mono ?_
          rintro e w' ⟨rfl, rfl⟩
          go_wp2_with (fail)
          refine hK.out _ _ (hcell.out _ hB9) (fun hHeld => ?_)
          clear hK K
          refine wpAnyH_take (i := 12) (v := ?_) rfl (by kernel_rfl) (by kernel_rfl) (by kernel_rfl) (fun _ _ _ h => h) (Or.inl ⟨by rfl, fun w hSw => ?_⟩) (by assumption) ?_
          rotate_left
          · (try dsimp only at hSw); go_simp; try with_reducible rfl
          simp only [Act.put, List.setIfInBounds_toArray, List.set_cons_zero, List.set_cons_succ, List.getElem_toArray, List.getElem_cons_succ, List.getElem_cons_zero]
          refine wpAnyH_take (i := 13) (v := ?_) rfl (by kernel_rfl) (by kernel_rfl) (by kernel_rfl) (fun _ _ _ h => h) (Or.inl ⟨by rfl, fun w hSw => ?_⟩) (by assumption) ?_
          rotate_left
          · (try dsimp only at hSw); go_simp; try with_reducible rfl
          simp only [Act.put, List.setIfInBounds_toArray, List.set_cons_zero, List.set_cons_succ, List.getElem_toArray, List.getElem_cons_succ, List.getElem_cons_zero]
          refine wpAnyH_done (by kernel_rfl) ?_ _
          go_wp2_with (fail)
          go_roundw
          case rel => exact ⟨i + 1, R1, F1, by omega, by go_num, hst, hn1.out, hS1.out, hb9, hB9⟩
          case measure => simp [intOf]; omega
      · have hsz := size_rack _ L R wr hb.rk
        rw [hn, hS] at hsz
        have Hsz := Lib.hid hsz
        clear hsz
        go_wp2_with (fail)
        refine Hsz.out.mono ?_
        rintro e w5 ⟨rfl, hl5⟩
        have hb5 := hb.below hl5
        have hB5 := hB.trans (hl5.mono hB.size)
        clear hb hB Hsz hl5 hTM
        go_wp2_with (fail)
        go_loopw [14] (fun v wr => ∃ j : Nat, j ≤ n ∧ v = .int .i64 j ∧ Both wr L K R F ∧ Below w.heap.size w wr) (fun v _ => n - (intOf v).toNat)
        case atStart => exact ⟨0, by omega, rfl, hb5, hB5⟩
        case round =>
          obtain ⟨j, j1, rfl, hb6, hB6⟩ := hrel
          clear hb5 hB5
          obtain ⟨wo, hwo⟩ : ∃ wo, wo = wr := ⟨_, rfl⟩
          subst hwo
          by_cases hj : j < n
          · obtain ⟨xf, hxf⟩ : ∃ xf, xf = R.failed j := ⟨_, rfl⟩
            have hf1 := failed_rack _ L R _ j hb6.rk
            have hf2 := rfailed _ K F _ j hb6.rf
            rw [← hF.failed, hKp] at hf2
            rw [← hxf] at hf1 hf2
            have Hf1 := Lib.hid hf1
            have Hf2 := Lib.hid hf2
            have hxx : (xf != xf) = false := by simp
            clear hf1 hf2 hxf
            go_wp2_with (fail)
            refine Hf1.out.mono ?_
            rintro e w' ⟨rfl, rfl⟩
            go_wp2_with (fail)
            refine Hf2.out.mono ?_
            rintro e w' ⟨rfl, rfl⟩
            clear Hf1 Hf2
            go_wp2_with (fail)
            clear hxx
            go_loopw [15] (fun v wr => ∃ k : Nat, k ≤ s ∧ v = .int .i64 k ∧ Both wr L K R F ∧ Below w.heap.size w wr) (fun v _ => s - (intOf v).toNat)
            case atStart => exact ⟨0, by omega, rfl, hb6, hB6⟩
            case round =>
              obtain ⟨k, k1, rfl, hb7, hB7⟩ := hrel
              clear hb6 hB6
              by_cases hk : k < s
              · have hlen := laV_le hb7.rk j k
                have h1 := lasting_all j k hb7.rk
                obtain ⟨ys, hys⟩ : ∃ ys, ys = R.laV j k := ⟨_, rfl⟩
                obtain ⟨ye, hye⟩ : ∃ ye, ye = R.laE j k := ⟨_, rfl⟩
                rw [← hys, ← hye] at h1
                rw [← hys] at hlen
                have H1 := Lib.hid h1
                have Hys := Lib.hid hys
                have Hye := Lib.hid hye
                clear h1 hys hye
                go_wp2_with (fail)
                refine H1.out.mono ?_
                rintro e w8 ⟨a8, c8, rfl, hs8⟩
                have hb8 := hb7.below hs8.bel
                have hB8 := hB7.trans (hs8.bel.mono hB7.size)
                have hy8 := hs8.bys
                have h2 := rlasting_all j k hb8.rf
                rw [← hF.laV, ← hF.laE, ← Hys.out, ← Hye.out, hKp] at h2
                have H2 := Lib.hid h2
                clear h2 hs8 hb7 hB7 H1
                go_wp2_with (fail)
                refine H2.out.mono ?_
                rintro e w9 ⟨a9, c9, rfl, hs9⟩
                have hb9 := hb8.below hs9.bel
                have hB9 := hB8.trans (hs9.bel.mono hB8.size)
                have hz9 := hy8.next hs9.bel
                have h3 := same_any a8 a9 ys.length c8 ys.length c9 ys ys w9 hz9 hs9.bys (by omega)
                rw [sameB_true rfl] at h3
                have H3 := Lib.hid h3
                clear h3 hs9 hb8 hB8 H2 hy8 hz9
                go_wp2_with (fail)
                refine H3.out.mono ?_
                rintro e w10 ⟨rfl, q, rfl⟩
                have hb10 : Both (w9.drewN q) L K R F := hb9.below (below_drewN (Below.refl _ _) q)
                have hB10 : Below w.heap.size w (w9.drewN q) := below_drewN hB9 q
                obtain ⟨w11, hw11⟩ : ∃ w11, w11 = w9.drewN q := ⟨_, rfl⟩
                rw [← hw11] at hb10 hB10 ⊢
                clear hb9 hB9 H3 hw11
                go_wp2_with (fail)
                go_roundw
                case rel => exact ⟨k + 1, by omega, by go_num, hb10, hB10⟩
                case measure => simp [intOf]; omega
              · go_wp2_with (fail)
                go_roundw
                case rel => exact ⟨j + 1, by omega, by go_num, hb7, hB7⟩
                case measure => simp [intOf]; omega
          · go_wp2_with (fail)
            go_ret
            exact ⟨rfl, hB6⟩
theorem law_calls (a : Option Addr) (len cap : Nat) (f : Nat → Cl × Pl) (n s : Int) (w : World) (hc : CallsAt w a len f) (hl : len ≤ maxLen) :
    Calls Try.prog 3 #[.int .i64 n, .int .i64 s, .slice a len cap] w fun e w' => e = .returned (.bool true) ∧ Below w.heap.size w w' := by
  by_cases h : (1 ≤ n ∧ n ≤ 17) ∧ 1 ≤ s ∧ s ≤ 4096
  · obtain ⟨⟨n1, n2⟩, s1, s2⟩ := h
    obtain ⟨m, rfl⟩ := Int.eq_ofNat_of_zero_le (show 0 ≤ n by omega)
    obtain ⟨k, rfl⟩ := Int.eq_ofNat_of_zero_le (show 0 ≤ s by omega)
    exact calls_good a len cap f m k w hc hl (by omega) (by omega) (by omega) (by omega)
  · exact calls_bad a len cap f n s w hc hl h

end Go.Proofs.Ytcgemckookefmaa
