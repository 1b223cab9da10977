/-
  BankSpare's walk.
-/
import Derived.Test.YtoiidhpohghiaaaSpO
namespace Go.Proofs.Ytoiidhpohghiaaa
open Go.RowKit Go.Maps
set_option linter.unusedVariables false

/-- The bank of a new rack, before and behind the Join. -/
def bnZ : Bn := ⟨3, 3, 12, 0, 0, 0⟩
def bnJ (i st : Int) : Bn := ⟨3, 3, 12, 1, i, st⟩

set_option maxRecDepth 100000 in
set_option maxHeartbeats 8000000 in
theorem spare_in (i k : Nat) (st : Int) (a : Option Addr) (c : Nat) (zs : List Int) (w : World) (hp : Pin w a 64 c zs) (hi : i < 3) (hk : k < 41) (hs1 : 1 ≤ st) (hs2 : st ≤ 2) :
    Calls Try.prog 4 #[.int .i64 i, .int .i64 k, .slice a 64 c, .int .i64 st] w fun e w' => e = .returned (.bool true) ∧ Below w.heap.size w w' := by
  have g1 : decide ((i : Int) < 0) = false := decide_eq_false (by omega)
  have g2 : decide (2 < (i : Int)) = false := decide_eq_false (by omega)
  have g3 : decide ((k : Int) < 0) = false := decide_eq_false (by omega)
  have g4 : decide (41 ≤ (k : Int)) = false := decide_eq_false (by omega)
  have g5 : decide (st < 1) = false := decide_eq_false (by omega)
  have g6 : decide (2 < st) = false := decide_eq_false (by omega)
  have HI := Lib.hid hi
  have HK := Lib.hid hk
  have HS1 := Lib.hid hs1
  have HS2 := Lib.hid hs2
  have HP := Lib.hid hp
  have hzl : zs.length = 64 := hp.len
  have HZL := Lib.hid hzl
  clear hi hk hs1 hs2 hp hzl
  go_enter Try.func4, Try.ntmps4
  go_wp2_with (fail)
  refine (alive_any w).mono ?_
  rintro e w0 ⟨rfl, hb0⟩
  go_wp2_with (fail)
  refine (small_any w0).mono ?_
  rintro e w1 ⟨rfl, hb1⟩
  clear g1 g2 g3 g4 g5 g6
  have hB1' := hb0.trans (hb1.mono hb0.size)
  go_wp2_with (fail)
  obtain ⟨g, hg⟩ : ∃ g, g = w1.heap.size := ⟨_, rfl⟩
  obtain ⟨W1, hW1⟩ : ∃ W1, W1 = w1.alloc (.cells #[.int .i64 3, .int .i64 3, .int .i64 12] 23) := ⟨_, rfl⟩
  have x0 : W1.cell? ⟨g, 0, none⟩ = some (.int .i64 3) := by rw [hW1, hg]; simp
  have x1 : W1.cell? ⟨g, 1, none⟩ = some (.int .i64 3) := by rw [hW1, hg]; simp
  have x2 : W1.cell? ⟨g, 2, none⟩ = some (.int .i64 12) := by rw [hW1, hg]; simp
  have hgl : g < W1.heap.size := by rw [hW1, hg]; simp
  have hB1 : Below w.heap.size w W1 := by rw [hW1]; exact hB1'.alloc hB1'.size _
  rw [← hW1, ← hg]
  clear hW1 hg hb1 hb0 hB1'
  refine (sectors_all 3 3 12 W1).mono ?_
  rintro e w2 ⟨rfl, hb2⟩
  rw [sect_small]
  have hB2 := hB1.trans (hb2.mono hB1.size)
  have y0 := (hb2.cell (p := ⟨g, 0, none⟩) hgl).trans x0
  have y1 := (hb2.cell (p := ⟨g, 1, none⟩) hgl).trans x1
  have y2 := (hb2.cell (p := ⟨g, 2, none⟩) hgl).trans x2
  have hgl2 := Nat.lt_of_lt_of_le hgl hb2.size
  clear x0 x1 x2 hgl hb2 hB1
  go_wp2_with (fail)
  refine (new_ok 4 41 w2 (by omega) (by omega) (by omega) (by omega)).mono ?_
  rintro e w3 ⟨L, rfl, hr3, hM0, hb3⟩
  have hB3 := hB2.trans (hb3.mono hB2.size)
  have x0 := (hb3.cell (p := ⟨g, 0, none⟩) hgl2).trans y0
  have x1 := (hb3.cell (p := ⟨g, 1, none⟩) hgl2).trans y1
  have x2 := (hb3.cell (p := ⟨g, 2, none⟩) hgl2).trans y2
  have hlo : Hid (∀ k, L.M 4 k → w.heap.size ≤ k) := fun k hk => Nat.le_trans hB2.size (hM0 k hk)
  have HR := Lib.hid hr3
  have HB3 := Lib.hid hB3
  clear y0 y1 y2 hM0 hgl2 hr3 hB3 hb3 hB2
  go_wp2_with (fail)
  refine (open_any 3 3 12 0 0 0 HR.out).mono ?_
  rintro e w4 hop
  obtain ⟨b, rfl, hlt, hst⟩ := St.opened (w0 := w) HR.out hlo.out HB3.out hop (by rw [openOk_small rfl rfl]; rfl)
  have HST := Lib.hid hst
  clear x0 x1 x2 hop hst HR HB3 hlo hlt
  obtain ⟨M, hM⟩ : ∃ M : Nat → Prop, M = also (L.M 4) (· = b) := ⟨_, rfl⟩
  rw [← hM] at HST
  clear hM
  -- the data lies below all that turns
  have HBY : Hid (∀ w', Below w.heap.size w w' → Bys w' a 64 zs) := fun w' hb => HP.out.bys.below (Nat.le_refl _) hb
  have HNM : Hid ((64 : Nat) = 0 ∨ ∀ b off, a = some ⟨b, off, none⟩ → ¬ M b) := by
    rcases HP.out.bys.place with h0 | ⟨g, off, e, hl, _⟩
    · exact .inl h0
    · exact .inr fun b off e' x => by rw [e] at e'; cases e'; have := HST.out.lo _ x; omega
  -- Everywhere
  have hnum : Bn.num ⟨3, 3, 12, 0, 0, 0⟩ = 4 := by decide
  have hev := ev_good (B := ⟨3, 3, 12, 0, 0, 0⟩) (k := k) (Hd.start 4 41) rfl rfl HK.out HZL.out 4 (by omega)
  have hec := st_every (n := 3) (k : Int) a 64 c zs HST.out rfl (by omega) (HBY.out _ HST.out.bel) HNM.out
  rw [hnum] at hec
  obtain ⟨R, hR⟩ : ∃ R, R = (evG ⟨3, 3, 12, 0, 0, 0⟩ (k : Int) zs (newRk 4 41) 4).2.2 := ⟨_, rfl⟩
  rw [hev.2.1, ← hR] at hec
  have HH := Lib.hid hev.2.2
  rw [← hR] at HH
  clear hR hev HST
  have HA : Hid ((alL ⟨3, 3, 12, 0, 0, 0⟩ (k : Int) R 4).length = 4) := al_good (B := ⟨3, 3, 12, 0, 0, 0⟩) HH.out.toGd rfl HK.out 4 (by rw [hnum]; exact Nat.le_refl _)
  have HAL : Hid (∀ w' (_ : St w M L b R ⟨3, 3, 12, 0, 0, 0⟩ w'), Calls Try.prog 15 #[.pointer (some ⟨b, 0, none⟩), .int .i64 k] w' fun en w'' => ∃ a c, en = .returned (.slice a 4 c) ∧ St w M L b R ⟨3, 3, 12, 0, 0, 0⟩ w'' ∧ Below w'.heap.size w' w'') := fun w' hst => by
    have h := st_all (n := 3) (k : Int) hst rfl (by omega)
    rw [hnum, HA.out] at h
    exact h
  clear hnum
  go_wp2_with (first
    | (go_at_call 14; refine hec.mono ?_; clear hec; rintro e w5 ⟨rfl, hst5, _⟩; have HAL5 := Lib.hid (HAL.out w5 hst5); clear HAL hst5)
    | (go_at_call 15; refine HAL5.out.mono ?_; clear HAL5; rintro e w6 ⟨a6, c6, rfl, hst6, _⟩; have HST := Lib.hid hst6; clear hst6))
  go_loopw [13, 14, 15] (fun v _ _ wr => ∃ j : Nat, j ≤ 4 ∧ v = .int .i64 j ∧ St w M L b R ⟨3, 3, 12, 0, 0, 0⟩ wr) (fun v _ _ _ => 4 - (intOf v).toNat)
  case atStart => exact ⟨0, by omega, rfl, HST.out⟩
  case round =>
    obtain ⟨j, hj, rfl, hst⟩ := hrel
    clear HST
    by_cases hlt : j < 4
    · have e1 := HH.out.toGd.rd hlt HK.out
      have e2 := HH.out.rd j k hlt HK.out
      have e3 : evC (fun _ _ => List.replicate 64 0) k zs 4 j k = zs := by unfold evC; rw [if_pos ⟨hlt, rfl⟩]
      have hr1 := st_rread (j : Int) (k : Int) hst
      rw [e1.1, e1.2.trans (e2.trans e3)] at hr1
      clear e1 e2 e3 hst
      go_wp2_with (fail)
      refine hr1.mono ?_
      rintro e w7 ⟨a7, c7, rfl, hp7, _, hst7, _⟩
      have hsm := same_any a7 a zs.length c7 64 c zs zs w7 hp7.bys (HBY.out _ hst7.bel) (by rw [HZL.out]; omega)
      rw [sameB_true rfl] at hsm
      have HST7 := Lib.hid hst7
      clear hr1 hp7 hst7
      go_wp2_with (go_at_call 17; refine hsm.mono ?_; clear hsm; rintro e w8 ⟨rfl, q, rfl⟩)
      go_roundw
      case rel => exact ⟨j + 1, by omega, by go_num, HST7.out.drewN q⟩
      case measure => simp [intOf]; omega
    · obtain rfl : j = 4 := by omega
      have hjn := st_join 1 (i : Int) st hst
      have ejn : Bn.join ⟨3, 3, 12, 0, 0, 0⟩ 1 (i : Int) st = ⟨3, 3, 12, 1, i, st⟩ := by
        have := HI.out
        have := HS1.out
        have := HS2.out
        unfold Bn.join memOk
        rw [if_pos (decide_eq_true (by show st = 0 ∨ ((st = 1 ∨ st = 2) ∧ 0 ≤ (i : Int) ∧ (i : Int) < 3); omega))]
      rw [ejn] at hjn
      clear ejn hst hlt hj
      go_wp2_with (fail)
      refine hjn.mono ?_
      rintro e w7 ⟨rfl, hst7, _⟩
      have HST7 := Lib.hid hst7
      clear hjn hst7
      go_wp2_with (at_make; refine wpList_mk rfl _ _ rfl .i64 .i64 64 64 64 rfl rfl rfl rfl (by omega) ?_; intro w8 hb8 hl8)
      have hst8 := HST7.out.next hl8
      have hnM : ¬ M w7.heap.size := fun x => by have := HST7.out.rk.low _ x; omega
      have hz8 : Bys w8 (some ⟨w7.heap.size, 0, none⟩) 64 (List.replicate 64 0) := hb8.bysn (AllB.zeros _) (by simp)
      obtain ⟨gz, hgz⟩ : ∃ gz, gz = w7.heap.size := ⟨_, rfl⟩
      rw [← hgz] at hnM hz8 ⊢
      have hdk : Bn.dk ⟨3, 3, 12, 1, i, st⟩ i = 3 := by
        have := HS1.out
        unfold Bn.dk Bn.disk
        rw [if_pos ⟨by show st ≠ 0; omega, rfl⟩]
        rfl
      have hbw := bw_at (B := ⟨3, 3, 12, 1, i, st⟩) (m := 3) rfl HI.out R (k : Int) (List.replicate 64 0)
      rw [hdk] at hbw
      have hH := HH.out.wr (i := 3) (k := k) (by omega) HK.out (zs := List.replicate 64 0) (by simp)
      have hE := (HH.out.toGd.wr (i := 3) (k := k) (by omega) HK.out (zs := List.replicate 64 0) (by simp)).1
      have hwr := st_bwrite (i : Int) (k : Int) (some ⟨gz, 0, none⟩) 64 64 (List.replicate 64 0) hst8 hz8 (.inr fun b' off' e => by cases e; exact hnM)
      rw [hbw.1, hbw.2, hE] at hwr
      obtain ⟨R', hR'⟩ : ∃ R', R' = R.wr (3 : Nat) (k : Int) (List.replicate 64 0) := ⟨_, rfl⟩
      rw [← hR'] at hwr hH
      have HH2 := Lib.hid hH
      have HNM2 := Lib.hid hnM
      have HZ8 := Lib.hid hz8
      have hnum : Bn.num ⟨3, 3, 12, 1, i, st⟩ = 3 := by
        have := HS1.out
        unfold Bn.num
        rw [if_neg (show ¬ st = 0 by omega)]
        rfl
      have HA : Hid ((alL ⟨3, 3, 12, 1, i, st⟩ (k : Int) R' 3).length = 3) := al_good (B := ⟨3, 3, 12, 1, i, st⟩) HH2.out.toGd rfl HK.out 3 (by rw [hnum]; exact Nat.le_refl _)
      have HAL : Hid (∀ w' (_ : St w M L b R' ⟨3, 3, 12, 1, i, st⟩ w'), Calls Try.prog 15 #[.pointer (some ⟨b, 0, none⟩), .int .i64 k] w' fun en w'' => ∃ a c, en = .returned (.slice a 3 c) ∧ St w M L b R' ⟨3, 3, 12, 1, i, st⟩ w'' ∧ Below w'.heap.size w' w'') := fun w' hst => by
        have h := st_all (n := 3) (k : Int) hst rfl (by omega)
        rw [hnum, HA.out] at h
        exact h
      clear hnum hR' hbw hdk hE hnM hz8 hst8 hb8 hl8 HST7 hgz hH HH
      go_wp2_with (first
        | (go_at_call 19; refine hwr.mono ?_; clear hwr; rintro e w9 ⟨rfl, hst9, ht9⟩; have HZ9 := Lib.hid (bys_turn2 HZ8.out ht9 (.inr fun b' off' e x => by cases e; exact HNM2.out (hst9.rk.sub _ x))); have HAL9 := Lib.hid (HAL.out w9 hst9); clear HAL hst9 ht9)
        | (go_at_call 15; refine HAL9.out.mono ?_; clear HAL9; rintro e w10 ⟨a10, c10, rfl, hst10, hb10⟩; have HZ10 := Lib.hid (HZ9.out.below (Nat.le_refl _) hb10); have HST := Lib.hid hst10; clear hst10 hb10))
      have e1 := HH2.out.toGd.rd (i := i) (k := k) (by have := HI.out; omega) HK.out
      have e2 := HH2.out.rd i k (by have := HI.out; omega) HK.out
      have e3 : setC (evC (fun _ _ => List.replicate 64 0) k zs 4) 3 k (List.replicate 64 0) i k = zs := by
        have := HI.out
        unfold setC evC
        rw [if_neg (by omega), if_pos ⟨by omega, rfl⟩]
      have e4 := HH2.out.toGd.rd (i := 3) (k := k) (by omega) HK.out
      have e5 := HH2.out.rd 3 k (by omega) HK.out
      have e6 : setC (evC (fun _ _ => List.replicate 64 0) k zs 4) 3 k (List.replicate 64 0) 3 k = List.replicate 64 0 := by unfold setC; rw [if_pos ⟨rfl, rfl⟩]
      have hr1 := st_rread (i : Int) (k : Int) HST.out
      rw [e1.1, e1.2.trans (e2.trans e3)] at hr1
      have HR1 : Hid (R'.rdE 3 (k : Int) = 0) := e4.1
      have HR2 : Hid (R'.rdV 3 (k : Int) = List.replicate 64 0) := e4.2.trans (e5.trans e6)
      clear e1 e2 e3 e4 e5 e6 HST HA
      go_wp2_with (fail)
      refine hr1.mono ?_
      rintro e w11 ⟨a11, c11, rfl, hp11, _, hst11, hb11⟩
      have HZ11 := Lib.hid (HZ10.out.below (Nat.le_refl _) hb11)
      have HP11 := Lib.hid hp11
      have hr2 := st_rread 3 (k : Int) hst11
      rw [HR1.out, HR2.out] at hr2
      clear hr1 hst11 hp11 hb11
      go_wp2_with (fail)
      refine hr2.mono ?_
      rintro e w12 ⟨a12, c12, rfl, hp12, _, hst12, hb12⟩
      have HZ12 := Lib.hid (HZ11.out.below (Nat.le_refl _) hb12)
      have HP11' := Lib.hid (HP11.out.next hb12)
      have hsm1 := same_any a11 a zs.length c11 64 c zs zs w12 HP11'.out.bys (HBY.out _ hst12.bel) (by rw [HZL.out]; omega)
      rw [sameB_true rfl] at hsm1
      have HSM2 : Hid (∀ q, Calls Try.prog 17 #[.slice a12 (List.replicate 64 (0 : Int)).length c12, .slice (some ⟨gz, 0, none⟩) 64 64] (w12.drewN q) fun e w' => e = .returned (.bool true) ∧ ∃ m, w' = (w12.drewN q).drewN m) := fun q => by
        have h := same_any a12 (some ⟨gz, 0, none⟩) (List.replicate 64 (0 : Int)).length c12 64 64 _ _ (w12.drewN q) (hp12.drewN q).bys (HZ12.out.drewN q) (by simp)
        rwa [sameB_true rfl] at h
      have hbl := bad_good (B := ⟨3, 3, 12, 1, i, st⟩) HH2.out.toGd (by show (0 : Int) ≤ (i : Int); omega) 3
      have HBAD : Hid (∀ w' (_ : St w M L b R' ⟨3, 3, 12, 1, i, st⟩ w'), Calls Try.prog 20 #[.pointer (some ⟨b, 0, none⟩)] w' fun en w'' => ∃ a c, en = .returned (.slice a (badL ⟨3, 3, 12, 1, i, st⟩ R' 3).length c) ∧ Below w.heap.size w w'') := fun w' hst => (st_bad (n := 3) hst rfl (by omega)).mono fun en w'' h => by
        obtain ⟨a, c, e, _, _, hs, _⟩ := h
        exact ⟨a, c, e, hs.bel⟩
      have HST := Lib.hid hst12
      have HI3 : Hid ((i : Int) < 3) := by have := HI.out; unfold Hid; omega
      clear hr2 hst12 hp12 HR1 HR2 hb12
      rw [List.length_replicate] at *
      rcases (by have := HS1.out; have := HS2.out; omega : st = 1 ∨ st = 2) with rfl | rfl
      · have hbl' : (badL ⟨3, 3, 12, 1, i, 1⟩ R' 3).length = 1 := by rw [hbl, if_pos ⟨rfl, HI3.out⟩]
        rw [hbl'] at HBAD
        clear hbl hbl'
        go_wp2_with (first
          | (go_at_call 17; refine hsm1.mono ?_; clear hsm1; rintro e w13 ⟨rfl, q, rfl⟩; have HSM3 := Lib.hid (HSM2.out q); clear HSM2)
          | (go_at_call 17; refine HSM3.out.mono ?_; clear HSM3; rintro e w14 ⟨rfl, q2, rfl⟩)
          | (go_at_call 20; refine (HBAD.out _ (by first | exact HST.out.drewN _ | exact (HST.out.drewN _).drewN _)).mono ?_; rintro e w15 ⟨a15, c15, rfl, hb15⟩; have HB15 := Lib.hid hb15; clear hb15))
        go_ret
        exact ⟨rfl, HB15.out⟩
      · have hbl' : (badL ⟨3, 3, 12, 1, i, 2⟩ R' 3).length = 0 := by rw [hbl, if_neg (fun x => by have h : (2 : Int) = 1 := x.1; omega)]
        rw [hbl'] at HBAD
        clear hbl hbl'
        go_wp2_with (first
          | (go_at_call 17; refine hsm1.mono ?_; clear hsm1; rintro e w13 ⟨rfl, q, rfl⟩; have HSM3 := Lib.hid (HSM2.out q); clear HSM2)
          | (go_at_call 17; refine HSM3.out.mono ?_; clear HSM3; rintro e w14 ⟨rfl, q2, rfl⟩)
          | (go_at_call 20; refine (HBAD.out _ (by first | exact HST.out.drewN _ | exact (HST.out.drewN _).drewN _)).mono ?_; rintro e w15 ⟨a15, c15, rfl, hb15⟩; have HB15 := Lib.hid hb15; clear hb15))
        go_ret
        exact ⟨rfl, HB15.out⟩

theorem spare_all (W : World) (slot sector : Int) (a : Option Addr) (n c : Nat) (zs : List Int) (st : Int) (hp : Pin W a n c zs) :
    Calls Try.prog 4 #[.int .i64 slot, .int .i64 sector, .slice a n c, .int .i64 st] W fun e w' => e = .returned (.bool true) ∧ Below W.heap.size W w' := by
  by_cases h : (n : Int) = 64 ∧ 0 ≤ slot ∧ slot ≤ 2 ∧ 0 ≤ sector ∧ sector < 41 ∧ 1 ≤ st ∧ st ≤ 2
  · obtain ⟨h0, h1, h2, h3, h4, h5, h6⟩ := h
    obtain rfl : n = 64 := by omega
    obtain ⟨i, rfl⟩ := Int.eq_ofNat_of_zero_le h1
    obtain ⟨k, rfl⟩ := Int.eq_ofNat_of_zero_le h3
    exact spare_in i k st a c zs W hp (by omega) (by omega) h5 h6
  · exact spare_out slot sector st a n c W h

end Go.Proofs.Ytoiidhpohghiaaa
