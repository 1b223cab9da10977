/-
  The reference's Parity, by contract.
-/
import Derived.Test.YtegllnjncpaipaaPar
import Derived.Test.YtegllnjncpaipaaDec
namespace Go.Proofs.Ytegllnjncpaipaa
open Go.RowKit

/-- The exclusive or of what is told of the first k, begun with noughts. -/
def sumR (f : Nat → Pc) : Nat → List Int
  | 0 => List.replicate 60 0
  | k + 1 => xorL (sumR f k) ((f k).zs.drop 4)
theorem xorL_nought {x : List Int} (h : x.length = 60) (hs : AllB x) : xorL (List.replicate 60 0) x = x := by
  refine byt_ext (by rw [xorL_len, h]; simp) fun i hi => ?_
  rw [xorL_len] at hi
  rw [byt_xorL hi, byt_zero, xr_comm, xr_zero (byt_bd hs i).1]
theorem xorL_nil {x : List Int} (hs : AllB x) : xorL [] x = x := by
  refine byt_ext (by rw [xorL_len]; simp) fun i hi => ?_
  rw [xorL_len] at hi
  rw [byt_xorL hi, byt_past (Nat.zero_le _), xr_comm, xr_zero (byt_bd hs i).1]
theorem sumR_len {f : Nat → Pc} {k n : Nat} (h : k ≤ n) (ho : oneUpto f n = true) : (sumR f k).length = 60 := by
  induction k with
  | zero => rfl
  | succ k ih =>
    rw [sumR, xorL_len, List.length_drop, (oneUpto_at (k := k) h ho).1, ih (by omega)]
    rfl
theorem sumR_sumP {f : Nat → Pc} {k n : Nat} (hf : ∀ i, i < n → AllB (f i).zs) (h : k + 1 ≤ n) (ho : oneUpto f n = true) : sumR f (k + 1) = sumP f (k + 1) := by
  induction k with
  | zero =>
    have h1 := (oneUpto_at (k := 0) h ho).1
    rw [sumR, sumP, sumR, sumP, xorL_nought (by rw [List.length_drop, h1]) ((hf 0 h).drop 4), xorL_nil ((hf 0 h).drop 4)]
  | succ k ih => rw [sumR, sumP, ih (by omega)]
theorem sumR_small {f : Nat → Pc} {k n : Nat} (hf : ∀ i, i < n → AllB (f i).zs) (h : k ≤ n) : AllB (sumR f k) := by
  induction k with
  | zero => exact AllB.zeros _
  | succ k ih => exact xorL_small (ih (by omega)) ((hf k h).drop 4)
theorem Rws.small {w : World} {a : Option Addr} {n : Nat} {f : Nat → Pc} (h : Rws w a n f) : ∀ i, i < n → AllB (f i).zs := fun i hi => (h.each i hi).bys.small

/-- What stands behind k sectors. -/
def outR (f : Nat → Pc) (k : Nat) : List Int := (f 0).zs.take 4 ++ sumR f k
theorem byt_out {x y : List Int} (h : x.length = 4) (j : Nat) : byt (x ++ y) j = if j < 4 then byt x j else byt y (j - 4) := by
  by_cases hj : j < 4
  · rw [if_pos hj, byt_app_left (by omega)]
  · rw [if_neg hj]
    obtain ⟨m, rfl⟩ : ∃ m, j = x.length + m := ⟨j - 4, by omega⟩
    rw [byt_app_right, h, Nat.add_sub_cancel_left]

theorem outR_small {f : Nat → Pc} {k n : Nat} (hf : ∀ i, i < n → AllB (f i).zs) (h0 : 0 < n) (h : k ≤ n) : AllB (outR f k) := ((hf 0 h0).take 4).app (sumR_small hf h)
theorem outR_len {f : Nat → Pc} {k : Nat} (h64 : (f 0).zs.length = 64) (ho : oneUpto f k = true) : (outR f k).length = 64 := by
  rw [outR, List.length_append, sumR_len (Nat.le_refl _) ho, List.length_take, h64]; rfl

/-- The outer loop's relation. -/
def RefRel (f : Nat → Pc) (w0 : World) (n : Nat) (v : Value) (w : World) : Prop :=
  ∃ k : Nat, k ≤ n ∧ v = .int .i64 k ∧ oneUpto f k = true ∧ Blk w w0.heap.size (outR f k) ∧ Below w0.heap.size w0 w
/-- The inner loop's. -/
def RefRel2 (f : Nat → Pc) (k : Nat) (w0 : World) (v : Value) (w : World) : Prop :=
  ∃ (j : Nat) (zs : List Int), 4 ≤ j ∧ j ≤ 64 ∧ v = .int .i64 j ∧ Blk w w0.heap.size zs ∧ Mix zs (outR f k) (outR f (k + 1)) j ∧ Below w0.heap.size w0 w

set_option maxHeartbeats 4000000 in
theorem refPar_some (a : Option Addr) (n c : Nat) (f : Nat → Pc) (w : World) (h : Rws w a n f) (hn : n ≤ 9223372036854775807) (hn0 : 0 < n) (h64 : (f 0).zs.length = 64) :
    Calls Try.prog 19 #[.slice a n c] w (RetT w (parL f n) (oneSeq f n)) := by
  obtain ⟨b, off, x, m, d, zs, rfl, hbl, hc, hp, hz, hm⟩ := h.at hn0
  rw [Nat.add_zero] at hc
  have hsm := h.small
  have h64' := h64
  rw [hz, hp.len] at h64'
  subst h64'
  obtain ⟨b2, o2, rfl, hb2, hc2⟩ := hp.at (by omega)
  have hcap := hp.cap
  have hmax := hp.max
  have hq := hp.front (k := 4) (by omega) (fun h => by cases h)
  have HZ := Lib.hid hz
  have HSM := Lib.hid hsm
  have H64 := Lib.hid h64
  have hzl := hp.len
  have HZL := Lib.hid hzl
  clear hz hm hp hsm h64 hc2 hzl
  go_enter Try.func19, Try.ntmps19
  go_wp2_with (first
    | (at_make; go_must (refine wpList_mk rfl _ _ rfl _ _ _ _ 64 rfl rfl rfl rfl (by omega) ?_); intro w1 hb1 hl1; have hc1 := (hl1.cell (p := ⟨b, off, none⟩) hbl).trans hc)
    | (with_reducible refine wpList_cp rfl (.tmp 18) (.tmp 22) rfl w.heap.size 64 64 4 d (some ⟨b2, o2, none⟩) rfl rfl _ (zs.take 4) hb1 (hq.bys.below (Nat.le_refl _) hl1) (by simp) (by omega) w.heap.size w hl1 (Nat.le_refl _) ?_; intro w2 hb2 hl2))
  have hbk : Blk w2 w.heap.size (outR f 0) := by
    have : zs.take 4 ++ (List.replicate 64 0).drop 4 = outR f 0 := by rw [outR, HZ.out]; rfl
    rw [← this]; exact hb2
  clear hb1 hl1 hc1 hb2 hc hq
  go_wp2_with (fail)
  go_loopw [5, 6] (fun v _k wr => RefRel f w n v wr) (fun v _ _ => n - (intOf v).toNat)
  case atStart => exact ⟨0, by omega, rfl, rfl, hbk, hl2⟩
  case round =>
    obtain ⟨k, hk, rfl, hone, hbk', hb⟩ := hrel
    clear hbk hl2
    have hr := h.next hb
    have HO := Lib.hid hone
    clear hone
    by_cases hlt : k < n
    · obtain ⟨b', off', x, m, d', zs', e0, hbl', hcw, hpw, hz, hm⟩ := h.at hlt
      cases e0
      have hp := hpw.next hb
      have hc' := (hb.cell (p := ⟨b, off + k, none⟩) hbl').trans hcw
      have hp64 := hp.max
      have hpc := hp.cap
      have hk0 : (0 : Int) ≤ (k : Int) := by omega
      have hk1 : (k : Int) < (n : Int) := by omega
      by_cases hm64 : m = 64
      · subst hm64
        obtain ⟨b3, o3, rfl, hb3, hc3⟩ := hpw.at (by omega)
        have hstep : Hid (oneUpto f (k + 1) = sameB (zs'.take 4) ((outR f k).take 4)) := by
          show _ = _
          rw [oneUpto, HO.out, hz, hp.len, HZ.out, outR, HZ.out, List.take_left' (by rw [List.length_take, HZL.out]; rfl)]
          simp [is64]
        have hxf := Lib.hid (hp.front (k := 4) (by omega) (fun h => by cases h)).bys
        have hof := Lib.hid (hbk'.bys (outR_small HSM.out hn0 hk) (n := 4) (by rw [outR_len H64.out HO.out]; omega))
        have HBK := Lib.hid hbk'
        have HP := Lib.hid hp
        have HZ' := Lib.hid hz
        have HN3 := Lib.hid hb3
        have HC3 := Lib.hid hc3
        have HCW := Lib.hid hcw
        clear hbk' hp hpw hz hr hm hc3 hb3 hcw
        cases hsb : sameB (zs'.take 4) ((outR f k).take 4)
        · have HE : Hid (∀ q, Calls Try.prog 14 #[.slice (some ⟨b3, o3, none⟩) 4 d', .slice (some ⟨w.heap.size, 0, none⟩) 4 64] (wr.drewN q) fun e w' => e = .returned (.bool false) ∧ ∃ m, w' = (wr.drewN q).drewN m) := by
            show ∀ q, _
            intro q
            have := same_any (some ⟨b3, o3, none⟩) (some ⟨w.heap.size, 0, none⟩) 4 d' 4 64 _ _ (wr.drewN q) (hxf.out.drewN q) (hof.out.drewN q) (by omega)
            rwa [hsb] at this
          have hstp : Hid (oneUpto f (k + 1) = false) := by show _ = _; rw [hstep.out, hsb]
          clear hsb
          go_wp2_with (fail)
          go_quiet ((go_at_call 14; exact Calls.quiet_of (HE.out _)))
          go_wp2_with (fail)
          go_ret2
          rw [oneSeq_no hlt hstp.out, parL, oneSeq_no hlt hstp.out]
          exact ⟨_, _, _, rfl, Pin.zero _, by first | exact below_drewN hb _ | exact hb⟩
        · have HE : Hid (∀ q, Calls Try.prog 14 #[.slice (some ⟨b3, o3, none⟩) 4 d', .slice (some ⟨w.heap.size, 0, none⟩) 4 64] (wr.drewN q) fun e w' => e = .returned (.bool true) ∧ ∃ m, w' = (wr.drewN q).drewN m) := by
            show ∀ q, _
            intro q
            have := same_any (some ⟨b3, o3, none⟩) (some ⟨w.heap.size, 0, none⟩) 4 d' 4 64 _ _ (wr.drewN q) (hxf.out.drewN q) (hof.out.drewN q) (by omega)
            rwa [hsb] at this
          have hstp : Hid (oneUpto f (k + 1) = true) := by show _ = _; rw [hstep.out, hsb]
          clear hsb
          go_wp2_with (fail)
          go_quiet ((go_at_call 14; exact Calls.quiet_of (HE.out _)))
          go_wp2_with (fail)
          have hl4 : Below w.heap.size w (wr.drewN nq) := below_drewN hb nq
          have hk4 : Blk (wr.drewN nq) w.heap.size (outR f k) := HBK.out.drewN nq
          have hsm' := (Rws.small h)
          have HT := Lib.hid (show ∀ j, 4 ≤ j → j < 64 → bits .xor .u8 (byt (outR f k) j) (byt zs' j) = byt (outR f (k + 1)) j from fun j h4 h64 => by
            have h4l : ((f 0).zs.take 4).length = 4 := by rw [List.length_take, H64.out]; rfl
            have hl1 := sumR_len (Nat.le_refl _) HO.out
            have hb1 := byt_bd (outR_small HSM.out hn0 hk) j
            have hb2 := byt_bd HP.out.bys.small j
            rw [u8_xr hb1 hb2, outR, outR, byt_out h4l, byt_out h4l, if_neg (by omega), if_neg (by omega), sumR, byt_xorL (by rw [hl1]; omega), byt_drop, HZ'.out, show 4 + (j - 4) = j by omega])
          have HF := Lib.hid (show ∀ j, j < 4 → byt (outR f k) j = byt (outR f (k + 1)) j from fun j h4 => by
            have h4l : ((f 0).zs.take 4).length = 4 := by rw [List.length_take, H64.out]; rfl
            rw [outR, outR, byt_out h4l, byt_out h4l, if_pos h4, if_pos h4])
          have HL0 := Lib.hid (outR_len H64.out HO.out)
          have HL1 := Lib.hid (outR_len H64.out hstp.out)
          clear hc' hb hsm'
          obtain ⟨w4, hw4⟩ : ∃ w4, w4 = wr.drewN nq := ⟨_, rfl⟩
          rw [← hw4] at hl4 hk4 ⊢
          clear hw4 hstep hof hxf HBK HE
          obtain ⟨wo, rfl⟩ : ∃ wo, wo = wr := ⟨_, rfl⟩
          go_loopw [6] (fun v wr => RefRel2 f k w v wr) (fun v _ => 64 - (intOf v).toNat)
          case atStart => exact ⟨4, _, by omega, by omega, rfl, hk4, ⟨by rw [HL0.out, HL1.out], HF.out, fun _ _ => rfl⟩, hl4⟩
          case round =>
            obtain ⟨j, zo, h4j, hj, rfl, hbo, hmix, hlo⟩ := hrel
            clear hk4 hl4
            by_cases hj64 : j < 64
            · have g0 : wr.cell? ⟨w.heap.size, j, none⟩ = some (.int .u8 (byt zo j)) := hbo.cell (by rw [hmix.len, HL1.out]; exact hj64)
              have g1 : wr.cell? ⟨b, off + k, none⟩ = some (.slice (some ⟨b3, o3, none⟩) 64 d') := (hlo.cell (p := ⟨b, off + k, none⟩) hbl').trans HCW.out
              have g2 : wr.cell? ⟨b3, o3 + j, none⟩ = some (.int .u8 (byt zs' j)) := (hlo.cell (p := ⟨b3, o3 + j, none⟩) HN3.out).trans (HC3.out j hj64)
              have g3 : wr.frozen? ⟨w.heap.size, j, none⟩ = false := hbo.free j
              have hj0 : (0 : Int) ≤ (j : Int) := by omega
              have hj1 : (j : Int) < 64 := by omega
              have d0 : wr.drew.cell? ⟨w.heap.size, j, none⟩ = some (.int .u8 (byt zo j)) := g0
              have d3 : wr.drew.frozen? ⟨w.heap.size, j, none⟩ = false := g3
              go_wp2_with (fail)
              refine wp_region_held_drew (S := (fun w' => w'.cell? ⟨b, off + k, none⟩ = some (.slice (some ⟨b3, o3, none⟩) 64 d') ∧ w'.cell? ⟨b3, o3 + j, none⟩ = some (.int .u8 (byt zs' j)))) (by kernel_rfl) ?_ (fun hHeld => ?_)
              · exact ⟨g1, g2⟩
              refine wpAnyH_take (i := 0) (v := ?_) rfl (by kernel_rfl) (by kernel_rfl) (by kernel_rfl) (fun _ _ _ h => h) (Or.inl ⟨by rfl, fun w hSw => ?_⟩) (by assumption) ?_
              rotate_left
              · (try dsimp only at hSw); go_simp; try with_reducible rfl
              simp only [Act.put, List.setIfInBounds_toArray, List.set_cons_zero, List.set_cons_succ, List.getElem_toArray, List.getElem_cons_zero]
              refine wpAnyH_take (i := 1) (v := ?_) rfl (by kernel_rfl) (by kernel_rfl) (by kernel_rfl) (fun _ _ _ h => h) (Or.inl ⟨by rfl, fun w hSw => ?_⟩) (by assumption) ?_
              rotate_left
              · (try dsimp only at hSw); go_simp; try with_reducible rfl
              simp only [Act.put, List.setIfInBounds_toArray, List.set_cons_zero, List.set_cons_succ, List.getElem_toArray, List.getElem_cons_succ, List.getElem_cons_zero]
              refine wpAnyH_take (i := 2) (v := ?_) rfl (by kernel_rfl) (by kernel_rfl) (by kernel_rfl) (fun _ _ _ h => h) (Or.inl ⟨by rfl, fun w hSw => ?_⟩) (by assumption) ?_
              rotate_left
              · (try dsimp only at hSw); go_simp; try with_reducible rfl
              simp only [Act.put, List.setIfInBounds_toArray, List.set_cons_zero, List.set_cons_succ, List.getElem_toArray, List.getElem_cons_succ, List.getElem_cons_zero]
              refine wpAnyH_take (i := 4) (v := ?_) rfl (by kernel_rfl) (by kernel_rfl) (by kernel_rfl) (fun _ _ _ h => h) (Or.inl ⟨by rfl, fun w hSw => ?_⟩) (by assumption) ?_
              rotate_left
              · (try dsimp only at hSw); go_simp; try with_reducible rfl
              simp only [Act.put, List.setIfInBounds_toArray, List.set_cons_zero, List.set_cons_succ, List.getElem_toArray, List.getElem_cons_succ, List.getElem_cons_zero]
              refine wpAnyH_take (i := 5) (v := ?_) rfl (by kernel_rfl) (by kernel_rfl) (by kernel_rfl) (fun _ _ _ h => h) (Or.inl ⟨by rfl, fun w hSw => ?_⟩) (by assumption) ?_
              rotate_left
              · (try dsimp only at hSw); go_simp; try with_reducible rfl
              simp only [Act.put, List.setIfInBounds_toArray, List.set_cons_zero, List.set_cons_succ, List.getElem_toArray, List.getElem_cons_succ, List.getElem_cons_zero]
              refine wpAnyH_take (i := 6) (v := ?_) rfl (by kernel_rfl) (by kernel_rfl) (by kernel_rfl) (fun _ _ _ h => h) (Or.inl ⟨by rfl, fun w hSw => ?_⟩) (by assumption) ?_
              rotate_left
              · (try dsimp only at hSw); go_simp; try with_reducible rfl
              simp only [Act.put, List.setIfInBounds_toArray, List.set_cons_zero, List.set_cons_succ, List.getElem_toArray, List.getElem_cons_succ, List.getElem_cons_zero]
              refine wpAnyH_take (i := 7) (v := ?_) rfl (by kernel_rfl) (by kernel_rfl) (by kernel_rfl) (fun _ _ _ h => h) (Or.inl ⟨by rfl, fun w hSw => ?_⟩) (by assumption) ?_
              rotate_left
              · (try dsimp only at hSw); go_simp; try with_reducible rfl
              simp only [Act.put, List.setIfInBounds_toArray, List.set_cons_zero, List.set_cons_succ, List.getElem_toArray, List.getElem_cons_succ, List.getElem_cons_zero]
              refine wpAnyH_take (i := 8) (v := ?_) rfl (by kernel_rfl) (by kernel_rfl) (by kernel_rfl) (fun _ _ _ h => h) (Or.inl ⟨by rfl, fun w hSw => ?_⟩) (by assumption) ?_
              rotate_left
              · (try dsimp only at hSw); go_simp; try with_reducible rfl
              simp only [Act.put, List.setIfInBounds_toArray, List.set_cons_zero, List.set_cons_succ, List.getElem_toArray, List.getElem_cons_succ, List.getElem_cons_zero]
              refine wpAnyH_take (i := 9) (v := ?_) rfl (by kernel_rfl) (by kernel_rfl) (by kernel_rfl) (fun _ _ _ h => h) (Or.inl ⟨by rfl, fun w hSw => ?_⟩) (by assumption) ?_
              rotate_left
              · (try dsimp only at hSw); go_simp; try with_reducible rfl
              simp only [Act.put, List.setIfInBounds_toArray, List.set_cons_zero, List.set_cons_succ, List.getElem_toArray, List.getElem_cons_succ, List.getElem_cons_zero]
              refine wpAnyH_take (i := 10) (v := ?_) rfl (by kernel_rfl) (by kernel_rfl) (by kernel_rfl) (fun _ _ _ h => h) (Or.inl ⟨by rfl, fun w hSw => ?_⟩) (by assumption) ?_
              rotate_left
              · (try dsimp only at hSw); go_simp; try with_reducible rfl
              simp only [Act.put, List.setIfInBounds_toArray, List.set_cons_zero, List.set_cons_succ, List.getElem_toArray, List.getElem_cons_succ, List.getElem_cons_zero]
              refine wpAnyH_ready (rs := [3]) (by kernel_rfl) (by simp) ?_
              refine AllReadyH.cons rfl (fun K hK => ?_) AllReadyH.nil
              simp only [List.getElem_toArray, List.getElem_cons_succ, List.getElem_cons_zero]
              go_simp
              refine hK.out _ _ ⟨g1, g2⟩ (fun hHeld => ?_)
              clear hK K
              refine wpAnyH_take (i := 11) (v := ?_) rfl (by kernel_rfl) (by kernel_rfl) (by kernel_rfl) (fun _ _ _ h => h) (Or.inl ⟨by rfl, fun w hSw => ?_⟩) (by assumption) ?_
              rotate_left
              · (try dsimp only at hSw); go_simp; try with_reducible rfl
              simp only [Act.put, List.setIfInBounds_toArray, List.set_cons_zero, List.set_cons_succ, List.getElem_toArray, List.getElem_cons_succ, List.getElem_cons_zero]
              refine wpAnyH_take (i := 12) (v := ?_) rfl (by kernel_rfl) (by kernel_rfl) (by kernel_rfl) (fun _ _ _ h => h) (Or.inl ⟨by rfl, fun w hSw => ?_⟩) (by assumption) ?_
              rotate_left
              · (try dsimp only at hSw); go_simp; try with_reducible rfl
              simp only [Act.put, List.setIfInBounds_toArray, List.set_cons_zero, List.set_cons_succ, List.getElem_toArray, List.getElem_cons_succ, List.getElem_cons_zero]
              refine wpAnyH_ready (rs := [13]) (by kernel_rfl) (by simp) ?_
              refine AllReadyH.cons rfl (fun K hK => ?_) AllReadyH.nil
              simp only [List.getElem_toArray, List.getElem_cons_succ, List.getElem_cons_zero]
              go_simp
              have hnew : Below w.heap.size w (wr.drew.setCell ⟨w.heap.size, j, none⟩ (.int .u8 (bits .xor .u8 (byt zo j) (byt zs' j)))) := (below_drewN hlo 1).setCell (Nat.le_refl _) _
              have k1 := (hnew.cell (p := ⟨b, off + k, none⟩) hbl').trans HCW.out
              have k2 := (hnew.cell (p := ⟨b3, o3 + j, none⟩) HN3.out).trans (HC3.out j hj64)
              refine hK.out _ _ ⟨k1, k2⟩ (fun hHeld => ?_)
              clear hK K
              refine wpAnyH_done (by kernel_rfl) ?_ _
              clear k1 k2
              go_wp2_with (fail)
              go_roundw
              case rel => exact ⟨j + 1, _, by omega, by omega, by go_num, (hbo.drewN 1).set j _, hmix.set (by rw [HL1.out]; exact hj64) (by rw [hmix.old j (Nat.le_refl _)]; exact HT.out j h4j hj64), hnew⟩
              case measure => simp [intOf]; omega
            · obtain rfl : j = 64 := by omega
              have hz := hmix.done (fun j h h' => by rw [HL1.out] at h'; omega)
              rw [hz] at hbo
              clear hz
              go_wp2_with (fail)
              go_roundw
              case rel => exact ⟨k + 1, by omega, by go_num, hstp.out, hbo, hlo⟩
              case measure => simp [intOf]; omega
      · have hno : Hid (oneUpto f (k + 1) = false) := by
          show _ = _
          rw [oneUpto, hz, hp.len]
          simp [is64, hm64]
        have hb3 := hb
        have hm' : ((m : Int) != 64) = true := by simp; omega
        clear hbk' hz hp hpw hcw hr hm
        go_wp2_with (fail)
        go_quiet (fail)
        go_wp2_with (fail)
        go_ret2
        rw [oneSeq_no hlt hno.out, parL, oneSeq_no hlt hno.out]
        exact ⟨_, _, _, rfl, Pin.zero _, by first | exact below_drewN hb _ | exact hb⟩
    · obtain rfl : k = n := by omega
      have hP : Hid (oneSeq f k = true ∧ parL f k = outR f k) := by
        show _ ∧ _
        have h1 : oneSeq f k = true := by simp [oneSeq, hn0, HO.out]
        refine ⟨h1, ?_⟩
        obtain ⟨j, rfl⟩ : ∃ j, k = j + 1 := ⟨k - 1, by omega⟩
        rw [parL, h1, outR, sumR_sumP HSM.out (Nat.le_refl _) HO.out]
        rfl
      have hln : (outR f k).length = 64 := by rw [outR, List.length_append, sumR_len (Nat.le_refl _) HO.out, List.length_take, H64.out]; rfl
      have hpin := hbk'.pin (c := 64) (outR_small HSM.out hn0 (Nat.le_refl _)) hln (Nat.le_refl _) (by omega)
      clear hbk' hr hln
      go_wp2_with (fail)
      go_ret2
      rw [hP.out.1, hP.out.2]
      exact ⟨_, _, _, rfl, hpin, hb⟩

end Go.Proofs.Ytegllnjncpaipaa
