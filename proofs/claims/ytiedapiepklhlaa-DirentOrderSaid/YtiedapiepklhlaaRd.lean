/-
  The document's Decode, by contract.
-/
import Derived.Test.YtiedapiepklhlaaDc
namespace Go.Proofs.Ytiedapiepklhlaa
open Go.RowKit
set_option linter.unusedVariables false
set_option linter.unusedSimpArgs false

/-- Where the document's Decode stands at the head of its loop. -/
structure RdS (w : World) (z0 : List Int) (p : Nat) (v : Value) (L : List En) (wr : World) : Prop where
  dcd : Dcd z0 L (z0.drop p)
  own : OwnE wr w.heap.size v L.length L
  bel : Below w.heap.size w wr
  le : L.length ≤ 65
  pos : p ≤ z0.length
set_option maxHeartbeats 4000000 in
theorem rdecode_any (a : Option Addr) (n c : Nat) (z0 : List Int) (w : World) (h : Pin w a n c z0) (hn : n ≤ 1000000) :
    Calls Try.prog 15 #[.slice a n c] w (DecPost w (decO z0)) := by
  have hlen := h.len
  have hcap := h.cap
  have hmax := h.max
  have HH := Lib.hid h
  have HS := Lib.hid (show RdS w z0 0 (.slice (some ⟨w.heap.size, 0, none⟩) 0 0) [] (w.alloc (.cells #[] 36)) from ⟨Dcd.start _, ownE_none w _ (Nat.le_refl _), (Below.refl _ _).alloc (Nat.le_refl _) _, by simp, by omega⟩)
  clear h
  go_enter Try.func15, Try.ntmps15
  go_wp2_with (fail)
  go_loopw [4, 5, 6] (fun v4 v5 _ wr => ∃ (p : Nat) (L : List En), v5 = .int .i64 p ∧ RdS w z0 p v4 L wr) (fun _ v5 _ _ => n - (RowKit.intOf v5).toNat)
  case atStart => exact ⟨0, [], rfl, HS.out⟩
  case round =>
    obtain ⟨p, L, rfl, hS⟩ := hrel
    have HT := Lib.hid hS
    have hle := hS.le
    have hat := hS.pos
    rw [hlen] at hat
    obtain ⟨va, vc, rfl, hE, _⟩ := hS.own.ens
    have hws := hS.bel.size
    by_cases h0 : p = n
    · subst h0
      have hdr : z0.drop p = [] := List.drop_of_length_le (by omega)
      have hdcd := hS.dcd
      rw [hdr] at hdcd
      have hdone := hdcd.done
      have har := rRight_any va L.length vc L wr hE (by omega)
      have HD := Lib.hid hdone
      have k1 : ¬ (p : Int) < (p : Int) := by omega
      clear hS hE hdone hdcd hdr
      cases hr : rgt L with
      | false =>
        rw [hr] at har
        have hd := Lib.hid (show decO z0 = none by rw [HD.out, hr]; rfl)
        clear hr
        go_wp2_with (fail)
        refine har.mono ?_
        rintro e w2 ⟨rfl, hb2⟩
        have HB2 := Lib.hid (HT.out.bel.trans (hb2.mono hws))
        clear hb2 har
        go_wp2_with (fail)
        go_ret2
        exact ⟨_, by rw [hd.out]; rfl, by rw [hd.out]; exact ownE_nil _ _, HB2.out⟩
      | true =>
        rw [hr] at har
        have hd := Lib.hid (show decO z0 = some L by rw [HD.out, hr]; rfl)
        clear hr
        go_wp2_with (fail)
        refine har.mono ?_
        rintro e w2 ⟨rfl, hb2⟩
        have HB2 := Lib.hid (HT.out.bel.trans (hb2.mono hws))
        have HO2 := Lib.hid (HT.out.own.next hb2)
        clear hb2 har
        go_wp2_with (fail)
        go_ret2
        exact ⟨_, by rw [hd.out]; rfl, by rw [hd.out]; exact HO2.out, HB2.out⟩
    · have hpn : (p : Int) < (n : Int) := by omega
      have hz0 : (z0.drop p).length ≠ 0 := by rw [List.length_drop]; omega
      have wsub : IntKind.i64.wrap ((n : Int) - (p : Int)) = (n : Int) - (p : Int) := IntWalk.i64_in _ (by omega)
      have wsub3 : IntKind.i64.wrap ((n : Int) - (p : Int) - 3) = (n : Int) - (p : Int) - 3 := IntWalk.i64_in _ (by omega)
      have wp2 : IntKind.i64.wrap ((p : Int) + 2) = (p : Int) + 2 := IntWalk.i64_in _ (by omega)
      by_cases h3 : (n : Int) - (p : Int) < 3
      · have hd := Lib.hid (hS.dcd.bad hz0 (by unfold fOk; rw [List.length_drop, decide_eq_false (by omega)]; rfl))
        clear hS hE
        go_wp2_with (fail)
        go_ret2
        exact ⟨_, by rw [hd.out]; rfl, by rw [hd.out]; exact ownE_nil _ _, HT.out.bel⟩
      have hpin := HH.out.next hS.bel
      obtain ⟨b, off, rfl, hbl, hcell⟩ := HH.out.at (by omega)
      have hby := byt_bd HH.out.bys.small (p + 2)
      obtain ⟨ln, hln⟩ := Int.eq_ofNat_of_zero_le hby.1
      have hfl : fLen (z0.drop p) = ln := by unfold fLen; rw [byt_drop, hln]; rfl
      have c2 := (hS.bel.cell (p := ⟨b, off + (p + 2), none⟩) hbl).trans (hcell (p + 2) (by omega))
      rw [hln] at c2 hby
      have cw : IntKind.i64.wrap (ln : Int) = (ln : Int) := IntWalk.i64_in _ (by omega)
      have t2 : ((p : Int) + 2).toNat = p + 2 := by omega
      have i2 : (0 : Int) ≤ (p : Int) + 2 := by omega
      have i2b : (p : Int) + 2 < (n : Int) := by omega
      have d3 : decide ((n : Int) - (p : Int) < 3) = false := decide_eq_false h3
      by_cases h4 : (n : Int) - (p : Int) - 3 < (ln : Int)
      · have hd := Lib.hid (hS.dcd.bad hz0 (by unfold fOk; rw [hfl, List.length_drop, decide_eq_false (by omega : ¬ ln ≤ z0.length - p - 3), Bool.and_false]))
        clear hS hE hpin hcell hln hfl hbl
        go_wp2_with (fail)
        go_ret2
        exact ⟨_, by rw [hd.out]; rfl, by rw [hd.out]; exact ownE_nil _ _, HT.out.bel⟩
      have d4 : decide ((n : Int) - (p : Int) - 3 < (ln : Int)) = false := decide_eq_false h4
      have hk : fOk (z0.drop p) = true := by unfold fOk; rw [hfl, List.length_drop, decide_eq_true (by omega : 3 ≤ z0.length - p), decide_eq_true (by omega : ln ≤ z0.length - p - 3)]; rfl
      by_cases h5 : 64 < L.length
      · have hd := Lib.hid (hS.dcd.long h5)
        have k5 : (64 : Int) < (L.length : Int) := by omega
        clear hS hE hpin hcell hln hfl hbl hk
        go_wp2_with (fail)
        go_ret2
        exact ⟨_, by rw [hd.out]; rfl, by rw [hd.out]; exact ownE_nil _ _, HT.out.bel⟩
      have k5 : ¬ (64 : Int) < (L.length : Int) := by omega
      have hsz : fSz (z0.drop p) = 3 + ln := by unfold fSz; rw [hfl]
      have hstep := hS.dcd.step hz0 hk
      rw [hsz, List.drop_drop] at hstep
      have r0 := hcell p (by omega)
      have r1 := hcell (p + 1) (by omega)
      have c0 := (hS.bel.cell (p := ⟨b, off + p, none⟩) hbl).trans (hcell p (by omega))
      have c1 := (hS.bel.cell (p := ⟨b, off + (p + 1), none⟩) hbl).trans (hcell (p + 1) (by omega))
      have hb0 := byt_bd HH.out.bys.small p
      have hb1 := byt_bd HH.out.bys.small (p + 1)
      have hfe : fEn (z0.drop p) = ⟨strOfNums ((z0.drop (p + 3)).take ln), byt z0 p + 256 * byt z0 (p + 1)⟩ := by
        unfold fEn
        rw [hfl, List.drop_drop, byt_drop, byt_drop]
        rfl
      obtain ⟨y0, hy0⟩ : ∃ y, byt z0 p = y := ⟨_, rfl⟩
      obtain ⟨y1, hy1⟩ : ∃ y, byt z0 (p + 1) = y := ⟨_, rfl⟩
      rw [hy0] at c0 r0 hb0 hfe
      rw [hy1] at c1 r1 hb1 hfe
      obtain ⟨s, hs⟩ : ∃ s, strOfNums ((z0.drop (p + 3)).take ln) = s := ⟨_, rfl⟩
      rw [hs] at hfe
      rw [hfe] at hstep
      have HST := Lib.hid hstep
      have wp3 : IntKind.i64.wrap ((p : Int) + 3) = (p : Int) + 3 := IntWalk.i64_in _ (by omega)
      have wp1 : IntKind.i64.wrap ((p : Int) + 1) = (p : Int) + 1 := IntWalk.i64_in _ (by omega)
      have wp3l : IntKind.i64.wrap ((p : Int) + 3 + (ln : Int)) = (p : Int) + 3 + (ln : Int) := IntWalk.i64_in _ (by omega)
      have w3l : IntKind.i64.wrap (3 + (ln : Int)) = 3 + (ln : Int) := IntWalk.i64_in _ (by omega)
      have wp3l' : IntKind.i64.wrap ((p : Int) + (3 + (ln : Int))) = (p : Int) + (3 + (ln : Int)) := IntWalk.i64_in _ (by omega)
      have wy0 : IntKind.i64.wrap y0 = y0 := IntWalk.i64_in _ (by omega)
      have wy1 : IntKind.i64.wrap y1 = y1 := IntWalk.i64_in _ (by omega)
      have wm : IntKind.i64.wrap (256 * y1) = 256 * y1 := IntWalk.i64_in _ (by omega)
      have wa : IntKind.i64.wrap (y0 + 256 * y1) = y0 + 256 * y1 := IntWalk.i64_in _ (by omega)
      have t1 : ((p : Int) + 1).toNat = p + 1 := by omega
      have t3 : ((p : Int) + 3).toNat = p + 3 := by omega
      have t3l : ((p : Int) + 3 + (ln : Int)).toNat = p + 3 + ln := by omega
      have i0 : (0 : Int) ≤ (p : Int) := by omega
      have i1 : (0 : Int) ≤ (p : Int) + 1 := by omega
      have i1b : (p : Int) + 1 < (n : Int) := by omega
      have i3 : (0 : Int) ≤ (p : Int) + 3 := by omega
      have i3b : (p : Int) + 3 ≤ (p : Int) + 3 + (ln : Int) := by omega
      have i3c : (p : Int) + 3 + (ln : Int) ≤ (c : Int) := by omega
      have e3 : p + 3 + ln - (p + 3) = ln := by omega
      by_cases hc3 : c = p + 3
      · subst hc3
        obtain rfl : ln = 0 := by omega
        rw [List.take_zero] at hs
        have hcv : (convert 23 9 (.slice (some ⟨b, off, none⟩) 0 0)).run Try.prog wr.drew = .ok (.string s) wr.drew := by
          rw [← hs]
          exact conv_part (Bys.none _)
        have c0q : wr.drew.cell? ⟨b, off + p, none⟩ = some (.int .u8 y0) := c0
        have c1q : wr.drew.cell? ⟨b, off + (p + 1), none⟩ = some (.int .u8 y1) := c1
        have HBL := Lib.hid (And.intro hbl (And.intro (Nat.lt_of_lt_of_le hbl hws) (And.intro c0 (And.intro c1 (And.intro r0 r1)))))
        clear hS hE hpin hcell hln hfl hbl hk hfe hstep hy0 hy1 hs hsz r0 r1
        go_wp2_with (fail)
        refine wp_region_held_drew (S := (fun w' => w'.cell? ⟨b, off + p, none⟩ = some (.int .u8 y0) ∧ w'.cell? ⟨b, off + (p + 1), none⟩ = some (.int .u8 y1))) (by kernel_rfl) ?_ (fun hHeld => ?_)
        · exact ⟨c0q, c1q⟩
        refine wpAnyH_take (i := 0) (v := ?_) rfl (by kernel_rfl) (by kernel_rfl) (by kernel_rfl) (fun _ _ _ h => h) (Or.inl ⟨by rfl, fun w hSw => ?_⟩) (by assumption) ?_
        rotate_left
        · (try dsimp only at hSw); go_simp; try with_reducible rfl
        simp only [Act.put, List.setIfInBounds_toArray, List.set_cons_zero, List.set_cons_succ, List.getElem_toArray, List.getElem_cons_zero]
        refine wpAnyH_take (i := 1) (v := ?_) rfl (by kernel_rfl) (by kernel_rfl) (by kernel_rfl) (fun _ _ _ h => h) (Or.inl ⟨by rfl, fun w hSw => ?_⟩) (by assumption) ?_
        rotate_left
        · (try dsimp only at hSw); go_simp; try with_reducible rfl
        simp only [Act.put, List.setIfInBounds_toArray, List.set_cons_zero, List.set_cons_succ, List.getElem_toArray, List.getElem_cons_succ, List.getElem_cons_zero]
        refine wpAnyH_take (i := 2) (v := ?_) rfl (by kernel_rfl) (by kernel_rfl) (by kernel_rfl) (fun _ _ _ h => h) (Or.inl ⟨by rfl, fun w hSw => ?_⟩) (by assumption) ?_
        rotate_left
        · (try dsimp only at hSw); go_simp; try with_reducible rfl
        simp only [Act.put, List.setIfInBounds_toArray, List.set_cons_zero, List.set_cons_succ, List.getElem_toArray, List.getElem_cons_succ, List.getElem_cons_zero]
        refine wpAnyH_take (i := 3) (v := ?_) rfl (by kernel_rfl) (by kernel_rfl) (by kernel_rfl) (fun _ _ _ h => h) (Or.inl ⟨by rfl, fun w hSw => ?_⟩) (by assumption) ?_
        rotate_left
        · (try dsimp only at hSw); go_simp; try with_reducible rfl
        simp only [Act.put, List.setIfInBounds_toArray, List.set_cons_zero, List.set_cons_succ, List.getElem_toArray, List.getElem_cons_succ, List.getElem_cons_zero]
        refine wpAnyH_take (i := 4) (v := ?_) rfl (by kernel_rfl) (by kernel_rfl) (by kernel_rfl) (fun _ _ _ h => h) (Or.inl ⟨by rfl, fun w hSw => ?_⟩) (by assumption) ?_
        rotate_left
        · (try dsimp only at hSw); go_simp; try with_reducible rfl
        simp only [Act.put, List.setIfInBounds_toArray, List.set_cons_zero, List.set_cons_succ, List.getElem_toArray, List.getElem_cons_succ, List.getElem_cons_zero]
        refine wpAnyH_take (i := 5) (v := ?_) rfl (by kernel_rfl) (by kernel_rfl) (by kernel_rfl) (fun _ _ _ h => h) (Or.inl ⟨by rfl, fun w hSw => ?_⟩) (by assumption) ?_
        rotate_left
        · (try dsimp only at hSw); go_simp; try with_reducible rfl
        simp only [Act.put, List.setIfInBounds_toArray, List.set_cons_zero, List.set_cons_succ, List.getElem_toArray, List.getElem_cons_succ, List.getElem_cons_zero]
        refine wpAnyH_take (i := 6) (v := ?_) rfl (by kernel_rfl) (by kernel_rfl) (by kernel_rfl) (fun _ _ _ h => h) (Or.inl ⟨by rfl, fun w hSw => ?_⟩) (by assumption) ?_
        rotate_left
        · (try dsimp only at hSw); go_simp; try with_reducible rfl
        simp only [Act.put, List.setIfInBounds_toArray, List.set_cons_zero, List.set_cons_succ, List.getElem_toArray, List.getElem_cons_succ, List.getElem_cons_zero]
        refine wpAnyH_take (i := 7) (v := ?_) rfl (by kernel_rfl) (by kernel_rfl) (by kernel_rfl) (fun _ _ _ h => h) (Or.inl ⟨by rfl, fun w hSw => ?_⟩) (by assumption) ?_
        rotate_left
        · (try dsimp only at hSw); go_simp; try with_reducible rfl
        simp only [Act.put, List.setIfInBounds_toArray, List.set_cons_zero, List.set_cons_succ, List.getElem_toArray, List.getElem_cons_succ, List.getElem_cons_zero]
        refine wpAnyH_take (i := 8) (v := ?_) rfl (by kernel_rfl) (by kernel_rfl) (by kernel_rfl) (fun _ _ _ h => h) (Or.inl ⟨by rfl, fun w hSw => ?_⟩) (by assumption) ?_
        rotate_left
        · (try dsimp only at hSw); go_simp; try with_reducible rfl
        simp only [Act.put, List.setIfInBounds_toArray, List.set_cons_zero, List.set_cons_succ, List.getElem_toArray, List.getElem_cons_succ, List.getElem_cons_zero]
        refine wpAnyH_take (i := 10) (v := ?_) rfl (by kernel_rfl) (by kernel_rfl) (by kernel_rfl) (fun _ _ _ h => h) (Or.inl ⟨by rfl, fun w hSw => ?_⟩) (by assumption) ?_
        rotate_left
        · (try dsimp only at hSw); go_simp; try with_reducible rfl
        simp only [Act.put, List.setIfInBounds_toArray, List.set_cons_zero, List.set_cons_succ, List.getElem_toArray, List.getElem_cons_succ, List.getElem_cons_zero]
        refine wpAnyH_take (i := 11) (v := ?_) rfl (by kernel_rfl) (by kernel_rfl) (by kernel_rfl) (fun _ _ _ h => h) (Or.inl ⟨by rfl, fun w hSw => ?_⟩) (by assumption) ?_
        rotate_left
        · (try dsimp only at hSw); go_simp; try with_reducible rfl
        simp only [Act.put, List.setIfInBounds_toArray, List.set_cons_zero, List.set_cons_succ, List.getElem_toArray, List.getElem_cons_succ, List.getElem_cons_zero]
        refine wpAnyH_take (i := 12) (v := ?_) rfl (by kernel_rfl) (by kernel_rfl) (by kernel_rfl) (fun _ _ _ h => h) (Or.inl ⟨by rfl, fun w hSw => ?_⟩) (by assumption) ?_
        rotate_left
        · (try dsimp only at hSw); go_simp; try with_reducible rfl
        simp only [Act.put, List.setIfInBounds_toArray, List.set_cons_zero, List.set_cons_succ, List.getElem_toArray, List.getElem_cons_succ, List.getElem_cons_zero]
        refine wpAnyH_take (i := 13) (v := ?_) rfl (by kernel_rfl) (by kernel_rfl) (by kernel_rfl) (fun _ _ _ h => h) (Or.inl ⟨by rfl, fun w hSw => ?_⟩) (by assumption) ?_
        rotate_left
        · (try dsimp only at hSw); go_simp; try with_reducible rfl
        simp only [Act.put, List.setIfInBounds_toArray, List.set_cons_zero, List.set_cons_succ, List.getElem_toArray, List.getElem_cons_succ, List.getElem_cons_zero]
        refine wpAnyH_take (i := 14) (v := ?_) rfl (by kernel_rfl) (by kernel_rfl) (by kernel_rfl) (fun _ _ _ h => h) (Or.inl ⟨by rfl, fun w hSw => ?_⟩) (by assumption) ?_
        rotate_left
        · (try dsimp only at hSw); go_simp; try with_reducible rfl
        simp only [Act.put, List.setIfInBounds_toArray, List.set_cons_zero, List.set_cons_succ, List.getElem_toArray, List.getElem_cons_succ, List.getElem_cons_zero]
        refine wpAnyH_take (i := 15) (v := ?_) rfl (by kernel_rfl) (by kernel_rfl) (by kernel_rfl) (fun _ _ _ h => h) (Or.inl ⟨by rfl, fun w hSw => ?_⟩) (by assumption) ?_
        rotate_left
        · (try dsimp only at hSw); go_simp; try with_reducible rfl
        simp only [Act.put, List.setIfInBounds_toArray, List.set_cons_zero, List.set_cons_succ, List.getElem_toArray, List.getElem_cons_succ, List.getElem_cons_zero]
        refine wpAnyH_take (i := 16) (v := ?_) rfl (by kernel_rfl) (by kernel_rfl) (by kernel_rfl) (fun _ _ _ h => h) (Or.inl ⟨by rfl, fun w hSw => ?_⟩) (by assumption) ?_
        rotate_left
        · (try dsimp only at hSw); go_simp; try with_reducible rfl
        simp only [Act.put, List.setIfInBounds_toArray, List.set_cons_zero, List.set_cons_succ, List.getElem_toArray, List.getElem_cons_succ, List.getElem_cons_zero]
        refine wpAnyH_take (i := 17) (v := ?_) rfl (by kernel_rfl) (by kernel_rfl) (by kernel_rfl) (fun _ _ _ h => h) (Or.inl ⟨by rfl, fun w hSw => ?_⟩) (by assumption) ?_
        rotate_left
        · (try dsimp only at hSw); go_simp; try with_reducible rfl
        simp only [Act.put, List.setIfInBounds_toArray, List.set_cons_zero, List.set_cons_succ, List.getElem_toArray, List.getElem_cons_succ, List.getElem_cons_zero]
        refine wpAnyH_take (i := 18) (v := ?_) rfl (by kernel_rfl) (by kernel_rfl) (by kernel_rfl) (fun _ _ _ h => h) (Or.inl ⟨by rfl, fun w hSw => ?_⟩) (by assumption) ?_
        rotate_left
        · (try dsimp only at hSw); go_simp; try with_reducible rfl
        simp only [Act.put, List.setIfInBounds_toArray, List.set_cons_zero, List.set_cons_succ, List.getElem_toArray, List.getElem_cons_succ, List.getElem_cons_zero]
        refine wpAnyH_take (i := 19) (v := ?_) rfl (by kernel_rfl) (by kernel_rfl) (by kernel_rfl) (fun _ _ _ h => h) (Or.inl ⟨by rfl, fun w hSw => ?_⟩) (by assumption) ?_
        rotate_left
        · (try dsimp only at hSw); go_simp; try with_reducible rfl
        simp only [Act.put, List.setIfInBounds_toArray, List.set_cons_zero, List.set_cons_succ, List.getElem_toArray, List.getElem_cons_succ, List.getElem_cons_zero]
        refine wpAnyH_take (i := 20) (v := ?_) rfl (by kernel_rfl) (by kernel_rfl) (by kernel_rfl) (fun _ _ _ h => h) (Or.inl ⟨by rfl, fun w hSw => ?_⟩) (by assumption) ?_
        rotate_left
        · (try dsimp only at hSw); go_simp; try with_reducible rfl
        simp only [Act.put, List.setIfInBounds_toArray, List.set_cons_zero, List.set_cons_succ, List.getElem_toArray, List.getElem_cons_succ, List.getElem_cons_zero]
        refine wpAnyH_take (i := 21) (v := ?_) rfl (by kernel_rfl) (by kernel_rfl) (by kernel_rfl) (fun _ _ _ h => h) (Or.inl ⟨by rfl, fun w hSw => ?_⟩) (by assumption) ?_
        rotate_left
        · (try dsimp only at hSw); go_simp; try with_reducible rfl
        simp only [Act.put, List.setIfInBounds_toArray, List.set_cons_zero, List.set_cons_succ, List.getElem_toArray, List.getElem_cons_succ, List.getElem_cons_zero]
        refine wpAnyH_take (i := 22) (v := ?_) rfl (by kernel_rfl) (by kernel_rfl) (by kernel_rfl) (fun _ _ _ h => h) (Or.inl ⟨by rfl, fun w hSw => ?_⟩) (by assumption) ?_
        rotate_left
        · (try dsimp only at hSw); go_simp; try with_reducible rfl
        simp only [Act.put, List.setIfInBounds_toArray, List.set_cons_zero, List.set_cons_succ, List.getElem_toArray, List.getElem_cons_succ, List.getElem_cons_zero]
        refine wpAnyH_ready (rs := [9]) (by kernel_rfl) (by simp) ?_
        refine AllReadyH.cons rfl (fun K hK => ?_) AllReadyH.nil
        simp only [List.getElem_toArray, List.getElem_cons_succ, List.getElem_cons_zero]
        go_simp
        refine hK.out _ _ ⟨c0q, c1q⟩ (fun hHeld => ?_)
        clear hK K hcv
        refine wpAnyH_take (i := 23) (v := ?_) rfl (by kernel_rfl) (by kernel_rfl) (by kernel_rfl) (fun _ _ _ h => h) (Or.inl ⟨by rfl, fun w hSw => ?_⟩) (by assumption) ?_
        rotate_left
        · (try dsimp only at hSw); go_simp; try with_reducible rfl
        simp only [Act.put, List.setIfInBounds_toArray, List.set_cons_zero, List.set_cons_succ, List.getElem_toArray, List.getElem_cons_succ, List.getElem_cons_zero]
        refine wpAnyH_ready (rs := [24]) (by kernel_rfl) (by simp) ?_
        refine AllReadyH.cons rfl (fun K hK => ?_) AllReadyH.nil
        simp only [List.getElem_toArray, List.getElem_cons_succ, List.getElem_cons_zero]
        go_simp
        have hbX : Below wr.heap.size wr (wr.alloc (.cells #[.string s, .int .i64 (y0 + 256 * y1)] 36)).drew := below_drewN ((Below.refl _ _).alloc (Nat.le_refl _) _) 1
        refine hK.out _ _ ⟨(hbX.cell (p := ⟨b, off + p, none⟩) HBL.out.2.1).trans HBL.out.2.2.1, (hbX.cell (p := ⟨b, off + (p + 1), none⟩) HBL.out.2.1).trans HBL.out.2.2.2.1⟩ (fun hHeld => ?_)
        have HOX := Lib.hid (HT.out.own.next hbX)
        have HBX := Lib.hid (HT.out.bel.trans (hbX.mono hws))
        have HMX := Lib.hid ((ens_one (w := wr) (g := wr.heap.size) s (y0 + 256 * y1) rfl).drewN 1)
        have hXs : w.heap.size ≤ (wr.alloc (.cells #[.string s, .int .i64 (y0 + 256 * y1)] 36)).drew.heap.size := HBX.out.size
        clear hK K hbX
        refine wpAnyH_ready (rs := [25]) (by kernel_rfl) (by simp) ?_
        refine AllReadyH.cons rfl (fun K hK => ?_) AllReadyH.nil
        simp only [List.getElem_toArray, List.getElem_cons_succ, List.getElem_cons_zero]
        rw [if_pos (by rfl)]
        refine wp_ape (.tmp 42) (.tmp 66) rfl w.heap.size (.slice va L.length vc) L.length L rfl HOX.out wr.heap.size 0 1 1 [En.mk s (y0 + 256 * y1)] rfl HMX.out (by omega) (by omega) hXs w HBX.out ?_
        intro v3 w3 ho3 hb3
        refine hK.out _ _ ⟨(hb3.cell (p := ⟨b, off + p, none⟩) HBL.out.1).trans HBL.out.2.2.2.2.1, (hb3.cell (p := ⟨b, off + (p + 1), none⟩) HBL.out.1).trans HBL.out.2.2.2.2.2⟩ (fun hHeld => ?_)
        have HO3 := Lib.hid ho3
        have HB3 := Lib.hid hb3
        clear hK K ho3 hb3
        refine wpAnyH_take (i := 26) (v := ?_) rfl (by kernel_rfl) (by kernel_rfl) (by kernel_rfl) (fun _ _ _ h => h) (Or.inl ⟨by rfl, fun w hSw => ?_⟩) (by assumption) ?_
        rotate_left
        · (try dsimp only at hSw); go_simp; try with_reducible rfl
        simp only [Act.put, List.setIfInBounds_toArray, List.set_cons_zero, List.set_cons_succ, List.getElem_toArray, List.getElem_cons_succ, List.getElem_cons_zero]
        refine wpAnyH_done (by kernel_rfl) ?_ _
        go_wp2_with (fail)
        go_roundw
        case rel => exact ⟨p + (3 + 0), L ++ [En.mk s (y0 + 256 * y1)], by go_num, ⟨HST.out, by rw [List.length_append]; exact HO3.out, HB3.out, by rw [List.length_append]; simp; omega, by omega⟩⟩
        case measure => simp [RowKit.intOf]; omega
      · have hcv : (convert 23 9 (.slice (some ⟨b, off + (p + 3), none⟩) ln (c - (p + 3)))).run Try.prog wr.drew = .ok (.string s) wr.drew := by
          rw [← hs]
          exact conv_part (((hpin.bys.drewN 1).rest (p + 3)).front (k := ln) (by omega))
        have hc4 : ¬ (c = p + 3) := hc3
        have c0q : wr.drew.cell? ⟨b, off + p, none⟩ = some (.int .u8 y0) := c0
        have c1q : wr.drew.cell? ⟨b, off + (p + 1), none⟩ = some (.int .u8 y1) := c1
        have HBL := Lib.hid (And.intro hbl (And.intro (Nat.lt_of_lt_of_le hbl hws) (And.intro c0 (And.intro c1 (And.intro r0 r1)))))
        clear hS hE hpin hcell hln hfl hbl hk hfe hstep hy0 hy1 hs hsz r0 r1
        go_wp2_with (fail)
        refine wp_region_held_drew (S := (fun w' => w'.cell? ⟨b, off + p, none⟩ = some (.int .u8 y0) ∧ w'.cell? ⟨b, off + (p + 1), none⟩ = some (.int .u8 y1))) (by kernel_rfl) ?_ (fun hHeld => ?_)
        · exact ⟨c0q, c1q⟩
        refine wpAnyH_take (i := 0) (v := ?_) rfl (by kernel_rfl) (by kernel_rfl) (by kernel_rfl) (fun _ _ _ h => h) (Or.inl ⟨by rfl, fun w hSw => ?_⟩) (by assumption) ?_
        rotate_left
        · (try dsimp only at hSw); go_simp; try with_reducible rfl
        simp only [Act.put, List.setIfInBounds_toArray, List.set_cons_zero, List.set_cons_succ, List.getElem_toArray, List.getElem_cons_zero]
        refine wpAnyH_take (i := 1) (v := ?_) rfl (by kernel_rfl) (by kernel_rfl) (by kernel_rfl) (fun _ _ _ h => h) (Or.inl ⟨by rfl, fun w hSw => ?_⟩) (by assumption) ?_
        rotate_left
        · (try dsimp only at hSw); go_simp; try with_reducible rfl
        simp only [Act.put, List.setIfInBounds_toArray, List.set_cons_zero, List.set_cons_succ, List.getElem_toArray, List.getElem_cons_succ, List.getElem_cons_zero]
        refine wpAnyH_take (i := 2) (v := ?_) rfl (by kernel_rfl) (by kernel_rfl) (by kernel_rfl) (fun _ _ _ h => h) (Or.inl ⟨by rfl, fun w hSw => ?_⟩) (by assumption) ?_
        rotate_left
        · (try dsimp only at hSw); go_simp; try with_reducible rfl
        simp only [Act.put, List.setIfInBounds_toArray, List.set_cons_zero, List.set_cons_succ, List.getElem_toArray, List.getElem_cons_succ, List.getElem_cons_zero]
        refine wpAnyH_take (i := 3) (v := ?_) rfl (by kernel_rfl) (by kernel_rfl) (by kernel_rfl) (fun _ _ _ h => h) (Or.inl ⟨by rfl, fun w hSw => ?_⟩) (by assumption) ?_
        rotate_left
        · (try dsimp only at hSw); go_simp; try with_reducible rfl
        simp only [Act.put, List.setIfInBounds_toArray, List.set_cons_zero, List.set_cons_succ, List.getElem_toArray, List.getElem_cons_succ, List.getElem_cons_zero]
        refine wpAnyH_take (i := 4) (v := ?_) rfl (by kernel_rfl) (by kernel_rfl) (by kernel_rfl) (fun _ _ _ h => h) (Or.inl ⟨by rfl, fun w hSw => ?_⟩) (by assumption) ?_
        rotate_left
        · (try dsimp only at hSw); go_simp; try with_reducible rfl
        simp only [Act.put, List.setIfInBounds_toArray, List.set_cons_zero, List.set_cons_succ, List.getElem_toArray, List.getElem_cons_succ, List.getElem_cons_zero]
        refine wpAnyH_take (i := 5) (v := ?_) rfl (by kernel_rfl) (by kernel_rfl) (by kernel_rfl) (fun _ _ _ h => h) (Or.inl ⟨by rfl, fun w hSw => ?_⟩) (by assumption) ?_
        rotate_left
        · (try dsimp only at hSw); go_simp; try with_reducible rfl
        simp only [Act.put, List.setIfInBounds_toArray, List.set_cons_zero, List.set_cons_succ, List.getElem_toArray, List.getElem_cons_succ, List.getElem_cons_zero]
        refine wpAnyH_take (i := 6) (v := ?_) rfl (by kernel_rfl) (by kernel_rfl) (by kernel_rfl) (fun _ _ _ h => h) (Or.inl ⟨by rfl, fun w hSw => ?_⟩) (by assumption) ?_
        rotate_left
        · (try dsimp only at hSw); go_simp; try with_reducible rfl
        simp only [Act.put, List.setIfInBounds_toArray, List.set_cons_zero, List.set_cons_succ, List.getElem_toArray, List.getElem_cons_succ, List.getElem_cons_zero]
        refine wpAnyH_take (i := 7) (v := ?_) rfl (by kernel_rfl) (by kernel_rfl) (by kernel_rfl) (fun _ _ _ h => h) (Or.inl ⟨by rfl, fun w hSw => ?_⟩) (by assumption) ?_
        rotate_left
        · (try dsimp only at hSw); go_simp; try with_reducible rfl
        simp only [Act.put, List.setIfInBounds_toArray, List.set_cons_zero, List.set_cons_succ, List.getElem_toArray, List.getElem_cons_succ, List.getElem_cons_zero]
        refine wpAnyH_take (i := 8) (v := ?_) rfl (by kernel_rfl) (by kernel_rfl) (by kernel_rfl) (fun _ _ _ h => h) (Or.inl ⟨by rfl, fun w hSw => ?_⟩) (by assumption) ?_
        rotate_left
        · (try dsimp only at hSw); go_simp; try with_reducible rfl
        simp only [Act.put, List.setIfInBounds_toArray, List.set_cons_zero, List.set_cons_succ, List.getElem_toArray, List.getElem_cons_succ, List.getElem_cons_zero]
        refine wpAnyH_take (i := 10) (v := ?_) rfl (by kernel_rfl) (by kernel_rfl) (by kernel_rfl) (fun _ _ _ h => h) (Or.inl ⟨by rfl, fun w hSw => ?_⟩) (by assumption) ?_
        rotate_left
        · (try dsimp only at hSw); go_simp; try with_reducible rfl
        simp only [Act.put, List.setIfInBounds_toArray, List.set_cons_zero, List.set_cons_succ, List.getElem_toArray, List.getElem_cons_succ, List.getElem_cons_zero]
        refine wpAnyH_take (i := 11) (v := ?_) rfl (by kernel_rfl) (by kernel_rfl) (by kernel_rfl) (fun _ _ _ h => h) (Or.inl ⟨by rfl, fun w hSw => ?_⟩) (by assumption) ?_
        rotate_left
        · (try dsimp only at hSw); go_simp; try with_reducible rfl
        simp only [Act.put, List.setIfInBounds_toArray, List.set_cons_zero, List.set_cons_succ, List.getElem_toArray, List.getElem_cons_succ, List.getElem_cons_zero]
        refine wpAnyH_take (i := 12) (v := ?_) rfl (by kernel_rfl) (by kernel_rfl) (by kernel_rfl) (fun _ _ _ h => h) (Or.inl ⟨by rfl, fun w hSw => ?_⟩) (by assumption) ?_
        rotate_left
        · (try dsimp only at hSw); go_simp; try with_reducible rfl
        simp only [Act.put, List.setIfInBounds_toArray, List.set_cons_zero, List.set_cons_succ, List.getElem_toArray, List.getElem_cons_succ, List.getElem_cons_zero]
        refine wpAnyH_take (i := 13) (v := ?_) rfl (by kernel_rfl) (by kernel_rfl) (by kernel_rfl) (fun _ _ _ h => h) (Or.inl ⟨by rfl, fun w hSw => ?_⟩) (by assumption) ?_
        rotate_left
        · (try dsimp only at hSw); go_simp; try with_reducible rfl
        simp only [Act.put, List.setIfInBounds_toArray, List.set_cons_zero, List.set_cons_succ, List.getElem_toArray, List.getElem_cons_succ, List.getElem_cons_zero]
        refine wpAnyH_take (i := 14) (v := ?_) rfl (by kernel_rfl) (by kernel_rfl) (by kernel_rfl) (fun _ _ _ h => h) (Or.inl ⟨by rfl, fun w hSw => ?_⟩) (by assumption) ?_
        rotate_left
        · (try dsimp only at hSw); go_simp; try with_reducible rfl
        simp only [Act.put, List.setIfInBounds_toArray, List.set_cons_zero, List.set_cons_succ, List.getElem_toArray, List.getElem_cons_succ, List.getElem_cons_zero]
        refine wpAnyH_take (i := 15) (v := ?_) rfl (by kernel_rfl) (by kernel_rfl) (by kernel_rfl) (fun _ _ _ h => h) (Or.inl ⟨by rfl, fun w hSw => ?_⟩) (by assumption) ?_
        rotate_left
        · (try dsimp only at hSw); go_simp; try with_reducible rfl
        simp only [Act.put, List.setIfInBounds_toArray, List.set_cons_zero, List.set_cons_succ, List.getElem_toArray, List.getElem_cons_succ, List.getElem_cons_zero]
        refine wpAnyH_take (i := 16) (v := ?_) rfl (by kernel_rfl) (by kernel_rfl) (by kernel_rfl) (fun _ _ _ h => h) (Or.inl ⟨by rfl, fun w hSw => ?_⟩) (by assumption) ?_
        rotate_left
        · (try dsimp only at hSw); go_simp; try with_reducible rfl
        simp only [Act.put, List.setIfInBounds_toArray, List.set_cons_zero, List.set_cons_succ, List.getElem_toArray, List.getElem_cons_succ, List.getElem_cons_zero]
        refine wpAnyH_take (i := 17) (v := ?_) rfl (by kernel_rfl) (by kernel_rfl) (by kernel_rfl) (fun _ _ _ h => h) (Or.inl ⟨by rfl, fun w hSw => ?_⟩) (by assumption) ?_
        rotate_left
        · (try dsimp only at hSw); go_simp; try with_reducible rfl
        simp only [Act.put, List.setIfInBounds_toArray, List.set_cons_zero, List.set_cons_succ, List.getElem_toArray, List.getElem_cons_succ, List.getElem_cons_zero]
        refine wpAnyH_take (i := 18) (v := ?_) rfl (by kernel_rfl) (by kernel_rfl) (by kernel_rfl) (fun _ _ _ h => h) (Or.inl ⟨by rfl, fun w hSw => ?_⟩) (by assumption) ?_
        rotate_left
        · (try dsimp only at hSw); go_simp; try with_reducible rfl
        simp only [Act.put, List.setIfInBounds_toArray, List.set_cons_zero, List.set_cons_succ, List.getElem_toArray, List.getElem_cons_succ, List.getElem_cons_zero]
        refine wpAnyH_take (i := 19) (v := ?_) rfl (by kernel_rfl) (by kernel_rfl) (by kernel_rfl) (fun _ _ _ h => h) (Or.inl ⟨by rfl, fun w hSw => ?_⟩) (by assumption) ?_
        rotate_left
        · (try dsimp only at hSw); go_simp; try with_reducible rfl
        simp only [Act.put, List.setIfInBounds_toArray, List.set_cons_zero, List.set_cons_succ, List.getElem_toArray, List.getElem_cons_succ, List.getElem_cons_zero]
        refine wpAnyH_take (i := 20) (v := ?_) rfl (by kernel_rfl) (by kernel_rfl) (by kernel_rfl) (fun _ _ _ h => h) (Or.inl ⟨by rfl, fun w hSw => ?_⟩) (by assumption) ?_
        rotate_left
        · (try dsimp only at hSw); go_simp; try with_reducible rfl
        simp only [Act.put, List.setIfInBounds_toArray, List.set_cons_zero, List.set_cons_succ, List.getElem_toArray, List.getElem_cons_succ, List.getElem_cons_zero]
        refine wpAnyH_take (i := 21) (v := ?_) rfl (by kernel_rfl) (by kernel_rfl) (by kernel_rfl) (fun _ _ _ h => h) (Or.inl ⟨by rfl, fun w hSw => ?_⟩) (by assumption) ?_
        rotate_left
        · (try dsimp only at hSw); go_simp; try with_reducible rfl
        simp only [Act.put, List.setIfInBounds_toArray, List.set_cons_zero, List.set_cons_succ, List.getElem_toArray, List.getElem_cons_succ, List.getElem_cons_zero]
        refine wpAnyH_take (i := 22) (v := ?_) rfl (by kernel_rfl) (by kernel_rfl) (by kernel_rfl) (fun _ _ _ h => h) (Or.inl ⟨by rfl, fun w hSw => ?_⟩) (by assumption) ?_
        rotate_left
        · (try dsimp only at hSw); go_simp; try with_reducible rfl
        simp only [Act.put, List.setIfInBounds_toArray, List.set_cons_zero, List.set_cons_succ, List.getElem_toArray, List.getElem_cons_succ, List.getElem_cons_zero]
        refine wpAnyH_ready (rs := [9]) (by kernel_rfl) (by simp) ?_
        refine AllReadyH.cons rfl (fun K hK => ?_) AllReadyH.nil
        simp only [List.getElem_toArray, List.getElem_cons_succ, List.getElem_cons_zero]
        go_simp
        refine hK.out _ _ ⟨c0q, c1q⟩ (fun hHeld => ?_)
        clear hK K hcv
        refine wpAnyH_take (i := 23) (v := ?_) rfl (by kernel_rfl) (by kernel_rfl) (by kernel_rfl) (fun _ _ _ h => h) (Or.inl ⟨by rfl, fun w hSw => ?_⟩) (by assumption) ?_
        rotate_left
        · (try dsimp only at hSw); go_simp; try with_reducible rfl
        simp only [Act.put, List.setIfInBounds_toArray, List.set_cons_zero, List.set_cons_succ, List.getElem_toArray, List.getElem_cons_succ, List.getElem_cons_zero]
        refine wpAnyH_ready (rs := [24]) (by kernel_rfl) (by simp) ?_
        refine AllReadyH.cons rfl (fun K hK => ?_) AllReadyH.nil
        simp only [List.getElem_toArray, List.getElem_cons_succ, List.getElem_cons_zero]
        go_simp
        have hbX : Below wr.heap.size wr (wr.alloc (.cells #[.string s, .int .i64 (y0 + 256 * y1)] 36)).drew := below_drewN ((Below.refl _ _).alloc (Nat.le_refl _) _) 1
        refine hK.out _ _ ⟨(hbX.cell (p := ⟨b, off + p, none⟩) HBL.out.2.1).trans HBL.out.2.2.1, (hbX.cell (p := ⟨b, off + (p + 1), none⟩) HBL.out.2.1).trans HBL.out.2.2.2.1⟩ (fun hHeld => ?_)
        have HOX := Lib.hid (HT.out.own.next hbX)
        have HBX := Lib.hid (HT.out.bel.trans (hbX.mono hws))
        have HMX := Lib.hid ((ens_one (w := wr) (g := wr.heap.size) s (y0 + 256 * y1) rfl).drewN 1)
        have hXs : w.heap.size ≤ (wr.alloc (.cells #[.string s, .int .i64 (y0 + 256 * y1)] 36)).drew.heap.size := HBX.out.size
        clear hK K hbX
        refine wpAnyH_ready (rs := [25]) (by kernel_rfl) (by simp) ?_
        refine AllReadyH.cons rfl (fun K hK => ?_) AllReadyH.nil
        simp only [List.getElem_toArray, List.getElem_cons_succ, List.getElem_cons_zero]
        rw [if_pos (by rfl)]
        refine wp_ape (.tmp 42) (.tmp 66) rfl w.heap.size (.slice va L.length vc) L.length L rfl HOX.out wr.heap.size 0 1 1 [En.mk s (y0 + 256 * y1)] rfl HMX.out (by omega) (by omega) hXs w HBX.out ?_
        intro v3 w3 ho3 hb3
        refine hK.out _ _ ⟨(hb3.cell (p := ⟨b, off + p, none⟩) HBL.out.1).trans HBL.out.2.2.2.2.1, (hb3.cell (p := ⟨b, off + (p + 1), none⟩) HBL.out.1).trans HBL.out.2.2.2.2.2⟩ (fun hHeld => ?_)
        have HO3 := Lib.hid ho3
        have HB3 := Lib.hid hb3
        clear hK K ho3 hb3
        refine wpAnyH_take (i := 26) (v := ?_) rfl (by kernel_rfl) (by kernel_rfl) (by kernel_rfl) (fun _ _ _ h => h) (Or.inl ⟨by rfl, fun w hSw => ?_⟩) (by assumption) ?_
        rotate_left
        · (try dsimp only at hSw); go_simp; try with_reducible rfl
        simp only [Act.put, List.setIfInBounds_toArray, List.set_cons_zero, List.set_cons_succ, List.getElem_toArray, List.getElem_cons_succ, List.getElem_cons_zero]
        refine wpAnyH_done (by kernel_rfl) ?_ _
        go_wp2_with (fail)
        go_roundw
        case rel => exact ⟨p + (3 + ln), L ++ [En.mk s (y0 + 256 * y1)], by go_num, ⟨HST.out, by rw [List.length_append]; exact HO3.out, HB3.out, by rw [List.length_append]; simp; omega, by omega⟩⟩
        case measure => simp [RowKit.intOf]; omega
end Go.Proofs.Ytiedapiepklhlaa
