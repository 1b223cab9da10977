/-
  The reference's Look, by contract.
-/
import Derived.Test.YtacnhlmhibhlhaaGreatLoa
import Derived.Test.YtacnhlmhibhlhaaGreatRal
import Derived.Test.YtacnhlmhibhlhaaGreatQw
import Derived.Test.YtacnhlmhibhlhaaGreatQr
import Derived.Test.YtacnhlmhibhlhaaGreatQoa
set_option linter.unusedSimpArgs false
set_option linter.unusedVariables false
namespace Go.Proofs.YtacnhlmhibhlhaaGreat
open Go.RowKit
set_option linter.unusedVariables false
theorem ral_al {R : Rk} {F : Rf} (h : Rel R F) (B : Bn) (k : Int) (i : Nat) : ralL B k F i = alL B k R i := by
  induction i with
  | zero => rfl
  | succ i ih => rw [ralL, alL, ih, h.rdE, h.rdV]
theorem lk_bad {B : Bn} {R : Rk} {g q : Int} (h : rbE B R 3 g 0 q ≠ 0) : lkS B R g q = false := by
  have e : rbL B R 3 g 0 q = [] := by
    unfold rbE at h
    unfold rbL
    split
    · rename_i hc
      rw [if_pos hc] at h
      cases hr : rdO B R (spS B g 0) q (spD B g 0) with
      | true => rw [hr] at h; exact absurd rfl h
      | false =>
        rw [hr] at h
        cases ho : resO B R (spS B g 0) q (spD B g 0).toNat 3 with
        | true => rw [ho] at h; exact absurd rfl h
        | false => rw [if_neg (by decide), resL, ho]; rfl
    · rfl
  unfold lkS
  rw [e]
  exact gsO_own (by decide)
section
variable {M : Nat → Prop} {L : RLay} {R : Rk} {F : Rf} {w : World} {B : Bn} {b : Nat}
set_option maxRecDepth 100000 in
set_option maxHeartbeats 8000000 in
theorem rlook_on (hr : RefAt w M L F) (hb : RbAt w b L.p B) (hrel : Rel R F) (hS : Sml B) (ho : R.off = false) :
    Calls Tryz.prog 20 #[.pointer (some ⟨b, 0, none⟩)] w (LooPost (lkL B R 12) (grM B R 36) w) := by
  have c0 := hb.c0
  have c7 := hr.c7
  rw [← hrel.off, ho] at c7
  obtain ⟨GM, hGM⟩ : ∃ m, m = grM B R 36 := ⟨_, rfl⟩
  obtain ⟨LL, hLL⟩ : ∃ m, m = lkL B R 12 := ⟨_, rfl⟩
  rw [← hGM, ← hLL]
  have HG := Lib.hid (And.intro hGM hLL)
  have HS := Lib.hid (And.intro hr (And.intro hb (And.intro hrel hS)))
  have HO := Lib.hid ho
  clear hr hb hrel hS ho hGM hLL
  go_enter Tryz.func20, Tryz.ntmps20
  go_wp2_with (fail)
  go_loopw [5, 6, 7, 8, 9, 10, 11, 12, 13, 14, 15, 16, 17, 18, 19] (fun u v s _ _ _ _ _ _ _ _ _ _ _ _ wr => ∃ k n : Nat, k ≤ 12 ∧ n ≤ k ∧ s = .int .i64 k ∧ v = .int .i64 (grM B R (3 * k)) ∧ OwnF wr w.heap.size u n (lkL B R k) ∧ Below w.heap.size w wr) (fun _ _ s _ _ _ _ _ _ _ _ _ _ _ _ _ => 12 - (RowKit.intOf s).toNat)
  case atStart => exact ⟨0, 0, Nat.zero_le _, Nat.zero_le _, rfl, rfl, World.ownsRow_made _ #[] 0 (Nat.le_refl _) (Nat.zero_le _) rfl, (Below.refl _ _).alloc (Nat.le_refl _) _⟩
  case round =>
    clear c0 c7
    obtain ⟨k, n, hk, hnk, rfl, rfl, hof, hB⟩ := hrel
    obtain ⟨hr, hb, hre, hS⟩ := HS.out
    have hb1 := hb.next hB
    have c0 := hb1.c0
    have c1 := hb1.c1
    have c2 := hb1.c2
    have c3 := hb1.c3
    rw [hS.d] at c1
    rw [hS.r] at c2
    rw [hS.s] at c3
    obtain ⟨gk, hgk⟩ : ∃ gk, gk = grM B R (3 * k) := ⟨_, rfl⟩
    rw [← hgk]
    have HGK := Lib.hid hgk
    have HOF := Lib.hid hof
    have HB := Lib.hid hB
    clear hr hb hre hS hb1 hgk hof hB
    obtain ⟨wo, rfl⟩ : ∃ wo, wo = wr := ⟨_, rfl⟩
    by_cases hlt : k < 12
    · have hk12 : (k : Int) < 12 := by omega
      have hk12b : decide ((k : Int) < 12) = true := decide_eq_true hk12
      go_wp2_with (fail)
      go_loopw [6, 8, 9, 10, 11, 12, 13] (fun v r _ _ _ _ _ w2 => ∃ r' : Nat, r' ≤ 3 ∧ r = .int .i64 r' ∧ v = .int .i64 (grM B R (3 * k + r')) ∧ Below wo.heap.size wo w2) (fun _ r _ _ _ _ _ _ => 3 - (RowKit.intOf r).toNat)
      case atStart => exact ⟨0, Nat.zero_le _, rfl, by rw [HGK.out]; rfl, Below.refl _ _⟩
      case round =>
        clear c0 c1 c2 c3
        obtain ⟨r, hr3, rfl, rfl, hB2⟩ := hrel
        obtain ⟨wi, rfl⟩ : ∃ wi, wi = wr := ⟨_, rfl⟩
        obtain ⟨gr, hgr⟩ : ∃ gr, gr = grM B R (3 * k + r) := ⟨_, rfl⟩
        rw [← hgr]
        have HGR := Lib.hid hgr
        have HB2 := Lib.hid hB2
        have hB3 : Below w.heap.size w wi := HB.out.trans (hB2.mono HB.out.size)
        have HB3 := Lib.hid hB3
        have hb1 := HS.out.2.1.next hB3
        have c0 := hb1.c0
        have c1 := hb1.c1
        have c2 := hb1.c2
        have c3 := hb1.c3
        rw [HS.out.2.2.2.d] at c1
        rw [HS.out.2.2.2.r] at c2
        rw [HS.out.2.2.2.s] at c3
        clear hgr hB2 hB3
        by_cases hr4 : r < 3
        · have hal := rall_bank (M := M) (L := L) (F := F) (B := B) 3 (5 + (k : Int) * 3 + (r : Int)) (HS.out.1.below HB3.out) hb1 HS.out.2.2.2.d (by omega)
          rw [ral_al HS.out.2.2.1] at hal
          have hr43 : (r : Int) < 3 := by omega
          clear hb1
          go_wp2_with (fail)
          refine hal.mono ?_
          rintro e w3 ⟨v, f, rfl, ho, hra, hb3⟩
          obtain ⟨ls, hls⟩ : ∃ ls, ls = alL B (5 + (k : Int) * 3 + (r : Int)) R B.num := ⟨_, rfl⟩
          rw [← hls] at ho hra
          obtain ⟨a3, c3', rfl, hrw, _, _, _⟩ := ho.rws
          obtain ⟨ln, hln⟩ : ∃ ln, ln = ls.length := ⟨_, rfl⟩
          rw [← hln] at hrw ⊢
          have hl4 : ln ≤ 5 := by rw [hln, hls]; refine Nat.le_trans (alL_len ..) ?_; unfold Bn.num; rw [HS.out.2.2.2.d]; split <;> decide
          have HL := Lib.hid (And.intro hls (And.intro hra (And.intro hln hrw)))
          have HB4 := Lib.hid (HB2.out.trans (hb3.mono HB2.out.size))
          clear hal ho hra hb3 hls hln hrw c0 c1 c2 c3
          go_wp2_with (fail)
          go_loopw [6, 10, 11, 12, 13] (fun u i _ _ _ wr => ∃ j : Nat, j ≤ ln ∧ i = .int .i64 j ∧ u = .int .i64 (mxL gr (ls.take j)) ∧ Below w3.heap.size w3 wr) (fun _ i _ _ _ _ => ln - (RowKit.intOf i).toNat)
          case atStart => exact ⟨0, Nat.zero_le _, rfl, rfl, Below.refl _ _⟩
          case round =>
            obtain ⟨j, hj, rfl, rfl, hBj⟩ := hrel
            have HBJ := Lib.hid hBj
            obtain ⟨mj, hmj⟩ : ∃ mj, mj = mxL gr (ls.take j) := ⟨_, rfl⟩
            rw [← hmj]
            have HMJ := Lib.hid hmj
            clear hmj
            by_cases hjl : j < ln
            · obtain ⟨hls, hra, hln, hrw⟩ := HL.out
              have hrw' := hrw.next hBj
              obtain ⟨rb, ro, rfl, hrl, hrc⟩ := hrw'.place.resolve_left (by omega)
              have y0 := hrc j hjl
              have hpj := hrw'.each j hjl
              obtain ⟨xs, hxs⟩ : ∃ xs, xs = (f j).zs := ⟨_, rfl⟩
              obtain ⟨xa, hxa⟩ : ∃ xa, xa = (f j).a := ⟨_, rfl⟩
              obtain ⟨xn, hxn⟩ : ∃ xn, xn = (f j).n := ⟨_, rfl⟩
              obtain ⟨xc, hxc⟩ : ∃ xc, xc = (f j).c := ⟨_, rfl⟩
              rw [← hxa, ← hxn, ← hxc, ← hxs] at hpj
              rw [← hxa, ← hxn, ← hxc] at y0
              have hdc := fun W (hb : Below wr.heap.size wr W) => refDecN_any xa xn xc xs W (hpj.next hb)
              have HDC := Lib.hid hdc
              have hmx : mxL gr (ls.take (j + 1)) = max mj (decN xs 0 4) := by
                rw [mxL_take _ _ _ (by omega), HMJ.out, hxs, hra j (by omega)]
              have HMX := Lib.hid hmx
              have k0 : (0 : Int) ≤ (j : Int) := by omega
              have k1 : (j : Int) < (ln : Int) := by omega
              clear hls hra hln hrw hrw' hrc hpj hxs hxa hxn hxc hdc hmx hBj
              go_wp2_with (fail)
              refine (HDC.out _ (Below.refl _ _)).mono ?_
              rintro e w5 ⟨da, dn, dc, rfl, _, _, hb5⟩
              obtain ⟨dz, hdz⟩ : ∃ dz, dz = decN xs 0 4 := ⟨_, rfl⟩
              rw [← hdz] at HMX ⊢
              have HB5 := Lib.hid (HBJ.out.trans (hb5.mono HBJ.out.size))
              clear hb5 hdz y0
              go_wp2_with (fail)
              go_roundw
              case rel => exact ⟨j + 1, by omega, by go_num, by rw [HMX.out], HB5.out.alloc HB5.out.size _⟩
              case measure => simp [RowKit.intOf] <;> omega
            · obtain rfl : j = ln := by omega
              go_wp2_with (fail)
              go_roundw
              case rel =>
                refine ⟨r + 1, by omega, by go_num, ?_, HB4.out.trans (HBJ.out.mono HB4.out.size)⟩
                obtain ⟨hls, hra, hln, hrw⟩ := HL.out
                have e1 : (5 : Int) + ((3 * k + r : Nat) : Int) = 5 + (k : Int) * 3 + (r : Int) := by omega
                rw [show 3 * k + (r + 1) = (3 * k + r) + 1 by omega, grM, e1, ← HGR.out, ← hls, HMJ.out, List.take_of_length_le (by omega)]
              case measure => simp [RowKit.intOf] <;> omega
        · obtain rfl : r = 3 := by omega
          -- TAIL
          have hwh := whole_ref (M := M) (L := L) (F := F) (B := B) (k : Int) (HS.out.1.below HB3.out) hb1 HS.out.2.2.1 HS.out.2.2.2
          obtain ⟨v, hv⟩ : ∃ v, v = whR B R 3 3 (k : Int) := ⟨_, rfl⟩
          rw [← hv] at hwh
          obtain ⟨LK0, hLK0⟩ : ∃ LK0, LK0 = lkI B R (k : Int) := ⟨_, rfl⟩
          have hli := hLK0
          unfold lkI at hli
          rw [← hv, hLK0] at hli
          have HLI := Lib.hid hli
          clear hb1 hli hv hLK0
          go_wp2_with (fail)
          refine hwh.mono ?_
          rintro e w4 ⟨rfl, hb4⟩
          have HB4 := Lib.hid (HB2.out.trans (hb4.mono HB2.out.size))
          have HW4 := Lib.hid (HB3.out.trans (hb4.mono HB3.out.size))
          clear hwh hb4 c0 c1 c2 c3
          cases v with
          | none =>
            have hno : lkI B R (k : Int) = none := HLI.out
            have HNO := Lib.hid hno
            clear hno
            go_wp2_with (fail)
            go_roundw
            case rel =>
              refine ⟨k + 1, n, by omega, by omega, by go_num, by rw [HGR.out, show 3 * (k + 1) = 3 * k + 3 by omega], ?_, HW4.out⟩
              rw [lkL_no HNO.out]
              exact World.ownsRow.kept HOF.out (below_grown (HB4.out)) (none_or _)
            case measure => simp [RowKit.intOf] <;> omega
          | some q =>
            have hrd := read_ref (M := M) (L := L) (F := F) (B := B) (k : Int) 0 q (HS.out.1.below HW4.out) (HS.out.2.1.next HW4.out) HS.out.2.2.1 HS.out.2.2.2
            go_wp2_with (fail)
            refine hrd.mono ?_
            rintro e w2 ⟨xa, xn, xc, rfl, hpin, hb2⟩
            obtain ⟨zs, hzs⟩ : ∃ zs, zs = rbL B R 3 (k : Int) 0 q := ⟨_, rfl⟩
            obtain ⟨er, her⟩ : ∃ er, er = rbE B R 3 (k : Int) 0 q := ⟨_, rfl⟩
            rw [← hzs] at hpin ⊢
            rw [← her]
            obtain ⟨o1, ho1⟩ : ∃ o1, o1 = decN zs 4 2 := ⟨_, rfl⟩
            obtain ⟨i1, hi1⟩ : ∃ i1, i1 = decN zs 6 2 := ⟨_, rfl⟩
            rw [← ho1, ← hi1]
            obtain ⟨W3, hW3⟩ : ∃ W3, W3 = w2.alloc (.cells #[.int .i64 o1, .int .i64 i1, .slice xa xn xc] 65 (0, 0)) := ⟨_, rfl⟩
            obtain ⟨gb, hgb⟩ : ∃ gb, gb = w2.heap.size := ⟨_, rfl⟩
            have hb3 : Below w2.heap.size w2 W3 := by rw [hW3]; exact (Below.refl _ _).alloc (Nat.le_refl _) _
            have hx3 : Gx W3 gb o1 i1 (.slice xa xn xc) := by rw [hW3, hgb]; exact Gx.mk' _ _ _ _ _
            have hpin3 := hpin.next hb3
            have HBT := Lib.hid (HW4.out.trans ((hb2.trans (hb3.mono hb2.size)).mono HW4.out.size))
            have HBO := Lib.hid (HB4.out.trans ((hb2.trans (hb3.mono hb2.size)).mono HB4.out.size))
            have HZ := Lib.hid (And.intro hzs (And.intro ho1 hi1))
            have HER := Lib.hid her
            have HGX := Lib.hid hx3
            have hxn : (decL zs).length = xn := hpin3.bys.len
            have hx56 : xn ≤ 56 := by rw [← hxn]; exact decLn_le zs
            obtain ⟨ok, hok⟩ : ∃ ok, ok = gsO 3 3 12 o1 i1 xn (decL zs) := ⟨_, rfl⟩
            obtain ⟨t1, ht1⟩ : ∃ t, t = if ok then tv xn (decL zs) 1 else 0 := ⟨_, rfl⟩
            obtain ⟨t2, ht2⟩ : ∃ t, t = if ok then tv xn (decL zs) 2 else 0 := ⟨_, rfl⟩
            obtain ⟨t3, ht3⟩ : ∃ t, t = if ok then tv xn (decL zs) 3 else 0 := ⟨_, rfl⟩
            obtain ⟨t4, ht4⟩ : ∃ t, t = if ok then tv xn (decL zs) 4 else 0 := ⟨_, rfl⟩
            have hget : ∀ W, Below W3.heap.size W3 W → Calls Tryz.prog 48 #[gv 3 3 12, .agg #[.int .i64 o1, .int .i64 i1, .slice xa xn xc]] W fun e w' => e = .returned (.tuple #[.agg #[.int .i64 t1, .int .i64 t2, .int .i64 t3, .int .i64 t4], .bool ok]) ∧ Below W.heap.size W w' := fun W hb => by
              have := rgetSum_any 3 3 12 o1 i1 xa xn xc (decL zs) W (hpin3.next hb) (by omega)
              rw [← hok] at this
              rw [ht1, ht2, ht3, ht4]
              cases ok
              · exact this
              · exact this
            have HGET := Lib.hid hget
            have hlkT : ok = lkS B R k q ∧ (ok = true → t1 = lkT B R k q 1 ∧ t2 = lkT B R k q 2 ∧ t3 = lkT B R k q 3 ∧ t4 = lkT B R k q 4) := by
              unfold lkS lkT
              rw [← HZ.out.1, ← HZ.out.2.1, ← HZ.out.2.2, hxn, HS.out.2.2.2.d, HS.out.2.2.2.r, HS.out.2.2.2.s]
              refine ⟨hok, fun h => ?_⟩
              rw [ht1, ht2, ht3, ht4, if_pos h, if_pos h, if_pos h, if_pos h]
              exact ⟨rfl, rfl, rfl, rfl⟩
            have HLT := Lib.hid hlkT
            have hgbb : ∀ W, Below W3.heap.size W3 W → W.cell? ⟨b, 1, none⟩ = some (.int .i64 3) ∧ W.cell? ⟨b, 2, none⟩ = some (.int .i64 3) ∧ W.cell? ⟨b, 3, none⟩ = some (.int .i64 12) := fun W hb => by
              have hq := (HS.out.2.1.next HBT.out).next hb
              have e1 := hq.c1
              have e2 := hq.c2
              have e3 := hq.c3
              rw [HS.out.2.2.2.d] at e1
              rw [HS.out.2.2.2.r] at e2
              rw [HS.out.2.2.2.s] at e3
              exact ⟨e1, e2, e3⟩
            have HGB := Lib.hid hgbb
            have hr3 := hgbb W3 (Below.refl _ _)
            have b0 := hx3.c0
            have b1 := hx3.c1
            have b2 := hx3.c2
            clear hget hlkT ht1 ht2 ht3 ht4 hok hxn hzs her ho1 hi1 hpin hb2 hb3 hx3 hpin3 hgbb hrd
            go_wp2_with (fail)
            rw [← hW3, ← hgb]
            clear hW3 hgb
            refine wp_region_held_drew (S := fun w' => (w'.cell? ⟨b, 1, none⟩ = some (.int .i64 3) ∧ w'.cell? ⟨b, 2, none⟩ = some (.int .i64 3) ∧ w'.cell? ⟨b, 3, none⟩ = some (.int .i64 12)) ∧ w'.cell? ⟨gb, 0, none⟩ = some (.int .i64 o1) ∧ w'.cell? ⟨gb, 1, none⟩ = some (.int .i64 i1) ∧ w'.cell? ⟨gb, 2, none⟩ = some (.slice xa xn xc)) (by kernel_rfl) ?_ (fun hHeld => ?_)
            · exact ⟨hr3, b0, b1, b2⟩
            have HBd : Hid (Below W3.heap.size W3 W3.drew) := below_drewN (Below.refl _ _) 1
            generalize hY1 : W3.drew = Y1 at *
            clear hY1 hr3 b0 b1 b2
            refine rgY 0 ?_ rfl (by kernel_rfl) (fun _ _ _ h => h) (.inl ⟨by rfl, fun w hSw => ?_⟩) (by assumption) ?_
            rotate_left
            · (try dsimp only at hSw); go_simp; try with_reducible rfl
            simp only [Act.put, rg1, rg2, rg3, rg4, rg6]
            refine rgY 1 ?_ rfl (by kernel_rfl) (fun _ _ _ h => h) (.inl ⟨by rfl, fun w hSw => ?_⟩) (by assumption) ?_
            rotate_left
            · (try dsimp only at hSw); go_simp; try with_reducible rfl
            simp only [Act.put, rg1, rg2, rg3, rg4, rg5, rg6]
            refine rgY 2 ?_ rfl (by kernel_rfl) (fun _ _ _ h => h) (.inl ⟨by rfl, fun w hSw => ?_⟩) (by assumption) ?_
            rotate_left
            · (try dsimp only at hSw); go_simp; try with_reducible rfl
            simp only [Act.put, rg1, rg2, rg3, rg4, rg5, rg6]
            refine rgY 3 ?_ rfl (by kernel_rfl) (fun _ _ _ h => h) (.inl ⟨by rfl, fun w hSw => ?_⟩) (by assumption) ?_
            rotate_left
            · (try dsimp only at hSw); go_simp; try with_reducible rfl
            simp only [Act.put, rg1, rg2, rg3, rg4, rg5, rg6]
            refine rgY 4 ?_ rfl (by kernel_rfl) (fun _ _ _ h => h) (.inl ⟨by rfl, fun w hSw => ?_⟩) (by assumption) ?_
            rotate_left
            · (try dsimp only at hSw); go_simp; try with_reducible rfl
            simp only [Act.put, rg1, rg2, rg3, rg4, rg5, rg6]
            refine wpAnyH_ready (rs := [5, 9]) (by kernel_rfl) (by simp) ?_
            refine AllReadyH.cons rfl (fun K hK => ?_) (AllReadyH.cons rfl (fun K hK => ?_) AllReadyH.nil)
            · simp only [List.getElem_toArray, List.getElem_cons_succ, List.getElem_cons_zero]
              go_simp
              refine (HGET.out _ HBd.out).mono ?_
              rintro e w5 ⟨rfl, hb5⟩
              have HB5 := Lib.hid (HBd.out.trans (hb5.mono HBd.out.size))
              have hg5 := HGX.out.next HB5.out
              have hr5 := (HGB.out w5 HB5.out)
              clear hb5
              go_wp2_with (fail)
              refine hK.out _ _ ⟨hr5, hg5.c0, hg5.c1, hg5.c2⟩ (fun hHeld => ?_)
              clear hK K hr5
              refine rgY 6 ?_ rfl (by kernel_rfl) (fun _ _ _ h => h) (.inl ⟨by rfl, fun w hSw => ?_⟩) (by assumption) ?_
              rotate_left
              · (try dsimp only at hSw); go_simp; try with_reducible rfl
              simp only [Act.put, rg1, rg2, rg3, rg4, rg5, rg6]
              refine rgY 7 ?_ rfl (by kernel_rfl) (fun _ _ _ h => h) (.inl ⟨by rfl, fun w hSw => ?_⟩) (by assumption) ?_
              rotate_left
              · (try dsimp only at hSw); go_simp; try with_reducible rfl
              simp only [Act.put, rg1, rg2, rg3, rg4, rg5, rg6]
              refine rgY 8 ?_ rfl (by kernel_rfl) (fun _ _ _ h => h) (.inl ⟨by rfl, fun w hSw => ?_⟩) (by assumption) ?_
              rotate_left
              · (try dsimp only at hSw); go_simp; try with_reducible rfl
              simp only [Act.put, rg1, rg2, rg3, rg4, rg5, rg6]
              refine wpAnyH_ready (rs := [9]) (by kernel_rfl) (by simp) ?_
              refine AllReadyH.cons rfl (fun K hK => ?_) AllReadyH.nil
              simp only [List.getElem_toArray, List.getElem_cons_succ, List.getElem_cons_zero]
              go_simp
              have hb6 := (Below.refl w5.heap.size w5).alloc (Nat.le_refl _) (.cells #[.int .i64 0, .int .i64 0, .int .i64 0, .int .i64 0] 57 (0, 0))
              have hg6 := hg5.next hb6
              have hr6 := HGB.out _ (HB5.out.trans (hb6.mono HB5.out.size))
              refine hK.out _ _ ⟨hr6, hg6.c0, hg6.c1, hg6.c2⟩ (fun hHeld => ?_)
              clear hK K hg6 hr6 hb6
              refine wpAnyH_ready (rs := [10]) (by kernel_rfl) (by simp) ?_
              refine AllReadyH.cons rfl (fun K hK => ?_) AllReadyH.nil
              simp only [List.getElem_toArray, List.getElem_cons_succ, List.getElem_cons_zero]
              go_simp
              have hb7 := (Below.refl w5.heap.size w5).alloc (Nat.le_refl _) (.cells #[.int .i64 t1, .int .i64 t2, .int .i64 t3, .int .i64 t4] 57 (0, 0))
              have hg7 := hg5.next hb7
              have hr7 := HGB.out _ (HB5.out.trans (hb7.mono HB5.out.size))
              refine hK.out _ _ ⟨hr7, hg7.c0, hg7.c1, hg7.c2⟩ (fun hHeld => ?_)
              clear hK K hg7 hg5 hr7 hb7
              refine rgY 11 ?_ rfl (by kernel_rfl) (fun _ _ _ h => h) (.inl ⟨by rfl, fun w hSw => ?_⟩) (by assumption) ?_
              rotate_left
              · (try dsimp only at hSw); go_simp; try with_reducible rfl
              simp only [Act.put, rg1, rg2, rg3, rg4, rg5, rg6]
              obtain ⟨Z, hZ⟩ : ∃ Z, Z = w5.alloc (.cells #[.int .i64 t1, .int .i64 t2, .int .i64 t3, .int .i64 t4] 57 (0, 0)) := ⟨_, rfl⟩
              obtain ⟨tb, htb⟩ : ∃ tb, tb = w5.heap.size := ⟨_, rfl⟩
              have hm := M4.mk' w5 t1 t2 t3 t4 57
              have hbz : Below W3.heap.size W3 Z := by rw [hZ]; exact HB5.out.alloc HB5.out.size _
              rw [← hZ, ← htb] at hm ⊢
              clear hZ htb
              have m0 := hm.c0
              have m1 := hm.c1
              have m2 := hm.c2
              have m3 := hm.c3
              have HZ9 := Lib.hid (And.intro (HBT.out.trans (hbz.mono HBT.out.size)) (HBO.out.trans (hbz.mono HBO.out.size)))
              clear hm hbz
              refine wpAnyH_done (by kernel_rfl) ?_ _
              clear hHeld
              by_cases hE : er = 0
              · subst hE
                cases ok
                · have hno : lkI B R (k : Int) = none := by rw [HLI.out, ← HLT.out.1]; rfl
                  have HNO := Lib.hid hno
                  clear hno
                  go_wp2_with (fail)
                  go_roundw
                  case rel =>
                    refine ⟨k + 1, n, by omega, by omega, by go_num, by rw [HGR.out, show 3 * (k + 1) = 3 * k + 3 by omega], ?_, HZ9.out.1⟩
                    rw [lkL_no HNO.out]
                    exact World.ownsRow.kept HOF.out (below_grown (HZ9.out.2)) (none_or _)
                  case measure => simp [RowKit.intOf] <;> omega
                · have hyes : lkI B R (k : Int) = some ⟨k, q, t1, t2, t3, t4⟩ := by
                    obtain ⟨e1, e2, e3, e4⟩ := HLT.out.2 (by first | rfl | trivial)
                    rw [HLI.out, ← HLT.out.1, if_pos rfl, ← e1, ← e2, ← e3, ← e4]
                  have HYES := Lib.hid hyes
                  obtain ⟨w8, hw8⟩ : ∃ w8, w8 = Z.alloc (.cells #[.int .i64 k, .int .i64 q, .int .i64 t1, .int .i64 t2, .int .i64 t3, .int .i64 t4] 59 (0, 0)) := ⟨_, rfl⟩
                  have hb8 : Below Z.heap.size Z w8 := by rw [hw8]; exact (Below.refl _ _).alloc (Nat.le_refl _) _
                  have hi8 : w8.heap[Z.heap.size]? = some (.cells #[.int .i64 k, .int .i64 q, .int .i64 t1, .int .i64 t2, .int .i64 t3, .int .i64 t4] 59 (0, 0)) := by rw [hw8]; exact (MapKept.heap_alloc _ _).1
                  have hxc := ifc_at hi8
                  have hof8 : OwnF w8 w.heap.size u5 n (lkL B R k) := World.ownsRow.kept (World.ownsRow.kept HOF.out (below_grown HZ9.out.2) (none_or _)) (below_grown hb8) (none_or _)
                  obtain ⟨LK, hLK⟩ : ∃ LK, LK = lkL B R k := ⟨_, rfl⟩
                  rw [← hLK] at hof8
                  have HLK := Lib.hid hLK
                  have hB8 : Below w.heap.size w w8 := HZ9.out.1.trans (hb8.mono HZ9.out.1.size)
                  have HB8 := Lib.hid hB8
                  have hs8 : w.heap.size ≤ w8.heap.size := hB8.size
                  have hn1 : n + 1 ≤ 1000000000000 := by omega
                  have HLT5 := Lib.hid (World.ownsRow.lt HOF.out)
                  clear hb8 hi8 hLK hB8 hyes
                  go_wp2_with (at_builtin; rw [← hw8]; go_must (refine wpList_apf rfl (.tmp 107) (.tmp 112) rfl w.heap.size u5 n LK rfl hof8 Z.heap.size ⟨k, q, t1, t2, t3, t4⟩ rfl hxc hn1 hs8 ?_); intro g' cap' w9 ho9 hg9 hat9; have HO9 := Lib.hid (And.intro ho9 hg9); clear ho9 hg9 hat9 hof8 hxc hw8)
                  go_roundw
                  case rel =>
                    refine ⟨k + 1, n + 1, by omega, by omega, by go_num, by rw [HGR.out, show 3 * (k + 1) = 3 * k + 3 by omega], ?_, HB8.out.grown HO9.out.2 hs8 (fun j hj => (HLT5.out j hj).1)⟩
                    rw [lkL_yes HYES.out, ← HLK.out]
                    exact HO9.out.1
                  case measure => simp [RowKit.intOf] <;> omega
              · have hEb : (er == 0) = false := by simpa using hE
                have hno : lkI B R (k : Int) = none := by rw [HLI.out, lk_bad (by rw [← HER.out]; exact hE)]; rfl
                have HNO := Lib.hid hno
                clear hno hE
                go_wp2_with (fail)
                go_roundw
                case rel =>
                  refine ⟨k + 1, n, by omega, by omega, by go_num, by rw [HGR.out, show 3 * (k + 1) = 3 * k + 3 by omega], ?_, HZ9.out.1⟩
                  rw [lkL_no HNO.out]
                  exact World.ownsRow.kept HOF.out (below_grown (HZ9.out.2)) (none_or _)
                case measure => simp [RowKit.intOf] <;> omega
            · simp only [List.getElem_toArray, List.getElem_cons_succ, List.getElem_cons_zero]
              go_simp
              obtain ⟨tb, htb⟩ : ∃ tb, tb = Y1.heap.size := ⟨_, rfl⟩
              obtain ⟨w4a, hw4a⟩ : ∃ w4a, w4a = Y1.alloc (.cells #[.int .i64 0, .int .i64 0, .int .i64 0, .int .i64 0] 57 (0, 0)) := ⟨_, rfl⟩
              have hm4 : M4 w4a tb 0 0 0 0 := by rw [hw4a, htb]; exact M4.mk' _ _ _ _ _ _
              have hb4a : Below W3.heap.size W3 w4a := by rw [hw4a]; exact HBd.out.alloc HBd.out.size _
              have htl : W3.heap.size ≤ tb := by rw [htb]; exact HBd.out.size
              have hg4 := HGX.out.next hb4a
              have hr4' := HGB.out _ hb4a
              rw [← hw4a, ← htb]
              clear hw4a htb
              refine hK.out _ _ ⟨hr4', hg4.c0, hg4.c1, hg4.c2⟩ (fun hHeld => ?_)
              clear hK K hg4 hr4'
              refine wpAnyH_ready (rs := [5]) (by kernel_rfl) (by simp) ?_
              refine AllReadyH.cons rfl (fun K hK => ?_) AllReadyH.nil
              simp only [List.getElem_toArray, List.getElem_cons_succ, List.getElem_cons_zero]
              go_simp
              refine (HGET.out _ hb4a).mono ?_
              rintro e w5 ⟨rfl, hb5⟩
              have HB5 := Lib.hid (hb4a.trans (hb5.mono hb4a.size))
              have hg5 := HGX.out.next HB5.out
              have hr5 := HGB.out _ HB5.out
              have hm5 := hm4.next hb5
              clear hb5 hm4 hb4a
              go_wp2_with (fail)
              refine hK.out _ _ ⟨hr5, hg5.c0, hg5.c1, hg5.c2⟩ (fun hHeld => ?_)
              clear hK K hr5
              refine rgY 6 ?_ rfl (by kernel_rfl) (fun _ _ _ h => h) (.inl ⟨by rfl, fun w hSw => ?_⟩) (by assumption) ?_
              rotate_left
              · (try dsimp only at hSw); go_simp; try with_reducible rfl
              simp only [Act.put, rg1, rg2, rg3, rg4, rg5, rg6]
              refine rgY 7 ?_ rfl (by kernel_rfl) (fun _ _ _ h => h) (.inl ⟨by rfl, fun w hSw => ?_⟩) (by assumption) ?_
              rotate_left
              · (try dsimp only at hSw); go_simp; try with_reducible rfl
              simp only [Act.put, rg1, rg2, rg3, rg4, rg5, rg6]
              refine rgY 8 ?_ rfl (by kernel_rfl) (fun _ _ _ h => h) (.inl ⟨by rfl, fun w hSw => ?_⟩) (by assumption) ?_
              rotate_left
              · (try dsimp only at hSw); go_simp; try with_reducible rfl
              simp only [Act.put, rg1, rg2, rg3, rg4, rg5, rg6]
              have HM5 := Lib.hid hm5
              have HTB := Lib.hid htl
              have r0 := hm5.c0
              have r1 := hm5.c1
              have r2 := hm5.c2
              have r3 := hm5.c3
              have q0 := hm5.f0
              have q1 := hm5.f1
              have q2 := hm5.f2
              have q3 := hm5.f3
              have htne : gb ≠ tb := by have := HGX.out.lt; omega
              have hg7 : Gx (set4 w5 tb t1 t2 t3 t4) gb o1 i1 (.slice xa xn xc) := by
                have hne : ∀ j k : Nat, (⟨tb, j, none⟩ : Addr) ≠ ⟨gb, k, none⟩ := fun j k e => htne (congrArg Addr.block e).symm
                refine ⟨by simpa [set4] using hg5.lt, ?_, ?_, ?_, by simpa [set4] using hg5.f0, by simpa [set4] using hg5.f1, by simpa [set4] using hg5.f2⟩
                · rw [set4, set_othG (hne _ _), set_othG (hne _ _), set_othG (hne _ _), set_othG (hne _ _)]; exact hg5.c0
                · rw [set4, set_othG (hne _ _), set_othG (hne _ _), set_othG (hne _ _), set_othG (hne _ _)]; exact hg5.c1
                · rw [set4, set_othG (hne _ _), set_othG (hne _ _), set_othG (hne _ _), set_othG (hne _ _)]; exact hg5.c2
              have hr7 := HGB.out _ (HB5.out.set4 (p := t1) (q := t2) (r := t3) (s := t4) HTB.out)
              clear hm5 htl htne
              refine wpAnyH_ready (rs := [10]) (by kernel_rfl) (by simp) ?_
              refine AllReadyH.cons rfl (fun K hK => ?_) AllReadyH.nil
              simp only [List.getElem_toArray, List.getElem_cons_succ, List.getElem_cons_zero]
              go_simp
              refine hK.out _ _ ⟨hr7, hg7.c0, hg7.c1, hg7.c2⟩ (fun hHeld => ?_)
              clear hK K hg7 hg5 hr7 r0 r1 r2 r3 q0 q1 q2 q3
              refine rgY 11 ?_ rfl (by kernel_rfl) (fun _ _ _ h => h) (.inl ⟨by rfl, fun w hSw => ?_⟩) (by assumption) ?_
              rotate_left
              · (try dsimp only at hSw); go_simp; try with_reducible rfl
              simp only [Act.put, rg1, rg2, rg3, rg4, rg5, rg6]
              obtain ⟨Z, hZ⟩ : ∃ Z, Z = (((w5.setCell ⟨tb, 0, none⟩ (.int .i64 t1)).setCell ⟨tb, 1, none⟩ (.int .i64 t2)).setCell ⟨tb, 2, none⟩ (.int .i64 t3)).setCell ⟨tb, 3, none⟩ (.int .i64 t4) := ⟨_, rfl⟩
              have hm : M4 Z tb t1 t2 t3 t4 := by rw [hZ]; exact HM5.out.set t1 t2 t3 t4
              have hbz : Below W3.heap.size W3 Z := by rw [hZ]; exact HB5.out.set4 HTB.out
              rw [← hZ]
              clear hZ
              have m0 := hm.c0
              have m1 := hm.c1
              have m2 := hm.c2
              have m3 := hm.c3
              have HZ9 := Lib.hid (And.intro (HBT.out.trans (hbz.mono HBT.out.size)) (HBO.out.trans (hbz.mono HBO.out.size)))
              clear hm hbz
              refine wpAnyH_done (by kernel_rfl) ?_ _
              clear hHeld
              by_cases hE : er = 0
              · subst hE
                cases ok
                · have hno : lkI B R (k : Int) = none := by rw [HLI.out, ← HLT.out.1]; rfl
                  have HNO := Lib.hid hno
                  clear hno
                  go_wp2_with (fail)
                  go_roundw
                  case rel =>
                    refine ⟨k + 1, n, by omega, by omega, by go_num, by rw [HGR.out, show 3 * (k + 1) = 3 * k + 3 by omega], ?_, HZ9.out.1⟩
                    rw [lkL_no HNO.out]
                    exact World.ownsRow.kept HOF.out (below_grown (HZ9.out.2)) (none_or _)
                  case measure => simp [RowKit.intOf] <;> omega
                · have hyes : lkI B R (k : Int) = some ⟨k, q, t1, t2, t3, t4⟩ := by
                    obtain ⟨e1, e2, e3, e4⟩ := HLT.out.2 (by first | rfl | trivial)
                    rw [HLI.out, ← HLT.out.1, if_pos rfl, ← e1, ← e2, ← e3, ← e4]
                  have HYES := Lib.hid hyes
                  obtain ⟨w8, hw8⟩ : ∃ w8, w8 = Z.alloc (.cells #[.int .i64 k, .int .i64 q, .int .i64 t1, .int .i64 t2, .int .i64 t3, .int .i64 t4] 59 (0, 0)) := ⟨_, rfl⟩
                  have hb8 : Below Z.heap.size Z w8 := by rw [hw8]; exact (Below.refl _ _).alloc (Nat.le_refl _) _
                  have hi8 : w8.heap[Z.heap.size]? = some (.cells #[.int .i64 k, .int .i64 q, .int .i64 t1, .int .i64 t2, .int .i64 t3, .int .i64 t4] 59 (0, 0)) := by rw [hw8]; exact (MapKept.heap_alloc _ _).1
                  have hxc := ifc_at hi8
                  have hof8 : OwnF w8 w.heap.size u5 n (lkL B R k) := World.ownsRow.kept (World.ownsRow.kept HOF.out (below_grown HZ9.out.2) (none_or _)) (below_grown hb8) (none_or _)
                  obtain ⟨LK, hLK⟩ : ∃ LK, LK = lkL B R k := ⟨_, rfl⟩
                  rw [← hLK] at hof8
                  have HLK := Lib.hid hLK
                  have hB8 : Below w.heap.size w w8 := HZ9.out.1.trans (hb8.mono HZ9.out.1.size)
                  have HB8 := Lib.hid hB8
                  have hs8 : w.heap.size ≤ w8.heap.size := hB8.size
                  have hn1 : n + 1 ≤ 1000000000000 := by omega
                  have HLT5 := Lib.hid (World.ownsRow.lt HOF.out)
                  clear hb8 hi8 hLK hB8 hyes
                  go_wp2_with (at_builtin; rw [← hw8]; go_must (refine wpList_apf rfl (.tmp 107) (.tmp 112) rfl w.heap.size u5 n LK rfl hof8 Z.heap.size ⟨k, q, t1, t2, t3, t4⟩ rfl hxc hn1 hs8 ?_); intro g' cap' w9 ho9 hg9 hat9; have HO9 := Lib.hid (And.intro ho9 hg9); clear ho9 hg9 hat9 hof8 hxc hw8)
                  go_roundw
                  case rel =>
                    refine ⟨k + 1, n + 1, by omega, by omega, by go_num, by rw [HGR.out, show 3 * (k + 1) = 3 * k + 3 by omega], ?_, HB8.out.grown HO9.out.2 hs8 (fun j hj => (HLT5.out j hj).1)⟩
                    rw [lkL_yes HYES.out, ← HLK.out]
                    exact HO9.out.1
                  case measure => simp [RowKit.intOf] <;> omega
              · have hEb : (er == 0) = false := by simpa using hE
                have hno : lkI B R (k : Int) = none := by rw [HLI.out, lk_bad (by rw [← HER.out]; exact hE)]; rfl
                have HNO := Lib.hid hno
                clear hno hE
                go_wp2_with (fail)
                go_roundw
                case rel =>
                  refine ⟨k + 1, n, by omega, by omega, by go_num, by rw [HGR.out, show 3 * (k + 1) = 3 * k + 3 by omega], ?_, HZ9.out.1⟩
                  rw [lkL_no HNO.out]
                  exact World.ownsRow.kept HOF.out (below_grown (HZ9.out.2)) (none_or _)
                case measure => simp [RowKit.intOf] <;> omega
    -- LAST
    · obtain rfl : k = 12 := by omega
      go_wp2_with (fail)
      exact bodyPost_ret (v := .tuple #[u5, .int .i64 gk, .int .i64 0]) (by simp [results, Tryz.results20, go_sem]) rfl ⟨u5, n, by rw [HG.out.1, HGK.out], by rw [HG.out.2]; exact HOF.out, HB.out⟩
end
end Go.Proofs.YtacnhlmhibhlhaaGreat

/-
  Both Looks by one word: what they answer, whatever the power.
-/
namespace Go.Proofs.YtacnhlmhibhlhaaGreat
open Go.RowKit
set_option linter.unusedVariables false
/-- What Look answers. -/
def LoPost (B : Bn) (R : Rk) (w0 : World) (e : Ending) (w' : World) : Prop := ∃ v n, e = .returned (.tuple #[v, .int .i64 (if R.off then 0 else grM B R 36), .int .i64 (if R.off then 12 else 0)]) ∧ OwnF w' w0.heap.size v n (if R.off then [] else lkL B R 12) ∧ Below w0.heap.size w0 w'
section
variable {M : Nat → Prop} {L : RLay} {R : Rk} {F : Rf} {w : World} {B : Bn} {b : Nat}
theorem rlook_off (hr : RefAt w M L F) (hb : RbAt w b L.p B) (hrel : Rel R F) (ho : R.off = true) :
    Calls Tryz.prog 20 #[.pointer (some ⟨b, 0, none⟩)] w fun e w' => e = .returned (.tuple #[.slice none 0 0, .int .i64 0, .int .i64 12]) ∧ Below w.heap.size w w' := by
  have c0 := hb.c0
  have c7 := hr.c7
  rw [← hrel.off, ho] at c7
  clear hr hb hrel ho
  go_enter Tryz.func20, Tryz.ntmps20
  go_wp2_with (fail)
  exact bodyPost_ret (v := .tuple #[.slice none 0 0, .int .i64 0, .int .i64 12]) (by simp [results, Tryz.results20, go_sem]) rfl ⟨rfl, Below.refl _ _⟩
theorem rlook_any (hr : RefAt w M L F) (hb : RbAt w b L.p B) (hrel : Rel R F) (hS : Sml B) :
    Calls Tryz.prog 20 #[.pointer (some ⟨b, 0, none⟩)] w (LoPost B R w) := by
  cases ho : R.off with
  | true =>
    refine (rlook_off hr hb hrel ho).mono ?_
    rintro e w' ⟨rfl, hb⟩
    refine ⟨.slice none 0 0, 0, ?_, ?_, hb⟩
    · rw [ho]; rfl
    · rw [ho]; exact World.ownsRow_nil _ _ _ _
  | false =>
    refine (rlook_on hr hb hrel hS ho).mono ?_
    rintro e w' ⟨v, n, rfl, hf, hb⟩
    refine ⟨v, n, ?_, ?_, hb⟩
    · rw [ho]; rfl
    · rw [ho]; exact hf
end
theorem look_any {w0 w : World} {M : Nat → Prop} {L : Lay} {b : Nat} {R : Rk} {B : Bn} (hB : Sml B) (h : St w0 M L b R B w) :
    Calls Tryz.prog 19 #[.pointer (some ⟨b, 0, none⟩)] w (LoPost B R w) := by
  cases ho : R.off with
  | true =>
    refine (look_off ⟨hB.d, hB.r, hB.s⟩ h ho).mono ?_
    rintro e w' ⟨rfl, hb⟩
    refine ⟨.slice none 0 0, 0, ?_, ?_, hb⟩
    · rw [ho]; rfl
    · rw [ho]; exact World.ownsRow_nil _ _ _ _
  | false =>
    refine (look_on ⟨hB.d, hB.r, hB.s⟩ h ho).mono ?_
    rintro e w' ⟨v, n, rfl, hf, hb⟩
    refine ⟨v, n, ?_, ?_, hb⟩
    · rw [ho]; rfl
    · rw [ho]; exact hf
end Go.Proofs.YtacnhlmhibhlhaaGreat
