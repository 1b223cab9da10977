/-
  The greatest Seq that any sector of a segment tells, by contract.
-/
import Derived.Test.YtegmeoghonolcaaGreatLk
import Derived.Test.YtegmeoghonolcaaGreatAl
set_option linter.unusedSimpArgs false
set_option linter.unusedVariables false
namespace Go.Proofs.YtegmeoghonolcaaGreat
open Go.RowKit
set_option linter.unusedVariables false
/-- The greatest of m and what rows tell. -/
def mxL (m : Int) (ls : List (List Int)) : Int := ls.foldl (fun m x => max m (decN x 0 4)) m
/-- .. of the first k sectors of segments. -/
def grM (B : Bn) (R : Rk) : Nat → Int
  | 0 => 0
  | k + 1 => mxL (grM B R k) (alL B (5 + (k : Int)) R B.num)
theorem mxL_take (m : Int) (ls : List (List Int)) (j : Nat) (h : j < ls.length) : mxL m (ls.take (j + 1)) = max (mxL m (ls.take j)) (decN (ls.getD j []) 0 4) := by
  unfold mxL
  rw [List.take_add_one, List.getElem?_eq_getElem h, List.foldl_append]
  simp [List.getD, h]
section
variable {w0 w w' : World} {M : Nat → Prop} {L : Lay} {b : Nat} {R : Rk} {B : Bn}
set_option maxRecDepth 100000 in
set_option maxHeartbeats 4000000 in
theorem greatest_any (hB : Sm8 B) (h : St w0 M L b R B w) :
    Calls Tryz.prog 43 #[.pointer (some ⟨b, 0, none⟩)] w fun e w' => e = .returned (.int .i64 (grM B R 36)) ∧ Below w.heap.size w w' := by
  have HH := Lib.hid h
  have HSM := Lib.hid hB
  have hgd : B.d = 3 ∧ B.r = 3 ∧ B.s = 12 := ⟨hB.d, hB.r, hB.s⟩
  have HGD := Lib.hid hgd
  clear h hgd hB
  go_enter Tryz.func43, Tryz.ntmps43
  go_wp2_with (fail)
  go_loopw [3, 4, 6, 7, 8, 9] (fun u v _ _ _ _ wr => ∃ k : Nat, k ≤ 36 ∧ v = .int .i64 (5 + (k : Int)) ∧ u = .int .i64 (grM B R k) ∧ Below w.heap.size w wr) (fun _ v _ _ _ _ _ => 41 - (RowKit.intOf v).toNat)
  case atStart => exact ⟨0, Nat.zero_le _, rfl, rfl, Below.refl _ _⟩
  case round =>
    obtain ⟨k, hk, rfl, rfl, hB⟩ := hrel
    have hge := geo_any (b := b) (B := B) (HH.out.next hB).bk
    have hsc := fun W => sectors_yes B.d B.r B.s W HSM.out.rt
    rw [HGD.out.1, HGD.out.2.1, HGD.out.2.2] at hge
    rw [HGD.out.1, HGD.out.2.1, HGD.out.2.2] at hsc
    have HB := Lib.hid hB
    obtain ⟨gm, hgm⟩ : ∃ gm, gm = grM B R k := ⟨_, rfl⟩
    rw [← hgm]
    have HGM := Lib.hid hgm
    clear hB hgm
    go_wp2_with (fail)
    refine hge.mono ?_
    rintro e w1 ⟨rfl, hb1⟩
    have HB1 := Lib.hid (HB.out.trans (hb1.mono HB.out.size))
    clear hge hb1
    go_wp2_with (fail)
    refine (hsc _).mono ?_
    rintro e w2 ⟨rfl, hb2⟩
    have HB2 := Lib.hid (HB1.out.trans (hb2.mono HB1.out.size))
    clear hsc hb2
    by_cases hlt : k < 36
    · have hst2 := HH.out.next HB2.out
      have hal := all_bank M L R w2 b 3 B (5 + (k : Int)) hst2.rk hst2.bk HGD.out.1 (by omega)
      clear hst2
      go_wp2_with (fail)
      refine hal.mono ?_
      rintro e w3 ⟨v, f, rfl, ho, hra, hb3⟩
      obtain ⟨ls, hls⟩ : ∃ ls, ls = alL B (5 + (k : Int)) R B.num := ⟨_, rfl⟩
      rw [← hls] at ho hra
      obtain ⟨a3, c3, rfl, hrw, _, _, _⟩ := ho.rws
      obtain ⟨ln, hln⟩ : ∃ ln, ln = ls.length := ⟨_, rfl⟩
      rw [← hln] at hrw ⊢
      have hl4 : ln ≤ 5 := by rw [hln, hls]; refine Nat.le_trans (alL_len ..) ?_; unfold Bn.num; rw [HGD.out.1]; split <;> decide
      have HL := Lib.hid (And.intro hls (And.intro hra (And.intro hln hrw)))
      have HB3 := Lib.hid (HB2.out.trans (hb3.mono HB2.out.size))
      clear hal ho hra hb3 hls hln hrw
      go_wp2_with (fail)
      go_loopw [3, 6, 7, 8, 9, 21] (fun u _ _ _ _ i wr => ∃ j : Nat, j ≤ ln ∧ i = .int .i64 j ∧ u = .int .i64 (mxL gm (ls.take j)) ∧ Below w3.heap.size w3 wr) (fun _ _ _ _ _ i _ => ln - (RowKit.intOf i).toNat)
      case atStart => exact ⟨0, Nat.zero_le _, rfl, rfl, Below.refl _ _⟩
      case round =>
        obtain ⟨j, hj, rfl, rfl, hBj⟩ := hrel
        have HBJ := Lib.hid hBj
        obtain ⟨mj, hmj⟩ : ∃ mj, mj = mxL gm (ls.take j) := ⟨_, rfl⟩
        rw [← hmj]
        have HMJ := Lib.hid hmj
        clear hmj
        by_cases hjl : j < ln
        · obtain ⟨hls, hra, hln, hrw⟩ := HL.out
          have hrw' := hrw.next hBj
          obtain ⟨rb, ro, rfl, hrl, hrc⟩ := hrw'.place.resolve_left (by omega)
          have y0 := hrc j hjl
          have hpj := hrw'.each j hjl
          obtain ⟨xs, hxs⟩ : ∃ xs, xs = (f j).zs := ⟨_, rfl⟩
          obtain ⟨xa, hxa⟩ : ∃ xa, xa = (f j).a := ⟨_, rfl⟩
          obtain ⟨xn, hxn⟩ : ∃ xn, xn = (f j).n := ⟨_, rfl⟩
          obtain ⟨xc, hxc⟩ : ∃ xc, xc = (f j).c := ⟨_, rfl⟩
          rw [← hxa, ← hxn, ← hxc, ← hxs] at hpj
          rw [← hxa, ← hxn, ← hxc] at y0
          have hdc := fun W (hb : Below wr.heap.size wr W) => dec_any xa xn xc xs W (hpj.next hb)
          have HDC := Lib.hid hdc
          have hmx : mxL gm (ls.take (j + 1)) = max mj (decN xs 0 4) := by
            rw [mxL_take _ _ _ (by omega), HMJ.out, hxs, hra j (by omega)]
          have HMX := Lib.hid hmx
          have k0 : (0 : Int) ≤ (j : Int) := by omega
          have k1 : (j : Int) < (ln : Int) := by omega
          clear hls hra hln hrw hrw' hrc hpj hxs hxa hxn hxc hdc hmx hBj
          go_wp2_with (fail)
          refine (HDC.out _ (Below.refl _ _)).mono ?_
          rintro e w5 ⟨da, dn, dc, rfl, _, hb5⟩
          obtain ⟨dz, hdz⟩ : ∃ dz, dz = decN xs 0 4 := ⟨_, rfl⟩
          rw [← hdz] at HMX ⊢
          have HB5 := Lib.hid (HBJ.out.trans (hb5.mono HBJ.out.size))
          clear hb5 hdz y0
          go_wp2_with (fail)
          go_roundw
          case rel => exact ⟨j + 1, by omega, by go_num, by rw [HMX.out], HB5.out.alloc HB5.out.size _⟩
          case measure => simp [RowKit.intOf] <;> omega
        · obtain rfl : j = ln := by omega
          go_wp2_with (fail)
          go_roundw
          case rel =>
            refine ⟨k + 1, by omega, by go_num, ?_, HB3.out.trans (HBJ.out.mono HB3.out.size)⟩
            obtain ⟨hls, hra, hln, hrw⟩ := HL.out
            rw [grM, ← HGM.out, ← hls, HMJ.out, List.take_of_length_le (by omega)]
          case measure => simp [RowKit.intOf] <;> omega
    · obtain rfl : k = 36 := by omega
      go_wp2_with (fail)
      go_ret
      exact ⟨by rw [HGM.out]; rfl, HB2.out⟩
end
end Go.Proofs.YtegmeoghonolcaaGreat

/-
  The program's Look, by contract.
-/
namespace Go.Proofs.YtegmeoghonolcaaGreat
open Go.RowKit
set_option linter.unusedVariables false
/-- The infos of the first k segments. -/
noncomputable def lkL (B : Bn) (R : Rk) (k : Nat) : List Inf := (List.range k).filterMap fun g : Nat => lkI B R (g : Int)
theorem lkL_yes {B : Bn} {R : Rk} {k : Nat} {x : Inf} (h : lkI B R (k : Int) = some x) : lkL B R (k + 1) = lkL B R k ++ [x] := by
  unfold lkL
  rw [List.range_succ, List.filterMap_append]
  simp [h]
theorem lkL_no {B : Bn} {R : Rk} {k : Nat} (h : lkI B R (k : Int) = none) : lkL B R (k + 1) = lkL B R k := by
  unfold lkL
  rw [List.range_succ, List.filterMap_append]
  simp [h]
/-- What Look answers, the power on. -/
def LooPost (L : List Inf) (m : Int) (w0 : World) (e : Ending) (w' : World) : Prop := ∃ v n, e = .returned (.tuple #[v, .int .i64 m, .int .i64 0]) ∧ OwnF w' w0.heap.size v n L ∧ Below w0.heap.size w0 w'
section
variable {w0 w w' : World} {M : Nat → Prop} {L : Lay} {b : Nat} {R : Rk} {B : Bn}
set_option maxRecDepth 100000 in
set_option maxHeartbeats 4000000 in
theorem look_off (hB : Sm8 B) (h : St w0 M L b R B w) (ho : R.off = true) :
    Calls Tryz.prog 19 #[.pointer (some ⟨b, 0, none⟩)] w fun e w' => e = .returned (.tuple #[.slice none 0 0, .int .i64 0, .int .i64 12]) ∧ Below w.heap.size w w' := by
  have hon := isOn_any hB h
  rw [ho] at hon
  have HON := Lib.hid hon
  clear h ho hon
  go_enter Tryz.func19, Tryz.ntmps19
  go_wp2_with (fail)
  refine HON.out.mono ?_
  rintro e w1 ⟨rfl, hb1⟩
  have HB1 := Lib.hid hb1
  clear HON hb1
  go_wp2_with (fail)
  exact bodyPost_ret (v := .tuple #[.slice none 0 0, .int .i64 0, .int .i64 12]) (by simp [results, Tryz.results19, go_sem]) rfl ⟨rfl, HB1.out⟩
set_option maxRecDepth 100000 in
set_option maxHeartbeats 4000000 in
theorem look_on (hB : Sm8 B) (h : St w0 M L b R B w) (ho : R.off = false) :
    Calls Tryz.prog 19 #[.pointer (some ⟨b, 0, none⟩)] w (LooPost (lkL B R 12) (grM B R 36) w) := by
  have hon := isOn_any hB h
  rw [ho] at hon
  have HON := Lib.hid hon
  have HH := Lib.hid h
  have HSM := Lib.hid hB
  obtain ⟨GM, hGM⟩ : ∃ m, m = grM B R 36 := ⟨_, rfl⟩
  rw [← hGM]
  have HGM := Lib.hid hGM
  clear h ho hon hB hGM
  go_enter Tryz.func19, Tryz.ntmps19
  go_wp2_with (fail)
  refine HON.out.mono ?_
  rintro e w1 ⟨rfl, hb1⟩
  have hge := geo_any (b := b) (B := B) (HH.out.next hb1).bk
  rw [HSM.out.d, HSM.out.r, HSM.out.s] at hge
  have hfd : ∀ (w : World) (p r s : Int), (Instr.field 33 (gv p r s) 2).run Tryz.prog w = .ok (.int .i64 s) w := fun _ _ _ _ => by kernel_rfl
  have HB1 := Lib.hid hb1
  clear HON hb1
  go_wp2_with (fail)
  refine hge.mono ?_
  rintro e w2 ⟨rfl, hb2⟩
  have HB2 := Lib.hid (HB1.out.trans (hb2.mono HB1.out.size))
  clear hge hb2
  go_wp2_with (fail)
  clear hfd
  go_loopw [5, 6, 7, 8, 15] (fun u _ _ _ i wr => ∃ k n : Nat, k ≤ 12 ∧ n ≤ k ∧ i = .int .i64 k ∧ OwnF wr w.heap.size u n (lkL B R k) ∧ Below w.heap.size w wr) (fun _ _ _ _ i _ => 12 - (RowKit.intOf i).toNat)
  case atStart => exact ⟨0, 0, Nat.zero_le _, Nat.zero_le _, rfl, World.ownsRow_nil _ _ _ _, HB2.out⟩
  case round =>
    obtain ⟨k, n, hk, hnk, rfl, hof, hB⟩ := hrel
    have HB := Lib.hid hB
    by_cases hlt : k < 12
    · have hin := infoOf_any HSM.out (k : Int) (HH.out.next hB)
      obtain ⟨o, hoo⟩ : ∃ o, o = lkI B R (k : Int) := ⟨_, rfl⟩
      rw [← hoo] at hin
      have HO := Lib.hid hoo
      have HOF := Lib.hid hof
      clear hoo hof hB
      cases o with
      | none =>
        have hin1 : Calls Tryz.prog 42 #[.pointer (some ⟨b, 0, none⟩), .int .i64 k] wr fun e w' => e = .returned (.tuple #[.agg #[.int .i64 0, .int .i64 0, .int .i64 0, .int .i64 0, .int .i64 0, .int .i64 0], .bool false]) ∧ Below wr.heap.size wr w' := hin
        clear hin
        go_wp2_with (fail)
        refine hin1.mono ?_
        rintro e w3 ⟨rfl, hb3⟩
        have HB3 := Lib.hid hb3
        clear hin1 hb3
        go_wp2_with (fail)
        go_roundw
        case rel =>
          have hbb := (Below.refl w3.heap.size w3).alloc (Nat.le_refl _) (.cells #[.int .i64 0, .int .i64 0, .int .i64 0, .int .i64 0, .int .i64 0, .int .i64 0] 59 (0, 0))
          refine ⟨k + 1, n, by omega, by omega, by go_num, ?_, (HB.out.trans (HB3.out.mono HB.out.size)).alloc (Nat.le_trans HB.out.size HB3.out.size) _⟩
          rw [lkL_no HO.out.symm]
          exact World.ownsRow.kept (World.ownsRow.kept HOF.out (below_grown HB3.out) (none_or _)) (World.grownBy_alloc _ _ _) (none_or _)
        case measure => simp [RowKit.intOf] <;> omega
      | some x =>
        obtain ⟨xg, xq, xc, xi, xb, xr⟩ := x
        have hin1 : Calls Tryz.prog 42 #[.pointer (some ⟨b, 0, none⟩), .int .i64 k] wr fun e w' => e = .returned (.tuple #[.agg #[.int .i64 xg, .int .i64 xq, .int .i64 xc, .int .i64 xi, .int .i64 xb, .int .i64 xr], .bool true]) ∧ Below wr.heap.size wr w' := hin
        clear hin
        go_wp2_with (fail)
        refine hin1.mono ?_
        rintro e w3 ⟨rfl, hb3⟩
        have HB3 := Lib.hid hb3
        clear hin1 hb3
        obtain ⟨w4, hw4⟩ : ∃ w4, w4 = (w3.alloc (.cells #[.int .i64 xg, .int .i64 xq, .int .i64 xc, .int .i64 xi, .int .i64 xb, .int .i64 xr] 59 (0, 0))).alloc (.cells #[.int .i64 xg, .int .i64 xq, .int .i64 xc, .int .i64 xi, .int .i64 xb, .int .i64 xr] 59 (0, 0)) := ⟨_, rfl⟩
        have hb4 : Below w3.heap.size w3 w4 := by rw [hw4]; exact bel2 _ _ _
        have hi4 : w4.heap[w3.heap.size + 1]? = some (.cells #[.int .i64 xg, .int .i64 xq, .int .i64 xc, .int .i64 xi, .int .i64 xb, .int .i64 xr] 59 (0, 0)) := by
          rw [hw4, show w3.heap.size + 1 = (w3.alloc (.cells #[.int .i64 xg, .int .i64 xq, .int .i64 xc, .int .i64 xi, .int .i64 xb, .int .i64 xr] 59 (0, 0))).heap.size by simp]
          exact (MapKept.heap_alloc _ _).1
        have hxc := ifc_at hi4
        have hof4 : OwnF w4 w.heap.size u5 n (lkL B R k) := World.ownsRow.kept (World.ownsRow.kept HOF.out (below_grown HB3.out) (none_or _)) (below_grown hb4) (none_or _)
        obtain ⟨LK, hLK⟩ : ∃ LK, LK = lkL B R k := ⟨_, rfl⟩
        rw [← hLK] at hof4
        have HLK := Lib.hid hLK
        have hB4 : Below w.heap.size w w4 := HB.out.trans ((HB3.out.trans (hb4.mono HB3.out.size)).mono HB.out.size)
        have HB4 := Lib.hid hB4
        have hs4 : w.heap.size ≤ w4.heap.size := hB4.size
        have hn1 : n + 1 ≤ 1000000000000 := by omega
        have HLT := Lib.hid (World.ownsRow.lt HOF.out)
        clear hb4 hi4 hLK hB4
        go_wp2_with (at_builtin; rw [← hw4]; go_must (refine wpList_apf rfl (.tmp 25) (.tmp 27) rfl w.heap.size u5 n LK rfl hof4 (w3.heap.size + 1) ⟨xg, xq, xc, xi, xb, xr⟩ rfl hxc hn1 hs4 ?_); intro g' cap' w5 ho5 hg5 hat5; have HO5 := Lib.hid (And.intro ho5 hg5); clear ho5 hg5 hat5 hof4 hxc hw4)
        go_roundw
        case rel =>
          refine ⟨k + 1, n + 1, by omega, by omega, by go_num, ?_, HB4.out.grown HO5.out.2 hs4 (fun j hj => (HLT.out j hj).1)⟩
          rw [lkL_yes HO.out.symm, ← HLK.out]
          exact HO5.out.1
        case measure => simp [RowKit.intOf] <;> omega
    · obtain rfl : k = 12 := by omega
      have hgr := greatest_any HSM.out (HH.out.next hB)
      rw [← HGM.out] at hgr
      have HOF := Lib.hid hof
      clear hof hB
      go_wp2_with (fail)
      refine hgr.mono ?_
      rintro e w3 ⟨rfl, hb3⟩
      have HB3 := Lib.hid hb3
      clear hgr hb3
      go_wp2_with (fail)
      exact bodyPost_ret (v := .tuple #[u5, .int .i64 GM, .int .i64 0]) (by simp [results, Tryz.results19, go_sem]) rfl ⟨_, n, rfl, World.ownsRow.kept HOF.out (below_grown HB3.out) (none_or _), HB.out.trans (HB3.out.mono HB.out.size)⟩
end
end Go.Proofs.YtegmeoghonolcaaGreat
