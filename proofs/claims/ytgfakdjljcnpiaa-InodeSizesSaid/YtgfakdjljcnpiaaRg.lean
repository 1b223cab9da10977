/-
  The document's Get of a record, by contract.
-/
import Derived.Test.YtgfakdjljcnpiaaRr
import Derived.Test.YtgfakdjljcnpiaaGr
namespace Go.Proofs.Ytgfakdjljcnpiaa
open Go.RowKit
set_option linter.unusedVariables false
set_option linter.unusedSimpArgs false

/-- The document's Get's state: the result's variable, the record's. -/
structure Tg (w0 w : World) (a : Option Addr) (n : Nat) (x : List Int) (f : Nat → Int) : Prop where
  bys : Bys w a n x
  res : Rcb w w0.heap.size noR
  rc : Rcb w (w0.heap.size + 1) f
  bel : Below w0.heap.size w0 w
  old : ∀ b off, a = some ⟨b, off, none⟩ → b < w0.heap.size ∨ n = 0
section
variable {w0 w : World} {a : Option Addr} {n : Nat} {x : List Int} {f : Nat → Int}
theorem Tg.put (h : Tg w0 w a n x f) (i : Nat) (z : Int) : Tg w0 (w.setCell ⟨w0.heap.size + 1, i, none⟩ (.int .i64 z)) a n x (upd f i z) :=
  ⟨bys_setCell h.bys (g := w0.heap.size + 1) fun b off e => (h.old b off e).imp (fun h => by omega) id, h.res.setCell (by omega) _ _, h.rc.set i z, h.bel.setCell (by show w0.heap.size ≤ w0.heap.size + 1; omega) _, h.old⟩
theorem Tg.told (h : Tg w0 w a x.length x f) (hn : x.length ≤ 1000000000000) (c : Nat) (p k : Int) (i : Nat) (he : getV x.length x p k = tld x i) (ho : getO x.length p k = true) :
    Calls Try.prog 37 #[.slice a x.length c, .int .i64 p, .int .i64 k] w fun e w' => e = .returned (.tuple #[.int .i64 (tld x i), .bool true]) ∧ w = w' :=
  (refGet_fun a x.length c p k x w h.bys hn).mono fun e w' ⟨h1, h2⟩ => ⟨by rw [h1, he, ho], h2⟩
theorem Tg.cells (h : Tg w0 w a n x f) {i : Nat} (hi : i < 21) :
    w.cell? ⟨w0.heap.size + 1, i, none⟩ = some (.int .i64 (f i)) ∧ w.frozen? ⟨w0.heap.size + 1, i, none⟩ = false ∧ w0.heap.size + 1 < w.heap.size := ⟨h.rc.cell hi, h.rc.free i, h.rc.lt⟩
end
theorem okG_not {x : List Int} (hx : AllB x) (h : ¬ x.length = 56 ∨ noughtB (x.drop 43) = false) : okG x = false := by
  rw [okG_okD hx, okD]
  rcases h with h | h
  · rw [decide_eq_false h]; rfl
  · rw [h, Bool.and_false]; rfl
set_option maxHeartbeats 4000000 in
theorem rget_len (a : Option Addr) (n c : Nat) (x : List Int) (w : World) (hx : Bys w a n x) (hn : n ≤ 1000000000) (h : ¬ n = 56) :
    Calls Try.prog 14 #[.slice a n c] w (GetPost w x) := by
  have hno : okG x = false := okG_not hx.small (.inl (by rw [hx.len]; exact h))
  have HN := Lib.hid hno
  clear hno
  obtain ⟨wa, hwa⟩ : ∃ wa, wa = w.alloc (.cells (rcs noR) 24) := ⟨_, rfl⟩
  have hR : Rcb wa w.heap.size noR := by rw [hwa]; exact Rcb.mk' w noR
  have hB : Below w.heap.size w wa := by rw [hwa]; exact (Below.refl _ _).alloc (Nat.le_refl _) _
  have hxa := hx.next hB
  have HX := Lib.hid hxa
  have HR := Lib.hid hR
  have HB := Lib.hid hB
  have HW := Lib.hid hwa
  have HW0 := Lib.hid hwa
  clear hxa hR hB hwa
  have d1 : ((n : Int) != 56) = true := by simp; omega
  clear hx HX h
  go_enter Try.func14, Try.ntmps14
  go_upto_region 1 with fail
  change Code.wp _ _ _ _ (w.alloc (.cells (rcs noR) 24))
  rw [← HW.out]
  clear HW
  go_wp2_with (refine wpList_stR (by rfl) (.tmp 2) (.tmp 15) rfl w.heap.size rfl noR rfl noR HR.out ?_; intro wz hPz hOz hBz)
  refine bodyPost_ret (v := .tuple #[rcv noR, .bool false]) ?_ rfl ?_
  · exact res_ct rfl _ _ ⟨w.heap.size, 0, none⟩ _ _ rfl rfl (Rcb.load hPz)
  · exact ⟨by rw [gR_no HN.out, HN.out], hBz _ _ (Nat.le_refl _) HB.out⟩
set_option maxHeartbeats 4000000 in
theorem rget_no (b off c : Nat) (x : List Int) (w : World) (hx : Bys w (some ⟨b, off, none⟩) 56 x) (hc : 56 ≤ c) (h : noughtB (x.drop 43) = false) :
    Calls Try.prog 14 #[.slice (some ⟨b, off, none⟩) 56 c] w (GetPost w x) := by
  have hno : okG x = false := okG_not hx.small (.inr h)
  have HN := Lib.hid hno
  clear hno
  obtain ⟨wa, hwa⟩ : ∃ wa, wa = w.alloc (.cells (rcs noR) 24) := ⟨_, rfl⟩
  have hR : Rcb wa w.heap.size noR := by rw [hwa]; exact Rcb.mk' w noR
  have hB : Below w.heap.size w wa := by rw [hwa]; exact (Below.refl _ _).alloc (Nat.le_refl _) _
  have hxa := hx.next hB
  have HX := Lib.hid hxa
  have HR := Lib.hid hR
  have HB := Lib.hid hB
  have HW := Lib.hid hwa
  have HW0 := Lib.hid hwa
  clear hxa hR hB hwa
  have hnt := refNought_any (some ⟨b, off + 43, none⟩) 13 (c - 43) (x.drop 43) wa (HX.out.rest 43) (by omega)
  rw [h] at hnt
  have d1 : ¬ c = 43 := by omega
  clear hx HX h
  go_enter Try.func14, Try.ntmps14
  go_upto_region 1 with fail
  change Code.wp _ _ _ _ (w.alloc (.cells (rcs noR) 24))
  rw [← HW.out]
  clear HW
  go_wp2_with (fail)
  refine hnt.mono ?_
  rintro e w2 ⟨rfl, rfl⟩
  go_wp2_with (refine wpList_stR (by rfl) (.tmp 2) (.tmp 15) rfl w.heap.size rfl noR rfl noR HR.out ?_; intro wz hPz hOz hBz)
  refine bodyPost_ret (v := .tuple #[rcv noR, .bool false]) ?_ rfl ?_
  · exact res_ct rfl _ _ ⟨w.heap.size, 0, none⟩ _ _ rfl rfl (Rcb.load hPz)
  · exact ⟨by rw [gR_no HN.out, HN.out], hBz _ _ (Nat.le_refl _) HB.out⟩
set_option maxHeartbeats 4000000 in
theorem rget_yes (b off c : Nat) (x : List Int) (w : World) (hx : Bys w (some ⟨b, off, none⟩) 56 x) (hc : 56 ≤ c) (h : noughtB (x.drop 43) = true) :
    Calls Try.prog 14 #[.slice (some ⟨b, off, none⟩) 56 c] w (GetPost w x) := by
  have hl := hx.len
  have hok : okG x = rgO (tld x) := by rw [okG_okD hx.small, okD, h, decide_eq_true hl]; rfl
  have HK := Lib.hid hok
  clear hok
  obtain ⟨wa, hwa⟩ : ∃ wa, wa = w.alloc (.cells (rcs noR) 24) := ⟨_, rfl⟩
  have hR : Rcb wa w.heap.size noR := by rw [hwa]; exact Rcb.mk' w noR
  have hB : Below w.heap.size w wa := by rw [hwa]; exact (Below.refl _ _).alloc (Nat.le_refl _) _
  have hxa := hx.next hB
  have HX := Lib.hid hxa
  have HR := Lib.hid hR
  have HB := Lib.hid hB
  have HW := Lib.hid hwa
  have HW0 := Lib.hid hwa
  clear hxa hR hB hwa
  have hnt := refNought_any (some ⟨b, off + 43, none⟩) 13 (c - 43) (x.drop 43) wa (HX.out.rest 43) (by omega)
  rw [h] at hnt
  have d1 : ¬ c = 43 := by omega
  have hold : ∀ b2 off2, some (⟨b, off, none⟩ : Addr) = some ⟨b2, off2, none⟩ → b2 < w.heap.size ∨ 56 = 0 := by
    intro b2 off2 e
    rcases hx.place with h0 | ⟨b3, off3, e3, hlt, _⟩
    · omega
    · rw [e] at e3
      cases e3
      exact .inl hlt
  have HD := Lib.hid hold
  have HL := Lib.hid hl
  clear hx h hold hl
  go_enter Try.func14, Try.ntmps14
  go_upto_region 1 with fail
  change Code.wp _ _ _ _ (w.alloc (.cells (rcs noR) 24))
  rw [← HW.out]
  clear HW
  go_wp2_with (fail)
  refine hnt.mono ?_
  rintro e w2 ⟨rfl, rfl⟩
  have hng : w.heap.size + 1 = wa.heap.size := by rw [HW0.out]; simp
  have HNG := Lib.hid hng
  clear hng
  go_upto_region 4 with (refine wpList_stR (by rfl) (.tmp 4) (.tmp 16) rfl wa.heap.size rfl noR rfl noR (Rcb.mk' wa noR) ?_; intro wb hPb hOb hBb)
  have hT : Tg w wb (some ⟨b, off, none⟩) x.length x (ftR x 0) := by
    rw [ftR_zero, HL.out]
    have hb1 : Below wa.heap.size wa wb := hBb _ _ (Nat.le_refl _) ((Below.refl _ _).alloc (Nat.le_refl _) _)
    exact ⟨HX.out.next hb1, HR.out.next hb1, by rw [HNG.out]; exact hPb, HB.out.trans (hb1.mono HB.out.size), HD.out⟩
  rw [← HNG.out]
  have HT := Lib.hid hT
  clear hT hPb hOb hBb HX HR HB HNG HW0
  obtain ⟨c0, f0, l0⟩ := HT.out.cells (i := 0) (by omega)
  have hc := HT.out.told (by have := HL.out; omega) c (0) 1 (0) (rfl) (getO_yes (m := 1) (p := 0) (by omega) (by omega) (by have := HL.out; omega))
  rw [HL.out] at hc
  go_wp2_with (fail)
  refine hc.mono ?_
  rintro e w2 ⟨rfl, rfl⟩
  clear hc
  have HT2 := Lib.hid (show Tg w _ _ x.length x (ftR x (0 + 1)) by rw [← ftR_upd]; exact HT.out.put (0) (tld x (0)))
  go_upto_region 5 with fail
  clear c0 f0 l0
  obtain ⟨c0, f0, l0⟩ := HT2.out.cells (i := 1) (by omega)
  have hc := HT2.out.told (by have := HL.out; omega) c (1) 2 (1) (rfl) (getO_yes (m := 2) (p := 1) (by omega) (by omega) (by have := HL.out; omega))
  rw [HL.out] at hc
  go_wp2_with (fail)
  refine hc.mono ?_
  rintro e w3 ⟨rfl, rfl⟩
  clear hc
  have HT3 := Lib.hid (show Tg w _ _ x.length x (ftR x (1 + 1)) by rw [← ftR_upd]; exact HT2.out.put (1) (tld x (1)))
  go_upto_region 6 with fail
  clear c0 f0 l0
  obtain ⟨c0, f0, l0⟩ := HT3.out.cells (i := 2) (by omega)
  have hc := HT3.out.told (by have := HL.out; omega) c (3) 4 (2) (rfl) (getO_yes (m := 4) (p := 3) (by omega) (by omega) (by have := HL.out; omega))
  rw [HL.out] at hc
  go_wp2_with (fail)
  refine hc.mono ?_
  rintro e w4 ⟨rfl, rfl⟩
  clear hc
  have HT4 := Lib.hid (show Tg w _ _ x.length x (ftR x (2 + 1)) by rw [← ftR_upd]; exact HT3.out.put (2) (tld x (2)))
  go_upto_region 7 with fail
  clear c0 f0 l0
  clear HT HT2 HT3
  go_wp2_with (fail)
  go_loopw [5] (fun v wr => ∃ k : Nat, k ≤ 16 ∧ v = .int .i64 k ∧ Tg w wr (some ⟨b, off, none⟩) x.length x (ftR x (3 + k))) (fun v _ => 16 - (RowKit.intOf v).toNat)
  case atStart => exact ⟨0, by omega, rfl, HT4.out⟩
  case round =>
    obtain ⟨k, hk, rfl, hT5⟩ := hrel
    have HT5 := Lib.hid hT5
    clear hT5 HT4
    by_cases hlt : k < 16
    · have v1 : IntKind.i64.wrap (2 * (k : Int)) = 2 * (k : Int) := IntWalk.i64_in _ (by omega)
      have v2 : IntKind.i64.wrap (7 + 2 * (k : Int)) = ((7 + 2 * k : Nat) : Int) := by rw [show 7 + 2 * (k : Int) = ((7 + 2 * k : Nat) : Int) by omega]; exact IntWalk.i64_in _ (by omega)
      obtain ⟨c0, f0, l0⟩ := HT5.out.cells (i := 3 + k) (by omega)
      have hc := HT5.out.told (by have := HL.out; omega) c (((7 + 2 * k : Nat) : Int)) 2 (3 + k) ((tld_ptr x k).symm) (getO_yes (m := 2) (p := 7 + 2 * k) (by omega) (by omega) (by have := HL.out; omega))
      rw [HL.out] at hc
      go_wp2_with (fail)
      refine hc.mono ?_
      rintro e w6 ⟨rfl, rfl⟩
      clear hc
      have HT6 := Lib.hid (show Tg w _ _ x.length x (ftR x (3 + k + 1)) by rw [← ftR_upd]; exact HT5.out.put (3 + k) (tld x (3 + k)))
      go_wp2_with (fail)
      go_roundw
      case rel => exact ⟨k + 1, by omega, by go_num, HT6.out⟩
      case measure => simp [RowKit.intOf]; omega
    · obtain rfl : k = 16 := by omega
      go_upto_region 11 with fail
      obtain ⟨c0, f0, l0⟩ := HT5.out.cells (i := 19) (by omega)
      have hc := HT5.out.told (by have := HL.out; omega) c (((7 + 2 * 16 : Nat) : Int)) 2 (19) ((tld_ptr x 16).symm) (getO_yes (m := 2) (p := 7 + 2 * 16) (by omega) (by omega) (by have := HL.out; omega))
      rw [HL.out] at hc
      go_wp2_with (fail)
      refine hc.mono ?_
      rintro e w6 ⟨rfl, rfl⟩
      clear hc
      have HT6 := Lib.hid (show Tg w _ _ x.length x (ftR x (19 + 1)) by rw [← ftR_upd]; exact HT5.out.put (19) (tld x (19)))
      go_upto_region 12 with fail
      clear c0 f0 l0
      obtain ⟨c0, f0, l0⟩ := HT6.out.cells (i := 20) (by omega)
      have hc := HT6.out.told (by have := HL.out; omega) c (((7 + 2 * 17 : Nat) : Int)) 2 (20) ((tld_ptr x 17).symm) (getO_yes (m := 2) (p := 7 + 2 * 17) (by omega) (by omega) (by have := HL.out; omega))
      rw [HL.out] at hc
      go_wp2_with (fail)
      refine hc.mono ?_
      rintro e w7 ⟨rfl, rfl⟩
      clear hc
      have HT7 := Lib.hid (show Tg w _ _ x.length x (ftR x (20 + 1)) by rw [← ftR_upd]; exact HT6.out.put (20) (tld x (20)))
      go_upto_region 13 with fail
      obtain ⟨wz, hwz⟩ : ∃ wz, wz = (wr.setCell ⟨w.heap.size + 1, 19, none⟩ (.int .i64 (tld x 19))).setCell ⟨w.heap.size + 1, 20, none⟩ (.int .i64 (tld x 20)) := ⟨_, rfl⟩
      have hT8 := HT7.out
      rw [← hwz] at hT8 ⊢
      have hrt := rright_any (ftR x 21) wz
      obtain ⟨ok, hok⟩ : ∃ ok, ok = rgO (ftR x 21) := ⟨_, rfl⟩
      rw [← hok] at hrt
      have HO := Lib.hid (show okG x = ok by rw [HK.out, hok]; exact rgO_congr fun i hi => by unfold ftR; rw [if_pos hi])
      have HR := Lib.hid hT8.res
      have HP := Lib.hid hT8.rc
      have HB := Lib.hid hT8.bel
      clear hwz hT8 HT7 HT6 HT5 c0 f0 l0 HK hok
      go_wp2_with (refine wpList_ldR (by rfl) (.tmp 4) rfl (w.heap.size + 1) rfl (ftR x 21) HP.out ?_)
      refine hrt.mono ?_
      rintro e wy ⟨rfl, hb⟩
      replace HR := Lib.hid (HR.out.next hb)
      replace HP := Lib.hid (HP.out.next hb)
      replace HB := Lib.hid (HB.out.trans (hb.mono HB.out.size))
      clear hb hrt
      cases ok with
      | false =>
        go_wp2_with (refine wpList_stR (by rfl) (.tmp 2) (.tmp 65) rfl w.heap.size rfl noR rfl noR HR.out ?_; intro wz hPz hOz hBz)
        refine bodyPost_ret (v := .tuple #[rcv noR, .bool false]) ?_ rfl ?_
        · exact res_ct rfl _ _ ⟨w.heap.size, 0, none⟩ _ _ rfl rfl (Rcb.load hPz)
        · exact ⟨by rw [gR_no HO.out, HO.out], hBz _ _ (Nat.le_refl _) HB.out⟩
      | true =>
        go_wp2_with (first
          | (refine wpList_ldR (by rfl) (.tmp 4) rfl (w.heap.size + 1) rfl (ftR x 21) HP.out ?_)
          | (refine wpList_stR (by rfl) (.tmp 2) (.tmp 66) rfl w.heap.size rfl (ftR x 21) rfl noR HR.out ?_; intro wz hPz hOz hBz))
        refine bodyPost_ret (v := .tuple #[rcv (ftR x 21), .bool true]) ?_ rfl ?_
        · exact res_ct rfl _ _ ⟨w.heap.size, 0, none⟩ _ _ rfl rfl (Rcb.load hPz)
        · exact ⟨by rw [gR_yes HO.out, HO.out]; unfold rcv; rw [rcs_ft], hBz _ _ (Nat.le_refl _) HB.out⟩
theorem rgetR_any (a : Option Addr) (n c : Nat) (x : List Int) (w : World) (hx : Bys w a n x) (hn : n ≤ 1000000000) (hc : n ≤ c) :
    Calls Try.prog 14 #[.slice a n c] w (GetPost w x) := by
  by_cases h : n = 56
  · subst h
    obtain ⟨b, off, rfl⟩ : ∃ b off, a = some ⟨b, off, none⟩ := by
      rcases hx.place with h0 | ⟨b, off, e, _⟩
      · omega
      · exact ⟨b, off, e⟩
    cases h0 : noughtB (x.drop 43) with
    | true => exact rget_yes b off c x w hx hc h0
    | false => exact rget_no b off c x w hx hc h0
  · exact rget_len a n c x w hx hn h
end Go.Proofs.Ytgfakdjljcnpiaa
