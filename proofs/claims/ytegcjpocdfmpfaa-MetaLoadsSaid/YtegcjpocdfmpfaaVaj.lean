/-
  The document's Get of a record, by contract.
-/
import Derived.Test.YtegcjpocdfmpfaaVaf
import Derived.Test.YtegcjpocdfmpfaaVai
import Derived.Test.YtegcjpocdfmpfaaVae
import Derived.ChangeKeysEq
import Derived.Laws.StructEq
import Derived.Laws.AppendOwnNone
import Derived.Test.YtegcjpocdfmpfaaVah
import Derived.Shelf.Abstract
set_option linter.unusedVariables false
set_option linter.unusedSimpArgs false
set_option maxRecDepth 100000
set_option maxHeartbeats 16000000
namespace Go.Proofs.Ytegcjpocdfmpfaa
open Go.RowKit

/-- The document's Get's state: the result's variable, the record's. -/
structure Tg (w0 w : World) (a : Option Addr) (n : Nat) (x : List Int) (f : Nat → Int) : Prop where
  bys : Bys w a n x
  res : Rcb w w0.heap.size noR
  rc : Rcb w (w0.heap.size + 1) f
  bel : Below w0.heap.size w0 w
  old : ∀ b off, a = some ⟨b, off, none⟩ → b < w0.heap.size ∨ n = 0
section
variable {w0 w : World} {a : Option Addr} {n : Nat} {x : List Int} {f : Nat → Int}
theorem Tg.put (h : Tg w0 w a n x f) (i : Nat) (z : Int) : Tg w0 (w.setCell ⟨w0.heap.size + 1, i, none⟩ (.int .i64 z)) a n x (upd f i z) :=
  ⟨bys_setCell h.bys (g := w0.heap.size + 1) fun b off e => (h.old b off e).imp (fun h => by omega) id, h.res.setCell (by omega) _ _, h.rc.set i z, h.bel.setCell (by show w0.heap.size ≤ w0.heap.size + 1; omega) _, h.old⟩
theorem Tg.told (h : Tg w0 w a x.length x f) (hn : x.length ≤ 1000000000000) (c : Nat) (p k : Int) (i : Nat) (he : getV x.length x p k = tld x i) (ho : getO x.length p k = true) :
    Calls Try.prog 65 #[.slice a x.length c, .int .i64 p, .int .i64 k] w fun e w' => e = .returned (.tuple #[.int .i64 (tld x i), .bool true]) ∧ w = w' :=
  (refGet_fun a x.length c p k x w h.bys hn).mono fun e w' ⟨h1, h2⟩ => ⟨by rw [h1, he, ho], h2⟩
theorem Tg.cells (h : Tg w0 w a n x f) {i : Nat} (hi : i < 21) :
    w.cell? ⟨w0.heap.size + 1, i, none⟩ = some (.int .i64 (f i)) ∧ w.frozen? ⟨w0.heap.size + 1, i, none⟩ = false ∧ w0.heap.size + 1 < w.heap.size := ⟨h.rc.cell hi, h.rc.free i, h.rc.lt⟩
end
theorem okG_not {x : List Int} (hx : AllB x) (h : ¬ x.length = 56 ∨ noughtB (x.drop 43) = false) : okG x = false := by
  rw [okG_okD hx, okD]
  rcases h with h | h
  · rw [decide_eq_false h]; rfl
  · rw [h, Bool.and_false]; rfl
theorem rget_len (a : Option Addr) (n c : Nat) (x : List Int) (w : World) (hx : Bys w a n x) (hn : n ≤ 1000000000) (h : ¬ n = 56) :
    Calls Try.prog 109 #[.slice a n c] w (GetPost w x) := by
  have hno : okG x = false := okG_not hx.small (.inl (by rw [hx.len]; exact h))
  have HN := Lib.hid hno
  clear hno
  obtain ⟨wa, hwa⟩ : ∃ wa, wa = w.alloc (.cells (rcs noR) 104) := ⟨_, rfl⟩
  have hR : Rcb wa w.heap.size noR := by rw [hwa]; exact Rcb.mk' w noR
  have hB : Below w.heap.size w wa := by rw [hwa]; exact (Below.refl _ _).alloc (Nat.le_refl _) _
  have hxa := hx.next hB
  have HX := Lib.hid hxa
  have HR := Lib.hid hR
  have HB := Lib.hid hB
  have HW := Lib.hid hwa
  have HW0 := Lib.hid hwa
  clear hxa hR hB hwa
  have d1 : ((n : Int) != 56) = true := by simp; omega
  clear hx HX h
  go_enter Try.func109, Try.ntmps109
  go_upto_region 1 with fail
  change Code.wp _ _ _ _ (w.alloc (.cells (rcs noR) 104))
  rw [← HW.out]
  clear HW
  go_wp2_with (refine wpList_stR (by rfl) (.tmp 2) (.tmp 15) rfl w.heap.size rfl noR rfl noR HR.out ?_; intro wz hPz hOz hBz)
  refine bodyPost_ret (v := .tuple #[rcv noR, .bool false]) ?_ rfl ?_
  · exact res_ct rfl _ _ ⟨w.heap.size, 0, none⟩ _ _ rfl rfl (Rcb.load hPz)
  · exact ⟨by rw [gR_no HN.out, HN.out], hBz _ _ (Nat.le_refl _) HB.out⟩
theorem rget_no (b off c : Nat) (x : List Int) (w : World) (hx : Bys w (some ⟨b, off, none⟩) 56 x) (hc : 56 ≤ c) (h : noughtB (x.drop 43) = false) :
    Calls Try.prog 109 #[.slice (some ⟨b, off, none⟩) 56 c] w (GetPost w x) := by
  have hno : okG x = false := okG_not hx.small (.inr h)
  have HN := Lib.hid hno
  clear hno
  obtain ⟨wa, hwa⟩ : ∃ wa, wa = w.alloc (.cells (rcs noR) 104) := ⟨_, rfl⟩
  have hR : Rcb wa w.heap.size noR := by rw [hwa]; exact Rcb.mk' w noR
  have hB : Below w.heap.size w wa := by rw [hwa]; exact (Below.refl _ _).alloc (Nat.le_refl _) _
  have hxa := hx.next hB
  have HX := Lib.hid hxa
  have HR := Lib.hid hR
  have HB := Lib.hid hB
  have HW := Lib.hid hwa
  have HW0 := Lib.hid hwa
  clear hxa hR hB hwa
  have hnt := refNought_any (some ⟨b, off + 43, none⟩) 13 (c - 43) (x.drop 43) wa (HX.out.rest 43) (by omega)
  rw [h] at hnt
  have d1 : ¬ c = 43 := by omega
  clear hx HX h
  go_enter Try.func109, Try.ntmps109
  go_upto_region 1 with fail
  change Code.wp _ _ _ _ (w.alloc (.cells (rcs noR) 104))
  rw [← HW.out]
  clear HW
  go_wp2_with (fail)
  refine hnt.mono ?_
  rintro e w2 ⟨rfl, rfl⟩
  go_wp2_with (refine wpList_stR (by rfl) (.tmp 2) (.tmp 15) rfl w.heap.size rfl noR rfl noR HR.out ?_; intro wz hPz hOz hBz)
  refine bodyPost_ret (v := .tuple #[rcv noR, .bool false]) ?_ rfl ?_
  · exact res_ct rfl _ _ ⟨w.heap.size, 0, none⟩ _ _ rfl rfl (Rcb.load hPz)
  · exact ⟨by rw [gR_no HN.out, HN.out], hBz _ _ (Nat.le_refl _) HB.out⟩
theorem rget_yes (b off c : Nat) (x : List Int) (w : World) (hx : Bys w (some ⟨b, off, none⟩) 56 x) (hc : 56 ≤ c) (h : noughtB (x.drop 43) = true) :
    Calls Try.prog 109 #[.slice (some ⟨b, off, none⟩) 56 c] w (GetPost w x) := by
  have hl := hx.len
  have hok : okG x = rgO (tld x) := by rw [okG_okD hx.small, okD, h, decide_eq_true hl]; rfl
  have HK := Lib.hid hok
  clear hok
  obtain ⟨wa, hwa⟩ : ∃ wa, wa = w.alloc (.cells (rcs noR) 104) := ⟨_, rfl⟩
  have hR : Rcb wa w.heap.size noR := by rw [hwa]; exact Rcb.mk' w noR
  have hB : Below w.heap.size w wa := by rw [hwa]; exact (Below.refl _ _).alloc (Nat.le_refl _) _
  have hxa := hx.next hB
  have HX := Lib.hid hxa
  have HR := Lib.hid hR
  have HB := Lib.hid hB
  have HW := Lib.hid hwa
  have HW0 := Lib.hid hwa
  clear hxa hR hB hwa
  have hnt := refNought_any (some ⟨b, off + 43, none⟩) 13 (c - 43) (x.drop 43) wa (HX.out.rest 43) (by omega)
  rw [h] at hnt
  have d1 : ¬ c = 43 := by omega
  have hold : ∀ b2 off2, some (⟨b, off, none⟩ : Addr) = some ⟨b2, off2, none⟩ → b2 < w.heap.size ∨ 56 = 0 := by
    intro b2 off2 e
    rcases hx.place with h0 | ⟨b3, off3, e3, hlt, _⟩
    · omega
    · rw [e] at e3
      cases e3
      exact .inl hlt
  have HD := Lib.hid hold
  have HL := Lib.hid hl
  clear hx h hold hl
  go_enter Try.func109, Try.ntmps109
  go_upto_region 1 with fail
  change Code.wp _ _ _ _ (w.alloc (.cells (rcs noR) 104))
  rw [← HW.out]
  clear HW
  go_wp2_with (fail)
  refine hnt.mono ?_
  rintro e w2 ⟨rfl, rfl⟩
  have hng : w.heap.size + 1 = wa.heap.size := by rw [HW0.out]; simp
  have HNG := Lib.hid hng
  clear hng
  go_upto_region 4 with (refine wpList_stR (by rfl) (.tmp 4) (.tmp 16) rfl wa.heap.size rfl noR rfl noR (Rcb.mk' wa noR) ?_; intro wb hPb hOb hBb)
  have hT : Tg w wb (some ⟨b, off, none⟩) x.length x (ftR x 0) := by
    rw [ftR_zero, HL.out]
    have hb1 : Below wa.heap.size wa wb := hBb _ _ (Nat.le_refl _) ((Below.refl _ _).alloc (Nat.le_refl _) _)
    exact ⟨HX.out.next hb1, HR.out.next hb1, by rw [HNG.out]; exact hPb, HB.out.trans (hb1.mono HB.out.size), HD.out⟩
  rw [← HNG.out]
  have HT := Lib.hid hT
  clear hT hPb hOb hBb HX HR HB HNG HW0
  obtain ⟨c0, f0, l0⟩ := HT.out.cells (i := 0) (by omega)
  have hc := HT.out.told (by have := HL.out; omega) c (0) 1 (0) (rfl) (getO_yes (m := 1) (p := 0) (by omega) (by omega) (by have := HL.out; omega))
  rw [HL.out] at hc
  go_wp2_with (fail)
  refine hc.mono ?_
  rintro e w2 ⟨rfl, rfl⟩
  clear hc
  have HT2 := Lib.hid (show Tg w _ _ x.length x (ftR x (0 + 1)) by rw [← ftR_upd]; exact HT.out.put (0) (tld x (0)))
  go_upto_region 5 with fail
  clear c0 f0 l0
  obtain ⟨c0, f0, l0⟩ := HT2.out.cells (i := 1) (by omega)
  have hc := HT2.out.told (by have := HL.out; omega) c (1) 2 (1) (rfl) (getO_yes (m := 2) (p := 1) (by omega) (by omega) (by have := HL.out; omega))
  rw [HL.out] at hc
  go_wp2_with (fail)
  refine hc.mono ?_
  rintro e w3 ⟨rfl, rfl⟩
  clear hc
  have HT3 := Lib.hid (show Tg w _ _ x.length x (ftR x (1 + 1)) by rw [← ftR_upd]; exact HT2.out.put (1) (tld x (1)))
  go_upto_region 6 with fail
  clear c0 f0 l0
  obtain ⟨c0, f0, l0⟩ := HT3.out.cells (i := 2) (by omega)
  have hc := HT3.out.told (by have := HL.out; omega) c (3) 4 (2) (rfl) (getO_yes (m := 4) (p := 3) (by omega) (by omega) (by have := HL.out; omega))
  rw [HL.out] at hc
  go_wp2_with (fail)
  refine hc.mono ?_
  rintro e w4 ⟨rfl, rfl⟩
  clear hc
  have HT4 := Lib.hid (show Tg w _ _ x.length x (ftR x (2 + 1)) by rw [← ftR_upd]; exact HT3.out.put (2) (tld x (2)))
  go_upto_region 7 with fail
  clear c0 f0 l0
  clear HT HT2 HT3
  go_wp2_with (fail)
  go_loopw [5] (fun v wr => ∃ k : Nat, k ≤ 16 ∧ v = .int .i64 k ∧ Tg w wr (some ⟨b, off, none⟩) x.length x (ftR x (3 + k))) (fun v _ => 16 - (RowKit.intOf v).toNat)
  case atStart => exact ⟨0, by omega, rfl, HT4.out⟩
  case round =>
    obtain ⟨k, hk, rfl, hT5⟩ := hrel
    have HT5 := Lib.hid hT5
    clear hT5 HT4
    by_cases hlt : k < 16
    · have v1 : IntKind.i64.wrap (2 * (k : Int)) = 2 * (k : Int) := IntWalk.i64_in _ (by omega)
      have v2 : IntKind.i64.wrap (7 + 2 * (k : Int)) = ((7 + 2 * k : Nat) : Int) := by rw [show 7 + 2 * (k : Int) = ((7 + 2 * k : Nat) : Int) by omega]; exact IntWalk.i64_in _ (by omega)
      obtain ⟨c0, f0, l0⟩ := HT5.out.cells (i := 3 + k) (by omega)
      have hc := HT5.out.told (by have := HL.out; omega) c (((7 + 2 * k : Nat) : Int)) 2 (3 + k) ((tld_ptr x k).symm) (getO_yes (m := 2) (p := 7 + 2 * k) (by omega) (by omega) (by have := HL.out; omega))
      rw [HL.out] at hc
      go_wp2_with (fail)
      refine hc.mono ?_
      rintro e w6 ⟨rfl, rfl⟩
      clear hc
      have HT6 := Lib.hid (show Tg w _ _ x.length x (ftR x (3 + k + 1)) by rw [← ftR_upd]; exact HT5.out.put (3 + k) (tld x (3 + k)))
      go_wp2_with (fail)
      go_roundw
      case rel => exact ⟨k + 1, by omega, by go_num, HT6.out⟩
      case measure => simp [RowKit.intOf]; omega
    · obtain rfl : k = 16 := by omega
      go_upto_region 11 with fail
      obtain ⟨c0, f0, l0⟩ := HT5.out.cells (i := 19) (by omega)
      have hc := HT5.out.told (by have := HL.out; omega) c (((7 + 2 * 16 : Nat) : Int)) 2 (19) ((tld_ptr x 16).symm) (getO_yes (m := 2) (p := 7 + 2 * 16) (by omega) (by omega) (by have := HL.out; omega))
      rw [HL.out] at hc
      go_wp2_with (fail)
      refine hc.mono ?_
      rintro e w6 ⟨rfl, rfl⟩
      clear hc
      have HT6 := Lib.hid (show Tg w _ _ x.length x (ftR x (19 + 1)) by rw [← ftR_upd]; exact HT5.out.put (19) (tld x (19)))
      go_upto_region 12 with fail
      clear c0 f0 l0
      obtain ⟨c0, f0, l0⟩ := HT6.out.cells (i := 20) (by omega)
      have hc := HT6.out.told (by have := HL.out; omega) c (((7 + 2 * 17 : Nat) : Int)) 2 (20) ((tld_ptr x 17).symm) (getO_yes (m := 2) (p := 7 + 2 * 17) (by omega) (by omega) (by have := HL.out; omega))
      rw [HL.out] at hc
      go_wp2_with (fail)
      refine hc.mono ?_
      rintro e w7 ⟨rfl, rfl⟩
      clear hc
      have HT7 := Lib.hid (show Tg w _ _ x.length x (ftR x (20 + 1)) by rw [← ftR_upd]; exact HT6.out.put (20) (tld x (20)))
      go_upto_region 13 with fail
      obtain ⟨wz, hwz⟩ : ∃ wz, wz = (wr.setCell ⟨w.heap.size + 1, 19, none⟩ (.int .i64 (tld x 19))).setCell ⟨w.heap.size + 1, 20, none⟩ (.int .i64 (tld x 20)) := ⟨_, rfl⟩
      have hT8 := HT7.out
      rw [← hwz] at hT8 ⊢
      have hrt := rright_any (ftR x 21) wz
      obtain ⟨ok, hok⟩ : ∃ ok, ok = rgO (ftR x 21) := ⟨_, rfl⟩
      rw [← hok] at hrt
      have HO := Lib.hid (show okG x = ok by rw [HK.out, hok]; exact rgO_congr fun i hi => by unfold ftR; rw [if_pos hi])
      have HR := Lib.hid hT8.res
      have HP := Lib.hid hT8.rc
      have HB := Lib.hid hT8.bel
      clear hwz hT8 HT7 HT6 HT5 c0 f0 l0 HK hok
      go_wp2_with (refine wpList_ldR (by rfl) (.tmp 4) rfl (w.heap.size + 1) rfl (ftR x 21) HP.out ?_)
      refine hrt.mono ?_
      rintro e wy ⟨rfl, hb⟩
      replace HR := Lib.hid (HR.out.next hb)
      replace HP := Lib.hid (HP.out.next hb)
      replace HB := Lib.hid (HB.out.trans (hb.mono HB.out.size))
      clear hb hrt
      cases ok with
      | false =>
        go_wp2_with (refine wpList_stR (by rfl) (.tmp 2) (.tmp 65) rfl w.heap.size rfl noR rfl noR HR.out ?_; intro wz hPz hOz hBz)
        refine bodyPost_ret (v := .tuple #[rcv noR, .bool false]) ?_ rfl ?_
        · exact res_ct rfl _ _ ⟨w.heap.size, 0, none⟩ _ _ rfl rfl (Rcb.load hPz)
        · exact ⟨by rw [gR_no HO.out, HO.out], hBz _ _ (Nat.le_refl _) HB.out⟩
      | true =>
        go_wp2_with (first
          | (refine wpList_ldR (by rfl) (.tmp 4) rfl (w.heap.size + 1) rfl (ftR x 21) HP.out ?_)
          | (refine wpList_stR (by rfl) (.tmp 2) (.tmp 66) rfl w.heap.size rfl (ftR x 21) rfl noR HR.out ?_; intro wz hPz hOz hBz))
        refine bodyPost_ret (v := .tuple #[rcv (ftR x 21), .bool true]) ?_ rfl ?_
        · exact res_ct rfl _ _ ⟨w.heap.size, 0, none⟩ _ _ rfl rfl (Rcb.load hPz)
        · exact ⟨by rw [gR_yes HO.out, HO.out]; unfold rcv; rw [rcs_ft], hBz _ _ (Nat.le_refl _) HB.out⟩
theorem rgetR_any (a : Option Addr) (n c : Nat) (x : List Int) (w : World) (hx : Bys w a n x) (hn : n ≤ 1000000000) (hc : n ≤ c) :
    Calls Try.prog 109 #[.slice a n c] w (GetPost w x) := by
  by_cases h : n = 56
  · subst h
    obtain ⟨b, off, rfl⟩ : ∃ b off, a = some ⟨b, off, none⟩ := by
      rcases hx.place with h0 | ⟨b, off, e, _⟩
      · omega
      · exact ⟨b, off, e⟩
    cases h0 : noughtB (x.drop 43) with
    | true => exact rget_yes b off c x w hx hc h0
    | false => exact rget_no b off c x w hx hc h0
  · exact rget_len a n c x w hx hn h

/-- A slice's length. -/
def lenV : Value → Nat
  | .slice _ n _ => n
  | _ => 0
theorem rput_d (m : Nat) (p : Int) (w : World) (h1 : 1 ≤ m) (h4 : m ≤ 4) (hp : hasW p m = true) :
    Calls Try.prog 97 #[.int .i64 m, .int .i64 p] w fun e w' => ∃ a c, e = .returned (.slice a m c) ∧ Bys w' a m (digs m p) ∧ (a = none → m = 0 ∧ c = 0) ∧ Below w.heap.size w w' := by
  have hb := hasW_bd (n := p) (k := (m : Int)) hp (by omega) (by omega)
  refine (refPut_fun m p w (by omega)).mono fun e w' ⟨a, c, he, hs⟩ => ?_
  have e1 : putL m p = digs m p := putL_yes h1 h4 hp
  have e2 := hs.bys
  have e3 := hs.nil
  rw [e1, digs_len] at he e2 e3
  exact ⟨a, c, he, e2, e3, hs.bel⟩
theorem pad_zero (z : List Int) : z ++ Z 0 = z := by simp [Z]

theorem ppO_no {ks : List Int} {k : Nat} (hk : k < ks.length) (h : ptO (num ks k) = false) : ppO ks = false := by
  cases hh : ppO ks with
  | false => rfl
  | true =>
    simp only [ppO, Bool.and_eq_true] at hh
    rw [all_pt.1 hh.2 k hk] at h
    cases h
theorem pp_pad (ks : List Int) (z : List Int) (k : Nat) : (z ++ Z k) ++ [0] = z ++ Z (k + 1) := by
  rw [List.append_assoc, Z, Z, List.replicate_succ']
theorem rputP_any (a : Option Addr) (n c : Nat) (ks : List Int) (w : World) (h : Ins w a n ks) (hn : n ≤ 1000000) :
    Calls Try.prog 133 #[.slice a n c] w (RetN w (ppF ks) (ppO ks)) := by
  have hl := h.len
  subst hl
  by_cases h1 : 28 < ks.length
  · have e : ppO ks = false := by rw [ppO, decide_eq_false (by omega)]; rfl
    rw [ppF, e]
    clear e
    go_enter Try.func133, Try.ntmps133
    go_wp2
    go_ret2
    exact ⟨_, _, _, rfl, Pin.zero _, (fun x e => by cases e), Below.refl _ _⟩
  · have HI := Lib.hid h
    clear h
    go_enter Try.func133, Try.ntmps133
    go_wp2_with (fail)
    have HO0 := Lib.hid (own_none w w.heap.size (Nat.le_refl _))
    have HC0 := Lib.hid ((Below.refl w.heap.size w).alloc (Nat.le_refl _) (.cells #[] 5))
    go_loopw [4, 5] (fun u v wr => ∃ k : Nat, k ≤ ks.length ∧ v = .int .i64 k ∧ (∀ i, i < k → ptO (num ks i) = true) ∧ Own wr w.heap.size u (2 * k) (ptsL (num ks) k) ∧ Below w.heap.size w wr) (fun _ v _ => ks.length - (RowKit.intOf v).toNat)
    case atStart => exact ⟨0, by omega, rfl, (fun i hi => by omega), HO0.out, HC0.out⟩
    case round =>
      obtain ⟨k, hk, rfl, hP, hO, hC⟩ := hrel
      have HP := Lib.hid hP
      have HO := Lib.hid hO
      have HC := Lib.hid hC
      clear hP hO hC HO0 HC0
      by_cases hlt : k < ks.length
      · obtain ⟨b, off, rfl, hbl, hcs⟩ := (HI.out.next HC.out).at (by omega : 0 < ks.length)
        have hc1 := hcs k hlt
        obtain ⟨z, hz⟩ : ∃ z, z = num ks k := ⟨_, rfl⟩
        rw [← hz] at hc1
        have hpt := rpointer_any z wr
        have HZ := Lib.hid hz
        clear hcs hz
        cases hpo : ptO z with
        | false =>
          rw [hpo] at hpt
          go_wp2_with (fail)
          refine hpt.mono ?_
          rintro e w2 ⟨rfl, rfl⟩
          go_wp2_with (fail)
          go_ret2
          have e : ppO ks = false := ppO_no hlt (by rw [← HZ.out, hpo])
          rw [ppF, e]
          exact ⟨_, _, _, rfl, Pin.zero _, (fun x e => by cases e), HC.out⟩
        | true =>
          rw [hpo] at hpt
          go_wp2_with (fail)
          refine hpt.mono ?_
          rintro e w2 ⟨rfl, rfl⟩
          have HT := Lib.hid (ptO_iff.1 hpo)
          clear hpt
          go_wp2_with (fail)
          refine (rput_d 2 z _ (by omega) (by omega) (hasW2_of HT.out)).mono ?_
          rintro e wx ⟨a, c2, rfl, hy, hnil, hl⟩
          have ho := HO.out.below (Nat.le_refl _) hl
          have hc := HC.out.trans (hl.mono HC.out.size)
          have hs := hc.size
          clear hl
          go_wp2_with (at_builtin; go_must (refine wpList_ap rfl (.tmp 22) (.tmp 27) rfl w.heap.size _ (2 * k) _ rfl ho a 2 c2 _ rfl hy hnil (by omega) hs w hc ?_); intro v w3 o b; have HO3 := Lib.hid o; have HC3 := Lib.hid b; clear o b ho hy hnil hc hs)
          go_roundw
          case rel => exact ⟨k + 1, by omega, by go_num, (fun i hi => by
            by_cases hik : i = k
            · rw [hik, ← HZ.out, hpo]
            · exact HP.out i (by omega)), by rw [ptsL, ← HZ.out]; exact HO3.out, HC3.out⟩
          case measure => simp [RowKit.intOf]; omega
      · obtain rfl : k = ks.length := by omega
        have e : ppO ks = true := by rw [ppO, decide_eq_true (by omega), all_pt.2 HP.out]; rfl
        have HE := Lib.hid e
        have HO1 := Lib.hid (show Own wr w.heap.size _ (2 * ks.length + 0) (ptsL (num ks) ks.length ++ Z 0) by rw [pad_zero]; exact HO.out)
        clear e HO HP
        go_wp2_with (fail)
        go_loopw [4] (fun u wq => ∃ k : Nat, 2 * ks.length + k ≤ 56 ∧ Own wq w.heap.size u (2 * ks.length + k) (ptsL (num ks) ks.length ++ Z k) ∧ Below w.heap.size w wq) (fun u _ => 56 - lenV u)
        case atStart => exact ⟨0, by omega, HO1.out, HC.out⟩
        case round =>
          obtain ⟨k, hk, hO, hC⟩ := hrel
          have HO7 := Lib.hid hO
          have HC7 := Lib.hid hC
          obtain ⟨a8, c8, rfl, hp8, hn8⟩ := hO.pin
          have HN8 := Lib.hid hn8
          clear hn8
          have hs8 := hC.size
          clear hO hC HO1
          by_cases hlt : 2 * ks.length + k < 56
          · go_wp2_with (at_builtin; go_must (refine wpList_ap rfl (.tmp 32) (.tmp 33) rfl w.heap.size _ (2 * ks.length + k) _ rfl (HO7.out.below (Nat.le_refl _) ((Below.refl _ _).alloc (Nat.le_refl _) _)) _ 1 1 [0] rfl (bys_one _ (by omega)) (fun h => by cases h) (by omega) (by simp; omega) w (HC7.out.alloc hs8 _) ?_); intro v9 w9 ho9 hb9)
            obtain ⟨a9, c9, rfl, hp9, _⟩ := ho9.pin
            go_roundw
            case rel => exact ⟨k + 1, by omega, by rw [← pp_pad ks]; exact ho9, hb9⟩
            case measure => simp [lenV]; omega
          · have hk2 : k = 56 - 2 * ks.length := by omega
            have HK := Lib.hid hk2
            clear hk2
            go_wp2_with (fail)
            go_ret2
            rw [ppF, HE.out, if_pos rfl, ppL_eq (by omega), ← HK.out]
            exact ⟨_, _, _, rfl, hp8, (fun x e => (HN8.out x e).1), HC7.out⟩
/-- Numbers of the call's own, and a bool. -/
def RetO (w0 : World) (ks : List Int) (ok : Bool) (e : Ending) (w' : World) : Prop := ∃ v, e = .returned (.tuple #[v, .bool ok]) ∧ OwnI w' w0.heap.size v ks.length ks ∧ Below w0.heap.size w0 w'
theorem rgetP_any (a : Option Addr) (n c : Nat) (x : List Int) (w : World) (h : Bys w a n x) (hn : n ≤ 1000000) :
    Calls Try.prog 108 #[.slice a n c] w (RetO w (gpF x) (decide (x.length = 56))) := by
  have hl := h.len
  subst hl
  by_cases h1 : x.length = 56
  · rw [gpF, if_pos h1, decide_eq_true h1]
    have HX := Lib.hid h
    have HL := Lib.hid h1
    clear h
    rw [h1]
    clear h1
    go_enter Try.func108, Try.ntmps108
    go_wp2_with (fail)
    have HO0 := Lib.hid (ownI_none w w.heap.size (Nat.le_refl _))
    have HC0 := Lib.hid ((Below.refl w.heap.size w).alloc (Nat.le_refl _) (.cells #[] 3))
    go_loopw [4, 5, 6, 7] (fun u v _p _q wr => ∃ k : Nat, k ≤ 28 ∧ v = .int .i64 k ∧ OwnI wr w.heap.size u k (gpL x k) ∧ Below w.heap.size w wr) (fun _ v _ _ _ => 28 - (RowKit.intOf v).toNat)
    case atStart => exact ⟨0, by omega, rfl, HO0.out, HC0.out⟩
    case round =>
      obtain ⟨k, hk, rfl, hO, hB⟩ := hrel
      have HO := Lib.hid hO
      have HB := Lib.hid hB
      clear hO hB HO0 HC0
      by_cases hlt : k < 28
      · have hxr := HX.out.next HB.out
        have hget := refGet_fun a x.length c ((2 * k : Nat) : Int) 2 x wr hxr (by omega)
        rw [HL.out] at hget
        obtain ⟨z, hz⟩ : ∃ z, z = getV x.length x ((2 * k : Nat) : Int) 2 := ⟨_, rfl⟩
        have hz2 := hz
        rw [HL.out] at hz2
        rw [← hz2] at hget
        have HZ := Lib.hid hz
        have w1 : IntKind.i64.wrap (2 * (k : Int)) = ((2 * k : Nat) : Int) := by rw [show 2 * (k : Int) = ((2 * k : Nat) : Int) by omega]; exact IntWalk.i64_in _ (by omega)
        have hs := HB.out.size
        clear hxr hz hz2
        go_wp2_with (fail)
        refine hget.mono ?_
        rintro e w2 ⟨rfl, rfl⟩
        go_wp2_with (at_builtin; go_must (refine wpList_api rfl (.tmp 23) (.tmp 25) rfl w.heap.size _ k _ rfl (HO.out.alloc _) wr.heap.size z rfl (by simp) (by omega) (by simp; omega) w (HB.out.alloc hs _) ?_); intro v3 w3 o b; have HO3 := Lib.hid o; have HB3 := Lib.hid b; clear o b)
        go_roundw
        case rel => exact ⟨k + 1, by omega, by go_num, by rw [gpL, ← HZ.out]; exact HO3.out, HB3.out⟩
        case measure => simp [RowKit.intOf]; omega
      · obtain rfl : k = 28 := by omega
        go_wp2_with (fail)
        go_ret2
        exact ⟨_, rfl, by rw [gpL_len]; exact HO.out, HB.out⟩
  · rw [gpF, if_neg h1, decide_eq_false h1]
    have d1 : ((x.length : Int) != 56) = true := by simp; omega
    clear h
    go_enter Try.func108, Try.ntmps108
    go_wp2
    go_ret2
    exact ⟨_, rfl, ownI_nil _ _, Below.refl _ _⟩

theorem plainInt : Try.prog.plainKey 3 = true := by kernel_rfl
theorem intInfo : ∃ i, Try.prog.info? 3 = some i := by
  obtain ⟨i0, hi, _⟩ := info_parts info3
  exact ⟨i0, hi⟩
theorem run_items (d : Nat) (xs ys : Array Value) (F G : Nat → Int) (w : World) : ∀ (is : List Nat), (∀ i ∈ is, xs[i * 1]? = some (.int .i64 (F i)) ∧ ys[i * 1]? = some (.int .i64 (G i))) →
    (Op.eqItems (d + 1) 3 1 xs ys is).run Try.prog w = .ok (is.all fun i => F i == G i) w
  | [], _ => rfl
  | i :: is, h => by
    obtain ⟨h1, h2⟩ := h i List.mem_cons_self
    have ih := run_items d xs ys F G w is (fun j hj => h j (List.mem_cons_of_mem _ hj))
    simp only [Op.eqItems, Sem.run_bind, run_part_plain w plainInt h1, run_part_plain w plainInt h2, run_equalIn_int w d 3 .i64 .i64 (F i) (G i) Try.underlying3, Result.andThen_ok, List.all_cons]
    cases hb : (F i == G i)
    · simp
    · simpa using ih

/-- 'append' of a slice of numbers onto a new empty slice. -/
theorem wpList_apx {w : World} {ops : Array Oper} {rest : List Oper} {o : Oper} {a : Act} {Q : Exit → Act → World → Prop} (hgd : o.guard = none) (s x : Operand)
    (ho : o.op = .call { callee := .builtin .append, args := #[s, x], argTypes := #[25, 25] })
    (g1 : Nat) (ad : Option Addr) (l c : Nat) (ks : List Int) (hs : a.eval s = .slice (some ⟨g1, 0, none⟩) 0 0) (hx : a.eval x = .slice ad l c) (h1 : w.heap[g1]? = some (.cells #[] 3 (0, 0))) (hy : Ins w ad l ks) (hnil : ad = none → l = 0 ∧ c = 0) (hl : l ≤ 1000000000000) (B : Nat) (hB : B ≤ g1) (w0 : World) (hb : Below B w0 w)
    (h : ∀ a' c' w', Ins w' a' l ks → (a' = none → l = 0 ∧ c' = 0) → (∀ x, a' = some x → B ≤ x.block ∧ x.block < w'.heap.size) → Below B w0 w' → wpList Try.prog ops Q rest (a.put o.dst (.slice a' l c')) w') : wpList Try.prog ops Q (o :: rest) a w := by
  obtain ⟨i0, hi, hz0, hz1, hz2⟩ := info_parts info3
  have hlt := lt_of_block h1
  have hown : w.ownsRow B 3 1 (.slice (some ⟨g1, 0, none⟩) 0 0) 0 [] := ⟨rfl, .inr ⟨g1, 0, #[], rfl, hB, h1, Nat.le_refl _, Nat.zero_le _, rfl, rfl⟩⟩
  obtain ⟨hlen, hp⟩ := hy
  cases ad with
  | none =>
    obtain ⟨rfl, rfl⟩ := hnil rfl
    exact wpList_append_own_none hgd s x 25 ho B 3 i0 1 Try.underlying25 hi _ 0 _ hs hown hx (h _ _ w ⟨hlen, .inl rfl⟩ (fun e => by cases e) (fun x e => by cases e; exact ⟨hB, hlt⟩) hb)
  | some p =>
    refine wpList_append_own w hgd s x 25 ho B 3 i0 (.int .i64 0) 1 8 Try.underlying25 hi hz0 hz1 hz2 rfl (by decide) (.slice (some ⟨g1, 0, none⟩) 0 0) 0 [] hs hown p l c (ks.map (Value.int .i64)) hx (by simp [hlen]) ?_ ?_ (by unfold maxLen; omega) (by omega) (by omega) ?_
    · intro j u hj
      have hjl : j < l := by
        rcases Nat.lt_or_ge j l with h | h
        · exact h
        · rw [List.getElem?_eq_none (by simp [hlen]; omega)] at hj; cases hj
      have hv : u = .int .i64 (num ks j) := by
        rw [List.getElem?_map] at hj
        have hjx : j < ks.length := by rw [hlen]; exact hjl
        simp [List.getElem?_eq_getElem hjx] at hj
        simp [num, List.getD, hjx, hj]
      rcases hp with h0 | ⟨b, off, hp, _, hcell⟩
      · omega
      · cases hp
        rw [hv, show (⟨b, off, none⟩ : Addr).add j = ⟨b, off + j, none⟩ by unfold Addr.add; split <;> simp_all]
        exact hcell j hjl
    · intro u hu
      obtain ⟨z, _, rfl⟩ := List.mem_map.1 hu
      rfl
    · intro v' w' hown' hgrow _
      have hb' := hb.grown hgrow (by omega) fun k hk => by cases hk; exact hB
      rw [Nat.zero_add] at hown'
      have ho : OwnI w' B v' l ks := by
        have := hown'
        rw [List.nil_append] at this
        exact this
      have hnn := ho
      obtain ⟨a', c', rfl, hi, _, _, hlo⟩ := ho.ins
      refine h a' c' w' hi (fun e => ?_) (fun x hx => hlo x hx) hb'
      subst e
      rcases hnn.2 with ⟨e1, h0⟩ | ⟨g, cap, cur, e1, _⟩
      · cases e1; exact ⟨rfl, rfl⟩
      · cases e1
def SmI (w0 : World) (n : Nat) (v : Value) (w : World) : Prop := ∃ k : Nat, k ≤ n ∧ v = .int .i64 k ∧ ∃ q, w = w0.drewN q
theorem sameInts_yes (a b : Option Addr) (n c d : Nat) (ks : List Int) (w : World) (h1 : Ins w a n ks) (h2 : Ins w b n ks) (hn : n ≤ 1000000000000) :
    Calls Try.prog 23 #[.slice a n c, .slice b n d] w fun e w' => e = .returned (.bool true) ∧ Below w.heap.size w w' := by
  go_enter Try.func23, Try.ntmps23
  go_wp2_with (fail)
  go_loopw [5] (fun v wr => SmI w n v wr) (fun v _ => n - (RowKit.intOf v).toNat)
  case atStart => exact ⟨0, by omega, rfl, 0, rfl⟩
  case round =>
    obtain ⟨k, hk, rfl, q, hq⟩ := hrel
    have hB : Below w.heap.size w wr := by rw [hq]; exact below_drewN (Below.refl _ _) q
    have HQ := Lib.hid hq
    clear hq
    by_cases hlt : k < n
    · rcases h1.2 with h0 | ⟨g1, o1, rfl, l1, c1⟩
      · omega
      rcases h2.2 with h0 | ⟨g2, o2, rfl, l2, c2⟩
      · omega
      have k0 : (0 : Int) ≤ (k : Int) := by omega
      have k1 : (k : Int) < (n : Int) := by omega
      have x1 := (hB.cell (p := ⟨g1, o1 + k, none⟩) l1).trans (c1 k hlt)
      have x2 := (hB.cell (p := ⟨g2, o2 + k, none⟩) l2).trans (c2 k hlt)
      clear h1 h2 c1 c2
      go_wp2_with (fail)
      go_quiet (fail)
      go_wp2_with (fail)
      go_roundw
      case rel => exact ⟨k + 1, by omega, by go_num, q + nq, by rw [HQ.out, World.drewN_drewN]⟩
      case measure => simp [RowKit.intOf]; omega
    · obtain rfl : k = n := by omega
      clear h1 h2
      go_wp2_with (fail)
      go_ret
      exact ⟨rfl, hB⟩

/-- How many addresses a geometry has; none, if it isn't right. -/
def adO (d r s : Int) : Int := if geoO d r s = true then adN d r s else 0
theorem adO_yes {d r s : Int} (h : Rt d r s) : adO d r s = adN d r s := by rw [adO, if_pos (geoO_iff.2 h)]
theorem adO_no {d r s : Int} (h : ¬ Rt d r s) : adO d r s = 0 := by rw [adO, geoO_no h]; rfl
theorem isA_zero (a : Int) : isA 0 a = false := by rw [isA]; exact decide_eq_false (by omega)
theorem adO_le (d r s : Int) : adO d r s ≤ 3776 := by
  by_cases h : Rt d r s
  · rw [adO_yes h]; exact (adN_bd h).2
  · rw [adO_no h]; omega
theorem pwhere_any (d r s n : Int) (w : World) :
    Calls Try.prog 82 #[gv d r s, .int .i64 n] w fun e w' => ∃ x y, e = .returned (.tuple #[.int .i64 x, .int .i64 y, .bool (isA (adO d r s) n)]) ∧ Below w.heap.size w w' := by
  by_cases h : Rt d r s
  · rw [adO_yes h]
    by_cases h1 : 1 ≤ n
    · by_cases h2 : n ≤ adN d r s
      · rw [isA_iff.2 ⟨h1, h2⟩]
        exact (where_yes d r s n w h h1 h2).mono fun e w' ⟨he, hb⟩ => ⟨_, _, he, hb⟩
      · rw [show isA (adN d r s) n = false from decide_eq_false (by omega)]
        exact (where_high d r s n w h (by unfold adN at h2; omega)).mono fun e w' ⟨he, hb⟩ => ⟨_, _, he, hb⟩
    · rw [show isA (adN d r s) n = false from decide_eq_false (by omega)]
      exact (where_low d r s n w h (by omega)).mono fun e w' ⟨he, hb⟩ => ⟨_, _, he, hb⟩
  · rw [adO_no h, isA_zero]
    exact (where_out d r s n w h).mono fun e w' ⟨he, hb⟩ => ⟨_, _, he, hb⟩
theorem paddr_any (d r s a : Int) (w : World) :
    Calls Try.prog 47 #[gv d r s, .int .i64 a] w fun e w' => e = .returned (.bool (isA (adO d r s) a)) ∧ Below w.heap.size w w' := by
  have hB : Below w.heap.size w (w.alloc (.cells #[.int .i64 d, .int .i64 r, .int .i64 s] 23 (0, 0))) := (Below.refl _ _).alloc (Nat.le_refl _) _
  have HB := Lib.hid hB
  clear hB
  obtain ⟨t, ht⟩ : ∃ t, t = isA (adO d r s) a := ⟨_, rfl⟩
  have hw := fun w => pwhere_any d r s a w
  rw [← ht] at hw ⊢
  clear ht
  go_enter Try.func47, Try.ntmps47
  go_wp2_with (fail)
  refine (hw _).mono ?_
  rintro e w2 ⟨x, y, rfl, hb⟩
  have HB2 := Lib.hid (HB.out.trans (hb.mono HB.out.size))
  clear hb hw
  go_wp2_with (fail)
  go_ret
  exact ⟨rfl, HB2.out⟩
theorem pSome_any (a : Int) (w : World) : Calls Try.prog 102 #[.int .i64 a] w fun e w' => e = .returned (.bool (a != 0)) ∧ w = w' := by
  go_enter Try.func102, Try.ntmps102
  go_wp2
  go_ret
  exact ⟨rfl, rfl⟩
/-- What a closure answers: p, wherever all that lay in w0 lies still; it makes memory at most. -/
def GivesI (g : FuncId) (lb : Array Value) (p : Int → Bool) (w0 : World) : Prop :=
  ∀ (x : Int) (w : World), Below w0.heap.size w0 w → Calls Try.prog g (#[.int .i64 x] ++ lb) w fun e w' => e = .returned (.bool (p x)) ∧ Below w.heap.size w w'
theorem gives_some (w : World) : GivesI 102 #[] (fun a => a != 0) w := fun x w1 _ => by
  refine (pSome_any x w1).mono ?_
  rintro e w' ⟨rfl, rfl⟩
  exact ⟨rfl, Below.refl _ _⟩
/-- A geometry's box. -/
theorem gives_no (d r s : Int) (g : Nat) (w : World) (hx : Bx w g d r s) : GivesI 46 #[.pointer (some ⟨g, 0, none⟩)] (fun a => !isA (adO d r s) a) w := fun x w1 hb => by
  have h := hx.next hb
  have y1 := h.c0
  have y2 := h.c1
  have y3 := h.c2
  have hA := paddr_any d r s x w1
  obtain ⟨t, ht⟩ : ∃ t, t = isA (adO d r s) x := ⟨_, rfl⟩
  rw [← ht] at hA
  show Calls Try.prog 46 #[.int .i64 x, .pointer (some ⟨g, 0, none⟩)] w1 fun e w' => e = .returned (.bool (!isA (adO d r s) x)) ∧ Below w1.heap.size w1 w'
  rw [← ht]
  clear h hx hb ht
  go_enter Try.func46, Try.ntmps46
  go_wp2_with (fail)
  refine hA.mono ?_
  rintro e w2 ⟨rfl, hb⟩
  have HB := Lib.hid hb
  clear hb hA
  go_wp2_with (fail)
  go_ret
  exact ⟨rfl, HB.out⟩
theorem gives_node (d r s : Int) (g : Nat) (w : World) (hx : Bx w g d r s) : GivesI 98 #[.pointer (some ⟨g, 0, none⟩)] (fun a => a != 0 && !isA (adO d r s) a) w := fun x w1 hb => by
  have h := hx.next hb
  have y1 := h.c0
  have y2 := h.c1
  have y3 := h.c2
  have hA := paddr_any d r s x w1
  obtain ⟨t, ht⟩ : ∃ t, t = isA (adO d r s) x := ⟨_, rfl⟩
  rw [← ht] at hA
  show Calls Try.prog 98 #[.int .i64 x, .pointer (some ⟨g, 0, none⟩)] w1 fun e w' => e = .returned (.bool (x != 0 && !isA (adO d r s) x)) ∧ Below w1.heap.size w1 w'
  rw [← ht]
  clear h hx hb ht
  by_cases e0 : x = 0
  · subst e0
    go_enter Try.func98, Try.ntmps98
    go_wp2_with (fail)
    go_ret
    exact ⟨rfl, Below.refl _ _⟩
  · have d0 : (x != 0) = true := by simp [e0]
    rw [d0]
    clear e0
    go_enter Try.func98, Try.ntmps98
    go_wp2_with (fail)
    refine hA.mono ?_
    rintro e w2 ⟨rfl, hb⟩
    have HB := Lib.hid hb
    clear hb hA
    go_wp2_with (fail)
    go_ret
    exact ⟨rfl, HB.out⟩
/-- The first k numbers don't meet p. -/
def NoTo (p : Int → Bool) (L : List Int) (k : Nat) : Prop := ∀ j, j < k → p (num L j) = false
theorem NoTo.zero (p : Int → Bool) (L : List Int) : NoTo p L 0 := fun j h => by omega
theorem NoTo.succ {p : Int → Bool} {L : List Int} {k : Nat} (h : NoTo p L k) (e : p (num L k) = false) : NoTo p L (k + 1) := fun j hj => by
  by_cases hk : j = k
  · rw [hk]; exact e
  · exact h j (by omega)
def IxO (p : Int → Bool) (L : List Int) (r : Int) : Prop := (r = -1 ∧ NoTo p L L.length) ∨ ∃ k : Nat, k < L.length ∧ r = (k : Int) ∧ p (num L k) = true
theorem indexI_any (g : FuncId) (lb : Array Value) (eg : ∀ args w, (callFunc g args).run Try.prog w = .ok (.enter g args) w) (p : Int → Bool) (w : World) (hg : GivesI g lb p w) (a : Option Addr) (n c : Nat) (L : List Int) (h : Ins w a n L) (hn : n ≤ 1000000000000) :
    Calls Try.prog 83 #[.slice a n c, .func (.func g) #[] lb] w fun e w' => ∃ r : Int, e = .returned (.int .i64 r) ∧ IxO p L r ∧ Below w.heap.size w w' := by
  have HLen := Lib.hid h.len
  go_enter Try.func83, Try.ntmps83
  go_wp2_with (fail)
  go_loopw [5, 8] (fun _ v wr => ∃ k : Nat, k ≤ n ∧ v = .int .i64 k ∧ Below w.heap.size w wr ∧ NoTo p L k) (fun _ v _ => n - (RowKit.intOf v).toNat)
  case atStart => exact ⟨0, by omega, rfl, Below.refl _ _, NoTo.zero _ _⟩
  case round =>
    obtain ⟨k, hk, rfl, hB, hI⟩ := hrel
    have HI := Lib.hid hI
    have HB := Lib.hid hB
    by_cases hlt : k < n
    · have k1 : (k : Int) < (n : Int) := by omega
      have k0 : (0 : Int) ≤ (k : Int) := by omega
      obtain ⟨b, off, rfl, hbl, hc⟩ := h.at (by omega)
      obtain ⟨z, hz⟩ : ∃ z, z = num L k := ⟨_, rfl⟩
      have x1 := (hB.cell (p := ⟨b, off + k, none⟩) hbl).trans (hc k hlt)
      have hcall := hg (num L k) wr hB
      have HIS := Lib.hid (fun e => hI.succ (k := k) e)
      rw [← hz] at x1 hcall HIS
      have HZ := Lib.hid hz
      clear hc h hB hI hg hz
      cases hb : p z with
      | false =>
        rw [hb] at hcall
        go_wp2_with (go_at_fn g; refine hcall.mono ?_; rintro e w' ⟨rfl, hb'⟩)
        have HB2 := Lib.hid (HB.out.trans (hb'.mono HB.out.size))
        clear hb' hcall
        go_roundw
        case rel => exact ⟨k + 1, by omega, by go_num, HB2.out, HIS.out hb⟩
        case measure => simp [RowKit.intOf]; omega
      | true =>
        rw [hb] at hcall
        go_wp2_with (go_at_fn g; refine hcall.mono ?_; rintro e w' ⟨rfl, hb'⟩)
        have HB2 := Lib.hid (HB.out.trans (hb'.mono HB.out.size))
        clear hb' hcall
        go_ret
        exact ⟨k, rfl, .inr ⟨k, by rw [HLen.out]; exact hlt, rfl, by rw [← HZ.out]; exact hb⟩, HB2.out⟩
    · have hkn : k = n := by omega
      have HK := Lib.hid hkn
      have k1 : ¬ (k : Int) < (n : Int) := by omega
      clear h hB hI hg hkn hlt hk
      go_wp2_with (fail)
      go_ret
      exact ⟨-1, rfl, .inl ⟨rfl, by rw [HLen.out, ← HK.out]; exact HI.out⟩, HB.out⟩
theorem IxO.any {p : Int → Bool} {L : List Int} {r : Int} (h : IxO p L r) : decide (0 ≤ r) = L.any p := by
  rcases h with ⟨rfl, h⟩ | ⟨k, hk, rfl, e⟩
  · symm
    rw [show decide ((0 : Int) ≤ -1) = false from rfl, List.any_eq_false]
    intro x hx
    obtain ⟨i, hi, rfl⟩ := List.getElem_of_mem hx
    have := h i hi
    have e : L[i] = num L i := by simp [num, List.getD, hi]
    rw [e, this]; decide
  · symm
    rw [decide_eq_true (by omega), List.any_eq_true]
    exact ⟨num L k, by rw [show num L k = L[k] by simp [num, List.getD, hk]]; exact List.getElem_mem hk, e⟩
theorem containsI_any (g : FuncId) (lb : Array Value) (eg : ∀ args w, (callFunc g args).run Try.prog w = .ok (.enter g args) w) (p : Int → Bool) (w : World) (hg : GivesI g lb p w) (a : Option Addr) (n c : Nat) (L : List Int) (h : Ins w a n L) (hn : n ≤ 1000000000000) :
    Calls Try.prog 48 #[.slice a n c, .func (.func g) #[] lb] w fun e w' => e = .returned (.bool (L.any p)) ∧ Below w.heap.size w w' := by
  have hi := indexI_any g lb eg p w hg a n c L h hn
  clear hg h
  go_enter Try.func48, Try.ntmps48
  go_wp2_with (fail)
  refine hi.mono ?_
  rintro e w' ⟨r, rfl, hr, hb⟩
  have hr' := hr.any
  have HB := Lib.hid hb
  clear hr hb hi
  go_wp2_with (fail)
  go_ret
  exact ⟨by rw [← hr']; rfl, HB.out⟩
end Go.Proofs.Ytegcjpocdfmpfaa
