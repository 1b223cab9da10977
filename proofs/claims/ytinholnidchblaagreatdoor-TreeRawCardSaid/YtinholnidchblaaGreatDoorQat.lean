import Derived.Test.YtinholnidchblaaGreatDoorQas
import Derived.Test.YtinholnidchblaaGreatDoorQak
import Derived.Test.YtinholnidchblaaGreatDoorQap
import Derived.Test.YtinholnidchblaaGreatDoorQah
import Derived.Deep.RegionHeld
import Derived.Test.YtinholnidchblaaGreatDoorQaq
import Derived.Laws.AppendOwnNone
import Derived.Test.YtinholnidchblaaGreatDoorQai
set_option linter.unusedVariables false
set_option linter.unusedSimpArgs false
set_option maxRecDepth 100000
set_option maxHeartbeats 16000000
namespace Go.Proofs.YtinholnidchblaaGreatDoor
open Go.RowKit
structure RsF (w : World) (s : ByteArray) (vo vn : Value) (k : Nat) (nm : List UInt8) (L : List (List UInt8)) (wr : World) : Prop where
 k1 : 1 ≤ k
 k2 : k ≤ s.size + 1
 out : OwnT wr w.heap.size vo L.length L
 name : Own wr w.heap.size vn nm.length (bIy nm)
 bel : Below w.heap.size w wr
 ar : arP L = true
 short : nm.length ≤ k
 run : k ≤ s.size → rsp (s.data.toList.drop k) nm L = spl s.data.toList
 fin : k = s.size + 1 → spl s.data.toList = some L
theorem drop_at {s : ByteArray} {k : Nat} (h : k < s.size) : s.data.toList.drop k = (s[k]'h) :: s.data.toList.drop (k + 1) := by
 have h' : k < s.data.toList.length := by rw [← Lib.size_eq]; exact h
 rw [List.drop_eq_getElem_cons h']
 rfl
theorem RsF.byte {w : World} {s : ByteArray} {vo vn : Value} {k : Nat} {nm : List UInt8} {L : List (List UInt8)} {wr : World} (h : RsF w s vo vn k nm L wr) {b : UInt8} (hlt : k < s.size) (hb : (s[k]'hlt) = b) (h7 : b ≠ 47)
  {vn' : Value} {w' : World} (hn : Own w' w.heap.size vn' (nm.length + 1) (bIy (nm ++ [b]))) (ho : OwnT w' w.heap.size vo L.length L) (hB : Below w.heap.size w w') : RsF w s vo vn' (k + 1) (nm ++ [b]) L w' :=
 ⟨by omega, by omega, ho, by rw [List.length_append, List.length_singleton]; exact hn, hB, h.ar, by rw [List.length_append, List.length_singleton]; have := h.short; omega, fun hk => by
  rw [← h.run (by omega), drop_at hlt, hb, rsp, if_neg h7], fun hk => by omega⟩
theorem RsF.cut {w : World} {s : ByteArray} {vo vn : Value} {k : Nat} {nm : List UInt8} {L : List (List UInt8)} {wr : World} (h : RsF w s vo vn k nm L wr) (hk : k ≤ s.size) (h7 : ∀ hlt : k < s.size, (s[k]'hlt) = 47) (hn : nmB nm = true) (h8 : L.length ≠ 8)
  {vo' : Value} {w' : World} (ho : OwnT w' w.heap.size vo' (L.length + 1) (L ++ [nm])) (hB : Below w.heap.size w w') : RsF w s vo' (.slice none 0 0) (k + 1) [] (L ++ [nm]) w' := by
 have hc : (nmB nm && !(L.length == 8)) = true := by rw [hn, beq_eq_false_iff_ne.2 h8]; rfl
 refine ⟨by omega, by omega, by rw [List.length_append, List.length_singleton]; exact ho, own_nil8y _ _, hB, by rw [arP_snoc h.ar, hc], by simp, fun hk' => ?_, fun hk' => ?_⟩
 ·rw [← h.run hk, drop_at (show k < s.size by omega), h7 (by omega), rsp, if_pos rfl, if_pos hc]
 ·have e : s.data.toList.drop k = [] := List.drop_of_length_le (by rw [← Lib.size_eq]; omega)
  rw [← h.run hk, e, rsp, if_pos hc]
theorem RsF.stop {w : World} {s : ByteArray} {vo vn : Value} {k : Nat} {nm : List UInt8} {L : List (List UInt8)} {wr : World} (h : RsF w s vo vn k nm L wr) (hk : k ≤ s.size) (h7 : ∀ hlt : k < s.size, (s[k]'hlt) = 47) (hc : (nmB nm && !(L.length == 8)) = false) : spl s.data.toList = none := by
 rw [← h.run hk]
 by_cases hlt : k < s.size
 ·rw [drop_at hlt, h7 hlt, rsp, if_pos rfl, hc]; rfl
 ·have e : s.data.toList.drop k = [] := List.drop_of_length_le (by rw [← Lib.size_eq]; omega)
  rw [e, rsp, hc]; rfl
theorem rsplit_any (s : ByteArray) (w : World) (hs : s.size ≤ 1000000) : Calls Tryz.prog 82 #[.string s] w (SplPost w (spl s.data.toList)) := by
 by_cases h0 : s.size = 0
 ·have hn := qH (show spl s.data.toList = none by
   have : s.data.toList = [] := List.length_eq_zero_iff.1 (by rw [← Lib.size_eq]; exact h0)
   rw [this]; rfl)
  have k0 : (s.size : Int) = 0 := by omega
  clear hs h0
  go_enter Tryz.func82, Tryz.ntmps82
  go_wp2_with fail
  go_ret2
  exact ⟨by rw [hn.out]; rfl, Below.refl _ _⟩
 have k0 : ¬ (s.size : Int) = 0 := by omega
 have kp : 0 < s.size := by omega
 obtain ⟨b0, hb0⟩ : ∃ b, (s[0]'kp) = b := ⟨_, rfl⟩
 have hd0 := drop_at kp
 rw [List.drop_zero, hb0] at hd0
 have hat0 : (((s[0]'kp).toNat : Nat) : Int) = ((b0.toNat : Nat) : Int) := by rw [hb0]
 by_cases h7 : b0 = 47
 ·subst h7
  have q7 : (((47 : UInt8).toNat : Nat) : Int) = 47 := rfl
  rw [q7] at hat0
  clear q7
  by_cases h1 : s = ⟨#[47]⟩
  ·subst h1
   clear hd0 hb0 hat0 k0 kp h0 hs
   go_enter Tryz.func82, Tryz.ntmps82
   go_wp2_with fail
   go_ret2
   exact ⟨⟨_, rfl, ownT_none w _ (Nat.le_refl _)⟩, (Below.refl _ _).alloc (Nat.le_refl _) _⟩
  ·have n1 : s.data.toList ≠ [47] := fun e => h1 (by rw [← tx_data s, e]; rfl)
   have m1 : (s.toList == [47]) = false := by rw [Lib.toList_data]; exact beq_eq_false_iff_ne.2 n1
   have qs : ((s.size : Int) == 0) = false := beq_eq_false_iff_ne.2 k0
   have hr1 : s.data.toList.drop 1 ≠ [] := fun e => n1 (by rw [hd0]; rw [Nat.zero_add, e])
   have hsp0 : rsp (s.data.toList.drop 1) [] [] = spl s.data.toList := by
    rw [rsp_spl hr1]
    exact congrArg spl hd0.symm
   have hst : RsF w s (.slice (some ⟨w.heap.size, 0, none⟩) 0 0) (.slice (some ⟨w.heap.size + 1, 0, none⟩) 0 0) 1 [] [] ((w.alloc (.cells #[] 9)).alloc (.cells #[] 5)) := by
    have hB1 : Below w.heap.size w (w.alloc (.cells #[] 9)) := (Below.refl _ _).alloc (Nat.le_refl _) _
    have hsz1 : (w.alloc (.cells #[] 9)).heap.size = w.heap.size + 1 := by simp
    have hn := own_none (w.alloc (.cells #[] 9)) w.heap.size (by omega); rw [hsz1] at hn
    exact ⟨Nat.le_refl _, by omega, (ownT_none w _ (Nat.le_refl _)).alloc _, hn, hB1.alloc hB1.size _, rfl, by simp, fun _ => hsp0, fun hk => absurd hk (by omega)⟩
   have HST := qH hst; clear hd0 hb0 n1 h1 hr1 hsp0 hst h0
   go_enter Tryz.func82, Tryz.ntmps82
   go_wp2_with fail
   go_loopw [4, 5, 6] (fun vo vn vi wr => ∃ (k : Nat) (nm : List UInt8) (L : List (List UInt8)), vi = .int .i64 k ∧ RsF w s vo vn k nm L wr) (fun _ _ vi _ => s.size + 1 - (RowKit.intOf vi).toNat)
   case atStart => exact ⟨1, [], [], rfl, HST.out⟩
   case round =>
    obtain ⟨k, nm, L, rfl, hF⟩ := hrel; have HF := qH hF
    by_cases hle : k ≤ s.size
    ·obtain ⟨a, c, ev, hS, hnc, hcm, _, hlo⟩ := hF.out.sts
     subst ev; have hb1 := hF.k1; have hsh := hF.short
     by_cases hb : ∃ hlt : k < s.size, (s[k]'hlt) ≠ 47
     ·obtain ⟨hlt, hb7⟩ := hb
      obtain ⟨b, hbe⟩ : ∃ b, (s[k]'hlt) = b := ⟨_, rfl⟩
      rw [hbe] at hb7
      have hat : (((s[k]'hlt).toNat : Nat) : Int) = ((b.toNat : Nat) : Int) := by rw [hbe]
      have q7 : ((((b.toNat : Nat) : Int)) == 47) = false := by
       refine beq_eq_false_iff_ne.2 fun e => hb7 (UInt8.toNat_inj.1 ?_)
       rw [show (47 : UInt8).toNat = 47 from rfl]; omega
      have r7 : ((((b.toNat : Nat) : Int)) != 47) = true := by rw [bne, q7]; rfl
      have k3 : (k : Int) < (s.size : Int) := by omega
      have k4 : (k : Int) ≤ (s.size : Int) := by omega
      have k5 : (0 : Int) ≤ (k : Int) := by omega
      have HBE := qH hbe; have HB7 := qH hb7; clear hF hS hbe hb7 hlo hsh hb1; have HN := qH (HF.out.name.alloc (.cells #[.int .u8 ((b.toNat : Nat) : Int)] 5)); have HO := qH (HF.out.out.alloc (.cells #[.int .u8 ((b.toNat : Nat) : Int)] 5)); have HB := qH (HF.out.bel.alloc HF.out.bel.size (.cells #[.int .u8 ((b.toNat : Nat) : Int)] 5)); have hsh := HF.out.short; have hBs := HF.out.bel.size
      go_wp2_with (at_builtin; go_must (refine wpList_apb rfl (.tmp 36) (.tmp 40) rfl w.heap.size _ nm.length nm rfl HN.out wr.heap.size b rfl (by simp) _ L.length L HO.out (by omega) (by simp; omega) w HB.out ?_); intro v2 w2 hn2 ho2 hb2)
      have HN2 := qH hn2; have HO2 := qH ho2; have HB2 := qH hb2; clear hn2 ho2 hb2
      go_roundw
      case rel => exact ⟨k + 1, nm ++ [b], L, by go_num, HF.out.byte hlt HBE.out HB7.out HN2.out HO2.out HB2.out⟩
      case measure => simp [RowKit.intOf]; omega
     ·have h7 : ∀ hlt : k < s.size, (s[k]'hlt) = 47 := fun hlt => by
       by_cases h : (s[k]'hlt) = 47
       ·exact h
       ·exact absurd ⟨hlt, h⟩ hb
      have H7 := qH h7; have hcv := conv_own hF.name; have hrn := rname_any (tx nm) wr; rw [data_tx] at hrn
      have k4 : (k : Int) ≤ (s.size : Int) := by omega
      have k5 : (0 : Int) ≤ (k : Int) := by omega
      clear hF hS hb h7 hlo
      by_cases hlt : k < s.size
      ·have k3 : (k : Int) < (s.size : Int) := by omega
       have hat : (((s[k]'hlt).toNat : Nat) : Int) = 47 := by rw [H7.out hlt]; rfl
       have hst := HF.out.stop hle H7.out
       cases hn : nmB nm with
       | false =>
        have hsp := qH (hst (by rw [hn]; rfl)); rw [hn] at hrn; clear hst; go_wp2_with fail; refine hrn.mono ?_; rintro e w' ⟨rfl, rfl⟩; go_wp2_with fail
        go_ret2
        exact ⟨by rw [hsp.out]; rfl, HF.out.bel⟩
       | true =>
        rw [hn] at hrn
        by_cases h8 : L.length = 8
        ·have hsp := qH (hst (by rw [hn, h8]; rfl))
         have q8 : ((L.length : Int) == 8) = true := beq_iff_eq.2 (by omega); clear hst h8; go_wp2_with fail; refine hrn.mono ?_; rintro e w' ⟨rfl, rfl⟩; go_wp2_with fail
         go_ret2
         exact ⟨by rw [hsp.out]; rfl, HF.out.bel⟩
        ·have q8 : ((L.length : Int) == 8) = false := beq_eq_false_iff_ne.2 (by omega)
         have H8 := qH h8; clear hst h8; go_wp2_with fail; refine hrn.mono ?_; rintro e w' ⟨rfl, rfl⟩; have HO := qH (HF.out.out.alloc (.cells #[.string (tx nm)] 9)); have HB := qH (HF.out.bel.alloc HF.out.bel.size (.cells #[.string (tx nm)] 9)); have hS1 := sts_one (w := w') (tx nm) rfl; rw [data_tx] at hS1; have HS1 := qH hS1; have hBs := HF.out.bel.size; have hal := arP_len HF.out.ar; clear hS1
         go_wp2_with (at_builtin; go_must (refine wpList_apT rfl (.tmp 51) (.tmp 54) rfl w.heap.size _ L.length L rfl HO.out ⟨w'.heap.size, 0, none⟩ 1 1 [nm] rfl HS1.out (by omega) (by simp; omega) w HB.out ?_); intro v2 w2 ho2 hb2)
         have HO2 := qH ho2; have HB2 := qH hb2; clear ho2 hb2
         go_roundw
         case rel => exact ⟨k + 1, [], L ++ [nm], by go_num, HF.out.cut hle H7.out hn H8.out HO2.out HB2.out⟩
         case measure => simp [RowKit.intOf]; omega
      ·have k3 : ¬ (k : Int) < (s.size : Int) := by omega
       have hst := HF.out.stop hle H7.out
       cases hn : nmB nm with
       | false =>
        have hsp := qH (hst (by rw [hn]; rfl)); rw [hn] at hrn; clear hst; go_wp2_with fail; refine hrn.mono ?_; rintro e w' ⟨rfl, rfl⟩; go_wp2_with fail
        go_ret2
        exact ⟨by rw [hsp.out]; rfl, HF.out.bel⟩
       | true =>
        rw [hn] at hrn
        by_cases h8 : L.length = 8
        ·have hsp := qH (hst (by rw [hn, h8]; rfl))
         have q8 : ((L.length : Int) == 8) = true := beq_iff_eq.2 (by omega); clear hst h8; go_wp2_with fail; refine hrn.mono ?_; rintro e w' ⟨rfl, rfl⟩; go_wp2_with fail
         go_ret2
         exact ⟨by rw [hsp.out]; rfl, HF.out.bel⟩
        ·have q8 : ((L.length : Int) == 8) = false := beq_eq_false_iff_ne.2 (by omega)
         have H8 := qH h8; clear hst h8; go_wp2_with fail; refine hrn.mono ?_; rintro e w' ⟨rfl, rfl⟩; have HO := qH (HF.out.out.alloc (.cells #[.string (tx nm)] 9)); have HB := qH (HF.out.bel.alloc HF.out.bel.size (.cells #[.string (tx nm)] 9)); have hS1 := sts_one (w := w') (tx nm) rfl; rw [data_tx] at hS1; have HS1 := qH hS1; have hBs := HF.out.bel.size; have hal := arP_len HF.out.ar; clear hS1
         go_wp2_with (at_builtin; go_must (refine wpList_apT rfl (.tmp 51) (.tmp 54) rfl w.heap.size _ L.length L rfl HO.out ⟨w'.heap.size, 0, none⟩ 1 1 [nm] rfl HS1.out (by omega) (by simp; omega) w HB.out ?_); intro v2 w2 ho2 hb2)
         have HO2 := qH ho2; have HB2 := qH hb2; clear ho2 hb2
         go_roundw
         case rel => exact ⟨k + 1, [], L ++ [nm], by go_num, HF.out.cut hle H7.out hn H8.out HO2.out HB2.out⟩
         case measure => simp [RowKit.intOf]; omega
    ·have hk : k = s.size + 1 := by have := hF.k2; omega
     subst hk; have hfin := qH (hF.fin rfl); obtain ⟨a, c, ev, _⟩ := hF.out.sts; subst ev
     have k4 : ¬ ((s.size : Int) + 1) ≤ (s.size : Int) := by omega
     clear hF; go_wp2_with fail
     go_ret2
     refine ⟨?_, HF.out.bel⟩; rw [hfin.out]
     exact ⟨.slice a L.length c, rfl, HF.out.out⟩
 ·have hn := qH (show spl s.data.toList = none by rw [hd0, spl, if_neg h7])
  have q7 : ((((b0.toNat : Nat) : Int)) == 47) = false := by
   refine beq_eq_false_iff_ne.2 fun e => h7 (UInt8.toNat_inj.1 ?_)
   rw [show (47 : UInt8).toNat = 47 from rfl]; omega
  have r7 : ((((b0.toNat : Nat) : Int)) != 47) = true := by rw [bne, q7]; rfl
  have qs : ((s.size : Int) == 0) = false := beq_eq_false_iff_ne.2 k0
  clear hd0 hb0 h7
  go_enter Tryz.func82, Tryz.ntmps82
  go_wp2_with fail
  go_ret2
  exact ⟨by rw [hn.out]; rfl, Below.refl _ _⟩
theorem rwithin_any (s t : ByteArray) (w : World) (hs : s.size ≤ 1000000) (ht : t.size ≤ 1000000) :
  Calls Tryz.prog 116 #[.string s, .string t] w fun e w' => e = .returned (.bool (wit s.data.toList t.data.toList)) ∧ Below w.heap.size w w' := by
 have hc1 := rsplit_any s w hs
 obtain ⟨x, hx⟩ : ∃ x, s.data.toList = x := ⟨_, rfl⟩
 obtain ⟨y, hy⟩ : ∃ y, t.data.toList = y := ⟨_, rfl⟩
 rw [hx] at hc1
 rw [hx, hy]
 have hc2 : ∀ w1, Calls Tryz.prog 82 #[.string t] w1 (SplPost w1 (spl y)) := fun w1 => by rw [← hy]; exact rsplit_any t w1 ht
 clear hx hy hs ht
 cases hA : spl x with
 | none =>
  have hw := qH (wit_left hA y)
  rw [hA] at hc1
  clear hA
  cases hB : spl y with
  | none =>
   rw [hB] at hc2; clear hB
   go_enter Tryz.func116, Tryz.ntmps116
   go_wp2_with fail; refine hc1.mono ?_; rintro e w1 ⟨h1, hb1⟩
   cases h1
   have h2 := hc2 w1; have HB1 := qH hb1; clear hc1 hc2 hb1; go_wp2_with fail; refine h2.mono ?_; rintro e w2 ⟨h3, hb2⟩
   cases h3
   have HB2 := qH (HB1.out.trans (hb2.mono HB1.out.size)); clear h2 hb2; go_wp2_with fail; go_ret
   exact ⟨by rw [hw.out]; rfl, HB2.out⟩
  | some M =>
   rw [hB] at hc2; clear hB
   go_enter Tryz.func116, Tryz.ntmps116
   go_wp2_with fail; refine hc1.mono ?_; rintro e w1 ⟨h1, hb1⟩
   cases h1
   have h2 := hc2 w1; have HB1 := qH hb1; clear hc1 hc2 hb1; go_wp2_with fail; refine h2.mono ?_; rintro e w2 ⟨⟨v, he, ho⟩, hb2⟩; subst he; obtain ⟨a2, c2, rfl, _⟩ := ho.sts; have HB2 := qH (HB1.out.trans (hb2.mono HB1.out.size)); clear h2 hb2 ho; go_wp2_with fail; go_ret
   exact ⟨by rw [hw.out]; rfl, HB2.out⟩
 | some L =>
  rw [hA] at hc1
  cases hB : spl y with
  | none =>
   have hw := qH (show wit x y = false by unfold wit; rw [hA, hB]); rw [hB] at hc2; clear hB hA
   go_enter Tryz.func116, Tryz.ntmps116
   go_wp2_with fail; refine hc1.mono ?_; rintro e w1 ⟨⟨v, he, ho⟩, hb1⟩; subst he; obtain ⟨a1, c1, rfl, _⟩ := ho.sts; have h2 := hc2 w1; have HB1 := qH hb1; clear hc1 hc2 hb1 ho; go_wp2_with fail; refine h2.mono ?_; rintro e w2 ⟨h3, hb2⟩
   cases h3
   have HB2 := qH (HB1.out.trans (hb2.mono HB1.out.size)); clear h2 hb2; go_wp2_with fail; go_ret
   exact ⟨by rw [hw.out]; rfl, HB2.out⟩
  | some M =>
   have hw := qH (wit_eq hA hB); have h8 := arP_len (spl_arP hA); have h9 := arP_len (spl_arP hB); rw [hB] at hc2; clear hB hA
   by_cases hlt : L.length < M.length
   ·have k3 : (L.length : Int) < (M.length : Int) := by omega
    go_enter Tryz.func116, Tryz.ntmps116
    go_wp2_with fail; refine hc1.mono ?_; rintro e w1 ⟨⟨v, he, ho⟩, hb1⟩; subst he; obtain ⟨a1, c1, rfl, _⟩ := ho.sts; have h2 := hc2 w1; have HB1 := qH hb1; clear hc1 hc2 hb1 ho; go_wp2_with fail; refine h2.mono ?_; rintro e w2 ⟨⟨v, he, ho⟩, hb2⟩; subst he; obtain ⟨a2, c2, rfl, _⟩ := ho.sts; have HB2 := qH (HB1.out.trans (hb2.mono HB1.out.size)); clear h2 hb2 ho; go_wp2_with fail; go_ret
    exact ⟨by rw [hw.out, decide_eq_false (by omega)]; rfl, HB2.out⟩
   ·have k3 : ¬ (L.length : Int) < (M.length : Int) := by omega
    go_enter Tryz.func116, Tryz.ntmps116
    go_wp2_with fail; refine hc1.mono ?_; rintro e w1 ⟨⟨v, he, ho⟩, hb1⟩; subst he; obtain ⟨a1, c1, rfl, hS1, hnc, hcm, hz, _⟩ := ho.sts; have h2 := hc2 w1; have HB1 := qH hb1; have HS1 := qH hS1; clear hc1 hc2 hb1 ho hS1; go_wp2_with fail; refine h2.mono ?_; rintro e w2 ⟨⟨v, he, ho⟩, hb2⟩; subst he; obtain ⟨a2, c2, rfl, hS2, _⟩ := ho.sts; have HB2 := qH (HB1.out.trans (hb2.mono HB1.out.size)); have HS1' := qH (HS1.out.next hb2); clear h2 hb2 ho; go_wp2_with fail
    go_loopw [9] (fun v wr => ∃ k : Nat, k ≤ M.length ∧ v = .int .i64 k ∧ (∃ q, wr = w2.drewN q) ∧ LikeTo L M k) (fun v _ => M.length - (RowKit.intOf v).toNat)
    case atStart => exact ⟨0, by omega, rfl, ⟨0, rfl⟩, LikeTo.zero _ _⟩
    case round =>
     obtain ⟨k, hk, rfl, ⟨q, hq⟩, hI⟩ := hrel; have HI := qH hI
     have hB : Below w2.heap.size w2 wr := by rw [hq]; exact below_drewN (Below.refl _ _) q
     have HQ := qH hq; have HB3 := qH (HB2.out.trans (hB.mono HB2.out.size)); clear hq hI
     by_cases hlk : k < M.length
     ·obtain ⟨g1, o1, rfl, l1, e1⟩ := HS1'.out.at (by omega)
      obtain ⟨g2, o2, rfl, l2, e2⟩ := hS2.at (by omega)
      have k0 : (0 : Int) ≤ (k : Int) := by omega
      have k1 : (k : Int) < (M.length : Int) := by omega
      have k2 : (k : Int) < (L.length : Int) := by omega
      have x1 := (hB.cell (p := ⟨g1, o1 + k, none⟩) l1).trans (e1 k (by omega)); have x2 := (hB.cell (p := ⟨g2, o2 + k, none⟩) l2).trans (e2 k hlk); clear e1 e2 hB hS2 hz
      by_cases he : tat L k = tat M k
      ·have ht := text_eq (tat M k)
       rw [he] at x1; go_wp2_with fail
       go_quiet (fail)
       go_wp2_with fail
       go_roundw
       case rel => exact ⟨k + 1, by omega, by go_num, ⟨q + nq, by rw [HQ.out, World.drewN_drewN]⟩, HI.out.succ he⟩
       case measure => simp [RowKit.intOf]; omega
      ·have ht := text_neq he
       have hne := qH (show wit x y = false by
        rw [hw.out, Bool.and_eq_false_iff]; refine .inr (beq_eq_false_iff_ne.2 fun e => he ?_)
        rw [← tat_take (L := L) hlk, e])
       clear he; go_wp2_with fail
       go_quiet (fail)
       go_wp2_with fail; go_ret
       exact ⟨by rw [hne.out]; rfl, below_drewN HB3.out _⟩
     ·obtain rfl : k = M.length := by omega
      clear hB hS2 hz
      have heq := qH (show wit x y = true by
       rw [hw.out, decide_eq_true (by omega), Bool.true_and, beq_iff_eq]
       refine tat_ext (by rw [List.length_take]; omega) fun i hi => ?_
       rw [List.length_take] at hi; rw [tat_take (by omega)]
       exact HI.out i (by omega))
      go_wp2_with fail; go_ret
      exact ⟨by rw [heq.out]; rfl, HB3.out⟩
def wlkP : Except Int Nat → Int × Int
 | .ok k => ((k : Int), 0)
 | .error e => (0, e)
structure WkS (w0 : World) (x : Nat) (na : Option Addr) (n c : Nat) (wr : World) : Prop where
 bel : Below w0.heap.size w0 wr
 box : TrB wr x (.slice na n c)
theorem WkS.next {w0 wr w' : World} {x n c : Nat} {na : Option Addr} (h : WkS w0 x na n c wr) (hb : Below wr.heap.size wr w') : WkS w0 x na n c w' := ⟨h.bel.trans (hb.mono h.bel.size), (hb.block _ (lt_of_block h.box)).trans h.box⟩
theorem wks_start (w : World) (na : Option Addr) (n c : Nat) : WkS w w.heap.size na n c (w.alloc (.cells #[.slice na n c] 26 (0, 0))) := ⟨(Below.refl _ _).alloc (Nat.le_refl _) _, heap_alloc_new w _⟩
section
variable {w : World} {n c : Nat} {na : Option Addr} {f : Nat → Nc}
theorem rwalk_any (hN : Nds w na n f) (ht : Rgt (ndL f n)) (hen : ∀ i, i < n → (f i).en ≤ 1000000) (a : Option Addr) (m cc : Nat) (L : List (List UInt8)) (hL : Sts w a m L) (hm : m ≤ 1000000) :
  Calls Tryz.prog 83 #[.agg #[.slice na n c], .slice a m cc] w fun e w' => e = .returned (.tuple #[.int .i64 (wlkP (wlk (ndL f n) 0 (L.map tx))).1, .int .i64 (wlkP (wlk (ndL f n) 0 (L.map tx))).2]) ∧ Below w.heap.size w w' := by
 have hl := hL.len
 subst hl
 obtain ⟨w1, hw1⟩ : ∃ w1, w1 = w.alloc (.cells #[.slice na n c] 26 (0, 0)) := ⟨_, rfl⟩
 obtain ⟨x, hx⟩ : ∃ x, x = w.heap.size := ⟨_, rfl⟩
 have hS : WkS w x na n c w1 := by rw [hw1, hx]; exact wks_start w na n c
 have HS := qH hS
 have HT := qH ht
 have HEN := qH hen
 have hn := qH ht.le
 obtain ⟨res, hres⟩ : ∃ res, res = wlk (ndL f n) 0 (L.map tx) := ⟨_, rfl⟩
 rw [← hres]
 have HRES := qH hres
 have HW := qH hw1
 have HX := qH hx
 clear hS ht hen hres hw1 hx
 go_enter Tryz.func83, Tryz.ntmps83
 go_wp2_with fail
 rw [← HW.out, ← HX.out]
 clear HW HX
 go_loopw [6, 7, 8, 9] (fun v6 v7 _ _ wr => ∃ k p : Nat, k ≤ L.length ∧ v7 = .int .i64 k ∧ v6 = .int .i64 p ∧ p < n ∧ WkS w x na n c wr ∧ res = wlk (ndL f n) p ((L.drop k).map tx)) (fun _ v7 _ _ _ => L.length - (RowKit.intOf v7).toNat)
 case atStart => exact ⟨0, 0, by omega, rfl, rfl, hn.out.1, HS.out, HRES.out⟩
 case round =>
  obtain ⟨k, p, hk, rfl, rfl, hp, hS, hw⟩ := hrel
  have HS1 := qH hS
  have HW := qH hw
  clear hw
  by_cases hlt : k < L.length
  ·have HLT := qH hlt
   have HP := qH hp; obtain ⟨g, o, rfl, l1, c1⟩ := (hL.next hS.bel).at (by omega)
   have k0 : (0 : Int) ≤ (k : Int) := by omega
   have k1 : (k : Int) < (L.length : Int) := by omega
   have p0 : (0 : Int) ≤ (p : Int) := by omega
   have p1 : (p : Int) < (n : Int) := by omega
   have x1 := c1 k hlt; have b1 := hS.box.cell; have hnr := hN.next hS.bel; obtain ⟨b, off, rfl, hbl, d0, d1, d2, d3⟩ := hnr.at hp; have hens := (hnr.ents p hp).ens; have HEn := qH hens; have hn6 : n ≤ 56 := hn.out.2; have hin := qH (fun y hy => ((HT.out.ents hp).2 y hy).1); clear c1 d1 d2 hnr hS
   cases hd : isD (f p).nd with
   | false =>
    have hd2 : ((f p).k != 2) = true := by
     have h9 : ((f p).k == 2) = false := hd
     simpa using h9
    have hres := qH (HW.out.trans (wlk_stepF hp hlt hd)); clear hens d3 hd; go_wp2_with fail
    go_ret2
    exact ⟨by rw [hres.out]; rfl, HS1.out.bel⟩
   | true =>
    have hd2 : ((f p).k != 2) = false := by
     have h9 : ((f p).k == 2) = true := hd
     simpa using h9
    have HD := qH hd; clear hd; have hc := rfind_any (f p).ea (f p).en (f p).ec (f p).e (tx (tat L k)) wr.drew (hens.next (below_drewN (Below.refl _ _) 1)) (by have := HEN.out p hp; omega); clear hens
    cases hf : ehas (f p).e (tx (tat L k)) with
    | false =>
     rw [hf] at hc
     have hfn : fnd (f p).e (tx (tat L k)) = none := by unfold fnd; rw [hf]; rfl
     have hres := qH (HW.out.trans (wlk_stepN hp hlt HD.out hfn)); clear hf hfn; go_wp2_with fail; refine wp_region_held_drew (S := (fun w' => w'.cell? ⟨x, 0, none⟩ = some (.slice (some ⟨b, off, none⟩) n c) ∧ w'.cell? ⟨b, off + p * 4 + 3, none⟩ = some (.slice (f p).ea (f p).en (f p).ec) ∧ w'.cell? ⟨g, o + k, none⟩ = some (.string (tx (tat L k))))) (by kernel_rfl) ?_ (fun hHeld => ?_)
     ·exact ⟨b1, d3, x1⟩
     refine rgZ 0 ?_ rfl (.inl ⟨by rfl, fun w hSw => ?_⟩) ?_ (by kernel_rfl) (fun _ _ _ h => h) (by assumption); rotate_left
     ·(try dsimp only at hSw); go_simp; try with_reducible rfl
     simp only [Act.put, rg]; refine rgZ 1 ?_ rfl (.inl ⟨by rfl, fun w hSw => ?_⟩) ?_ (by kernel_rfl) (fun _ _ _ h => h) (by assumption); rotate_left
     ·(try dsimp only at hSw); go_simp; try with_reducible rfl
     simp only [Act.put, rg]; refine rgZ 2 ?_ rfl (.inl ⟨by rfl, fun w hSw => ?_⟩) ?_ (by kernel_rfl) (fun _ _ _ h => h) (by assumption); rotate_left
     ·(try dsimp only at hSw); go_simp; try with_reducible rfl
     simp only [Act.put, rg]; refine rgZ 3 ?_ rfl (.inl ⟨by rfl, fun w hSw => ?_⟩) ?_ (by kernel_rfl) (fun _ _ _ h => h) (by assumption); rotate_left
     ·(try dsimp only at hSw); go_simp; try with_reducible rfl
     simp only [Act.put, rg]; refine rgZ 4 ?_ rfl (.inl ⟨by rfl, fun w hSw => ?_⟩) ?_ (by kernel_rfl) (fun _ _ _ h => h) (by assumption); rotate_left
     ·(try dsimp only at hSw); go_simp; try with_reducible rfl
     simp only [Act.put, rg]; refine rgZ 5 ?_ rfl (.inl ⟨by rfl, fun w hSw => ?_⟩) ?_ (by kernel_rfl) (fun _ _ _ h => h) (by assumption); rotate_left
     ·(try dsimp only at hSw); go_simp; try with_reducible rfl
     simp only [Act.put, rg]; refine rgZ 6 ?_ rfl (.inl ⟨by rfl, fun w hSw => ?_⟩) ?_ (by kernel_rfl) (fun _ _ _ h => h) (by assumption); rotate_left
     ·(try dsimp only at hSw); go_simp; try with_reducible rfl
     simp only [Act.put, rg]; refine rgZ 7 ?_ rfl (.inl ⟨by rfl, fun w hSw => ?_⟩) ?_ (by kernel_rfl) (fun _ _ _ h => h) (by assumption); rotate_left
     ·(try dsimp only at hSw); go_simp; try with_reducible rfl
     simp only [Act.put, rg]; refine rgZ 8 ?_ rfl (.inl ⟨by rfl, fun w hSw => ?_⟩) ?_ (by kernel_rfl) (fun _ _ _ h => h) (by assumption); rotate_left
     ·(try dsimp only at hSw); go_simp; try with_reducible rfl
     simp only [Act.put, rg]; refine rgZ 9 ?_ rfl (.inl ⟨by rfl, fun w hSw => ?_⟩) ?_ (by kernel_rfl) (fun _ _ _ h => h) (by assumption); rotate_left
     ·(try dsimp only at hSw); go_simp; try with_reducible rfl
     simp only [Act.put, rg]; refine rgC 10 rfl (by kernel_rfl) (fun K hK => ?_); simp only [rg4, rg5, rg6]; go_simp; refine hc.mono ?_; rintro e w5 ⟨rfl, hb5⟩; have hb6 : Below wr.heap.size wr w5 := (below_drewN (Below.refl _ _) 1).trans hb5; have HS5 := qH (HS1.out.next hb6); have hS5 := And.intro HS5.out.box.cell (And.intro ((hb6.cell (p := ⟨b, off + p * 4 + 3, none⟩) hbl).trans d3) ((hb6.cell (p := ⟨g, o + k, none⟩) l1).trans x1)); clear hc hb5 hb6 hHeld; go_wp2_with fail; refine hK.out _ _ hS5 (fun _ => ?_); clear hK K; refine rgZ 11 ?_ rfl (.inl ⟨by rfl, fun w hSw => ?_⟩) ?_ (by kernel_rfl) (fun _ _ _ h => h) (by assumption); rotate_left
     ·(try dsimp only at hSw); go_simp; try with_reducible rfl
     simp only [Act.put, rg]; refine rgZ 12 ?_ rfl (.inl ⟨by rfl, fun w hSw => ?_⟩) ?_ (by kernel_rfl) (fun _ _ _ h => h) (by assumption); rotate_left
     ·(try dsimp only at hSw); go_simp; try with_reducible rfl
     simp only [Act.put, rg]; refine rgZ 13 ?_ rfl (.inl ⟨by rfl, fun w hSw => ?_⟩) ?_ (by kernel_rfl) (fun _ _ _ h => h) (by assumption); rotate_left
     ·(try dsimp only at hSw); go_simp; try with_reducible rfl
     simp only [Act.put, rg]; refine rgZ 14 ?_ rfl (.inl ⟨by rfl, fun w hSw => ?_⟩) ?_ (by kernel_rfl) (fun _ _ _ h => h) (by assumption); rotate_left
     ·(try dsimp only at hSw); go_simp; try with_reducible rfl
     simp only [Act.put, rg]; refine rgZ 15 ?_ rfl (.inl ⟨by rfl, fun w hSw => ?_⟩) ?_ (by kernel_rfl) (fun _ _ _ h => h) (by assumption); rotate_left
     ·(try dsimp only at hSw); go_simp; try with_reducible rfl
     simp only [Act.put, rg]; refine wpAnyH_done (by kernel_rfl) ?_ _; clear hS5 b1 x1; go_wp2_with fail
     go_ret2
     exact ⟨by rw [hres.out]; rfl, HS5.out.bel⟩
    | true =>
     rw [hf] at hc; have hlt2 := ehas_lt' hf
     obtain ⟨j, hj⟩ : ∃ j, j = efix (f p).e (tx (tat L k)) := ⟨_, rfl⟩
     rw [← hj] at hc hlt2
     have hfn : fnd (f p).e (tx (tat L k)) = some (inoN (eat (f p).e j)) := by unfold fnd; rw [hf, hj]; rfl
     have hres := qH (HW.out.trans (wlk_step hp hlt HD.out hfn)); have hkid := qH (HT.out.kid hp hfn); have hel := HEn.out.len
     have j0 : (0 : Int) ≤ (j : Int) := by omega
     have j1 : (j : Int) < ((f p).en : Int) := by omega
     have hzi : (eat (f p).e j).i = ((inoN (eat (f p).e j) : Nat) : Int) := by
      have h1 := hin.out _ (eat_mem hlt2); unfold inoN
      omega
     have HZI := qH hzi; clear hf hfn hel hzi hj; go_wp2_with fail; refine wp_region_held_drew (S := (fun w' => w'.cell? ⟨x, 0, none⟩ = some (.slice (some ⟨b, off, none⟩) n c) ∧ w'.cell? ⟨b, off + p * 4 + 3, none⟩ = some (.slice (f p).ea (f p).en (f p).ec) ∧ w'.cell? ⟨g, o + k, none⟩ = some (.string (tx (tat L k))))) (by kernel_rfl) ?_ (fun hHeld => ?_)
     ·exact ⟨b1, d3, x1⟩
     refine rgZ 0 ?_ rfl (.inl ⟨by rfl, fun w hSw => ?_⟩) ?_ (by kernel_rfl) (fun _ _ _ h => h) (by assumption); rotate_left
     ·(try dsimp only at hSw); go_simp; try with_reducible rfl
     simp only [Act.put, rg]; refine rgZ 1 ?_ rfl (.inl ⟨by rfl, fun w hSw => ?_⟩) ?_ (by kernel_rfl) (fun _ _ _ h => h) (by assumption); rotate_left
     ·(try dsimp only at hSw); go_simp; try with_reducible rfl
     simp only [Act.put, rg]; refine rgZ 2 ?_ rfl (.inl ⟨by rfl, fun w hSw => ?_⟩) ?_ (by kernel_rfl) (fun _ _ _ h => h) (by assumption); rotate_left
     ·(try dsimp only at hSw); go_simp; try with_reducible rfl
     simp only [Act.put, rg]; refine rgZ 3 ?_ rfl (.inl ⟨by rfl, fun w hSw => ?_⟩) ?_ (by kernel_rfl) (fun _ _ _ h => h) (by assumption); rotate_left
     ·(try dsimp only at hSw); go_simp; try with_reducible rfl
     simp only [Act.put, rg]; refine rgZ 4 ?_ rfl (.inl ⟨by rfl, fun w hSw => ?_⟩) ?_ (by kernel_rfl) (fun _ _ _ h => h) (by assumption); rotate_left
     ·(try dsimp only at hSw); go_simp; try with_reducible rfl
     simp only [Act.put, rg]; refine rgZ 5 ?_ rfl (.inl ⟨by rfl, fun w hSw => ?_⟩) ?_ (by kernel_rfl) (fun _ _ _ h => h) (by assumption); rotate_left
     ·(try dsimp only at hSw); go_simp; try with_reducible rfl
     simp only [Act.put, rg]; refine rgZ 6 ?_ rfl (.inl ⟨by rfl, fun w hSw => ?_⟩) ?_ (by kernel_rfl) (fun _ _ _ h => h) (by assumption); rotate_left
     ·(try dsimp only at hSw); go_simp; try with_reducible rfl
     simp only [Act.put, rg]; refine rgZ 7 ?_ rfl (.inl ⟨by rfl, fun w hSw => ?_⟩) ?_ (by kernel_rfl) (fun _ _ _ h => h) (by assumption); rotate_left
     ·(try dsimp only at hSw); go_simp; try with_reducible rfl
     simp only [Act.put, rg]; refine rgZ 8 ?_ rfl (.inl ⟨by rfl, fun w hSw => ?_⟩) ?_ (by kernel_rfl) (fun _ _ _ h => h) (by assumption); rotate_left
     ·(try dsimp only at hSw); go_simp; try with_reducible rfl
     simp only [Act.put, rg]; refine rgZ 9 ?_ rfl (.inl ⟨by rfl, fun w hSw => ?_⟩) ?_ (by kernel_rfl) (fun _ _ _ h => h) (by assumption); rotate_left
     ·(try dsimp only at hSw); go_simp; try with_reducible rfl
     simp only [Act.put, rg]; refine rgC 10 rfl (by kernel_rfl) (fun K hK => ?_); simp only [rg4, rg5, rg6]; go_simp; refine hc.mono ?_; rintro e w5 ⟨rfl, hb5⟩; have hb6 : Below wr.heap.size wr w5 := (below_drewN (Below.refl _ _) 1).trans hb5; have HS5 := qH (HS1.out.next hb6); have hS5 := And.intro HS5.out.box.cell (And.intro ((hb6.cell (p := ⟨b, off + p * 4 + 3, none⟩) hbl).trans d3) ((hb6.cell (p := ⟨g, o + k, none⟩) l1).trans x1)); clear hc hb5 hb6 hHeld; go_wp2_with fail; refine hK.out _ _ hS5 (fun _ => ?_); clear hK K; refine rgZ 11 ?_ rfl (.inl ⟨by rfl, fun w hSw => ?_⟩) ?_ (by kernel_rfl) (fun _ _ _ h => h) (by assumption); rotate_left
     ·(try dsimp only at hSw); go_simp; try with_reducible rfl
     simp only [Act.put, rg]; refine rgZ 12 ?_ rfl (.inl ⟨by rfl, fun w hSw => ?_⟩) ?_ (by kernel_rfl) (fun _ _ _ h => h) (by assumption); rotate_left
     ·(try dsimp only at hSw); go_simp; try with_reducible rfl
     simp only [Act.put, rg]; refine rgZ 13 ?_ rfl (.inl ⟨by rfl, fun w hSw => ?_⟩) ?_ (by kernel_rfl) (fun _ _ _ h => h) (by assumption); rotate_left
     ·(try dsimp only at hSw); go_simp; try with_reducible rfl
     simp only [Act.put, rg]; refine rgZ 14 ?_ rfl (.inl ⟨by rfl, fun w hSw => ?_⟩) ?_ (by kernel_rfl) (fun _ _ _ h => h) (by assumption); rotate_left
     ·(try dsimp only at hSw); go_simp; try with_reducible rfl
     simp only [Act.put, rg]; refine rgZ 15 ?_ rfl (.inl ⟨by rfl, fun w hSw => ?_⟩) ?_ (by kernel_rfl) (fun _ _ _ h => h) (by assumption); rotate_left
     ·(try dsimp only at hSw); go_simp; try with_reducible rfl
     simp only [Act.put, rg]; refine wpAnyH_done (by kernel_rfl) ?_ _; clear hS5 b1 x1
     have hn5 := (hN.next HS5.out.bel)
     obtain ⟨b7, off7, he7, _, _, _, _, q3⟩ := hn5.at HP.out
     cases he7
     obtain ⟨eb, eoff, he, hbl7, e1, e2⟩ := (hn5.ents p HP.out).ens.at (i := j) (by omega); rw [he] at q3; rw [HZI.out] at e2; have b5 := HS5.out.box.cell; clear hn5 hbl7 e1 d0 d3; have h9 : L.length ≤ 1000000 := hm; go_wp2_with fail
     go_roundw
     case rel => exact ⟨k + 1, _, HLT.out, by go_num, rfl, hkid.out.2, HS5.out, hres.out⟩
     case measure => have := HLT.out; simp [RowKit.intOf]; omega
  ·obtain rfl : k = L.length := by omega
   have hd : L.drop L.length = [] := by simp
   rw [hd] at HW; have hres : Hid (res = .ok p) := HW; clear hd hS; go_wp2_with fail
   go_ret2
   exact ⟨by rw [hres.out]; rfl, HS1.out.bel⟩
end
def toP : Except Int (Nat × Option Nat) → ByteArray → Value
 | .ok (a, none), s => .tuple #[.int .i64 a, .string s, .int .i64 (-1), .int .i64 0]
 | .ok (a, some k), s => .tuple #[.int .i64 a, .string s, .int .i64 k, .int .i64 0]
 | .error e, _ => .tuple #[.int .i64 0, .string ⟨#[]⟩, .int .i64 (-1), .int .i64 e]
theorem toB_split {L : List Nd} {l : List (List UInt8)} (h : l ≠ []) : toB L (l.map tx) = match wlk L 0 ((l.take (l.length - 1)).map tx) with
 | .ok a => if isD (nat L a) then .ok (a, fnd (nat L a).e (tx (tat l (l.length - 1)))) else .error 22
 | .error e => .error e := by
 unfold toB
 have e1 : (l.map tx).dropLast = (l.take (l.length - 1)).map tx := by rw [List.dropLast_eq_take, List.length_map, List.map_take]
 have e2 : lstN (l.map tx) = tx (tat l (l.length - 1)) := by
  unfold lstN
  have h0 : 0 < l.length := List.length_pos_iff.2 h
  rw [List.getLastD_eq_getLast?, List.getLast?_eq_getElem?, List.length_map, List.getElem?_map]
  simp [tat, List.getD, show l.length - 1 < l.length by omega]
 rw [e1, e2]
 cases wlk L 0 ((l.take (l.length - 1)).map tx) <;> rfl
theorem res_4 {P : Program} {fn : Func} {t u v z : Tmp} (h : fn.results = #[.tmp t, .tmp u, .tmp v, .tmp z]) (tmps : Array Value) (w : World) : (results fn tmps).run P w = .ok (.tuple #[tmps.getD t undef, tmps.getD u undef, tmps.getD v undef, tmps.getD z undef]) w := by
 unfold results
 rw [h]
 simp only [List.mapM_toArray, List.mapM_cons, List.mapM_nil, Sem.run_bind, Sem.run_pure, Result.andThen_ok, map_eq_pure_bind]
 rfl
section
variable {w : World} {n c : Nat} {na : Option Addr} {f : Nat → Nc}
theorem rfindP_any (hN : Nds w na n f) (ht : Rgt (ndL f n)) (hen : ∀ i, i < n → (f i).en ≤ 1000000) (p : ByteArray) (hp : p.size ≤ 1000000) :
  Calls Tryz.prog 47 #[.agg #[.slice na n c], .string p] w fun e w' => e = .returned (.tuple #[.int .i64 (wlkP (findO (ndL f n) (nms p))).1, .int .i64 (wlkP (findO (ndL f n) (nms p))).2]) ∧ Below w.heap.size w w' := by
 obtain ⟨w1, hw1⟩ : ∃ w1, w1 = w.alloc (.cells #[.slice na n c] 26 (0, 0)) := ⟨_, rfl⟩
 obtain ⟨x, hx⟩ : ∃ x, x = w.heap.size := ⟨_, rfl⟩
 have hS : WkS w x na n c w1 := by rw [hw1, hx]; exact wks_start w na n c
 have HS := qH hS
 have HT := qH ht
 have HW := qH hw1
 have HX := qH hx
 have HEN := qH hen
 have hc := rsplit_any p w1 hp
 clear hS ht hw1 hx hen
 go_enter Tryz.func47, Tryz.ntmps47
 go_wp2_with fail
 rw [← HW.out, ← HX.out]
 refine hc.mono ?_
 rintro e w2 ⟨hsp, hb⟩
 have HS2 := qH (HS.out.next hb)
 clear hc hb HS HW HX
 cases hs : spl p.data.toList with
 | none =>
  rw [hs] at hsp
  have h2 : e = .returned (.tuple #[.slice none 0 0, .int .i64 20]) := hsp
  subst h2
  have hr : Hid (findO (ndL f n) (nms p) = .error 20) := qH (by unfold nms; rw [hs]; rfl)
  clear hsp hs
  go_wp2_with fail
  go_ret2
  exact ⟨by rw [hr.out]; rfl, HS2.out.bel⟩
 | some l =>
  rw [hs] at hsp
  obtain ⟨v, he0, hO⟩ : ∃ v, e = .returned (.tuple #[v, .int .i64 0]) ∧ OwnT w2 w1.heap.size v l.length l := hsp
  subst he0
  obtain ⟨a, cc, rfl, hSt, hcc, hmx, hz, hlo⟩ := hO.sts
  have hr : Hid (findO (ndL f n) (nms p) = wlk (ndL f n) 0 (l.map tx)) := qH (by unfold nms; rw [hs]; rfl)
  have hw := rwalk_any (c := c) (hN.next HS2.out.bel) HT.out HEN.out a l.length cc l hSt (by have := arP_len (spl_arP hs); omega)
  rw [← hr.out] at hw
  have l1 := HS2.out.box.load
  have b1 := HS2.out.box.cell
  clear hO hSt hcc hmx hz hlo hs
  go_wp2_with fail
  refine hw.mono ?_
  rintro e w3 ⟨rfl, hb⟩
  have HB3 := qH (HS2.out.next hb).bel
  clear hw hb l1 b1
  go_wp2_with fail
  go_ret2
  exact ⟨rfl, HB3.out⟩
theorem to_any (hN : Nds w na n f) (ht : Rgt (ndL f n)) (hen : ∀ i, i < n → (f i).en ≤ 1000000) (p : ByteArray) (hp : p.size ≤ 1000000) (hr : nms p ≠ some []) :
  Calls Tryz.prog 113 #[.agg #[.slice na n c], .string p] w fun e w' => e = .returned (match nms p with | none => toP (.error 20) default | some ns => toP (toB (ndL f n) ns) (lstN ns)) ∧ Below w.heap.size w w' := by
 obtain ⟨w1, hw1⟩ : ∃ w1, w1 = w.alloc (.cells #[.slice na n c] 26 (0, 0)) := ⟨_, rfl⟩
 obtain ⟨x, hx⟩ : ∃ x, x = w.heap.size := ⟨_, rfl⟩
 have hS : WkS w x na n c w1 := by rw [hw1, hx]; exact wks_start w na n c
 have HS := qH hS
 have HT := qH ht
 have HW := qH hw1
 have HX := qH hx
 have HEN := qH hen
 have hc := rsplit_any p w1 hp
 clear hS ht hw1 hx hen
 obtain ⟨V, hV⟩ : ∃ V, V = (match nms p with | none => toP (.error 20) default | some ns => toP (toB (ndL f n) ns) (lstN ns)) := ⟨_, rfl⟩
 rw [← hV]
 have HV := qH hV
 have HR := qH hr
 clear hV hr
 go_enter Tryz.func113, Tryz.ntmps113
 go_wp2_with fail
 rw [← HW.out, ← HX.out]
 refine hc.mono ?_
 rintro e w2 ⟨hsp, hb⟩
 have HS2 := qH (HS.out.next hb)
 clear hc hb HS HW HX
 cases hs : spl p.data.toList with
 | none =>
  rw [hs] at hsp
  have h2 : e = .returned (.tuple #[.slice none 0 0, .int .i64 20]) := hsp
  subst h2
  have hr : Hid (V = toP (.error 20) default) := qH (by rw [HV.out]; unfold nms; rw [hs]; rfl)
  clear hsp hs
  go_wp2_with fail
  refine bodyPost_ret (res_4 rfl _ _) rfl ?_
  exact ⟨by rw [hr.out]; rfl, HS2.out.bel⟩
 | some l =>
  rw [hs] at hsp
  obtain ⟨v, he0, hO⟩ : ∃ v, e = .returned (.tuple #[v, .int .i64 0]) ∧ OwnT w2 w1.heap.size v l.length l := hsp
  subst he0
  obtain ⟨a, cc, rfl, hSt, hcc, hmx, hz, hlo⟩ := hO.sts
  have hl8 := arP_len (spl_arP hs)
  have hnn : nms p = some (l.map tx) := by unfold nms; rw [hs]; rfl
  have hne : l ≠ [] := fun e => HR.out (by rw [hnn, e]; rfl)
  have hl0 : 0 < l.length := List.length_pos_iff.2 hne
  have hr : Hid (V = toP (toB (ndL f n) (l.map tx)) (tx (tat l (l.length - 1)))) := qH (by
   rw [HV.out, hnn]
   show toP _ (lstN (l.map tx)) = _
   congr 1
   unfold lstN; rw [List.getLastD_eq_getLast?, List.getLast?_eq_getElem?, List.length_map, List.getElem?_map]
   simp [tat, List.getD, show l.length - 1 < l.length by omega])
  rw [toB_split hne] at hr
  obtain ⟨m, hm⟩ : ∃ m, l.length = m + 1 := ⟨l.length - 1, by omega⟩
  have hm1 : l.length - 1 = m := by omega
  rw [hm1] at hr
  have hfr := hSt.front (k := m) (by omega)
  have HST := qH hSt
  have hw := rwalk_any (w := w2.drew) (c := c) ((hN.next HS2.out.bel).drewN 1) HT.out HEN.out a m cc (l.take m) (hfr.drewN 1) (by omega)
  have e1 : wrap64 ((l.length : Int) - 1) = (m : Int) := by rw [hm]; unfold wrap64; omega
  have e2 : IntKind.i64.wrap ((l.length : Int) - 1) = (m : Int) := by rw [hm]; rw [show ((m + 1 : Nat) : Int) - 1 = (m : Int) by omega]; exact IntWalk.i64_in _ (by omega)
  have HBX : Hid (TrB w2 x (.slice na n c)) := qH HS2.out.box
  have HM := qH hm
  have m1 : (m : Int) ≤ (cc : Int) := by omega
  have m2 : m ≤ cc := by omega
  have HL8 := qH (And.intro hl8 (And.intro hcc hmx))
  clear hO hs hnn hne hl0 hm hm1 hSt hfr hcc hmx hz hlo hl8
  cases hwk : wlk (ndL f n) 0 ((l.take m).map tx) with
  | error e9 =>
   rw [hwk] at hw; dsimp only [wlkP] at hw; go_wp2_with fail; refine wp_region_held_drew (S := (fun w' => TrB w' x (.slice na n c))) (by kernel_rfl) ?_ (fun hHeld => ?_)
   ·exact HBX.out
   refine rgZ 0 ?_ rfl (.inl ⟨by rfl, fun w hSw => ?_⟩) ?_ (by kernel_rfl) (fun _ _ _ h => h) (by assumption); rotate_left
   ·have hl := TrB.load hSw
    have hcl := TrB.cell hSw; go_simp
    try with_reducible rfl
   simp only [Act.put, rg]; refine rgZ 1 ?_ rfl (.inl ⟨by rfl, fun w hSw => ?_⟩) ?_ (by kernel_rfl) (fun _ _ _ h => h) (by assumption); rotate_left
   ·(try dsimp only at hSw); go_simp; try with_reducible rfl
   simp only [Act.put, rg]; refine rgZ 2 ?_ rfl (.inl ⟨by rfl, fun w hSw => ?_⟩) ?_ (by kernel_rfl) (fun _ _ _ h => h) (by assumption); rotate_left
   ·(try dsimp only at hSw); go_simp; try with_reducible rfl
   simp only [Act.put, rg]; refine rgZ 3 ?_ rfl (.inl ⟨by rfl, fun w hSw => ?_⟩) ?_ (by kernel_rfl) (fun _ _ _ h => h) (by assumption); rotate_left
   ·(try dsimp only at hSw); go_simp; try with_reducible rfl
   simp only [Act.put, rg]; refine rgZ 4 ?_ rfl (.inl ⟨by rfl, fun w hSw => ?_⟩) ?_ (by kernel_rfl) (fun _ _ _ h => h) (by assumption); rotate_left
   ·(try dsimp only at hSw); go_simp; try with_reducible rfl
   simp only [Act.put, rg]; refine rgZ 5 ?_ rfl (.inl ⟨by rfl, fun w hSw => ?_⟩) ?_ (by kernel_rfl) (fun _ _ _ h => h) (by assumption); rotate_left
   ·(try dsimp only at hSw); go_simp; try with_reducible rfl
   simp only [Act.put, rg]; refine rgC 6 rfl (by kernel_rfl) (fun K hK => ?_); simp only [rg4, rg5, rg6]; go_simp; refine hw.mono ?_; rintro e w5 ⟨rfl, hb5⟩; have hb6 : Below w2.heap.size w2 w5 := (below_drewN (Below.refl _ _) 1).trans hb5; have HS5 := qH (HS2.out.next hb6); have HST5 := qH (HST.out.next hb6); clear hw hb5 hb6 hHeld; rw [hwk] at hr; have hr2 : Hid (V = toP (.error e9) default) := qH (by rw [hr.out]; rfl)
   have he9 : (e9 == 0) = false := by have := wlk_err0 hwk; simpa using this
   have he8 : (e9 != 0) = true := by have := wlk_err0 hwk; simpa using this
   clear hr hwk; go_wp2_with fail; refine hK.out _ _ HS5.out.box (fun _ => ?_); clear hK K; refine rgZ 7 ?_ rfl (.inl ⟨by rfl, fun w hSw => ?_⟩) ?_ (by kernel_rfl) (fun _ _ _ h => h) (by assumption); rotate_left
   ·(try dsimp only at hSw); go_simp; try with_reducible rfl
   simp only [Act.put, rg]; refine rgZ 8 ?_ rfl (.inl ⟨by rfl, fun w hSw => ?_⟩) ?_ (by kernel_rfl) (fun _ _ _ h => h) (by assumption); rotate_left
   ·(try dsimp only at hSw); go_simp; try with_reducible rfl
   simp only [Act.put, rg]; refine rgZ 9 ?_ rfl (.inl ⟨by rfl, fun w hSw => ?_⟩) ?_ (by kernel_rfl) (fun _ _ _ h => h) (by assumption); rotate_left
   ·(try dsimp only at hSw); go_simp; try with_reducible rfl
   simp only [Act.put, rg]; refine rgZ 10 ?_ rfl (.inl ⟨by rfl, fun w hSw => ?_⟩) ?_ (by kernel_rfl) (fun _ _ _ h => h) (by assumption); rotate_left
   ·(try dsimp only at hSw); go_simp; try with_reducible rfl
   simp only [Act.put, rg]; refine rgZ 11 ?_ rfl (.inl ⟨by rfl, fun w hSw => ?_⟩) ?_ (by kernel_rfl) (fun _ _ _ h => h) (by assumption); rotate_left
   ·(try dsimp only at hSw); go_simp; try with_reducible rfl
   simp only [Act.put, rg]; refine wpAnyH_done (by kernel_rfl) ?_ _; go_wp2_with fail; refine bodyPost_ret (res_4 rfl _ _) rfl ?_
   exact ⟨by rw [hr2.out]; rfl, HS5.out.bel⟩
  | ok pl =>
   rw [hwk] at hw; dsimp only [wlkP] at hw; go_wp2_with fail; refine wp_region_held_drew (S := (fun w' => TrB w' x (.slice na n c))) (by kernel_rfl) ?_ (fun hHeld => ?_)
   ·exact HBX.out
   refine rgZ 0 ?_ rfl (.inl ⟨by rfl, fun w hSw => ?_⟩) ?_ (by kernel_rfl) (fun _ _ _ h => h) (by assumption); rotate_left
   ·have hl := TrB.load hSw
    have hcl := TrB.cell hSw; go_simp
    try with_reducible rfl
   simp only [Act.put, rg]; refine rgZ 1 ?_ rfl (.inl ⟨by rfl, fun w hSw => ?_⟩) ?_ (by kernel_rfl) (fun _ _ _ h => h) (by assumption); rotate_left
   ·(try dsimp only at hSw); go_simp; try with_reducible rfl
   simp only [Act.put, rg]; refine rgZ 2 ?_ rfl (.inl ⟨by rfl, fun w hSw => ?_⟩) ?_ (by kernel_rfl) (fun _ _ _ h => h) (by assumption); rotate_left
   ·(try dsimp only at hSw); go_simp; try with_reducible rfl
   simp only [Act.put, rg]; refine rgZ 3 ?_ rfl (.inl ⟨by rfl, fun w hSw => ?_⟩) ?_ (by kernel_rfl) (fun _ _ _ h => h) (by assumption); rotate_left
   ·(try dsimp only at hSw); go_simp; try with_reducible rfl
   simp only [Act.put, rg]; refine rgZ 4 ?_ rfl (.inl ⟨by rfl, fun w hSw => ?_⟩) ?_ (by kernel_rfl) (fun _ _ _ h => h) (by assumption); rotate_left
   ·(try dsimp only at hSw); go_simp; try with_reducible rfl
   simp only [Act.put, rg]; refine rgZ 5 ?_ rfl (.inl ⟨by rfl, fun w hSw => ?_⟩) ?_ (by kernel_rfl) (fun _ _ _ h => h) (by assumption); rotate_left
   ·(try dsimp only at hSw); go_simp; try with_reducible rfl
   simp only [Act.put, rg]; refine rgC 6 rfl (by kernel_rfl) (fun K hK => ?_); simp only [rg4, rg5, rg6]; go_simp; refine hw.mono ?_; rintro e w5 ⟨rfl, hb5⟩; have hb6 : Below w2.heap.size w2 w5 := (below_drewN (Below.refl _ _) 1).trans hb5; have HS5 := qH (HS2.out.next hb6); have HST5 := qH (HST.out.next hb6); clear hw hb5 hb6 hHeld; rw [hwk] at hr
   have hpl : pl < n := by
    have h9 := HT.out.snd.wlklt hwk
    rwa [ndL_len] at h9
   have HPL := qH hpl
   have p0 : (0 : Int) ≤ (pl : Int) := by omega
   have p1 : (pl : Int) < (n : Int) := by omega
   have hn5 := hN.next HS5.out.bel; obtain ⟨b, off, rfl, hbl, d0, d1, d2, d3⟩ := hn5.at hpl; have hn6 : n ≤ 56 := HT.out.le.2; have hc := rfind_any (f pl).ea (f pl).en (f pl).ec (f pl).e (tx (tat l m)) w5 (hn5.ents pl hpl).ens (by have := HEN.out pl hpl; omega); obtain ⟨g, o, rfl, l1, c1⟩ := HST5.out.at (by have := HM.out; omega); have x1 := c1 m (by have := HM.out; omega); have hl8 := HL8.out.1
   have m3 : (m : Int) < (l.length : Int) := by have := HM.out; omega
   have m0 : (0 : Int) ≤ (m : Int) := by omega
   have b1 := HS5.out.box.cell; clear hwk d1 d2 hn5 c1
   cases hd : isD (f pl).nd with
   | false =>
    have hd2 : ((f pl).k != 2) = true := by
     have h9 : ((f pl).k == 2) = false := hd
     simpa using h9
    have hr2 : Hid (V = toP (.error 22) default) := qH (by rw [hr.out]; simp only [nat_ndL HPL.out, hd]; rfl); clear hr hd hc; go_wp2_with fail; refine hK.out _ _ HS5.out.box (fun _ => ?_); clear hK K; refine rgZ 7 ?_ rfl (.inl ⟨by rfl, fun w hSw => ?_⟩) ?_ (by kernel_rfl) (fun _ _ _ h => h) (by assumption); rotate_left
    ·(try dsimp only at hSw); go_simp; try with_reducible rfl
    simp only [Act.put, rg]; refine rgZ 8 ?_ rfl (.inl ⟨by rfl, fun w hSw => ?_⟩) ?_ (by kernel_rfl) (fun _ _ _ h => h) (by assumption); rotate_left
    ·(try dsimp only at hSw); go_simp; try with_reducible rfl
    simp only [Act.put, rg]; refine rgZ 9 ?_ rfl (.inl ⟨by rfl, fun w hSw => ?_⟩) ?_ (by kernel_rfl) (fun _ _ _ h => h) (by assumption); rotate_left
    ·(try dsimp only at hSw); go_simp; try with_reducible rfl
    simp only [Act.put, rg]; refine rgZ 10 ?_ rfl (.inl ⟨by rfl, fun w hSw => ?_⟩) ?_ (by kernel_rfl) (fun _ _ _ h => h) (by assumption); rotate_left
    ·(try dsimp only at hSw); go_simp; try with_reducible rfl
    simp only [Act.put, rg]; refine rgZ 11 ?_ rfl (.inl ⟨by rfl, fun w hSw => ?_⟩) ?_ (by kernel_rfl) (fun _ _ _ h => h) (by assumption); rotate_left
    ·(try dsimp only at hSw); go_simp; try with_reducible rfl
    simp only [Act.put, rg]; refine wpAnyH_done (by kernel_rfl) ?_ _; go_wp2_with fail; refine bodyPost_ret (res_4 rfl _ _) rfl ?_
    exact ⟨by rw [hr2.out]; rfl, HS5.out.bel⟩
   | true =>
    have hd2 : ((f pl).k != 2) = false := by
     have h9 : ((f pl).k == 2) = true := hd
     simpa using h9
    have hr1 : Hid (V = toP (.ok (pl, fnd (f pl).e (tx (tat l m)))) (tx (tat l m))) := qH (by rw [hr.out]; simp only [nat_ndL HPL.out, hd]; rfl); clear hr hd
    cases hf : ehas (f pl).e (tx (tat l m)) with
    | false =>
     rw [hf] at hc; have hr2 : Hid (V = toP (.ok (pl, none)) (tx (tat l m))) := qH (by rw [hr1.out]; unfold fnd; rw [hf]; rfl); clear hr1 hf; go_wp2_with fail; refine hK.out _ _ HS5.out.box (fun _ => ?_); clear hK K; refine rgZ 7 ?_ rfl (.inl ⟨by rfl, fun w hSw => ?_⟩) ?_ (by kernel_rfl) (fun _ _ _ h => h) (by assumption); rotate_left
     ·(try dsimp only at hSw); go_simp; try with_reducible rfl
     simp only [Act.put, rg]; refine rgZ 8 ?_ rfl (.inl ⟨by rfl, fun w hSw => ?_⟩) ?_ (by kernel_rfl) (fun _ _ _ h => h) (by assumption); rotate_left
     ·(try dsimp only at hSw); go_simp; try with_reducible rfl
     simp only [Act.put, rg]; refine rgZ 9 ?_ rfl (.inl ⟨by rfl, fun w hSw => ?_⟩) ?_ (by kernel_rfl) (fun _ _ _ h => h) (by assumption); rotate_left
     ·(try dsimp only at hSw); go_simp; try with_reducible rfl
     simp only [Act.put, rg]; refine rgZ 10 ?_ rfl (.inl ⟨by rfl, fun w hSw => ?_⟩) ?_ (by kernel_rfl) (fun _ _ _ h => h) (by assumption); rotate_left
     ·(try dsimp only at hSw); go_simp; try with_reducible rfl
     simp only [Act.put, rg]; refine rgZ 11 ?_ rfl (.inl ⟨by rfl, fun w hSw => ?_⟩) ?_ (by kernel_rfl) (fun _ _ _ h => h) (by assumption); rotate_left
     ·(try dsimp only at hSw); go_simp; try with_reducible rfl
     simp only [Act.put, rg]; refine wpAnyH_done (by kernel_rfl) ?_ _; go_wp2_with fail; refine hc.mono ?_; rintro e w6 ⟨rfl, hb⟩; have HB6 := qH (HS5.out.next hb).bel; clear hc hb; go_wp2_with fail; refine bodyPost_ret (res_4 rfl _ _) rfl ?_
     exact ⟨by rw [hr2.out]; rfl, HB6.out⟩
    | true =>
     rw [hf] at hc; have hlt2 := ehas_lt' hf
     obtain ⟨j, hj⟩ : ∃ j, j = efix (f pl).e (tx (tat l m)) := ⟨_, rfl⟩
     rw [← hj] at hc hlt2; have hin := ((HT.out.ents hpl).2 _ (eat_mem hlt2)).1
     have hzi : (eat (f pl).e j).i = ((inoN (eat (f pl).e j) : Nat) : Int) := by unfold inoN; omega
     have hr2 : Hid (V = toP (.ok (pl, some (inoN (eat (f pl).e j)))) (tx (tat l m))) := qH (by rw [hr1.out]; unfold fnd; rw [hf, ← hj]; rfl); have HZI := qH hzi; have HLT2 := qH hlt2; clear hr1 hf hj hin hzi hlt2; go_wp2_with fail; refine hK.out _ _ HS5.out.box (fun _ => ?_); clear hK K; refine rgZ 7 ?_ rfl (.inl ⟨by rfl, fun w hSw => ?_⟩) ?_ (by kernel_rfl) (fun _ _ _ h => h) (by assumption); rotate_left
     ·(try dsimp only at hSw); go_simp; try with_reducible rfl
     simp only [Act.put, rg]; refine rgZ 8 ?_ rfl (.inl ⟨by rfl, fun w hSw => ?_⟩) ?_ (by kernel_rfl) (fun _ _ _ h => h) (by assumption); rotate_left
     ·(try dsimp only at hSw); go_simp; try with_reducible rfl
     simp only [Act.put, rg]; refine rgZ 9 ?_ rfl (.inl ⟨by rfl, fun w hSw => ?_⟩) ?_ (by kernel_rfl) (fun _ _ _ h => h) (by assumption); rotate_left
     ·(try dsimp only at hSw); go_simp; try with_reducible rfl
     simp only [Act.put, rg]; refine rgZ 10 ?_ rfl (.inl ⟨by rfl, fun w hSw => ?_⟩) ?_ (by kernel_rfl) (fun _ _ _ h => h) (by assumption); rotate_left
     ·(try dsimp only at hSw); go_simp; try with_reducible rfl
     simp only [Act.put, rg]; refine rgZ 11 ?_ rfl (.inl ⟨by rfl, fun w hSw => ?_⟩) ?_ (by kernel_rfl) (fun _ _ _ h => h) (by assumption); rotate_left
     ·(try dsimp only at hSw); go_simp; try with_reducible rfl
     simp only [Act.put, rg]; refine wpAnyH_done (by kernel_rfl) ?_ _; go_wp2_with fail; refine hc.mono ?_; rintro e w6 ⟨rfl, hb⟩; have HS6 := qH (HS5.out.next hb); have hn7 := hN.next HS6.out.bel; obtain ⟨b7, off7, he7, _, _, _, _, q3⟩ := hn7.at HPL.out
     cases he7
     have hel := (hn7.ents pl HPL.out).ens.len
     have j0 : (0 : Int) ≤ (j : Int) := by omega
     have j1 : (j : Int) < ((f pl).en : Int) := by have := HLT2.out; omega
     obtain ⟨eb, eoff, he, hbl7, e1, e2⟩ := (hn7.ents pl HPL.out).ens.at (i := j) (by have := HLT2.out; omega); rw [he] at q3; rw [HZI.out] at e2; have b6 := HS6.out.box.cell; clear hc hb hn7 hbl7 e1 d0 d3 b1 x1 hel he; go_wp2_with fail
     go_quiet (fail)
     go_wp2_with fail; refine bodyPost_ret (res_4 rfl _ _) rfl ?_
     exact ⟨by rw [hr2.out]; rfl, below_drewN HS6.out.bel nq⟩
end
theorem copyB_any (a : Option Addr) (n c : Nat) (x : List Int) (w : World) (hx : Pin w a n c x) (hn : n ≤ 1000000000000) :
  Calls Tryz.prog 33 #[.slice a n c] w (ConPost w x) := by
 go_enter Tryz.func33, Tryz.ntmps33
 go_wp2_with (at_builtin; go_must (refine wpList_ap rfl (.tmp 5) (.tmp 6) rfl w.heap.size _ 0 [] rfl (own_none w w.heap.size (Nat.le_refl _)) a n c x rfl (hx.bys.below (Nat.le_refl _) ((Below.refl _ _).alloc (Nat.le_refl _) _)) hx.nil (by omega) (by simp) w ((Below.refl _ _).alloc (Nat.le_refl _) _) ?_); intro v w1 hown1 hb1)
 go_ret
 exact ⟨_, rfl, by rw [hx.bys.len]; simpa using hown1, hb1⟩
theorem row_turn {M : Nat → Prop} {w w' : World} {B s n : Nat} {e : TypeId} {v : Value} {xs : List Value} (h : w.ownsRow B e s v n xs) (ht : Turn M w w') (hm : ∀ j, v.ownBlock = some j → ¬ M j) : w'.ownsRow B e s v n xs := by
 refine ⟨h.1, ?_⟩
 rcases h.2 with h0 | ⟨g', cap, cur, hv, h1, h2, h3⟩
 ·exact .inl h0
 ·refine .inr ⟨g', cap, cur, hv, h1, ?_, h3⟩
  rw [← h2]
  exact ht.block g' (lt_of_block h2) (hm g' (by rw [hv]; rfl))
structure OwN (w : World) (v : Value) (n : Nat) (g : Nat → Nc) : Prop where
 row : w.ownsRow 0 54 4 v n (nflat g n)
 data : ∀ i, i < n → Pin w (g i).da (g i).dn (g i).dc (g i).d ∧ ∀ j, v.ownBlock = some j → Off (g i).dn (g i).da j j
 ents : ∀ i, i < n → Enz w (g i).ea (g i).en (g i).ec (g i).e ∧ ∀ j, v.ownBlock = some j → Off (g i).en (g i).ea j j
theorem OwN.zero (w : World) (g : Nat → Nc) : OwN w (.slice none 0 0) 0 g := ⟨World.ownsRow_nil _ _ _ _, fun i hi => absurd hi (Nat.not_lt_zero i), fun i hi => absurd hi (Nat.not_lt_zero i)⟩
section
variable {w w' : World} {v : Value} {n : Nat} {g : Nat → Nc}
theorem OwN.lt (h : OwN w v n g) : ∀ j, v.ownBlock = some j → j < w.heap.size := fun j hj => (World.ownsRow.lt h.row j hj).2
theorem OwN.turn {M : Nat → Prop} (h : OwN w v n g) (ht : Turn M w w') (hm : ∀ j, v.ownBlock = some j → ¬ M j) (hd : ∀ i, i < n → 0 < (g i).dn → ∀ b off, (g i).da = some ⟨b, off, none⟩ → ¬ M b) (he : ∀ i, i < n → 0 < (g i).en → ∀ b off, (g i).ea = some ⟨b, off, none⟩ → ¬ M b) : OwN w' v n g :=
 ⟨row_turn h.row ht hm, fun i hi => ⟨(h.data i hi).1.turn ht (hd i hi), (h.data i hi).2⟩, fun i hi => ⟨(h.ents i hi).1.turn ht (he i hi), (h.ents i hi).2⟩⟩
theorem OwN.next (h : OwN w v n g) (hb : Below w.heap.size w w') : OwN w' v n g :=
 h.turn (M := fun _ => False) (.of_below hb) (fun _ _ k => k) (fun _ _ _ _ _ _ k => k) (fun _ _ _ _ _ _ k => k)
theorem OwN.turnO {b : Nat} (h : OwN w v n g) (ho : OddB w b) (ht : Turn (· = b) w w') (hm : v.ownBlock ≠ some b) : OwN w' v n g :=
 h.turn ht (fun j hj e => hm (by rw [hj, e])) (fun i hi => ho.pin (h.data i hi).1) (fun i hi => ho.enz (h.ents i hi).1)
theorem OwN.form (h : OwN w v n g) : v = .slice none 0 0 ∧ n = 0 ∨ ∃ gb c, v = .slice (some ⟨gb, 0, none⟩) n c := by
 rcases h.row.2 with ⟨h1, h2⟩ | ⟨gb, cap, cur, h1, _⟩
 ·exact .inl ⟨h1, by simpa using h2⟩
 ·exact .inr ⟨gb, cap, h1⟩
theorem OwN.cell {gb c : Nat} (h : OwN w (.slice (some ⟨gb, 0, none⟩) n c) n g) {i : Nat} (hi : i < n) : w.cell? ⟨gb, 0 + i * 4, none⟩ = some (.int .i64 (g i).k) ∧ w.cell? ⟨gb, 0 + i * 4 + 1, none⟩ = some (.int .i64 (g i).l) ∧
  w.cell? ⟨gb, 0 + i * 4 + 2, none⟩ = some (.slice (g i).da (g i).dn (g i).dc) ∧ w.cell? ⟨gb, 0 + i * 4 + 3, none⟩ = some (.slice (g i).ea (g i).en (g i).ec) := by
 have key : ∀ j, j < 4 → w.cell? ⟨gb, 0 + (i * 4 + j), none⟩ = (ncl (g i))[j]? := fun j hj => by
  have := h.row.cells (g := gb) rfl (i * 4 + j) ((ncl (g i))[j]'(by simpa [ncl] using hj)) (by rw [nflat_get g hi hj]; simp [ncl, hj])
  rw [add0] at this
  rw [this]; simp [ncl, hj]
 exact ⟨key 0 (by omega), key 1 (by omega), key 2 (by omega), key 3 (by omega)⟩
theorem OwN.nds {a : Option Addr} {c : Nat} (h : OwN w (.slice a n c) n g) : Nds w a n g := by
 refine ⟨?_, fun i hi => (h.data i hi).1, fun i hi => (h.ents i hi).1⟩
 rcases h.form with ⟨_, h0⟩ | ⟨gb, c', hv⟩
 ·exact .inl h0
 ·cases hv
  exact .inr ⟨gb, 0, rfl, h.lt gb rfl, fun i hi => h.cell hi⟩
end
theorem wpList_apO {w : World} {ops : Array Oper} {rest : List Oper} {o : Oper} {a : Act} {Q : Exit → Act → World → Prop} (hgd : o.guard = none) (s x : Operand)
  (ho : o.op = .call { callee := .builtin .append, args := #[s, x], argTypes := #[24, 24] }) (v : Value) (n : Nat) (g : Nat → Nc) (hs : a.eval s = v) (hown : OwN w v n g) (y : Nc) (q : Nat)
  (hx : a.eval x = .slice (some ⟨q, 0, none⟩) 1 1) (hq : w.heap[q]? = some (.cells #[.int .i64 y.k, .int .i64 y.l, .slice y.da y.dn y.dc, .slice y.ea y.en y.ec] 54 (0, 0)))
  (hd : Pin w y.da y.dn y.dc y.d) (he : Enz w y.ea y.en y.ec y.e) (hoff : ∀ j, v.ownBlock = some j → Off y.dn y.da j j ∧ Off y.en y.ea j j) (hn : n ≤ 100000)
  (hK : ∀ gb c w', OwN w' (.slice (some ⟨gb, 0, none⟩) (n + 1) c) (n + 1) (updN g n y) → Turn (fun j => v.ownBlock = some j) w w' → (v.ownBlock = some gb ∨ w.heap.size ≤ gb) → wpList Tryz.prog ops Q rest (a.put o.dst (.slice (some ⟨gb, 0, none⟩) (n + 1) c)) w') :
  wpList Tryz.prog ops Q (o :: rest) a w := by
 obtain ⟨i0, hi, hz0, hz1, hz2⟩ := info_parts infoN
 refine wpList_append_lies w hgd s x 24 ho 0 54 i0 _ 4 64 Tryz.underlying24 hi hz0 hz1 hz2 rfl (by decide) v n _ hs hown.row ⟨q, 0, none⟩ 1 1 (ncl y) hx (by simp [ncl]) ?_ (ncl_one _) (by omega) (by unfold maxLen; omega) (by omega) (Nat.zero_le _) _ rfl ?_
 ·exact World.news_of_block (cs := #[.int .i64 y.k, .int .i64 y.l, .slice y.da y.dn y.dc, .slice y.ea y.en y.ec]) (t := 54) (fr := (0, 0)) hq
 ·intro gb c w' hrow hgrow hat hlt
  have hT : Turn (fun j => v.ownBlock = some j) w w' := ⟨hgrow.os, hgrow.tape, hgrow.output, hgrow.size, fun k hk hn => hgrow.block k hk (fun e => hn e.symm)⟩
  have hat' : v.ownBlock = some gb ∨ w.heap.size ≤ gb := hat.imp id (fun e => by omega)
  refine hK gb c w' ⟨?_, fun i hi => ?_, fun i hi => ?_⟩ hT hat'
  ·rw [nflat_succ, updN_same, nflat_congr (f := updN g n y) (g := g) fun k hk => updN_other g y (by omega)]
   exact hrow
  ·have pick : ∀ (z : Nc), Pin w z.da z.dn z.dc z.d → (∀ j, v.ownBlock = some j → Off z.dn z.da j j) → Pin w' z.da z.dn z.dc z.d ∧ ∀ j, (Value.slice (some ⟨gb, 0, none⟩) (n + 1) c).ownBlock = some j → Off z.dn z.da j j := fun z hz ho => by
    refine ⟨hz.turn hT fun h0 b off ha e => (ho b e h0 b off ha).1 rfl, fun j hj => ?_⟩
    have ej : gb = j := by simpa [Value.ownBlock] using hj
    subst ej
    rcases hat' with e | e
    ·exact ho gb e
    ·exact Off.oldB hz.bys e e
   by_cases e : i = n
   ·subst e
    rw [updN_same]
    exact pick y hd fun j hj => (hoff j hj).1
   ·rw [updN_other _ _ e]
    exact pick (g i) (hown.data i (by omega)).1 (hown.data i (by omega)).2
  ·have pick : ∀ (z : Nc), Enz w z.ea z.en z.ec z.e → (∀ j, v.ownBlock = some j → Off z.en z.ea j j) → Enz w' z.ea z.en z.ec z.e ∧ ∀ j, (Value.slice (some ⟨gb, 0, none⟩) (n + 1) c).ownBlock = some j → Off z.en z.ea j j := fun z hz ho => by
    refine ⟨hz.turn hT fun h0 b off ha e => (ho b e h0 b off ha).1 rfl, fun j hj => ?_⟩
    have ej : gb = j := by simpa [Value.ownBlock] using hj
    subst ej
    rcases hat' with e | e
    ·exact ho gb e
    ·exact Off.oldE hz.ens e e
   by_cases e : i = n
   ·subst e
    rw [updN_same]
    exact pick y he fun j hj => (hoff j hj).2
   ·rw [updN_other _ _ e]
    exact pick (g i) (hown.ents i (by omega)).1 (hown.ents i (by omega)).2
theorem res_c1 {P : Program} {fn : Func} {t : Tmp} {T : TypeId} (h : fn.results = #[.cell t T]) (tmps : Array Value) (w : World) (p : Addr) (v : Value) (hp : tmps.getD t undef = .pointer (some p)) (hv : (loadVar T p).run P w = .ok v w) : (results fn tmps).run P w = .ok v w := by
 have ha : asAddr (tmps.getD t undef) = (pure p : Sem Addr) := by rw [hp]; rfl
 unfold results
 rw [h]
 simp only [List.mapM_toArray, List.mapM_cons, List.mapM_nil, ha, Sem.run_bind, Sem.run_pure, Result.andThen_ok, hv, map_eq_pure_bind]
 rfl
end Go.Proofs.YtinholnidchblaaGreatDoor
