/-
  The document's Split, by contract: the walk.
-/
import Derived.Test.YthoblenoijkglaaDoorRs
namespace Go.Proofs.YthoblenoijkglaaDoor
open Go.RowKit
set_option linter.unusedVariables false
set_option linter.unusedSimpArgs false

/-- Where the document's Split stands at the head of its loop. -/
structure RsF (w : World) (s : ByteArray) (vo vn : Value) (k : Nat) (nm : List UInt8) (L : List (List UInt8)) (wr : World) : Prop where
  k1 : 1 ≤ k
  k2 : k ≤ s.size + 1
  out : OwnT wr w.heap.size vo L.length L
  name : Own wr w.heap.size vn nm.length (bI nm)
  bel : Below w.heap.size w wr
  ar : arP L = true
  short : nm.length ≤ k
  run : k ≤ s.size → rsp (s.data.toList.drop k) nm L = spl s.data.toList
  fin : k = s.size + 1 → spl s.data.toList = some L
theorem drop_at {s : ByteArray} {k : Nat} (h : k < s.size) : s.data.toList.drop k = (s[k]'h) :: s.data.toList.drop (k + 1) := by
  have h' : k < s.data.toList.length := by rw [← Lib.size_eq]; exact h
  rw [List.drop_eq_getElem_cons h']
  rfl
theorem RsF.byte {w : World} {s : ByteArray} {vo vn : Value} {k : Nat} {nm : List UInt8} {L : List (List UInt8)} {wr : World} (h : RsF w s vo vn k nm L wr) {b : UInt8} (hlt : k < s.size) (hb : (s[k]'hlt) = b) (h7 : b ≠ 47)
    {vn' : Value} {w' : World} (hn : Own w' w.heap.size vn' (nm.length + 1) (bI (nm ++ [b]))) (ho : OwnT w' w.heap.size vo L.length L) (hB : Below w.heap.size w w') : RsF w s vo vn' (k + 1) (nm ++ [b]) L w' :=
  ⟨by omega, by omega, ho, by rw [List.length_append, List.length_singleton]; exact hn, hB, h.ar, by rw [List.length_append, List.length_singleton]; have := h.short; omega, fun hk => by
    rw [← h.run (by omega), drop_at hlt, hb, rsp, if_neg h7], fun hk => by omega⟩
theorem RsF.cut {w : World} {s : ByteArray} {vo vn : Value} {k : Nat} {nm : List UInt8} {L : List (List UInt8)} {wr : World} (h : RsF w s vo vn k nm L wr) (hk : k ≤ s.size) (h7 : ∀ hlt : k < s.size, (s[k]'hlt) = 47) (hn : nmB nm = true) (h8 : L.length ≠ 8)
    {vo' : Value} {w' : World} (ho : OwnT w' w.heap.size vo' (L.length + 1) (L ++ [nm])) (hB : Below w.heap.size w w') : RsF w s vo' (.slice none 0 0) (k + 1) [] (L ++ [nm]) w' := by
  have hc : (nmB nm && !(L.length == 8)) = true := by rw [hn, beq_eq_false_iff_ne.2 h8]; rfl
  refine ⟨by omega, by omega, by rw [List.length_append, List.length_singleton]; exact ho, own_nil8 _ _, hB, by rw [arP_snoc h.ar, hc], by simp, fun hk' => ?_, fun hk' => ?_⟩
  · rw [← h.run hk, drop_at (show k < s.size by omega), h7 (by omega), rsp, if_pos rfl, if_pos hc]
  · have e : s.data.toList.drop k = [] := List.drop_of_length_le (by rw [← Lib.size_eq]; omega)
    rw [← h.run hk, e, rsp, if_pos hc]
theorem RsF.stop {w : World} {s : ByteArray} {vo vn : Value} {k : Nat} {nm : List UInt8} {L : List (List UInt8)} {wr : World} (h : RsF w s vo vn k nm L wr) (hk : k ≤ s.size) (h7 : ∀ hlt : k < s.size, (s[k]'hlt) = 47) (hc : (nmB nm && !(L.length == 8)) = false) : spl s.data.toList = none := by
  rw [← h.run hk]
  by_cases hlt : k < s.size
  · rw [drop_at hlt, h7 hlt, rsp, if_pos rfl, hc]; rfl
  · have e : s.data.toList.drop k = [] := List.drop_of_length_le (by rw [← Lib.size_eq]; omega)
    rw [e, rsp, hc]; rfl
set_option maxHeartbeats 2000000 in
theorem rsplit_any (s : ByteArray) (w : World) (hs : s.size ≤ 1000000) : Calls Tryd.prog 9 #[.string s] w (SplPost w (spl s.data.toList)) := by
  by_cases h0 : s.size = 0
  · have hn := Lib.hid (show spl s.data.toList = none by
      have : s.data.toList = [] := List.length_eq_zero_iff.1 (by rw [← Lib.size_eq]; exact h0)
      rw [this]; rfl)
    have k0 : (s.size : Int) = 0 := by omega
    clear hs h0
    go_enter Tryd.func9, Tryd.ntmps9
    go_wp2_with (fail)
    go_ret2
    exact ⟨by rw [hn.out]; rfl, Below.refl _ _⟩
  have k0 : ¬ (s.size : Int) = 0 := by omega
  have kp : 0 < s.size := by omega
  obtain ⟨b0, hb0⟩ : ∃ b, (s[0]'kp) = b := ⟨_, rfl⟩
  have hd0 := drop_at kp
  rw [List.drop_zero, hb0] at hd0
  have hat0 : (((s[0]'kp).toNat : Nat) : Int) = ((b0.toNat : Nat) : Int) := by rw [hb0]
  by_cases h7 : b0 = 47
  · subst h7
    have q7 : (((47 : UInt8).toNat : Nat) : Int) = 47 := rfl
    rw [q7] at hat0
    clear q7
    by_cases h1 : s = ⟨#[47]⟩
    · subst h1
      clear hd0 hb0 hat0 k0 kp h0 hs
      go_enter Tryd.func9, Tryd.ntmps9
      go_wp2_with (fail)
      go_ret2
      exact ⟨⟨_, rfl, ownT_none w _ (Nat.le_refl _)⟩, (Below.refl _ _).alloc (Nat.le_refl _) _⟩
    · have n1 : s.data.toList ≠ [47] := fun e => h1 (by rw [← tx_data s, e]; rfl)
      have m1 : (s.toList == [47]) = false := by rw [Lib.toList_data]; exact beq_eq_false_iff_ne.2 n1
      have qs : ((s.size : Int) == 0) = false := beq_eq_false_iff_ne.2 k0
      have hr1 : s.data.toList.drop 1 ≠ [] := fun e => n1 (by rw [hd0]; rw [Nat.zero_add, e])
      have hsp0 : rsp (s.data.toList.drop 1) [] [] = spl s.data.toList := by
        rw [rsp_spl hr1]
        exact congrArg spl hd0.symm
      have hst : RsF w s (.slice (some ⟨w.heap.size, 0, none⟩) 0 0) (.slice (some ⟨w.heap.size + 1, 0, none⟩) 0 0) 1 [] [] ((w.alloc (.cells #[] 9)).alloc (.cells #[] 5)) := by
        have hB1 : Below w.heap.size w (w.alloc (.cells #[] 9)) := (Below.refl _ _).alloc (Nat.le_refl _) _
        have hsz1 : (w.alloc (.cells #[] 9)).heap.size = w.heap.size + 1 := by simp
        have hn := own_none (w.alloc (.cells #[] 9)) w.heap.size (by omega)
        rw [hsz1] at hn
        exact ⟨Nat.le_refl _, by omega, (ownT_none w _ (Nat.le_refl _)).alloc _, hn, hB1.alloc hB1.size _, rfl, by simp, fun _ => hsp0, fun hk => absurd hk (by omega)⟩
      have HST := Lib.hid hst
      clear hd0 hb0 n1 h1 hr1 hsp0 hst h0
      go_enter Tryd.func9, Tryd.ntmps9
      go_wp2_with (fail)
      go_loopw [4, 5, 6] (fun vo vn vi wr => ∃ (k : Nat) (nm : List UInt8) (L : List (List UInt8)), vi = .int .i64 k ∧ RsF w s vo vn k nm L wr) (fun _ _ vi _ => s.size + 1 - (RowKit.intOf vi).toNat)
      case atStart => exact ⟨1, [], [], rfl, HST.out⟩
      case round =>
        obtain ⟨k, nm, L, rfl, hF⟩ := hrel
        have HF := Lib.hid hF
        by_cases hle : k ≤ s.size
        · obtain ⟨a, c, ev, hS, hnc, hcm, _, hlo⟩ := hF.out.sts
          subst ev
          have hb1 := hF.k1
          have hsh := hF.short
          by_cases hb : ∃ hlt : k < s.size, (s[k]'hlt) ≠ 47
          · obtain ⟨hlt, hb7⟩ := hb
            obtain ⟨b, hbe⟩ : ∃ b, (s[k]'hlt) = b := ⟨_, rfl⟩
            rw [hbe] at hb7
            have hat : (((s[k]'hlt).toNat : Nat) : Int) = ((b.toNat : Nat) : Int) := by rw [hbe]
            have q7 : ((((b.toNat : Nat) : Int)) == 47) = false := by
              refine beq_eq_false_iff_ne.2 fun e => hb7 (UInt8.toNat_inj.1 ?_)
              rw [show (47 : UInt8).toNat = 47 from rfl]; omega
            have r7 : ((((b.toNat : Nat) : Int)) != 47) = true := by rw [bne, q7]; rfl
            have k3 : (k : Int) < (s.size : Int) := by omega
            have k4 : (k : Int) ≤ (s.size : Int) := by omega
            have k5 : (0 : Int) ≤ (k : Int) := by omega
            have HBE := Lib.hid hbe
            have HB7 := Lib.hid hb7
            clear hF hS hbe hb7 hlo hsh hb1
            have HN := Lib.hid (HF.out.name.alloc (.cells #[.int .u8 ((b.toNat : Nat) : Int)] 5))
            have HO := Lib.hid (HF.out.out.alloc (.cells #[.int .u8 ((b.toNat : Nat) : Int)] 5))
            have HB := Lib.hid (HF.out.bel.alloc HF.out.bel.size (.cells #[.int .u8 ((b.toNat : Nat) : Int)] 5))
            have hsh := HF.out.short
            have hBs := HF.out.bel.size
            go_wp2_with (at_builtin; go_must (refine wpList_apb rfl (.tmp 36) (.tmp 40) rfl w.heap.size _ nm.length nm rfl HN.out wr.heap.size b rfl (by simp) _ L.length L HO.out (by omega) (by simp; omega) w HB.out ?_); intro v2 w2 hn2 ho2 hb2)
            have HN2 := Lib.hid hn2
            have HO2 := Lib.hid ho2
            have HB2 := Lib.hid hb2
            clear hn2 ho2 hb2
            go_roundw
            case rel => exact ⟨k + 1, nm ++ [b], L, by go_num, HF.out.byte hlt HBE.out HB7.out HN2.out HO2.out HB2.out⟩
            case measure => simp [RowKit.intOf]; omega
          · have h7 : ∀ hlt : k < s.size, (s[k]'hlt) = 47 := fun hlt => by
              by_cases h : (s[k]'hlt) = 47
              · exact h
              · exact absurd ⟨hlt, h⟩ hb
            have H7 := Lib.hid h7
            have hcv := conv_own hF.name
            have hrn := rname_any (tx nm) wr
            rw [data_tx] at hrn
            have k4 : (k : Int) ≤ (s.size : Int) := by omega
            have k5 : (0 : Int) ≤ (k : Int) := by omega
            clear hF hS hb h7 hlo
            by_cases hlt : k < s.size
            · have k3 : (k : Int) < (s.size : Int) := by omega
              have hat : (((s[k]'hlt).toNat : Nat) : Int) = 47 := by rw [H7.out hlt]; rfl
              have hst := HF.out.stop hle H7.out
              cases hn : nmB nm with
              | false =>
                have hsp := Lib.hid (hst (by rw [hn]; rfl))
                rw [hn] at hrn
                clear hst
                go_wp2_with (fail)
                refine hrn.mono ?_
                rintro e w' ⟨rfl, rfl⟩
                go_wp2_with (fail)
                go_ret2
                exact ⟨by rw [hsp.out]; rfl, HF.out.bel⟩
              | true =>
                rw [hn] at hrn
                by_cases h8 : L.length = 8
                · have hsp := Lib.hid (hst (by rw [hn, h8]; rfl))
                  have q8 : ((L.length : Int) == 8) = true := beq_iff_eq.2 (by omega)
                  clear hst h8
                  go_wp2_with (fail)
                  refine hrn.mono ?_
                  rintro e w' ⟨rfl, rfl⟩
                  go_wp2_with (fail)
                  go_ret2
                  exact ⟨by rw [hsp.out]; rfl, HF.out.bel⟩
                · have q8 : ((L.length : Int) == 8) = false := beq_eq_false_iff_ne.2 (by omega)
                  have H8 := Lib.hid h8
                  clear hst h8
                  go_wp2_with (fail)
                  refine hrn.mono ?_
                  rintro e w' ⟨rfl, rfl⟩
                  have HO := Lib.hid (HF.out.out.alloc (.cells #[.string (tx nm)] 9))
                  have HB := Lib.hid (HF.out.bel.alloc HF.out.bel.size (.cells #[.string (tx nm)] 9))
                  have hS1 := sts_one (w := w') (tx nm) rfl
                  rw [data_tx] at hS1
                  have HS1 := Lib.hid hS1
                  have hBs := HF.out.bel.size
                  have hal := arP_len HF.out.ar
                  clear hS1
                  go_wp2_with (at_builtin; go_must (refine wpList_apT rfl (.tmp 51) (.tmp 54) rfl w.heap.size _ L.length L rfl HO.out ⟨w'.heap.size, 0, none⟩ 1 1 [nm] rfl HS1.out (by omega) (by simp; omega) w HB.out ?_); intro v2 w2 ho2 hb2)
                  have HO2 := Lib.hid ho2
                  have HB2 := Lib.hid hb2
                  clear ho2 hb2
                  go_roundw
                  case rel => exact ⟨k + 1, [], L ++ [nm], by go_num, HF.out.cut hle H7.out hn H8.out HO2.out HB2.out⟩
                  case measure => simp [RowKit.intOf]; omega
            · have k3 : ¬ (k : Int) < (s.size : Int) := by omega
              have hst := HF.out.stop hle H7.out
              cases hn : nmB nm with
              | false =>
                have hsp := Lib.hid (hst (by rw [hn]; rfl))
                rw [hn] at hrn
                clear hst
                go_wp2_with (fail)
                refine hrn.mono ?_
                rintro e w' ⟨rfl, rfl⟩
                go_wp2_with (fail)
                go_ret2
                exact ⟨by rw [hsp.out]; rfl, HF.out.bel⟩
              | true =>
                rw [hn] at hrn
                by_cases h8 : L.length = 8
                · have hsp := Lib.hid (hst (by rw [hn, h8]; rfl))
                  have q8 : ((L.length : Int) == 8) = true := beq_iff_eq.2 (by omega)
                  clear hst h8
                  go_wp2_with (fail)
                  refine hrn.mono ?_
                  rintro e w' ⟨rfl, rfl⟩
                  go_wp2_with (fail)
                  go_ret2
                  exact ⟨by rw [hsp.out]; rfl, HF.out.bel⟩
                · have q8 : ((L.length : Int) == 8) = false := beq_eq_false_iff_ne.2 (by omega)
                  have H8 := Lib.hid h8
                  clear hst h8
                  go_wp2_with (fail)
                  refine hrn.mono ?_
                  rintro e w' ⟨rfl, rfl⟩
                  have HO := Lib.hid (HF.out.out.alloc (.cells #[.string (tx nm)] 9))
                  have HB := Lib.hid (HF.out.bel.alloc HF.out.bel.size (.cells #[.string (tx nm)] 9))
                  have hS1 := sts_one (w := w') (tx nm) rfl
                  rw [data_tx] at hS1
                  have HS1 := Lib.hid hS1
                  have hBs := HF.out.bel.size
                  have hal := arP_len HF.out.ar
                  clear hS1
                  go_wp2_with (at_builtin; go_must (refine wpList_apT rfl (.tmp 51) (.tmp 54) rfl w.heap.size _ L.length L rfl HO.out ⟨w'.heap.size, 0, none⟩ 1 1 [nm] rfl HS1.out (by omega) (by simp; omega) w HB.out ?_); intro v2 w2 ho2 hb2)
                  have HO2 := Lib.hid ho2
                  have HB2 := Lib.hid hb2
                  clear ho2 hb2
                  go_roundw
                  case rel => exact ⟨k + 1, [], L ++ [nm], by go_num, HF.out.cut hle H7.out hn H8.out HO2.out HB2.out⟩
                  case measure => simp [RowKit.intOf]; omega
        · have hk : k = s.size + 1 := by have := hF.k2; omega
          subst hk
          have hfin := Lib.hid (hF.fin rfl)
          obtain ⟨a, c, ev, _⟩ := hF.out.sts
          subst ev
          have k4 : ¬ ((s.size : Int) + 1) ≤ (s.size : Int) := by omega
          clear hF
          go_wp2_with (fail)
          go_ret2
          refine ⟨?_, HF.out.bel⟩
          rw [hfin.out]
          exact ⟨.slice a L.length c, rfl, HF.out.out⟩
  · have hn := Lib.hid (show spl s.data.toList = none by rw [hd0, spl, if_neg h7])
    have q7 : ((((b0.toNat : Nat) : Int)) == 47) = false := by
      refine beq_eq_false_iff_ne.2 fun e => h7 (UInt8.toNat_inj.1 ?_)
      rw [show (47 : UInt8).toNat = 47 from rfl]; omega
    have r7 : ((((b0.toNat : Nat) : Int)) != 47) = true := by rw [bne, q7]; rfl
    have qs : ((s.size : Int) == 0) = false := beq_eq_false_iff_ne.2 k0
    clear hd0 hb0 h7
    go_enter Tryd.func9, Tryd.ntmps9
    go_wp2_with (fail)
    go_ret2
    exact ⟨by rw [hn.out]; rfl, Below.refl _ _⟩
end Go.Proofs.YthoblenoijkglaaDoor
