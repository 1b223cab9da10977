/-
  The program's Decode, by contract.
-/
import Derived.Test.YtiedapiepklhlaaFr
namespace Go.Proofs.Ytiedapiepklhlaa
open Go.RowKit
set_option linter.unusedVariables false
set_option linter.unusedSimpArgs false

/-- What Decode answers. -/
def DecPost (w : World) (o : Option (List En)) (e : Ending) (w' : World) : Prop := ∃ v, e = .returned (.tuple #[v, .bool o.isSome]) ∧ OwnE w' w.heap.size v (o.getD []).length (o.getD []) ∧ Below w.heap.size w w'
/-- A slice's length. -/
def lenV : Value → Nat
  | .slice _ n _ => n
  | _ => 0
/-- Where Decode stands at the head of its loop. -/
structure DcS (w : World) (z0 : List Int) (a : Option Addr) (n c : Nat) (zs : List Int) (v : Value) (L : List En) (wr : World) : Prop where
  pin : Pin w a n c zs
  dcd : Dcd z0 L zs
  own : OwnE wr w.heap.size v L.length L
  bel : Below w.heap.size w wr
  le : L.length ≤ 64
theorem fOk_all {zs : List Int} {n : Nat} (hl : zs.length = n) (h : fOk zs = true) : 3 ≤ n ∧ fSz zs ≤ n := by
  unfold fOk at h
  rw [Bool.and_eq_true, decide_eq_true_eq, decide_eq_true_eq] at h
  unfold fSz
  omega
theorem fSz_pos (zs : List Int) : 3 ≤ fSz zs := by unfold fSz; omega
theorem fEn_size {zs : List Int} : (fEn zs).s.size ≤ fLen zs := by
  show (strOfNums _).size ≤ _
  rw [strOfNums_size, List.length_take]
  omega
set_option maxHeartbeats 4000000 in
theorem decode_any (a : Option Addr) (n c : Nat) (z0 : List Int) (w : World) (h : Pin w a n c z0) (hn : n ≤ 1000000) :
    Calls Try.prog 13 #[.slice a n c] w (DecPost w (decO z0)) := by
  have HS := Lib.hid (show DcS w z0 a n c z0 (.slice none 0 0) [] w from ⟨h, Dcd.start _, ownE_nil _ _, Below.refl _ _, by simp⟩)
  clear h
  go_enter Try.func13, Try.ntmps13
  go_wp2_with (fail)
  go_loopw [0, 4, 5, 6, 7] (fun v0 v4 _ _ _ wr => ∃ (a : Option Addr) (n c : Nat) (zs : List Int) (L : List En), n ≤ 1000000 ∧ v0 = .slice a n c ∧ DcS w z0 a n c zs v4 L wr) (fun v0 _ _ _ _ _ => lenV v0)
  case atStart => exact ⟨a, n, c, z0, [], hn, rfl, HS.out⟩
  case round =>
    obtain ⟨a, n, c, zs, L, hn, rfl, hS⟩ := hrel
    have HT := Lib.hid hS
    have hpn := hS.pin.next hS.bel
    have hlen := hS.pin.len
    have hcap := hS.pin.cap
    have hmax := hS.pin.max
    have hle := hS.le
    obtain ⟨va, vc, rfl, hE, _⟩ := hS.own.ens
    have hws := hS.bel.size
    by_cases h0 : n = 0
    · subst h0
      obtain rfl : zs = [] := List.length_eq_zero_iff.1 hlen
      have hdone := hS.dcd.done
      have har := areRight_any va L.length vc L wr hE (by omega)
      have HD := Lib.hid hdone
      clear hS hE hpn hdone
      cases hr : rgt L with
      | false =>
        rw [hr] at har
        have hd := Lib.hid (show decO z0 = none by rw [HD.out, hr]; rfl)
        clear hr
        go_wp2_with (fail)
        refine har.mono ?_
        rintro e w2 ⟨rfl, hb2⟩
        have HB2 := Lib.hid (HT.out.bel.trans (hb2.mono hws))
        clear hb2 har
        go_wp2_with (fail)
        go_ret2
        exact ⟨_, by rw [hd.out]; rfl, by rw [hd.out]; exact ownE_nil _ _, HB2.out⟩
      | true =>
        rw [hr] at har
        have hd := Lib.hid (show decO z0 = some L by rw [HD.out, hr]; rfl)
        clear hr
        go_wp2_with (fail)
        refine har.mono ?_
        rintro e w2 ⟨rfl, hb2⟩
        have HB2 := Lib.hid (HT.out.bel.trans (hb2.mono hws))
        have HO2 := Lib.hid (HT.out.own.next hb2)
        clear hb2 har
        go_wp2_with (fail)
        go_ret2
        exact ⟨_, by rw [hd.out]; rfl, by rw [hd.out]; exact HO2.out, HB2.out⟩
    · have hnp : 0 < (n : Int) := by omega
      have hnp2 : 0 < n := by omega
      have hfr := front_any a n c zs wr hpn.bys hn hcap hmax
      have hz0 : zs.length ≠ 0 := by omega
      cases hk : fOk zs with
      | false =>
        have hd := Lib.hid (hS.dcd.bad hz0 hk)
        have HK := Lib.hid hk
        clear hS hE hpn hk
        go_wp2_with (fail)
        refine hfr.mono ?_
        rintro e w2 ⟨rfl, hb2⟩
        have HB2 := Lib.hid ((HT.out.bel.trans (hb2.mono hws)).alloc (Nat.le_trans hws hb2.size) (.cells #[.string (frE zs).s, .int .i64 (frE zs).i] 36 (0, 0)))
        rw [HK.out]
        unfold env
        clear hb2 hfr
        go_wp2_with (fail)
        go_ret2
        exact ⟨_, by rw [hd.out]; rfl, by rw [hd.out]; exact ownE_nil _ _, HB2.out⟩
      | true =>
        obtain ⟨h3, hfit⟩ := fOk_all hlen hk
        have hfe : frE zs = fEn zs := by unfold frE; rw [hk]; rfl
        have hfs : frS zs = (fSz zs : Int) := by unfold frS; rw [hk]; rfl
        have hpos := fSz_pos zs
        obtain ⟨k, hkz⟩ : ∃ k, fSz zs = k := ⟨_, rfl⟩
        obtain ⟨s, i, hsi⟩ : ∃ s i, fEn zs = ⟨s, i⟩ := ⟨_, _, rfl⟩
        rw [hsi] at hfe
        rw [hkz] at hfs hfit hpos
        have HE := Lib.hid hfe
        have HFS := Lib.hid hfs
        have HK := Lib.hid hk
        have hstep := hS.dcd.step hz0 hk
        rw [hsi, hkz] at hstep
        have HST := Lib.hid hstep
        have hbA1 : ∀ w2, Below wr.heap.size wr w2 → Below wr.heap.size wr (w2.alloc (.cells #[.string s, .int .i64 i] 36 (0, 0))) := fun w2 hb => hb.alloc hb.size _
        by_cases h64 : L.length = 64
        · have hd := Lib.hid (hS.dcd.many hz0 hk (by omega))
          have q64 : ((L.length : Int) == 64) = true := beq_iff_eq.2 (by omega)
          clear hS hE hpn hk hfe hfs hstep hkz hsi
          go_wp2_with (fail)
          refine hfr.mono ?_
          rintro e w2 ⟨rfl, hb2⟩
          have HB2 := Lib.hid (HT.out.bel.trans ((hbA1 w2 hb2).mono hws))
          rw [HE.out, HFS.out, HK.out]
          unfold env
          simp only
          clear hb2 hfr hbA1
          go_wp2_with (fail)
          go_ret2
          exact ⟨_, by rw [hd.out]; rfl, by rw [hd.out]; exact ownE_nil _ _, HB2.out⟩
        · have q64 : ((L.length : Int) == 64) = false := beq_eq_false_iff_ne.2 (by omega)
          have hl65 : L.length + 1 ≤ 64 := by omega
          obtain ⟨b, off, rfl⟩ : ∃ b off, a = some ⟨b, off, none⟩ := by
            rcases hpn.bys.place with h0 | ⟨b, off, e, _, _⟩
            · omega
            · exact ⟨b, off, e⟩
          have k0 : (0 : Int) ≤ (k : Int) := by omega
          have k1 : (k : Int) ≤ (n : Int) := by omega
          clear hk hfe hfs hstep hkz hsi h64
          go_wp2_with (fail)
          refine hfr.mono ?_
          rintro e w2 ⟨rfl, hb2⟩
          rw [HE.out, HFS.out, HK.out]
          unfold env
          simp only
          have hbA : Below wr.heap.size wr ((w2.alloc (.cells #[.string s, .int .i64 i] 36 (0, 0))).alloc (.cells #[.string s, .int .i64 i] 36 (0, 0))) := (hbA1 w2 hb2).alloc (hbA1 w2 hb2).size _
          by_cases hck : c = k
          · have hnk : n = k := by omega
            have hdr : zs.drop k = [] := List.drop_of_length_le (by omega)
            have HDR := Lib.hid hdr
            have HNK := Lib.hid hnk
            have hcn : c = n := by omega
            subst hnk
            subst hck
            clear hdr
            have HO4 := Lib.hid (HT.out.own.next hbA)
            have HB4 := Lib.hid (HT.out.bel.trans (hbA.mono hws))
            have HM4 := Lib.hid (ens_one (w := w2.alloc (.cells #[.string s, .int .i64 i] 36 (0, 0))) (g := w2.heap.size + 1) s i (by simp))
            have hs4 : w.heap.size ≤ w2.heap.size + 1 + 1 := by have := hb2.size; omega
            clear hb2 hfr hbA hS hE hpn
            go_wp2_with (at_builtin; go_must (refine wpList_ape rfl (.tmp 24) (.tmp 26) rfl w.heap.size _ L.length L rfl HO4.out (some ⟨w2.heap.size + 1, 0, none⟩) 1 1 [En.mk s i] rfl HM4.out (fun h => by cases h) (by omega) (by simpa using hs4) w HB4.out ?_); intro v5 w5 ho5 hb5)
            have HO5 := Lib.hid ho5
            have HB5 := Lib.hid hb5
            clear ho5 hb5
            go_roundw
            case rel => exact ⟨some ⟨b, off, none⟩, 0, 0, [], L ++ [En.mk s i], by omega, rfl, ⟨⟨Bys.none _, (fun h => by cases h), Nat.le_refl _, by omega⟩, by rw [← HDR.out]; exact HST.out, by rw [List.length_append]; exact HO5.out, HB5.out, by rw [List.length_append]; exact hl65⟩⟩
            case measure => simp [lenV]; omega
          · have hck2 : ¬ (c = k) := hck
            have HO4 := Lib.hid (HT.out.own.next hbA)
            have HB4 := Lib.hid (HT.out.bel.trans (hbA.mono hws))
            have HM4 := Lib.hid (ens_one (w := w2.alloc (.cells #[.string s, .int .i64 i] 36 (0, 0))) (g := w2.heap.size + 1) s i (by simp))
            have hs4 : w.heap.size ≤ w2.heap.size + 1 + 1 := by have := hb2.size; omega
            clear hb2 hfr hbA hS hE hpn
            go_wp2_with (at_builtin; go_must (refine wpList_ape rfl (.tmp 24) (.tmp 26) rfl w.heap.size _ L.length L rfl HO4.out (some ⟨w2.heap.size + 1, 0, none⟩) 1 1 [En.mk s i] rfl HM4.out (fun h => by cases h) (by omega) (by simpa using hs4) w HB4.out ?_); intro v5 w5 ho5 hb5)
            have HO5 := Lib.hid ho5
            have HB5 := Lib.hid hb5
            clear ho5 hb5
            go_roundw
            case rel => exact ⟨some ⟨b, off + k, none⟩, n - k, c - k, zs.drop k, L ++ [En.mk s i], by omega, rfl, ⟨HT.out.pin.rest k, HST.out, by rw [List.length_append]; exact HO5.out, HB5.out, by rw [List.length_append]; exact hl65⟩⟩
            case measure => simp [lenV]; omega
end Go.Proofs.Ytiedapiepklhlaa
