/-
  The document's Cut and Place, by contract.
-/
import Derived.Test.YtgedgkdnjnbijaaRd
namespace Go.Proofs.Ytgedgkdnjnbijaa
open Go.RowKit
set_option linter.unusedVariables false
set_option linter.unusedSimpArgs false
/-- The first block that a cut takes. -/
def ctN (n : Int) : Nat := n.toNat
set_option maxRecDepth 10000 in
set_option maxHeartbeats 4000000 in
theorem rcut_any (b : Nat) (G : Nat → Prop) (A : Nat → Int) (X : Nat → List Int) (n : Int) (w : World) (h : Bmp w b G A X) (hn : (Lit.int .i64 n).wf = true) :
    Calls Try.prog 33 #[.pointer (some ⟨b, 0, none⟩), .int .i64 n] w fun e w' => e = .returned (.tuple #[]) ∧ Turn (· = b) w w' ∧ Bmp w' b G (cutF 0 A (ctN n) 828) (cutF [] X (ctN n) 828) := by
  obtain ⟨m, hm⟩ : ∃ m : Nat, (if n < 0 then (0 : Int) else n) = (m : Int) := by
    by_cases h0 : n < 0
    · exact ⟨0, by rw [if_pos h0]; rfl⟩
    · exact ⟨n.toNat, by rw [if_neg h0]; omega⟩
  have hc : ctN n = m := by
    unfold ctN
    by_cases h0 : n < 0
    · rw [if_pos h0] at hm; omega
    · rw [if_neg h0] at hm; omega
  rw [hc]
  have HM := Lib.hid h
  have hm2 : (m : Int) ≤ 9223372036854775807 := by
    simp [Lit.wf, IntKind.min, IntKind.max, IntKind.signed, IntKind.bits] at hn
    by_cases h0 : n < 0
    · rw [if_pos h0] at hm; omega
    · rw [if_neg h0] at hm; omega
  clear h hc hn
  go_enter Try.func33, Try.ntmps33
  go_wp2_with (fail)
  go_loopw [4] (fun v wr => ∃ k : Nat, m ≤ k ∧ (k ≤ 828 ∨ k = m) ∧ v = .int .i64 k ∧ Turn (· = b) w wr ∧ Bmp wr b G (cutF 0 A m k) (cutF [] X m k)) (fun v _ => 828 - (RowKit.intOf v).toNat)
  case atStart => exact ⟨m, Nat.le_refl _, .inr rfl, rfl, Turn.refl _ _, by rw [cutF_none _ _ (Nat.le_refl m), cutF_none _ _ (Nat.le_refl m)]; exact HM.out⟩
  case round =>
    obtain ⟨k, hk1, hk2, rfl, hT, hMk⟩ := hrel
    have HT := Lib.hid hT
    have HK := Lib.hid hMk
    clear hT hMk hm
    by_cases hlt : k < 828
    · have h1 := HK.out.setA hlt 0
      have h2 := h1.none hlt
      rw [cutF_upd 0 A m k hk1, cutF_upd [] X m k hk1] at h2
      have c1 := HK.out.ad hlt
      obtain ⟨a9, n9, c9, c2, _, _⟩ := h1.sl hlt
      have f1 := HK.out.fr k
      have f2 := h1.fr (828 + k)
      have l1 := HK.out.lt
      have HT2 := Lib.hid ((HT.out.trans (turn_set wr b k (.int .i64 0))).trans (turn_set _ b (828 + k) (.slice none 0 0)))
      have HK2 := Lib.hid h2
      obtain ⟨z, hz⟩ : ∃ z, z = cutF 0 A m k k := ⟨_, rfl⟩
      rw [← hz] at c1
      clear h1 h2 hz
      go_wp2_with (fail)
      go_roundw
      case rel => exact ⟨k + 1, by omega, by omega, by go_num, HT2.out, HK2.out⟩
      case measure => simp [RowKit.intOf]; omega
    · have HE := Lib.hid (show cutF 0 A m k = cutF 0 A m 828 ∧ cutF [] X m k = cutF [] X m 828 by
        rcases hk2 with h | h
        · rw [show k = 828 by omega]; exact ⟨rfl, rfl⟩
        · subst h
          exact ⟨by rw [cutF_none _ _ (Nat.le_refl _), cutF_none _ _ (by omega)], by rw [cutF_none _ _ (Nat.le_refl _), cutF_none _ _ (by omega)]⟩)
      go_wp2_with (fail)
      go_end0
      exact ⟨rfl, HT.out, by rw [← HE.out.1, ← HE.out.2]; exact HK.out⟩
/-- What Place leaves. -/
def PlacePost (w : World) (b : Nat) (G : Nat → Prop) (A : Nat → Int) (X : Nat → List Int) (k t : Int) (ok : Bool) (e : Ending) (w' : World) : Prop :=
  (ok = false → e = .returned (.int .i64 28) ∧ Below w.heap.size w w') ∧
  (ok = true → e = .returned (.int .i64 0) ∧ Turn (· = b) w w' ∧ Bmp w' b G (upd A k.toNat t) (upd X k.toNat []))
def plO (X : Nat → List Int) (k t : Int) : Bool := byO X k && decide (1 ≤ t ∧ t ≤ 65535)
theorem place_no {w w' : World} {b : Nat} {G : Nat → Prop} {A : Nat → Int} {X : Nat → List Int} {k t : Int} {ok : Bool} (h : ok = false) (hb : Below w.heap.size w w') : PlacePost w b G A X k t ok (.returned (.int .i64 28)) w' :=
  ⟨fun _ => ⟨rfl, hb⟩, fun h2 => by rw [h] at h2; cases h2⟩
set_option maxRecDepth 10000 in
set_option maxHeartbeats 4000000 in
theorem rplace_any (b : Nat) (G : Nat → Prop) (A : Nat → Int) (X : Nat → List Int) (k t : Int) (w : World) (h : Bmp w b G A X) (hs : ∀ i, i < 828 → (X i).length ≤ 1000000) :
    Calls Try.prog 34 #[.pointer (some ⟨b, 0, none⟩), .int .i64 k, .int .i64 t] w (PlacePost w b G A X k t (plO X k t)) := by
  have HM := Lib.hid h
  have hby := rbytes_any b G A X k w h hs
  obtain ⟨ok, hok⟩ : ∃ z, z = byO X k := ⟨_, rfl⟩
  obtain ⟨x, hxx⟩ : ∃ z, z = byX X k := ⟨_, rfl⟩
  rw [← hok, ← hxx] at hby
  have HO := Lib.hid hok
  clear hok hxx h hs
  cases ok with
  | false =>
    have HD := Lib.hid (show plO X k t = false by rw [plO, ← HO.out]; rfl)
    go_enter Try.func34, Try.ntmps34
    go_wp2_with (fail)
    refine hby.mono ?_
    rintro e w2 ⟨a, n, c, rfl, _, _, hb⟩
    have HB := Lib.hid hb
    clear hb hby
    go_wp2_with (fail)
    go_ret
    exact place_no HD.out HB.out
  | true =>
    by_cases t0 : t < 1
    · 
      have HD := Lib.hid (show plO X k t = false by rw [plO, decide_eq_false (by omega), Bool.and_false])
      go_enter Try.func34, Try.ntmps34
      go_wp2_with (fail)
      refine hby.mono ?_
      rintro e w2 ⟨a, n, c, rfl, _, _, hb⟩
      have HB := Lib.hid hb
      clear hb hby
      go_wp2_with (fail)
      go_ret
      exact place_no HD.out HB.out
    · by_cases t1 : 65535 < t
      · 
        have HD := Lib.hid (show plO X k t = false by rw [plO, decide_eq_false (by omega), Bool.and_false])
        go_enter Try.func34, Try.ntmps34
        go_wp2_with (fail)
        refine hby.mono ?_
        rintro e w2 ⟨a, n, c, rfl, _, _, hb⟩
        have HB := Lib.hid hb
        clear hb hby
        go_wp2_with (fail)
        go_ret
        exact place_no HD.out HB.out
      · have hin : 0 ≤ k ∧ k < 828 := by
          have := HO.out
          unfold byO at this
          cases hh : inK k with
          | false => rw [hh] at this; cases this
          | true => exact inK_iff.1 hh
        obtain ⟨j, rfl⟩ := Int.eq_ofNat_of_zero_le hin.1
        have hj : j < 828 := by omega
        have HD := Lib.hid (show plO X (j : Int) t = true by rw [plO, ← HO.out, decide_eq_true (by omega)]; rfl)
        clear hin
        go_enter Try.func34, Try.ntmps34
        go_wp2_with (fail)
        refine hby.mono ?_
        rintro e w2 ⟨a, n, c, rfl, _, _, hb⟩
        have hm2 := HM.out.next hb
        have h1 := hm2.setA hj t
        have h2 := h1.none hj
        have c1 := hm2.ad hj
        obtain ⟨a9, n9, c9, c2, _, _⟩ := h1.sl hj
        have f1 := hm2.fr j
        have f2 := h1.fr (828 + j)
        have l1 := hm2.lt
        have HT2 := Lib.hid (((Turn.of_below (M := (· = b)) hb).trans (turn_set w2 b j (.int .i64 t))).trans (turn_set _ b (828 + j) (.slice none 0 0)))
        have HK2 := Lib.hid h2
        obtain ⟨z, hz⟩ : ∃ z, z = A j := ⟨_, rfl⟩
        rw [← hz] at c1
        clear h1 h2 hz hb hm2 hby
        go_wp2_with (fail)
        go_ret
        exact ⟨(fun h => by rw [HD.out] at h; cases h), fun _ => ⟨rfl, HT2.out, HK2.out⟩⟩
end Go.Proofs.Ytgedgkdnjnbijaa
