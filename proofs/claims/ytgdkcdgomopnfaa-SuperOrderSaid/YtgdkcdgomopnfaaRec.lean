/-
  The program's record, by contract.
-/
import Derived.Test.YtgdkcdgomopnfaaStart
namespace Go.Proofs.Ytgdkcdgomopnfaa
open Go.RowKit

/-- The gathering loop's relation. -/
def RecRel (k : Int) (ns : List Int) (w0 : World) (gw ow ga oa : Nat) (n : Nat) (u v : Value) (w : World) : Prop :=
  ∃ i s : Nat, i ≤ n ∧ s = (bodyL k ns i).length ∧ v = .int .i64 i ∧ Own w w0.heap.size u s (bodyL k ns i) ∧ okW (wids k) ns i = true ∧ Below w0.heap.size w0 w ∧
    Ins w (some ⟨gw, ow, none⟩) n (wids k) ∧ Ins w (some ⟨ga, oa, none⟩) n ns ∧ u.ownBlock ≠ some gw ∧ gw < w.heap.size ∧ u.ownBlock ≠ some ga ∧ ga < w0.heap.size

set_option maxHeartbeats 2000000 in
theorem record_any (k : Int) (a : Option Addr) (n c : Nat) (ns : List Int) (w : World) (hk : Kd k) (hx : Ins w a n ns) (hn : n = (wids k).length) (hc : n ≤ c) (_ : c ≤ 9223372036854775807) :
    Calls Try.prog 32 #[.int .i64 k, .slice a n c] w (PutPost w (recO k ns) (recL k ns)) := by
  have HK := Lib.hid hk
  have hl3 := wids_len k
  obtain ⟨b, off, rfl, hlt, _⟩ := hx.at (by omega)
  have HN := Lib.hid hn
  have hn3 : n ≤ 3 := by omega
  go_enter Try.func32, Try.ntmps32
  go_wp2_with (fail)
  refine (start_any k w HK.out).mono ?_
  rintro e w1 ⟨v1, rfl, ho1, hb1⟩
  have hx1 := hx.next hb1
  obtain ⟨a1, c1, rfl, hp1, hlo1⟩ := ho1.pin
  have hv1 : ∀ x, (Value.slice a1 4 c1).ownBlock = some x → w.heap.size ≤ x ∧ x < w1.heap.size := fun x hx => by
    cases a1 with
    | none => cases hx
    | some y =>
      have := hlo1 y rfl
      have e : y.block = x := by simpa [Value.ownBlock] using hx
      rwa [e] at this
  have HV1 := Lib.hid hv1
  clear hv1 hlo1 hp1
  go_wp2_with (fail)
  refine (widths_any k w1 HK.out).mono ?_
  rintro e w2 ⟨aw, cw, rfl, hw2, hcw, hcw2, hnew, hb2⟩
  have hx2 := hx1.next hb2
  have ho2 := ho1.below (Nat.le_refl _) hb2
  have hB2 : Below w.heap.size w w2 := hb1.trans (hb2.mono hb1.size)
  rw [← HN.out] at hw2 hcw ⊢
  obtain ⟨gw, ow, rfl, hgw, _⟩ := hw2.at (by omega)
  have hne1 : (Value.slice a1 4 c1).ownBlock ≠ some gw := fun e => by have := (HV1.out _ e).2; have := hnew _ rfl; simp only [] at this; omega
  have hne2 : (Value.slice a1 4 c1).ownBlock ≠ some b := fun e => by have := (HV1.out _ e).1; omega
  have H1 := Lib.hid hne1
  have H2 := Lib.hid hne2
  clear hx hx1 ho1 hb1 hb2 hnew hne1 hne2
  go_wp2_with (fail)
  go_loopw [6, 7, 8, 9, 15] (fun u _p _q _r v wr => RecRel k ns w gw ow b off n u v wr) (fun _ _ _ _ v _ => n - (intOf v).toNat)
  case atStart => exact ⟨0, 4, Nat.zero_le _, rfl, rfl, ho2, rfl, hB2, hw2, hx2, H1.out, hgw, H2.out, hlt⟩
  case round =>
    clear ho2 hB2 hw2 hx2 hgw H1 H2 HV1
    obtain ⟨i, s, hi, hs, rfl, ho, hok, hb, hw, hx, q1, q2, q3, q4⟩ := hrel
    have HS := Lib.hid hs
    have HOK := Lib.hid hok
    have hs16 : s ≤ 16 := by have := bodyL_le k ns i; omega
    have hsz := hb.size
    have Q1 := Lib.hid q1
    have Q3 := Lib.hid q3
    clear hs hok q1 q3
    by_cases hlt2 : i < n
    · obtain ⟨_, _, e1, _, hcw⟩ := hw.at (by omega)
      cases e1
      obtain ⟨_, _, e2, _, hcx⟩ := hx.at (by omega)
      cases e2
      have y1 := hcw i hlt2
      have y2 := hcx i hlt2
      clear hcw hcx
      have hwb := wids_bd k i (by rw [← HN.out]; exact hlt2)
      obtain ⟨z, hz⟩ : ∃ z, z = num (wids k) i := ⟨_, rfl⟩
      obtain ⟨x, hxx⟩ : ∃ x, x = num ns i := ⟨_, rfl⟩
      rw [← hz] at y1 hwb
      rw [← hxx] at y2
      have HZ := Lib.hid hz
      have HX := Lib.hid hxx
      clear hz hxx
      have k1 : (i : Int) < (n : Int) := by omega
      go_wp2_with (fail)
      refine (put_s z x wr).mono ?_
      rintro e w3 ⟨a3, n3, c3, rfl, hp3, hb3⟩
      have hpos := put_pos (n := x) hwb
      rw [hp3.len] at hpos
      have hw3 := hw.next hb3
      have hx3 := hx.next hb3
      have ho3 := ho.below (Nat.le_refl _) hb3
      have hB3 : Below w.heap.size w w3 := hb.trans (hb3.mono hsz)
      have hs3 := hb3.size
      have hs0 := hB3.size
      clear hw hx ho hb hb3 y1 y2
      by_cases h0 : n3 = 0
      · subst h0
        have hno : Hid (recO k ns = false) := okW_no (i := i) (by rw [← HN.out]; exact hlt2) (by rw [← HX.out, ← HZ.out]; exact hpos.1 rfl)
        clear hpos hw3 hx3 ho3 hp3
        go_wp2_with (fail)
        go_ret2
        exact ⟨.inr ⟨hno.out, by rw [recL, hno.out]; rfl, rfl⟩, hB3⟩
      · have hn4 : n3 ≤ 4 := by have := put_le z x; rw [hp3.len] at this; exact this
        have hh : Hid (hasW x z = true) := by
          show _ = _
          cases hq : hasW x z
          · exact absurd (hpos.2 hq) h0
          · rfl
        have n0 : ¬ (n3 : Int) = 0 := by omega
        obtain ⟨b3, o3, rfl, _, _⟩ := hp3.at (by omega)
        have hp3b := hp3.bys
        clear hpos hp3
        go_wp2_with (at_builtin; go_must (refine wpList_apl rfl (.tmp 29) (.tmp 30) rfl w.heap.size _ s _ rfl ho3 _ n3 c3 _ rfl hp3b (by omega) (by omega) hs0 w hB3 ?_); intro v4 w4 ho4 hB4 hg4 hk4)
        have hs4 := hg4.size
        go_roundw
        case rel =>
          have e1 := bodyL_snoc k ns i
          rw [← HZ.out, ← HX.out] at e1
          refine ⟨i + 1, s + n3, by omega, ?_, by go_num, by rw [e1]; exact ho4, ?_, hB4, hw3.grown hg4 (fun y hy => by cases hy; exact Q1.out), hx3.grown hg4 (fun y hy => by cases hy; exact Q3.out), hk4 gw (by omega) Q1.out, by omega, hk4 b (by omega) Q3.out, q4⟩
          · have := ho4.len; rw [← e1] at this; exact this.symm
          · rw [okW, HOK.out, ← HX.out, ← HZ.out, hh.out]; rfl
        case measure => simp [intOf]; omega
    · obtain rfl : i = n := by omega
      obtain ⟨a5, c5, rfl, hp5, _⟩ := ho.pin
      clear hw hx q2
      go_wp2_with (fail)
      refine (pad_yes a5 s c5 64 _ wr hp5.bys (by omega) (by omega)).mono ?_
      rintro e w6 ⟨rfl, hb6, hl6⟩
      have hB6 : Below w.heap.size w w6 := hb.trans (hl6.mono hsz)
      have hok : recO k ns = true := by rw [recO, ← HN.out]; exact HOK.out
      have hL : recL k ns = padL (bodyL k ns i) 64 := by rw [recL, hok, if_pos rfl, ← HN.out]
      have hsm : AllB (bodyL k ns i) := hp5.bys.small
      have hlen : (padL (bodyL k ns i) 64).length = 64 := padL_len (by rw [hp5.len]; omega)
      have HL := Lib.hid hL
      have HO := Lib.hid hok
      clear hL hok hp5 ho hb hl6
      go_wp2_with (fail)
      go_ret2
      exact ⟨.inl ⟨HO.out, wr.heap.size, rfl, hsz, by rw [HL.out]; exact hb6, by rw [HL.out]; exact padL_small hsm 64, by rw [HL.out]; exact hlen⟩, hB6⟩

end Go.Proofs.Ytgdkcdgomopnfaa
