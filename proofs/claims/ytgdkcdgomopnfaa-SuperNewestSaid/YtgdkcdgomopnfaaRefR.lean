/-
  The reference's record, by contract.
-/
import Derived.Test.YtgdkcdgomopnfaaFacts
namespace Go.Proofs.Ytgdkcdgomopnfaa
open Go.RowKit

def lenOf : Value → Nat
  | .slice _ n _ => n
  | _ => 0
/-- The gathering loop's relation. -/
def RefRel (k : Int) (ns : List Int) (w0 : World) (n : Nat) (u v : Value) (w : World) : Prop :=
  ∃ i s : Nat, i ≤ n ∧ s = (bodyL k ns i).length ∧ v = .int .i64 i ∧ Own w w0.heap.size u s (bodyL k ns i) ∧ okW (wids k) ns i = true ∧ Below w0.heap.size w0 w
/-- The padding loop's relation: m bytes stand. -/
def PadRel (w0 : World) (zs : List Int) (v : Value) (w : World) : Prop :=
  ∃ m j : Nat, m = zs.length + j ∧ m ≤ 64 ∧ Own w w0.heap.size v m (zs ++ List.replicate j 0) ∧ Below w0.heap.size w0 w
theorem rep_snoc (zs : List Int) (j : Nat) : zs ++ List.replicate j 0 ++ [0] = zs ++ List.replicate (j + 1) 0 := by
  rw [List.append_assoc, List.replicate_succ']
theorem own_lit' {w : World} {g : Nat} (k : Int) (h : 0 ≤ k ∧ k ≤ 255) (hg : w.heap.size = g) : Own (w.alloc (.cells #[.int .u8 77, .int .u8 79, .int .u8 82, .int .u8 k] 5 (0, 0))) g (.slice (some ⟨g, 0, none⟩) 4 4) 4 (startL k) := by
  subst hg
  exact own_lit w k h

set_option maxHeartbeats 4000000 in
theorem refRecord_any (k : Int) (a b : Option Addr) (n c d : Nat) (ns : List Int) (w : World) (h0 : 0 ≤ k ∧ k ≤ 255) (hx : Ins w a n ns) (hy : Ins w b n (wids k)) (hn : n = (wids k).length) (hns : ∀ i, num ns i ≤ 9223372036854775807) :
    Calls Try.prog 34 #[.int .u8 k, .slice a n c, .slice b n d] w (RetS w (recL k ns)) := by
  have hl3 := wids_len k
  obtain ⟨ba, oa, rfl, hlt, hca⟩ := hx.at (by omega)
  obtain ⟨bb, ob, rfl, hltb, hcb⟩ := hy.at (by omega)
  have HN := Lib.hid hn
  have HNS := Lib.hid hns
  have HA := Lib.hid hca
  have HB := Lib.hid hcb
  have hn3 : n ≤ 3 := by omega
  have hB1 := bel_a1 w (.cells #[.int .u8 77, .int .u8 79, .int .u8 82, .int .u8 k] 5 (0, 0))
  have ho1 := own_lit w k h0
  clear hx hy hca hcb hns hl3 hn
  go_enter Try.func34, Try.ntmps34
  go_wp2_with (fail)
  go_loopw [7, 8, 9] (fun u v _p wr => RefRel k ns w n u v wr) (fun _ v _ _ => n - (intOf v).toNat)
  case atStart => exact ⟨0, 4, Nat.zero_le _, rfl, rfl, ho1, rfl, hB1⟩
  case round =>
    clear ho1 hB1
    obtain ⟨i, s, hi, hs, rfl, ho, hok, hb⟩ := hrel
    have HS := Lib.hid hs
    have HOK := Lib.hid hok
    have hs16 : s ≤ 16 := by have := bodyL_le k ns i; omega
    have hsz := hb.size
    clear hs hok
    by_cases hlt2 : i < n
    · have y1 : wr.drew.cell? ⟨ba, oa + i, none⟩ = some (.int .i64 (num ns i)) := ((below_drewN hb 1).cell (p := ⟨ba, oa + i, none⟩) hlt).trans (HA.out i hlt2)
      have y2 : wr.drew.cell? ⟨bb, ob + i, none⟩ = some (.int .i64 (num (wids k) i)) := ((below_drewN hb 1).cell (p := ⟨bb, ob + i, none⟩) hltb).trans (HB.out i hlt2)
      have hwb := wids_bd k i (by rw [← HN.out]; exact hlt2)
      have hnb := HNS.out i
      obtain ⟨z, hz⟩ : ∃ z, z = num (wids k) i := ⟨_, rfl⟩
      obtain ⟨x, hxx⟩ : ∃ x, x = num ns i := ⟨_, rfl⟩
      rw [← hz] at y2 hwb
      rw [← hxx] at y1 hnb
      have HZ := Lib.hid hz
      have HX := Lib.hid hxx
      clear hz hxx
      have k1 : (i : Int) < (n : Int) := by omega
      go_wp2_with (fail)
      have hod : Own wr.drew w.heap.size _ s (bodyL k ns i) := ho.below (Nat.le_refl _) (below_drewN (Below.refl wr.heap.size wr) 1)
      have hbd : Below w.heap.size w wr.drew := below_drewN hb 1
      have hsd : w.heap.size ≤ wr.drew.heap.size := hsz
      refine wp_region_held_drew (S := (fun w' => w'.cell? ⟨ba, oa + i, none⟩ = some (.int .i64 x) ∧ w'.cell? ⟨bb, ob + i, none⟩ = some (.int .i64 z))) (by kernel_rfl) ?_ (fun hHeld => ?_)
      · exact ⟨y1, y2⟩
      generalize hw2 : wr.drew = w2 at *
      clear hw2 ho hb
      refine wpAnyH_take (i := 0) (v := ?_) rfl (by kernel_rfl) (by kernel_rfl) (by kernel_rfl) (fun _ _ _ h => h) (Or.inl ⟨by rfl, fun w hSw => ?_⟩) (by assumption) ?_
      rotate_left
      · (try dsimp only at hSw); go_simp; try with_reducible rfl
      simp only [Act.put, List.setIfInBounds_toArray, List.set_cons_zero, List.set_cons_succ, List.getElem_toArray, List.getElem_cons_zero]
      refine wpAnyH_take (i := 1) (v := ?_) rfl (by kernel_rfl) (by kernel_rfl) (by kernel_rfl) (fun _ _ _ h => h) (Or.inl ⟨by rfl, fun w hSw => ?_⟩) (by assumption) ?_
      rotate_left
      · (try dsimp only at hSw); go_simp; try with_reducible rfl
      simp only [Act.put, List.setIfInBounds_toArray, List.set_cons_zero, List.set_cons_succ, List.getElem_toArray, List.getElem_cons_succ, List.getElem_cons_zero]
      refine wpAnyH_take (i := 2) (v := ?_) rfl (by kernel_rfl) (by kernel_rfl) (by kernel_rfl) (fun _ _ _ h => h) (Or.inl ⟨by rfl, fun w hSw => ?_⟩) (by assumption) ?_
      rotate_left
      · (try dsimp only at hSw); go_simp; try with_reducible rfl
      simp only [Act.put, List.setIfInBounds_toArray, List.set_cons_zero, List.set_cons_succ, List.getElem_toArray, List.getElem_cons_succ, List.getElem_cons_zero]
      refine wpAnyH_take (i := 3) (v := ?_) rfl (by kernel_rfl) (by kernel_rfl) (by kernel_rfl) (fun _ _ _ h => h) (Or.inl ⟨by rfl, fun w hSw => ?_⟩) (by assumption) ?_
      rotate_left
      · (try dsimp only at hSw); go_simp; try with_reducible rfl
      simp only [Act.put, List.setIfInBounds_toArray, List.set_cons_zero, List.set_cons_succ, List.getElem_toArray, List.getElem_cons_succ, List.getElem_cons_zero]
      refine wpAnyH_take (i := 4) (v := ?_) rfl (by kernel_rfl) (by kernel_rfl) (by kernel_rfl) (fun _ _ _ h => h) (Or.inl ⟨by rfl, fun w hSw => ?_⟩) (by assumption) ?_
      rotate_left
      · (try dsimp only at hSw); go_simp; try with_reducible rfl
      simp only [Act.put, List.setIfInBounds_toArray, List.set_cons_zero, List.set_cons_succ, List.getElem_toArray, List.getElem_cons_succ, List.getElem_cons_zero]
      refine wpAnyH_take (i := 5) (v := ?_) rfl (by kernel_rfl) (by kernel_rfl) (by kernel_rfl) (fun _ _ _ h => h) (Or.inl ⟨by rfl, fun w hSw => ?_⟩) (by assumption) ?_
      rotate_left
      · (try dsimp only at hSw); go_simp; try with_reducible rfl
      simp only [Act.put, List.setIfInBounds_toArray, List.set_cons_zero, List.set_cons_succ, List.getElem_toArray, List.getElem_cons_succ, List.getElem_cons_zero]
      refine wpAnyH_take (i := 6) (v := ?_) rfl (by kernel_rfl) (by kernel_rfl) (by kernel_rfl) (fun _ _ _ h => h) (Or.inl ⟨by rfl, fun w hSw => ?_⟩) (by assumption) ?_
      rotate_left
      · (try dsimp only at hSw); go_simp; try with_reducible rfl
      simp only [Act.put, List.setIfInBounds_toArray, List.set_cons_zero, List.set_cons_succ, List.getElem_toArray, List.getElem_cons_succ, List.getElem_cons_zero]
      refine wpAnyH_take (i := 7) (v := ?_) rfl (by kernel_rfl) (by kernel_rfl) (by kernel_rfl) (fun _ _ _ h => h) (Or.inl ⟨by rfl, fun w hSw => ?_⟩) (by assumption) ?_
      rotate_left
      · (try dsimp only at hSw); go_simp; try with_reducible rfl
      simp only [Act.put, List.setIfInBounds_toArray, List.set_cons_zero, List.set_cons_succ, List.getElem_toArray, List.getElem_cons_succ, List.getElem_cons_zero]
      refine wpAnyH_ready (rs := [8]) (by kernel_rfl) (by simp) ?_
      refine AllReadyH.cons rfl (fun K hK => ?_) AllReadyH.nil
      simp only [List.getElem_toArray, List.getElem_cons_succ, List.getElem_cons_zero]
      go_simp
      refine (refPut_s z x w2 hnb).mono ?_
      rintro e w3 ⟨a3, n3, c3, rfl, hp3, _, hb3⟩
      have hpos := put_pos (n := x) hwb
      rw [hp3.len] at hpos
      have ho3 := hod.below (Nat.le_refl _) hb3
      have hB3 : Below w.heap.size w w3 := hbd.trans (hb3.mono hsd)
      have hs0 := hB3.size
      have e1 := (hb3.cell (p := ⟨ba, oa + i, none⟩) (Nat.lt_of_lt_of_le hlt hsd)).trans y1
      have e2 := (hb3.cell (p := ⟨bb, ob + i, none⟩) (Nat.lt_of_lt_of_le hltb hsd)).trans y2
      clear hod hbd hb3
      go_wp2_with (fail)
      refine hK.out _ _ ⟨e1, e2⟩ (fun hHeld => ?_)
      clear hK K
      refine wpAnyH_take (i := 9) (v := ?_) rfl (by kernel_rfl) (by kernel_rfl) (by kernel_rfl) (fun _ _ _ h => h) (Or.inl ⟨by rfl, fun w hSw => ?_⟩) (by assumption) ?_
      rotate_left
      · (try dsimp only at hSw); go_simp; try with_reducible rfl
      simp only [Act.put, List.setIfInBounds_toArray, List.set_cons_zero, List.set_cons_succ, List.getElem_toArray, List.getElem_cons_succ, List.getElem_cons_zero]
      refine wpAnyH_done (by kernel_rfl) ?_ _
      clear hHeld e1 e2 y1 y2
      by_cases hn0 : n3 = 0
      · subst hn0
        have hno : Hid (recO k ns = false) := okW_no (i := i) (by rw [← HN.out]; exact hlt2) (by rw [← HX.out, ← HZ.out]; exact hpos.1 rfl)
        clear hpos hp3 ho3
        go_wp2_with (fail)
        go_ret
        exact ⟨none, 0, 0, rfl, by rw [recL, hno.out]; exact Pin.zero _, hB3⟩
      · have hn4 : n3 ≤ 4 := by have := put_le z x; rw [hp3.len] at this; exact this
        have hh : Hid (hasW x z = true) := by
          show _ = _
          cases hq : hasW x z
          · exact absurd (hpos.2 hq) hn0
          · rfl
        have n0 : ¬ (n3 : Int) = 0 := by omega
        obtain ⟨b3, o3, rfl, _, _⟩ := hp3.at (by omega)
        have hp3b := hp3.bys
        clear hpos hp3
        go_wp2_with (at_builtin; go_must (refine wpList_apl rfl (.tmp 30) (.tmp 31) rfl w.heap.size _ s _ rfl ho3 _ n3 c3 _ rfl hp3b (by omega) (by omega) hs0 w hB3 ?_); intro v4 w4 ho4 hB4 _ _)
        go_roundw
        case rel =>
          have e1 := bodyL_snoc k ns i
          rw [← HZ.out, ← HX.out] at e1
          refine ⟨i + 1, s + n3, by omega, ?_, by go_num, by rw [e1]; exact ho4, ?_, hB4⟩
          · have := ho4.len; rw [← e1] at this; exact this.symm
          · rw [okW, HOK.out, ← HX.out, ← HZ.out, hh.out]; rfl
        case measure => simp [intOf]; omega
    · obtain rfl : i = n := by omega
      have hok : recO k ns = true := by rw [recO, ← HN.out]; exact HOK.out
      have hL : recL k ns = padL (bodyL k ns i) 64 := by rw [recL, hok, if_pos rfl, ← HN.out]
      have HL := Lib.hid hL
      clear hok hL
      obtain ⟨ZS, hZS⟩ : ∃ zs, zs = bodyL k ns i := ⟨_, rfl⟩
      rw [← hZS] at ho
      have hZL : Hid (ZS.length = s) := by show _ = _; rw [hZS]; exact HS.out.symm
      have HZS := Lib.hid hZS
      clear hZS
      go_wp2_with (fail)
      go_loopw [7] (fun v wr => PadRel w ZS v wr) (fun v _ => 64 - lenOf v)
      case atStart => exact ⟨s, 0, by rw [hZL.out]; rfl, by omega, by simpa using ho, hb⟩
      case round =>
        clear ho hb hsz
        obtain ⟨m, j, hm, hm64, ho8, hb8⟩ := hrel
        have HK := Lib.hid hm
        clear hm
        obtain ⟨a8, c8, rfl, hp8, _⟩ := ho8.pin
        have hs8 := hb8.size
        by_cases hlt : m < 64
        · go_wp2_with (at_builtin; go_must (refine wpList_ap rfl (.tmp 36) (.tmp 37) rfl w.heap.size _ m _ rfl (ho8.below (Nat.le_refl _) ((Below.refl _ _).alloc (Nat.le_refl _) _)) _ 1 1 [0] rfl (bys_one wr (by omega)) (fun h => by cases h) (by omega) (by simp; omega) w (hb8.alloc hs8 _) ?_); intro v9 w9 ho9 hb9)
          obtain ⟨a9, c9, rfl, hp9, _⟩ := ho9.pin
          go_roundw
          case rel => exact ⟨m + 1, j + 1, by rw [HK.out]; omega, by omega, by rw [← rep_snoc]; exact ho9, hb9⟩
          case measure => simp [lenOf]; omega
        · obtain rfl : m = 64 := by omega
          go_wp2_with (fail)
          go_ret
          refine ⟨_, _, _, rfl, ?_, hb8⟩
          have hj : j = 64 - ZS.length := by have := HK.out; omega
          rw [HL.out, ← HZS.out, padL, ← hj]
          exact hp8

end Go.Proofs.Ytgdkcdgomopnfaa
