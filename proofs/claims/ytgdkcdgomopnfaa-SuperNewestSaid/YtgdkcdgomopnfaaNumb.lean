/-
  The program's numbers, and what they make: a super, a mark, a member.
-/
import Derived.Test.YtgdkcdgomopnfaaBox
namespace Go.Proofs.Ytgdkcdgomopnfaa
open Go.RowKit

theorem posW_bd (k : Int) (i : Nat) (h : i ≤ (wids k).length) : 4 ≤ posW (wids k) i ∧ posW (wids k) i ≤ 4 + 4 * i := by
  induction i with
  | zero => simp [posW]
  | succ i ih =>
    have h1 := ih (by omega)
    have h2 := wids_bd k i (by omega)
    rw [posW]
    omega
/-- The reading loop's relation. -/
def NumRel (k : Int) (x : List Int) (w0 : World) (n : Nat) (u p v : Value) (w : World) : Prop :=
  ∃ i : Nat, i ≤ n ∧ v = .int .i64 i ∧ p = .int .i64 (posW (wids k) i) ∧ OwnI w w0.heap.size u i (numsL x (wids k) i) ∧ Below w0.heap.size w0 w

/-- A slice of numbers of the call's own. -/
def NumPost (w0 : World) (ks : List Int) (e : Ending) (w' : World) : Prop := ∃ a c, e = .returned (.slice a ks.length c) ∧ Ins w' a ks.length ks ∧ Below w0.heap.size w0 w'
set_option maxHeartbeats 2000000 in
theorem numbers_any (k : Int) (a : Option Addr) (n c : Nat) (x : List Int) (w : World) (hk : Kd k) (hx : Bys w a n x) (hn : n ≤ 1000000000000) :
    Calls Try.prog 56 #[.slice a n c, .int .i64 k] w (NumPost w (numsL x (wids k) (wids k).length)) := by
  have HK := Lib.hid hk
  have hl3 := wids_len k
  have HXL := Lib.hid hx.len
  go_enter Try.func56, Try.ntmps56
  go_wp2_with (fail)
  refine (start_any k w HK.out).mono ?_
  rintro e w1 ⟨v1, rfl, ho1, hb1⟩
  have hx1 := hx.next hb1
  obtain ⟨a1, c1, rfl, _, _⟩ := ho1.pin
  clear ho1 hx
  go_wp2_with (fail)
  refine (widths_any k w1 HK.out).mono ?_
  rintro e w2 ⟨aw, cw, rfl, hw2, hcw, hcw2, hnew, hb2⟩
  have hx2 := hx1.next hb2
  have hB2 : Below w.heap.size w w2 := hb1.trans (hb2.mono hb1.size)
  obtain ⟨m, hm⟩ : ∃ m, m = (wids k).length := ⟨_, rfl⟩
  rw [← hm] at hw2 hcw hl3 ⊢
  have HM := Lib.hid hm
  clear hx1 hb1 hb2 hnew hm
  go_wp2_with (fail)
  go_loopw [6, 5, 8, 9, 10, 17] (fun u p _q _r _s v wr => NumRel k x w2 m u p v wr) (fun _ _ _ _ _ v _ => m - (intOf v).toNat)
  case atStart => exact ⟨0, Nat.zero_le _, rfl, rfl, ownI_nil _ _, Below.refl _ _⟩
  case round =>
    obtain ⟨i, hi, rfl, rfl, ho, hb⟩ := hrel
    have hsz := hb.size
    have hw := hw2.next hb
    have hxr := hx2.next hb
    have hpb := posW_bd k i (by rw [← HM.out]; exact hi)
    obtain ⟨p, hp⟩ : ∃ p, p = posW (wids k) i := ⟨_, rfl⟩
    rw [← hp] at hpb ⊢
    have HP := Lib.hid hp
    clear hp
    obtain ⟨au, cu, rfl, _, _, _, _⟩ := ho.ins
    by_cases hlt : i < m
    · obtain ⟨gw, ow, rfl, _, hcw⟩ := hw.at (by omega)
      have y1 := hcw i hlt
      clear hcw
      have hwb := wids_bd k i (by rw [← HM.out]; exact hlt)
      obtain ⟨z, hz⟩ : ∃ z, z = num (wids k) i := ⟨_, rfl⟩
      rw [← hz] at y1 hwb
      have HZ := Lib.hid hz
      clear hz
      have k1 : (i : Int) < (m : Int) := by omega
      go_wp2_with (fail)
      refine (get_fun a n c p z x wr hxr hn).mono ?_
      rintro e w3 ⟨rfl, rfl⟩
      have hB3 : Below w.heap.size w wr := hB2.trans (hb.mono hB2.size)
      have hbl := hb.alloc hsz (.cells #[.int .i64 (getV n x p z)] 3 (0, 0))
      have hol := ho.alloc (.cells #[.int .i64 (getV n x p z)] 3 (0, 0))
      clear hx2 hxr hw hw2 ho
      go_wp2_with (at_builtin; go_must (refine wpList_api rfl (.tmp 28) (.tmp 30) rfl w2.heap.size _ i _ rfl hol wr.heap.size (getV n x p z) rfl (by simp) (by omega) (by simp; omega) w2 hbl ?_); intro v4 w4 ho4 hB4)
      go_roundw
      case rel =>
        refine ⟨i + 1, by omega, by go_num, ?_, ?_, hB4⟩
        · rw [posW, ← HP.out, ← HZ.out]
        · rw [numsL, HXL.out, ← HP.out, ← HZ.out]; exact ho4
      case measure => simp [intOf]; omega
    · obtain rfl : i = m := by omega
      obtain ⟨a6, c6, e6, hi6, _⟩ := ho.ins
      cases e6
      have hL : (numsL x (wids k) i).length = i := numsL_len _ _ _
      have HL := Lib.hid hL
      clear hx2 hxr hw hw2 ho hL
      go_wp2_with (fail)
      go_ret
      rw [← HM.out]
      exact ⟨au, cu, by rw [HL.out]; rfl, by rw [HL.out]; exact hi6, hB2.trans (hb.mono hB2.size)⟩

set_option maxHeartbeats 1000000 in
theorem superOf_any (a : Option Addr) (c : Nat) (d r s : Int) (w : World) (hx : Ins w a 3 [d, r, s]) :
    Calls Try.prog 38 #[.slice a 3 c] w fun e w' => e = .returned (sv d r s) ∧ Below w.heap.size w w' := by
  obtain ⟨b, off, rfl, hlt, hcell⟩ := hx.at (by omega)
  have y1 : w.cell? ⟨b, off, none⟩ = some (.int .i64 d) := hcell 0 (by omega)
  have y2 : w.cell? ⟨b, off + 1, none⟩ = some (.int .i64 r) := hcell 1 (by omega)
  have y3 : w.cell? ⟨b, off + 2, none⟩ = some (.int .i64 s) := hcell 2 (by omega)
  clear hcell hx
  go_enter Try.func38, Try.ntmps38
  go_wp2_with (fail)
  obtain ⟨w1, hw1⟩ : ∃ w1, w1 = w.alloc (.cells #[.int .i64 0, .int .i64 0, .int .i64 0] 25 (0, 0)) := ⟨_, rfl⟩
  have hz : Rc w1.drew w.heap.size := by rw [hw1]; exact (Rc.mk' w _).drew
  have hB1 : Below w.heap.size w w1.drew := by rw [hw1]; exact below_drewN (bel_a1 w _) 1
  have x1 : w1.drew.cell? ⟨b, off, none⟩ = some (.int .i64 d) := (hB1.cell (p := ⟨b, off, none⟩) hlt).trans y1
  have x2 : w1.drew.cell? ⟨b, off + 1, none⟩ = some (.int .i64 r) := (hB1.cell (p := ⟨b, off + 1, none⟩) hlt).trans y2
  have x3 : w1.drew.cell? ⟨b, off + 2, none⟩ = some (.int .i64 s) := (hB1.cell (p := ⟨b, off + 2, none⟩) hlt).trans y3
  rw [← hw1]
  clear hw1 y1 y2 y3
  refine wp_region_held_drew (S := (fun w' => w'.cell? ⟨b, off, none⟩ = some (.int .i64 d) ∧ w'.cell? ⟨b, off + 1, none⟩ = some (.int .i64 r) ∧ w'.cell? ⟨b, off + 2, none⟩ = some (.int .i64 s))) (by kernel_rfl) ?_ (fun hHeld => ?_)
  · exact ⟨x1, x2, x3⟩
  generalize hw2 : w1.drew = w2 at *
  clear hw2
  refine wpAnyH_take (i := 0) (v := ?_) rfl (by kernel_rfl) (by kernel_rfl) (by kernel_rfl) (fun _ _ _ h => h) (Or.inl ⟨by rfl, fun w hSw => ?_⟩) (by assumption) ?_
  rotate_left
  · (try dsimp only at hSw); go_simp; try with_reducible rfl
  simp only [Act.put, List.setIfInBounds_toArray, List.set_cons_zero, List.set_cons_succ, List.getElem_toArray, List.getElem_cons_zero]
  refine wpAnyH_take (i := 1) (v := ?_) rfl (by kernel_rfl) (by kernel_rfl) (by kernel_rfl) (fun _ _ _ h => h) (Or.inl ⟨by rfl, fun w hSw => ?_⟩) (by assumption) ?_
  rotate_left
  · (try dsimp only at hSw); go_simp; try with_reducible rfl
  simp only [Act.put, List.setIfInBounds_toArray, List.set_cons_zero, List.set_cons_succ, List.getElem_toArray, List.getElem_cons_succ, List.getElem_cons_zero]
  refine wpAnyH_take (i := 2) (v := ?_) rfl (by kernel_rfl) (by kernel_rfl) (by kernel_rfl) (fun _ _ _ h => h) (Or.inl ⟨by rfl, fun w hSw => ?_⟩) (by assumption) ?_
  rotate_left
  · (try dsimp only at hSw); go_simp; try with_reducible rfl
  simp only [Act.put, List.setIfInBounds_toArray, List.set_cons_zero, List.set_cons_succ, List.getElem_toArray, List.getElem_cons_succ, List.getElem_cons_zero]
  refine wpAnyH_take (i := 3) (v := ?_) rfl (by kernel_rfl) (by kernel_rfl) (by kernel_rfl) (fun _ _ _ h => h) (Or.inl ⟨by rfl, fun w hSw => ?_⟩) (by assumption) ?_
  rotate_left
  · (try dsimp only at hSw); go_simp; try with_reducible rfl
  simp only [Act.put, List.setIfInBounds_toArray, List.set_cons_zero, List.set_cons_succ, List.getElem_toArray, List.getElem_cons_succ, List.getElem_cons_zero]
  refine wpAnyH_take (i := 4) (v := ?_) rfl (by kernel_rfl) (by kernel_rfl) (by kernel_rfl) (fun _ _ _ h => h) (Or.inl ⟨by rfl, fun w hSw => ?_⟩) (by assumption) ?_
  rotate_left
  · (try dsimp only at hSw); go_simp; try with_reducible rfl
  simp only [Act.put, List.setIfInBounds_toArray, List.set_cons_zero, List.set_cons_succ, List.getElem_toArray, List.getElem_cons_succ, List.getElem_cons_zero]
  refine wpAnyH_take (i := 5) (v := ?_) rfl (by kernel_rfl) (by kernel_rfl) (by kernel_rfl) (fun _ _ _ h => h) (Or.inl ⟨by rfl, fun w hSw => ?_⟩) (by assumption) ?_
  rotate_left
  · (try dsimp only at hSw); go_simp; try with_reducible rfl
  simp only [Act.put, List.setIfInBounds_toArray, List.set_cons_zero, List.set_cons_succ, List.getElem_toArray, List.getElem_cons_succ, List.getElem_cons_zero]
  refine wpAnyH_take (i := 6) (v := ?_) rfl (by kernel_rfl) (by kernel_rfl) (by kernel_rfl) (fun _ _ _ h => h) (Or.inl ⟨by rfl, fun w hSw => ?_⟩) (by assumption) ?_
  rotate_left
  · (try dsimp only at hSw); go_simp; try with_reducible rfl
  simp only [Act.put, List.setIfInBounds_toArray, List.set_cons_zero, List.set_cons_succ, List.getElem_toArray, List.getElem_cons_succ, List.getElem_cons_zero]
  refine wpAnyH_take (i := 7) (v := ?_) rfl (by kernel_rfl) (by kernel_rfl) (by kernel_rfl) (fun _ _ _ h => h) (Or.inl ⟨by rfl, fun w hSw => ?_⟩) (by assumption) ?_
  rotate_left
  · (try dsimp only at hSw); go_simp; try with_reducible rfl
  simp only [Act.put, List.setIfInBounds_toArray, List.set_cons_zero, List.set_cons_succ, List.getElem_toArray, List.getElem_cons_succ, List.getElem_cons_zero]
  refine wpAnyH_take (i := 8) (v := ?_) rfl (by kernel_rfl) (by kernel_rfl) (by kernel_rfl) (fun _ _ _ h => h) (Or.inl ⟨by rfl, fun w hSw => ?_⟩) (by assumption) ?_
  rotate_left
  · (try dsimp only at hSw); go_simp; try with_reducible rfl
  simp only [Act.put, List.setIfInBounds_toArray, List.set_cons_zero, List.set_cons_succ, List.getElem_toArray, List.getElem_cons_succ, List.getElem_cons_zero]
  refine wpAnyH_take (i := 9) (v := ?_) rfl (by kernel_rfl) (by kernel_rfl) (by kernel_rfl) (fun _ _ _ h => h) (Or.inl ⟨by rfl, fun w hSw => ?_⟩) (by assumption) ?_
  rotate_left
  · (try dsimp only at hSw); go_simp; try with_reducible rfl
  simp only [Act.put, List.setIfInBounds_toArray, List.set_cons_zero, List.set_cons_succ, List.getElem_toArray, List.getElem_cons_succ, List.getElem_cons_zero]
  refine wpAnyH_take (i := 10) (v := ?_) rfl (by kernel_rfl) (by kernel_rfl) (by kernel_rfl) (fun _ _ _ h => h) (Or.inl ⟨by rfl, fun w hSw => ?_⟩) (by assumption) ?_
  rotate_left
  · (try dsimp only at hSw); go_simp; try with_reducible rfl
  simp only [Act.put, List.setIfInBounds_toArray, List.set_cons_zero, List.set_cons_succ, List.getElem_toArray, List.getElem_cons_succ, List.getElem_cons_zero]
  obtain ⟨v0, z0⟩ := hz.c0
  obtain ⟨v1, z1⟩ := hz.c1
  obtain ⟨v2, z2⟩ := hz.c2
  have f0 := hz.f0
  have f1 := hz.f1
  have f2 := hz.f2
  refine wpAnyH_ready (rs := [11]) (by kernel_rfl) (by simp) ?_
  refine AllReadyH.cons rfl (fun K hK => ?_) AllReadyH.nil
  simp only [List.getElem_toArray, List.getElem_cons_succ, List.getElem_cons_zero]
  go_simp
  have hr4 : Bx (setH w2 w.heap.size d r s) w.heap.size d r s := hz.set d r s
  have hne : ∀ k, w.heap.size ≠ (⟨b, k, none⟩ : Addr).block := fun k e => by simp only [] at e; omega
  refine hK.out _ (setH w2 w.heap.size d r s) ⟨(setH_other d r s (hne _)).trans x1, (setH_other d r s (hne _)).trans x2, (setH_other d r s (hne _)).trans x3⟩ (fun hHeld => ?_)
  clear hK K
  have hB4 : Below w.heap.size w (setH w2 w.heap.size d r s) := hB1.setH (Nat.le_refl _)
  obtain ⟨w4, hw4⟩ : ∃ w4, w4 = setH w2 w.heap.size d r s := ⟨_, rfl⟩
  rw [← hw4] at hr4 hB4 hHeld ⊢
  clear hw4
  refine wpAnyH_done (by kernel_rfl) ?_ _
  go_wp2_with (fail)
  have g0 := hr4.c0
  have g1 := hr4.c1
  have g2 := hr4.c2
  exact bodyPost_ret (v := sv d r s) (by simp [results, Try.results38, go_sem, g0, g1, g2]) rfl ⟨rfl, hB4⟩
set_option maxHeartbeats 1000000 in
theorem memberOf_any (a : Option Addr) (c : Nat) (d r s : Int) (w : World) (hx : Ins w a 3 [d, r, s]) :
    Calls Try.prog 43 #[.slice a 3 c] w fun e w' => e = .returned (bv d r s) ∧ Below w.heap.size w w' := by
  obtain ⟨b, off, rfl, hlt, hcell⟩ := hx.at (by omega)
  have y1 : w.cell? ⟨b, off, none⟩ = some (.int .i64 d) := hcell 0 (by omega)
  have y2 : w.cell? ⟨b, off + 1, none⟩ = some (.int .i64 r) := hcell 1 (by omega)
  have y3 : w.cell? ⟨b, off + 2, none⟩ = some (.int .i64 s) := hcell 2 (by omega)
  clear hcell hx
  go_enter Try.func43, Try.ntmps43
  go_wp2_with (fail)
  obtain ⟨w1, hw1⟩ : ∃ w1, w1 = w.alloc (.cells #[.int .i64 0, .int .i64 0, .int .i64 0] 29 (0, 0)) := ⟨_, rfl⟩
  have hz : Rc w1.drew w.heap.size := by rw [hw1]; exact (Rc.mk' w _).drew
  have hB1 : Below w.heap.size w w1.drew := by rw [hw1]; exact below_drewN (bel_a1 w _) 1
  have x1 : w1.drew.cell? ⟨b, off, none⟩ = some (.int .i64 d) := (hB1.cell (p := ⟨b, off, none⟩) hlt).trans y1
  have x2 : w1.drew.cell? ⟨b, off + 1, none⟩ = some (.int .i64 r) := (hB1.cell (p := ⟨b, off + 1, none⟩) hlt).trans y2
  have x3 : w1.drew.cell? ⟨b, off + 2, none⟩ = some (.int .i64 s) := (hB1.cell (p := ⟨b, off + 2, none⟩) hlt).trans y3
  rw [← hw1]
  clear hw1 y1 y2 y3
  refine wp_region_held_drew (S := (fun w' => w'.cell? ⟨b, off, none⟩ = some (.int .i64 d) ∧ w'.cell? ⟨b, off + 1, none⟩ = some (.int .i64 r) ∧ w'.cell? ⟨b, off + 2, none⟩ = some (.int .i64 s))) (by kernel_rfl) ?_ (fun hHeld => ?_)
  · exact ⟨x1, x2, x3⟩
  generalize hw2 : w1.drew = w2 at *
  clear hw2
  refine wpAnyH_take (i := 0) (v := ?_) rfl (by kernel_rfl) (by kernel_rfl) (by kernel_rfl) (fun _ _ _ h => h) (Or.inl ⟨by rfl, fun w hSw => ?_⟩) (by assumption) ?_
  rotate_left
  · (try dsimp only at hSw); go_simp; try with_reducible rfl
  simp only [Act.put, List.setIfInBounds_toArray, List.set_cons_zero, List.set_cons_succ, List.getElem_toArray, List.getElem_cons_zero]
  refine wpAnyH_take (i := 1) (v := ?_) rfl (by kernel_rfl) (by kernel_rfl) (by kernel_rfl) (fun _ _ _ h => h) (Or.inl ⟨by rfl, fun w hSw => ?_⟩) (by assumption) ?_
  rotate_left
  · (try dsimp only at hSw); go_simp; try with_reducible rfl
  simp only [Act.put, List.setIfInBounds_toArray, List.set_cons_zero, List.set_cons_succ, List.getElem_toArray, List.getElem_cons_succ, List.getElem_cons_zero]
  refine wpAnyH_take (i := 2) (v := ?_) rfl (by kernel_rfl) (by kernel_rfl) (by kernel_rfl) (fun _ _ _ h => h) (Or.inl ⟨by rfl, fun w hSw => ?_⟩) (by assumption) ?_
  rotate_left
  · (try dsimp only at hSw); go_simp; try with_reducible rfl
  simp only [Act.put, List.setIfInBounds_toArray, List.set_cons_zero, List.set_cons_succ, List.getElem_toArray, List.getElem_cons_succ, List.getElem_cons_zero]
  refine wpAnyH_take (i := 3) (v := ?_) rfl (by kernel_rfl) (by kernel_rfl) (by kernel_rfl) (fun _ _ _ h => h) (Or.inl ⟨by rfl, fun w hSw => ?_⟩) (by assumption) ?_
  rotate_left
  · (try dsimp only at hSw); go_simp; try with_reducible rfl
  simp only [Act.put, List.setIfInBounds_toArray, List.set_cons_zero, List.set_cons_succ, List.getElem_toArray, List.getElem_cons_succ, List.getElem_cons_zero]
  refine wpAnyH_take (i := 4) (v := ?_) rfl (by kernel_rfl) (by kernel_rfl) (by kernel_rfl) (fun _ _ _ h => h) (Or.inl ⟨by rfl, fun w hSw => ?_⟩) (by assumption) ?_
  rotate_left
  · (try dsimp only at hSw); go_simp; try with_reducible rfl
  simp only [Act.put, List.setIfInBounds_toArray, List.set_cons_zero, List.set_cons_succ, List.getElem_toArray, List.getElem_cons_succ, List.getElem_cons_zero]
  refine wpAnyH_take (i := 5) (v := ?_) rfl (by kernel_rfl) (by kernel_rfl) (by kernel_rfl) (fun _ _ _ h => h) (Or.inl ⟨by rfl, fun w hSw => ?_⟩) (by assumption) ?_
  rotate_left
  · (try dsimp only at hSw); go_simp; try with_reducible rfl
  simp only [Act.put, List.setIfInBounds_toArray, List.set_cons_zero, List.set_cons_succ, List.getElem_toArray, List.getElem_cons_succ, List.getElem_cons_zero]
  refine wpAnyH_take (i := 6) (v := ?_) rfl (by kernel_rfl) (by kernel_rfl) (by kernel_rfl) (fun _ _ _ h => h) (Or.inl ⟨by rfl, fun w hSw => ?_⟩) (by assumption) ?_
  rotate_left
  · (try dsimp only at hSw); go_simp; try with_reducible rfl
  simp only [Act.put, List.setIfInBounds_toArray, List.set_cons_zero, List.set_cons_succ, List.getElem_toArray, List.getElem_cons_succ, List.getElem_cons_zero]
  refine wpAnyH_take (i := 7) (v := ?_) rfl (by kernel_rfl) (by kernel_rfl) (by kernel_rfl) (fun _ _ _ h => h) (Or.inl ⟨by rfl, fun w hSw => ?_⟩) (by assumption) ?_
  rotate_left
  · (try dsimp only at hSw); go_simp; try with_reducible rfl
  simp only [Act.put, List.setIfInBounds_toArray, List.set_cons_zero, List.set_cons_succ, List.getElem_toArray, List.getElem_cons_succ, List.getElem_cons_zero]
  refine wpAnyH_take (i := 8) (v := ?_) rfl (by kernel_rfl) (by kernel_rfl) (by kernel_rfl) (fun _ _ _ h => h) (Or.inl ⟨by rfl, fun w hSw => ?_⟩) (by assumption) ?_
  rotate_left
  · (try dsimp only at hSw); go_simp; try with_reducible rfl
  simp only [Act.put, List.setIfInBounds_toArray, List.set_cons_zero, List.set_cons_succ, List.getElem_toArray, List.getElem_cons_succ, List.getElem_cons_zero]
  refine wpAnyH_take (i := 9) (v := ?_) rfl (by kernel_rfl) (by kernel_rfl) (by kernel_rfl) (fun _ _ _ h => h) (Or.inl ⟨by rfl, fun w hSw => ?_⟩) (by assumption) ?_
  rotate_left
  · (try dsimp only at hSw); go_simp; try with_reducible rfl
  simp only [Act.put, List.setIfInBounds_toArray, List.set_cons_zero, List.set_cons_succ, List.getElem_toArray, List.getElem_cons_succ, List.getElem_cons_zero]
  obtain ⟨v0, z0⟩ := hz.c0
  obtain ⟨v1, z1⟩ := hz.c1
  obtain ⟨v2, z2⟩ := hz.c2
  have f0 := hz.f0
  have f1 := hz.f1
  have f2 := hz.f2
  refine wpAnyH_ready (rs := [10]) (by kernel_rfl) (by simp) ?_
  refine AllReadyH.cons rfl (fun K hK => ?_) AllReadyH.nil
  simp only [List.getElem_toArray, List.getElem_cons_succ, List.getElem_cons_zero]
  go_simp
  have hr4 : Bx (setH w2 w.heap.size d r s) w.heap.size d r s := hz.set d r s
  have hne : ∀ k, w.heap.size ≠ (⟨b, k, none⟩ : Addr).block := fun k e => by simp only [] at e; omega
  refine hK.out _ (setH w2 w.heap.size d r s) ⟨(setH_other d r s (hne _)).trans x1, (setH_other d r s (hne _)).trans x2, (setH_other d r s (hne _)).trans x3⟩ (fun hHeld => ?_)
  clear hK K
  have hB4 : Below w.heap.size w (setH w2 w.heap.size d r s) := hB1.setH (Nat.le_refl _)
  obtain ⟨w4, hw4⟩ : ∃ w4, w4 = setH w2 w.heap.size d r s := ⟨_, rfl⟩
  rw [← hw4] at hr4 hB4 hHeld ⊢
  clear hw4
  refine wpAnyH_done (by kernel_rfl) ?_ _
  go_wp2_with (fail)
  have g0 := hr4.c0
  have g1 := hr4.c1
  have g2 := hr4.c2
  exact bodyPost_ret (v := bv d r s) (by simp [results, Try.results43, go_sem, g0, g1, g2]) rfl ⟨rfl, hB4⟩
theorem markOf_any (a : Option Addr) (c : Nat) (s : Int) (w : World) (hx : Ins w a 1 [s]) :
    Calls Try.prog 41 #[.slice a 1 c] w fun e w' => e = .returned (mv s) ∧ Below w.heap.size w w' := by
  obtain ⟨b, off, rfl, hlt, hcell⟩ := hx.at (by omega)
  have y1 : w.cell? ⟨b, off, none⟩ = some (.int .i64 s) := hcell 0 (by omega)
  clear hcell hx
  go_enter Try.func41, Try.ntmps41
  go_wp2_with (fail)
  exact bodyPost_ret (v := mv s) (by simp [results, Try.results41, go_sem]) rfl ⟨rfl, bel_a1 w _⟩
end Go.Proofs.Ytgdkcdgomopnfaa
