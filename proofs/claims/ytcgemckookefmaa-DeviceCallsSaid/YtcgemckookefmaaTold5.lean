/-
  The law's 'told': a Write that the racks answer unlike.
-/
import Derived.Test.YtcgemckookefmaaTold4
namespace Go.Proofs.Ytcgemckookefmaa
open Go.RowKit Go.Maps

set_option maxRecDepth 100000 in
set_option maxHeartbeats 2000000 in
theorem told_write_un (L : Lay) (K : RLay) (R : Rk) (F : Rf) (w : World) (i n : Int) (v4 : Value) (a3 : Option Addr) (y3 : Nat) (zs : List Int) (h : Both w L K R F) (l4 : ∃ a x y, v4 = .slice a x y)
    (hz : Bys w a3 zs.length zs) (hnil : a3 = none → zs.length = 0 ∧ y3 = 0) (hzM : zs.length = 0 ∨ ∀ b off, a3 = some ⟨b, off, none⟩ → ¬ BothM L K R b) (hzl : zs.length ≤ 1000000000000) (hxr : R.wrE i n zs = 13) (hxf' : F.wrE i n zs = 0) :
    Calls Try.prog 13 #[.pointer (some ⟨L.p, 0, none⟩), .pointer (some ⟨K.p, 0, none⟩), .agg #[.int .i64 1, .int .i64 i, .int .i64 n, .slice a3 zs.length y3, v4]] w (ToldPost L K R (R.wr i n zs) (F.wr i n zs) (R.wrE i n zs == F.wrE i n zs) w) := by
  obtain ⟨a4, x4, y4, rfl⟩ := l4
  obtain ⟨x3, hx3⟩ : ∃ x, zs.length = x := ⟨_, rfl⟩
  rw [hx3] at hz hnil hzl hzM ⊢
  obtain ⟨wb, hwb, hbs, hp, hd, hB, hT0, hT, nL, nK, hq, hqd⟩ := box h #[.int .i64 1, .int .i64 i, .int .i64 n, .slice a3 x3 y3, .slice a4 x4 y4] 40
  have r1 := hq 1 (.int .i64 i) rfl
  have r2 := hq 2 (.int .i64 n) rfl
  have r3 := hq 3 (.slice a3 x3 y3) rfl
  clear hq hqd
  have hzb : Bys wb a3 x3 zs := hz.next hB
  go_enter Try.func13, Try.ntmps13
  go_wp2_with (fail)
  rw [← hwb]
  clear hwb
  with_reducible refine (copy_any a3 x3 y3 zs wb hzb hnil hzl).mono ?_
  rintro e w1 ⟨v1, rfl, hown, hb1⟩
  obtain ⟨a5, c5, rfl, hn5, hy5, hl5⟩ := hown.form
  have b1 := hp.below hb1
  have bd : Both w1.drew L K R F := b1.below ⟨rfl, rfl, rfl, Nat.le_refl _, fun _ _ => rfl⟩
  have h1s : w.heap.size < w1.drew.heap.size := by show w.heap.size < w1.heap.size; have := hb1.size; omega
  have g1 : w1.drew.cell? ⟨w.heap.size, 1, none⟩ = some (.int .i64 i) := (hb1.cell (p := ⟨w.heap.size, 1, none⟩) (by show w.heap.size < wb.heap.size; omega)).trans r1
  have g2 : w1.drew.cell? ⟨w.heap.size, 2, none⟩ = some (.int .i64 n) := (hb1.cell (p := ⟨w.heap.size, 2, none⟩) (by show w.heap.size < wb.heap.size; omega)).trans r2
  have g3 : w1.drew.cell? ⟨w.heap.size, 3, none⟩ = some (.slice a3 x3 y3) := (hb1.cell (p := ⟨w.heap.size, 3, none⟩) (by show w.heap.size < wb.heap.size; omega)).trans r3
  have hz1 : Bys w1.drew a3 x3 zs := by have := hzb.next hb1; exact ⟨this.len, this.small, this.place⟩
  have hy1 : Bys w1.drew a5 x3 zs := ⟨hy5.len, hy5.small, hy5.place⟩
  have h5M : ∀ b off, a5 = some ⟨b, off, none⟩ → ¬ BothM L K R b := fun b off e x => by
    have h1 := (hl5 _ e).1
    have h2 := hp.rk.low b x
    exact Nat.lt_irrefl _ (Nat.lt_of_lt_of_le h2 h1)
  have hTd : Turn (BothM L K R) w w1.drew := (hT0.trans (Turn.of_below hb1)).trans (turn_drew _ _)
  clear hown hb1 hy5 hzb hz r1 r2 r3 hp hd b1
  have hxf := Lib.hid hxf'
  have hxr' := Lib.hid hxr
  clear hxf'
  have hW := write_all i n a5 x3 c5 zs bd.rk hy1 h5M
  rw [hxr] at hW
  clear hxr
  go_wp2_with (fail)
  refine wp_region_held_drew (S := (fun w' => w'.cell? ⟨w.heap.size, 1, none⟩ = some (.int .i64 i) ∧ w'.cell? ⟨w.heap.size, 2, none⟩ = some (.int .i64 n) ∧ w'.cell? ⟨w.heap.size, 3, none⟩ = some (.slice a3 x3 y3))) (by kernel_rfl) ?_ (fun hHeld => ?_)
  · exact ⟨g1, g2, g3⟩
  refine wpAnyH_take (i := 0) (v := ?_) rfl (by kernel_rfl) (by kernel_rfl) (by kernel_rfl) (fun _ _ _ h => h) (Or.inl ⟨by rfl, fun w hSw => ?_⟩) (by assumption) ?_
  rotate_left
  · (try dsimp only at hSw); go_simp; try with_reducible rfl
  simp only [Act.put, List.setIfInBounds_toArray, List.set_cons_zero, List.set_cons_succ, List.getElem_toArray, List.getElem_cons_zero]
  refine wpAnyH_take (i := 1) (v := ?_) rfl (by kernel_rfl) (by kernel_rfl) (by kernel_rfl) (fun _ _ _ h => h) (Or.inl ⟨by rfl, fun w hSw => ?_⟩) (by assumption) ?_
  rotate_left
  · (try dsimp only at hSw); go_simp; try with_reducible rfl
  simp only [Act.put, List.setIfInBounds_toArray, List.set_cons_zero, List.set_cons_succ, List.getElem_toArray, List.getElem_cons_succ, List.getElem_cons_zero]
  refine wpAnyH_take (i := 2) (v := ?_) rfl (by kernel_rfl) (by kernel_rfl) (by kernel_rfl) (fun _ _ _ h => h) (Or.inl ⟨by rfl, fun w hSw => ?_⟩) (by assumption) ?_
  rotate_left
  · (try dsimp only at hSw); go_simp; try with_reducible rfl
  simp only [Act.put, List.setIfInBounds_toArray, List.set_cons_zero, List.set_cons_succ, List.getElem_toArray, List.getElem_cons_succ, List.getElem_cons_zero]
  refine wpAnyH_take (i := 3) (v := ?_) rfl (by kernel_rfl) (by kernel_rfl) (by kernel_rfl) (fun _ _ _ h => h) (Or.inl ⟨by rfl, fun w hSw => ?_⟩) (by assumption) ?_
  rotate_left
  · (try dsimp only at hSw); go_simp; try with_reducible rfl
  simp only [Act.put, List.setIfInBounds_toArray, List.set_cons_zero, List.set_cons_succ, List.getElem_toArray, List.getElem_cons_succ, List.getElem_cons_zero]
  refine wpAnyH_take (i := 4) (v := ?_) rfl (by kernel_rfl) (by kernel_rfl) (by kernel_rfl) (fun _ _ _ h => h) (Or.inl ⟨by rfl, fun w hSw => ?_⟩) (by assumption) ?_
  rotate_left
  · (try dsimp only at hSw); go_simp; try with_reducible rfl
  simp only [Act.put, List.setIfInBounds_toArray, List.set_cons_zero, List.set_cons_succ, List.getElem_toArray, List.getElem_cons_succ, List.getElem_cons_zero]
  refine wpAnyH_take (i := 5) (v := ?_) rfl (by kernel_rfl) (by kernel_rfl) (by kernel_rfl) (fun _ _ _ h => h) (Or.inl ⟨by rfl, fun w hSw => ?_⟩) (by assumption) ?_
  rotate_left
  · (try dsimp only at hSw); go_simp; try with_reducible rfl
  simp only [Act.put, List.setIfInBounds_toArray, List.set_cons_zero, List.set_cons_succ, List.getElem_toArray, List.getElem_cons_succ, List.getElem_cons_zero]
  refine wpAnyH_take (i := 7) (v := ?_) rfl (by kernel_rfl) (by kernel_rfl) (by kernel_rfl) (fun _ _ _ h => h) (Or.inl ⟨by rfl, fun w hSw => ?_⟩) (by assumption) ?_
  rotate_left
  · (try dsimp only at hSw); go_simp; try with_reducible rfl
  simp only [Act.put, List.setIfInBounds_toArray, List.set_cons_zero, List.set_cons_succ, List.getElem_toArray, List.getElem_cons_succ, List.getElem_cons_zero]
  refine wpAnyH_take (i := 8) (v := ?_) rfl (by kernel_rfl) (by kernel_rfl) (by kernel_rfl) (fun _ _ _ h => h) (Or.inl ⟨by rfl, fun w hSw => ?_⟩) (by assumption) ?_
  rotate_left
  · (try dsimp only at hSw); go_simp; try with_reducible rfl
  simp only [Act.put, List.setIfInBounds_toArray, List.set_cons_zero, List.set_cons_succ, List.getElem_toArray, List.getElem_cons_succ, List.getElem_cons_zero]
  refine wpAnyH_take (i := 9) (v := ?_) rfl (by kernel_rfl) (by kernel_rfl) (by kernel_rfl) (fun _ _ _ h => h) (Or.inl ⟨by rfl, fun w hSw => ?_⟩) (by assumption) ?_
  rotate_left
  · (try dsimp only at hSw); go_simp; try with_reducible rfl
  simp only [Act.put, List.setIfInBounds_toArray, List.set_cons_zero, List.set_cons_succ, List.getElem_toArray, List.getElem_cons_succ, List.getElem_cons_zero]
  refine wpAnyH_take (i := 10) (v := ?_) rfl (by kernel_rfl) (by kernel_rfl) (by kernel_rfl) (fun _ _ _ h => h) (Or.inl ⟨by rfl, fun w hSw => ?_⟩) (by assumption) ?_
  rotate_left
  · (try dsimp only at hSw); go_simp; try with_reducible rfl
  simp only [Act.put, List.setIfInBounds_toArray, List.set_cons_zero, List.set_cons_succ, List.getElem_toArray, List.getElem_cons_succ, List.getElem_cons_zero]
  refine wpAnyH_take (i := 11) (v := ?_) rfl (by kernel_rfl) (by kernel_rfl) (by kernel_rfl) (fun _ _ _ h => h) (Or.inl ⟨by rfl, fun w hSw => ?_⟩) (by assumption) ?_
  rotate_left
  · (try dsimp only at hSw); go_simp; try with_reducible rfl
  simp only [Act.put, List.setIfInBounds_toArray, List.set_cons_zero, List.set_cons_succ, List.getElem_toArray, List.getElem_cons_succ, List.getElem_cons_zero]
  refine wpAnyH_take (i := 12) (v := ?_) rfl (by kernel_rfl) (by kernel_rfl) (by kernel_rfl) (fun _ _ _ h => h) (Or.inl ⟨by rfl, fun w hSw => ?_⟩) (by assumption) ?_
  rotate_left
  · (try dsimp only at hSw); go_simp; try with_reducible rfl
  simp only [Act.put, List.setIfInBounds_toArray, List.set_cons_zero, List.set_cons_succ, List.getElem_toArray, List.getElem_cons_succ, List.getElem_cons_zero]
  refine wpAnyH_take (i := 13) (v := ?_) rfl (by kernel_rfl) (by kernel_rfl) (by kernel_rfl) (fun _ _ _ h => h) (Or.inl ⟨by rfl, fun w hSw => ?_⟩) (by assumption) ?_
  rotate_left
  · (try dsimp only at hSw); go_simp; try with_reducible rfl
  simp only [Act.put, List.setIfInBounds_toArray, List.set_cons_zero, List.set_cons_succ, List.getElem_toArray, List.getElem_cons_succ, List.getElem_cons_zero]
  refine wpAnyH_ready (rs := [6]) (by kernel_rfl) (by simp) ?_
  refine AllReadyH.cons rfl (fun K hK => ?_) AllReadyH.nil
  simp only [List.getElem_toArray, List.getElem_cons_succ, List.getElem_cons_zero]
  go_simp
  refine hW.mono ?_
  rintro e w2 ⟨rfl, hr2, ht2⟩
  have b2 := bd.rack (R.wr_n i n zs) hr2 ht2
  have h2s : w.heap.size < w2.heap.size := Nat.lt_of_lt_of_le h1s ht2.size
  have k1 := (ht2.cell (a := ⟨w.heap.size, 1, none⟩) h1s nL).trans g1
  have k2 := (ht2.cell (a := ⟨w.heap.size, 2, none⟩) h1s nL).trans g2
  have k3 := (ht2.cell (a := ⟨w.heap.size, 3, none⟩) h1s nL).trans g3
  have hz2 : Bys w2 a3 x3 zs := bys_turn0 hz1 ht2 (hzM.imp_right fun f b off e x => f b off e (.inl x))
  go_wp2_with (fail)
  refine hK.out _ _ ⟨k1, k2, k3⟩ (fun hHeld => ?_)
  clear hK K
  refine wpAnyH_ready (rs := [14]) (by kernel_rfl) (by simp) ?_
  refine AllReadyH.cons rfl (fun K hK => ?_) AllReadyH.nil
  simp only [List.getElem_toArray, List.getElem_cons_succ, List.getElem_cons_zero]
  go_simp
  refine (rwrite_all i n a3 x3 y3 zs b2.rf hz2 (hzM.imp_right fun f b off e x => f b off e (by rwa [R.wr_n i n zs] at x))).mono ?_
  rintro e w3 ⟨rfl, hr3, ht3⟩
  have b3 := b2.ref hr3 ht3
  have m1 := (ht3.cell (a := ⟨w.heap.size, 1, none⟩) h2s nK).trans k1
  have m2 := (ht3.cell (a := ⟨w.heap.size, 2, none⟩) h2s nK).trans k2
  have m3 := (ht3.cell (a := ⟨w.heap.size, 3, none⟩) h2s nK).trans k3
  rw [hxf.out]
  go_wp2_with (fail)
  refine hK.out _ _ ⟨m1, m2, m3⟩ (fun hHeld => ?_)
  clear hK K
  refine wpAnyH_take (i := 15) (v := ?_) rfl (by kernel_rfl) (by kernel_rfl) (by kernel_rfl) (fun _ _ _ h => h) (Or.inl ⟨by rfl, fun w hSw => ?_⟩) (by assumption) ?_
  rotate_left
  · (try dsimp only at hSw); go_simp; try with_reducible rfl
  simp only [Act.put, List.setIfInBounds_toArray, List.set_cons_zero, List.set_cons_succ, List.getElem_toArray, List.getElem_cons_succ, List.getElem_cons_zero]
  refine wpAnyH_take (i := 16) (v := ?_) rfl (by kernel_rfl) (by kernel_rfl) (by kernel_rfl) (fun _ _ _ h => h) (Or.inl ⟨by rfl, fun w hSw => ?_⟩) (by assumption) ?_
  rotate_left
  · (try dsimp only at hSw); go_simp; try with_reducible rfl
  simp only [Act.put, List.setIfInBounds_toArray, List.set_cons_zero, List.set_cons_succ, List.getElem_toArray, List.getElem_cons_succ, List.getElem_cons_zero]
  refine wpAnyH_take (i := 17) (v := undef) rfl (by kernel_rfl) (by kernel_rfl) (by kernel_rfl) (fun _ _ _ h => h) (Or.inr ⟨by rfl, rfl⟩) (by assumption) ?_
  simp only [Act.put, List.setIfInBounds_toArray, List.set_cons_zero, List.set_cons_succ, List.getElem_toArray, List.getElem_cons_succ, List.getElem_cons_zero]
  refine wpAnyH_take (i := 18) (v := undef) rfl (by kernel_rfl) (by kernel_rfl) (by kernel_rfl) (fun _ _ _ h => h) (Or.inr ⟨by rfl, rfl⟩) (by assumption) ?_
  simp only [Act.put, List.setIfInBounds_toArray, List.set_cons_zero, List.set_cons_succ, List.getElem_toArray, List.getElem_cons_succ, List.getElem_cons_zero]
  refine wpAnyH_take (i := 19) (v := undef) rfl (by kernel_rfl) (by kernel_rfl) (by kernel_rfl) (fun _ _ _ h => h) (Or.inr ⟨by rfl, rfl⟩) (by assumption) ?_
  simp only [Act.put, List.setIfInBounds_toArray, List.set_cons_zero, List.set_cons_succ, List.getElem_toArray, List.getElem_cons_succ, List.getElem_cons_zero]
  refine wpAnyH_take (i := 20) (v := undef) rfl (by kernel_rfl) (by kernel_rfl) (by kernel_rfl) (fun _ _ _ h => h) (Or.inr ⟨by rfl, rfl⟩) (by assumption) ?_
  simp only [Act.put, List.setIfInBounds_toArray, List.set_cons_zero, List.set_cons_succ, List.getElem_toArray, List.getElem_cons_succ, List.getElem_cons_zero]
  refine wpAnyH_take (i := 21) (v := ?_) rfl (by kernel_rfl) (by kernel_rfl) (by kernel_rfl) (fun _ _ _ h => h) (Or.inl ⟨by rfl, fun w hSw => ?_⟩) (by assumption) ?_
  rotate_left
  · (try dsimp only at hSw); go_simp; try with_reducible rfl
  simp only [Act.put, List.setIfInBounds_toArray, List.set_cons_zero, List.set_cons_succ, List.getElem_toArray, List.getElem_cons_succ, List.getElem_cons_zero]
  refine wpAnyH_take (i := 22) (v := ?_) rfl (by kernel_rfl) (by kernel_rfl) (by kernel_rfl) (fun _ _ _ h => h) (Or.inl ⟨by rfl, fun w hSw => ?_⟩) (by assumption) ?_
  rotate_left
  · (try dsimp only at hSw); go_simp; try with_reducible rfl
  simp only [Act.put, List.setIfInBounds_toArray, List.set_cons_zero, List.set_cons_succ, List.getElem_toArray, List.getElem_cons_succ, List.getElem_cons_zero]
  refine wpAnyH_done (by kernel_rfl) ?_ _
  go_wp2_with (fail)
  go_ret
  refine ⟨?_, b3, (hTd.trans (ht2.mono fun _ => .inl)).trans (ht3.mono fun k x => .inr x)⟩
  rw [hxr'.out, hxf.out]
  exact ret_bool (by simp)

end Go.Proofs.Ytcgemckookefmaa
