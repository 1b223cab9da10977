/-
  The law's 'alive', by contract.
-/
import Derived.Test.YtoiidhpohghiaaaGreatSt
namespace Go.Proofs.YtoiidhpohghiaaaGreat
open Go.RowKit Go.Maps
set_option linter.unusedVariables false

set_option maxRecDepth 100000 in
set_option maxHeartbeats 4000000 in
theorem alive_any (w : World) : Calls Tryz.prog 4 #[] w fun e w' => e = .returned (.bool true) ∧ Below w.heap.size w w' := by
  go_enter Tryz.func4, Tryz.ntmps4
  go_wp2_with (fail)
  refine (small_any w).mono ?_
  rintro e w1 ⟨rfl, hb1⟩
  go_wp2_with (fail)
  obtain ⟨g, hg⟩ : ∃ g, g = w1.heap.size := ⟨_, rfl⟩
  obtain ⟨W1, hW1⟩ : ∃ W1, W1 = w1.alloc (.cells #[.int .i64 3, .int .i64 3, .int .i64 12] 30) := ⟨_, rfl⟩
  have x0 : W1.cell? ⟨g, 0, none⟩ = some (.int .i64 3) := by rw [hW1, hg]; simp
  have x1 : W1.cell? ⟨g, 1, none⟩ = some (.int .i64 3) := by rw [hW1, hg]; simp
  have x2 : W1.cell? ⟨g, 2, none⟩ = some (.int .i64 12) := by rw [hW1, hg]; simp
  have hgl : g < W1.heap.size := by rw [hW1, hg]; simp
  have hB1 : Below w.heap.size w W1 := by rw [hW1]; exact hb1.alloc hb1.size _
  rw [← hW1, ← hg]
  clear hW1 hg hb1
  refine (sectors_all 3 3 12 W1).mono ?_
  rintro e w2 ⟨rfl, hb2⟩
  rw [sect_small]
  have hB2 := hB1.trans (hb2.mono hB1.size)
  have y0 := (hb2.cell (p := ⟨g, 0, none⟩) hgl).trans x0
  have y1 := (hb2.cell (p := ⟨g, 1, none⟩) hgl).trans x1
  have y2 := (hb2.cell (p := ⟨g, 2, none⟩) hgl).trans x2
  have hgl2 := Nat.lt_of_lt_of_le hgl hb2.size
  clear x0 x1 x2 hgl hb2 hB1
  go_wp2_with (fail)
  refine (new_ok 4 41 w2 (by omega) (by omega) (by omega) (by omega)).mono ?_
  rintro e w3 ⟨L, rfl, hr3, hM0, hb3⟩
  have hB3 := hB2.trans (hb3.mono hB2.size)
  have x0 := (hb3.cell (p := ⟨g, 0, none⟩) hgl2).trans y0
  have x1 := (hb3.cell (p := ⟨g, 1, none⟩) hgl2).trans y1
  have x2 := (hb3.cell (p := ⟨g, 2, none⟩) hgl2).trans y2
  have hgl3 := Nat.lt_of_lt_of_le hgl2 hb3.size
  have hlo : Hid (∀ k, L.M 4 k → w.heap.size ≤ k) := fun k hk => Nat.le_trans hB2.size (hM0 k hk)
  have HR := Lib.hid hr3
  have HB3 := Lib.hid hB3
  have hgM : Hid (¬ L.M 4 g) := fun x => by have := hM0 g x; omega
  clear y0 y1 y2 hM0 hgl2 hr3 hB3 hb3 hB2
  go_wp2_with (fail)
  refine (open_any 3 3 12 0 1 2 HR.out).mono ?_
  rintro e w4 hop
  have hb4 := hop.1
  obtain ⟨b, rfl, hlt, hst⟩ := St.opened (w0 := w) HR.out hlo.out HB3.out hop (by rw [openOk_small rfl rfl]; rfl)
  have y0 := (hb4.cell (p := ⟨g, 0, none⟩) hgl3).trans x0
  have y1 := (hb4.cell (p := ⟨g, 1, none⟩) hgl3).trans x1
  have y2 := (hb4.cell (p := ⟨g, 2, none⟩) hgl3).trans x2
  have HST := Lib.hid hst
  have hgl4 := Nat.lt_of_lt_of_le hgl3 hb4.size
  clear x0 x1 x2 hop hb4 hgl3 hst
  go_wp2_with (fail)
  have hgeo := geo_any (w := w4.drew) (HST.out.drew).bk
  refine wp_region_held_drew (S := fun w' => w'.cell? ⟨g, 0, none⟩ = some (.int .i64 3) ∧ w'.cell? ⟨g, 1, none⟩ = some (.int .i64 3) ∧ w'.cell? ⟨g, 2, none⟩ = some (.int .i64 12)) (by kernel_rfl) ?_ (fun hHeld => ?_)
  · exact ⟨y0, y1, y2⟩
  refine wpAnyH_take (i := 0) (v := ?_) rfl (by kernel_rfl) (by kernel_rfl) (by kernel_rfl) (fun _ _ _ h => h) (Or.inl ⟨by rfl, fun w hSw => ?_⟩) (by assumption) ?_
  rotate_left
  · (try dsimp only at hSw); go_simp; try with_reducible rfl
  simp only [Act.put, List.setIfInBounds_toArray, List.set_cons_zero, List.set_cons_succ, List.getElem_toArray, List.getElem_cons_zero]
  refine wpAnyH_take (i := 1) (v := ?_) rfl (by kernel_rfl) (by kernel_rfl) (by kernel_rfl) (fun _ _ _ h => h) (Or.inl ⟨by rfl, fun w hSw => ?_⟩) (by assumption) ?_
  rotate_left
  · (try dsimp only at hSw); go_simp; try with_reducible rfl
  simp only [Act.put, List.setIfInBounds_toArray, List.set_cons_zero, List.set_cons_succ, List.getElem_toArray, List.getElem_cons_succ, List.getElem_cons_zero]
  refine wpAnyH_take (i := 2) (v := ?_) rfl (by kernel_rfl) (by kernel_rfl) (by kernel_rfl) (fun _ _ _ h => h) (Or.inl ⟨by rfl, fun w hSw => ?_⟩) (by assumption) ?_
  rotate_left
  · (try dsimp only at hSw); go_simp; try with_reducible rfl
  simp only [Act.put, List.setIfInBounds_toArray, List.set_cons_zero, List.set_cons_succ, List.getElem_toArray, List.getElem_cons_succ, List.getElem_cons_zero]
  refine wpAnyH_take (i := 3) (v := ?_) rfl (by kernel_rfl) (by kernel_rfl) (by kernel_rfl) (fun _ _ _ h => h) (Or.inl ⟨by rfl, fun w hSw => ?_⟩) (by assumption) ?_
  rotate_left
  · (try dsimp only at hSw); go_simp; try with_reducible rfl
  simp only [Act.put, List.setIfInBounds_toArray, List.set_cons_zero, List.set_cons_succ, List.getElem_toArray, List.getElem_cons_succ, List.getElem_cons_zero]
  refine wpAnyH_take (i := 4) (v := ?_) rfl (by kernel_rfl) (by kernel_rfl) (by kernel_rfl) (fun _ _ _ h => h) (Or.inl ⟨by rfl, fun w hSw => ?_⟩) (by assumption) ?_
  rotate_left
  · (try dsimp only at hSw); go_simp; try with_reducible rfl
  simp only [Act.put, List.setIfInBounds_toArray, List.set_cons_zero, List.set_cons_succ, List.getElem_toArray, List.getElem_cons_succ, List.getElem_cons_zero]
  refine wpAnyH_take (i := 5) (v := ?_) rfl (by kernel_rfl) (by kernel_rfl) (by kernel_rfl) (fun _ _ _ h => h) (Or.inl ⟨by rfl, fun w hSw => ?_⟩) (by assumption) ?_
  rotate_left
  · (try dsimp only at hSw); go_simp; try with_reducible rfl
  simp only [Act.put, List.setIfInBounds_toArray, List.set_cons_zero, List.set_cons_succ, List.getElem_toArray, List.getElem_cons_succ, List.getElem_cons_zero]
  refine wpAnyH_take (i := 6) (v := ?_) rfl (by kernel_rfl) (by kernel_rfl) (by kernel_rfl) (fun _ _ _ h => h) (Or.inl ⟨by rfl, fun w hSw => ?_⟩) (by assumption) ?_
  rotate_left
  · (try dsimp only at hSw); go_simp; try with_reducible rfl
  simp only [Act.put, List.setIfInBounds_toArray, List.set_cons_zero, List.set_cons_succ, List.getElem_toArray, List.getElem_cons_succ, List.getElem_cons_zero]
  refine wpAnyH_take (i := 7) (v := ?_) rfl (by kernel_rfl) (by kernel_rfl) (by kernel_rfl) (fun _ _ _ h => h) (Or.inl ⟨by rfl, fun w hSw => ?_⟩) (by assumption) ?_
  rotate_left
  · (try dsimp only at hSw); go_simp; try with_reducible rfl
  simp only [Act.put, List.setIfInBounds_toArray, List.set_cons_zero, List.set_cons_succ, List.getElem_toArray, List.getElem_cons_succ, List.getElem_cons_zero]
  refine wpAnyH_take (i := 9) (v := ?_) rfl (by kernel_rfl) (by kernel_rfl) (by kernel_rfl) (fun _ _ _ h => h) (Or.inl ⟨by rfl, fun w hSw => ?_⟩) (by assumption) ?_
  rotate_left
  · (try dsimp only at hSw); go_simp; try with_reducible rfl
  simp only [Act.put, List.setIfInBounds_toArray, List.set_cons_zero, List.set_cons_succ, List.getElem_toArray, List.getElem_cons_succ, List.getElem_cons_zero]
  refine wpAnyH_ready (rs := [8]) (by kernel_rfl) (by simp) ?_
  refine AllReadyH.cons rfl (fun K hK => ?_) AllReadyH.nil
  simp only [List.getElem_toArray, List.getElem_cons_succ, List.getElem_cons_zero]
  go_simp
  refine hgeo.mono ?_
  rintro e w5 ⟨rfl, hb5⟩
  have hst5 := HST.out.next (undrew hb5)
  have x0 := (hb5.cell (p := ⟨g, 0, none⟩) hgl4).trans y0
  have x1 := (hb5.cell (p := ⟨g, 1, none⟩) hgl4).trans y1
  have x2 := (hb5.cell (p := ⟨g, 2, none⟩) hgl4).trans y2
  go_wp2_with (fail)
  refine hK.out _ _ ⟨x0, x1, x2⟩ (fun hHeld => ?_)
  clear hK K hgeo y0 y1 y2 x0 x1 x2 hb5 HST hgl4
  refine wpAnyH_take (i := 10) (v := ?_) rfl (by kernel_rfl) (by kernel_rfl) (by kernel_rfl) (fun _ _ _ h => h) (Or.inl ⟨by rfl, fun w hSw => ?_⟩) (by assumption) ?_
  rotate_left
  · (try dsimp only at hSw); go_simp; try with_reducible rfl
  simp only [Act.put, List.setIfInBounds_toArray, List.set_cons_zero, List.set_cons_succ, List.getElem_toArray, List.getElem_cons_succ, List.getElem_cons_zero]
  refine wpAnyH_take (i := 11) (v := ?_) rfl (by kernel_rfl) (by kernel_rfl) (by kernel_rfl) (fun _ _ _ h => h) (Or.inl ⟨by rfl, fun w hSw => ?_⟩) (by assumption) ?_
  rotate_left
  · (try dsimp only at hSw); go_simp; try with_reducible rfl
  simp only [Act.put, List.setIfInBounds_toArray, List.set_cons_zero, List.set_cons_succ, List.getElem_toArray, List.getElem_cons_succ, List.getElem_cons_zero]
  refine wpAnyH_done (by kernel_rfl) ?_ _
  have HST := Lib.hid hst5
  clear hst5 hHeld HR HB3 hgM hlo
  go_wp2_with (at_make; refine wpList_mk rfl _ _ rfl .i64 .i64 64 64 64 rfl rfl rfl rfl (by omega) ?_; intro w6 hb6 hl6; have hc6 := hb6.cell (i := 0) (by simp); have hf6 := hb6.free 0)
  obtain ⟨zs, hzs⟩ : ∃ zs : List Int, zs = (List.replicate 64 0).set 0 5 := ⟨_, rfl⟩
  have hzl : zs.length = 64 := by rw [hzs]; simp
  have hz0 : byt zs 0 = 5 := by rw [hzs]; rfl
  have hzb : AllB zs := by rw [hzs]; intro z hz; rcases List.mem_or_eq_of_mem_set hz with h | rfl; · rw [(List.mem_replicate.1 h).2]; omega
                           · omega
  have hbs : Below w5.heap.size w5 (w6.setCell ⟨w5.heap.size, 0, none⟩ (.int .u8 5)) := hl6.setCell (Nat.le_refl _) _
  have hst7 := HST.out.next hbs
  have hz7 : Blk (w6.setCell ⟨w5.heap.size, 0, none⟩ (.int .u8 5)) w5.heap.size zs := by rw [hzs]; exact hb6.set 0 5
  have hnM : ¬ also (L.M 4) (· = b) w5.heap.size := fun x => by have := HST.out.rk.low _ x; omega
  have hbw := bw_at (B := ⟨3, 3, 12, 0, 1, 2⟩) (m := 3) (i := 1) rfl (by omega) (newRk 4 41) 2 zs
  have hdk : Bn.dk ⟨3, 3, 12, 0, 1, 2⟩ 1 = 3 := by decide
  rw [hdk] at hbw
  have hH := (Hd.start 4 41).wr (i := 3) (k := 2) (by omega) (by omega) hzl
  have hE := ((Hd.start 4 41).toGd.wr (i := 3) (k := 2) (by omega) (by omega) hzl).1
  have hwr := st_bwrite 1 2 (some ⟨w5.heap.size, 0, none⟩) 64 64 zs hst7 (hz7.bysn hzb hzl) (.inr fun b' off' e => by cases e; exact hnM)
  rw [show bw ⟨3, 3, 12, 0, 1, 2⟩ (newRk 4 41) 1 2 zs = (newRk 4 41).wr (3 : Nat) (2 : Nat) zs from hbw.1, show bwE ⟨3, 3, 12, 0, 1, 2⟩ (newRk 4 41) 1 2 zs = 0 from hbw.2.trans hE] at hwr
  obtain ⟨R, hR⟩ : ∃ R, R = (newRk 4 41).wr (3 : Nat) (2 : Nat) zs := ⟨_, rfl⟩
  rw [← hR] at hwr hH
  have HH := Lib.hid hH
  have HZL := Lib.hid hzl
  have HZ0 := Lib.hid hz0
  clear hR hbw hdk hE hnM hz7 hst7 hbs hzb hz0 hzs hc6 hf6 hb6 hl6 HST hH hzl
  refine hwr.mono ?_
  rintro e w7 ⟨rfl, hst7, _⟩
  have e1 := HH.out.toGd.rd (i := 3) (k := 2) (by omega) (by omega)
  have e2 := HH.out.rd 3 2 (by omega) (by omega)
  have e3 := HH.out.toGd.rd (i := 1) (k := 2) (by omega) (by omega)
  have e4 := HH.out.rd 1 2 (by omega) (by omega)
  have hr1 := st_rread 3 2 hst7
  rw [show R.rdE 3 2 = 0 from e1.1, show R.rdV 3 2 = zs from (e1.2.trans e2).trans rfl] at hr1
  have HR3 : Hid (R.rdE 1 2 = 0) := e3.1
  have HR4 : Hid (R.rdV 1 2 = List.replicate 64 0) := (e3.2.trans e4).trans rfl
  clear hwr e1 e2 e3 e4 hst7
  go_wp2_with (fail)
  refine hr1.mono ?_
  rintro e w8 ⟨a8, c8, rfl, hp8, _, hst8, hb8⟩
  obtain ⟨g8, o8, rfl, hl8, k8⟩ := hp8.cell0 (by rw [HZL.out]; omega)
  rw [HZ0.out] at k8
  have hr2 := st_rread 1 2 hst8
  rw [HR3.out, HR4.out] at hr2
  clear hr1 hst8 hp8 hb8
  have HZL64 : zs.length = 64 := HZL.out
  go_wp2_with (fail)
  refine hr2.mono ?_
  rintro e w9 ⟨a9, c9, rfl, hp9, _, hst9, hb9⟩
  obtain ⟨g9, o9, rfl, hl9, k9⟩ := hp9.cell0 (by simp)
  have k8' := (hb9.cell (p := ⟨g8, o8, none⟩) hl8).trans k8
  have hbad := st_bad (n := 3) hst9 rfl (by omega)
  have hb0 := bad_good (B := ⟨3, 3, 12, 0, 1, 2⟩) HH.out.toGd (by show (0 : Int) ≤ 1; omega) 3
  have hb00 : (badL ⟨3, 3, 12, 0, 1, 2⟩ R 3).length = 0 := by rw [hb0]; rfl
  rw [hb00] at hbad
  have HB9 := Lib.hid hst9.bel
  have k9' : w9.cell? ⟨g9, o9, none⟩ = some (.int .u8 0) := k9
  clear hr2 hst9 hp9 k8 k9 hb0 hb00 HH HR3 HR4 hb9
  go_wp2_with (go_at_call 15; refine hbad.mono ?_; rintro e w' ⟨a10, c10, rfl, _, _, hst10, _⟩; have HB10 := Lib.hid hst10.bel)
  go_ret
  exact ⟨rfl, HB10.out⟩

end Go.Proofs.YtoiidhpohghiaaaGreat
