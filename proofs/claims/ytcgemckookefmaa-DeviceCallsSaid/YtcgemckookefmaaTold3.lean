/-
  The law's 'told': Restore, and what is no call.
-/
import Derived.Test.YtcgemckookefmaaTold2
namespace Go.Proofs.Ytcgemckookefmaa
open Go.RowKit Go.Maps

set_option maxRecDepth 100000 in
set_option maxHeartbeats 2000000 in
theorem told_else (L : Lay) (K : RLay) (R' : Rk) (F' : Rf) (w : World) (c i n : Int) (v3 v4 : Value) (h : Both w L K R' F') (ho : R'.off = F'.dead) (l3 : ∃ a x y, v3 = .slice a x y) (l4 : ∃ a x y, v4 = .slice a x y)
    (z0 : c ≠ 0) (z1 : c ≠ 1) (z2 : c ≠ 2) (z3 : c ≠ 3) (z4 : c ≠ 4) (z5 : c ≠ 5) (z6 : c ≠ 6) (z7 : c ≠ 7) :
    Calls Try.prog 13 #[.pointer (some ⟨L.p, 0, none⟩), .pointer (some ⟨K.p, 0, none⟩), .agg #[.int .i64 c, .int .i64 i, .int .i64 n, v3, v4]] w (ToldPost L K R' R' F' (R'.off == F'.dead && R'.failed i == F'.failed i) w) := by
  obtain ⟨a3, x3, y3, rfl⟩ := l3
  obtain ⟨a4, x4, y4, rfl⟩ := l4
  obtain ⟨wb, hwb, hbs, hp, hd, hB, hT0, hT, nL, nK, hq, hqd⟩ := box h #[.int .i64 c, .int .i64 i, .int .i64 n, .slice a3 x3 y3, .slice a4 x4 y4] 40
  have r1 := hq 1 (.int .i64 i) rfl
  have p1 := hqd 1 (.int .i64 i) rfl
  have r0 := hq 0 (.int .i64 c) rfl
  have r4 := hq 4 (.slice a4 x4 y4) rfl
  clear hq hqd
  go_enter Try.func13, Try.ntmps13
  go_wp2_with (fail)
  rw [← hwb]
  clear hwb
  have bz := hp
  have e1 : wb.drew.cell? ⟨w.heap.size, 1, none⟩ = some (.int .i64 i) := p1
  have hD : Both wb.drew L K R' F' := bz.below ⟨rfl, rfl, rfl, Nat.le_refl _, fun _ _ => rfl⟩
  have hTz : Turn (BothM L K R') w wb.drew := hT
  obtain ⟨xo, hxo⟩ : ∃ x, Hid (R'.off = x) := ⟨_, Lib.hid rfl⟩
  have hxd : Hid (F'.dead = xo) := by unfold Hid; rw [← ho, hxo.out]
  have e7 : wb.drew.cell? ⟨K.p, 7, none⟩ = some (.bool xo) := by obtain ⟨fl, fc, hx⟩ := hD.rf; rw [← hxd.out]; exact hx.c7
  have hO := off_rack _ L R' wb.drew hD.rk
  rw [hxo.out] at hO
  have hF := failed_rack _ L R' wb.drew i hD.rk
  have hG := rfailed _ K F' wb.drew i hD.rf
  obtain ⟨xf, hxf⟩ : ∃ x, Hid (R'.failed i = x) := ⟨_, Lib.hid rfl⟩
  obtain ⟨xg, hxg⟩ : ∃ x, Hid (F'.failed i = x) := ⟨_, Lib.hid rfl⟩
  rw [hxf.out] at hF
  rw [hxg.out] at hG
  rcases (by cases xo <;> simp : xo = false ∨ xo = true) with rfl | rfl
  · go_wp2_with (fail)
    go_region_held3 (fun w' => w'.cell? ⟨w.heap.size, 1, none⟩ = some (.int .i64 i) ∧ w'.cell? ⟨K.p, 7, none⟩ = some (.bool false))
      (first
        | go_keep
        | exact ⟨e1, e7⟩)
      (first
        | (go_at_call 14
           refine hO.mono ?_
           rintro e w2 ⟨rfl, rfl⟩)
        | (go_at_call 16
           refine hF.mono ?_
           rintro e w2 ⟨rfl, rfl⟩)
        | (go_at_call 17
           refine hG.mono ?_
           rintro e w2 ⟨rfl, rfl⟩))
    go_wp2_with (fail)
    go_ret
    refine ⟨?_, hD, hTz⟩
    first
      | (rw [hxo.out, hxd.out, hxf.out, hxg.out]; rfl)
      | (rw [hxo.out, hxd.out]; rfl)
  · go_wp2_with (fail)
    go_region_held3 (fun w' => w'.cell? ⟨w.heap.size, 1, none⟩ = some (.int .i64 i) ∧ w'.cell? ⟨K.p, 7, none⟩ = some (.bool true))
      (first
        | go_keep
        | exact ⟨e1, e7⟩)
      (first
        | (go_at_call 14
           refine hO.mono ?_
           rintro e w2 ⟨rfl, rfl⟩)
        | (go_at_call 16
           refine hF.mono ?_
           rintro e w2 ⟨rfl, rfl⟩)
        | (go_at_call 17
           refine hG.mono ?_
           rintro e w2 ⟨rfl, rfl⟩))
    go_wp2_with (fail)
    go_ret
    refine ⟨?_, hD, hTz⟩
    first
      | (rw [hxo.out, hxd.out, hxf.out, hxg.out]; rfl)
      | (rw [hxo.out, hxd.out]; rfl)

set_option maxRecDepth 100000 in
set_option maxHeartbeats 2000000 in
theorem told_restore (L : Lay) (K : RLay) (R R' : Rk) (F F' : Rf) (w : World) (i n : Int) (v3 : Value) (a4 : Option Addr) (x4 y4 : Nat) (ks : List Int) (h : Both w L K R F) (eR : R' = R.restore ks) (eF : F' = F.restTo ks (F.n * F.S)) (ho : R'.off = F'.dead) (l3 : ∃ a x y, v3 = .slice a x y)
    (hk : Ins w a4 x4 ks) (hnil : a4 = none → x4 = 0 ∧ y4 = 0) (hkM : x4 = 0 ∨ ∀ b off, a4 = some ⟨b, off, none⟩ → ¬ BothM L K R b) (hkl : x4 ≤ 1000000000000) :
    Calls Try.prog 13 #[.pointer (some ⟨L.p, 0, none⟩), .pointer (some ⟨K.p, 0, none⟩), .agg #[.int .i64 5, .int .i64 i, .int .i64 n, v3, .slice a4 x4 y4]] w (ToldPost L K R R' F' (R'.off == F'.dead && R'.failed i == F'.failed i) w) := by
  obtain ⟨a3, x3, y3, rfl⟩ := l3
  obtain ⟨wb, hwb, hbs, hp, hd, hB, hT0, hT, nL, nK, hq, hqd⟩ := box h #[.int .i64 5, .int .i64 i, .int .i64 n, .slice a3 x3 y3, .slice a4 x4 y4] 40
  have r1 := hq 1 (.int .i64 i) rfl
  have p1 := hqd 1 (.int .i64 i) rfl
  have r4 := hq 4 (.slice a4 x4 y4) rfl
  clear hq hqd
  have hkb : Ins wb a4 x4 ks := ins_turn' hk (Turn.of_below (M := fun _ => False) hB) (.inr fun _ _ _ x => x)
  go_enter Try.func13, Try.ntmps13
  go_wp2_with (fail)
  rw [← hwb]
  clear hwb
  with_reducible refine (cpints_any a4 x4 y4 ks wb hkb hnil hkl).mono ?_
  rintro e w1 ⟨a5, c5, rfl, hk1, hlow, hb1⟩
  have b1 := hp.below hb1
  have g1 := (hb1.cell (p := ⟨w.heap.size, 1, none⟩) (by show w.heap.size < wb.heap.size; omega)).trans r1
  have g4 := (hb1.cell (p := ⟨w.heap.size, 4, none⟩) (by show w.heap.size < wb.heap.size; omega)).trans r4
  have hkb1 : Ins w1 a4 x4 ks := ins_turn' hkb (Turn.of_below (M := fun _ => False) hb1) (.inr fun _ _ _ x => x)
  go_wp2_with (fail)
  with_reducible refine (restore_ok _ L R x4 c5 a5 ks w1 b1.rk hk1 (.inr fun b off e x => by have := hlow b off e; have := hp.rk.low b x; omega) hkl).mono ?_
  rintro e w2 ⟨rfl, hr2, ht2⟩
  rw [← eR] at hr2
  have b2 : Both w2 L K R' F := b1.rack (by rw [eR]; rfl) hr2 ht2
  have h1s : w.heap.size < w1.heap.size := by have := hb1.size; omega
  have s1 := (ht2.cell (a := ⟨w.heap.size, 1, none⟩) h1s nL).trans g1
  have s4 := (ht2.cell (a := ⟨w.heap.size, 4, none⟩) h1s nL).trans g4
  have hkb2 : Ins w2 a4 x4 ks := ins_turn' hkb1 ht2 (hkM.imp_right fun f b off e x => absurd (show BothM L K R b from Or.inl x) (f b off e))
  have hkK : x4 = 0 ∨ ∀ b off, a4 = some ⟨b, off, none⟩ → ¬ K.M b := hkM.imp_right fun f b off e x => f b off e (.inr x)
  go_wp2_with (fail)
  with_reducible refine (rrestore _ K F w2 x4 y4 a4 ks b2.rf hkb2 hkK hkl).mono ?_
  rintro e w3 ⟨rfl, hr3, ht3⟩
  rw [← eF] at hr3
  have bz : Both w3 L K R' F' := b2.ref hr3 ht3
  have t1 := (ht3.cell (a := ⟨w.heap.size, 1, none⟩) (Nat.lt_of_lt_of_le h1s ht2.size) nK).trans s1
  have e1 : w3.drew.cell? ⟨w.heap.size, 1, none⟩ = some (.int .i64 i) := t1
  have hD : Both w3.drew L K R' F' := bz.below ⟨rfl, rfl, rfl, Nat.le_refl _, fun _ _ => rfl⟩
  have hTz : Turn (BothM L K R) w w3.drew := (((hT0.trans (Turn.of_below hb1)).trans (ht2.mono fun _ => .inl)).trans (ht3.mono fun _ => .inr)).trans (turn_drew _ _)
  obtain ⟨xo, hxo⟩ : ∃ x, Hid (R'.off = x) := ⟨_, Lib.hid rfl⟩
  have hxd : Hid (F'.dead = xo) := by unfold Hid; rw [← ho, hxo.out]
  have e7 : w3.drew.cell? ⟨K.p, 7, none⟩ = some (.bool xo) := by obtain ⟨fl, fc, hx⟩ := hD.rf; rw [← hxd.out]; exact hx.c7
  have hO := off_rack _ L R' w3.drew hD.rk
  rw [hxo.out] at hO
  have hF := failed_rack _ L R' w3.drew i hD.rk
  have hG := rfailed _ K F' w3.drew i hD.rf
  obtain ⟨xf, hxf⟩ : ∃ x, Hid (R'.failed i = x) := ⟨_, Lib.hid rfl⟩
  obtain ⟨xg, hxg⟩ : ∃ x, Hid (F'.failed i = x) := ⟨_, Lib.hid rfl⟩
  rw [hxf.out] at hF
  rw [hxg.out] at hG
  rcases (by cases xo <;> simp : xo = false ∨ xo = true) with rfl | rfl
  · go_wp2_with (fail)
    go_region_held3 (fun w' => w'.cell? ⟨w.heap.size, 1, none⟩ = some (.int .i64 i) ∧ w'.cell? ⟨K.p, 7, none⟩ = some (.bool false))
      (first
        | go_keep
        | exact ⟨e1, e7⟩)
      (first
        | (go_at_call 14
           refine hO.mono ?_
           rintro e w2 ⟨rfl, rfl⟩)
        | (go_at_call 16
           refine hF.mono ?_
           rintro e w2 ⟨rfl, rfl⟩)
        | (go_at_call 17
           refine hG.mono ?_
           rintro e w2 ⟨rfl, rfl⟩))
    go_wp2_with (fail)
    go_ret
    refine ⟨?_, hD, hTz⟩
    first
      | (rw [hxo.out, hxd.out, hxf.out, hxg.out]; rfl)
      | (rw [hxo.out, hxd.out]; rfl)
  · go_wp2_with (fail)
    go_region_held3 (fun w' => w'.cell? ⟨w.heap.size, 1, none⟩ = some (.int .i64 i) ∧ w'.cell? ⟨K.p, 7, none⟩ = some (.bool true))
      (first
        | go_keep
        | exact ⟨e1, e7⟩)
      (first
        | (go_at_call 14
           refine hO.mono ?_
           rintro e w2 ⟨rfl, rfl⟩)
        | (go_at_call 16
           refine hF.mono ?_
           rintro e w2 ⟨rfl, rfl⟩)
        | (go_at_call 17
           refine hG.mono ?_
           rintro e w2 ⟨rfl, rfl⟩))
    go_wp2_with (fail)
    go_ret
    refine ⟨?_, hD, hTz⟩
    first
      | (rw [hxo.out, hxd.out, hxf.out, hxg.out]; rfl)
      | (rw [hxo.out, hxd.out]; rfl)

end Go.Proofs.Ytcgemckookefmaa
