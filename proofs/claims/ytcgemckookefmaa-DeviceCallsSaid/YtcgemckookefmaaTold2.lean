/-
  The law's 'told': the calls that end in a look at the power and the disk.
-/
import Derived.Test.YtcgemckookefmaaTold
namespace Go.Proofs.Ytcgemckookefmaa
open Go.RowKit Go.Maps

set_option maxRecDepth 100000 in
set_option maxHeartbeats 2000000 in
theorem told_arm (L : Lay) (K : RLay) (R R' : Rk) (F F' : Rf) (w : World) (i n : Int) (v3 v4 : Value) (h : Both w L K R F) (hn : n ≤ 9223372036854775807) (eR : R' = { R with cnt := n }) (eF : F' = { F with pw := max n (-1) }) (ho : R'.off = F'.dead) (l3 : ∃ a x y, v3 = .slice a x y) (l4 : ∃ a x y, v4 = .slice a x y) :
    Calls Try.prog 13 #[.pointer (some ⟨L.p, 0, none⟩), .pointer (some ⟨K.p, 0, none⟩), .agg #[.int .i64 3, .int .i64 i, .int .i64 n, v3, v4]] w (ToldPost L K R R' F' (R'.off == F'.dead && R'.failed i == F'.failed i) w) := by
  obtain ⟨a3, x3, y3, rfl⟩ := l3
  obtain ⟨a4, x4, y4, rfl⟩ := l4
  obtain ⟨wb, hwb, hbs, hp, hd, hB, hT0, hT, nL, nK, hq, hqd⟩ := box h #[.int .i64 3, .int .i64 i, .int .i64 n, .slice a3 x3 y3, .slice a4 x4 y4] 40
  have r1 := hq 1 (.int .i64 i) rfl
  have r2 := hq 2 (.int .i64 n) rfl
  have r4 := hq 4 (.slice a4 x4 y4) rfl
  clear hq hqd
  go_enter Try.func13, Try.ntmps13
  go_wp2_with (fail)
  rw [← hwb]
  clear hwb
  with_reducible refine (arm_rack _ L R wb n hp.rk hn).mono ?_
  rintro e w2 ⟨rfl, hr2, ht2⟩
  rw [← eR] at hr2
  have b2 : Both w2 L K R' F := hp.rack (by rw [eR]) hr2 ht2
  have s1 := (ht2.cell (a := ⟨w.heap.size, 1, none⟩) (by show w.heap.size < wb.heap.size; omega) nL).trans r1
  have s2 := (ht2.cell (a := ⟨w.heap.size, 2, none⟩) (by show w.heap.size < wb.heap.size; omega) nL).trans r2
  go_wp2_with (fail)
  with_reducible refine (rarm_any _ K F w2 n b2.rf hn).mono ?_
  rintro e w3 ⟨rfl, hr3, ht3⟩
  rw [← eF] at hr3
  have bz : Both w3 L K R' F' := b2.ref hr3 ht3
  have t1 := (ht3.cell (a := ⟨w.heap.size, 1, none⟩) (Nat.lt_of_lt_of_le (by show w.heap.size < wb.heap.size; omega) ht2.size) nK).trans s1
  have e1 : w3.drew.cell? ⟨w.heap.size, 1, none⟩ = some (.int .i64 i) := t1
  have hD : Both w3.drew L K R' F' := bz.below ⟨rfl, rfl, rfl, Nat.le_refl _, fun _ _ => rfl⟩
  have hTz : Turn (BothM L K R) w w3.drew := ((hT0.trans (ht2.mono fun _ => .inl)).trans (ht3.mono fun _ => .inr)).trans (turn_drew _ _)
  obtain ⟨xo, hxo⟩ : ∃ x, Hid (R'.off = x) := ⟨_, Lib.hid rfl⟩
  have hxd : Hid (F'.dead = xo) := by unfold Hid; rw [← ho, hxo.out]
  have e7 : w3.drew.cell? ⟨K.p, 7, none⟩ = some (.bool xo) := by obtain ⟨fl, fc, hx⟩ := hD.rf; rw [← hxd.out]; exact hx.c7
  have hO := off_rack _ L R' w3.drew hD.rk
  rw [hxo.out] at hO
  have hF := failed_rack _ L R' w3.drew i hD.rk
  have hG := rfailed _ K F' w3.drew i hD.rf
  obtain ⟨xf, hxf⟩ : ∃ x, Hid (R'.failed i = x) := ⟨_, Lib.hid rfl⟩
  obtain ⟨xg, hxg⟩ : ∃ x, Hid (F'.failed i = x) := ⟨_, Lib.hid rfl⟩
  rw [hxf.out] at hF
  rw [hxg.out] at hG
  rcases (by cases xo <;> simp : xo = false ∨ xo = true) with rfl | rfl
  · go_wp2_with (fail)
    go_region_held3 (fun w' => w'.cell? ⟨w.heap.size, 1, none⟩ = some (.int .i64 i) ∧ w'.cell? ⟨K.p, 7, none⟩ = some (.bool false))
      (first
        | go_keep
        | exact ⟨e1, e7⟩)
      (first
        | (go_at_call 14
           refine hO.mono ?_
           rintro e w2 ⟨rfl, rfl⟩)
        | (go_at_call 16
           refine hF.mono ?_
           rintro e w2 ⟨rfl, rfl⟩)
        | (go_at_call 17
           refine hG.mono ?_
           rintro e w2 ⟨rfl, rfl⟩))
    go_wp2_with (fail)
    go_ret
    refine ⟨?_, hD, hTz⟩
    first
      | (rw [hxo.out, hxd.out, hxf.out, hxg.out]; rfl)
      | (rw [hxo.out, hxd.out]; rfl)
  · go_wp2_with (fail)
    go_region_held3 (fun w' => w'.cell? ⟨w.heap.size, 1, none⟩ = some (.int .i64 i) ∧ w'.cell? ⟨K.p, 7, none⟩ = some (.bool true))
      (first
        | go_keep
        | exact ⟨e1, e7⟩)
      (first
        | (go_at_call 14
           refine hO.mono ?_
           rintro e w2 ⟨rfl, rfl⟩)
        | (go_at_call 16
           refine hF.mono ?_
           rintro e w2 ⟨rfl, rfl⟩)
        | (go_at_call 17
           refine hG.mono ?_
           rintro e w2 ⟨rfl, rfl⟩))
    go_wp2_with (fail)
    go_ret
    refine ⟨?_, hD, hTz⟩
    first
      | (rw [hxo.out, hxd.out, hxf.out, hxg.out]; rfl)
      | (rw [hxo.out, hxd.out]; rfl)

end Go.Proofs.Ytcgemckookefmaa
