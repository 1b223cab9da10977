/-
  ScanFinds' walk.
-/
import Derived.Test.YtegmeoghonolcaaGreatFha
import Derived.Test.YtegmeoghonolcaaGreatAl8
import Derived.Deep.DeepCutAuto
set_option linter.unusedSimpArgs false
set_option linter.unusedVariables false
namespace Go.Proofs.YtegmeoghonolcaaGreat
open Go.RowKit Go.Maps
set_option linter.unusedVariables false

theorem blk_offG {w : World} {g b : Nat} {zs : List Int} (h : Blk w g zs) (hne : g ≠ b) {p q : Int} {r : Value} : Blk (setG w b p q r) g zs := ⟨by
  unfold setG
  rw [Below.heap_setCell _ _ _ _ hne, Below.heap_setCell _ _ _ _ hne, Below.heap_setCell _ _ _ _ hne]
  exact h.row⟩
theorem w64_in (n : Int) (h : -9223372036854775808 ≤ n) (h2 : n ≤ 9223372036854775807) : wrap64 n = n := by
  unfold wrap64
  omega
theorem gcc_new (w : World) (z : Gc) (t : TypeId) : ∀ j u, (gcc z)[j]? = some u → (w.alloc (.cells #[.int .i64 z.q, .int .i64 z.r, .slice z.a z.n z.c] t (0, 0))).cell? ⟨w.heap.size, j, none⟩ = some u := by
  intro j u hj
  match j, hj with
  | 0, hj => simp [gcc] at hj; subst hj; simp
  | 1, hj => simp [gcc] at hj; subst hj; simp
  | 2, hj => simp [gcc] at hj; subst hj; simp
  | j + 3, hj => simp [gcc] at hj
set_option maxRecDepth 100000 in
set_option maxHeartbeats 4000000 in
theorem finds_any (a : Option Addr) (n c : Nat) (ks : List Int) (q0 f : Int) (w : World) (h : Ins w a n ks) :
    Calls Tryz.prog 4 #[.slice a n c, .int .i64 q0, .int .i64 f] w fun en w' => en = .returned (.bool true) ∧ Below w.heap.size w w' := by
  have HI := Lib.hid h
  clear h
  by_cases g1 : 5 < n
  · have h1 : (5 : Int) < (n : Int) := by omega
    go_enter Tryz.func4, Tryz.ntmps4
    go_wp2_with (fail)
    refine (alive_any _).mono ?_
    rintro e1 w1 ⟨rfl, hb1⟩
    go_wp2_with (fail)
    go_ret
    exact ⟨rfl, hb1⟩
  have h1 : decide ((5 : Int) < (n : Int)) = false := decide_eq_false (by omega)
  by_cases g2 : q0 < 1
  · go_enter Tryz.func4, Tryz.ntmps4
    go_wp2_with (fail)
    refine (alive_any _).mono ?_
    rintro e1 w1 ⟨rfl, hb1⟩
    go_wp2_with (fail)
    go_ret
    exact ⟨rfl, hb1⟩
  have h2 : decide (q0 < 1) = false := decide_eq_false g2
  by_cases g3 : 1048576 < q0
  · go_enter Tryz.func4, Tryz.ntmps4
    go_wp2_with (fail)
    refine (alive_any _).mono ?_
    rintro e1 w1 ⟨rfl, hb1⟩
    go_wp2_with (fail)
    go_ret
    exact ⟨rfl, hb1⟩
  have h3 : decide ((1048576 : Int) < q0) = false := decide_eq_false g3
  have HQ : Hid (1 ≤ q0 ∧ q0 ≤ 1048576) := ⟨by omega, by omega⟩
  have HN : Hid (n ≤ 5) := by unfold Hid; omega
  clear g2 g3
  go_enter Tryz.func4, Tryz.ntmps4
  go_wp2_with (fail)
  refine (alive_any _).mono ?_
  rintro e1 w1 ⟨rfl, hb1⟩
  have HB1 := Lib.hid hb1
  clear hb1
  go_wp2_with (fail)
  clear h1 h2 h3
  refine (small8_any w1).mono ?_
  rintro e3 w3 ⟨rfl, hb3⟩
  have HB3 := Lib.hid (HB1.out.trans (hb3.mono HB1.out.size))
  clear hb3 HB1
  go_wp2_with (fail)
  refine (sectors_all 3 3 12 w3).mono ?_
  rintro e4 w4 ⟨rfl, hb4⟩
  rw [sect_small]
  have HB4 := Lib.hid (HB3.out.trans (hb4.mono HB3.out.size))
  clear hb4 HB3
  go_wp2_with (fail)
  refine (new_ok 4 41 w4 (by omega) (by omega) (by omega) (by omega)).mono ?_
  rintro e5 w5 ⟨L, rfl, hr5, hM5, hb5⟩
  have HB5 := Lib.hid (HB4.out.trans (hb5.mono HB4.out.size))
  have HR5 := Lib.hid hr5
  have HM5 : Hid (∀ k, L.M 4 k → w.heap.size ≤ k) := fun k hk => Nat.le_trans HB4.out.size (hM5 k hk)
  clear hr5 hM5 hb5 HB4
  go_wp2_with (fail)
  refine (small8_any w5).mono ?_
  rintro e6 w6 ⟨rfl, hb6⟩
  have HB6 := Lib.hid (HB5.out.trans (hb6.mono HB5.out.size))
  have HR6 := Lib.hid (HR5.out.below hb6)
  clear hb6 HB5 HR5
  go_wp2_with (fail)
  refine (open_any 3 3 12 0 0 0 HR6.out).mono ?_
  rintro e7 w7 hop
  obtain ⟨b, rfl, _, hst⟩ := St.opened HR6.out HM5.out HB6.out hop openF_ok
  have HO := Lib.hid (FnO.zero q0 hst)
  clear hop hst HB6 HR6 HM5
  go_wp2_with (fail)
  go_loopw [10, 11, 12, 13, 14, 15, 16, 17, 18, 19] (fun sg sq wt iv _ _ _ _ _ _ wr => ∃ (i : Nat) (Ks : List Kb) (Gs : List Gr) (F : List Gc) (M : Nat → Prop) (R : Rk) (C : Nat → Nat → List Int), i ≤ n ∧ sg = .int .i64 ((flatB Ks).length : Int) ∧ sq = .int .i64 (q0 + ((flatB Ks).length : Int)) ∧ iv = .int .i64 i ∧ FnO w L b w7.heap.size q0 Ks Gs F i wt M R C wr) (fun _ _ _ iv _ _ _ _ _ _ _ => n - (RowKit.intOf iv).toNat)
  case atStart => exact ⟨0, [], [], [], _, _, _, by omega, rfl, by simp [flatB], rfl, HO.out⟩
  case round =>
    obtain ⟨i, Ks, Gs, F, M, R, C, i1, rfl, rfl, rfl, ho⟩ := hrel
    clear HO
    have hn5 : n ≤ 5 := HN.out
    obtain ⟨q1, q2⟩ := HQ.out
    by_cases hlt : i < n
    · rcases HI.out.2 with h0 | ⟨g, off, rfl, lg, cg⟩
      · omega
      have k1 := (ho.st.bel.cell (p := ⟨g, off + i, none⟩) lg).trans (cg i hlt)
      obtain ⟨x, hx⟩ : ∃ x, x = ks.getD i 0 := ⟨_, rfl⟩
      rw [← hx] at k1
      obtain ⟨k, hk, hand⟩ := andF x 1 (by omega)
      have hand' : bits .and .i64 x 1 = (k : Int) := hand
      have hmost := ho.row.most
      obtain ⟨N, hN⟩ : ∃ N, N = (flatB Ks).length := ⟨_, rfl⟩
      rw [← hN] at hmost ⊢
      have HNN := Lib.hid hN
      have HOO := Lib.hid ho
      have HK := Lib.hid hk
      have i0 : (0 : Int) ≤ (i : Int) := by omega
      have i2 : (i : Int) < (n : Int) := by omega
      have e1 : IntKind.i64.wrap (1 + (k : Int)) = 1 + (k : Int) := IntWalk.i64_in _ (by omega)
      have e2 : IntKind.i64.wrap (1 + (i : Int)) = 1 + (i : Int) := IntWalk.i64_in _ (by omega)
      clear cg hx hand ho hN
      go_wp2_with (fail)
      have HNB : Hid (1 ≤ 1 + k ∧ 1 + k ≤ 2 ∧ N ≤ 8) := by have := HK.out; unfold Hid; omega
      have HRB : Hid (1 ≤ 1 + (i : Int) ∧ 1 + (i : Int) ≤ 60) := by unfold Hid; omega
      have e5 : (1 + (k : Int)) = ((1 + k : Nat) : Int) := by omega
      rw [e5]
      have HI0 := Lib.hid (HOO.out.start HNN.out (1 + k) (1 + (i : Int)) 63)
      obtain ⟨nn, hnn⟩ : ∃ nn, nn = 1 + k := ⟨_, rfl⟩
      obtain ⟨r, hr⟩ : ∃ r : Int, r = 1 + (i : Int) := ⟨_, rfl⟩
      obtain ⟨bx, hbx⟩ : ∃ bx, bx = wr.heap.size := ⟨_, rfl⟩
      rw [← hnn, ← hr, ← hbx] at HI0
      rw [← hnn] at HNB
      rw [← hr] at HRB
      rw [← hnn, ← hr, ← hbx]
      obtain ⟨W1, hW1⟩ : ∃ W1, W1 = wr.alloc (.cells #[.int .i64 (q0 + (N : Int)), .int .i64 r, .slice none 0 0] 63 (0, 0)) := ⟨_, rfl⟩
      rw [← hW1] at HI0 ⊢
      clear hnn hr hbx hW1 e1 e2 e5 hand' k1
      go_loopw [10, 11, 16, 17, 18, 19] (fun sg sq kv _ _ _ wi => ∃ (kk : Nat) (v : Value) (M1 : Nat → Prop) (R1 : Rk) (C1 : Nat → Nat → List Int), kk ≤ nn ∧ sg = .int .i64 ((N : Int) + (kk : Int)) ∧ sq = .int .i64 (q0 + ((N : Int) + (kk : Int))) ∧ kv = .int .i64 kk ∧ FnI w L b w7.heap.size q0 Ks u12 nn N r bx kk kk v M1 R1 C1 wr wi) (fun _ _ kv _ _ _ _ => nn - (RowKit.intOf kv).toNat)
      case atStart => exact ⟨0, _, _, _, _, by omega, congrArg (Value.int IntKind.i64) (by omega), congrArg (Value.int IntKind.i64) (by omega), rfl, HI0.out⟩
      case round =>
        obtain ⟨kk, v, M1, R1, C1, kk1, rfl, rfl, rfl, hi⟩ := hrel
        clear HI0
        have HII := Lib.hid hi
        by_cases hkn : kk < nn
        · have e3 : IntKind.i64.wrap ((nn : Int) - 1) = (nn : Int) - 1 := IntWalk.i64_in _ (by have := HNB.out; omega)
          have x1 := hi.gx.c1
          have lx := hi.gx.lt
          clear hi
          obtain ⟨rt, hrt⟩ : ∃ rt : Int, rt = if kk + 1 = nn then r else 0 := ⟨_, rfl⟩
          have HRT := Lib.hid hrt
          obtain ⟨wi, hwi⟩ : ∃ wi, wi = wr := ⟨_, rfl⟩
          go_upto_if 89 with (fail)
          go_cut [] (fun wx => wx = wr.alloc (.cells #[.int .i64 (nn : Int), .int .i64 (kk : Int), .int .i64 0, .int .i64 (if kk + 1 = nn then r else 0)] 57 (0, 0)))
          case first =>
            by_cases hl : kk + 1 = nn
            · have e4 : (kk : Int) = (nn : Int) - 1 := by omega
              go_wp2_with (fail)
              go_meet
              rw [if_pos hl, e4]
            · have e4 : ¬ ((kk : Int) = (nn : Int) - 1) := by omega
              go_wp2_with (fail)
              go_meet
              rw [if_neg hl]
          case rest =>
            obtain rfl := hcut
            obtain ⟨rt, hrt⟩ : ∃ rt : Int, rt = if kk + 1 = nn then r else 0 := ⟨_, rfl⟩
            have hin : SumR 3 3 12 (nn : Int) (kk : Int) 0 rt := by rw [hrt]; exact infF_sum (g := 0) (q := 0) hkn HNB.out.2.1 HRB.out.1 HRB.out.2
            have HRT := Lib.hid hrt
            rw [← hrt]
            obtain ⟨Y, hY⟩ : ∃ Y, Y = wr.alloc (.cells #[.int .i64 (nn : Int), .int .i64 (kk : Int), .int .i64 0, .int .i64 rt] 57 (0, 0)) := ⟨_, rfl⟩
            obtain ⟨sb, hsb⟩ : ∃ sb, sb = wr.heap.size := ⟨_, rfl⟩
            have hm := M4.mk' wr (nn : Int) (kk : Int) 0 rt 57
            have hbY : Below wr.heap.size wr Y := by rw [hY]; exact (Below.refl _ _).alloc (Nat.le_refl _) _
            rw [← hY, ← hsb] at hm ⊢
            have HIY := Lib.hid (HII.out.next hbY)
            have HMX := Lib.hid hm
            have hput : ∀ W, Calls Tryz.prog 21 #[gv 3 3 12, .agg #[.int .i64 (nn : Int), .int .i64 (kk : Int), .int .i64 0, .int .i64 rt]] W fun e w' => ∃ g, e = .returned (.tuple #[.agg #[.int .i64 65535, .int .i64 0, .slice (some ⟨g, 0, none⟩) 56 56], .bool true]) ∧ Blk w' g (sumL (nn : Int) (kk : Int) 0 rt) ∧ W.heap.size ≤ g ∧ Below W.heap.size W w' := fun W => by
              have h1 := putSum_any 3 3 12 (nn : Int) (kk : Int) 0 rt W
              rw [sumO_yes hin] at h1
              exact h1
            have HPUT := Lib.hid hput
            clear hrt hin hY hsb hm hbY hput HII x1 lx
            go_upto_region 25 with (fail)
            go_cut [18, 19] (fun xp okv wx => ∃ (xb pb : Nat), xp = .pointer (some ⟨xb, 0, none⟩) ∧ okv = .bool true ∧ Gx wx xb 65535 0 (.slice (some ⟨pb, 0, none⟩) 56 56) ∧ Blk wx pb (sumL (nn : Int) (kk : Int) 0 rt) ∧ Below Y.heap.size Y wx)
            case first =>
              refine wp_region_held_drew (S := (fun w' => w'.cell? ⟨sb, 0, none⟩ = some (.int .i64 (nn : Int)) ∧ w'.cell? ⟨sb, 1, none⟩ = some (.int .i64 (kk : Int)) ∧ w'.cell? ⟨sb, 2, none⟩ = some (.int .i64 0) ∧ w'.cell? ⟨sb, 3, none⟩ = some (.int .i64 rt))) (by kernel_rfl) ?_ (fun hHeld => ?_)
              · exact ⟨HMX.out.c0, HMX.out.c1, HMX.out.c2, HMX.out.c3⟩
              have HBd : Hid (Below Y.heap.size Y Y.drew) := below_drewN (Below.refl _ _) 1
              generalize hY1 : Y.drew = Y1 at *
              clear hY1
              refine rgY 1 ?_ rfl (by kernel_rfl) (fun _ _ _ h => h) (.inl ⟨by rfl, fun w hSw => ?_⟩) (by assumption) ?_
              rotate_left
              · (try dsimp only at hSw); go_simp; try with_reducible rfl
              simp only [Act.put, rg1, rg2, rg3, rg4, rg5, rg6]
              refine wpAnyH_ready (rs := [0, 6]) (by kernel_rfl) (by simp) ?_
              refine AllReadyH.cons rfl (fun K hK => ?_) (AllReadyH.cons rfl (fun K hK => ?_) AllReadyH.nil)
              · simp only [List.getElem_toArray, List.getElem_cons_succ, List.getElem_cons_zero]
                go_simp
                refine (small8_any _).mono ?_
                rintro e w4 ⟨rfl, hb4⟩
                have HB4 := Lib.hid (HBd.out.trans (hb4.mono HBd.out.size))
                have hg4 := HMX.out.next HB4.out
                clear hb4
                go_wp2_with (fail)
                refine hK.out _ _ ⟨hg4.c0, hg4.c1, hg4.c2, hg4.c3⟩ (fun hHeld => ?_)
                clear hK K hg4
                refine wpAnyH_ready (rs := [2, 6]) (by kernel_rfl) (by simp) ?_
                refine AllReadyH.cons rfl (fun K hK => ?_) (AllReadyH.cons rfl (fun K hK => ?_) AllReadyH.nil)
                · simp only [List.getElem_toArray, List.getElem_cons_succ, List.getElem_cons_zero]
                  go_simp
                  refine (HPUT.out _).mono ?_
                  rintro e w5 ⟨pg, rfl, hbk, hpl, hb5⟩
                  have HB5 := Lib.hid (HB4.out.trans (hb5.mono HB4.out.size))
                  have hg5 := HMX.out.next HB5.out
                  have HBK := Lib.hid hbk
                  clear hb5 hbk hpl
                  go_wp2_with (fail)
                  refine hK.out _ _ ⟨hg5.c0, hg5.c1, hg5.c2, hg5.c3⟩ (fun hHeld => ?_)
                  clear hK K
                  refine rgY 3 ?_ rfl (by kernel_rfl) (fun _ _ _ h => h) (.inl ⟨by rfl, fun w hSw => ?_⟩) (by assumption) ?_
                  rotate_left
                  · (try dsimp only at hSw); go_simp; try with_reducible rfl
                  simp only [Act.put, rg1, rg2, rg3, rg4, rg5, rg6]
                  refine rgY 4 ?_ rfl (by kernel_rfl) (fun _ _ _ h => h) (.inl ⟨by rfl, fun w hSw => ?_⟩) (by assumption) ?_
                  rotate_left
                  · (try dsimp only at hSw); go_simp; try with_reducible rfl
                  simp only [Act.put, rg1, rg2, rg3, rg4, rg5, rg6]
                  refine rgY 5 ?_ rfl (by kernel_rfl) (fun _ _ _ h => h) (.inl ⟨by rfl, fun w hSw => ?_⟩) (by assumption) ?_
                  rotate_left
                  · (try dsimp only at hSw); go_simp; try with_reducible rfl
                  simp only [Act.put, rg1, rg2, rg3, rg4, rg5, rg6]
                  refine wpAnyH_ready (rs := [6]) (by kernel_rfl) (by simp) ?_
                  refine AllReadyH.cons rfl (fun K hK => ?_) AllReadyH.nil
                  simp only [List.getElem_toArray, List.getElem_cons_succ, List.getElem_cons_zero]
                  go_simp
                  have hg6 := hg5.next ((Below.refl _ _).alloc (Nat.le_refl _) (.cells #[.int .i64 0, .int .i64 0, .slice none 0 0] 65 (0, 0)))
                  refine hK.out _ _ ⟨hg6.c0, hg6.c1, hg6.c2, hg6.c3⟩ (fun hHeld => ?_)
                  clear hK K hg6
                  refine wpAnyH_ready (rs := [7]) (by kernel_rfl) (by simp) ?_
                  refine AllReadyH.cons rfl (fun K hK => ?_) AllReadyH.nil
                  simp only [List.getElem_toArray, List.getElem_cons_succ, List.getElem_cons_zero]
                  go_simp
                  have hg7 := hg5.next ((Below.refl _ _).alloc (Nat.le_refl _) (.cells #[.int .i64 65535, .int .i64 0, .slice (some ⟨pg, 0, none⟩) 56 56] 65 (0, 0)))
                  refine hK.out _ _ ⟨hg7.c0, hg7.c1, hg7.c2, hg7.c3⟩ (fun hHeld => ?_)
                  clear hK K hg7 hg5
                  refine rgY 8 ?_ rfl (by kernel_rfl) (fun _ _ _ h => h) (.inl ⟨by rfl, fun w hSw => ?_⟩) (by assumption) ?_
                  rotate_left
                  · (try dsimp only at hSw); go_simp; try with_reducible rfl
                  simp only [Act.put, rg1, rg2, rg3, rg4, rg5, rg6]
                  have hgz := Gx.mk' w5 65535 0 (.slice (some ⟨pg, 0, none⟩) 56 56) 65
                  have hbz : Below Y.heap.size Y (w5.alloc (.cells #[.int .i64 65535, .int .i64 0, .slice (some ⟨pg, 0, none⟩) 56 56] 65 (0, 0))) := HB5.out.alloc HB5.out.size _
                  have hkz := HBK.out.below HBK.out.lt ((Below.refl w5.heap.size w5).alloc (Nat.le_refl _) (.cells #[.int .i64 65535, .int .i64 0, .slice (some ⟨pg, 0, none⟩) 56 56] 65 (0, 0)))
                  have HF := Lib.hid (And.intro hgz (And.intro hkz hbz))
                  clear hgz hkz hbz
                  refine wpAnyH_done (by kernel_rfl) ?_ _
                  clear hHeld
                  go_wp2_with (fail)
                  go_meet
                  exact ⟨_, pg, rfl, rfl, HF.out.1, HF.out.2.1, HF.out.2.2⟩
                · simp only [List.getElem_toArray, List.getElem_cons_succ, List.getElem_cons_zero]
                  go_simp
                  obtain ⟨tb, htb⟩ : ∃ tb, tb = w4.heap.size := ⟨_, rfl⟩
                  obtain ⟨w4a, hw4a⟩ : ∃ w4a, w4a = w4.alloc (.cells #[.int .i64 0, .int .i64 0, .slice none 0 0] 65 (0, 0)) := ⟨_, rfl⟩
                  have hm4 : Gx w4a tb 0 0 (.slice none 0 0) := by rw [hw4a, htb]; exact Gx.mk' _ _ _ _ _
                  have hb4a : Below Y.heap.size Y w4a := by rw [hw4a]; exact HB4.out.alloc HB4.out.size _
                  have htl : Y.heap.size ≤ tb := by rw [htb]; exact HB4.out.size
                  have hg4 := HMX.out.next hb4a
                  rw [← hw4a, ← htb]
                  clear hw4a htb
                  refine hK.out _ _ ⟨hg4.c0, hg4.c1, hg4.c2, hg4.c3⟩ (fun hHeld => ?_)
                  clear hK K hg4
                  refine wpAnyH_ready (rs := [2]) (by kernel_rfl) (by simp) ?_
                  refine AllReadyH.cons rfl (fun K hK => ?_) AllReadyH.nil
                  simp only [List.getElem_toArray, List.getElem_cons_succ, List.getElem_cons_zero]
                  go_simp
                  refine (HPUT.out _).mono ?_
                  rintro e w5 ⟨pg, rfl, hbk, hpl, hb5⟩
                  have HB5 := Lib.hid (hb4a.trans (hb5.mono hb4a.size))
                  have hg5 := HMX.out.next HB5.out
                  have HBK := Lib.hid hbk
                  have hm5 := hm4.next hb5
                  have HPT : Hid (pg ≠ tb) := by have := hm4.lt; unfold Hid; omega
                  clear hb5 hm4 hb4a hbk hpl
                  go_wp2_with (fail)
                  refine hK.out _ _ ⟨hg5.c0, hg5.c1, hg5.c2, hg5.c3⟩ (fun hHeld => ?_)
                  clear hK K
                  refine rgY 3 ?_ rfl (by kernel_rfl) (fun _ _ _ h => h) (.inl ⟨by rfl, fun w hSw => ?_⟩) (by assumption) ?_
                  rotate_left
                  · (try dsimp only at hSw); go_simp; try with_reducible rfl
                  simp only [Act.put, rg1, rg2, rg3, rg4, rg5, rg6]
                  refine rgY 4 ?_ rfl (by kernel_rfl) (fun _ _ _ h => h) (.inl ⟨by rfl, fun w hSw => ?_⟩) (by assumption) ?_
                  rotate_left
                  · (try dsimp only at hSw); go_simp; try with_reducible rfl
                  simp only [Act.put, rg1, rg2, rg3, rg4, rg5, rg6]
                  refine rgY 5 ?_ rfl (by kernel_rfl) (fun _ _ _ h => h) (.inl ⟨by rfl, fun w hSw => ?_⟩) (by assumption) ?_
                  rotate_left
                  · (try dsimp only at hSw); go_simp; try with_reducible rfl
                  simp only [Act.put, rg1, rg2, rg3, rg4, rg5, rg6]
                  have HM5 := Lib.hid hm5
                  have HTB : Hid (Y.heap.size ≤ tb) := htl
                  have r0 := hm5.c0
                  have r1 := hm5.c1
                  have r2 := hm5.c2
                  have q0 := hm5.f0
                  have q1 := hm5.f1
                  have q2 := hm5.f2
                  have rl := hm5.lt
                  have htne : sb ≠ tb := by have := HMX.out.lt; omega
                  have hg7 : M4 (setG w5 tb 65535 0 (.slice (some ⟨pg, 0, none⟩) 56 56)) sb (nn : Int) (kk : Int) 0 rt := by
                    have hne : ∀ j k : Nat, (⟨tb, j, none⟩ : Addr) ≠ ⟨sb, k, none⟩ := fun j k e => htne (congrArg Addr.block e).symm
                    refine ⟨by simpa [setG] using hg5.lt, ?_, ?_, ?_, ?_, by simpa [setG] using hg5.f0, by simpa [setG] using hg5.f1, by simpa [setG] using hg5.f2, by simpa [setG] using hg5.f3⟩
                    · rw [setG, set_othG (hne _ _), set_othG (hne _ _), set_othG (hne _ _)]; exact hg5.c0
                    · rw [setG, set_othG (hne _ _), set_othG (hne _ _), set_othG (hne _ _)]; exact hg5.c1
                    · rw [setG, set_othG (hne _ _), set_othG (hne _ _), set_othG (hne _ _)]; exact hg5.c2
                    · rw [setG, set_othG (hne _ _), set_othG (hne _ _), set_othG (hne _ _)]; exact hg5.c3
                  clear hm5 htl htne
                  refine wpAnyH_ready (rs := [7]) (by kernel_rfl) (by simp) ?_
                  refine AllReadyH.cons rfl (fun K hK => ?_) AllReadyH.nil
                  simp only [List.getElem_toArray, List.getElem_cons_succ, List.getElem_cons_zero]
                  go_simp
                  refine hK.out _ _ ⟨hg7.c0, hg7.c1, hg7.c2, hg7.c3⟩ (fun hHeld => ?_)
                  clear hK K hg7 hg5 r0 r1 r2 q0 q1 q2 rl
                  refine rgY 8 ?_ rfl (by kernel_rfl) (fun _ _ _ h => h) (.inl ⟨by rfl, fun w hSw => ?_⟩) (by assumption) ?_
                  rotate_left
                  · (try dsimp only at hSw); go_simp; try with_reducible rfl
                  simp only [Act.put, rg1, rg2, rg3, rg4, rg5, rg6]
                  have hgz := HM5.out.set3 65535 0 (.slice (some ⟨pg, 0, none⟩) 56 56)
                  have hbz : Below Y.heap.size Y (setG w5 tb 65535 0 (.slice (some ⟨pg, 0, none⟩) 56 56)) := HB5.out.setG HTB.out
                  have hkz : Blk (setG w5 tb 65535 0 (.slice (some ⟨pg, 0, none⟩) 56 56)) pg (sumL (nn : Int) (kk : Int) 0 rt) := blk_offG HBK.out HPT.out
                  have HF := Lib.hid (And.intro hgz (And.intro hkz hbz))
                  clear hgz hkz hbz
                  refine wpAnyH_done (by kernel_rfl) ?_ _
                  clear hHeld
                  go_wp2_with (fail)
                  go_meet
                  exact ⟨_, pg, rfl, rfl, HF.out.1, HF.out.2.1, HF.out.2.2⟩
              · simp only [List.getElem_toArray, List.getElem_cons_succ, List.getElem_cons_zero]
                go_simp
                obtain ⟨tb, htb⟩ : ∃ tb, tb = Y1.heap.size := ⟨_, rfl⟩
                obtain ⟨w3a, hw3a⟩ : ∃ w3a, w3a = Y1.alloc (.cells #[.int .i64 0, .int .i64 0, .slice none 0 0] 65 (0, 0)) := ⟨_, rfl⟩
                have hm3 : Gx w3a tb 0 0 (.slice none 0 0) := by rw [hw3a, htb]; exact Gx.mk' _ _ _ _ _
                have hb3a : Below Y.heap.size Y w3a := by rw [hw3a]; exact HBd.out.alloc HBd.out.size _
                have htl : Y.heap.size ≤ tb := by rw [htb]; exact HBd.out.size
                have hg3 := HMX.out.next hb3a
                rw [← hw3a, ← htb]
                clear hw3a htb
                refine hK.out _ _ ⟨hg3.c0, hg3.c1, hg3.c2, hg3.c3⟩ (fun hHeld => ?_)
                clear hK K hg3
                refine wpAnyH_ready (rs := [0]) (by kernel_rfl) (by simp) ?_
                refine AllReadyH.cons rfl (fun K hK => ?_) AllReadyH.nil
                simp only [List.getElem_toArray, List.getElem_cons_succ, List.getElem_cons_zero]
                go_simp
                refine (small8_any _).mono ?_
                rintro e w4 ⟨rfl, hb4⟩
                have hb4a := hb3a.trans (hb4.mono hb3a.size)
                have hm4 := hm3.next hb4
                have hg4 := HMX.out.next hb4a
                clear hb4 hm3 hb3a
                go_wp2_with (fail)
                refine hK.out _ _ ⟨hg4.c0, hg4.c1, hg4.c2, hg4.c3⟩ (fun hHeld => ?_)
                clear hK K hg4
                refine wpAnyH_ready (rs := [2]) (by kernel_rfl) (by simp) ?_
                refine AllReadyH.cons rfl (fun K hK => ?_) AllReadyH.nil
                simp only [List.getElem_toArray, List.getElem_cons_succ, List.getElem_cons_zero]
                go_simp
                refine (HPUT.out _).mono ?_
                rintro e w5 ⟨pg, rfl, hbk, hpl, hb5⟩
                have HB5 := Lib.hid (hb4a.trans (hb5.mono hb4a.size))
                have hg5 := HMX.out.next HB5.out
                have HBK := Lib.hid hbk
                have hm5 := hm4.next hb5
                have HPT : Hid (pg ≠ tb) := by have := hm4.lt; unfold Hid; omega
                clear hb5 hm4 hb4a hbk hpl
                go_wp2_with (fail)
                refine hK.out _ _ ⟨hg5.c0, hg5.c1, hg5.c2, hg5.c3⟩ (fun hHeld => ?_)
                clear hK K
                refine rgY 3 ?_ rfl (by kernel_rfl) (fun _ _ _ h => h) (.inl ⟨by rfl, fun w hSw => ?_⟩) (by assumption) ?_
                rotate_left
                · (try dsimp only at hSw); go_simp; try with_reducible rfl
                simp only [Act.put, rg1, rg2, rg3, rg4, rg5, rg6]
                refine rgY 4 ?_ rfl (by kernel_rfl) (fun _ _ _ h => h) (.inl ⟨by rfl, fun w hSw => ?_⟩) (by assumption) ?_
                rotate_left
                · (try dsimp only at hSw); go_simp; try with_reducible rfl
                simp only [Act.put, rg1, rg2, rg3, rg4, rg5, rg6]
                refine rgY 5 ?_ rfl (by kernel_rfl) (fun _ _ _ h => h) (.inl ⟨by rfl, fun w hSw => ?_⟩) (by assumption) ?_
                rotate_left
                · (try dsimp only at hSw); go_simp; try with_reducible rfl
                simp only [Act.put, rg1, rg2, rg3, rg4, rg5, rg6]
                have HM5 := Lib.hid hm5
                have HTB : Hid (Y.heap.size ≤ tb) := htl
                have r0 := hm5.c0
                have r1 := hm5.c1
                have r2 := hm5.c2
                have q0 := hm5.f0
                have q1 := hm5.f1
                have q2 := hm5.f2
                have rl := hm5.lt
                have htne : sb ≠ tb := by have := HMX.out.lt; omega
                have hg7 : M4 (setG w5 tb 65535 0 (.slice (some ⟨pg, 0, none⟩) 56 56)) sb (nn : Int) (kk : Int) 0 rt := by
                  have hne : ∀ j k : Nat, (⟨tb, j, none⟩ : Addr) ≠ ⟨sb, k, none⟩ := fun j k e => htne (congrArg Addr.block e).symm
                  refine ⟨by simpa [setG] using hg5.lt, ?_, ?_, ?_, ?_, by simpa [setG] using hg5.f0, by simpa [setG] using hg5.f1, by simpa [setG] using hg5.f2, by simpa [setG] using hg5.f3⟩
                  · rw [setG, set_othG (hne _ _), set_othG (hne _ _), set_othG (hne _ _)]; exact hg5.c0
                  · rw [setG, set_othG (hne _ _), set_othG (hne _ _), set_othG (hne _ _)]; exact hg5.c1
                  · rw [setG, set_othG (hne _ _), set_othG (hne _ _), set_othG (hne _ _)]; exact hg5.c2
                  · rw [setG, set_othG (hne _ _), set_othG (hne _ _), set_othG (hne _ _)]; exact hg5.c3
                clear hm5 htl htne
                refine wpAnyH_ready (rs := [7]) (by kernel_rfl) (by simp) ?_
                refine AllReadyH.cons rfl (fun K hK => ?_) AllReadyH.nil
                simp only [List.getElem_toArray, List.getElem_cons_succ, List.getElem_cons_zero]
                go_simp
                refine hK.out _ _ ⟨hg7.c0, hg7.c1, hg7.c2, hg7.c3⟩ (fun hHeld => ?_)
                clear hK K hg7 hg5 r0 r1 r2 q0 q1 q2 rl
                refine rgY 8 ?_ rfl (by kernel_rfl) (fun _ _ _ h => h) (.inl ⟨by rfl, fun w hSw => ?_⟩) (by assumption) ?_
                rotate_left
                · (try dsimp only at hSw); go_simp; try with_reducible rfl
                simp only [Act.put, rg1, rg2, rg3, rg4, rg5, rg6]
                have hgz := HM5.out.set3 65535 0 (.slice (some ⟨pg, 0, none⟩) 56 56)
                have hbz : Below Y.heap.size Y (setG w5 tb 65535 0 (.slice (some ⟨pg, 0, none⟩) 56 56)) := HB5.out.setG HTB.out
                have hkz : Blk (setG w5 tb 65535 0 (.slice (some ⟨pg, 0, none⟩) 56 56)) pg (sumL (nn : Int) (kk : Int) 0 rt) := blk_offG HBK.out HPT.out
                have HF := Lib.hid (And.intro hgz (And.intro hkz hbz))
                clear hgz hkz hbz
                refine wpAnyH_done (by kernel_rfl) ?_ _
                clear hHeld
                go_wp2_with (fail)
                go_meet
                exact ⟨_, pg, rfl, rfl, HF.out.1, HF.out.2.1, HF.out.2.2⟩
            case rest =>
              obtain ⟨xb, pb, rfl, rfl, hgx, hbk, hbw⟩ := hcut
              have HIZ := Lib.hid (HIY.out.next hbw)
              have HBK := Lib.hid hbk
              have y0 := hgx.c0
              have y1 := hgx.c1
              have y2 := hgx.c2
              have yl := hgx.lt
              have e8 : IntKind.u8.wrap (i : Int) = (i : Int) := by rw [IntKind.wrap_u8]; omega
              clear hgx hbk hbw
              go_wp2_with (fail)
              obtain ⟨Y2, hY2⟩ : ∃ Y2, Y2 = wc.alloc (.cells #[.int .u8 (i : Int)] 5 (0, 0)) := ⟨_, rfl⟩
              have hs2 : Y2.heap.size = wc.heap.size + 1 := by rw [hY2]; simp
              have hb2 : Below wc.heap.size wc Y2 := by rw [hY2]; exact (Below.refl _ _).alloc (Nat.le_refl _) _
              have hc2 : Y2.cell? ⟨wc.heap.size, 0, none⟩ = some (.int .u8 (i : Int)) := by rw [hY2]; simp
              have hpin := (HBK.out.pin (sumL_small _ _ _ _) (sumL_len _ _ _ _) (Nat.le_refl 56) (by omega)).next hb2
              obtain ⟨Y3, hY3⟩ : ∃ Y3, Y3 = Y2.alloc (.cells #[.int .i64 65535, .int .i64 0, .slice (some ⟨pb, 0, none⟩) 56 56, .int .i64 1, .int .i64 0, .slice (some ⟨wc.heap.size, 0, none⟩) 1 1] 65 (0, 0)) := ⟨_, rfl⟩
              obtain ⟨hbl, hb3⟩ := fF_bls hpin (z := (i : Int)) (by omega) (by omega) (y := wc.heap.size) (by omega) hc2 hY3
              rw [hs2] at hbl
              have hI3 := (HIZ.out.next hb2).next hb3
              have hnb := HNB.out
              have he := fF_enc hbl (q := q0 + ((N + kk : Nat) : Int)) (by omega) (by omega)
              rw [← hY2, ← hY3]
              have ec : ((N + kk : Nat) : Int) = (N : Int) + (kk : Int) := by omega
              rw [← ec]
              refine (st_write (B := B0) sml0 ((N + kk : Nat) : Int) (q0 + ((N + kk : Nat) : Int)) _ 2 2 _ hI3.st hbl (by omega)).mono ?_
              rintro e9 w9 hpo
              obtain ⟨rfl, R2, C2, hi9⟩ := hI3.write HNN.out hkn hnb.2.1 (by omega) q1 q2 HRB.out.1 HRB.out.2 he (fF_small (sumL_small _ _ _ _) (by omega) (by omega)) fF_at.1 fF_at.2.1 (by rw [← HRT.out]; exact fF_at.2.2) hpo
              have HI9 := Lib.hid hi9
              have z2 := hi9.gx.c2
              have zl := hi9.gx.lt
              clear hY2 hs2 hb2 hc2 hpin hY3 hbl hb3 hI3 hnb he ec hpo hi9 y0 y1 y2 yl e8 HIZ HBK
              have hal : ∀ o, Below w9.heap.size w9 (w9.alloc o) := fun o => (Below.refl _ _).alloc (Nat.le_refl _) o
              have hI10 := HI9.out.next (hal (.cells #[.int .i64 ((N + kk : Nat) : Int)] 3 (0, 0)))
              have HI10 := Lib.hid hI10
              have hbh : bx + 1 ≤ (w9.alloc (.cells #[.int .i64 ((N + kk : Nat) : Int)] 3 (0, 0))).heap.size := hI10.gx.lt
              have HBH := Lib.hid hbh
              clear hal hI10 hbh
              go_wp2_with (at_builtin; go_must (refine wpList_apnF rfl (.tmp 115) (.tmp 117) rfl (bx + 1) v kk (segF kk N) rfl HI10.out.own w9.heap.size ((N + kk : Nat) : Int) rfl (by simp) (by have := HNB.out; omega) HBH.out ?_); intro g' cap w' ho hg hat; have HO2 := Lib.hid (And.intro ho (And.intro hg hat)); have hst2 := grown_at hg HI10.out.gx.c2 HI10.out.gx.f2 HI10.out.gx.lt (fun e => by have := (HI10.out.own.lt bx e.symm).1; omega); have s1 := hst2.1; have s2 := hst2.2.1; have s3 := hst2.2.2; clear ho hg hat hst2)
              obtain ⟨ho, hg, hat⟩ := HO2.out
              have hq1 := q1
              have hq2 := q2
              have hnb := HNB.out
              have ho' : OwnI w' (bx + 1) (.slice (some ⟨g', 0, none⟩) (kk + 1) cap) (kk + 1) (segF kk N ++ [((N : Int) + kk)]) := by
                have e : ((N + kk : Nat) : Int) = (N : Int) + kk := by omega
                rw [e] at ho
                exact ho
              have hseg := HI10.out.seg ho' hg (hat.imp id fun e => by rw [e]; exact Nat.le_refl _)
              refine ⟨⟨kk + 1, _, _, _, _, by omega, ?_, ?_, ?_, hseg⟩, ?_⟩
              · rw [w64_in _ (by omega) (by omega)]; exact congrArg (Value.int IntKind.i64) (by omega)
              · rw [w64_in _ (by omega) (by omega)]; exact congrArg (Value.int IntKind.i64) (by omega)
              · rw [w64_in _ (by omega) (by omega)]; exact congrArg (Value.int IntKind.i64) (by omega)
              · rw [w64_in _ (by omega) (by omega)]; simp [RowKit.intOf]; omega
        · obtain rfl : kk = nn := by omega
          obtain ⟨a2, c2, rfl, _⟩ := hi.rows HOO.out
          have x0 := hi.gx.c0
          have x1 := hi.gx.c1
          have x2 := hi.gx.c2
          have lx := hi.gx.lt
          have hI4 := hi.next ((Below.refl _ _).alloc (Nat.le_refl _) (.cells #[.int .i64 (q0 + (N : Int)), .int .i64 r, .slice a2 kk c2] 63))
          obtain ⟨a3, c3, e3, hog, hoi, hap⟩ := hI4.rows HOO.out
          cases e3
          have hbw : w7.heap.size ≤ (wr.alloc (.cells #[.int .i64 (q0 + (N : Int)), .int .i64 r, .slice a2 kk c2] 63)).heap.size := by have := hi.hB; simp; omega
          have HI4 := Lib.hid hI4
          have HOG := Lib.hid hog
          have HOI := Lib.hid hoi
          have HAP := Lib.hid hap
          have HBW := Lib.hid hbw
          clear hi hI4 hog hoi hap hbw
          go_wp2_with (at_builtin; go_must (refine wpList_apgF rfl (.tmp 124) (.tmp 126) rfl w7.heap.size u12 i F rfl HOG.out wr.heap.size ⟨q0 + (N : Int), r, a2, kk, c2, segF kk N⟩ rfl (gcc_new _ ⟨q0 + (N : Int), r, a2, kk, c2, segF kk N⟩ _) HOI.out HAP.out (by omega) HBW.out ?_); intro g' cap w' ho hg hat hlt2; have HO2 := Lib.hid (And.intro ho (And.intro hg (And.intro hat hlt2))); clear ho hg hat hlt2)
          obtain ⟨ho2, hg2, hat2, hlt3⟩ := HO2.out
          have hnb := HNB.out
          obtain ⟨hfin, hlen⟩ := HI4.out.done HOO.out HNN.out (by omega) (by omega) (by omega) (by omega) ho2 hg2 hat2 hlt3
          refine ⟨⟨i + 1, _, _, _, _, _, _, by omega, congrArg (Value.int IntKind.i64) (by rw [hlen]; omega), congrArg (Value.int IntKind.i64) (by rw [hlen]; omega), congrArg (Value.int IntKind.i64) (by omega), hfin⟩, by simp [RowKit.intOf]; omega⟩
    · obtain rfl : i = n := by omega
      obtain ⟨N, hN⟩ : ∃ N, N = (flatB Ks).length := ⟨_, rfl⟩
      have hmost := ho.row.most
      have hz0 : N = 0 → i = 0 := fun e => by
        have h1 := ho.row.groups
        rw [List.length_eq_zero_iff.1 (hN.symm.trans e)] at h1
        have h2 := (RowF.zero q0).groups
        have h3 := h1.uniq h2 (List.Perm.refl _)
        have h4 := ho.row.num
        rw [h3] at h4
        exact h4.symm
      rw [← hN] at hmost ⊢
      obtain ⟨fl, hfl, hand⟩ := andF f 3 (by omega)
      have hand' : bits .and .i64 f 3 = (fl : Int) := hand
      obtain ⟨aw, cw, ew, _⟩ := ho.own.grs
      subst ew
      have hdm := st_doom (fl : Int) 0 ho.st (by omega)
      obtain ⟨d1, d2⟩ := ho.vd.doom (i := fl) (by omega)
      rw [d1] at hdm
      have HOO := Lib.hid ho
      have HNN := Lib.hid hN
      have HZ := Lib.hid hz0
      have HMO := Lib.hid hmost
      obtain ⟨R2, hR2⟩ : ∃ R2, R2 = R.doom (fl : Int) 0 := ⟨_, rfl⟩
      rw [← hR2] at hdm d2
      have HV2 := Lib.hid d2
      clear hR2 d1 d2 ho hN hand hz0 hmost hfl
      go_wp2_with (fail)
      refine hdm.mono ?_
      rintro e w9 ⟨rfl, hst9, ht9⟩
      rw [HV2.out.hn] at ht9
      have hfls := st_flush (n := 3) hst9 rfl (by omega)
      obtain ⟨f1, f2⟩ := HV2.out.flush0
      rw [f1] at hfls
      obtain ⟨R3, hR3⟩ : ∃ R3, R3 = (flG B0 R2 B0.num).2.2 := ⟨_, rfl⟩
      rw [← hR3] at hfls f2
      obtain ⟨bad, hbad⟩ : ∃ bad, bad = orD noD (fun j => noD j || j == fl) := ⟨_, rfl⟩
      have hone : One bad fl := by rw [hbad]; exact one_doom fl
      rw [← hbad] at f2
      have HV3 := Lib.hid f2
      have HC := Lib.hid hone.cnt
      have HT9 := Lib.hid ht9
      clear hdm hst9 ht9 f1 f2 hR3 hbad hone HV2
      go_wp2_with (fail)
      refine hfls.mono ?_
      rintro e w10 ⟨rfl, hst10, ht10⟩
      rw [HV3.out.hn] at ht10
      obtain ⟨l1, l2⟩ := HOO.out.wr.look HV3.out HC.out q1
      have hlk := look_on ⟨rfl, rfl, rfl⟩ hst10 HV3.out.off
      rw [l1, l2, ← HNN.out] at hlk
      have HT10 := Lib.hid (HT9.out.trans ht10)
      have HB10 := Lib.hid hst10.bel
      clear hfls hst10 ht10 l1 l2
      go_wp2_with (fail)
      refine hlk.mono ?_
      rintro e w11 ⟨v, m, rfl, hof, hb11⟩
      obtain ⟨al, cl, rfl, hifs, _⟩ := hof.ifs
      have hm := hof.len
      have HT11 := Lib.hid (HT10.out.trans (Turn.of_below hb11))
      have HB11 := Lib.hid (HB10.out.trans (hb11.mono HB10.out.size))
      have hsm := HOO.out.row.small
      have hgp := groups_any al m cl (flatB Ks) w11 hifs (fun x hx => by have := hsm x hx; exact ⟨by omega, by omega⟩) (by have := HMO.out; have := HNN.out; have := HN.out; omega)
      have HG := Lib.hid hgp
      clear hlk hof hb11 hifs hsm hgp
      have hmo := HMO.out
      have hn5 := HN.out
      by_cases h0 : i = 0
      · have e1 : (if N = 0 then (0 : Int) else q0 + (N : Int) - 1) = 0 := if_pos (by omega)
        have e2 : IntKind.i64.wrap (q0 + (N : Int) - 1) = q0 + (N : Int) - 1 := IntWalk.i64_in _ (by omega)
        have e3 : ¬ (0 : Int) < (i : Int) := by omega
        have e4 : ((i : Int) == 0) = true := beq_iff_eq.2 (by omega)
        rw [e1]
        clear h0
        go_wp2_with (fail)
        refine HG.out.mono ?_
        rintro e w12 ⟨v2, n2, F2, rfl, hog2, hgo2, _, hb12⟩
        have hFF : F2.map Gc.gr = F.map Gc.gr := by
          rw [hgo2.uniq HOO.out.row.groups (List.Perm.refl _), HOO.out.grs]
        obtain ⟨a2, c2, rfl, hgr2, _⟩ := hog2.grs
        have hown := HOO.out.own.turnM (HT11.out.trans (Turn.of_below hb12)) (fun g hg _ x => by have := HOO.out.lB g x; omega)
        obtain ⟨a3, c3, e3', hgr3, _⟩ := hown.grs
        cases e3'
        obtain rfl : n2 = i := by
          have := congrArg List.length hFF
          rw [List.length_map, List.length_map, hgr2.len, hgr3.len] at this
          exact this
        have hsy := same_yes a2 aw n2 c2 cw F2 F w12 hgr2 hgr3 (by omega) hFF (fun x hx => by
          have h1 := (hgr2.each x hx).len
          have h2 : x.gr ∈ Gs := by rw [← HOO.out.grs, ← hFF]; exact List.mem_map.2 ⟨x, hx, rfl⟩
          have h3 := HOO.out.row.few _ h2
          have h4 : x.gr.s = x.s := rfl
          rw [h4] at h3
          omega)
        have HB12 := Lib.hid (HB11.out.trans (hb12.mono HB11.out.size))
        clear hog2 hgo2 hb12 hFF hgr2 hown hgr3
        go_wp2_with (fail)
        refine hsy.mono ?_
        rintro e w13 ⟨rfl, hb13⟩
        go_wp2_with (fail)
        go_ret
        exact ⟨rfl, HB12.out.trans (hb13.mono HB12.out.size)⟩
      · have hNp : N ≠ 0 := fun e => h0 (HZ.out e)
        have e1 : (if N = 0 then (0 : Int) else q0 + (N : Int) - 1) = q0 + (N : Int) - 1 := if_neg hNp
        have e2 : IntKind.i64.wrap (q0 + (N : Int) - 1) = q0 + (N : Int) - 1 := IntWalk.i64_in _ (by omega)
        have e3 : (0 : Int) < (i : Int) := by omega
        have e4 : ((i : Int) == 0) = false := beq_eq_false_iff_ne.2 (by omega)
        rw [e1]
        go_wp2_with (fail)
        refine HG.out.mono ?_
        rintro e w12 ⟨v2, n2, F2, rfl, hog2, hgo2, _, hb12⟩
        have hFF : F2.map Gc.gr = F.map Gc.gr := by
          rw [hgo2.uniq HOO.out.row.groups (List.Perm.refl _), HOO.out.grs]
        obtain ⟨a2, c2, rfl, hgr2, _⟩ := hog2.grs
        have hown := HOO.out.own.turnM (HT11.out.trans (Turn.of_below hb12)) (fun g hg _ x => by have := HOO.out.lB g x; omega)
        obtain ⟨a3, c3, e3', hgr3, _⟩ := hown.grs
        cases e3'
        obtain rfl : n2 = i := by
          have := congrArg List.length hFF
          rw [List.length_map, List.length_map, hgr2.len, hgr3.len] at this
          exact this
        have hsy := same_yes a2 aw n2 c2 cw F2 F w12 hgr2 hgr3 (by omega) hFF (fun x hx => by
          have h1 := (hgr2.each x hx).len
          have h2 : x.gr ∈ Gs := by rw [← HOO.out.grs, ← hFF]; exact List.mem_map.2 ⟨x, hx, rfl⟩
          have h3 := HOO.out.row.few _ h2
          have h4 : x.gr.s = x.s := rfl
          rw [h4] at h3
          omega)
        have HB12 := Lib.hid (HB11.out.trans (hb12.mono HB11.out.size))
        clear hog2 hgo2 hb12 hFF hgr2 hown hgr3
        go_wp2_with (fail)
        refine hsy.mono ?_
        rintro e w13 ⟨rfl, hb13⟩
        go_wp2_with (fail)
        go_ret
        exact ⟨rfl, HB12.out.trans (hb13.mono HB12.out.size)⟩
end Go.Proofs.YtegmeoghonolcaaGreat
