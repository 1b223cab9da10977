/-
  The statements' first line, by contract.
-/
import Derived.Test.YtegcjpocdfmpfaaVaz
set_option linter.unusedVariables false
set_option linter.unusedSimpArgs false
set_option maxRecDepth 100000
set_option maxHeartbeats 16000000
namespace Go.Proofs.Ytegcjpocdfmpfaa
open Go.RowKit

def AvR (wb w : World) (gs : List Bl) (g i : Nat) : Prop := ∃ vA vD, StG w wb.heap.size g vA vD (alA.take i) ((gs.take i).map fun x => ⟨x.a, x.n, x.c, x.z⟩) ∧ Below wb.heap.size wb w
theorem alive_any (w : World) : Calls Try.prog 11 #[] w fun e w' => e = .returned (.bool true) ∧ Below w.heap.size w w' := by
  go_enter Try.func11, Try.ntmps11
  go_wp2_with (fail)
  refine (small_any w).mono ?_
  rintro e w1 ⟨rfl, hb1⟩
  go_wp2_with (fail)
  refine (root_any w1).mono ?_
  rintro e w2 ⟨b2, rfl, hn2, hb2l, hb2⟩
  have HB2 := Lib.hid (hb1.trans (hb2.mono hb1.size))
  have HN2 := Lib.hid hn2
  clear hb1 hn2 hb2
  have h3 := heap_alloc_new w2 (.cells #[.int .i64 3, .int .i64 4, .int .i64 5, .int .i64 9] 3)
  have hb3 : Below w2.heap.size w2 (w2.alloc (.cells #[.int .i64 3, .int .i64 4, .int .i64 5, .int .i64 9] 3)) := (Below.refl _ _).alloc (Nat.le_refl _) _
  have hi3 : Ins (w2.alloc (.cells #[.int .i64 3, .int .i64 4, .int .i64 5, .int .i64 9] 3)) (some ⟨w2.heap.size, 0, none⟩) 4 alA := by
    refine ⟨rfl, .inr ⟨_, 0, rfl, lt_of_block h3, fun i hi => ?_⟩⟩
    rw [cell_of_row _ _ _ _ _ (0, 0) h3]
    obtain rfl | rfl | rfl | rfl : i = 0 ∨ i = 1 ∨ i = 2 ∨ i = 3 := by omega
    all_goals rfl
  have HI3 := Lib.hid hi3
  have HB3 := Lib.hid hb3
  clear hi3 hb3 h3
  go_wp2_with (fail)
  refine (pbuild_any 3 3 12 _ _ 1 1 4 4 (fun _ => rootN) alA _ (HN2.out.next HB3.out) (by decide) HI3.out (by decide)).mono ?_
  rintro e w4 ⟨hb4, hv4⟩
  rw [al_bld, if_pos rfl] at hv4
  obtain ⟨ao, co, gs, rfl, hbls, hgs⟩ := hv4
  have hgl : gs.length = 4 := by
    have := congrArg List.length hgs
    rw [List.length_map] at this
    rw [this]
    exact alL_len
  have HB4 := Lib.hid (HB2.out.trans ((HB3.out.trans (hb4.mono HB3.out.size)).mono HB2.out.size))
  have HBL := Lib.hid hbls
  have HGS := Lib.hid hgs
  have HGL := Lib.hid hgl
  rw [hgl]
  clear hb4 hbls hgs hgl HI3 HB3 HN2
  go_wp2_with (fail)
  refine (small_any w4).mono ?_
  rintro e w5 ⟨rfl, hb5⟩
  go_wp2_with (fail)
  refine (root_any w5).mono ?_
  rintro e w6 ⟨b6, rfl, hn6, _, hb6⟩
  go_wp2_with (fail)
  refine (pcount_any 3 3 12 _ 1 1 (fun _ => rootN) w6 hn6 (by decide)).mono ?_
  rintro e w7 ⟨rfl, hb7⟩
  rw [al_cnt]
  have hb8 := hb5.trans ((hb6.trans (hb7.mono hb6.size)).mono hb5.size)
  have HB7 := Lib.hid (HB4.out.trans (hb8.mono HB4.out.size))
  have HBL7 := Lib.hid (HBL.out.next hb8)
  clear hb5 hb6 hn6 hb7 hb8 HB4 HBL HB2
  have HST := Lib.hid (stG_new w7 w7.heap.size (Nat.le_refl _))
  have HBS := Lib.hid ((Below.refl w7.heap.size w7).alloc (Nat.le_refl _) (.cells #[.slice none 0 0, .slice none 0 0] 43 (0, 0)))
  go_wp2_with (fail)
  go_loopw [4] (fun v wr => ∃ i : Nat, i ≤ 4 ∧ v = .int .i64 i ∧ AvR w7 wr gs w7.heap.size i) (fun v _ => 4 - (RowKit.intOf v).toNat)
  case atStart => exact ⟨0, by omega, rfl, _, _, HST.out, HBS.out⟩
  case round =>
    obtain ⟨i, hi, rfl, vA, vD, hst, hbr⟩ := hrel
    have HS := Lib.hid hst
    have HB := Lib.hid hbr
    clear hst hbr HST HBS
    obtain ⟨l1, c0, c1, f0, f1⟩ := HS.out.cells
    obtain ⟨i0, hi0, hz0, hz1, hz2⟩ := info_parts info3
    by_cases hlt : i < 4
    · have k1 : (i : Int) < 4 := by omega
      have d0 : decide ((i : Int) < 4) = true := decide_eq_true (by omega)
      have hlen : (alA.take i).length = i := by rw [List.length_take]; exact Nat.min_eq_left (by show i ≤ 4; omega)
      have HO := Lib.hid HS.out.oa
      rw [hlen] at HO
      have hA5 : ∀ t fr, (wr.alloc (.cells #[Value.int .i64 3, Value.int .i64 4, Value.int .i64 5, Value.int .i64 9] t fr)).cell? ⟨wr.heap.size, i, none⟩ = some (.int .i64 (num alA i)) := by
        intro t fr
        rw [cell_of_row _ _ _ _ _ _ (heap_alloc_new wr _)]
        obtain rfl | rfl | rfl | rfl : i = 0 ∨ i = 1 ∨ i = 2 ∨ i = 3 := by omega
        all_goals rfl
      go_upto_region 8 with fail
      go_region_law (refine step_append_lies _ rfl (.tmp 38) (.tmp 43) 25 rfl w7.heap.size 3 i0 (.int .i64 0) 1 8 Try.underlying25 hi0 hz0 hz1 hz2 rfl (by decide) vA i _ (by simp [Act.eval, Act.put]) (by exact own2 HO.out) ⟨wr.heap.size + 1, 0, none⟩ 1 1 [.int .i64 (num alA i)] (by simp [Act.eval, Act.put]) rfl (by exact new2 wr _ _ _) (by simp; rfl) (by decide) (by unfold maxLen; omega) (by omega) (by simp [World.drew]; omega) (wr.heap.size + 2) (by simp [World.drew]) ?_; intro g1 cap1 w8 ho8 hg8 ha8 hl8; have HG8 := Lib.hid hg8; have HO8 := Lib.hid ho8; have HA8 := Lib.hid ha8; obtain ⟨m1, m2, m3, m4, m5⟩ := HS.out.far (bl2 wr _ _) hg8 HS.out.na; clear hg8 ho8 ha8)
      all_goals (
        obtain ⟨hS9, hB9⟩ := HS.out.putA HB.out HB.out.size (bl2 wr _ _) hlen HO8.out HG8.out HA8.out (by simp [World.drew])
        obtain ⟨w9, hw9⟩ : ∃ w9, w9 = w8.setCell ⟨w7.heap.size, 0, none⟩ (.slice (some ⟨g1, 0, none⟩) (i + 1) cap1) := ⟨_, rfl⟩
        rw [← hw9] at hS9 hB9 ⊢
        have HS9 := Lib.hid hS9
        have HB9 := Lib.hid hB9
        clear hw9 hS9 hB9 HO8 HG8 HA8 HO hA5 m1 m2 m3 m4 m5 hl8 c0 c1 f0 f1
        obtain ⟨l1, c0, c1, f0, f1⟩ := HS9.out.cells)
      all_goals (
        rcases HBL7.out.next (HB9.out) with h0 | ⟨b, off, rfl, hbl, hcs⟩
        · have := HGL.out; omega
        have hgi : i < gs.length := by rw [HGL.out]; exact hlt
        obtain ⟨x, hxe⟩ : ∃ x, x = gs[i] := ⟨_, rfl⟩
        have c2 := (hcs i hgi).c2
        rw [← hxe] at c2
        have HXE := Lib.hid hxe
        clear hcs hxe
        have hlend : ((gs.take i).map fun x : Bl => (⟨x.a, x.n, x.c, x.z⟩ : Pc)).length = i := by rw [List.length_map, List.length_take]; omega
        have HD := Lib.hid HS9.out.od
        rw [hlend] at HD
        obtain ⟨i1, hi1, hy0, hy1, hy2⟩ := info_parts infoS
        have HSZ := Lib.hid HB9.out.size
        go_upto_region 9 with fail
        go_region_law (refine step_append_lies _ rfl (.tmp 51) (.tmp 57) 39 rfl w7.heap.size 50 i1 (.slice none 0 0) 1 24 Try.underlying39 hi1 hy0 hy1 hy2 rfl (by decide) vD i _ (by simp [Act.eval, Act.put]) (by exact own1 HD.out) ⟨w9.heap.size, 0, none⟩ 1 1 [.slice x.a x.n x.c] (by simp [Act.eval, Act.put]) rfl (by exact new1 w9 _ _) (by simp; rfl) (by decide) (by unfold maxLen; omega) (by omega) (by have := HSZ.out; simp [World.drew]; omega) (w9.heap.size + 1) (by simp [World.drew]) ?_; intro g2 cap2 w10 ho8 hg8 ha8 hl8; have HG8 := Lib.hid hg8; have HO8 := Lib.hid ho8; have HA8 := Lib.hid ha8; obtain ⟨m1, m2, m3, m4, m5⟩ := HS9.out.far (bl1 w9 _) hg8 HS9.out.nd; clear hg8 ho8 ha8)
        all_goals (
          obtain ⟨hS9, hB9⟩ := HS9.out.putD HB9.out HB9.out.size (bl1 w9 _) (p := ⟨x.a, x.n, x.c, x.z⟩) hlend HO8.out HG8.out HA8.out (by simp [World.drew])
          have hta : alA.take (i + 1) = alA.take i ++ [num alA i] := by
            obtain rfl | rfl | rfl | rfl : i = 0 ∨ i = 1 ∨ i = 2 ∨ i = 3 := by omega
            all_goals rfl
          have htd : (gs.take (i + 1)).map (fun x : Bl => (⟨x.a, x.n, x.c, x.z⟩ : Pc)) = (gs.take i).map (fun x : Bl => (⟨x.a, x.n, x.c, x.z⟩ : Pc)) ++ [⟨x.a, x.n, x.c, x.z⟩] := by
            rw [List.take_succ_eq_append_getElem hgi, List.map_append, HXE.out]
            rfl
          rw [← hta, ← htd] at hS9
          have HS10 := Lib.hid hS9
          have HB10 := Lib.hid hB9
          clear hS9 hB9 HO8 HG8 HA8 m1 m2 m3 m4 m5 hl8 c0 c1 c2 f0 f1 hta htd hlen hlend hbl HBL7
          go_wp2_with (fail)
          go_roundw
          case rel => exact ⟨i + 1, by omega, by go_num, _, _, HS10.out, HB10.out⟩
          case measure => simp [RowKit.intOf]; omega))
    · obtain rfl : i = 4 := by omega
      have htd : (gs.take 4).map (fun x : Bl => (⟨x.a, x.n, x.c, x.z⟩ : Pc)) = gs.map fun x : Bl => (⟨x.a, x.n, x.c, x.z⟩ : Pc) := by
        rw [← HGL.out, List.take_length]
      have HT := Lib.hid htd
      clear hlt hi htd
      clear hi0 hz0 hz1 hz2
      go_wp2_with (fail)
      obtain ⟨ps, hps⟩ : ∃ ps : List Pc, ps = gs.map fun x : Bl => (⟨x.a, x.n, x.c, x.z⟩ : Pc) := ⟨_, rfl⟩
      have hzs : ∀ j, j < 4 → (ps.getD j default).zs = (alL.getD j default).z := by
        intro j hj
        have h1 : (gs.map Bl.bk).getD j default = alL.getD j default := by rw [HGS.out]; rfl
        have hjg : j < gs.length := by rw [HGL.out]; exact hj
        rw [← h1, hps]
        simp [List.getD, hjg, Bl.bk]
      have hblk : blkF alA (fun i => ps.getD i default) = alB := by
        funext q
        unfold alB
        exact blkF_same (fun j hj => by rw [hzs j hj])
      have hpin : ∀ p, p ∈ ps → Pin wr p.a p.n p.c p.zs ∧ p.n ≤ 1000000000000 := by
        intro p hp
        rw [hps] at hp
        obtain ⟨x, hx, rfl⟩ := List.mem_map.1 hp
        obtain ⟨j, hj, rfl⟩ := List.getElem_of_mem hx
        rcases HBL7.out.next HB.out with h0 | ⟨b, off, rfl, hbl, hcs⟩
        · omega
        have h1 := (hcs j hj).pin
        refine ⟨h1, ?_⟩
        have h2 := h1.len
        have hj4 : j < 4 := by rw [← HGL.out]; exact hj
        have h3 := hzs j hj4
        rw [hps] at h3
        simp only [List.getD, List.getElem?_map, List.getElem?_eq_getElem hj] at h3
        have h4 := List.all_eq_true.1 al_z j (List.mem_range.2 hj4)
        rw [decide_eq_true_eq] at h4
        simp only [Option.map_some, Option.getD_some] at h3
        have h5 : gs[j].z.length = 56 := by rw [h3]; exact h4
        show gs[j].n ≤ 1000000000000
        omega
      have hst := HS.out
      rw [HT.out, ← hps] at hst
      obtain ⟨A, cA, Dt, cD, hsto⟩ := hst.sto hpin (by rw [hps, List.length_map, HGL.out]; rfl) (by decide)
      have HSTO := Lib.hid hsto
      have HBK := Lib.hid hblk
      clear hst hpin hzs hblk hsto
      refine (small_any wr).mono ?_
      rintro e w11 ⟨rfl, hb11⟩
      go_wp2_with (fail)
      refine (pload_any 3 3 12 w7.heap.size A _ cA Dt _ cD alA (fun i => ps.getD i default) 9 w11 (HSTO.out.next hb11)).mono ?_
      rintro e w12 ⟨hb12, hv⟩
      rw [HBK.out, al_ld] at hv
      obtain ⟨al, nl, cl, ai, ci, fl, rfl, hnl, hok, hln, hil⟩ := hv
      obtain rfl : nl = 1 := by
        have := congrArg List.length hln
        simpa [lnL] using this
      have hf0 : (fl 0).nd = rootN.nd := by
        have : (lnL fl 1).getD 0 default = rootN.nd := by rw [hln]; rfl
        simpa [lnL] using this
      have HB12 := Lib.hid (HB7.out.trans ((HB.out.trans ((hb11.trans (hb12.mono hb11.size)).mono HB.out.size)).mono HB7.out.size))
      have HNL := Lib.hid hnl
      have HIL := Lib.hid hil
      have HF0 := Lib.hid hf0
      clear hb11 hb12 hnl hok hln hil hf0 HBK HSTO HBL7 HB HS HT HB7
      go_wp2_with (fail)
      refine (root_any w12).mono ?_
      rintro e w13 ⟨b13, rfl, hn13, _, hb13⟩
      go_wp2_with (fail)
      refine (sameList_yes al (some ⟨b13, 0, none⟩) 1 cl 1 fl (fun _ => rootN) w13 (HNL.out.next hb13) hn13 (by decide) (fun j hj => ?_)).mono ?_
      · obtain rfl : j = 0 := by omega
        refine ⟨HF0.out, ?_⟩
        have h1 : (fl 0).ks = [] := congrArg Nd.ads HF0.out
        rcases HNL.out with h0 | ⟨b, off, e, hl, hcs⟩
        · omega
        have h2 := (hcs 0 (by omega)).ins.len
        rw [h1] at h2
        simp at h2
        omega
      rintro e w14 ⟨rfl, hb14⟩
      have h15 := heap_alloc_new w14 (.cells #[.int .i64 9, .int .i64 4, .int .i64 5, .int .i64 3] 3)
      have hb15 : Below w14.heap.size w14 (w14.alloc (.cells #[.int .i64 9, .int .i64 4, .int .i64 5, .int .i64 3] 3)) := (Below.refl _ _).alloc (Nat.le_refl _) _
      have hi15 : Ins (w14.alloc (.cells #[.int .i64 9, .int .i64 4, .int .i64 5, .int .i64 3] 3)) (some ⟨w14.heap.size, 0, none⟩) 4 [9, 4, 5, 3] := by
        refine ⟨rfl, .inr ⟨_, 0, rfl, lt_of_block h15, fun i hi => ?_⟩⟩
        rw [cell_of_row _ _ _ _ _ (0, 0) h15]
        obtain rfl | rfl | rfl | rfl : i = 0 ∨ i = 1 ∨ i = 2 ∨ i = 3 := by omega
        all_goals rfl
      have hb16 := hb13.trans ((hb14.trans (hb15.mono hb14.size)).mono hb13.size)
      have HI15 := Lib.hid hi15
      have HI2 := Lib.hid (HIL.out.next hb16)
      have HB16 := Lib.hid (HB12.out.trans (hb16.mono HB12.out.size))
      clear hb13 hb14 hb15 hb16 hn13 h15 hi15
      go_wp2_with (fail)
      refine (sameInts_yes ai (some ⟨w14.heap.size, 0, none⟩) 4 ci 4 [9, 4, 5, 3] _ HI2.out HI15.out (by decide)).mono ?_
      rintro e w17 ⟨rfl, hb17⟩
      have HB17 := Lib.hid (HB16.out.trans (hb17.mono HB16.out.size))
      clear hb17
      go_wp2_with (fail)
      go_ret
      exact ⟨rfl, HB17.out⟩
end Go.Proofs.Ytegcjpocdfmpfaa
