/-
  The statements' first line: blocks that the document fixes. SameInts by contract.
-/
import Derived.Test.YtgedgkdnjnbijaaPi
namespace Go.Proofs.Ytgedgkdnjnbijaa
open Go.RowKit
set_option linter.unusedVariables false
set_option linter.unusedSimpArgs false

theorem cells_ins {w : World} {g n : Nat} {ks : List Int} (h : w.heap[g]? = some (.cells (ks.map (Value.int .i64)).toArray 3 (0, 0))) (hn : ks.length = n) : Ins w (some ⟨g, 0, none⟩) n ks := by
  subst hn
  refine ⟨rfl, .inr ⟨g, 0, rfl, lt_of_block h, fun i hi => ?_⟩⟩
  rw [Nat.zero_add, cell_of_row w g i _ _ (0, 0) h]
  simp [num, List.getD, hi]
theorem ins_lit {w : World} {g n : Nat} {ks : List Int} {cs : Array Value} (hg : g = w.heap.size) (hn : ks.length = n) (h : cs = (ks.map (Value.int .i64)).toArray) : Ins (w.alloc (.cells cs 3 (0, 0))) (some ⟨g, 0, none⟩) n ks := by
  subst hg h
  exact cells_ins (heap_alloc_new w _) hn
def SmI (w0 : World) (n : Nat) (v : Value) (w : World) : Prop := ∃ k : Nat, k ≤ n ∧ v = .int .i64 k ∧ ∃ q, w = w0.drewN q
set_option maxHeartbeats 1000000 in
theorem sameInts_yes (a b : Option Addr) (n c d : Nat) (ks : List Int) (w : World) (h1 : Ins w a n ks) (h2 : Ins w b n ks) (hn : n ≤ 1000000000000) :
    Calls Try.prog 25 #[.slice a n c, .slice b n d] w fun e w' => e = .returned (.bool true) ∧ Below w.heap.size w w' := by
  go_enter Try.func25, Try.ntmps25
  go_wp2_with (fail)
  go_loopw [5] (fun v wr => SmI w n v wr) (fun v _ => n - (RowKit.intOf v).toNat)
  case atStart => exact ⟨0, by omega, rfl, 0, rfl⟩
  case round =>
    obtain ⟨k, hk, rfl, q, hq⟩ := hrel
    have hB : Below w.heap.size w wr := by rw [hq]; exact below_drewN (Below.refl _ _) q
    have HQ := Lib.hid hq
    clear hq
    by_cases hlt : k < n
    · rcases h1.2 with h0 | ⟨g1, o1, rfl, l1, c1⟩
      · omega
      rcases h2.2 with h0 | ⟨g2, o2, rfl, l2, c2⟩
      · omega
      have k0 : (0 : Int) ≤ (k : Int) := by omega
      have k1 : (k : Int) < (n : Int) := by omega
      have x1 := (hB.cell (p := ⟨g1, o1 + k, none⟩) l1).trans (c1 k hlt)
      have x2 := (hB.cell (p := ⟨g2, o2 + k, none⟩) l2).trans (c2 k hlt)
      clear h1 h2 c1 c2
      go_wp2_with (fail)
      go_quiet (fail)
      go_wp2_with (fail)
      go_roundw
      case rel => exact ⟨k + 1, by omega, by go_num, q + nq, by rw [HQ.out, World.drewN_drewN]⟩
      case measure => simp [RowKit.intOf]; omega
    · obtain rfl : k = n := by omega
      clear h1 h2
      go_wp2_with (fail)
      go_ret
      exact ⟨rfl, hB⟩
theorem al_new : nwO [5, 0, 7] = true := by decide
theorem al_there : selL (theP (num [5, 0, 7]) (fun _ => [])) 828 = [0, 2] := by kernel_rfl
theorem al_ad : adO (num [5, 0, 7]) 2 = 7 := by decide
theorem al_put : puO 0 (List.replicate 56 0) = true := by decide
theorem al_there2 : selL (theP (upd (num [5, 0, 7]) 0 0) (upd (fun _ => []) 0 (bnO (List.replicate 56 0)))) 828 = [2] := by kernel_rfl
theorem al_fresh : selL (freP (upd (fun _ => []) 0 (bnO (List.replicate 56 0)))) 828 = [] := by kernel_rfl
theorem Left.below {Pmp : Pred} {w w' : World} {p B : Nat} {T D : Nat → Prop} {A : Nat → Int} {X : Nat → List Int} (h : Left Pmp w p T D A X w') (hB : B ≤ w.heap.size) (hT : ∀ j, T j → B ≤ j) : Below B w w' := h.1.below hB hT
set_option maxRecDepth 100000 in
set_option maxHeartbeats 4000000 in
theorem alive_any {Pmp : Pred} (H : MapOk Pmp) (w : World) : Calls Try.prog 8 #[] w fun e w' => e = .returned (.bool true) ∧ Below w.heap.size w w' := by
  have HH := Lib.hid H
  clear H
  go_enter Try.func8, Try.ntmps8
  go_wp2_with (fail)
  refine (HH.out.new _ 3 3 [5, 0, 7] _ (ins_lit rfl rfl rfl) (fun h => by cases h) (by omega)).mono ?_
  rintro e w2 ⟨h1, _, hb⟩
  obtain ⟨p, T, D, rfl, hP, hD⟩ := h1 al_new
  have HB := Lib.hid (((Below.refl w.heap.size w).alloc (Nat.le_refl _) (.cells #[.int .i64 5, .int .i64 0, .int .i64 7] 3)).trans (hb.mono (by simp)))
  have HD := Lib.hid (show ∀ j, D j → w.heap.size ≤ j from fun j hj => by have := hD j hj; simp at this; omega)
  have HP := Lib.hid hP
  clear h1 hb hD hP
  go_wp2_with (fail)
  refine (HH.out.there HP.out).mono ?_
  rintro e w3 ⟨a3, c3, rfl, hi3, _, hb⟩
  rw [al_there] at hi3 ⊢
  have HI := Lib.hid hi3
  replace HP := Lib.hid (HH.out.next HP.out hb)
  replace HB := Lib.hid (HB.out.trans (hb.mono HB.out.size))
  clear hb hi3
  go_wp2_with (fail)
  refine (sameInts_yes a3 _ 2 c3 2 [0, 2] _ (HI.out.alloc _) (ins_lit rfl rfl rfl) (by omega)).mono ?_
  rintro e w4 ⟨rfl, hb⟩
  have hb2 := ((Below.refl w3.heap.size w3).alloc (Nat.le_refl _) (.cells #[.int .i64 0, .int .i64 2] 3)).trans (hb.mono (by simp))
  replace HP := Lib.hid (HH.out.next HP.out hb2)
  replace HB := Lib.hid (HB.out.trans (hb2.mono HB.out.size))
  clear hb hb2 HI
  go_wp2_with (fail)
  refine (HH.out.ad HP.out 2).mono ?_
  rintro e w5 ⟨rfl, hb⟩
  rw [al_ad]
  replace HP := Lib.hid (HH.out.next HP.out hb)
  replace HB := Lib.hid (HB.out.trans (hb.mono HB.out.size))
  clear hb
  go_wp2_with (at_make; go_must (refine wpList_mk rfl _ _ rfl .i64 .i64 _ _ 56 rfl rfl rfl rfl (by omega) ?_); intro w6 hk6 hb6; have HK6 := Lib.hid hk6; have HB6 := Lib.hid hb6; clear hk6 hb6)
  have hlt := HH.out.lt HP.out
  replace HP := Lib.hid (HH.out.next HP.out HB6.out)
  replace HB := Lib.hid (HB.out.trans (HB6.out.mono HB.out.size))
  refine (HH.out.put HP.out 0 _ 56 56 (List.replicate 56 0) (HK6.out.pin (AllB.zeros 56) (by simp) (Nat.le_refl _) (by omega)) (fun _ y e h => by cases e; have := hlt _ (HH.out.td HP.out _ h); simp at this)).mono ?_
  rintro e w7 ⟨rfl, hl⟩
  rw [al_put] at hl ⊢
  have hbl := hl.below HB.out.size (fun j hj => HD.out j (HH.out.td HP.out j hj))
  obtain ⟨_, T', D', hP', _, _⟩ := hl
  rw [if_pos rfl, if_pos rfl] at hP'
  rw [if_pos rfl]
  have HP2 := Lib.hid hP'
  replace HB := Lib.hid (HB.out.trans hbl)
  clear hP' hbl hlt HP HK6 HB6
  go_wp2_with (fail)
  refine (HH.out.there HP2.out).mono ?_
  rintro e w8 ⟨a8, c8, rfl, hi8, _, hb⟩
  rw [show Int.toNat 0 = 0 from rfl] at *
  rw [al_there2] at hi8 ⊢
  have HI := Lib.hid hi8
  replace HP2 := Lib.hid (HH.out.next HP2.out hb)
  replace HB := Lib.hid (HB.out.trans (hb.mono HB.out.size))
  clear hb hi8
  go_wp2_with (fail)
  refine (sameInts_yes a8 _ 1 c8 1 [2] _ (HI.out.alloc _) (ins_lit rfl rfl rfl) (by omega)).mono ?_
  rintro e w9 ⟨rfl, hb⟩
  have hb2 := ((Below.refl w8.heap.size w8).alloc (Nat.le_refl _) (.cells #[.int .i64 2] 3)).trans (hb.mono (by simp))
  replace HP2 := Lib.hid (HH.out.next HP2.out hb2)
  replace HB := Lib.hid (HB.out.trans (hb2.mono HB.out.size))
  clear hb hb2 HI
  go_wp2_with (fail)
  refine (HH.out.fresh HP2.out).mono ?_
  rintro e w10 ⟨a10, c10, rfl, _, _, hb⟩
  rw [al_fresh]
  replace HB := Lib.hid (HB.out.trans (hb.mono HB.out.size))
  clear hb HP2
  go_wp2_with (fail)
  go_ret
  exact ⟨rfl, HB.out⟩
end Go.Proofs.Ytgedgkdnjnbijaa
