/-
  The statements' first line: the program takes segments of which the document takes some. SameInts and CopyInts by contract.
-/
import Derived.Test.YtdgjhfghggcfaaaVi
import Derived.Test.YtdgjhfghggcfaaaRu4
namespace Go.Proofs.Ytdgjhfghggcfaaa
open Go.RowKit Go.Maps
set_option linter.unusedVariables false

theorem ins_lit {w : World} {g n : Nat} {ks : List Int} {cs : Array Value} (hg : g = w.heap.size) (hn : ks.length = n) (h : cs = (ks.map (Value.int .i64)).toArray) : Ins (w.alloc (.cells cs 3 (0, 0))) (some ⟨g, 0, none⟩) n ks := by
  subst hg hn h
  exact (Blq.mk (heap_alloc_new w _)).ins
def SmI (w0 : World) (n : Nat) (v : Value) (w : World) : Prop := ∃ k : Nat, k ≤ n ∧ v = .int .i64 k ∧ ∃ q, w = w0.drewN q
set_option maxHeartbeats 1000000 in
theorem sameInts_yes (a b : Option Addr) (n c d : Nat) (ks : List Int) (w : World) (h1 : Ins w a n ks) (h2 : Ins w b n ks) (hn : n ≤ 1000000000000) :
    Calls Try.prog 14 #[.slice a n c, .slice b n d] w fun e w' => e = .returned (.bool true) ∧ Below w.heap.size w w' := by
  go_enter Try.func14, Try.ntmps14
  go_wp2_with (fail)
  go_loopw [5] (fun v wr => SmI w n v wr) (fun v _ => n - (RowKit.intOf v).toNat)
  case atStart => exact ⟨0, by omega, rfl, 0, rfl⟩
  case round =>
    obtain ⟨k, hk, rfl, q, hq⟩ := hrel
    have hB : Below w.heap.size w wr := by rw [hq]; exact below_drewN (Below.refl _ _) q
    have HQ := Lib.hid hq
    clear hq
    by_cases hlt : k < n
    · rcases h1.2 with h0 | ⟨g1, o1, rfl, l1, c1⟩
      · omega
      rcases h2.2 with h0 | ⟨g2, o2, rfl, l2, c2⟩
      · omega
      have k0 : (0 : Int) ≤ (k : Int) := by omega
      have k1 : (k : Int) < (n : Int) := by omega
      have x1 := (hB.cell (p := ⟨g1, o1 + k, none⟩) l1).trans (c1 k hlt)
      have x2 := (hB.cell (p := ⟨g2, o2 + k, none⟩) l2).trans (c2 k hlt)
      clear h1 h2 c1 c2
      go_wp2_with (fail)
      go_quiet (fail)
      go_wp2_with (fail)
      go_roundw
      case rel => exact ⟨k + 1, by omega, by go_num, q + nq, by rw [HQ.out, World.drewN_drewN]⟩
      case measure => simp [RowKit.intOf]; omega
    · obtain rfl : k = n := by omega
      clear h1 h2
      go_wp2_with (fail)
      go_ret
      exact ⟨rfl, hB⟩
theorem rt9 : Rt 3 3 12 := ⟨⟨by decide, by decide, by decide, by decide, by decide, by decide⟩, by decide⟩
theorem aliveC : cL (12 : Int).toNat (PL 3 3).toNat [1, 2, 2, 0, 6] = [2, 1, 0, 0, 0, 0, 0, 0, 0, 0, 0, 0] := by decide
theorem aliveV : vres (gr (PL 3 3) (vL (12 : Int).toNat [2, 0, 3, 4] [] (PL 3 3).toNat)) = [0, 2] := by decide
theorem aliveF : (frL (12 : Int).toNat [2, 0, 3, 4] [5]).length = 8 := by decide
theorem aliveR : fitP (PL 3 3) 12 (upN [] : Nat) 0 5 5 = true := by decide
set_option maxRecDepth 100000 in
set_option maxHeartbeats 4000000 in
theorem alive_any (w : World) : Calls Try.prog 10 #[] w fun e w' => e = .returned (.bool true) ∧ Below w.heap.size w w' := by
  have x1 := Bx.mk' w 3 3 12 23
  obtain ⟨X1, hX1⟩ : ∃ X1, X1 = w.alloc (.cells #[.int .i64 3, .int .i64 3, .int .i64 12] 23 (0, 0)) := ⟨_, rfl⟩
  have hb1 : Below w.heap.size w X1 := by rw [hX1]; exact (Below.refl _ _).alloc (Nat.le_refl _) _
  rw [← hX1] at x1
  have hz1 : w.heap.size + 1 = X1.heap.size := by rw [hX1]; simp
  have hc := count_any 3 3 12 (some ⟨w.heap.size + 1, 0, none⟩) 5 5 [1, 2, 2, 0, 6] (X1.alloc (.cells #[.int .i64 1, .int .i64 2, .int .i64 2, .int .i64 0, .int .i64 6] 3 (0, 0))) (ins_lit hz1 rfl rfl) (by omega) (by decide)
  have x2 := x1.alloc (.cells #[.int .i64 1, .int .i64 2, .int .i64 2, .int .i64 0, .int .i64 6] 3 (0, 0))
  have hb2 := hb1.alloc (Nat.le_of_lt x1.lt) (.cells #[.int .i64 1, .int .i64 2, .int .i64 2, .int .i64 0, .int .i64 6] 3 (0, 0))
  have HX2 := Lib.hid x2
  have HB2 := Lib.hid hb2
  clear hb1 hb2 x2 x1 hz1
  go_enter Try.func10, Try.ntmps10
  go_wp2_with (fail)
  rw [← hX1]
  clear hX1
  refine hc.mono ?_
  clear hc
  rintro e w3 ⟨l, ok, ⟨a, c, he, hi, _, hb⟩, hcr⟩
  obtain ⟨hl, rfl⟩ := hcr.1 rt9 (by unfold AdOk; decide)
  have hl' := hl.trans aliveC
  subst hl'
  have he' : e = .returned (.tuple #[.slice a 12 c, .bool true]) := he
  have hi' : Ins w3 a 12 [2, 1, 0, 0, 0, 0, 0, 0, 0, 0, 0, 0] := hi
  obtain ⟨b, off, rfl, hbl, hcs⟩ := hi'.at (by omega)
  subst he'
  have q0 := hcs 0 (by omega)
  have q1 := hcs 1 (by omega)
  have q2 := hcs 2 (by omega)
  simp only [num, List.getD, List.getElem?_cons_zero, List.getElem?_cons_succ, Option.getD_some, Nat.add_zero] at q0 q1 q2
  have x3 := HX2.out.next hb
  have HB3 := Lib.hid (HB2.out.trans (hb.mono HB2.out.size))
  have HX3 := Lib.hid x3
  have y0 := x3.c0
  have y1 := x3.c1
  have y2 := x3.c2
  have hv := victims_any 3 3 12 (some ⟨w3.heap.size, 0, none⟩) none 4 4 0 0 [2, 0, 3, 4] [] (w3.alloc (.cells #[.int .i64 2, .int .i64 0, .int .i64 3, .int .i64 4] 3 (0, 0))) (ins_lit rfl rfl rfl) ⟨rfl, .inl rfl⟩ (by omega) (by omega)
  clear hi hi' hcs hb hcr hl he x3
  go_wp2_with (fail)
  refine hv.mono ?_
  clear hv
  rintro e w4 ⟨l, ⟨a4, c4, he, hi, hb⟩, hvr, _⟩
  have hl' := (hvr.2 rt9).trans aliveV
  subst hl'
  have he' : e = .returned (.slice a4 2 c4) := he
  have hi4 : Ins w4 a4 2 [0, 2] := hi
  subst he'
  have x4 := (HX3.out.alloc (.cells #[.int .i64 2, .int .i64 0, .int .i64 3, .int .i64 4] 3 (0, 0))).next hb
  have HB4 := Lib.hid ((HB3.out.alloc HB3.out.size (.cells #[.int .i64 2, .int .i64 0, .int .i64 3, .int .i64 4] 3 (0, 0))).trans (hb.mono (by have := HB3.out.size; simp; omega)))
  have HX4 := Lib.hid x4
  have hs := sameInts_yes a4 (some ⟨w4.heap.size, 0, none⟩) 2 c4 2 [0, 2] (w4.alloc (.cells #[.int .i64 0, .int .i64 2] 3 (0, 0))) (hi4.alloc _) (ins_lit rfl rfl rfl) (by omega)
  clear hi hi4 hb hvr he x4 y0 y1 y2 q0 q1 q2
  go_wp2_with (fail)
  refine hs.mono ?_
  clear hs
  rintro e w5 ⟨rfl, hb⟩
  have x5 := (HX4.out.alloc (.cells #[.int .i64 0, .int .i64 2] 3 (0, 0))).next hb
  have HB5 := Lib.hid ((HB4.out.alloc HB4.out.size (.cells #[.int .i64 0, .int .i64 2] 3 (0, 0))).trans (hb.mono (by have := HB4.out.size; simp; omega)))
  have y0 := x5.c0
  have y1 := x5.c1
  have y2 := x5.c2
  have HX5 := Lib.hid x5
  obtain ⟨X6, hX6⟩ : ∃ X6, X6 = (w5.alloc (.cells #[.int .i64 2, .int .i64 0, .int .i64 3, .int .i64 4] 3 (0, 0))).alloc (.cells #[.int .i64 5] 3 (0, 0)) := ⟨_, rfl⟩
  have hf := free_any 3 3 12 (some ⟨w5.heap.size, 0, none⟩) (some ⟨w5.heap.size + 1, 0, none⟩) 4 4 1 1 [2, 0, 3, 4] [5] X6 (by rw [hX6]; refine Ins.alloc ?_ _; exact ins_lit rfl rfl rfl) (by rw [hX6]; exact ins_lit (by simp) rfl rfl) (by omega) (by omega)
  have hb6 : Below w5.heap.size w5 X6 := by rw [hX6]; exact ((Below.refl _ _).alloc (Nat.le_refl _) _).alloc (by simp) _
  have x6 := Lib.hid (HX5.out.next hb6)
  have HB6 := Lib.hid (HB5.out.trans (hb6.mono HB5.out.size))
  clear hb x5 hb6
  go_wp2_with (fail)
  rw [← hX6]
  clear hX6
  refine hf.mono ?_
  clear hf
  rintro e w7 ⟨l, ⟨a7, c7, he, hi, hb⟩, hfr⟩
  have hl' := hfr.2 rt9
  have hln : l.length = 8 := by rw [hl']; exact aliveF
  rw [hln] at he
  subst he
  have x7 := x6.out.next hb
  have HB7 := Lib.hid (HB6.out.trans (hb.mono HB6.out.size))
  clear y0 y1 y2
  have y0 := x7.c0
  have y1 := x7.c1
  have y2 := x7.c2
  clear hi hb hfr hl' hln x7
  go_wp2_with (fail)
  refine (fits_any 3 3 12 none 0 0 [] 0 5 5 w7 (by omega) (by omega) (by omega) ⟨rfl, .inl rfl⟩ (by omega)).mono ?_
  rintro e w8 ⟨⟨bb, rfl, hfb⟩, hb⟩
  have HB8 := Lib.hid (HB7.out.trans (hb.mono HB7.out.size))
  have hbt := (hfb.2.2 rt9 (fun k hk => by cases hk)).trans aliveR
  subst hbt
  clear hb hfb
  go_wp2_with (fail)
  go_ret
  exact ⟨rfl, HB8.out⟩
end Go.Proofs.Ytdgjhfghggcfaaa
