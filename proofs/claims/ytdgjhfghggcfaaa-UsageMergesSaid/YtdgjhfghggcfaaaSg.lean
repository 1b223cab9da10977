/-
  The iterator over the segments that aren't taken, by contract.
-/
import Derived.Test.YtdgjhfghggcfaaaOv3
import Derived.Test.YtdgjhfghggcfaaaUc
import Derived.LoopIn
namespace Go.Proofs.Ytdgjhfghggcfaaa
open Go.RowKit Go.Maps
set_option linter.unusedVariables false
attribute [local go_sem] Oper.semAt_some

theorem ins_aside {w w' : World} {a : Option Addr} {n : Nat} {ks : List Int} {l : Nat} (h : Ins w a n ks) (ha : Aside l w w') : Ins w' a n ks := by
  refine ⟨h.len, ?_⟩
  rcases h.place with h0 | ⟨b, off, e, hlt, hc⟩
  · exact .inl h0
  · exact .inr ⟨b, off, e, Nat.lt_of_lt_of_le hlt ha.turn.size, fun i hi => ha.cell (hc i hi)⟩
theorem Bx.aside {w w' : World} {b l : Nat} {d r s : Int} (h : Bx w b d r s) (ha : Aside l w w') : Bx w' b d r s := ⟨Nat.lt_of_lt_of_le h.lt ha.turn.size, ha.cell h.c0, ha.cell h.c1, ha.cell h.c2⟩
/-- The three boxes of the closure: the geometry, what is taken, the counts. -/
structure Bsg (pg pt pc : Nat) (d r s : Int) (a1 a2 : Option Addr) (n1 c1 n2 c2 : Nat) (ks ts : List Int) (X : World) : Prop where
  geo : Bx X pg d r s
  ct : X.cell? ⟨pt, 0, none⟩ = some (.slice a2 n2 c2)
  cc : X.cell? ⟨pc, 0, none⟩ = some (.slice a1 n1 c1)
  lt : pt < X.heap.size
  lc : pc < X.heap.size
  ik : Ins X a1 n1 ks
  it : Ins X a2 n2 ts
section
variable {pg pt pc : Nat} {d r s : Int} {a1 a2 : Option Addr} {n1 c1 n2 c2 : Nat} {ks ts : List Int} {X X' : World}
theorem Bsg.next (h : Bsg pg pt pc d r s a1 a2 n1 c1 n2 c2 ks ts X) (hb : Below X.heap.size X X') : Bsg pg pt pc d r s a1 a2 n1 c1 n2 c2 ks ts X' :=
  ⟨h.geo.next hb, (hb.cell (p := ⟨pt, 0, none⟩) h.lt).trans h.ct, (hb.cell (p := ⟨pc, 0, none⟩) h.lc).trans h.cc, Nat.lt_of_lt_of_le h.lt hb.size, Nat.lt_of_lt_of_le h.lc hb.size, h.ik.next hb, h.it.next hb⟩
theorem Bsg.aside {l : Nat} (h : Bsg pg pt pc d r s a1 a2 n1 c1 n2 c2 ks ts X) (ha : Aside l X X') : Bsg pg pt pc d r s a1 a2 n1 c1 n2 c2 ks ts X' :=
  ⟨h.geo.aside ha, ha.cell h.ct, ha.cell h.cc, Nat.lt_of_lt_of_le h.lt ha.turn.size, Nat.lt_of_lt_of_le h.lc ha.turn.size, ins_aside h.ik ha, ins_aside h.it ha⟩
end
theorem Bsg.abides {pg pt pc : Nat} {d r s : Int} {a1 a2 : Option Addr} {n1 c1 n2 c2 : Nat} {ks ts : List Int} (K : Nat) : Abides K (Bsg pg pt pc d r s a1 a2 n1 c1 n2 c2 ks ts) :=
  ⟨fun X X' h hb => h.next hb, fun l X X' _ h ha => h.aside ha⟩

theorem segments_any (d r s : Int) (a1 a2 : Option Addr) (n1 c1 n2 c2 : Nat) (ks ts : List Int) (w : World) (hk : Ins w a1 n1 ks) (ht : Ins w a2 n2 ts) :
    Calls Try.prog 27 #[gv d r s, .slice a1 n1 c1, .slice a2 n2 c2] w fun e w' => ∃ pg pt pc, e = .returned (.func (.func 36) #[] #[.pointer (some ⟨pg, 0, none⟩), .pointer (some ⟨pt, 0, none⟩), .pointer (some ⟨pc, 0, none⟩)]) ∧
      Bsg pg pt pc d r s a1 a2 n1 c1 n2 c2 ks ts w' ∧ w.heap.size ≤ pg ∧ w.heap.size ≤ pt ∧ w.heap.size ≤ pc ∧ Below w.heap.size w w' := by
  have HK := Lib.hid hk
  have HT := Lib.hid ht
  clear hk ht
  go_enter Try.func27, Try.ntmps27
  go_wp2_with (fail)
  go_ret
  obtain ⟨X, hX⟩ : ∃ X, X = ((w.alloc (.cells #[.int .i64 d, .int .i64 r, .int .i64 s] 23 (0, 0))).alloc (.cells #[.slice a1 n1 c1] 24 (0, 0))).alloc (.cells #[.slice a2 n2 c2] 24 (0, 0)) := ⟨_, rfl⟩
  have hb : Below w.heap.size w X := by rw [hX]; exact (((Below.refl w.heap.size w).alloc (Nat.le_refl _) _).alloc (by simp) _).alloc (by simp; omega) _
  have z : X.heap.size = w.heap.size + 3 := by rw [hX]; simp
  have e0 : X.cell? ⟨w.heap.size, 0, none⟩ = some (.int .i64 d) := by rw [hX]; go_simp
  have e1 : X.cell? ⟨w.heap.size, 1, none⟩ = some (.int .i64 r) := by rw [hX]; go_simp
  have e2 : X.cell? ⟨w.heap.size, 2, none⟩ = some (.int .i64 s) := by rw [hX]; go_simp
  have e3 : X.cell? ⟨w.heap.size + 1, 0, none⟩ = some (.slice a1 n1 c1) := by rw [hX]; go_simp
  have e4 : X.cell? ⟨w.heap.size + 2, 0, none⟩ = some (.slice a2 n2 c2) := by rw [hX]; go_simp
  rw [← hX]
  exact ⟨w.heap.size, w.heap.size + 2, w.heap.size + 1, rfl, ⟨⟨by omega, e0, e1, e2⟩, e4, e3, by omega, by omega, HK.out.next hb, HT.out.next hb⟩, Nat.le_refl _, by omega, by omega, hb⟩

set_option maxHeartbeats 2000000 in
theorem seg_rounds0 (pg pt pc : Nat) (d r s : Int) (a1 a2 : Option Addr) (n1 c1 n2 c2 : Nat) (ks ts : List Int) (h : ¬ Rt d r s) (sk : Nat → Bool) (D : Nat → Value → Value → World → Prop) :
    Rounds3 36 #[.pointer (some ⟨pg, 0, none⟩), .pointer (some ⟨pt, 0, none⟩), .pointer (some ⟨pc, 0, none⟩)] 0 sk D (fun i X => Bsg pg pt pc d r s a1 a2 n1 c1 n2 c2 ks ts X) := by
  intro l J Jx W _ hA hAx hB hS hY h0
  have hb0 := hB 0 W h0
  have y0 := hb0.geo.c0
  have y1 := hb0.geo.c1
  have y2 := hb0.geo.c2
  have HA := Lib.hid (hA 0)
  have HJ := Lib.hid h0
  have hr := right_no d r s W h
  clear hB hY hA hAx hS hb0 h0
  refine callsIn_of_wp Try.func36 rfl trivial ?_ rfl
  simp only [Try.ntmps36, List.size_toArray, List.length_cons, List.length_nil, Nat.reduceAdd, Nat.reduceSub, Array.replicate_succ, Array.replicate_zero, List.push_toArray, List.append_toArray, List.nil_append, List.cons_append]
  gi_wp2_with (refine ⟨trivial, ?_⟩; gi_at_call 23; refine (callsIn_wide.2 hr).mono ?_; clear hr; rintro e w' ⟨rfl, hb⟩; have HJ2 := Lib.hid (HA.out.below _ _ HJ.out hb); clear hb)
  refine bodyPost_ret (results_none rfl _ _ _) rfl ?_
  exact ⟨⟨_, rfl⟩, .inl HJ2.out⟩
set_option maxHeartbeats 4000000 in
theorem seg_rounds (pg pt pc : Nat) (d r : Int) (S : Nat) (a1 a2 : Option Addr) (n1 c1 n2 c2 : Nat) (ks ts : List Int) (h : Rt d r (S : Int)) (hn1 : n1 ≤ 1000000000000) (hn2 : n2 ≤ 1000000000000) :
    Rounds3 36 #[.pointer (some ⟨pg, 0, none⟩), .pointer (some ⟨pt, 0, none⟩), .pointer (some ⟨pc, 0, none⟩)] S (fun i => decide ((i : Int) ∈ ts)) (fun i u v X => u = .int .i64 i ∧ v = .int .i64 (num ks i)) (fun i X => Bsg pg pt pc d r S a1 a2 n1 c1 n2 c2 ks ts X) := by
  intro l J Jx W _ hA hAx hB hS hY h0
  have hb0 := hB 0 W h0
  have y0 := hb0.geo.c0
  have y1 := hb0.geo.c1
  have y2 := hb0.geo.c2
  have HA := Lib.hid hA
  have HB := Lib.hid hB
  have HY := Lib.hid hY
  have HS := Lib.hid hS
  have HJ := Lib.hid h0
  have s2 := h.s2
  have hr := right_yes d r S W h
  clear hB hY hA hAx hS hb0 h0
  refine callsIn_of_wp Try.func36 rfl trivial ?_ rfl
  simp only [Try.ntmps36, List.size_toArray, List.length_cons, List.length_nil, Nat.reduceAdd, Nat.reduceSub, Array.replicate_succ, Array.replicate_zero, List.push_toArray, List.append_toArray, List.nil_append, List.cons_append]
  gi_wp2_with (refine ⟨trivial, ?_⟩; gi_at_call 23; refine (callsIn_wide.2 hr).mono ?_; clear hr; rintro e w1 ⟨rfl, hb⟩; have HJ2 := Lib.hid ((HA.out 0).below _ _ HJ.out hb); clear hb y0 y1 y2; have y2 := (HB.out 0 w1 HJ2.out).geo.c2)
  gi_loopw [5, 11] (fun _ i wr => ∃ k : Nat, k ≤ S ∧ i = .int .i64 k ∧ J k wr) (fun _ i _ => S - (RowKit.intOf i).toNat)
  case atStart => exact ⟨0, Nat.zero_le _, rfl, HJ2.out⟩
  case round =>
    obtain ⟨k, hk, rfl, hJ⟩ := hrel
    clear y2
    have hbk := HB.out k wr hJ
    have y3 := hbk.ct
    have y4 := hbk.cc
    have hcon := contains_any a2 n2 c2 ts (k : Int) wr hbk.it hn2
    have hcnt := countOf_any a1 n1 c1 k ks wr hbk.ik hn1
    have HJk := Lib.hid hJ
    by_cases hlt : k < S
    · have k1 : (k : Int) < (S : Int) := by omega
      by_cases hin : (k : Int) ∈ ts
      · have HJn := Lib.hid (HS.out k wr hlt (decide_eq_true hin) hJ)
        rw [decide_eq_true hin] at hcon
        clear hbk hJ hin hcnt
        gi_wp2_with (refine ⟨trivial, ?_⟩; gi_at_call 37; refine (callsIn_wide.2 hcon).mono ?_; clear hcon; rintro e w' ⟨rfl, rfl⟩)
        refine ⟨trivial, ?_⟩
        gi_wp2
        refine ⟨fun _ _ => trivial, ?_⟩
        gi_wp2
        go_roundw
        case rel => exact ⟨k + 1, by omega, by go_num, HJn.out⟩
        case measure => simp [RowKit.intOf]; omega
      · have hYk := HY.out k (.int .i64 k) (.int .i64 (num ks k)) wr hlt (decide_eq_false hin) hJ ⟨rfl, rfl⟩
        rw [decide_eq_false hin] at hcon
        clear hbk hJ hin
        obtain ⟨fn, tmps, assign, body, hy, hR⟩ := hYk
        gi_wp2_with (first | (refine ⟨trivial, ?_⟩; gi_at_call 37; refine (callsIn_wide.2 hcon).mono ?_; clear hcon; rintro e w' ⟨rfl, rfl⟩) | (refine ⟨trivial, ?_⟩; gi_at_call 38; refine (callsIn_wide.2 hcnt).mono ?_; clear hcnt; rintro e w' ⟨rfl, rfl⟩))
        clear hy
        refine hR.mono ?_
        clear hR
        rintro e W' (⟨rfl, hJ'⟩ | ⟨rfl, hx⟩)
        · have HJ' := Lib.hid hJ'
          clear hJ'
          gi_wp2
          go_roundw
          case rel => exact ⟨k + 1, by omega, by go_num, HJ'.out⟩
          case measure => simp [RowKit.intOf]; omega
        · have HJ' := Lib.hid hx
          clear hx
          gi_wp2
          refine bodyPost_ret (results_none rfl _ _ _) rfl ?_
          exact ⟨⟨_, rfl⟩, .inr HJ'.out⟩
    · obtain rfl : k = S := by omega
      have k1 : decide ((k : Int) < (k : Int)) = false := decide_eq_false (by omega)
      clear hbk hJ hcon hcnt y3 y4
      gi_wp2
      go_end0
      exact ⟨⟨_, rfl⟩, .inl HJk.out⟩
end Go.Proofs.Ytdgjhfghggcfaaa
