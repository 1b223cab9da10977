/-
  The bank's iterator over its disks, by contract.
-/
import Derived.Test.YtciddoeeiamndaaGreatBnk
import Derived.Shelf.RegionOpen
import Derived.OwnWalkIn
import Derived.TacticsInMore
import Derived.LoopNIn
import Derived.LoopIn
namespace Go.Proofs.YtciddoeeiamndaaGreat
open Go.RowKit Go.Maps
attribute [local go_sem] Oper.semAt_some

/-- How many disks a bank has. -/
def Bn.num (B : Bn) : Nat := if B.st = 0 then B.d.toNat + 1 else B.d.toNat

set_option maxHeartbeats 1000000 in
theorem disks_rounds (b p n : Nat) (B : Bn) (hd : B.d = (n : Int)) (hn : n ≤ 16) :
    Rounds 57 (fun y => #[.pointer (some ⟨b, 0, none⟩), y]) (fun i => B.disk (i : Int)) B.num (fun X => BnAt X b p B) := by
  intro l J Jx W hB hY h0
  have HB := Lib.hid hB
  have HY := Lib.hid hY
  have hb0 := hB 0 W h0
  clear hB hY
  have c1 := hb0.c1
  have hnum : Hid (B.num = if B.st = 0 then n + 1 else n) := by
    unfold Hid Bn.num
    rw [hd, Int.toNat_natCast]
  rw [hd] at c1
  refine callsIn_of_wp Tryz.func57 rfl trivial ?_ rfl
  simp only [Tryz.ntmps57, List.size_toArray, List.length_cons, List.length_nil, Nat.reduceAdd, Nat.reduceSub, Array.replicate_succ, Array.replicate_zero, List.push_toArray, List.append_toArray, List.nil_append, List.cons_append]
  gi_wp2
  gi_loopw [10] (fun i wr => ∃ k : Nat, k ≤ n ∧ i = .int .i64 k ∧ J k wr) (fun i _ => n - (RowKit.intOf i).toNat)
  case atStart => exact ⟨0, Nat.zero_le _, rfl, h0⟩
  case round =>
    obtain ⟨k, hk, rfl, hJ⟩ := hrel
    have hbk := HB.out k wr hJ
    by_cases hlt : k < n
    · obtain ⟨fn, tmps, assign, body, hy, hR⟩ := HY.out k wr (by rw [hnum.out]; split <;> omega) hJ
      have hdk := disk_any (k : Int) hbk
      gi_wp2_with (refine ⟨trivial, ?_⟩; gi_at_call 92; refine (callsIn_wide.2 hdk).mono ?_; clear hdk; rintro e w' ⟨rfl, rfl⟩)
      refine hR.mono ?_
      rintro e W' (⟨rfl, hJ'⟩ | ⟨rfl, hx⟩)
      · gi_wp2
        go_roundw
        case rel => exact ⟨k + 1, by omega, by go_num, hJ'⟩
        case measure => simp [RowKit.intOf]; omega
      · gi_wp2
        refine bodyPost_ret (results_none rfl _ _ _) rfl ?_
        exact ⟨⟨_, rfl⟩, .inr hx⟩
    · obtain rfl : k = n := by omega
      have c6 := hbk.c6
      by_cases hst : B.st = 0
      · have e1 : B.num = k + 1 := by rw [hnum.out, if_pos hst]
        obtain ⟨fn, tmps, assign, body, hy, hR⟩ := HY.out k wr (by omega) hJ
        have ed : B.disk (k : Int) = (k : Int) := by unfold Bn.disk; rw [if_neg (fun x => x.1 hst)]
        rw [ed] at hy
        have hsp := spare_any hbk
        rw [hd] at hsp
        gi_wp2_with (refine ⟨trivial, ?_⟩; gi_at_call 101; refine (callsIn_wide.2 hsp).mono ?_; clear hsp; rintro e w' ⟨rfl, rfl⟩)
        refine hR.mono ?_
        rintro e W' (⟨rfl, hJ'⟩ | ⟨rfl, hx⟩)
        · gi_wp2
          go_end0
          exact ⟨⟨_, rfl⟩, .inl (by rw [e1]; exact hJ')⟩
        · gi_wp2
          go_end0
          exact ⟨⟨_, rfl⟩, .inr hx⟩
      · have e1 : B.num = k := by rw [hnum.out, if_neg hst]
        have hz : (B.st == 0) = false := by simpa using hst
        gi_wp2
        go_end0
        exact ⟨⟨_, rfl⟩, .inl (by rw [e1]; exact hJ)⟩

end Go.Proofs.YtciddoeeiamndaaGreat
