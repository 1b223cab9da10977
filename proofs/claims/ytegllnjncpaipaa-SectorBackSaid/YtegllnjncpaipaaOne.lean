/-
  Have all of a row one Seq: the program's question, by contract.
-/
import Derived.Test.YtegllnjncpaipaaHead
namespace Go.Proofs.Ytegllnjncpaipaa
open Go.RowKit

theorem quiet_left {P : Program} {f : FuncId} {args : Array Value} {w : World} {n : Nat} {v : Value}
    (h : Calls P f args (w.drewN n) fun e w' => e = .returned v ∧ w.drewN n = w') : Calls P f args (w.drewN n) fun e w'' => e = .returned v ∧ ∃ m, w'' = w.drewN m :=
  h.mono fun _ _ ⟨he, hm⟩ => ⟨he, n, hm.symm⟩
/-- The first k have 64 bytes and the first one's Seq. -/
def oneUpto (f : Nat → Pc) : Nat → Bool
  | 0 => true
  | k + 1 => oneUpto f k && (is64 (f k).zs.length && sameB ((f k).zs.take 4) ((f 0).zs.take 4))
def oneSeq (f : Nat → Pc) (n : Nat) : Bool := decide (0 < n) && oneUpto f n
theorem oneUpto_le {f : Nat → Pc} {k n : Nat} (h : k ≤ n) (hn : oneUpto f n = true) : oneUpto f k = true := by
  induction n with
  | zero => rw [Nat.le_zero.1 h]; exact hn
  | succ n ih =>
    rcases Nat.lt_or_ge k (n + 1) with h1 | h1
    · exact ih (by omega) (by rw [oneUpto, Bool.and_eq_true] at hn; exact hn.1)
    · rw [Nat.le_antisymm h h1]; exact hn
theorem oneUpto_at {f : Nat → Pc} {k n : Nat} (h : k < n) (hn : oneUpto f n = true) : (f k).zs.length = 64 ∧ (f k).zs.take 4 = (f 0).zs.take 4 := by
  have := oneUpto_le (k := k + 1) h hn
  rw [oneUpto, Bool.and_eq_true, Bool.and_eq_true] at this
  exact ⟨by simpa [is64] using this.2.1, by simpa [sameB] using this.2.2⟩
theorem oneUpto_of {f : Nat → Pc} {n : Nat} (h : ∀ k, k < n → (f k).zs.length = 64 ∧ (f k).zs.take 4 = (f 0).zs.take 4) : oneUpto f n = true := by
  induction n with
  | zero => rfl
  | succ n ih =>
    rw [oneUpto, ih fun k hk => h k (by omega)]
    have := h n (by omega)
    simp [is64, sameB, this.1, this.2]
theorem oneSeq_no {f : Nat → Pc} {k n : Nat} (h : k ≤ n) (hk : oneUpto f k = false) : oneSeq f n = false := by
  cases hn : oneUpto f n
  · simp [oneSeq, hn]
  · rw [oneUpto_le h hn] at hk; cases hk

def OneRel (f : Nat → Pc) (w0 : World) (n : Nat) (v : Value) (w : World) : Prop := ∃ k : Nat, k ≤ n ∧ v = .int .i64 k ∧ oneUpto f k = true ∧ ∃ q, w = w0.drewN q

theorem isSector_no (a : Option Addr) (n c : Nat) (w : World) (h : n ≠ 64) : Calls Try.prog 25 #[.slice a n c] w fun e w' => e = .returned (.bool false) ∧ w = w' := by
  have := isSector_any a n c w
  rwa [show is64 n = false by simp [is64, h]] at this
theorem isSector_yes (a : Option Addr) (c : Nat) (w : World) : Calls Try.prog 25 #[.slice a 64 c] w fun e w' => e = .returned (.bool true) ∧ w = w' := isSector_any a 64 c w

set_option maxHeartbeats 2000000 in
theorem one_any (a : Option Addr) (n c : Nat) (f : Nat → Pc) (w : World) (h : Rws w a n f) (hn : n ≤ 9223372036854775807) :
    Calls Try.prog 29 #[.slice a n c] w fun e w' => e = .returned (.bool (oneSeq f n)) ∧ Below w.heap.size w w' := by
  go_enter Try.func29, Try.ntmps29
  go_wp2_with (fail)
  go_loopw [4, 7] (fun _s v wr => OneRel f w n v wr) (fun _ v _ => n - (intOf v).toNat)
  case atStart => exact ⟨0, by omega, rfl, rfl, 0, rfl⟩
  case round =>
    obtain ⟨k, hk, rfl, hone, q, hq⟩ := hrel
    have hb : Below w.heap.size w wr := by rw [hq]; exact below_drewN (Below.refl _ _) q
    have HQ := Lib.hid hq
    have HO := Lib.hid hone
    clear hq hone
    have hr := h.next hb
    by_cases hlt : k < n
    · obtain ⟨b, off, x, m, d, zs, rfl, hbl, hc, hp, hz, hm⟩ := hr.at hlt
      obtain ⟨b', off', x0, m0, d0, zs0, e0, _, hc0, hp0, hz0, hm0⟩ := hr.at (i := 0) (by omega)
      cases e0
      rw [Nat.add_zero] at hc0
      have HZ := Lib.hid hz
      have HZ0 := Lib.hid hz0
      have HP := Lib.hid hp
      have HP0 := Lib.hid hp0
      have hmd := hp.cap
      have hmd2 := hp.max
      have hmd0 := hp0.cap
      have hmd02 := hp0.max
      clear hz hz0 hp hp0 hm hm0 hr
      have hk0 : (0 : Int) ≤ (k : Int) := by omega
      have hk1 : (k : Int) < (n : Int) := by omega
      have hn0 : 0 < n := by omega
      by_cases hm : m = 64
      · subst hm
        have hzl : zs.length = 64 := HP.out.len
        have h064 : zs0.length = 64 := by
          rcases Nat.eq_zero_or_pos k with h0 | h0
          · rw [← HZ0.out, ← h0, HZ.out, hzl]
          · rw [← HZ0.out]; exact (oneUpto_at (k := 0) h0 HO.out).1
        have hm0 : m0 = 64 := by rw [← HP0.out.len, h064]
        subst hm0
        have hstep : Hid (oneUpto f (k + 1) = sameB (zs.take 4) (zs0.take 4)) := by
          show _ = _
          rw [oneUpto, HO.out, HZ.out, HZ0.out, hzl]
          simp [is64]
        have hnx := Lib.hid HP.out.nil
        have hnx0 := Lib.hid HP0.out.nil
        clear hzl h064
        cases hsb : sameB (zs.take 4) (zs0.take 4)
        · have HE : Hid (∀ q, Calls Try.prog 37 #[.slice x 4 d, .slice x0 4 d0] (wr.drewN q) fun e w' => e = .returned (.bool false) ∧ wr.drewN q = w') := by
            show ∀ q, _
            intro q
            have := equal_any x x0 4 d 4 d0 _ _ (wr.drewN q) ((HP.out.drewN q).bys.front (k := 4) (by omega)) ((HP0.out.drewN q).bys.front (k := 4) (by omega))
            rwa [hsb] at this
          have hstp : Hid (oneUpto f (k + 1) = false) := by show _ = _; rw [hstep.out, hsb]
          clear hsb
          go_wp2_with (fail)
          go_quiet (first
            | (go_at_call 25; exact quiet_left (isSector_yes _ _ _))
            | (go_at_call 32; exact quiet_left (seqOf_any _ 64 _ _ (by omega) (by omega) (by first | exact hnx.out | exact hnx0.out)))
            | (go_at_call 37; exact quiet_left (HE.out _)))
          go_wp2_with (fail)
          go_ret
          exact ⟨ret_bool (oneSeq_no hlt hstp.out).symm, by first | exact below_drewN hb _ | exact hb⟩
        · have HE : Hid (∀ q, Calls Try.prog 37 #[.slice x 4 d, .slice x0 4 d0] (wr.drewN q) fun e w' => e = .returned (.bool true) ∧ wr.drewN q = w') := by
            show ∀ q, _
            intro q
            have := equal_any x x0 4 d 4 d0 _ _ (wr.drewN q) ((HP.out.drewN q).bys.front (k := 4) (by omega)) ((HP0.out.drewN q).bys.front (k := 4) (by omega))
            rwa [hsb] at this
          have hstp : Hid (oneUpto f (k + 1) = true) := by show _ = _; rw [hstep.out, hsb]
          clear hsb
          go_wp2_with (fail)
          go_quiet (first
            | (go_at_call 25; exact quiet_left (isSector_yes _ _ _))
            | (go_at_call 32; exact quiet_left (seqOf_any _ 64 _ _ (by omega) (by omega) (by first | exact hnx.out | exact hnx0.out)))
            | (go_at_call 37; exact quiet_left (HE.out _)))
          go_wp2_with (fail)
          go_roundw
          case rel => exact ⟨k + 1, by omega, by go_num, hstp.out, q + nq, by rw [HQ.out, World.drewN_drewN]⟩
          case measure => simp [intOf]; omega
      · have hno : Hid (oneUpto f (k + 1) = false) := by
          show _ = _
          rw [oneUpto, HZ.out, HP.out.len]
          simp [is64, hm]
        go_wp2_with (fail)
        go_quiet ((go_at_call 25; exact quiet_left (isSector_no _ _ _ _ hm)))
        go_wp2_with (fail)
        go_ret
        exact ⟨ret_bool (oneSeq_no hlt hno.out).symm, by first | exact below_drewN hb _ | exact hb⟩
    · obtain rfl : k = n := by omega
      clear hr
      by_cases h0 : 0 < k
      · have hs : Hid (oneSeq f k = true) := by show _ = _; simp [oneSeq, h0, HO.out]
        go_wp2_with (fail)
        go_ret
        exact ⟨ret_bool hs.out.symm, hb⟩
      · have hs : Hid (oneSeq f k = false) := by show _ = _; simp [oneSeq, h0]
        go_wp2_with (fail)
        go_ret
        exact ⟨ret_bool hs.out.symm, hb⟩

end Go.Proofs.Ytegllnjncpaipaa
