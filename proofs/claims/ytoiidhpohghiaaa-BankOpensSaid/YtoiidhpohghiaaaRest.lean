/-
  The rack's Restore, by contract.
-/
import Derived.Test.YtoiidhpohghiaaaOps
namespace Go.Proofs.Ytoiidhpohghiaaa
open Go.RowKit Go.Maps

/-- How many sectors the disks ahead of this one have cached. -/
def Rk.num (R : Rk) : Nat → Nat
  | 0 => 0
  | i + 1 => R.num i + rank (R.d i).cache R.S
theorem Rk.num_le (R : Rk) (i : Nat) : R.num i ≤ i * R.S := by
  induction i with
  | zero => simp [Rk.num]
  | succ k ih =>
    have := rank_le (R.d k).cache R.S
    show R.num k + _ ≤ _
    rw [Nat.succ_mul]
    omega
def Rk.restTo (R : Rk) (ks : List Int) (k : Nat) : Rk := { R with off := false, cnt := -1, d := fun j => if j < k then (R.d j).restore R.S ks (R.num j) else R.d j }
/-- A rack behind Restore. -/
def Rk.restore (R : Rk) (ks : List Int) : Rk := { R with off := false, cnt := -1, d := fun j => (R.d j).restore R.S ks (R.num j) }
theorem Rk.restTo_succ (R : Rk) (ks : List Int) (k : Nat) : (R.restTo ks k).setD k (((R.restTo ks k).d k).restore R.S ks (R.num k)) = R.restTo ks (k + 1) := by
  unfold Rk.restTo Rk.setD
  simp only [Rk.mk.injEq, true_and]
  funext j
  by_cases h : j = k
  · subst h
    simp
  · rw [if_neg h]
    by_cases h2 : j < k
    · rw [if_pos h2, if_pos (by omega)]
    · rw [if_neg h2, if_neg (by omega)]
theorem Rk.restTo_n (R : Rk) (ks : List Int) (k : Nat) : (R.restTo ks k).n = R.n := rfl

theorem restore_rack (M : Nat → Prop) (L : Lay) (R : Rk) (i n c num : Nat) (a : Option Addr) (ks : List Int) (w : World) (h : RackAt w M L R) (hi : i < R.n) (hx : Ins w a n ks) (hxm : n = 0 ∨ ∀ b off, a = some ⟨b, off, none⟩ → ¬ M b) (hn : n ≤ 1000000000000) (hnum : num ≤ 1000000000) :
    Calls Try.prog 45 #[.pointer (some ⟨L.db, i * 4, none⟩), .slice a n c, .int .i64 num] w (CallPost M L R (R.setD i ((R.d i).restore R.S ks num)) w (.int .i64 (rank (R.d i).cache R.S))) := by
  have A := h.apart
  refine (restore_any M R.S L.db (i * 4) (L.lb i) (L.mb i) n c num a ks (R.d i) w (h.drv i hi) hx hxm (A.lm i i hi hi) (Ne.symm (A.ld i hi)) (Ne.symm (A.md i hi)) (h.sub _ (L.M_lb hi)) h.fewS hn hnum).mono ?_
  rintro e w' ⟨rfl, ht, hd⟩
  exact ⟨rfl, h.drive hi ht hd, ht.mono fun k x => x.elim (fun e => e ▸ L.M_lb hi) (fun e => e ▸ L.M_mb hi)⟩

set_option maxHeartbeats 400000 in
theorem restore_ok (M : Nat → Prop) (L : Lay) (R : Rk) (n c : Nat) (a : Option Addr) (ks : List Int) (w : World) (h : RackAt w M L R) (hx : Ins w a n ks) (hxm : n = 0 ∨ ∀ b off, a = some ⟨b, off, none⟩ → ¬ M b) (hn : n ≤ 1000000000000) :
    Calls Try.prog 25 #[.pointer (some ⟨L.p, 0, none⟩), .slice a n c] w (CallPost M L R (R.restore ks) w (.tuple #[])) := by
  obtain ⟨m, hm⟩ : ∃ m, m = R.n := ⟨_, rfl⟩
  have few := h.few
  have fewS := h.fewS
  have c0 := h.c0
  have c2 := h.c2
  have c3 := h.c3
  have f2 := h.fp 2
  have f3 := h.fp 3
  rw [← hm] at few c0
  have hm' : Hid (m = R.n) := hm
  clear hm
  have hend : Hid (∀ wr, RackAt wr M L (R.restTo ks m) → RackAt wr M L (R.restore ks)) := by
    intro wr hw
    refine hw.congr rfl rfl rfl rfl fun j hj => ?_
    have : j < m := by rw [hm'.out]; exact hj
    simp [Rk.restTo, Rk.restore, this]
  go_enter Try.func25, Try.ntmps25
  go_wp2
  go_loopw [4, 5, 17] (fun t _ i wr => ∃ k : Nat, k ≤ m ∧ i = .int .i64 k ∧ t = .int .i64 (R.num k) ∧ RackAt wr M L (R.restTo ks k) ∧ Turn (L.M R.n) w wr) (fun _ _ i _ => m - (intOf i).toNat)
  case atStart =>
    refine ⟨0, Nat.zero_le _, rfl, rfl, ?_, ?_⟩
    · refine ((h.setOff false).setCnt (-1) (by omega)).congr rfl rfl rfl rfl fun j _ => ?_
      simp [Rk.restTo]
    · exact ((turn_set w L.p 2 _).trans (turn_set _ L.p 3 _)).mono fun k e => e ▸ L.M_p _
  case round =>
    obtain ⟨k, hk, rfl, rfl, hr, ht⟩ := hrel
    have a0 : wr.cell? ⟨L.p, 0, none⟩ = some (.slice (some ⟨L.db, 0, none⟩) m m) := by
      have := hr.c0
      rwa [Rk.restTo_n, ← hm'.out] at this
    have hxr : Ins wr a n ks := ins_turn' hx ht (hxm.imp id fun hxm b off e x => hxm b off e (h.sub _ x))
    have hnum : R.num k ≤ 1000000 := by
      have h1 := Rk.num_le R k
      have h2 : k * R.S ≤ 17 * 4096 := Nat.mul_le_mul (by omega) fewS
      omega
    have hnum2 : R.num (k + 1) ≤ 1000000 ∨ ¬ k < m := by
      by_cases hkm : k < m
      · have h1 := Rk.num_le R (k + 1)
        have h2 : (k + 1) * R.S ≤ 17 * 4096 := Nat.mul_le_mul (by omega) fewS
        exact .inl (by omega)
      · exact .inr hkm
    clear c0 c2 c3 f2 f3
    by_cases hlt : k < m
    · have hrk : R.num k + rank (R.d k).cache R.S ≤ 1000000 := by
        rcases hnum2 with h | h
        · exact h
        · omega
      have hcall := restore_rack M L (R.restTo ks k) k n c (R.num k) a ks wr hr (by rw [Rk.restTo_n, ← hm'.out]; exact hlt) hxr hxm hn (by omega)
      have ed : (R.restTo ks k).d k = R.d k := by simp [Rk.restTo]
      rw [show (R.restTo ks k).S = R.S from rfl, Rk.restTo_succ, ed] at hcall
      clear ed hnum2 hx hxr
      go_wp2_with (go_at_call 45; refine hcall.mono ?_; rintro e w' ⟨rfl, hr2, ht2⟩)
      go_roundw
      case rel => exact ⟨k + 1, by omega, by go_num, by first | rfl | go_num, hr2, ht.trans ht2⟩
      case measure => simp [intOf]; omega
    · obtain rfl : k = m := by omega
      have hfin := hend.out wr hr
      clear hend hnum2
      go_wp2
      go_end0
      exact ⟨rfl, hfin, ht⟩

end Go.Proofs.Ytoiidhpohghiaaa
