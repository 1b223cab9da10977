/-
  The rack's 'call', by contract.
-/
import Derived.Test.YtciddoeeiamndaaRack
namespace Go.Proofs.Ytciddoeeiamndaa
open Go.RowKit Go.Maps

def Dk.called (d : Dk) : Dk := { d with bad := d.bad || d.cnt == 0, cnt := if 0 < d.cnt then d.cnt - 1 else d.cnt }
/-- The first k disks have been told of a call. -/
def Rk.told (R : Rk) (k : Nat) : Rk := { R with d := fun j => if j < k then (R.d j).called else R.d j }
theorem Rk.told_zero (R : Rk) : R.told 0 = R := by unfold Rk.told; simp
theorem Rk.told_succ (R : Rk) (k : Nat) : (R.told k).setD k ((R.told k).d k).called = R.told (k + 1) := by
  unfold Rk.told Rk.setD
  simp only [Rk.mk.injEq, true_and]
  funext j
  by_cases h : j = k
  · subst h
    simp
  · rw [if_neg h]
    by_cases h2 : j < k
    · rw [if_pos h2, if_pos (by omega)]
    · rw [if_neg h2, if_neg (by omega)]

theorem RackAt.congr {w : World} {M : Nat → Prop} {L : Lay} {R R' : Rk} (h : RackAt w M L R) (hn : R'.n = R.n) (hS : R'.S = R.S) (ho : R'.off = R.off) (hc : R'.cnt = R.cnt) (hd : ∀ i, i < R.n → R'.d i = R.d i) : RackAt w M L R' := by
  obtain ⟨n, S, off, cnt, d⟩ := R
  obtain ⟨n', S', off', cnt', d'⟩ := R'
  simp only at hn hS ho hc hd
  subst hn hS ho hc
  exact ⟨h.row, h.rows, fun i hi => by show DrvAt w M _ L.db (i * 4) (L.lb i) (L.mb i) (d' i); rw [hd i hi]; exact h.drv i hi, h.apart, h.sub, h.low, h.few, h.fewS, h.big⟩

theorem called_rack (M : Nat → Prop) (L : Lay) (R : Rk) (i : Nat) (w : World) (h : RackAt w M L R) (hi : i < R.n) :
    Calls Try.prog 80 #[.pointer (some ⟨L.db, i * 4, none⟩)] w fun e w' => e = .returned (.tuple #[]) ∧ RackAt w' M L (R.setD i (R.d i).called) ∧ Turn (L.M R.n) w w' := by
  have hd := h.drv i hi
  refine (called_any L.db (i * 4) (R.d i).bad (R.d i).cnt w hd.c2 hd.c3 (h.fd _) (h.fd _) hd.big).mono ?_
  rintro e w' ⟨rfl, rfl⟩
  refine ⟨rfl, ?_, ?_⟩
  · have hb := hd.big
    split
    · next h0 =>
      refine (h.setDrv hi 2 (.bool true) (.inl rfl) true (R.d i).cnt hb rfl rfl).congr rfl rfl rfl rfl fun j _ => ?_
      unfold Rk.setD Dk.called
      simp [h0]
    · next h0 =>
      split
      · next h1 =>
        refine (h.setDrv hi 3 (.int .i64 ((R.d i).cnt - 1)) (.inr rfl) (R.d i).bad ((R.d i).cnt - 1) (by omega) rfl rfl).congr rfl rfl rfl rfl fun j _ => ?_
        unfold Rk.setD Dk.called
        have : ((R.d i).cnt == 0) = false := by simpa using h0
        simp [this, h1]
      · next h1 =>
        refine h.congr rfl rfl rfl rfl fun j _ => ?_
        unfold Rk.setD Dk.called
        have : ((R.d i).cnt == 0) = false := by simpa using h0
        by_cases e : j = i
        · subst e; simp [this, h1]
        · simp [e]
  · split
    · exact (turn_set w L.db _ _).mono fun k e => e ▸ L.M_db _
    · split
      · exact (turn_set w L.db _ _).mono fun k e => e ▸ L.M_db _
      · exact Turn.refl _ _

/-- What a call answers, and what it leaves. -/
def Rk.callE (R : Rk) (i : Nat) : Int := if R.cnt = 0 then 12 else if (R.d i).called.bad then 13 else 0
def Rk.call (R : Rk) : Rk := if R.cnt = 0 then { R with off := true } else { R with cnt := if 0 < R.cnt then R.cnt - 1 else R.cnt, d := fun j => (R.d j).called }
def CallPost (M : Nat → Prop) (L : Lay) (R R' : Rk) (w : World) (v : Value) (e : Ending) (w' : World) : Prop := e = .returned v ∧ RackAt w' M L R' ∧ Turn (L.M R.n) w w'

theorem call_dead (M : Nat → Prop) (L : Lay) (R : Rk) (i : Nat) (w : World) (h : RackAt w M L R) (h0 : R.cnt = 0) :
    Calls Try.prog 55 #[.pointer (some ⟨L.p, 0, none⟩), .int .i64 i] w (CallPost M L R R.call w (.int .i64 (R.callE i))) := by
  have c2 := h.c2
  have c3 := h.c3
  have f2 := h.fp 2
  rw [h0] at c3
  have h0' : Hid (R.cnt = 0) := h0
  clear h0
  go_enter Try.func55, Try.ntmps55
  go_wp2
  go_ret
  refine ⟨?_, ?_, (turn_set w L.p 2 _).mono fun k e => e ▸ L.M_p _⟩
  · simp [Rk.callE, h0'.out]
  · unfold Rk.call
    rw [if_pos h0'.out]
    exact h.setOff true

set_option maxHeartbeats 400000 in
theorem call_live (M : Nat → Prop) (L : Lay) (R : Rk) (i : Nat) (w : World) (h : RackAt w M L R) (h0 : R.cnt ≠ 0) (hi : i < R.n) :
    Calls Try.prog 55 #[.pointer (some ⟨L.p, 0, none⟩), .int .i64 i] w (CallPost M L R R.call w (.int .i64 (R.callE i))) := by
  obtain ⟨n, hn⟩ : ∃ n, n = R.n := ⟨_, rfl⟩
  have few := h.few
  have big := h.big
  have c0 := h.c0
  have c3 := h.c3
  have f3 := h.fp 3
  rw [← hn] at hi few c0
  have hn' : Hid (n = R.n) := hn
  clear hn
  have hne : (R.cnt == 0) = false := by simpa using h0
  obtain ⟨R0, hR0⟩ : ∃ R0 : Rk, Hid (R0 = { R with cnt := if 0 < R.cnt then R.cnt - 1 else R.cnt }) := ⟨_, Lib.hid rfl⟩
  have hend : Hid (∀ wr, RackAt wr M L (R0.told n) → RackAt wr M L R.call) := by
    intro wr hw
    refine hw.congr ?_ ?_ ?_ ?_ fun j hj => ?_ <;> (rw [hR0.out] at *; unfold Rk.call Rk.told; rw [if_neg h0])
    have : j < n := by rw [hn'.out]; exact hj
    simp [this]
  have hret : Hid (R.callE i = if (R.d i).called.bad then 13 else 0) := by unfold Rk.callE Hid; rw [if_neg h0]
  have hlast : Hid (∀ wr, RackAt wr M L (R0.told n) → wr.cell? ⟨L.db, i * 4 + 2, none⟩ = some (.bool (R.d i).called.bad)) := by
    intro wr hw
    have e : ((R0.told n).d i) = (R.d i).called := by rw [hR0.out]; unfold Rk.told; simp [hi]
    have := (hw.drv i (by rw [hR0.out]; show i < R.n; rw [← hn'.out]; exact hi)).c2
    rwa [e] at this
  obtain ⟨bad, hbad⟩ : ∃ x, Hid (x = (R.d i).called.bad) := ⟨_, Lib.hid rfl⟩
  rw [← hbad.out] at hret hlast
  clear h0
  by_cases h1 : 0 < R.cnt
  all_goals
    go_enter Try.func55, Try.ntmps55
    go_wp2
    go_loopw [5, 31] (fun _ i wr => ∃ k : Nat, k ≤ n ∧ i = .int .i64 k ∧ RackAt wr M L (R0.told k) ∧ Turn (L.M R.n) w wr) (fun _ i _ => n - (RowKit.intOf i).toNat)
    case atStart =>
      refine ⟨0, Nat.zero_le _, rfl, ?_, ?_⟩
      · rw [Rk.told_zero, hR0.out]
        first
          | (rw [if_pos h1]; exact h.setCnt _ (by omega))
          | (rw [if_neg (by omega)]; exact h)
      · first
          | exact (turn_set w L.p 3 _).mono fun k e => e ▸ L.M_p _
          | exact Turn.refl _ _
    case round =>
      obtain ⟨k, hk, rfl, hr, ht⟩ := hrel
      have a0 : wr.cell? ⟨L.p, 0, none⟩ = some (.slice (some ⟨L.db, 0, none⟩) n n) := by
        have := hr.c0
        rw [show (R0.told k).n = n by rw [hR0.out]; exact hn'.out.symm] at this
        exact this
      clear c0 c3 f3
      by_cases hlt : k < n
      · have hcall := called_rack M L (R0.told k) k wr hr (by rw [hR0.out]; show k < R.n; rw [← hn'.out]; exact hlt)
        rw [Rk.told_succ] at hcall
        go_wp2_with (go_at_call 80; refine hcall.mono ?_; rintro e w' ⟨rfl, hr2, ht2⟩)
        have ht2' : Turn (L.M R.n) wr w' := by rw [hR0.out] at ht2; exact ht2
        go_roundw
        case rel => exact ⟨k + 1, by omega, by go_num, hr2, ht.trans ht2'⟩
        case measure => simp [RowKit.intOf]; omega
      · obtain rfl : k = n := by omega
        have cl := hlast.out wr hr
        have hfin := hend.out wr hr
        clear hlast hend
        cases bad with
        | true =>
          go_wp2
          go_ret
          exact ⟨by rw [hret.out]; rfl, hfin, ht⟩
        | false =>
          go_wp2
          go_ret
          exact ⟨by rw [hret.out]; rfl, hfin, ht⟩

theorem call_rack (M : Nat → Prop) (L : Lay) (R : Rk) (i : Nat) (w : World) (h : RackAt w M L R) (hi : i < R.n) :
    Calls Try.prog 55 #[.pointer (some ⟨L.p, 0, none⟩), .int .i64 i] w (CallPost M L R R.call w (.int .i64 (R.callE i))) := by
  by_cases h0 : R.cnt = 0
  · exact call_dead M L R i w h h0
  · exact call_live M L R i w h h0 hi

end Go.Proofs.Ytciddoeeiamndaa
