/-
  The rack's other calls, by contract.
-/
import Derived.Test.YtciddoeeiamndaaWrite
namespace Go.Proofs.Ytciddoeeiamndaa
open Go.RowKit Go.Maps

variable (M : Nat → Prop) (L : Lay) (R : Rk) (w : World)

theorem write_dead (i s : Int) (a : Option Addr) (n c : Nat) (h : RackAt w M L R) (hoff : R.off = true) :
    Calls Try.prog 24 #[.pointer (some ⟨L.p, 0, none⟩), .int .i64 i, .int .i64 s, .slice a n c] w fun e w' => e = .returned (.int .i64 12) ∧ w = w' := by
  have c2 := h.c2
  rw [hoff] at c2
  clear hoff
  go_enter Try.func24, Try.ntmps24
  go_wp2
  go_ret
  exact ⟨rfl, rfl⟩

theorem write_bad (i s : Int) (a : Option Addr) (n c : Nat) (h : RackAt w M L R) (hoff : R.off = false) (hb : hasB R.n R.S i s = false ∨ n ≠ 64) :
    Calls Try.prog 24 #[.pointer (some ⟨L.p, 0, none⟩), .int .i64 i, .int .i64 s, .slice a n c] w fun e w' => e = .returned (.int .i64 11) ∧ w = w' := by
  have c0 := h.c0
  have c1 := h.c1
  have c2 := h.c2
  rw [hoff] at c2
  clear hoff
  cases hh : hasB R.n R.S i s with
  | false =>
    have hs := hasSector_no L.p L.db R.n R.n R.S i s w c0 c1 hh
    clear hh hb
    go_enter Try.func24, Try.ntmps24
    go_wp2_with (go_at_call 51; refine hs.mono ?_; rintro e w' ⟨rfl, rfl⟩)
    go_ret
    exact ⟨rfl, rfl⟩
  | true =>
    have hs := hasSector_yes L.p L.db R.n R.n R.S i s w c0 c1 hh
    have hn : ((n : Int) != 64) = true := by
      rcases hb with hb | hb
      · rw [hh] at hb; cases hb
      · simp; omega
    clear hh hb
    go_enter Try.func24, Try.ntmps24
    go_wp2_with (go_at_call 51; refine hs.mono ?_; rintro e w' ⟨rfl, rfl⟩)
    go_ret
    exact ⟨rfl, rfl⟩

theorem write_err (i s : Nat) (a : Option Addr) (c : Nat) (h : RackAt w M L R) (hoff : R.off = false) (hi : i < R.n) (hs : s < R.S) (hE : R.callE i ≠ 0) :
    Calls Try.prog 24 #[.pointer (some ⟨L.p, 0, none⟩), .int .i64 i, .int .i64 s, .slice a 64 c] w (CallPost M L R R.call w (.int .i64 (R.callE i))) := by
  have c0 := h.c0
  have c1 := h.c1
  have c2 := h.c2
  rw [hoff] at c2
  have hsec := hasSector_yes L.p L.db R.n R.n R.S i s w c0 c1 (hasB_yes (by omega) (by omega) (by omega) (by omega))
  have hcall := call_rack M L R i w h hi
  have hne : (R.callE i != 0) = true := by simpa using hE
  clear hoff hE
  go_enter Try.func24, Try.ntmps24
  go_wp2_with (first
    | (go_at_call 51; refine hsec.mono ?_; rintro e w' ⟨rfl, rfl⟩)
    | (go_at_call 55; refine hcall.mono ?_; rintro e w' ⟨rfl, hr, ht⟩))
  go_ret
  exact ⟨rfl, hr, ht⟩

theorem flush_dead (i : Int) (h : RackAt w M L R) (hoff : R.off = true) :
    Calls Try.prog 37 #[.pointer (some ⟨L.p, 0, none⟩), .int .i64 i] w fun e w' => e = .returned (.int .i64 12) ∧ w = w' := by
  have c2 := h.c2
  rw [hoff] at c2
  clear hoff
  go_enter Try.func37, Try.ntmps37
  go_wp2
  go_ret
  exact ⟨rfl, rfl⟩
theorem flush_bad (i : Int) (h : RackAt w M L R) (hoff : R.off = false) (hb : ¬ (0 ≤ i ∧ i < R.n)) :
    Calls Try.prog 37 #[.pointer (some ⟨L.p, 0, none⟩), .int .i64 i] w fun e w' => e = .returned (.int .i64 11) ∧ w = w' := by
  have c2 := h.c2
  rw [hoff] at c2
  have hs := hasDisk_no L.p L.db R.n R.n i w h.c0 hb
  clear hoff hb
  go_enter Try.func37, Try.ntmps37
  go_wp2_with (go_at_call 35; refine hs.mono ?_; rintro e w' ⟨rfl, rfl⟩)
  go_ret
  exact ⟨rfl, rfl⟩
theorem flush_err (i : Nat) (h : RackAt w M L R) (hoff : R.off = false) (hi : i < R.n) (hE : R.callE i ≠ 0) :
    Calls Try.prog 37 #[.pointer (some ⟨L.p, 0, none⟩), .int .i64 i] w (CallPost M L R R.call w (.int .i64 (R.callE i))) := by
  have c2 := h.c2
  rw [hoff] at c2
  have hs := hasDisk_yes L.p L.db R.n R.n i w h.c0 (by omega) (by omega)
  have hcall := call_rack M L R i w h hi
  have hne : (R.callE i != 0) = true := by simpa using hE
  clear hoff hE
  go_enter Try.func37, Try.ntmps37
  go_wp2_with (first
    | (go_at_call 35; refine hs.mono ?_; rintro e w' ⟨rfl, rfl⟩)
    | (go_at_call 55; refine hcall.mono ?_; rintro e w' ⟨rfl, hr, ht⟩))
  go_ret
  exact ⟨rfl, hr, ht⟩

theorem Rk.call_n : R.call.n = R.n := by unfold Rk.call; split <;> rfl
theorem Rk.call_S : R.call.S = R.S := by unfold Rk.call; split <;> rfl

theorem flush_rack (i : Nat) (h : RackAt w M L R) (hi : i < R.n) :
    Calls Try.prog 67 #[.pointer (some ⟨L.db, i * 4, none⟩)] w (CallPost M L R (R.setD i ((R.d i).flush R.S)) w (.tuple #[])) := by
  have A := h.apart
  refine (flush_any M R.S L.db (i * 4) (L.lb i) (L.mb i) (R.d i) w (h.drv i hi) (A.lm i i hi hi) (Ne.symm (A.ld i hi)) (Ne.symm (A.md i hi)) (h.sub _ (L.M_lb hi)) h.fewS).mono ?_
  rintro e w' ⟨rfl, ht, hd⟩
  exact ⟨rfl, h.drive hi ht hd, ht.mono fun k x => x.elim (fun e => e ▸ L.M_lb hi) (fun e => e ▸ L.M_mb hi)⟩
theorem flush_ok (i : Nat) (h : RackAt w M L R) (hoff : R.off = false) (hi : i < R.n) (hE : R.callE i = 0) :
    Calls Try.prog 37 #[.pointer (some ⟨L.p, 0, none⟩), .int .i64 i] w (CallPost M L R (R.call.setD i ((R.call.d i).flush R.S)) w (.int .i64 0)) := by
  have c2 := h.c2
  rw [hoff] at c2
  obtain ⟨n, hn⟩ : ∃ n, n = R.n := ⟨_, rfl⟩
  have hs := hasDisk_yes L.p L.db R.n R.n i w h.c0 (by omega) (by omega)
  have hcall := call_rack M L R i w h hi
  rw [hE] at hcall
  have hn' : Hid (n = R.n) := hn
  rw [← hn] at hi
  clear hoff hE hn
  go_enter Try.func37, Try.ntmps37
  go_wp2_with (go_at_call 35; refine hs.mono ?_; rintro e w' ⟨rfl, rfl⟩)
  refine hcall.mono ?_
  rintro e w1 ⟨rfl, hr1, ht1⟩
  have a0 : w1.cell? ⟨L.p, 0, none⟩ = some (.slice (some ⟨L.db, 0, none⟩) n n) := by
    have := hr1.c0
    rwa [Rk.call_n, ← hn'.out] at this
  have hfl := flush_rack M L R.call w1 i hr1 (by rw [Rk.call_n, ← hn'.out]; exact hi)
  rw [Rk.call_S] at hfl
  go_wp2_with (go_at_call 67; refine hfl.mono ?_; rintro e w2 ⟨rfl, hr2, ht2⟩)
  go_ret
  refine ⟨rfl, hr2, ht1.trans ?_⟩
  rwa [Rk.call_n] at ht2

theorem read_dead (i s : Int) (h : RackAt w M L R) (hoff : R.off = true) :
    Calls Try.prog 22 #[.pointer (some ⟨L.p, 0, none⟩), .int .i64 i, .int .i64 s] w fun e w' => e = .returned (.tuple #[.slice none 0 0, .int .i64 12]) ∧ w = w' := by
  have c2 := h.c2
  rw [hoff] at c2
  clear hoff
  go_enter Try.func22, Try.ntmps22
  go_wp2
  go_ret2
  exact ⟨rfl, rfl⟩
theorem read_bad (i s : Int) (h : RackAt w M L R) (hoff : R.off = false) (hb : hasB R.n R.S i s = false) :
    Calls Try.prog 22 #[.pointer (some ⟨L.p, 0, none⟩), .int .i64 i, .int .i64 s] w fun e w' => e = .returned (.tuple #[.slice none 0 0, .int .i64 11]) ∧ w = w' := by
  have c2 := h.c2
  rw [hoff] at c2
  have hs := hasSector_no L.p L.db R.n R.n R.S i s w h.c0 h.c1 hb
  clear hoff hb
  go_enter Try.func22, Try.ntmps22
  go_wp2_with (go_at_call 51; refine hs.mono ?_; rintro e w' ⟨rfl, rfl⟩)
  go_ret2
  exact ⟨rfl, rfl⟩
theorem read_failed (i s : Nat) (h : RackAt w M L R) (hoff : R.off = false) (hi : i < R.n) (hs : s < R.S) (hb : (R.d i).bad = true) :
    Calls Try.prog 22 #[.pointer (some ⟨L.p, 0, none⟩), .int .i64 i, .int .i64 s] w fun e w' => e = .returned (.tuple #[.slice none 0 0, .int .i64 13]) ∧ w = w' := by
  have c2 := h.c2
  rw [hoff] at c2
  have c0 := h.c0
  have b2 := (h.drv i hi).c2
  rw [hb] at b2
  have hsec := hasSector_yes L.p L.db R.n R.n R.S i s w h.c0 h.c1 (hasB_yes (by omega) (by omega) (by omega) (by omega))
  clear hoff hb
  go_enter Try.func22, Try.ntmps22
  go_wp2_with (go_at_call 51; refine hsec.mono ?_; rintro e w' ⟨rfl, rfl⟩)
  go_ret2
  exact ⟨rfl, rfl⟩
/-- A slice of these bytes, and OK. -/
def RetBE (w0 : World) (zs : List Int) (e : Ending) (w' : World) : Prop := ∃ a c, e = .returned (.tuple #[.slice a zs.length c, .int .i64 0]) ∧ SliceOf w0 zs zs.length a c w'
theorem read_ok (i s : Nat) (h : RackAt w M L R) (hoff : R.off = false) (hi : i < R.n) (hs : s < R.S) (hb : (R.d i).bad = false) :
    Calls Try.prog 22 #[.pointer (some ⟨L.p, 0, none⟩), .int .i64 i, .int .i64 s] w (RetBE w ((R.d i).read s)) := by
  have c2 := h.c2
  rw [hoff] at c2
  have c0 := h.c0
  have b2 := (h.drv i hi).c2
  rw [hb] at b2
  have hsec := hasSector_yes L.p L.db R.n R.n R.S i s w h.c0 h.c1 (hasB_yes (by omega) (by omega) (by omega) (by omega))
  have hrd := read_any M R.S L.db (i * 4) (L.lb i) (L.mb i) s (R.d i) w (h.drv i hi) h.fewS hs
  clear hoff hb
  go_enter Try.func22, Try.ntmps22
  go_wp2_with (first
    | (go_at_call 51; refine hsec.mono ?_; rintro e w' ⟨rfl, rfl⟩)
    | (go_at_call 54; refine hrd.mono ?_; rintro e w1 ⟨a, c, rfl, hsl⟩))
  go_ret2
  exact ⟨a, c, rfl, hsl⟩

theorem doom_bad (i n : Int) (h : RackAt w M L R) (hb : ¬ (0 ≤ i ∧ i < R.n)) :
    Calls Try.prog 12 #[.pointer (some ⟨L.p, 0, none⟩), .int .i64 i, .int .i64 n] w fun e w' => e = .returned (.int .i64 11) ∧ w = w' := by
  have hs := hasDisk_no L.p L.db R.n R.n i w h.c0 hb
  clear hb
  go_enter Try.func12, Try.ntmps12
  go_wp2_with (go_at_call 35; refine hs.mono ?_; rintro e w' ⟨rfl, rfl⟩)
  go_ret
  exact ⟨rfl, rfl⟩
theorem doom_ok (i : Nat) (n : Int) (h : RackAt w M L R) (hi : i < R.n) (hn : n ≤ 9223372036854775807) :
    Calls Try.prog 12 #[.pointer (some ⟨L.p, 0, none⟩), .int .i64 i, .int .i64 n] w (CallPost M L R (R.setD i { R.d i with cnt := n }) w (.int .i64 0)) := by
  have c0 := h.c0
  have b3 := (h.drv i hi).c3
  have f3 := h.fd (i * 4 + 3)
  have hs := hasDisk_yes L.p L.db R.n R.n i w h.c0 (by omega) (by omega)
  go_enter Try.func12, Try.ntmps12
  go_wp2_with (go_at_call 35; refine hs.mono ?_; rintro e w' ⟨rfl, rfl⟩)
  go_ret
  exact ⟨rfl, h.setDrv hi 3 (.int .i64 n) (.inr rfl) (R.d i).bad n hn rfl rfl, (turn_set w L.db _ _).mono fun k e => e ▸ L.M_db _⟩

def Dk.load (S : Nat) (d : Dk) (zs : List Int) : Dk := { d with last := loadL S zs, cache := noneC }
theorem lasting_bad (i s : Int) (h : RackAt w M L R) (hb : hasB R.n R.S i s = false) :
    Calls Try.prog 21 #[.pointer (some ⟨L.p, 0, none⟩), .int .i64 i, .int .i64 s] w fun e w' => e = .returned (.tuple #[.slice none 0 0, .int .i64 11]) ∧ w = w' := by
  have hs := hasSector_no L.p L.db R.n R.n R.S i s w h.c0 h.c1 hb
  clear hb
  go_enter Try.func21, Try.ntmps21
  go_wp2_with (go_at_call 51; refine hs.mono ?_; rintro e w' ⟨rfl, rfl⟩)
  go_ret2
  exact ⟨rfl, rfl⟩
theorem lasting_ok (i s : Nat) (h : RackAt w M L R) (hi : i < R.n) (hs : s < R.S) :
    Calls Try.prog 21 #[.pointer (some ⟨L.p, 0, none⟩), .int .i64 i, .int .i64 s] w (RetBE w (sec (R.d i).last s)) := by
  have c0 := h.c0
  have hd := h.drv i hi
  have hsec := hasSector_yes L.p L.db R.n R.n R.S i s w h.c0 h.c1 (hasB_yes (by omega) (by omega) (by omega) (by omega))
  have hla := lastingOf_any L.db (i * 4) (L.lb i) s R.S w hd.c0 hs h.fewS
  have hy := hd.blk.sec hd.len hd.small hs
  have hcl := clone_new _ _ _ (R.S * 64 - s * 64) _ w hy (by omega) (by omega)
  have hlen : Hid ((sec (R.d i).last s).length = 64) := hy.len
  clear hy
  go_enter Try.func21, Try.ntmps21
  go_wp2_with (first
    | (go_at_call 51; refine hsec.mono ?_; rintro e w' ⟨rfl, rfl⟩)
    | (go_at_call 53; refine hla.mono ?_; rintro e w' ⟨rfl, rfl⟩)
    | (go_at_call 52; refine hcl.mono ?_; rintro e w1 ⟨g, cv, rfl, hg, hy1, hb1⟩))
  go_ret2
  refine ⟨some ⟨g, 0, none⟩, cv, ?_, ?_⟩
  · rw [hlen.out]; rfl
  · rw [hlen.out]; exact ⟨hy1, (fun e => by cases e), hb1⟩

theorem off_rack (h : RackAt w M L R) : Calls Try.prog 94 #[.pointer (some ⟨L.p, 0, none⟩)] w fun e w' => e = .returned (.bool R.off) ∧ w = w' := off_any L.p R.off w h.c2
/-- Has such a disk failed? -/
def Rk.failed (R : Rk) (i : Int) : Bool := decide (0 ≤ i ∧ i < R.n) && (R.d i.toNat).bad
theorem failed_rack (i : Int) (h : RackAt w M L R) : Calls Try.prog 70 #[.pointer (some ⟨L.p, 0, none⟩), .int .i64 i] w fun e w' => e = .returned (.bool (R.failed i)) ∧ w = w' := by
  have c0 := h.c0
  by_cases hi : 0 ≤ i ∧ i < R.n
  · have hs := hasDisk_yes L.p L.db R.n R.n i w h.c0 hi.1 hi.2
    obtain ⟨m, rfl⟩ := Int.eq_ofNat_of_zero_le hi.1
    have hm : m < R.n := by omega
    have b2 := (h.drv m hm).c2
    have e : Hid (R.failed m = (R.d m).bad) := by
      unfold Rk.failed Hid
      simp [hm]
    clear hi
    go_enter Try.func70, Try.ntmps70
    go_wp2_with (go_at_call 35; refine hs.mono ?_; rintro e w' ⟨rfl, rfl⟩)
    go_ret
    exact ⟨ret_bool e.out.symm, rfl⟩
  · have hs := hasDisk_no L.p L.db R.n R.n i w h.c0 hi
    have e : Hid (R.failed i = false) := by
      unfold Rk.failed Hid
      rw [decide_eq_false hi]
      rfl
    clear hi
    go_enter Try.func70, Try.ntmps70
    go_wp2_with (go_at_call 35; refine hs.mono ?_; rintro e w' ⟨rfl, rfl⟩)
    go_ret
    exact ⟨ret_bool e.out.symm, rfl⟩

end Go.Proofs.Ytciddoeeiamndaa
