/-
  The rack's Write, by contract.
-/
import Derived.Test.YtegmeoghonolcaaGreatDvb
import Derived.Deep.RegionHeld3
set_option linter.unusedSimpArgs false
set_option linter.unusedVariables false
namespace Go.Proofs.YtegmeoghonolcaaGreat
open Go.RowKit Go.Maps

def NewSlice (w : World) (n : Nat) (x : List Int) (e : Ending) (w' : World) : Prop := ∃ g c, e = .returned (.slice (some ⟨g, 0, none⟩) n c) ∧ w.heap.size ≤ g ∧ Bys w' (some ⟨g, 0, none⟩) n x ∧ Below w.heap.size w w'
theorem clone_new (b off la ca : Nat) (x : List Int) (w : World) (hx : Bys w (some ⟨b, off, none⟩) la x) (hla : la ≤ 1000000000000) (h0 : 0 < la) :
    Calls Tryz.prog 125 #[.slice (some ⟨b, off, none⟩) la ca] w (NewSlice w la x) := by
  refine (clone_any b off la ca x w hx hla).mono ?_
  rintro e w' ⟨v, rfl, hown, hb⟩
  obtain ⟨a, c, rfl, h1, h2, _⟩ := hown.form
  rcases hown.row.2 with ⟨h, h'⟩ | ⟨g, cap, cur, h, hg, _⟩
  · omega
  · cases h
    exact ⟨g, _, rfl, hg, h2, hb⟩

/-- A disk with one sector more cached. -/
def Dk.put (d : Dk) (s : Nat) (zs : List Int) : Dk := { d with cache := putC d.cache s zs }

set_option maxHeartbeats 1000000 in
theorem write_ok (M : Nat → Prop) (L : Lay) (R : Rk) (i s b off c : Nat) (zs : List Int) (w : World) (h : RackAt w M L R) (hoff : R.off = false) (hi : i < R.n) (hs : s < R.S) (hz : Bys w (some ⟨b, off, none⟩) 64 zs) (hzM : ¬ M b) (hE : R.callE i = 0) :
    Calls Tryz.prog 143 #[.pointer (some ⟨L.p, 0, none⟩), .int .i64 i, .int .i64 s, .slice (some ⟨b, off, none⟩) 64 c] w
      (CallPost M L R (R.call.setD i ((R.call.d i).put s zs)) w (.int .i64 0)) := by
  obtain ⟨n, hn⟩ : ∃ n, n = R.n := ⟨_, rfl⟩
  obtain ⟨S, hS⟩ : ∃ S, S = R.S := ⟨_, rfl⟩
  have few := h.few
  have fewS := h.fewS
  have c0 := h.c0
  have c1 := h.c1
  have c2 := h.c2
  have hbd : hasB R.n R.S i s = true := hasB_yes (by omega) (by omega) (by omega) (by omega)
  have hcall := call_rack M L R i w h hi
  rw [hE] at hcall
  rw [hoff] at c2
  rw [← hn] at hi few c0 hbd
  rw [← hS] at hs fewS c1 hbd
  have hn' : Hid (n = R.n) := hn
  have hS' : Hid (S = R.S) := hS
  have hM' : Hid (R.call.n = n ∧ R.call.S = S) := by unfold Hid Rk.call; split <;> exact ⟨hn.symm, hS.symm⟩
  clear hn hS hoff hE
  go_enter Tryz.func143, Tryz.ntmps143
  go_wp2_with (go_at_call 165; refine (hasSector_yes L.p L.db n n S i s w c0 c1 hbd).mono ?_; rintro e w' ⟨rfl, rfl⟩)
  refine hcall.mono ?_
  rintro e w1 ⟨rfl, hr1, ht1⟩
  have a0 : w1.cell? ⟨L.p, 0, none⟩ = some (.slice (some ⟨L.db, 0, none⟩) n n) := by
    have := hr1.c0
    rwa [hM'.out.1] at this
  have hd1 := hr1.drv i (by rw [hM'.out.1]; exact hi)
  have a1 := hd1.c1
  rw [hM'.out.2] at hd1
  obtain ⟨nn, D, hc'⟩ := hd1.cache
  have hc := hc'.tight
  clear hc'
  have hz1 : Bys w1 (some ⟨b, off, none⟩) 64 zs := bys_turn hz ht1 (fun b' off' e x => by cases e; exact hzM (h.sub _ x))
  have i0 : (0 : Int) ≤ (i : Int) := Int.natCast_nonneg _
  have i1 : (i : Int) < (n : Int) := by omega
  have fin : Hid (∀ (w2 w3 : World) (g : Nat), Below w1.drew.heap.size w1.drew w2 → w1.heap.size ≤ g → Bys w2 (some ⟨g, 0, none⟩) 64 zs → w3.ownsMap Tryz.prog 3 elemR (L.mb i) (S + 1) (D.put (keyI s) (.lit (.int .i64 (g : Int)))) → w2.mapTurned w3 (L.mb i) →
      RackAt w3 M L (R.call.setD i ((R.call.d i).put s zs)) ∧ Turn (L.M R.n) w w3) := by
    intro w2 w3 g hb hg hy hown ht
    have hr2 : RackAt w2 M L R.call := hr1.drew.below hb
    have ht3 := turn_map ht
    have A := hr1.apart
    have hi1 : i < R.call.n := by rw [hM'.out.1]; exact hi
    have hin : i < R.n := by rw [← hn'.out]; exact hi
    have hd2 := hr2.drv i hi1
    have hdm := Ne.symm (A.md i hi1)
    have hgM : ¬ M g := fun x => by have := hr1.low g x; omega
    have hc2 : CacheD w2 M S (L.mb i) (R.call.d i).cache S D := hc.turn ((turn_drew M w1).trans (Turn.of_below hb)) (hb.block _ hc.own.lt)
    have hca := hc2.put fewS hs hgM hy (ht3.mono fun k e => e ▸ h.sub _ (L.M_mb hin)) hown
    refine ⟨hr2.drive hi1 (ht3.mono fun k e => .inr e) ⟨(ht3.cell (a := ⟨L.db, i * 4, none⟩) hd2.lt hdm).trans hd2.c0, (ht3.cell (a := ⟨L.db, i * 4 + 1, none⟩) hd2.lt hdm).trans hd2.c1, (ht3.cell (a := ⟨L.db, i * 4 + 2, none⟩) hd2.lt hdm).trans hd2.c2, (ht3.cell (a := ⟨L.db, i * 4 + 3, none⟩) hd2.lt hdm).trans hd2.c3, hd2.blk.turn ht3 (A.lm i i hi1 hi1), hd2.len, hd2.small, ?_, hd2.big⟩, ?_⟩
    · rw [hM'.out.2]; exact hca
    · exact ((ht1.trans (turn_drew _ w1)).trans (Turn.of_below hb)).trans (ht3.mono fun k e => e ▸ L.M_mb hin)
  have hzd : Bys w1.drew (some ⟨b, off, none⟩) 64 zs := ⟨hz1.len, hz1.small, hz1.place⟩
  have hcd : CacheD w1.drew M S (L.mb i) (R.call.d i).cache S D := hc.turn (turn_drew M w1) rfl
  have lp := hr1.ltp
  have ld := hr1.ltd
  have d0 : w1.drew.cell? ⟨L.p, 0, none⟩ = some (.slice (some ⟨L.db, 0, none⟩) n n) := a0
  have d1 : w1.drew.cell? ⟨L.db, i * 4 + 1, none⟩ = some (.map (some (L.mb i))) := a1
  have np : Hid (L.p ≠ L.mb i) := Lib.hid (Ne.symm (hr1.apart.mp i (by rw [hM'.out.1]; exact hi)))
  have nd : Hid (L.db ≠ L.mb i) := Lib.hid (Ne.symm (hr1.apart.md i (by rw [hM'.out.1]; exact hi)))
  clear h ht1 hz hz1 hc hr1 hd1
  go_wp2_with (fail)
  go_region_held3 (fun w' => w'.cell? ⟨L.p, 0, none⟩ = some (.slice (some ⟨L.db, 0, none⟩) n n) ∧ w'.cell? ⟨L.db, i * 4 + 1, none⟩ = some (.map (some (L.mb i))))
    (first
      | go_keep
      | exact ⟨(hb2.cell (p := ⟨L.p, 0, none⟩) lp).trans d0, (hb2.cell (p := ⟨L.db, i * 4 + 1, none⟩) ld).trans d1⟩
      | exact ⟨((turn_map ht3).cell (a := ⟨L.p, 0, none⟩) (Nat.lt_of_lt_of_le lp hb2.size) np.out).trans ((hb2.cell (p := ⟨L.p, 0, none⟩) lp).trans d0), ((turn_map ht3).cell (a := ⟨L.db, i * 4 + 1, none⟩) (Nat.lt_of_lt_of_le ld hb2.size) nd.out).trans ((hb2.cell (p := ⟨L.db, i * 4 + 1, none⟩) ld).trans d1)⟩)
    (first
      | (go_at_call 125
         refine (clone_new b off 64 c zs _ hzd (by omega) (by omega)).mono ?_
         rintro e w2 ⟨g, cv, rfl, hg, hy2, hb2⟩
         have hc2 := hcd.turn (Turn.of_below hb2) (hb2.block _ hcd.own.lt)
         obtain ⟨w3, hup, hown3, ht3⟩ := hc2.own.store law3 Tryz.underlying79 (by unfold maxLen; omega) (hkeyI (by omega : s < 4096)) (elemR_mk g cv)))
  go_wp2_with (fail)
  go_ret
  exact ⟨rfl, fin.out w2 w3 g hb2 hg hy2 hown3 ht3⟩

end Go.Proofs.YtegmeoghonolcaaGreat

/-
  The rack's other calls, by contract.
-/
namespace Go.Proofs.YtegmeoghonolcaaGreat
open Go.RowKit Go.Maps

variable (M : Nat → Prop) (L : Lay) (R : Rk) (w : World)

theorem write_dead (i s : Int) (a : Option Addr) (n c : Nat) (h : RackAt w M L R) (hoff : R.off = true) :
    Calls Tryz.prog 143 #[.pointer (some ⟨L.p, 0, none⟩), .int .i64 i, .int .i64 s, .slice a n c] w fun e w' => e = .returned (.int .i64 12) ∧ w = w' := by
  have c2 := h.c2
  rw [hoff] at c2
  clear hoff
  go_enter Tryz.func143, Tryz.ntmps143
  go_wp2
  go_ret
  exact ⟨rfl, rfl⟩

theorem write_bad (i s : Int) (a : Option Addr) (n c : Nat) (h : RackAt w M L R) (hoff : R.off = false) (hb : hasB R.n R.S i s = false ∨ n ≠ 64) :
    Calls Tryz.prog 143 #[.pointer (some ⟨L.p, 0, none⟩), .int .i64 i, .int .i64 s, .slice a n c] w fun e w' => e = .returned (.int .i64 11) ∧ w = w' := by
  have c0 := h.c0
  have c1 := h.c1
  have c2 := h.c2
  rw [hoff] at c2
  clear hoff
  cases hh : hasB R.n R.S i s with
  | false =>
    have hs := hasSector_no L.p L.db R.n R.n R.S i s w c0 c1 hh
    clear hh hb
    go_enter Tryz.func143, Tryz.ntmps143
    go_wp2_with (go_at_call 165; refine hs.mono ?_; rintro e w' ⟨rfl, rfl⟩)
    go_ret
    exact ⟨rfl, rfl⟩
  | true =>
    have hs := hasSector_yes L.p L.db R.n R.n R.S i s w c0 c1 hh
    have hn : ((n : Int) != 64) = true := by
      rcases hb with hb | hb
      · rw [hh] at hb; cases hb
      · simp; omega
    clear hh hb
    go_enter Tryz.func143, Tryz.ntmps143
    go_wp2_with (go_at_call 165; refine hs.mono ?_; rintro e w' ⟨rfl, rfl⟩)
    go_ret
    exact ⟨rfl, rfl⟩

theorem write_err (i s : Nat) (a : Option Addr) (c : Nat) (h : RackAt w M L R) (hoff : R.off = false) (hi : i < R.n) (hs : s < R.S) (hE : R.callE i ≠ 0) :
    Calls Tryz.prog 143 #[.pointer (some ⟨L.p, 0, none⟩), .int .i64 i, .int .i64 s, .slice a 64 c] w (CallPost M L R R.call w (.int .i64 (R.callE i))) := by
  have c0 := h.c0
  have c1 := h.c1
  have c2 := h.c2
  rw [hoff] at c2
  have hsec := hasSector_yes L.p L.db R.n R.n R.S i s w c0 c1 (hasB_yes (by omega) (by omega) (by omega) (by omega))
  have hcall := call_rack M L R i w h hi
  have hne : (R.callE i != 0) = true := by simpa using hE
  clear hoff hE
  go_enter Tryz.func143, Tryz.ntmps143
  go_wp2_with (first
    | (go_at_call 165; refine hsec.mono ?_; rintro e w' ⟨rfl, rfl⟩)
    | (go_at_call 74; refine hcall.mono ?_; rintro e w' ⟨rfl, hr, ht⟩))
  go_ret
  exact ⟨rfl, hr, ht⟩

theorem flush_dead (i : Int) (h : RackAt w M L R) (hoff : R.off = true) :
    Calls Tryz.prog 37 #[.pointer (some ⟨L.p, 0, none⟩), .int .i64 i] w fun e w' => e = .returned (.int .i64 12) ∧ w = w' := by
  have c2 := h.c2
  rw [hoff] at c2
  clear hoff
  go_enter Tryz.func37, Tryz.ntmps37
  go_wp2
  go_ret
  exact ⟨rfl, rfl⟩
theorem flush_bad (i : Int) (h : RackAt w M L R) (hoff : R.off = false) (hb : ¬ (0 ≤ i ∧ i < R.n)) :
    Calls Tryz.prog 37 #[.pointer (some ⟨L.p, 0, none⟩), .int .i64 i] w fun e w' => e = .returned (.int .i64 11) ∧ w = w' := by
  have c2 := h.c2
  rw [hoff] at c2
  have hs := hasDisk_no L.p L.db R.n R.n i w h.c0 hb
  clear hoff hb
  go_enter Tryz.func37, Tryz.ntmps37
  go_wp2_with (go_at_call 29; refine hs.mono ?_; rintro e w' ⟨rfl, rfl⟩)
  go_ret
  exact ⟨rfl, rfl⟩
theorem flush_err (i : Nat) (h : RackAt w M L R) (hoff : R.off = false) (hi : i < R.n) (hE : R.callE i ≠ 0) :
    Calls Tryz.prog 37 #[.pointer (some ⟨L.p, 0, none⟩), .int .i64 i] w (CallPost M L R R.call w (.int .i64 (R.callE i))) := by
  have c2 := h.c2
  rw [hoff] at c2
  have hs := hasDisk_yes L.p L.db R.n R.n i w h.c0 (by omega) (by omega)
  have hcall := call_rack M L R i w h hi
  have hne : (R.callE i != 0) = true := by simpa using hE
  clear hoff hE
  go_enter Tryz.func37, Tryz.ntmps37
  go_wp2_with (first
    | (go_at_call 29; refine hs.mono ?_; rintro e w' ⟨rfl, rfl⟩)
    | (go_at_call 74; refine hcall.mono ?_; rintro e w' ⟨rfl, hr, ht⟩))
  go_ret
  exact ⟨rfl, hr, ht⟩

theorem Rk.call_n : R.call.n = R.n := by unfold Rk.call; split <;> rfl
theorem Rk.call_S : R.call.S = R.S := by unfold Rk.call; split <;> rfl

theorem flush_rack (i : Nat) (h : RackAt w M L R) (hi : i < R.n) :
    Calls Tryz.prog 75 #[.pointer (some ⟨L.db, i * 4, none⟩)] w (CallPost M L R (R.setD i ((R.d i).flush R.S)) w (.tuple #[])) := by
  have A := h.apart
  refine (flush_any M R.S L.db (i * 4) (L.lb i) (L.mb i) (R.d i) w (h.drv i hi) (A.lm i i hi hi) (Ne.symm (A.ld i hi)) (Ne.symm (A.md i hi)) (h.sub _ (L.M_lb hi)) h.fewS).mono ?_
  rintro e w' ⟨rfl, ht, hd⟩
  exact ⟨rfl, h.drive hi ht hd, ht.mono fun k x => x.elim (fun e => e ▸ L.M_lb hi) (fun e => e ▸ L.M_mb hi)⟩
theorem flush_ok (i : Nat) (h : RackAt w M L R) (hoff : R.off = false) (hi : i < R.n) (hE : R.callE i = 0) :
    Calls Tryz.prog 37 #[.pointer (some ⟨L.p, 0, none⟩), .int .i64 i] w (CallPost M L R (R.call.setD i ((R.call.d i).flush R.S)) w (.int .i64 0)) := by
  have c2 := h.c2
  rw [hoff] at c2
  obtain ⟨n, hn⟩ : ∃ n, n = R.n := ⟨_, rfl⟩
  have hs := hasDisk_yes L.p L.db R.n R.n i w h.c0 (by omega) (by omega)
  have hcall := call_rack M L R i w h hi
  rw [hE] at hcall
  have hn' : Hid (n = R.n) := hn
  rw [← hn] at hi
  clear hoff hE hn
  go_enter Tryz.func37, Tryz.ntmps37
  go_wp2_with (go_at_call 29; refine hs.mono ?_; rintro e w' ⟨rfl, rfl⟩)
  refine hcall.mono ?_
  rintro e w1 ⟨rfl, hr1, ht1⟩
  have a0 : w1.cell? ⟨L.p, 0, none⟩ = some (.slice (some ⟨L.db, 0, none⟩) n n) := by
    have := hr1.c0
    rwa [Rk.call_n, ← hn'.out] at this
  have hfl := flush_rack M L R.call w1 i hr1 (by rw [Rk.call_n, ← hn'.out]; exact hi)
  rw [Rk.call_S] at hfl
  go_wp2_with (go_at_call 75; refine hfl.mono ?_; rintro e w2 ⟨rfl, hr2, ht2⟩)
  go_ret
  refine ⟨rfl, hr2, ht1.trans ?_⟩
  rwa [Rk.call_n] at ht2

theorem read_dead (i s : Int) (h : RackAt w M L R) (hoff : R.off = true) :
    Calls Tryz.prog 122 #[.pointer (some ⟨L.p, 0, none⟩), .int .i64 i, .int .i64 s] w fun e w' => e = .returned (.tuple #[.slice none 0 0, .int .i64 12]) ∧ w = w' := by
  have c2 := h.c2
  rw [hoff] at c2
  clear hoff
  go_enter Tryz.func122, Tryz.ntmps122
  go_wp2
  go_ret2
  exact ⟨rfl, rfl⟩
theorem read_bad (i s : Int) (h : RackAt w M L R) (hoff : R.off = false) (hb : hasB R.n R.S i s = false) :
    Calls Tryz.prog 122 #[.pointer (some ⟨L.p, 0, none⟩), .int .i64 i, .int .i64 s] w fun e w' => e = .returned (.tuple #[.slice none 0 0, .int .i64 11]) ∧ w = w' := by
  have c2 := h.c2
  rw [hoff] at c2
  have hs := hasSector_no L.p L.db R.n R.n R.S i s w h.c0 h.c1 hb
  clear hoff hb
  go_enter Tryz.func122, Tryz.ntmps122
  go_wp2_with (go_at_call 165; refine hs.mono ?_; rintro e w' ⟨rfl, rfl⟩)
  go_ret2
  exact ⟨rfl, rfl⟩
theorem read_failed (i s : Nat) (h : RackAt w M L R) (hoff : R.off = false) (hi : i < R.n) (hs : s < R.S) (hb : (R.d i).bad = true) :
    Calls Tryz.prog 122 #[.pointer (some ⟨L.p, 0, none⟩), .int .i64 i, .int .i64 s] w fun e w' => e = .returned (.tuple #[.slice none 0 0, .int .i64 13]) ∧ w = w' := by
  have c2 := h.c2
  rw [hoff] at c2
  have c0 := h.c0
  have b2 := (h.drv i hi).c2
  rw [hb] at b2
  have hsec := hasSector_yes L.p L.db R.n R.n R.S i s w h.c0 h.c1 (hasB_yes (by omega) (by omega) (by omega) (by omega))
  clear hoff hb
  go_enter Tryz.func122, Tryz.ntmps122
  go_wp2_with (go_at_call 165; refine hsec.mono ?_; rintro e w' ⟨rfl, rfl⟩)
  go_ret2
  exact ⟨rfl, rfl⟩
theorem doom_bad (i n : Int) (h : RackAt w M L R) (hb : ¬ (0 ≤ i ∧ i < R.n)) :
    Calls Tryz.prog 13 #[.pointer (some ⟨L.p, 0, none⟩), .int .i64 i, .int .i64 n] w fun e w' => e = .returned (.int .i64 11) ∧ w = w' := by
  have hs := hasDisk_no L.p L.db R.n R.n i w h.c0 hb
  clear hb
  go_enter Tryz.func13, Tryz.ntmps13
  go_wp2_with (go_at_call 29; refine hs.mono ?_; rintro e w' ⟨rfl, rfl⟩)
  go_ret
  exact ⟨rfl, rfl⟩
theorem doom_ok (i : Nat) (n : Int) (h : RackAt w M L R) (hi : i < R.n) (hn : n ≤ 9223372036854775807) :
    Calls Tryz.prog 13 #[.pointer (some ⟨L.p, 0, none⟩), .int .i64 i, .int .i64 n] w (CallPost M L R (R.setD i { R.d i with cnt := n }) w (.int .i64 0)) := by
  have c0 := h.c0
  have b3 := (h.drv i hi).c3
  have f3 := h.fd (i * 4 + 3)
  have hs := hasDisk_yes L.p L.db R.n R.n i w h.c0 (by omega) (by omega)
  go_enter Tryz.func13, Tryz.ntmps13
  go_wp2_with (go_at_call 29; refine hs.mono ?_; rintro e w' ⟨rfl, rfl⟩)
  go_ret
  exact ⟨rfl, h.setDrv hi 3 (.int .i64 n) (.inr rfl) (R.d i).bad n hn rfl rfl, (turn_set w L.db _ _).mono fun k e => e ▸ L.M_db _⟩

theorem off_rack (h : RackAt w M L R) : Calls Tryz.prog 116 #[.pointer (some ⟨L.p, 0, none⟩)] w fun e w' => e = .returned (.bool R.off) ∧ w = w' := off_any L.p R.off w h.c2
/-- Has such a disk failed? -/
def Rk.failed (R : Rk) (i : Int) : Bool := decide (0 ≤ i ∧ i < R.n) && (R.d i.toNat).bad
theorem failed_rack (i : Int) (h : RackAt w M L R) : Calls Tryz.prog 136 #[.pointer (some ⟨L.p, 0, none⟩), .int .i64 i] w fun e w' => e = .returned (.bool (R.failed i)) ∧ w = w' := by
  have c0 := h.c0
  by_cases hi : 0 ≤ i ∧ i < R.n
  · have hs := hasDisk_yes L.p L.db R.n R.n i w h.c0 hi.1 hi.2
    obtain ⟨m, rfl⟩ := Int.eq_ofNat_of_zero_le hi.1
    have hm : m < R.n := by omega
    have b2 := (h.drv m hm).c2
    have e : Hid (R.failed m = (R.d m).bad) := by
      unfold Rk.failed Hid
      simp [hm]
    clear hi
    go_enter Tryz.func136, Tryz.ntmps136
    go_wp2_with (go_at_call 29; refine hs.mono ?_; rintro e w' ⟨rfl, rfl⟩)
    go_ret
    exact ⟨ret_bool e.out.symm, rfl⟩
  · have hs := hasDisk_no L.p L.db R.n R.n i w h.c0 hi
    have e : Hid (R.failed i = false) := by
      unfold Rk.failed Hid
      rw [decide_eq_false hi]
      rfl
    clear hi
    go_enter Tryz.func136, Tryz.ntmps136
    go_wp2_with (go_at_call 29; refine hs.mono ?_; rintro e w' ⟨rfl, rfl⟩)
    go_ret
    exact ⟨ret_bool e.out.symm, rfl⟩

end Go.Proofs.YtegmeoghonolcaaGreat

/-
  New, by contract.
-/
namespace Go.Proofs.YtegmeoghonolcaaGreat
open Go.RowKit Go.Maps

theorem new_bad (n S : Int) (w : World) (h : ¬ ((1 ≤ n ∧ n ≤ 17) ∧ 1 ≤ S ∧ S ≤ 4096)) :
    Calls Tryz.prog 7 #[.int .i64 n, .int .i64 S] w fun e w' => e = .returned (.tuple #[.pointer none, .int .i64 10]) ∧ w = w' := by
  by_cases h1 : n < 1
  · clear h
    go_enter Tryz.func7, Tryz.ntmps7
    go_wp2
    go_ret2
    exact ⟨rfl, rfl⟩
  · by_cases h2 : 17 < n
    · clear h
      go_enter Tryz.func7, Tryz.ntmps7
      go_wp2
      go_ret2
      exact ⟨rfl, rfl⟩
    · by_cases h3 : S < 1
      · clear h
        go_enter Tryz.func7, Tryz.ntmps7
        go_wp2
        go_ret2
        exact ⟨rfl, rfl⟩
      · have h4 : 4096 < S := by omega
        clear h
        go_enter Tryz.func7, Tryz.ntmps7
        go_wp2
        go_ret2
        exact ⟨rfl, rfl⟩

theorem infoDrv : (Tryz.prog.info? 81).map (fun i => (i.zero, i.size, i.bytes)) = some (some (.agg #[.slice none 0 0, .map none, .bool false, .int .i64 0]), 4, 48) := by kernel_rfl

/-- 'make([]drive, n)'. -/
theorem wpList_mkd {w : World} {ops : Array Oper} {rest : List Oper} {o : Oper} {a : Act} {Q : Exit → Act → World → Prop}
    (hg : o.guard = none) (l c : Operand) (hop : o.op = Op.makeSlice 76 l c) (n : Nat) (hl : a.eval l = .int .i64 n) (hc : a.eval c = .int .i64 n) (b2 : n ≤ 17)
    (hK : ∀ w' cs, Hid (w'.heap[w.heap.size]? = some (.cells cs 81 (0, 0)) ∧ cs.size = n * 4) → Below w.heap.size w w' → wpList Tryz.prog ops Q rest (a.put o.dst (.slice (some ⟨w.heap.size, 0, none⟩) n n)) w') :
    wpList Tryz.prog ops Q (o :: rest) a w := by
  obtain ⟨i0, hi, hz0, hz1, hz2⟩ := info_parts infoDrv
  refine wpList_make_full w hg l c 76 hop w.heap.size 81 i0 (.agg #[.slice none 0 0, .map none, .bool false, .int .i64 0]) 4 Tryz.underlying76 hi hz0 hz1 .i64 .i64 n n n hl hc rfl rfl (by rw [hz2]; omega) (by unfold maxLen; omega) (Nat.le_refl _) fun w' hown hgrow => ?_
  rcases hown.2 with ⟨h', _⟩ | ⟨g, cap, cur, h', _, hh, _, _, hsz, _⟩
  · simp at h'
  · simp only [Value.slice.injEq, Option.some.injEq, Addr.mk.injEq, and_true, true_and] at h'
    obtain ⟨rfl, rfl⟩ := h'
    exact hK w' cur ⟨hh, hsz⟩ ((Below.refl _ _).grown hgrow (Nat.le_refl _) (fun k h => by cases h))

/-- A rack of which the first k disks are made. -/
structure NewTo (w : World) (B n S : Nat) (L : Lay) (k : Nat) : Prop where
  row : w.heap[L.p]? = some (.cells #[.slice (some ⟨L.db, 0, none⟩) n n, .int .i64 S, .bool false, .int .i64 (-1)] 78 (0, 0))
  rows : ∃ cs, w.heap[L.db]? = some (.cells cs 81 (0, 0)) ∧ cs.size = n * 4
  drv : ∀ i, i < k → DrvAt w (fun _ => False) S L.db (i * 4) (L.lb i) (L.mb i) (newDk S)
  apart : L.Apart k
  low : ∀ j, L.M k j → B ≤ j ∧ j < w.heap.size

def newRk (n S : Nat) : Rk := ⟨n, S, false, -1, fun _ => newDk S⟩

/-- What New answers: a rack of new blocks. -/
def NewRet (n S : Nat) (w : World) (e : Ending) (w' : World) : Prop := ∃ L : Lay, e = .returned (.tuple #[.pointer (some ⟨L.p, 0, none⟩), .int .i64 0]) ∧ RackAt w' (L.M n) L (newRk n S) ∧ (∀ k, L.M n k → w.heap.size ≤ k) ∧ Below w.heap.size w w'

theorem NewTo.done {w : World} {B n S : Nat} {L : Lay} (h : NewTo w B n S L n) (hn : n ≤ 17) (hS : S ≤ 4096) : RackAt w (L.M n) L (newRk n S) := by
  obtain ⟨cs, hcs, _⟩ := h.rows
  refine ⟨h.row, ⟨cs, hcs⟩, fun i hi => ?_, h.apart, fun k hk => hk, fun k hk => (h.low k hk).2, hn, hS, by show (-1 : Int) ≤ _; omega⟩
  have hd := h.drv i hi
  obtain ⟨m, D, hc⟩ := hd.cache
  exact ⟨hd.c0, hd.c1, hd.c2, hd.c3, hd.blk, hd.len, hd.small, ⟨m, D, ⟨hc.own, hc.has, (fun s zs _ e => by cases e), hc.keys⟩⟩, hd.big⟩

theorem undrew {w w' : World} (h : Below w.drew.heap.size w.drew w') : Below w.heap.size w w' := ⟨h.os, h.tape, h.output, h.size, h.block⟩
def four (w : World) (db o : Nat) (u0 u1 u2 u3 : Value) : World := (((w.setCell ⟨db, o, none⟩ u0).setCell ⟨db, o + 1, none⟩ u1).setCell ⟨db, o + 2, none⟩ u2).setCell ⟨db, o + 3, none⟩ u3
theorem four_turn (w : World) (db o : Nat) (u0 u1 u2 u3 : Value) : Turn (· = db) w (four w db o u0 u1 u2 u3) := (((turn_set _ db o u0).trans (turn_set _ db (o + 1) u1)).trans (turn_set _ db (o + 2) u2)).trans (turn_set _ db (o + 3) u3)
theorem four_row {w : World} {db o : Nat} {u0 u1 u2 u3 : Value} {cs : Array Value} {t : TypeId} (h : w.heap[db]? = some (.cells cs t (0, 0))) :
    (four w db o u0 u1 u2 u3).heap[db]? = some (.cells ((((cs.setIfInBounds o u0).setIfInBounds (o + 1) u1).setIfInBounds (o + 2) u2).setIfInBounds (o + 3) u3) t (0, 0)) := cells_set (cells_set (cells_set (cells_set h)))
theorem four_other {w : World} {db o j : Nat} {u0 u1 u2 u3 : Value} (h : j < o ∨ o + 4 ≤ j) : (four w db o u0 u1 u2 u3).cell? ⟨db, j, none⟩ = w.cell? ⟨db, j, none⟩ := by
  unfold four
  rw [cell_set_other _ _ _ _ _ (by omega), cell_set_other _ _ _ _ _ (by omega), cell_set_other _ _ _ _ _ (by omega), cell_set_other _ _ _ _ _ (by omega)]
theorem four_same {w : World} {db o : Nat} {u0 u1 u2 u3 : Value} {cs : Array Value} {t : TypeId} (h : w.heap[db]? = some (.cells cs t (0, 0))) (hc : o + 4 ≤ cs.size) :
    (four w db o u0 u1 u2 u3).cell? ⟨db, o, none⟩ = some u0 ∧ (four w db o u0 u1 u2 u3).cell? ⟨db, o + 1, none⟩ = some u1 ∧ (four w db o u0 u1 u2 u3).cell? ⟨db, o + 2, none⟩ = some u2 ∧ (four w db o u0 u1 u2 u3).cell? ⟨db, o + 3, none⟩ = some u3 := by
  have hr := four_row (o := o) (u0 := u0) (u1 := u1) (u2 := u2) (u3 := u3) h
  refine ⟨?_, ?_, ?_, ?_⟩ <;> (rw [cell_of_row _ _ _ _ _ (0, 0) hr]; simp [Array.getElem?_setIfInBounds]; try omega)

def Lay.add (L : Lay) (k a b : Nat) : Lay := { L with lb := fun j => if j = k then a else L.lb j, mb := fun j => if j = k then b else L.mb j }

theorem NewTo.step {wr w2 : World} {B n S k : Nat} {L : Lay} (h : NewTo wr B n S L k) (hk : k < n) {a b : Nat} (ha : wr.heap.size ≤ a) (hb : wr.heap.size ≤ b) (hne : a ≠ b) (ha2 : a < w2.heap.size) (hb2 : b < w2.heap.size) (hB : B ≤ wr.heap.size)
    (hblk : Blk w2 a (List.replicate (S * 64) 0)) (hmap : w2.ownsMap Tryz.prog 3 elemR b 0 (.map [])) (hbel : Below wr.heap.size wr w2) :
    NewTo (four w2 L.db (k * 4) (.slice (some ⟨a, 0, none⟩) (S * 64) (S * 64)) (.map (some b)) (.bool false) (.int .i64 (-1))) B n S (L.add k a b) (k + 1) := by
  obtain ⟨cs, hcs, hsz⟩ := h.rows
  have lp : L.p < wr.heap.size := lt_of_block h.row
  have ld : L.db < wr.heap.size := lt_of_block hcs
  have hcs2 : w2.heap[L.db]? = some (.cells cs 81 (0, 0)) := (hbel.block _ ld).trans hcs
  have A := h.apart
  have hlb : ∀ j, j < k → (L.add k a b).lb j = L.lb j := fun j hj => by simp [Lay.add, Nat.ne_of_lt hj]
  have hmb : ∀ j, j < k → (L.add k a b).mb j = L.mb j := fun j hj => by simp [Lay.add, Nat.ne_of_lt hj]
  have hlk : (L.add k a b).lb k = a := by simp [Lay.add]
  have hmk : (L.add k a b).mb k = b := by simp [Lay.add]
  have llt : ∀ j, j < k → L.lb j < wr.heap.size := fun j hj => (h.low _ (L.M_lb hj)).2
  have mlt : ∀ j, j < k → L.mb j < wr.heap.size := fun j hj => (h.low _ (L.M_mb hj)).2
  have ht := four_turn w2 L.db (k * 4) (.slice (some ⟨a, 0, none⟩) (S * 64) (S * 64)) (.map (some b)) (.bool false) (.int .i64 (-1))
  have hcase : ∀ j, j < k + 1 → j < k ∨ j = k := fun j hj => by omega
  refine ⟨?_, ⟨_, four_row hcs2, by simp [hsz]⟩, fun i hi => ?_, ?_, ?_⟩
  · exact (ht.block L.p (Nat.lt_of_lt_of_le lp hbel.size) A.pd).trans ((hbel.block _ lp).trans h.row)
  · rcases hcase i hi with hi | rfl
    · have hd := h.drv i hi
      rw [hlb i hi, hmb i hi]
      have hd2 : DrvAt w2 (fun _ => False) S L.db (i * 4) (L.lb i) (L.mb i) (newDk S) := hd.turn (Turn.of_below (M := fun _ => False) hbel) (fun _ x => x) (fun x => x) (fun x => x) (fun x => x)
      refine ⟨(four_other (by omega)).trans hd2.c0, (four_other (by omega)).trans hd2.c1, (four_other (by omega)).trans hd2.c2, (four_other (by omega)).trans hd2.c3, hd2.blk.turn ht (A.ld i hi), hd2.len, hd2.small, ?_, hd2.big⟩
      obtain ⟨m, D, hc⟩ := hd2.cache
      exact ⟨m, D, ⟨ownsMap_of_row hc.own (ht.block _ hc.own.lt (A.md i hi)), hc.has, (fun s zs _ e => by cases e), hc.keys⟩⟩
    · rw [hlk, hmk]
      obtain ⟨e0, e1, e2, e3⟩ := four_same (o := i * 4) (u0 := .slice (some ⟨a, 0, none⟩) (S * 64) (S * 64)) (u1 := .map (some b)) (u2 := .bool false) (u3 := .int .i64 (-1)) hcs2 (by omega)
      exact ⟨e0, e1, e2, e3, hblk.turn ht (by show a ≠ L.db; omega), by simp [newDk], AllB.zeros _, CacheAt.empty (ownsMap_of_row hmap (ht.block _ hmap.lt (by omega))), by show (-1 : Int) ≤ _; omega⟩
  · refine ⟨A.pd, fun j hj => ?_, fun j hj => ?_, fun j hj => ?_, fun j hj => ?_, fun i j hi hj => ?_, fun i j hi hj hij => ?_, fun i j hi hj hij => ?_⟩
    · rcases hcase j hj with hj | rfl
      · rw [hlb j hj]; exact A.lp j hj
      · rw [hlk]; show a ≠ L.p; omega
    · rcases hcase j hj with hj | rfl
      · rw [hlb j hj]; exact A.ld j hj
      · rw [hlk]; show a ≠ L.db; omega
    · rcases hcase j hj with hj | rfl
      · rw [hmb j hj]; exact A.mp j hj
      · rw [hmk]; show b ≠ L.p; omega
    · rcases hcase j hj with hj | rfl
      · rw [hmb j hj]; exact A.md j hj
      · rw [hmk]; show b ≠ L.db; omega
    · rcases hcase i hi with hi | rfl <;> rcases hcase j hj with hj | rfl
      · rw [hlb i hi, hmb j hj]; exact A.lm i j hi hj
      · rw [hlb i hi, hmk]; have := llt i hi; omega
      · rw [hlk, hmb j hj]; have := mlt j hj; omega
      · rw [hlk, hmk]; exact hne
    · rcases hcase i hi with hi | rfl <;> rcases hcase j hj with hj | rfl
      · rw [hlb i hi, hlb j hj]; exact A.ll i j hi hj hij
      · rw [hlb i hi, hlk]; have := llt i hi; omega
      · rw [hlk, hlb j hj]; have := llt j hj; omega
      · exact absurd rfl hij
    · rcases hcase i hi with hi | rfl <;> rcases hcase j hj with hj | rfl
      · rw [hmb i hi, hmb j hj]; exact A.mm i j hi hj hij
      · rw [hmb i hi, hmk]; have := mlt i hi; omega
      · rw [hmk, hmb j hj]; have := mlt j hj; omega
      · exact absurd rfl hij
  · have hle := Nat.le_trans hbel.size ht.size
    rintro j (rfl | rfl | ⟨i, hi, hij⟩)
    · have := (h.low _ (L.M_p k)); exact ⟨this.1, Nat.lt_of_lt_of_le this.2 hle⟩
    · have := (h.low _ (L.M_db k)); exact ⟨this.1, Nat.lt_of_lt_of_le this.2 hle⟩
    · rcases hcase i hi with hi | rfl
      · rw [hlb i hi, hmb i hi] at hij
        have := (h.low j (.inr (.inr ⟨i, hi, hij⟩))); exact ⟨this.1, Nat.lt_of_lt_of_le this.2 hle⟩
      · rw [hlk, hmk] at hij
        have := ht.size
        rcases hij with rfl | rfl
        · exact ⟨by omega, by omega⟩
        · exact ⟨by omega, by omega⟩

set_option maxHeartbeats 1000000 in
theorem new_ok (n S : Nat) (w : World) (h1 : 1 ≤ n) (h17 : n ≤ 17) (hS1 : 1 ≤ S) (hS : S ≤ 4096) :
    Calls Tryz.prog 7 #[.int .i64 n, .int .i64 S] w (NewRet n S w) := by
  have j1 : (1 : Int) ≤ (n : Int) := by omega
  have j2 : (n : Int) ≤ 17 := by omega
  have j3 : (1 : Int) ≤ (S : Int) := by omega
  have j4 : (S : Int) ≤ 4096 := by omega
  go_enter Tryz.func7, Tryz.ntmps7
  go_wp2_with (at_make; refine wpList_mkd rfl _ _ rfl n rfl rfl h17 ?_; intro w1 cs hrow1 hb1)
  have hs1 := hb1.size
  have hp0 : w.heap.size < w1.heap.size := lt_of_block hrow1.out.1
  have hst : Hid (∃ L : Lay, L.p = w1.heap.size ∧ L.db = w.heap.size ∧ NewTo (w1.alloc (.cells #[.slice (some ⟨w.heap.size, 0, none⟩) n n, .int .i64 S, .bool false, .int .i64 (-1)] 78)) w.heap.size n S L 0 ∧ Below w.heap.size w (w1.alloc (.cells #[.slice (some ⟨w.heap.size, 0, none⟩) n n, .int .i64 S, .bool false, .int .i64 (-1)] 78))) := by
    refine ⟨⟨w1.heap.size, w.heap.size, fun _ => 0, fun _ => 0⟩, rfl, rfl, ⟨heap_alloc_new w1 _, ⟨cs, (Below.heap_alloc _ _ _ hp0).trans hrow1.out.1, hrow1.out.2⟩, fun i hi => by omega, ?_, ?_⟩, hb1.alloc hs1 _⟩
    · exact ⟨by show w1.heap.size ≠ w.heap.size; omega, (fun i hi => by omega), (fun i hi => by omega), (fun i hi => by omega), (fun i hi => by omega), (fun i j hi => by omega), (fun i j hi => by omega), (fun i j hi => by omega)⟩
    · rintro j (rfl | rfl | ⟨i, hi, _⟩)
      · exact ⟨hs1, by simp⟩
      · exact ⟨Nat.le_refl _, by simp; omega⟩
      · omega
  go_loopw [7, 32] (fun _ i wr => ∃ (k : Nat) (L : Lay), k ≤ n ∧ i = .int .i64 k ∧ L.p = w1.heap.size ∧ L.db = w.heap.size ∧ NewTo wr w.heap.size n S L k ∧ Below w.heap.size w wr) (fun _ i _ => n - (RowKit.intOf i).toNat)
  case atStart =>
    obtain ⟨L, e1, e2, h, hb⟩ := hst.out
    exact ⟨0, L, Nat.zero_le _, rfl, e1, e2, h, hb⟩
  case round =>
    obtain ⟨k, L, hk, rfl, e1, e2, hN, hbw⟩ := hrel
    have e1' : Hid (L.p = w1.heap.size) := e1
    have e2' : Hid (L.db = w.heap.size) := e2
    obtain ⟨cs2, hcs2, hsz2⟩ := hN.rows
    have a0 : wr.cell? ⟨w1.heap.size, 0, none⟩ = some (.slice (some ⟨w.heap.size, 0, none⟩) n n) := by
      rw [cell_of_row wr _ _ _ _ (0, 0) (e1 ▸ hN.row)]
      rw [e2]
      rfl
    rw [e2] at hcs2
    have lp : w1.heap.size < wr.heap.size := lt_of_block (e1 ▸ hN.row)
    have ld : w.heap.size < wr.heap.size := lt_of_block hcs2
    have hfz : ∀ i, wr.frozen? ⟨w.heap.size, i, none⟩ = false := fun i => frozen_of_row wr _ i _ _ hcs2
    have hcl : ∀ i, i < n * 4 → ∃ u, wr.cell? ⟨w.heap.size, i, none⟩ = some u := fun i hi => ⟨cs2[i]'(by omega), by rw [cell_of_row wr _ i _ _ (0, 0) hcs2]; exact Array.getElem?_eq_getElem (by omega)⟩
    clear e1 e2 hcs2 hrow1 hst
    by_cases hlt : k < n
    · obtain ⟨v0, d0⟩ := hcl (k * 4) (by omega)
      obtain ⟨v1, d1⟩ := hcl (k * 4 + 1) (by omega)
      obtain ⟨v2, d2⟩ := hcl (k * 4 + 2) (by omega)
      obtain ⟨v3, d3⟩ := hcl (k * 4 + 3) (by omega)
      have g0 := hfz (k * 4)
      have g1 := hfz (k * 4 + 1)
      have g2 := hfz (k * 4 + 2)
      have g3 := hfz (k * 4 + 3)
      have i0 : (0 : Int) ≤ (k : Int) := Int.natCast_nonneg _
      have i1 : (k : Int) < (n : Int) := by omega
      clear hcl hfz hsz2
      go_wp2_with (fail)
      go_region_held3 (fun w' => w'.cell? ⟨w1.heap.size, 0, none⟩ = some (.slice (some ⟨w.heap.size, 0, none⟩) n n))
        (first
          | go_keep
          | exact (hbn.cell (p := ⟨w1.heap.size, 0, none⟩) lp).trans a0
          | exact ((four_turn w2 w.heap.size (k * 4) _ _ _ _).cell (a := ⟨w1.heap.size, 0, none⟩) (Nat.lt_of_lt_of_le lp hbn.size) (Nat.ne_of_gt hp0)).trans ((hbn.cell (p := ⟨w1.heap.size, 0, none⟩) lp).trans a0))
        (first
          | (go_at_call 27
             refine (newDrive_any S _ hS).mono ?_
             rintro e w2 ⟨la, ma, rfl, hla, hma, hne, hla2, hma2, hblk, hmap, hbn⟩
             have q0 := (hbn.cell (p := ⟨w.heap.size, k * 4, none⟩) ld).trans d0
             have q1 := (hbn.cell (p := ⟨w.heap.size, k * 4 + 1, none⟩) ld).trans d1
             have q2 := (hbn.cell (p := ⟨w.heap.size, k * 4 + 2, none⟩) ld).trans d2
             have q3 := (hbn.cell (p := ⟨w.heap.size, k * 4 + 3, none⟩) ld).trans d3
             have r0 := (hbn.frozen (p := ⟨w.heap.size, k * 4, none⟩) ld).trans g0
             have r1 := (hbn.frozen (p := ⟨w.heap.size, k * 4 + 1, none⟩) ld).trans g1
             have r2 := (hbn.frozen (p := ⟨w.heap.size, k * 4 + 2, none⟩) ld).trans g2
             have r3 := (hbn.frozen (p := ⟨w.heap.size, k * 4 + 3, none⟩) ld).trans g3))
      have hN2 : Hid (NewTo (four w2 w.heap.size (k * 4) (.slice (some ⟨la, 0, none⟩) (S * 64) (S * 64)) (.map (some ma)) (.bool false) (.int .i64 (-1))) w.heap.size n S (L.add k la ma) (k + 1)) := by
        have := hN.step hlt hla hma hne hla2 hma2 hbw.size hblk hmap (undrew hbn)
        rwa [e2'.out] at this
      have hbw2 : Below w.heap.size w (four w2 w.heap.size (k * 4) (.slice (some ⟨la, 0, none⟩) (S * 64) (S * 64)) (.map (some ma)) (.bool false) (.int .i64 (-1))) :=
        (hbw.trans ((undrew hbn).mono hbw.size)).trans ((four_turn w2 w.heap.size (k * 4) _ _ _ _).below (Nat.le_trans hbw.size hbn.size) (fun j e => by omega))
      go_wp2_with (fail)
      go_roundw
      case rel => exact ⟨k + 1, L.add k la ma, by omega, by go_num, e1'.out, e2'.out, hN2.out, hbw2⟩
      case measure => simp [RowKit.intOf]; omega
    · obtain rfl : k = n := by omega
      have hdone := hN.done h17 hS
      go_wp2_with (fail)
      go_ret2
      exact ⟨L, by rw [e1'.out]; rfl, hdone, fun j hj => (hN.low j hj).1, hbw⟩

end Go.Proofs.YtegmeoghonolcaaGreat

/-
  One contract for each call of the program's rack, whatever the arguments.
-/
namespace Go.Proofs.YtegmeoghonolcaaGreat
open Go.RowKit Go.Maps

theorem hasB_nat {n S : Nat} {i s : Int} (h : hasB n S i s = true) : ∃ a b : Nat, i = a ∧ s = b ∧ a < n ∧ b < S := by
  obtain ⟨⟨h0, h1⟩, h2, h3⟩ := hasB_iff.1 h
  exact ⟨i.toNat, s.toNat, by omega, by omega, by omega, by omega⟩
theorem disk_nat {n : Nat} {i : Int} (h : 0 ≤ i ∧ i < n) : ∃ a : Nat, i = a ∧ a < n := ⟨i.toNat, by omega, by omega⟩

def Rk.wrE (R : Rk) (i s : Int) (zs : List Int) : Int := if R.off then 12 else if hasB R.n R.S i s && decide (zs.length = 64) then R.callE i.toNat else 11
def Rk.wr (R : Rk) (i s : Int) (zs : List Int) : Rk := if !R.off && (hasB R.n R.S i s && decide (zs.length = 64)) then (if R.callE i.toNat = 0 then R.call.setD i.toNat ((R.call.d i.toNat).put s.toNat zs) else R.call) else R
def Rk.flE (R : Rk) (i : Int) : Int := if R.off then 12 else if 0 ≤ i ∧ i < R.n then R.callE i.toNat else 11
def Rk.fl (R : Rk) (i : Int) : Rk := if R.off = false ∧ (0 ≤ i ∧ i < R.n) then (if R.callE i.toNat = 0 then R.call.setD i.toNat ((R.call.d i.toNat).flush R.S) else R.call) else R
def Rk.rdE (R : Rk) (i s : Int) : Int := if R.off then 12 else if hasB R.n R.S i s then (if (R.d i.toNat).bad then 13 else 0) else 11
def Rk.rdV (R : Rk) (i s : Int) : List Int := if R.rdE i s = 0 then (R.d i.toNat).read s.toNat else []
def Rk.dkE (R : Rk) (i : Int) : Int := if 0 ≤ i ∧ i < R.n then 0 else 11
def Rk.doom (R : Rk) (i n : Int) : Rk := if 0 ≤ i ∧ i < R.n then R.setD i.toNat { R.d i.toNat with cnt := n } else R

section
variable {M : Nat → Prop} {L : Lay} {R : Rk} {w : World}
theorem post_same {v : Value} (h : RackAt w M L R) {e : Ending} {w' : World} (he : e = .returned v ∧ w = w') : CallPost M L R R w v e w' := by
  obtain ⟨rfl, rfl⟩ := he
  exact ⟨rfl, h, Turn.refl _ _⟩
theorem write_all (i s : Int) (a : Option Addr) (n c : Nat) (zs : List Int) (h : RackAt w M L R) (hz : Bys w a n zs) (hzM : n = 0 ∨ ∀ b off, a = some ⟨b, off, none⟩ → ¬ M b) :
    Calls Tryz.prog 143 #[.pointer (some ⟨L.p, 0, none⟩), .int .i64 i, .int .i64 s, .slice a n c] w (CallPost M L R (R.wr i s zs) w (.int .i64 (R.wrE i s zs))) := by
  obtain rfl := hz.len
  cases ho : R.off with
  | true =>
    refine (write_dead M L R w i s a _ c h ho).mono fun e w' he => ?_
    unfold Rk.wr Rk.wrE
    simp only [ho]
    exact post_same h he
  | false =>
    by_cases hb : hasB R.n R.S i s = true ∧ zs.length = 64
    · obtain ⟨hb, hl⟩ := hb
      have hgo : (hasB R.n R.S i s && decide (zs.length = 64)) = true := by simp [hb, hl]
      obtain ⟨x, y, rfl, rfl, hx, hy⟩ := hasB_nat hb
      rw [hl]
      unfold Rk.wr Rk.wrE
      simp only [ho, hgo, Bool.not_false, Bool.and_self, if_true, Int.toNat_natCast, Bool.false_eq_true, if_false]
      by_cases hE : R.callE x = 0
      · rw [if_pos hE, hE]
        rw [hl] at hz
        rcases hz.place with h0 | ⟨b, off, rfl, hlt, hc⟩
        · omega
        exact write_ok M L R x y b off c zs w h ho hx hy hz ((hzM.resolve_left (by omega)) _ _ rfl) hE
      · rw [if_neg hE]
        exact write_err M L R w x y a c h ho hx hy hE
    · have hgo : (hasB R.n R.S i s && decide (zs.length = 64)) = false := by
        rw [Bool.and_eq_false_iff]
        by_cases h1 : hasB R.n R.S i s = true
        · right; exact decide_eq_false fun x => hb ⟨h1, x⟩
        · left; simpa using h1
      refine (write_bad M L R w i s a _ c h ho (by
        by_cases h1 : hasB R.n R.S i s = true
        · right; exact fun x => hb ⟨h1, x⟩
        · left; simpa using h1)).mono fun e w' he => ?_
      unfold Rk.wr Rk.wrE
      simp only [ho, hgo, Bool.and_false, Bool.false_eq_true, if_false]
      exact post_same h he
theorem flush_all (i : Int) (h : RackAt w M L R) :
    Calls Tryz.prog 37 #[.pointer (some ⟨L.p, 0, none⟩), .int .i64 i] w (CallPost M L R (R.fl i) w (.int .i64 (R.flE i))) := by
  cases ho : R.off with
  | true =>
    refine (flush_dead M L R w i h ho).mono fun e w' he => ?_
    unfold Rk.fl Rk.flE
    simp only [ho, Bool.true_eq_false, false_and, if_false, if_true]
    exact post_same h he
  | false =>
    by_cases hb : 0 ≤ i ∧ i < R.n
    · obtain ⟨x, rfl, hx⟩ := disk_nat hb
      have e1 : R.flE x = R.callE x := by unfold Rk.flE; rw [if_neg (by simp [ho]), if_pos hb, Int.toNat_natCast]
      rw [e1]
      unfold Rk.fl
      rw [if_pos ⟨ho, hb⟩, Int.toNat_natCast]
      by_cases hE : R.callE x = 0
      · rw [if_pos hE, hE]
        exact flush_ok M L R w x h ho hx hE
      · rw [if_neg hE]
        exact flush_err M L R w x h ho hx hE
    · refine (flush_bad M L R w i h ho hb).mono fun e w' he => ?_
      unfold Rk.fl Rk.flE
      rw [if_neg (fun x => hb x.2), if_neg (by simp [ho]), if_neg hb]
      exact post_same h he
theorem doom_all (i n : Int) (h : RackAt w M L R) (hn : n ≤ 9223372036854775807) :
    Calls Tryz.prog 13 #[.pointer (some ⟨L.p, 0, none⟩), .int .i64 i, .int .i64 n] w (CallPost M L R (R.doom i n) w (.int .i64 (R.dkE i))) := by
  unfold Rk.doom Rk.dkE
  by_cases hb : 0 ≤ i ∧ i < R.n
  · obtain ⟨x, rfl, hx⟩ := disk_nat hb
    rw [if_pos hb, if_pos hb, Int.toNat_natCast]
    exact doom_ok M L R w x n h hx hn
  · rw [if_neg hb, if_neg hb]
    exact (doom_bad M L R w i n h hb).mono fun e w' he => post_same h he
end

end Go.Proofs.YtegmeoghonolcaaGreat

/-
  The program's Size, by contract.
-/
namespace Go.Proofs.YtegmeoghonolcaaGreat
open Go.RowKit Go.Maps

theorem size_rack (M : Nat → Prop) (L : Lay) (R : Rk) (w : World) (h : RackAt w M L R) :
    Calls Tryz.prog 70 #[.pointer (some ⟨L.p, 0, none⟩)] w fun e w' => e = .returned (.tuple #[.int .i64 R.n, .int .i64 R.S]) ∧ Below w.heap.size w w' := by
  have c0 := h.c0
  have c1 := h.c1
  go_enter Tryz.func70, Tryz.ntmps70
  go_wp2_with (fail)
  go_quiet (fail)
  go_wp2_with (fail)
  go_ret2
  exact ⟨rfl, below_drewN (Below.refl _ _) nq⟩

end Go.Proofs.YtegmeoghonolcaaGreat
