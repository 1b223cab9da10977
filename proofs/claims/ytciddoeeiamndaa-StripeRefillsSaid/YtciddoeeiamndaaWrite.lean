/-
  The rack's Write, by contract.
-/
import Derived.Test.YtciddoeeiamndaaCall
import Derived.Deep.RegionHeld3
namespace Go.Proofs.Ytciddoeeiamndaa
open Go.RowKit Go.Maps

def NewSlice (w : World) (n : Nat) (x : List Int) (e : Ending) (w' : World) : Prop := ∃ g c, e = .returned (.slice (some ⟨g, 0, none⟩) n c) ∧ w.heap.size ≤ g ∧ Bys w' (some ⟨g, 0, none⟩) n x ∧ Below w.heap.size w w'
theorem clone_new (b off la ca : Nat) (x : List Int) (w : World) (hx : Bys w (some ⟨b, off, none⟩) la x) (hla : la ≤ 1000000000000) (h0 : 0 < la) :
    Calls Try.prog 52 #[.slice (some ⟨b, off, none⟩) la ca] w (NewSlice w la x) := by
  refine (clone_any b off la ca x w hx hla).mono ?_
  rintro e w' ⟨v, rfl, hown, hb⟩
  obtain ⟨a, c, rfl, h1, h2, _⟩ := hown.form
  rcases hown.row.2 with ⟨h, h'⟩ | ⟨g, cap, cur, h, hg, _⟩
  · omega
  · cases h
    exact ⟨g, _, rfl, hg, h2, hb⟩

/-- A disk with one sector more cached. -/
def Dk.put (d : Dk) (s : Nat) (zs : List Int) : Dk := { d with cache := putC d.cache s zs }

set_option maxHeartbeats 1000000 in
theorem write_ok (M : Nat → Prop) (L : Lay) (R : Rk) (i s b off c : Nat) (zs : List Int) (w : World) (h : RackAt w M L R) (hoff : R.off = false) (hi : i < R.n) (hs : s < R.S) (hz : Bys w (some ⟨b, off, none⟩) 64 zs) (hzM : ¬ M b) (hE : R.callE i = 0) :
    Calls Try.prog 24 #[.pointer (some ⟨L.p, 0, none⟩), .int .i64 i, .int .i64 s, .slice (some ⟨b, off, none⟩) 64 c] w
      (CallPost M L R (R.call.setD i ((R.call.d i).put s zs)) w (.int .i64 0)) := by
  obtain ⟨n, hn⟩ : ∃ n, n = R.n := ⟨_, rfl⟩
  obtain ⟨S, hS⟩ : ∃ S, S = R.S := ⟨_, rfl⟩
  have few := h.few
  have fewS := h.fewS
  have c0 := h.c0
  have c1 := h.c1
  have c2 := h.c2
  have hbd : hasB R.n R.S i s = true := hasB_yes (by omega) (by omega) (by omega) (by omega)
  have hcall := call_rack M L R i w h hi
  rw [hE] at hcall
  rw [hoff] at c2
  rw [← hn] at hi few c0 hbd
  rw [← hS] at hs fewS c1 hbd
  have hn' : Hid (n = R.n) := hn
  have hS' : Hid (S = R.S) := hS
  have hM' : Hid (R.call.n = n ∧ R.call.S = S) := by unfold Hid Rk.call; split <;> exact ⟨hn.symm, hS.symm⟩
  clear hn hS hoff hE
  go_enter Try.func24, Try.ntmps24
  go_wp2_with (go_at_call 51; refine (hasSector_yes L.p L.db n n S i s w c0 c1 hbd).mono ?_; rintro e w' ⟨rfl, rfl⟩)
  refine hcall.mono ?_
  rintro e w1 ⟨rfl, hr1, ht1⟩
  have a0 : w1.cell? ⟨L.p, 0, none⟩ = some (.slice (some ⟨L.db, 0, none⟩) n n) := by
    have := hr1.c0
    rwa [hM'.out.1] at this
  have hd1 := hr1.drv i (by rw [hM'.out.1]; exact hi)
  have a1 := hd1.c1
  rw [hM'.out.2] at hd1
  obtain ⟨nn, D, hc'⟩ := hd1.cache
  have hc := hc'.tight
  clear hc'
  have hz1 : Bys w1 (some ⟨b, off, none⟩) 64 zs := bys_turn hz ht1 (fun b' off' e x => by cases e; exact hzM (h.sub _ x))
  have i0 : (0 : Int) ≤ (i : Int) := Int.natCast_nonneg _
  have i1 : (i : Int) < (n : Int) := by omega
  have fin : Hid (∀ (w2 w3 : World) (g : Nat), Below w1.drew.heap.size w1.drew w2 → w1.heap.size ≤ g → Bys w2 (some ⟨g, 0, none⟩) 64 zs → w3.ownsMap Try.prog 3 elemR (L.mb i) (S + 1) (D.put (keyI s) (.lit (.int .i64 (g : Int)))) → w2.mapTurned w3 (L.mb i) →
      RackAt w3 M L (R.call.setD i ((R.call.d i).put s zs)) ∧ Turn (L.M R.n) w w3) := by
    intro w2 w3 g hb hg hy hown ht
    have hr2 : RackAt w2 M L R.call := hr1.drew.below hb
    have ht3 := turn_map ht
    have A := hr1.apart
    have hi1 : i < R.call.n := by rw [hM'.out.1]; exact hi
    have hin : i < R.n := by rw [← hn'.out]; exact hi
    have hd2 := hr2.drv i hi1
    have hdm := Ne.symm (A.md i hi1)
    have hgM : ¬ M g := fun x => by have := hr1.low g x; omega
    have hc2 : CacheD w2 M S (L.mb i) (R.call.d i).cache S D := hc.turn ((turn_drew M w1).trans (Turn.of_below hb)) (hb.block _ hc.own.lt)
    have hca := hc2.put fewS hs hgM hy (ht3.mono fun k e => e ▸ h.sub _ (L.M_mb hin)) hown
    refine ⟨hr2.drive hi1 (ht3.mono fun k e => .inr e) ⟨(ht3.cell (a := ⟨L.db, i * 4, none⟩) hd2.lt hdm).trans hd2.c0, (ht3.cell (a := ⟨L.db, i * 4 + 1, none⟩) hd2.lt hdm).trans hd2.c1, (ht3.cell (a := ⟨L.db, i * 4 + 2, none⟩) hd2.lt hdm).trans hd2.c2, (ht3.cell (a := ⟨L.db, i * 4 + 3, none⟩) hd2.lt hdm).trans hd2.c3, hd2.blk.turn ht3 (A.lm i i hi1 hi1), hd2.len, hd2.small, ?_, hd2.big⟩, ?_⟩
    · rw [hM'.out.2]; exact hca
    · exact ((ht1.trans (turn_drew _ w1)).trans (Turn.of_below hb)).trans (ht3.mono fun k e => e ▸ L.M_mb hin)
  have hzd : Bys w1.drew (some ⟨b, off, none⟩) 64 zs := ⟨hz1.len, hz1.small, hz1.place⟩
  have hcd : CacheD w1.drew M S (L.mb i) (R.call.d i).cache S D := hc.turn (turn_drew M w1) rfl
  have lp := hr1.ltp
  have ld := hr1.ltd
  have d0 : w1.drew.cell? ⟨L.p, 0, none⟩ = some (.slice (some ⟨L.db, 0, none⟩) n n) := a0
  have d1 : w1.drew.cell? ⟨L.db, i * 4 + 1, none⟩ = some (.map (some (L.mb i))) := a1
  have np : Hid (L.p ≠ L.mb i) := Lib.hid (Ne.symm (hr1.apart.mp i (by rw [hM'.out.1]; exact hi)))
  have nd : Hid (L.db ≠ L.mb i) := Lib.hid (Ne.symm (hr1.apart.md i (by rw [hM'.out.1]; exact hi)))
  clear h ht1 hz hz1 hc hr1 hd1
  go_wp2_with (fail)
  go_region_held3 (fun w' => w'.cell? ⟨L.p, 0, none⟩ = some (.slice (some ⟨L.db, 0, none⟩) n n) ∧ w'.cell? ⟨L.db, i * 4 + 1, none⟩ = some (.map (some (L.mb i))))
    (first
      | go_keep
      | exact ⟨(hb2.cell (p := ⟨L.p, 0, none⟩) lp).trans d0, (hb2.cell (p := ⟨L.db, i * 4 + 1, none⟩) ld).trans d1⟩
      | exact ⟨((turn_map ht3).cell (a := ⟨L.p, 0, none⟩) (Nat.lt_of_lt_of_le lp hb2.size) np.out).trans ((hb2.cell (p := ⟨L.p, 0, none⟩) lp).trans d0), ((turn_map ht3).cell (a := ⟨L.db, i * 4 + 1, none⟩) (Nat.lt_of_lt_of_le ld hb2.size) nd.out).trans ((hb2.cell (p := ⟨L.db, i * 4 + 1, none⟩) ld).trans d1)⟩)
    (first
      | (go_at_call 52
         refine (clone_new b off 64 c zs _ hzd (by omega) (by omega)).mono ?_
         rintro e w2 ⟨g, cv, rfl, hg, hy2, hb2⟩
         have hc2 := hcd.turn (Turn.of_below hb2) (hb2.block _ hcd.own.lt)
         obtain ⟨w3, hup, hown3, ht3⟩ := hc2.own.store law3 Try.underlying77 (by unfold maxLen; omega) (hkeyI (by omega : s < 4096)) (elemR_mk g cv)))
  go_wp2_with (fail)
  go_ret
  exact ⟨rfl, fin.out w2 w3 g hb2 hg hy2 hown3 ht3⟩

end Go.Proofs.Ytciddoeeiamndaa
