/-
  DeviceFails' walk.
-/
import Derived.Test.YtcgemckookefmaaFails
namespace Go.Proofs.Ytcgemckookefmaa
open Go.RowKit Go.Maps

theorem Fd.two : Fd (((newRk 3 4).doom 1 0).wr 0 0 zeros64) := ⟨rfl, rfl, rfl, rfl, rfl⟩
theorem Fd.two_e : ((newRk 3 4).doom 1 0).wrE 0 0 zeros64 = 0 := rfl
theorem Fd.two_f : (((newRk 3 4).doom 1 0).wr 0 0 zeros64).failed 0 = false := rfl

theorem two_new (w : World) (o1 o2 : Obj) : ∃ wx, wx = (w.alloc o1).alloc o2 ∧ wx.heap.size = w.heap.size + 2 ∧ wx.heap[w.heap.size]? = some o1 ∧ wx.heap[w.heap.size + 1]? = some o2 ∧ Below w.heap.size w wx := by
  refine ⟨_, rfl, by simp, ?_, ?_, ((Below.refl _ _).alloc (Nat.le_refl _) o1).alloc (by simp) o2⟩
  · rw [(MapKept.heap_alloc (w.alloc o1) o2).2 _ (by simp)]
    exact (MapKept.heap_alloc w o1).1
  · have := (MapKept.heap_alloc (w.alloc o1) o2).1
    simpa using this

set_option maxRecDepth 100000 in
set_option maxHeartbeats 4000000 in
theorem law_fails (a : Option Addr) (len cap : Nat) (f : Nat → Cl × Pl) (at_ : Int) (w : World) (hc : CallsAt w a len f) (hl : len ≤ maxLen) :
    Calls Try.prog 5 #[.slice a len cap, .int .i64 at_] w fun e w' => e = .returned (.bool true) ∧ Below w.heap.size w w' := by
  obtain ⟨m, hm4, hm⟩ := and3_nat at_
  have Hm := Lib.hid hm
  have Hc := Lib.hid hc
  clear hm hc
  go_enter Try.func5, Try.ntmps5
  go_wp2_with (fail)
  with_reducible refine (alive2_any _).mono ?_
  rintro e w1 ⟨rfl, hl1⟩
  have hc1 : Hid (CallsAt w1 a len f) := by
    rcases Hc.out with h0 | ⟨b, off, e, hlt, hcall⟩
    · exact .inl h0
    · refine .inr ⟨b, off, e, Nat.lt_of_lt_of_le hlt hl1.size, fun i hi => ?_⟩
      have hci := hcall i hi
      obtain ⟨k0, k1, k2, k3, k4⟩ := hci.next hlt hl1
      obtain ⟨big, hz, n3, hk, n4, bz, bk⟩ := hci.lists
      refine ⟨k0, k1, k2, k3, k4, ⟨big, hz.next hl1, n3, ⟨hk.1, ?_⟩, n4, bz, bk⟩⟩
      rcases hk.2 with h0 | ⟨b', off', e', hlt', hcc⟩
      · exact .inl h0
      · exact .inr ⟨b', off', e', Nat.lt_of_lt_of_le hlt' hl1.size, fun i hi => (hl1.cell (p := ⟨b', off' + i, none⟩) hlt').trans (hcc i hi)⟩
  go_wp2_with (fail)
  refine (great_any 3 4 a len cap f w1 hc1.out hl).mono ?_
  rintro e w2 ⟨bg, rfl, hsm, q, rfl⟩
  have hl2 : Below w.heap.size w (w1.drewN q) := below_drewN hl1 q
  cases bg with
  | true =>
    clear hsm
    go_wp2_with (fail)
    go_ret
    exact ⟨rfl, hl2⟩
  | false =>
    obtain ⟨_, _, g1, g2⟩ := hsm rfl
    have G2 := Lib.hid g2
    clear hsm g2
    obtain ⟨wn, hwn⟩ : ∃ wn, wn = w1.drewN q := ⟨_, rfl⟩
    rw [← hwn] at hl2 ⊢
    clear hwn hc1 hl1
    go_wp2_with (fail)
    refine (new_ok 3 4 wn (by omega) (by omega) (by omega) (by omega)).mono ?_
    rintro e w3 ⟨L, rfl, hr3, hM0, hl3⟩
    have hM : Hid (∀ k, L.M 3 k → wn.heap.size ≤ k) := hM0
    have hB3 := hl2.trans (hl3.mono hl2.size)
    clear hM0
    go_wp2_with (fail)
    refine (doom_all 1 0 hr3 (by omega)).mono ?_
    rintro e w4 ⟨rfl, hr4, ht4⟩
    have hMw : Hid (∀ k, L.M 3 k → w.heap.size ≤ k) := fun k hk => Nat.le_trans hl2.size (hM.out k hk)
    have hB4 := hB3.trans (ht4.below hB3.size hMw.out)
    rw [show (newRk 3 4).dkE 1 = 0 from rfl]
    clear hr3 ht4 hB3 hl3
    go_wp2_with (at_make; refine wpList_mk rfl _ _ rfl .i64 .i64 64 64 64 rfl rfl rfl rfl (by omega) ?_; intro w5 hb5 hl5)
    have hr5 := hr4.below hl5
    have hgM : Hid (¬ L.M 3 w4.heap.size) := fun x => by have := hr4.low _ x; omega
    have hB5 := hB4.trans (hl5.mono hB4.size)
    obtain ⟨gb, hgb⟩ : ∃ gb, gb = w4.heap.size := ⟨_, rfl⟩
    rw [← hgb] at hb5 hgM ⊢
    have hb5' : Blk w5 gb zeros64 := hb5
    clear hgb hb5 hr4 hB4 hl5
    refine (write_all 0 0 (some ⟨gb, 0, none⟩) 64 64 zeros64 hr5 (hb5'.bysn (AllB.zeros _) zeros64_len) (fun b off e => by cases e; exact hgM.out)).mono ?_
    rintro e w6 ⟨rfl, hr6, ht6⟩
    rw [Fd.two_e]
    have hB6 := hB5.trans (ht6.below hB5.size hMw.out)
    have hb6 : Blk w6 gb zeros64 := hb5'.turn ht6 hgM.out
    have hf1 := failed_rack _ L _ w6 1 hr6
    rw [Fd.two.failed_1] at hf1
    have hf0 := failed_rack _ L _ w6 0 hr6
    rw [Fd.two_f] at hf0
    clear hr5 ht6 hB5 hb5'
    go_wp2_with (fail)
    refine hf1.mono ?_
    rintro e w' ⟨rfl, rfl⟩
    go_wp2_with (fail)
    refine hf0.mono ?_
    rintro e w' ⟨rfl, rfl⟩
    clear hf0 hf1
    go_wp2_with (fail)
    go_loopw [8] (fun v wr => ∃ (i : Nat) (R : Rk), i ≤ len ∧ v = .int .i64 i ∧ Fd R ∧ RackAt wr (L.M 3) L R ∧ Blk wr gb zeros64 ∧ Below w.heap.size w wr) (fun v _ => len - (intOf v).toNat)
    case atStart => exact ⟨0, _, by omega, rfl, Fd.two, hr6, hb6, hB6⟩
    case round =>
      obtain ⟨i, R, i1, rfl, hF, hr, hb, hB⟩ := hrel
      clear hr6 hb6 hB6
      by_cases hlt : i < len
      · rcases Hc.out with h0 | ⟨b, off, rfl, hbw, hcall⟩
        · omega
        have hci := hcall i hlt
        have hlists := hci.lists
        obtain ⟨k0, k1, k2, k3, k4⟩ := hci.next hbw hB
        obtain ⟨z1, z2⟩ := G2.out i hlt
        obtain ⟨c, hcd⟩ : ∃ c, c = (f i).1 := ⟨_, rfl⟩
        obtain ⟨p, hpd⟩ : ∃ p, p = (f i).2 := ⟨_, rfl⟩
        rw [← hcd] at k0 k1 k2 k3 k4 hlists z1 z2
        rw [← hpd] at k3 k4 hlists
        clear hcd hpd hci hcall
        have i0 : (0 : Int) ≤ (i : Int) := by omega
        have i2 : (i : Int) < (len : Int) := by omega
        have hskip : Hid (∀ o, Below w.heap.size w (wr.alloc o) ∧ RackAt (wr.alloc o) (L.M 3) L R ∧ Blk (wr.alloc o) gb zeros64) := fun o =>
          ⟨hB.alloc hB.size o, hr.below ((Below.refl _ _).alloc (Nat.le_refl _) o), hb.below hb.lt ((Below.refl _ _).alloc (Nat.le_refl _) o)⟩
        by_cases h3 : c.what = 3
        · rw [h3] at k0
          have H3 := Lib.hid h3
          clear h3
          go_wp2_with (fail)
          go_roundw
          case rel => exact ⟨i + 1, R, by omega, by go_num, hF, (hskip.out _).2.1, (hskip.out _).2.2, (hskip.out _).1⟩
          case measure => simp [intOf]; omega
        by_cases h4 : c.what = 4
        · rw [h4] at k0
          have H4 := Lib.hid h4
          clear h3 h4
          go_wp2_with (fail)
          go_roundw
          case rel => exact ⟨i + 1, R, by omega, by go_num, hF, (hskip.out _).2.1, (hskip.out _).2.2, (hskip.out _).1⟩
          case measure => simp [intOf]; omega
        have e3 : (c.what == 3) = false := by simpa using h3
        have e4 : (c.what == 4) = false := by simpa using h4
        have hF' := hF.step c h3 h4
        have hfd := fresh_dead c h3
        have halike := Lib.hid (hF.alike c.i c.n c.zs)
        have Hfd := Lib.hid hfd
        have hok : Hid (∀ (w' : World) (N : Nat → Prop), Below w.heap.size w w' → (∀ k, N k → w.heap.size ≤ k) → ClAt w' N c p) := Lib.hid fun w' N h1 h2 => hlists.at h1 h2 (by omega) (by omega)
        clear h3 h4 hskip hlists hfd
        go_wp2_with (fail)
        obtain ⟨wx, hwx, hsz, hr1, hr2, hbx⟩ := two_new wr (.cells #[.int .i64 c.what, .int .i64 c.i, .int .i64 c.n, .slice p.a3 c.zs.length p.c3, .slice p.a4 c.ks.length p.c4] 40 (0, 0)) (.cells #[.int .i64 0, .int .i64 0, .slice none 0 0, .slice none 0 0, .slice none 0 0, .slice none 0 0, .int .i64 0, .bool false] 33 (0, 0))
        rw [← hwx]
        clear hwx k0 k1 k2 k3 k4 e3 e4 z1 z2
        refine (rnew_ok 3 4 wx (by omega) (by omega) (by omega) (by omega)).mono ?_
        rintro e w7 ⟨v, xs, rfl, hD, hx1, hx2, hx3, hb7⟩
        have hb7' : Below wr.heap.size wr w7 := hbx.trans (hb7.mono (by omega))
        have hr1' := (hb7.block wr.heap.size (by omega)).trans hr1
        have hr2' := (hb7.block (wr.heap.size + 1) (by omega)).trans hr2
        obtain ⟨K, hKp, hKw, hboth, hb8⟩ := both_new hr (fun k => by rw [hF.n]) hb7' hD hx1 hx2 hx3 (P := wr.heap.size + 1) (by omega) (by omega) (by omega) (by omega) hr2'
        obtain ⟨g0, m0, f0⟩ := hD.form 0 (by omega) (by simp)
        obtain ⟨g1', m1, f1⟩ := hD.form 1 (by omega) (by simp)
        obtain ⟨g2', m2, f2⟩ := hD.form 2 (by omega) (by simp)
        obtain ⟨g3', m3, f3⟩ := hD.form 3 (by omega) (by simp)
        rw [f0, f1, f2, f3] at hboth hb8
        rw [f0, f1, f2, f3]
        have d0 : w7.cell? ⟨wr.heap.size, 0, none⟩ = some (.int .i64 c.what) := by rw [cell_of_row _ _ 0 _ _ (0, 0) hr1']; rfl
        have d1 : w7.cell? ⟨wr.heap.size, 1, none⟩ = some (.int .i64 c.i) := by rw [cell_of_row _ _ 1 _ _ (0, 0) hr1']; rfl
        have d2 : w7.cell? ⟨wr.heap.size, 2, none⟩ = some (.int .i64 c.n) := by rw [cell_of_row _ _ 2 _ _ (0, 0) hr1']; rfl
        have d3 : w7.cell? ⟨wr.heap.size, 3, none⟩ = some (.slice p.a3 c.zs.length p.c3) := by rw [cell_of_row _ _ 3 _ _ (0, 0) hr1']; rfl
        have d4 : w7.cell? ⟨wr.heap.size, 4, none⟩ = some (.slice p.a4 c.ks.length p.c4) := by rw [cell_of_row _ _ 4 _ _ (0, 0) hr1']; rfl
        have p0 : w7.cell? ⟨wr.heap.size + 1, 0, none⟩ = some (.int .i64 0) := by rw [cell_of_row _ _ 0 _ _ (0, 0) hr2']; rfl
        have q0 := frozen_of_row w7 (wr.heap.size + 1) 0 _ _ hr2'
        have p1 : w7.cell? ⟨wr.heap.size + 1, 1, none⟩ = some (.int .i64 0) := by rw [cell_of_row _ _ 1 _ _ (0, 0) hr2']; rfl
        have q1 := frozen_of_row w7 (wr.heap.size + 1) 1 _ _ hr2'
        have p2 : w7.cell? ⟨wr.heap.size + 1, 2, none⟩ = some (.slice none 0 0) := by rw [cell_of_row _ _ 2 _ _ (0, 0) hr2']; rfl
        have q2 := frozen_of_row w7 (wr.heap.size + 1) 2 _ _ hr2'
        have p3 : w7.cell? ⟨wr.heap.size + 1, 3, none⟩ = some (.slice none 0 0) := by rw [cell_of_row _ _ 3 _ _ (0, 0) hr2']; rfl
        have q3 := frozen_of_row w7 (wr.heap.size + 1) 3 _ _ hr2'
        have p4 : w7.cell? ⟨wr.heap.size + 1, 4, none⟩ = some (.slice none 0 0) := by rw [cell_of_row _ _ 4 _ _ (0, 0) hr2']; rfl
        have q4 := frozen_of_row w7 (wr.heap.size + 1) 4 _ _ hr2'
        have p5 : w7.cell? ⟨wr.heap.size + 1, 5, none⟩ = some (.slice none 0 0) := by rw [cell_of_row _ _ 5 _ _ (0, 0) hr2']; rfl
        have q5 := frozen_of_row w7 (wr.heap.size + 1) 5 _ _ hr2'
        have p6 : w7.cell? ⟨wr.heap.size + 1, 6, none⟩ = some (.int .i64 0) := by rw [cell_of_row _ _ 6 _ _ (0, 0) hr2']; rfl
        have q6 := frozen_of_row w7 (wr.heap.size + 1) 6 _ _ hr2'
        have p7 : w7.cell? ⟨wr.heap.size + 1, 7, none⟩ = some (.bool false) := by rw [cell_of_row _ _ 7 _ _ (0, 0) hr2']; rfl
        have q7 := frozen_of_row w7 (wr.heap.size + 1) 7 _ _ hr2'
        clear hr1 hr2 hr1' hr2' hD hx1 hx2 hx3 hb7 hb7' hbx f0 f1 f2 f3
        have hTM : Hid (∀ k, BothM L K R k → w.heap.size ≤ k) := fun k hk => by
          rcases hk with hk | hk
          · rw [hF.n] at hk; exact hMw.out k hk
          · exact Nat.le_trans hB.size (hKw k hk)
        have hB8 := hB.trans (hb8.mono hB.size)
        have ht := told_any L K R (newRf 3 4) _ c p hboth (hok.out _ _ hB8 hTM.out) (by rw [hF.n]; rfl) (by rw [hF'.off, Hfd.out]) halike.out
        rw [hKp] at ht
        have hgK : Hid (¬ BothM L K R gb) := fun x => by
          rcases x with x | x
          · rw [hF.n] at x; exact hgM.out x
          · have := hKw _ x; have := hb.lt; omega
        have hb8' := hb.below hb.lt hb8
        have Ht := Lib.hid ht
        clear ht
        go_wp2_with (fail)
        refine Ht.out.mono ?_
        rintro e w9 ⟨rfl, hbt, ht9⟩
        have hr9 := hbt.rk.thin
        rw [hF'.n] at hr9
        have hB9 := hB8.trans (ht9.below hB8.size hTM.out)
        have hb9 := hb8'.turn ht9 hgK.out
        obtain ⟨R1, hR1⟩ : ∃ R1, R1 = R.step c := ⟨_, rfl⟩
        rw [← hR1] at hF' hr9
        clear hbt ht9 hb8' hB8 hboth hb8 hr hb hB hR1 hgK hTM Hfd halike hok Ht d0 d1 d2 d3 d4 p0 p1 p2 p3 p4 p5 p6 p7 q0 q1 q2 q3 q4 q5 q6 q7
        have hm := Hm.out
        have hrd := read_all 1 m hr9
        rw [hF'.rd_1 hm4] at hrd
        have Hrd := Lib.hid hrd
        clear hrd
        go_wp2_with (fail)
        refine Hrd.out.mono ?_
        rintro e w10 ⟨a10, c10, rfl, hs10⟩
        have hr10 := hr9.below hs10.bel
        have hB10 := hB9.trans (hs10.bel.mono hB9.size)
        have hb10 := hb9.below hb9.lt hs10.bel
        clear hs10 hr9 hB9 hb9 Hrd
        have hoff := off_rack _ L R1 w10 hr10
        rw [hF'.off] at hoff
        have Hoff := Lib.hid hoff
        clear hoff
        go_wp2_with (fail)
        refine Hoff.out.mono ?_
        rintro e w' ⟨rfl, rfl⟩
        have hw := write_all 1 m (some ⟨gb, 0, none⟩) 64 64 zeros64 hr10 (hb10.bysn (AllB.zeros _) zeros64_len) (fun b off e => by cases e; exact hgM.out)
        rw [hF'.wr_1 hm4 zeros64_len] at hw
        have Hw := Lib.hid hw
        clear hw Hoff
        go_wp2_with (fail)
        refine Hw.out.mono ?_
        rintro e w11 ⟨rfl, hr11, ht11⟩
        have hF2 := hF'.wr 1 m zeros64
        have hM3 : Hid (∀ k, L.M R1.n k → w.heap.size ≤ k) := fun k hk => by rw [hF'.n] at hk; exact hMw.out k hk
        have hB11 := hB10.trans (ht11.below hB10.size hM3.out)
        have hb11 := hb10.turn ht11 (by rw [hF'.n]; exact hgM.out)
        obtain ⟨R2, hR2⟩ : ∃ R2, R2 = R1.wr 1 m zeros64 := ⟨_, rfl⟩
        rw [← hR2] at hF2 hr11
        clear hr10 hB10 hb10 Hw ht11 hR2 hM3
        have hfl := flush_all 1 hr11
        rw [hF2.fl_1] at hfl
        have Hfl := Lib.hid hfl
        clear hfl
        go_wp2_with (fail)
        refine Hfl.out.mono ?_
        rintro e w12 ⟨rfl, hr12, ht12⟩
        have hF3 := hF2.fl 1
        have hM4 : Hid (∀ k, L.M R2.n k → w.heap.size ≤ k) := fun k hk => by rw [hF2.n] at hk; exact hMw.out k hk
        have hB12 := hB11.trans (ht12.below hB11.size hM4.out)
        have hb12 := hb11.turn ht12 (by rw [hF2.n]; exact hgM.out)
        obtain ⟨R3, hR3⟩ : ∃ R3, R3 = R2.fl 1 := ⟨_, rfl⟩
        rw [← hR3] at hF3 hr12
        clear hr11 hB11 hb11 Hfl ht12 hR3 hM4 hm
        have hfa := failed_rack _ L R3 w12 1 hr12
        rw [hF3.failed_1] at hfa
        have Hfa := Lib.hid hfa
        clear hfa
        go_wp2_with (fail)
        refine Hfa.out.mono ?_
        rintro e w' ⟨rfl, rfl⟩
        go_wp2_with (fail)
        go_roundw
        case rel => exact ⟨i + 1, R3, by omega, by go_num, hF3, hr12, hb12, hB12⟩
        case measure => simp [intOf]; omega
      · go_wp2_with (fail)
        go_ret
        exact ⟨rfl, hB⟩

end Go.Proofs.Ytcgemckookefmaa
