/-
  DevicePower's walk.
-/
import Derived.Test.YtcgemckookefmaaLoads
import Derived.Test.YtcgemckookefmaaArgsI
namespace Go.Proofs.Ytcgemckookefmaa
open Go.RowKit Go.Maps

theorem ins_below {w w' : World} {a : Option Addr} {n : Nat} {ks : List Int} (h : Ins w a n ks) {B : Nat} (hB : w.heap.size ≤ B) (hb : Below B w w') : Ins w' a n ks := by
  refine ⟨h.1, ?_⟩
  rcases h.2 with h0 | ⟨b, off, ha, hlt, hc⟩
  · exact .inl h0
  · exact .inr ⟨b, off, ha, Nat.lt_of_lt_of_le hlt hb.size, fun i hi => (hb.cell (p := ⟨b, off + i, none⟩) (by show b < B; omega)).trans (hc i hi)⟩

/-- A rack of one disk, armed with n calls, of which k are done. -/
structure Pw (n k : Nat) (R : Rk) : Prop where
  hn : R.n = 1
  hS : R.S = 2
  off : R.off = decide (n < k)
  cnt : k ≤ n → R.cnt = (n : Int) - k
  bad : (R.d 0).bad = false
  dc : (R.d 0).cnt = -1

def PwP (v : Int) (n k : Nat) (M : Nat → Prop) (L : Lay) (w : World) (e : Ending) (w' : World) : Prop := e = .returned (.int .i64 v) ∧ ∃ R', RackAt w' M L R' ∧ Pw n (k + 1) R' ∧ Turn (L.M 1) w w'

section
variable {n k : Nat} {M : Nat → Prop} {L : Lay} {R : Rk} {w : World}
theorem Pw.call (h : Pw n k R) (hk : k ≤ n) : Pw n (k + 1) R.call ∧ R.callE 0 = if k < n then 0 else 12 := by
  have hc := h.cnt hk
  have ho : R.off = false := by rw [h.off]; simp; omega
  by_cases e : k < n
  · have h0 : R.cnt ≠ 0 := by omega
    refine ⟨⟨by rw [Rk.call_n, h.hn], by rw [Rk.call_S, h.hS], ?_, fun _ => ?_, ?_, ?_⟩, ?_⟩ <;> simp only [Rk.call, Rk.callE, if_neg h0]
    · rw [ho]; simp; omega
    · rw [if_pos (by omega)]; omega
    · simp [Dk.called, h.bad, h.dc]
    · simp [Dk.called, h.dc]
    · simp [Dk.called, h.bad, h.dc, e]
  · have h0 : R.cnt = 0 := by omega
    refine ⟨⟨by rw [Rk.call_n, h.hn], by rw [Rk.call_S, h.hS], ?_, fun x => ?_, ?_, ?_⟩, ?_⟩
    · simp [Rk.call, h0]; omega
    · omega
    · simp [Rk.call, h0, h.bad]
    · simp [Rk.call, h0, h.dc]
    · simp [Rk.callE, h0, e]
theorem Pw.dead (h : Pw n k R) (hk : ¬ k ≤ n) : R.off = true ∧ Pw n (k + 1) R :=
  ⟨by rw [h.off]; simp; omega, ⟨h.hn, h.hS, by rw [h.off]; exact decide_eq_decide.2 (by omega), fun x => by omega, h.bad, h.dc⟩⟩
theorem Pw.setD (h : Pw n k R) (d : Dk) (hb : d.bad = false) (hc : d.cnt = -1) : Pw n k (R.setD 0 d) := ⟨h.hn, h.hS, h.off, h.cnt, by simp [Rk.setD, hb], by simp [Rk.setD, hc]⟩

theorem pw_flush (hr : RackAt w M L R) (h : Pw n k R) : Calls Try.prog 22 #[.pointer (some ⟨L.p, 0, none⟩), .int .i64 0] w (PwP (if k < n then 0 else 12) n k M L w) := by
  have hi : 0 < R.n := by rw [h.hn]; omega
  by_cases hk : k ≤ n
  · obtain ⟨h1, hE⟩ := h.call hk
    have ho : R.off = false := by rw [h.off]; simp; omega
    by_cases e : k < n
    · rw [if_pos e] at hE
      refine (flush_ok M L R w 0 hr ho hi hE).mono ?_
      rintro e' w' ⟨rfl, hr', ht⟩
      rw [h.hn] at ht
      exact ⟨by rw [if_pos e], _, hr', h1.setD _ h1.bad h1.dc, ht⟩
    · rw [if_neg e] at hE
      have := flush_err M L R w 0 hr ho hi (by rw [hE]; omega)
      rw [hE] at this
      refine this.mono ?_
      rintro e' w' ⟨rfl, hr', ht⟩
      rw [h.hn] at ht
      exact ⟨by rw [if_neg e], _, hr', h1, ht⟩
  · obtain ⟨ho, h1⟩ := h.dead hk
    refine (flush_dead M L R w 0 hr ho).mono ?_
    rintro e' w' ⟨rfl, rfl⟩
    exact ⟨by rw [if_neg (by omega)], R, hr, h1, Turn.refl _ _⟩
theorem pw_write (s b off c : Nat) (zs : List Int) (hr : RackAt w M L R) (h : Pw n k R) (hs : s < 2) (hz : Bys w (some ⟨b, off, none⟩) 64 zs) (hzM : ¬ M b) :
    Calls Try.prog 21 #[.pointer (some ⟨L.p, 0, none⟩), .int .i64 0, .int .i64 s, .slice (some ⟨b, off, none⟩) 64 c] w (PwP (if k < n then 0 else 12) n k M L w) := by
  have hi : 0 < R.n := by rw [h.hn]; omega
  have hs' : s < R.S := by rw [h.hS]; exact hs
  by_cases hk : k ≤ n
  · obtain ⟨h1, hE⟩ := h.call hk
    have ho : R.off = false := by rw [h.off]; simp; omega
    by_cases e : k < n
    · rw [if_pos e] at hE
      refine (write_ok M L R 0 s b off c zs w hr ho hi hs' hz hzM hE).mono ?_
      rintro e' w' ⟨rfl, hr', ht⟩
      rw [h.hn] at ht
      exact ⟨by rw [if_pos e], _, hr', h1.setD _ h1.bad h1.dc, ht⟩
    · rw [if_neg e] at hE
      have := write_err M L R w 0 s (some ⟨b, off, none⟩) c hr ho hi hs' (by rw [hE]; omega)
      rw [hE] at this
      refine this.mono ?_
      rintro e' w' ⟨rfl, hr', ht⟩
      rw [h.hn] at ht
      exact ⟨by rw [if_neg e], _, hr', h1, ht⟩
  · obtain ⟨ho, h1⟩ := h.dead hk
    refine (write_dead M L R w 0 s (some ⟨b, off, none⟩) 64 c hr ho).mono ?_
    rintro e' w' ⟨rfl, rfl⟩
    exact ⟨by rw [if_neg (by omega)], R, hr, h1, Turn.refl _ _⟩
theorem pw_five (a : Option Addr) (c : Nat) (hr : RackAt w M L R) (h : Pw n k R) :
    Calls Try.prog 21 #[.pointer (some ⟨L.p, 0, none⟩), .int .i64 0, .int .i64 5, .slice a 64 c] w fun e w' => e = .returned (.int .i64 (if k ≤ n then 11 else 12)) ∧ w = w' := by
  by_cases hk : k ≤ n
  · rw [if_pos hk]
    exact write_bad M L R w 0 5 a 64 c hr (by rw [h.off]; simp; omega) (.inl (by rw [h.hS]; exact hasB_high (by omega)))
  · rw [if_neg hk]
    exact write_dead M L R w 0 5 a 64 c hr (h.dead hk).1
end

theorem power_out (a : Option Addr) (la ca : Nat) (n : Int) (w : World) (h : 300 < la ∨ n < 0) :
    Calls Try.prog 6 #[.int .i64 n, .slice a la ca] w fun e w' => e = .returned (.bool true) ∧ Below w.heap.size w w' := by
  by_cases hl : 300 < la
  · clear h
    go_enter Try.func6, Try.ntmps6
    go_wp2_with (fail)
    with_reducible refine (alive2_any _).mono ?_
    rintro e w1 ⟨rfl, hl1⟩
    go_wp2_with (fail)
    go_ret
    exact ⟨rfl, hl1⟩
  · have hn : n < 0 := by omega
    clear h
    go_enter Try.func6, Try.ntmps6
    go_wp2_with (fail)
    with_reducible refine (alive2_any _).mono ?_
    rintro e w1 ⟨rfl, hl1⟩
    go_wp2_with (fail)
    go_ret
    exact ⟨rfl, hl1⟩

def zeros64 : List Int := List.replicate 64 0
theorem zeros64_len : zeros64.length = 64 := by simp [zeros64]
theorem pw_start (n : Nat) : Pw n 0 { newRk 1 2 with cnt := (n : Int) } := ⟨rfl, rfl, by simp [newRk], fun _ => by show (n : Int) = _; omega, rfl, rfl⟩

set_option maxHeartbeats 2000000 in
theorem power_in (a : Option Addr) (la ca n : Nat) (zs : List Int) (w : World) (hx : Ins w a la zs) (h : la ≤ 300) (hn : (n : Int) ≤ 9223372036854775807) :
    Calls Try.prog 6 #[.int .i64 n, .slice a la ca] w fun e w' => e = .returned (.bool true) ∧ Below w.heap.size w w' := by
  go_enter Try.func6, Try.ntmps6
  go_wp2_with (fail)
  with_reducible refine (alive2_any _).mono ?_
  rintro e w1 ⟨rfl, hl1⟩
  have hx1 := ins_below hx (Nat.le_refl _) hl1
  go_wp2_with (fail)
  refine (new_ok 1 2 w1 (by omega) (by omega) (by omega) (by omega)).mono ?_
  rintro e w2 ⟨L, rfl, hr2, hM0, hl2⟩
  have hM : Hid (∀ k, L.M 1 k → w1.heap.size ≤ k) := hM0
  clear hM0
  go_wp2_with (fail)
  refine (arm_rack (L.M 1) L _ _ n hr2 hn).mono ?_
  rintro e w3 ⟨rfl, hr3, ht3⟩
  have hB3 : Below w1.heap.size w1 w3 := hl2.trans (ht3.below hl2.size hM.out)
  go_wp2_with (at_make; refine wpList_mk rfl _ _ rfl .i64 .i64 64 64 64 rfl rfl rfl rfl (by omega) ?_; intro w4 hb4 hl4)
  have hr4 := hr3.below hl4
  have hB4 : Below w1.heap.size w1 w4 := hB3.trans (hl4.mono hB3.size)
  have hbM : Hid (¬ L.M 1 w3.heap.size) := fun x => by have := hr3.low _ x; omega
  obtain ⟨gb, hgb⟩ : ∃ gb, gb = w3.heap.size := ⟨_, rfl⟩
  rw [← hgb] at hb4 hbM ⊢
  have hz4 : Blk w4 gb zeros64 := hb4
  clear hgb hx hr2 hr3 hl2 ht3 hB3 hb4 hl4
  go_loopw [8] (fun i wr => ∃ (k : Nat) (R : Rk), k ≤ la ∧ i = .int .i64 k ∧ RackAt wr (L.M 1) L R ∧ Pw n k R ∧ Blk wr gb zeros64 ∧ Below w1.heap.size w1 wr) (fun i _ => la - (intOf i).toNat)
  case atStart => exact ⟨0, _, Nat.zero_le _, rfl, hr4, pw_start n, hz4, hB4⟩
  case round =>
    obtain ⟨k, R, hk, rfl, hr, hP, hz, hB⟩ := hrel
    clear hr4 hz4 hB4
    have hxr := ins_below hx1 (Nat.le_refl _) hB
    by_cases hlt : k < la
    · rcases hxr.2 with h0 | ⟨ba, oa, rfl, _, hca⟩
      · omega
      have hcell := hca k hlt
      obtain ⟨z, hz0⟩ : ∃ z, z = zs.getD k 0 := ⟨_, rfl⟩
      rw [← hz0] at hcell
      obtain ⟨m, hm4, hm⟩ := and3_nat z
      have hy : Bys wr (some ⟨gb, 0, none⟩) 64 zeros64 := hz.bysn (AllB.zeros _) zeros64_len
      have hfl := pw_flush hr hP
      have hw5 := pw_five (some ⟨gb, 0, none⟩) 64 hr hP
      have hw0 := pw_write 0 gb 0 64 zeros64 hr hP (by omega) hy hbM.out
      have hw1 := pw_write 1 gb 0 64 zeros64 hr hP (by omega) hy hbM.out
      change Calls _ _ #[_, _, .int .i64 0, _] _ _ at hw0
      change Calls _ _ #[_, _, .int .i64 1, _] _ _ at hw1
      clear hca hx1 hxr hz0 hr hP
      have hnk : (k : Int) < n ∨ (k : Int) = n ∨ (n : Int) < k := by omega
      have close : Hid (∀ w' R', RackAt w' (L.M 1) L R' → Pw n (k + 1) R' → Turn (L.M 1) wr w' → Blk w' gb zeros64 ∧ Below w1.heap.size w1 w') :=
        fun w' R' _ _ ht => ⟨hz.turn ht hbM.out, hB.trans (ht.below hB.size hM.out)⟩
      clear hy hz hB
      rcases hnk with e1 | e1 | e1
      · rw [if_pos (by omega)] at hfl hw0 hw1 hw5
        rcases (by omega : m = 0 ∨ m = 1 ∨ m = 2 ∨ m = 3) with rfl | rfl | rfl | rfl
        all_goals
          go_wp2_with (fail)
          try ((with_reducible refine hw5.mono ?_); rintro e w' ⟨rfl, rfl⟩; go_wp2_with (fail))
          first
            | with_reducible refine hfl.mono ?_
            | with_reducible refine hw0.mono ?_
            | with_reducible refine hw1.mono ?_
          rintro e w9 ⟨rfl, R', hr', hP', ht'⟩
          obtain ⟨hz9, hB9⟩ := close.out w9 R' hr' hP' ht'
          clear hfl hw0 hw1 hw5 close
          go_wp2_with (fail)
          go_roundw
          case rel => exact ⟨k + 1, R', by omega, by go_num, hr', hP', hz9, hB9⟩
          case measure => simp [intOf]; omega
      · have e2 : k = n := by omega
        rw [if_neg (by omega)] at hfl hw0 hw1
        rw [if_pos (by omega)] at hw5
        clear e1
        subst e2
        rcases (by omega : m = 0 ∨ m = 1 ∨ m = 2 ∨ m = 3) with rfl | rfl | rfl | rfl
        all_goals
          go_wp2_with (fail)
          try ((with_reducible refine hw5.mono ?_); rintro e w' ⟨rfl, rfl⟩; go_wp2_with (fail))
          first
            | with_reducible refine hfl.mono ?_
            | with_reducible refine hw0.mono ?_
            | with_reducible refine hw1.mono ?_
          rintro e w9 ⟨rfl, R', hr', hP', ht'⟩
          obtain ⟨hz9, hB9⟩ := close.out w9 R' hr' hP' ht'
          clear hfl hw0 hw1 hw5 close
          go_wp2_with (fail)
          go_roundw
          case rel => exact ⟨k + 1, R', by omega, by go_num, hr', hP', hz9, hB9⟩
          case measure => simp [intOf]; omega
      · rw [if_neg (by omega)] at hfl hw0 hw1 hw5
        have hb : decide (n ≤ k) = true := by simp; omega
        rcases (by omega : m = 0 ∨ m = 1 ∨ m = 2 ∨ m = 3) with rfl | rfl | rfl | rfl
        all_goals
          go_wp2_with (fail)
          try ((with_reducible refine hw5.mono ?_); rintro e w' ⟨rfl, rfl⟩; go_wp2_with (fail))
          first
            | with_reducible refine hfl.mono ?_
            | with_reducible refine hw0.mono ?_
            | with_reducible refine hw1.mono ?_
          rintro e w9 ⟨rfl, R', hr', hP', ht'⟩
          obtain ⟨hz9, hB9⟩ := close.out w9 R' hr' hP' ht'
          clear hfl hw0 hw1 hw5 close
          go_wp2_with (fail)
          go_roundw
          case rel => exact ⟨k + 1, R', by omega, by go_num, hr', hP', hz9, hB9⟩
          case measure => simp [intOf]; omega
    · obtain rfl : k = la := by omega
      clear hx1 hxr hz
      have hi : 0 < R.n := by rw [hP.hn]; omega
      have hs : 0 < R.S := by rw [hP.hS]; omega
      by_cases e1 : k ≤ n
      · have hre := read_ok (L.M 1) L R wr 0 0 hr (by rw [hP.off]; simp; omega) hi hs hP.bad
        change Calls _ _ #[_, .int .i64 0, .int .i64 0] _ _ at hre
        have e2 : decide (n < k) = false := by simp; omega
        clear hP hi hs hr
        go_wp2_with (fail)
        (with_reducible refine hre.mono ?_)
        rintro e w9 ⟨a9, c9, rfl, hs9⟩
        have hB9 := hB.trans (hs9.bel.mono hB.size)
        clear hre hs9 hB
        go_wp2_with (fail)
        go_ret
        exact ⟨rfl, hl1.trans (hB9.mono hl1.size)⟩
      · have hre := read_dead (L.M 1) L R wr 0 0 hr (hP.dead e1).1
        have e2 : decide (n < k) = true := by simp; omega
        clear hP hi hs hr
        go_wp2_with (fail)
        (with_reducible refine hre.mono ?_)
        rintro e w9 ⟨rfl, rfl⟩
        clear hre
        go_wp2_with (fail)
        go_ret
        exact ⟨rfl, hl1.trans (hB.mono hl1.size)⟩

theorem law_power (a : Option Addr) (la ca : Nat) (n : Int) (zs : List Int) (w : World) (hx : Ins w a la zs) (hn : n ≤ 9223372036854775807) :
    Calls Try.prog 6 #[.int .i64 n, .slice a la ca] w fun e w' => e = .returned (.bool true) ∧ Below w.heap.size w w' := by
  by_cases h : 300 < la ∨ n < 0
  · exact power_out a la ca n w h
  · obtain ⟨m, rfl⟩ := Int.eq_ofNat_of_zero_le (by omega : 0 ≤ n)
    exact power_in a la ca m zs w hx (by omega) hn

end Go.Proofs.Ytcgemckookefmaa
