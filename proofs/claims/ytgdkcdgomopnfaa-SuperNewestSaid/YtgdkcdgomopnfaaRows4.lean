/-
  The laws' helpers on rows: a copy, a comparison, a weight.
-/
import Derived.Test.YtgdkcdgomopnfaaRowO
import Derived.Test.YtgdkcdgomopnfaaSame
namespace Go.Proofs.Ytgdkcdgomopnfaa
open Go.RowKit

/-- Two rows hold the same. -/
def SameZ (f g : Nat → Pc) (n : Nat) : Prop := ∀ i, i < n → (f i).zs = (g i).zs
/-- A copy of a row. -/
def CopyR (f : Nat → Pc) (w0 : World) (n : Nat) (e : Ending) (w : World) : Prop := ∃ v g, e = .returned v ∧ OwnR w w0.heap.size v n g ∧ SameZ g f n ∧ Below w0.heap.size w0 w
def CopyRel (f : Nat → Pc) (w0 : World) (n : Nat) (u v : Value) (w : World) : Prop := ∃ (k : Nat) (g : Nat → Pc), k ≤ n ∧ v = .int .i64 k ∧ OwnR w w0.heap.size u k g ∧ SameZ g f k ∧ Below w0.heap.size w0 w

set_option maxHeartbeats 1000000 in
theorem copyRows_any (a : Option Addr) (n c : Nat) (f : Nat → Pc) (w : World) (h : Rws w a n f) (hn : n ≤ 100000000000) (hb : ∀ i, i < n → (f i).n ≤ 1000000000000) :
    Calls Try.prog 25 #[.slice a n c] w (CopyR f w n) := by
  have HB := Lib.hid hb
  clear hb
  go_enter Try.func25, Try.ntmps25
  go_wp2_with (fail)
  go_loopw [3, 4] (fun u v wr => CopyRel f w n u v wr) (fun _ v _ => n - (intOf v).toNat)
  case atStart => exact ⟨0, f, by omega, rfl, ownR_none w _ (Nat.le_refl _) f, (fun i hi => by omega), (Below.refl _ _).alloc (Nat.le_refl _) _⟩
  case round =>
    obtain ⟨k, g, hk, rfl, ho, hz, hb⟩ := hrel
    have HZ := Lib.hid hz
    clear hz
    by_cases hlt : k < n
    · obtain ⟨b, off, x, m, d, zs, rfl, hbl, hc, hp, hfz, hfn⟩ := (h.next hb).at hlt
      have hm := HB.out k hlt
      rw [hfn] at hm
      have HF := Lib.hid hfz
      have hsz := hb.size
      obtain ⟨ra, rc, rfl, _, _, _, hlo⟩ := ho.rws
      have HLO := Lib.hid hlo
      clear h hfz hfn hlo
      go_wp2_with (fail)
      refine (copy_any x m d zs wr hp.bys hp.nil hm).mono ?_
      rintro e w1 ⟨v1, rfl, ho1, hb1⟩
      obtain ⟨x1, d1, rfl, hp1, hlo1⟩ := ho1.pin
      have hor := (ho.next hb1).next ((Below.refl _ _).alloc (Nat.le_refl _) (.cells #[.slice x1 m d1] 31))
      have hB1 : Below w.heap.size w w1 := hb.trans (hb1.mono hsz)
      have hs1 := hB1.size
      have hap : m = 0 ∨ ∀ y, x1 = some y → some y.block ≠ (Value.slice ra k rc).ownBlock := .inr fun y hy e2 => by
        cases hra : ra with
        | none => rw [hra] at e2; cases e2
        | some r =>
          rw [hra] at e2
          have h3 := (HLO.out r hra).2
          have h4 := (hlo1 y hy).1
          have h5 : y.block = r.block := by simpa [Value.ownBlock] using e2
          omega
      have HAP := Lib.hid hap
      clear hap ho hb1 ho1 hlo1 hp hb
      go_wp2_with (at_builtin; go_must (refine wpList_apR rfl (.tmp 12) (.tmp 18) rfl w.heap.size _ k g rfl hor w1.heap.size rfl x1 m d1 zs (by simp) (hp1.alloc _) HAP.out (by omega) (by simp; omega) w (hB1.alloc hs1 _) ?_); intro v2 w2 ho2 hb2 _ _)
      go_roundw
      case rel => exact ⟨k + 1, _, by omega, by go_num, ho2, (fun i hi => by
        rcases Nat.lt_or_ge i k with h1 | h1
        · rw [snoc_old h1]; exact HZ.out i h1
        · obtain rfl : i = k := by omega
          rw [snoc_new]; exact HF.out.symm), hb2⟩
      case measure => simp [intOf]; omega
    · obtain rfl : k = n := by omega
      clear h
      go_wp2_with (fail)
      go_ret
      exact ⟨_, g, rfl, ho, HZ.out, hb⟩


/-- The comparing loop's relation. -/
def SmRel (w0 : World) (n : Nat) (v : Value) (w : World) : Prop := ∃ k : Nat, k ≤ n ∧ v = .int .i64 k ∧ ∃ q, w = w0.drewN q
set_option maxHeartbeats 1000000 in
theorem sameRows_eq (a b : Option Addr) (n c d : Nat) (f g : Nat → Pc) (w : World) (h1 : Rws w a n f) (h2 : Rws w b n g) (hn : n ≤ 100000000000) (hz : SameZ f g n) (hb : ∀ i, i < n → (g i).n ≤ 1000000000000) :
    Calls Try.prog 30 #[.slice a n c, .slice b n d] w fun e w' => e = .returned (.bool true) ∧ Below w.heap.size w w' := by
  have HB := Lib.hid hb
  have HZ := Lib.hid hz
  clear hb hz
  go_enter Try.func30, Try.ntmps30
  go_wp2_with (fail)
  go_loopw [5] (fun v wr => SmRel w n v wr) (fun v _ => n - (intOf v).toNat)
  case atStart => exact ⟨0, by omega, rfl, 0, rfl⟩
  case round =>
    obtain ⟨k, hk, rfl, q, hq⟩ := hrel
    have hB : Below w.heap.size w wr := by rw [hq]; exact below_drewN (Below.refl _ _) q
    have HQ := Lib.hid hq
    clear hq
    by_cases hlt : k < n
    · obtain ⟨b1, o1, x1, m1, d1, z1, rfl, _, hc1, hp1, e1, _⟩ := (h1.next hB).at hlt
      obtain ⟨b2, o2, x2, m2, d2, z2, rfl, _, hc2, hp2, e2, n2⟩ := (h2.next hB).at hlt
      have hz : z1 = z2 := by rw [← e1, ← e2]; exact HZ.out k hlt
      obtain rfl : m1 = m2 := by rw [← hp1.len, ← hp2.len, hz]
      have hm := HB.out k hlt
      rw [n2] at hm
      have k0 : (0 : Int) ≤ (k : Int) := by omega
      have k1 : (k : Int) < (n : Int) := by omega
      have HE : Hid (∀ q, Calls Try.prog 16 #[.slice x1 m1 d1, .slice x2 m1 d2] (wr.drewN q) fun e w' => e = .returned (.bool true) ∧ ∃ m, w' = (wr.drewN q).drewN m) := by
        show ∀ q, _
        intro q
        have := same_any x1 x2 m1 d1 m1 d2 _ _ (wr.drewN q) (hp1.drewN q).bys (hp2.drewN q).bys hm
        rwa [sameB_true hz] at this
      clear h1 h2 hp1 hp2 e1 e2 n2 hz
      go_wp2_with (fail)
      go_quiet ((go_at_call 16; exact Calls.quiet_of (HE.out _)))
      go_wp2_with (fail)
      go_roundw
      case rel => exact ⟨k + 1, by omega, by go_num, q + nq, by rw [HQ.out, World.drewN_drewN]⟩
      case measure => simp [intOf]; omega
    · obtain rfl : k = n := by omega
      clear h1 h2
      go_wp2_with (fail)
      go_ret
      exact ⟨rfl, hB⟩

/-- What a row weighs, as far as its limit. -/
def WeighPost (L : Nat) (f : Nat → Pc) (n : Nat) (w : World) (e : Ending) (w' : World) : Prop :=
  ∃ t : Nat, t ≤ 9223372036854775807 ∧ e = .returned (.int .i64 t) ∧ w = w' ∧ (t ≤ L → n ≤ L ∧ ∀ i, i < n → (f i).n ≤ L)
def WeighRel (f : Nat → Pc) (n : Nat) (u v : Value) : Prop := ∃ t k : Nat, k ≤ n ∧ t ≤ 140737488400000 ∧ u = .int .i64 t ∧ v = .int .i64 k ∧ ∀ i, i < k → (f i).n ≤ t
set_option maxHeartbeats 1000000 in
theorem weigh_any (L : Nat) (hL : L ≤ 20000) (a : Option Addr) (n c : Nat) (f : Nat → Pc) (w : World) (h : Rws w a n f) (hn : n ≤ 9223372036854775807) (hb : ∀ i, i < n → (f i).n ≤ reachBytes) :
    Calls Try.prog 24 #[.slice a n c, .int .i64 L] w (WeighPost L f n w) := by
  have HB := Lib.hid hb
  clear hb
  by_cases h1 : n ≤ L
  · have e1 : ¬ (L : Int) < (n : Int) := by omega
    go_enter Try.func24, Try.ntmps24
    go_wp2_with (fail)
    go_loop [5, 6] (fun u v => WeighRel f n u v) (fun _ v => n - (intOf v).toNat)
    case atStart => exact ⟨n, 0, by omega, by omega, rfl, rfl, fun i hi => by omega⟩
    case round =>
      obtain ⟨t, k, hk, ht, rfl, rfl, hall⟩ := hrel
      have HA := Lib.hid hall
      clear hall
      by_cases hlt : k < n
      · by_cases ht2 : t ≤ L
        · obtain ⟨b, off, x, m, d, zs, rfl, hbl, hc, hp, hfz, hfn⟩ := h.at hlt
          have hm := HB.out k hlt
          rw [hfn] at hm
          unfold reachBytes at hm
          have HF := Lib.hid hfn
          have e2 : ((t : Int) ≤ L) := by omega
          clear h hp hfz hfn
          go_wp2_with (fail)
          go_round
          case rel => exact ⟨t + m, k + 1, by omega, by omega, by go_num, by go_num, fun i hi => by
            rcases Nat.lt_or_ge i k with h1 | h1
            · have := HA.out i h1; omega
            · obtain rfl : i = k := by omega
              rw [HF.out]; omega⟩
          case measure => simp [intOf]; omega
        · have e2 : ¬ ((t : Int) ≤ L) := by omega
          clear h
          go_wp2_with (fail)
          go_ret
          exact ⟨t, by omega, rfl, rfl, fun h => absurd h ht2⟩
      · obtain rfl : k = n := by omega
        clear h
        go_wp2_with (fail)
        all_goals (go_ret; exact ⟨t, by omega, rfl, rfl, fun h => ⟨h1, fun i hi => Nat.le_trans (HA.out i hi) h⟩⟩)
  · have e1 : (L : Int) < (n : Int) := by omega
    clear h
    go_enter Try.func24, Try.ntmps24
    go_wp2_with (fail)
    go_ret
    exact ⟨L + 1, by omega, rfl, rfl, fun h => by omega⟩

end Go.Proofs.Ytgdkcdgomopnfaa
