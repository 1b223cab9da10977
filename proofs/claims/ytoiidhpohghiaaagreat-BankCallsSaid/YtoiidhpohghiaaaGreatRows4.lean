/-
  The laws' helpers on rows: a copy, a comparison, a weight.
-/
import Derived.Test.YtoiidhpohghiaaaGreatRowO
import Derived.Test.YtoiidhpohghiaaaGreatSame
namespace Go.Proofs.YtoiidhpohghiaaaGreat
open Go.RowKit

/-- Two rows hold the same. -/
def SameZ (f g : Nat → Pc) (n : Nat) : Prop := ∀ i, i < n → (f i).zs = (g i).zs
/-- A copy of a row. -/
def CopyR (f : Nat → Pc) (w0 : World) (n : Nat) (e : Ending) (w : World) : Prop := ∃ v g, e = .returned v ∧ OwnR w w0.heap.size v n g ∧ SameZ g f n ∧ Below w0.heap.size w0 w
def CopyRel (f : Nat → Pc) (w0 : World) (n : Nat) (u v : Value) (w : World) : Prop := ∃ (k : Nat) (g : Nat → Pc), k ≤ n ∧ v = .int .i64 k ∧ OwnR w w0.heap.size u k g ∧ SameZ g f k ∧ Below w0.heap.size w0 w

/-- The comparing loop's relation. -/
def SmRel (w0 : World) (n : Nat) (v : Value) (w : World) : Prop := ∃ k : Nat, k ≤ n ∧ v = .int .i64 k ∧ ∃ q, w = w0.drewN q
set_option maxHeartbeats 1000000 in
theorem sameRows_eq (a b : Option Addr) (n c d : Nat) (f g : Nat → Pc) (w : World) (h1 : Rws w a n f) (h2 : Rws w b n g) (hn : n ≤ 100000000000) (hz : SameZ f g n) (hb : ∀ i, i < n → (g i).n ≤ 1000000000000) :
    Calls Tryz.prog 32 #[.slice a n c, .slice b n d] w fun e w' => e = .returned (.bool true) ∧ Below w.heap.size w w' := by
  have HB := Lib.hid hb
  have HZ := Lib.hid hz
  clear hb hz
  go_enter Tryz.func32, Tryz.ntmps32
  go_wp2_with (fail)
  go_loopw [5] (fun v wr => SmRel w n v wr) (fun v _ => n - (intOf v).toNat)
  case atStart => exact ⟨0, by omega, rfl, 0, rfl⟩
  case round =>
    obtain ⟨k, hk, rfl, q, hq⟩ := hrel
    have hB : Below w.heap.size w wr := by rw [hq]; exact below_drewN (Below.refl _ _) q
    have HQ := Lib.hid hq
    clear hq
    by_cases hlt : k < n
    · obtain ⟨b1, o1, x1, m1, d1, z1, rfl, _, hc1, hp1, e1, _⟩ := (h1.next hB).at hlt
      obtain ⟨b2, o2, x2, m2, d2, z2, rfl, _, hc2, hp2, e2, n2⟩ := (h2.next hB).at hlt
      have hz : z1 = z2 := by rw [← e1, ← e2]; exact HZ.out k hlt
      obtain rfl : m1 = m2 := by rw [← hp1.len, ← hp2.len, hz]
      have hm := HB.out k hlt
      rw [n2] at hm
      have k0 : (0 : Int) ≤ (k : Int) := by omega
      have k1 : (k : Int) < (n : Int) := by omega
      have HE : Hid (∀ q, Calls Tryz.prog 25 #[.slice x1 m1 d1, .slice x2 m1 d2] (wr.drewN q) fun e w' => e = .returned (.bool true) ∧ ∃ m, w' = (wr.drewN q).drewN m) := by
        show ∀ q, _
        intro q
        have := same_any x1 x2 m1 d1 m1 d2 _ _ (wr.drewN q) (hp1.drewN q).bys (hp2.drewN q).bys hm
        rwa [sameB_true hz] at this
      clear h1 h2 hp1 hp2 e1 e2 n2 hz
      go_wp2_with (fail)
      go_quiet ((go_at_call 25; exact Calls.quiet_of (HE.out _)))
      go_wp2_with (fail)
      go_roundw
      case rel => exact ⟨k + 1, by omega, by go_num, q + nq, by rw [HQ.out, World.drewN_drewN]⟩
      case measure => simp [intOf]; omega
    · obtain rfl : k = n := by omega
      clear h1 h2
      go_wp2_with (fail)
      go_ret
      exact ⟨rfl, hB⟩

/-- What a row weighs, as far as its limit. -/
def WeighPost (L : Nat) (f : Nat → Pc) (n : Nat) (w : World) (e : Ending) (w' : World) : Prop :=
  ∃ t : Nat, t ≤ 9223372036854775807 ∧ e = .returned (.int .i64 t) ∧ w = w' ∧ (t ≤ L → n ≤ L ∧ ∀ i, i < n → (f i).n ≤ L)
def WeighRel (f : Nat → Pc) (n : Nat) (u v : Value) : Prop := ∃ t k : Nat, k ≤ n ∧ t ≤ 140737488400000 ∧ u = .int .i64 t ∧ v = .int .i64 k ∧ ∀ i, i < k → (f i).n ≤ t
end Go.Proofs.YtoiidhpohghiaaaGreat
