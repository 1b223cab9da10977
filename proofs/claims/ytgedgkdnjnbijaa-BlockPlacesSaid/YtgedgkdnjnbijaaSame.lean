/-
  The reference's comparison of two slices of bytes: its contract.
-/
import Derived.Test.YtgedgkdnjnbijaaBase
namespace Go.Proofs.Ytgedgkdnjnbijaa
open Go.RowKit

def Front (x y : List Int) (k : Nat) : Prop := ∀ j, j < k → byt x j = byt y j
theorem Front.zero (x y : List Int) : Front x y 0 := fun _ h => by omega
theorem Front.succ {x y : List Int} {k : Nat} (h : Front x y k) (e : byt x k = byt y k) : Front x y (k + 1) := fun j hj => by
  by_cases hk : j = k
  · rw [hk]; exact e
  · exact h j (by omega)
theorem Front.all {x y : List Int} {n : Nat} (hx : x.length = n) (hy : y.length = n) (h : Front x y n) : sameB x y = true :=
  sameB_true (byt_ext (by omega) fun i hi => h i (by omega))

set_option maxHeartbeats 800000 in
theorem same_any (a b : Option Addr) (la ca lb cb : Nat) (x y : List Int) (w : World) (hx : Bys w a la x) (hy : Bys w b lb y) (hn : la ≤ 1000000000000) :
    Calls Try.prog 18 #[.slice a la ca, .slice b lb cb] w fun e w' => e = .returned (.bool (sameB x y)) ∧ ∃ q, w' = w.drewN q := by
  by_cases hl : la = lb
  · subst hl
    go_enter Try.func18, Try.ntmps18
    go_wp2
    go_loopw [5] (fun i wr => ∃ k q : Nat, k ≤ la ∧ i = .int .i64 k ∧ wr = w.drewN q ∧ Front x y k) (fun i _ => la - (intOf i).toNat)
    case atStart => exact ⟨0, 0, Nat.zero_le _, rfl, rfl, Front.zero _ _⟩
    case round =>
      obtain ⟨k, q, hk, rfl, rfl, hf⟩ := hrel
      by_cases hlt : k < la
      · rcases hx.place with h0 | ⟨ba, oa, rfl, _, hca⟩
        · omega
        rcases hy.place with h0 | ⟨bb, ob, rfl, _, hcb⟩
        · omega
        have g1 := hca k hlt
        have g2 := hcb k hlt
        clear hca hcb
        go_wp2
        go_quiet (fail)
        go_wp2
        · have hs : Hid (sameB x y = false) := sameB_at (by simpa using (by assumption : (byt x k != byt y k) = true))
          clear hx hy hf
          go_ret
          exact ⟨ret_bool hs.out.symm, q + nq, by rw [World.drewN_drewN]⟩
        · go_roundw
          case rel => exact ⟨k + 1, q + nq, by omega, by go_num, rfl, hf.succ (by simpa using (by assumption : (byt x k != byt y k) = false))⟩
          case measure => simp [intOf]; omega
      · obtain rfl : k = la := by omega
        have hs : Hid (sameB x y = true) := Front.all hx.len hy.len hf
        clear hx hy hf
        go_wp2
        go_ret
        exact ⟨ret_bool hs.out.symm, q, rfl⟩
  · have hs : sameB x y = false := sameB_len (by rw [hx.len, hy.len]; exact hl)
    have hne : ((la : Int) != (lb : Int)) = true := by simp; omega
    rw [hs]
    clear hs hx hy
    go_enter Try.func18, Try.ntmps18
    go_wp2
    go_ret
    exact ⟨rfl, 0, rfl⟩

theorem same_eq (a b : Option Addr) (n ca cb : Nat) (x y : List Int) (w : World) (hx : Bys w a n x) (hy : Bys w b n y) (hn : n ≤ 1000000000000) (e : x = y) :
    Calls Try.prog 18 #[.slice a n ca, .slice b n cb] w fun e w' => e = .returned (.bool true) ∧ Below w.heap.size w w' := by
  have := same_any a b n ca n cb x y w hx hy hn
  rw [sameB_true e] at this
  exact this.mono fun e w' ⟨he, q, hw⟩ => ⟨he, hw ▸ below_drewN (Below.refl _ _) q⟩

end Go.Proofs.Ytgedgkdnjnbijaa
