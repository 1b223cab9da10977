/-
  The laws' 'great', by contract.
-/
import Derived.Test.YtcgemckookefmaaArgC
namespace Go.Proofs.Ytcgemckookefmaa
open Go.RowKit Go.Maps

/-- What 'great' tells. -/
def GreatPost (n s : Int) (len : Nat) (f : Nat → Cl × Pl) (w : World) (e : Ending) (w' : World) : Prop :=
  ∃ b, e = .returned (.bool b) ∧ (b = false → n ≤ 20 ∧ ¬ (100 < s ∧ s ≤ 4096) ∧ len ≤ 200 ∧ ∀ i, i < len → (f i).1.zs.length ≤ 20000 ∧ (f i).1.ks.length ≤ 20000) ∧ ∃ q, w' = w.drewN q
theorem GreatPost.yes (n s : Int) (len : Nat) (f : Nat → Cl × Pl) (w : World) (q : Nat) : GreatPost n s len f w (.returned (.bool true)) (w.drewN q) := ⟨true, rfl, (fun h => by cases h), q, rfl⟩
/-- The counting loop's relation. -/
def GreatRel (len : Nat) (f : Nat → Cl × Pl) (w : World) (u v : Value) (wr : World) : Prop :=
  ∃ m i : Nat, i ≤ len ∧ m ≤ 20000 ∧ u = .int .i64 m ∧ v = .int .i64 i ∧ (∀ j, j < i → (f j).1.zs.length ≤ 20000 ∧ (f j).1.ks.length ≤ 20000) ∧ ∃ q, wr = w.drewN q

set_option maxHeartbeats 400000 in
theorem great_long (n s : Int) (a : Option Addr) (len cap : Nat) (f : Nat → Cl × Pl) (w : World) (h : 200 < len) (hl : len ≤ maxLen) :
    Calls Try.prog 10 #[.int .i64 n, .int .i64 s, .slice a len cap] w (GreatPost n s len f w) := by
  unfold maxLen at hl
  have h1 : (200 : Int) < (len : Int) := by omega
  go_enter Try.func10, Try.ntmps10
  go_wp2_with (fail)
  go_ret
  exact GreatPost.yes _ _ _ _ w 0
set_option maxHeartbeats 400000 in
theorem great_disks (n s : Int) (a : Option Addr) (len cap : Nat) (f : Nat → Cl × Pl) (w : World) (h : len ≤ 200) (hn : 20 < n) :
    Calls Try.prog 10 #[.int .i64 n, .int .i64 s, .slice a len cap] w (GreatPost n s len f w) := by
  have h1 : decide ((200 : Int) < (len : Int)) = false := decide_eq_false (by omega)
  have h2 : decide (200 < len) = false := decide_eq_false (by omega)
  go_enter Try.func10, Try.ntmps10
  go_wp2_with (fail)
  go_ret
  exact GreatPost.yes _ _ _ _ w 0
set_option maxHeartbeats 400000 in
theorem great_sectors (n s : Int) (a : Option Addr) (len cap : Nat) (f : Nat → Cl × Pl) (w : World) (h : len ≤ 200) (hn : n ≤ 20) (hs : 100 < s) (hs2 : s ≤ 4096) :
    Calls Try.prog 10 #[.int .i64 n, .int .i64 s, .slice a len cap] w (GreatPost n s len f w) := by
  have h1 : decide ((200 : Int) < (len : Int)) = false := decide_eq_false (by omega)
  have h2 : decide (200 < len) = false := decide_eq_false (by omega)
  have h3 : decide (20 < n) = false := decide_eq_false (by omega)
  go_enter Try.func10, Try.ntmps10
  go_wp2_with (fail)
  go_ret
  exact GreatPost.yes _ _ _ _ w 0

set_option maxHeartbeats 2000000 in
theorem great_few (n s : Int) (a : Option Addr) (len cap : Nat) (f : Nat → Cl × Pl) (w : World) (hc : CallsAt w a len f) (h : len ≤ 200) (hn : n ≤ 20) (hs : s ≤ 100) :
    Calls Try.prog 10 #[.int .i64 n, .int .i64 s, .slice a len cap] w (GreatPost n s len f w) := by
  have h1 : decide ((200 : Int) < (len : Int)) = false := decide_eq_false (by omega)
  have h2 : decide (200 < len) = false := decide_eq_false (by omega)
  have h3 : decide (20 < n) = false := decide_eq_false (by omega)
  have h4 : decide (100 < s) = false := decide_eq_false (by omega)
  have hfin : ∀ q, (∀ j, j < len → (f j).1.zs.length ≤ 20000 ∧ (f j).1.ks.length ≤ 20000) → GreatPost n s len f w (.returned (.bool false)) (w.drewN q) := fun q hj =>
    ⟨false, rfl, fun _ => ⟨hn, by omega, h, hj⟩, q, rfl⟩
  have Hfin := Lib.hid hfin
  have Hc := Lib.hid hc
  clear hc hfin
  go_enter Try.func10, Try.ntmps10
  go_wp2_with (fail)
  go_loopw [7, 8] (GreatRel len f w) (fun _ v _ => len - (intOf v).toNat)
  case atStart => exact ⟨0, 0, by omega, by omega, rfl, rfl, (fun j hj => by omega), 0, rfl⟩
  case round =>
    obtain ⟨m, i, i1, m1, rfl, rfl, hj, q, rfl⟩ := hrel
    have Hj := Lib.hid hj
    clear hj
    by_cases hlt : i < len
    · rcases Hc.out with h0 | ⟨b, off, rfl, hb, hcall⟩
      · omega
      have hci := hcall i hlt
      have k3 : w.cell? ⟨b, off + i * 5 + 3, none⟩ = _ := hci.k3
      have k4 : w.cell? ⟨b, off + i * 5 + 4, none⟩ = _ := hci.k4
      have b3 := hci.lists.bz
      have b4 := hci.lists.bk
      unfold reachBytes at b3 b4
      obtain ⟨x, hx⟩ : ∃ x, x = (f i).1.zs.length := ⟨_, rfl⟩
      obtain ⟨y, hy⟩ : ∃ y, y = (f i).1.ks.length := ⟨_, rfl⟩
      rw [← hx] at k3 b3
      rw [← hy] at k4 b4
      have Hx := Lib.hid hx
      have Hy := Lib.hid hy
      have i0 : (0 : Int) ≤ (i : Int) := by omega
      have i2 : (i : Int) < (len : Int) := by omega
      have e1 : IntKind.i64.wrap ((x : Int) + (y : Int)) = (x : Int) + (y : Int) := IntWalk.i64_in _ (by omega)
      have e2 : IntKind.i64.wrap ((m : Int) + ((x : Int) + (y : Int))) = (m : Int) + ((x : Int) + (y : Int)) := IntWalk.i64_in _ (by omega)
      clear hx hy hcall hci
      go_wp2_with (fail)
      go_quiet (fail)
      clear e1 e2
      by_cases hs : m + (x + y) ≤ 20000
      · go_wp2_with (fail)
        go_roundw
        case rel =>
          refine ⟨m + (x + y), i + 1, by omega, hs, by go_num, by go_num, fun j hj => ?_, ?_⟩
          · by_cases e : j = i
            · subst e
              rw [← Hx.out, ← Hy.out]
              omega
            · exact Hj.out j (by omega)
          · exact ⟨q + nq, by first | rfl | rw [World.drewN_drewN]⟩
        case measure => simp [intOf]; omega
      · go_wp2_with (fail)
        go_ret
        exact GreatPost.yes _ _ _ _ w _
    · go_wp2_with (fail)
      go_ret
      exact Hfin.out q fun j hjl => Hj.out j (by omega)
set_option maxHeartbeats 2000000 in
theorem great_many (n s : Int) (a : Option Addr) (len cap : Nat) (f : Nat → Cl × Pl) (w : World) (hc : CallsAt w a len f) (h : len ≤ 200) (hn : n ≤ 20) (hs : 4096 < s) :
    Calls Try.prog 10 #[.int .i64 n, .int .i64 s, .slice a len cap] w (GreatPost n s len f w) := by
  have h1 : decide ((200 : Int) < (len : Int)) = false := decide_eq_false (by omega)
  have h2 : decide (200 < len) = false := decide_eq_false (by omega)
  have h3 : decide (20 < n) = false := decide_eq_false (by omega)
  have h4 : 100 < s := by omega
  have h5 : decide (s ≤ 4096) = false := decide_eq_false (by omega)
  have hfin : ∀ q, (∀ j, j < len → (f j).1.zs.length ≤ 20000 ∧ (f j).1.ks.length ≤ 20000) → GreatPost n s len f w (.returned (.bool false)) (w.drewN q) := fun q hj =>
    ⟨false, rfl, fun _ => ⟨hn, by omega, h, hj⟩, q, rfl⟩
  have Hfin := Lib.hid hfin
  have Hc := Lib.hid hc
  clear hc hfin
  go_enter Try.func10, Try.ntmps10
  go_wp2_with (fail)
  go_loopw [7, 8] (GreatRel len f w) (fun _ v _ => len - (intOf v).toNat)
  case atStart => exact ⟨0, 0, by omega, by omega, rfl, rfl, (fun j hj => by omega), 0, rfl⟩
  case round =>
    obtain ⟨m, i, i1, m1, rfl, rfl, hj, q, rfl⟩ := hrel
    have Hj := Lib.hid hj
    clear hj
    by_cases hlt : i < len
    · rcases Hc.out with h0 | ⟨b, off, rfl, hb, hcall⟩
      · omega
      have hci := hcall i hlt
      have k3 : w.cell? ⟨b, off + i * 5 + 3, none⟩ = _ := hci.k3
      have k4 : w.cell? ⟨b, off + i * 5 + 4, none⟩ = _ := hci.k4
      have b3 := hci.lists.bz
      have b4 := hci.lists.bk
      unfold reachBytes at b3 b4
      obtain ⟨x, hx⟩ : ∃ x, x = (f i).1.zs.length := ⟨_, rfl⟩
      obtain ⟨y, hy⟩ : ∃ y, y = (f i).1.ks.length := ⟨_, rfl⟩
      rw [← hx] at k3 b3
      rw [← hy] at k4 b4
      have Hx := Lib.hid hx
      have Hy := Lib.hid hy
      have i0 : (0 : Int) ≤ (i : Int) := by omega
      have i2 : (i : Int) < (len : Int) := by omega
      have e1 : IntKind.i64.wrap ((x : Int) + (y : Int)) = (x : Int) + (y : Int) := IntWalk.i64_in _ (by omega)
      have e2 : IntKind.i64.wrap ((m : Int) + ((x : Int) + (y : Int))) = (m : Int) + ((x : Int) + (y : Int)) := IntWalk.i64_in _ (by omega)
      clear hx hy hcall hci
      go_wp2_with (fail)
      go_quiet (fail)
      clear e1 e2
      by_cases hs : m + (x + y) ≤ 20000
      · go_wp2_with (fail)
        go_roundw
        case rel =>
          refine ⟨m + (x + y), i + 1, by omega, hs, by go_num, by go_num, fun j hj => ?_, ?_⟩
          · by_cases e : j = i
            · subst e
              rw [← Hx.out, ← Hy.out]
              omega
            · exact Hj.out j (by omega)
          · exact ⟨q + nq, by first | rfl | rw [World.drewN_drewN]⟩
        case measure => simp [intOf]; omega
      · go_wp2_with (fail)
        go_ret
        exact GreatPost.yes _ _ _ _ w _
    · go_wp2_with (fail)
      go_ret
      exact Hfin.out q fun j hjl => Hj.out j (by omega)
theorem great_any (n s : Int) (a : Option Addr) (len cap : Nat) (f : Nat → Cl × Pl) (w : World) (hc : CallsAt w a len f) (hl : len ≤ maxLen) :
    Calls Try.prog 10 #[.int .i64 n, .int .i64 s, .slice a len cap] w (GreatPost n s len f w) := by
  by_cases h : len ≤ 200
  · by_cases hn : n ≤ 20
    · by_cases h1 : s ≤ 100
      · exact great_few n s a len cap f w hc h hn h1
      · by_cases h2 : s ≤ 4096
        · exact great_sectors n s a len cap f w h hn (by omega) h2
        · exact great_many n s a len cap f w hc h hn (by omega)
    · exact great_disks n s a len cap f w h (by omega)
  · exact great_long n s a len cap f w (by omega) hl

end Go.Proofs.Ytcgemckookefmaa
