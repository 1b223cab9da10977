/-
  The reference's Xor, by contract.
-/
import Derived.Test.YtcloedhocbkigaaXor
import Derived.Test.YtcloedhocbkigaaCopy
namespace Go.Proofs.Ytcloedhocbkigaa
open Go.RowKit

theorem take_one {zs : List Int} {k : Nat} (h : k < zs.length) : zs.take (k + 1) = zs.take k ++ [byt zs k] := by
  rw [List.take_succ_eq_append_getElem h]
  simp [byt, List.getD, h]

/-- The first k bytes are gathered. -/
structure Got (w0 wr : World) (v : Value) (k : Nat) (t : List Int) : Prop where
  own : Own wr w0.heap.size v k (t.take k)
  bel : Below w0.heap.size w0 wr

set_option maxHeartbeats 800000 in
theorem refXor_any (a b : Option Addr) (la ca lb cb : Nat) (x y : List Int) (w : World) (hx : Bys w a la x) (hy : Bys w b lb y) (hla : la ≤ 1000000000000) (hlb : lb ≤ 1000000000000) :
    Calls Try.prog 21 #[.slice a la ca, .slice b lb cb] w fun e w' => ∃ v, e = .returned v ∧ Own w' w.heap.size v (max la lb) (xorL x y) ∧ Below w.heap.size w w' := by
  obtain ⟨n, hn⟩ : ∃ n, n = max la lb := ⟨_, rfl⟩
  have H : Hid (n = max la lb) := hn
  have hA : la ≤ n := by omega
  have hB : lb ≤ n := by omega
  have hN : n ≤ 1000000000000 := by omega
  rw [← hn]
  have HX : Hid (x.length = la) := hx.len
  have HY : Hid (y.length = lb) := hy.len
  have HT : Hid ((xorL x y).length = n) := by show _ = _; rw [xorL_len, HX.out, HY.out, hn]
  clear hn
  go_enter Try.func21, Try.ntmps21
  go_wp2
  go_loopw [5, 6, 7] (fun out i _c wr => ∃ k : Nat, k ≤ n ∧ i = .int .i64 k ∧ Got w wr out k (xorL x y)) (fun _ i _ _ => n - (intOf i).toNat)
  case atStart => exact ⟨0, Nat.zero_le _, rfl, own_none w _ (Nat.le_refl _), (Below.refl _ _).alloc (Nat.le_refl _) _⟩
  case round =>
    obtain ⟨k, hk, rfl, hg⟩ := hrel
    by_cases hlt : k < n
    · have hs := hg.bel.size
      have bx := byt_bd hx.small k
      have b_y := byt_bd hy.small k
      have hkx : k < max x.length y.length := by rw [HX.out, HY.out, ← H.out]; exact hlt
      have e0 : bits .xor .u8 0 (byt x k) = byt x k := by rw [u8_xr (by omega) bx, xr_comm, xr_zero bx.1]
      have e1 : bits .xor .u8 0 (byt y k) = byt y k := by rw [u8_xr (by omega) b_y, xr_comm, xr_zero b_y.1]
      have HV : Hid (bits .xor .u8 (bits .xor .u8 0 (byt x k)) (byt y k) = byt (xorL x y) k) := by
        show _ = _
        rw [e0, byt_xorL hkx]
        exact u8_xr bx b_y
      have HVx : Hid (lb ≤ k → bits .xor .u8 0 (byt x k) = byt (xorL x y) k) := fun h => by
        rw [e0, byt_xorL hkx, byt_past (zs := y) (by rw [HY.out]; exact h), xr_zero bx.1]
      have HVy : Hid (la ≤ k → bits .xor .u8 0 (byt y k) = byt (xorL x y) k) := fun h => by
        rw [e1, byt_xorL hkx, byt_past (zs := x) (by rw [HX.out]; exact h), xr_comm, xr_zero b_y.1]
      have hvb := byt_bd (xorL_small hx.small hy.small) k
      clear e0 e1
      by_cases ha : k < la
      · rcases hx.place with h0 | ⟨ba, oa, rfl, hba, hca⟩
        · omega
        have g1 : wr.cell? ⟨ba, oa + k, none⟩ = some (.int .u8 (byt x k)) := (hg.bel.cell (p := ⟨ba, oa + k, none⟩) hba).trans (hca k ha)
        by_cases hb : k < lb
        · rcases hy.place with h0 | ⟨bb, ob, rfl, hbb, hcb⟩
          · omega
          have g2 : wr.cell? ⟨bb, ob + k, none⟩ = some (.int .u8 (byt y k)) := (hg.bel.cell (p := ⟨bb, ob + k, none⟩) hbb).trans (hcb k hb)
          clear hca hcb hx hy
          go_wp2_with (at_builtin; go_must (refine wpList_ap rfl (.tmp 41) (.tmp 43) rfl w.heap.size _ k _ rfl (hg.own.below (Nat.le_refl _) ((Below.refl _ _).alloc (Nat.le_refl _) _)) _ 1 1 [byt (xorL x y) k] rfl (bys_eq wr HV.out hvb) (fun h => by cases h) (by omega) (by simp; omega) w (hg.bel.alloc hs _) ?_); intro v w1 hown1 hb1)
          go_roundw
          case rel => exact ⟨k + 1, by omega, by go_num, by rw [take_one (by rw [HT.out]; exact hlt)]; exact hown1, hb1⟩
          case measure => simp [intOf]; omega
        · clear hca hx hy
          go_wp2_with (at_builtin; go_must (refine wpList_ap rfl (.tmp 41) (.tmp 43) rfl w.heap.size _ k _ rfl (hg.own.below (Nat.le_refl _) ((Below.refl _ _).alloc (Nat.le_refl _) _)) _ 1 1 [byt (xorL x y) k] rfl (bys_eq wr (HVx.out (by omega)) hvb) (fun h => by cases h) (by omega) (by simp; omega) w (hg.bel.alloc hs _) ?_); intro v w1 hown1 hb1)
          go_roundw
          case rel => exact ⟨k + 1, by omega, by go_num, by rw [take_one (by rw [HT.out]; exact hlt)]; exact hown1, hb1⟩
          case measure => simp [intOf]; omega
      · have hb : k < lb := by have := H.out; omega
        rcases hy.place with h0 | ⟨bb, ob, rfl, hbb, hcb⟩
        · omega
        have g2 : wr.cell? ⟨bb, ob + k, none⟩ = some (.int .u8 (byt y k)) := (hg.bel.cell (p := ⟨bb, ob + k, none⟩) hbb).trans (hcb k hb)
        clear hcb hx hy
        go_wp2_with (at_builtin; go_must (refine wpList_ap rfl (.tmp 41) (.tmp 43) rfl w.heap.size _ k _ rfl (hg.own.below (Nat.le_refl _) ((Below.refl _ _).alloc (Nat.le_refl _) _)) _ 1 1 [byt (xorL x y) k] rfl (bys_eq wr (HVy.out (by omega)) hvb) (fun h => by cases h) (by omega) (by simp; omega) w (hg.bel.alloc hs _) ?_); intro v w1 hown1 hb1)
        go_roundw
        case rel => exact ⟨k + 1, by omega, by go_num, by rw [take_one (by rw [HT.out]; exact hlt)]; exact hown1, hb1⟩
        case measure => simp [intOf]; omega
    · obtain rfl : k = n := by omega
      clear hx hy
      have h1 : ¬ k < la := by omega
      have h2 : ¬ k < lb := by omega
      go_wp2
      go_ret
      exact ⟨_, rfl, by have := hg.own; rwa [List.take_of_length_le (by rw [HT.out]; exact Nat.le_refl _)] at this, hg.bel⟩

end Go.Proofs.Ytcloedhocbkigaa
