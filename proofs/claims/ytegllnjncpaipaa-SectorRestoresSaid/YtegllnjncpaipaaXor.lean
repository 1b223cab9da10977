/-
  The program's Xor, by contract: a new block, each byte the one or the other.
-/
import Derived.Test.YtegllnjncpaipaaBase
namespace Go.Proofs.Ytegllnjncpaipaa
open Go.RowKit

def xr (a b : Int) : Int := ((a.toNat ^^^ b.toNat : Nat) : Int)
theorem xr_zero {a : Int} (h : 0 ≤ a) : xr a 0 = a := by
  show ((a.toNat ^^^ 0 : Nat) : Int) = a
  rw [Nat.xor_zero]; omega
theorem xr_comm (a b : Int) : xr a b = xr b a := by unfold xr; rw [Nat.xor_comm]
theorem xr_self (a : Int) : xr a a = 0 := by unfold xr; rw [Nat.xor_self]; rfl
theorem xr_assoc (a b c : Int) : xr (xr a b) c = xr a (xr b c) := by unfold xr; simp [Nat.xor_assoc]
theorem xr_bd {a b : Int} (ha : 0 ≤ a ∧ a ≤ 255) (hb : 0 ≤ b ∧ b ≤ 255) : 0 ≤ xr a b ∧ xr a b ≤ 255 := by
  have : a.toNat ^^^ b.toNat < 2 ^ 8 := Nat.xor_lt_two_pow (by omega) (by omega)
  unfold xr
  omega
def xorL (a b : List Int) : List Int := (List.range (max a.length b.length)).map fun i => xr (byt a i) (byt b i)
theorem xorL_len (a b : List Int) : (xorL a b).length = max a.length b.length := by simp [xorL]
theorem byt_xorL {a b : List Int} {i : Nat} (h : i < max a.length b.length) : byt (xorL a b) i = xr (byt a i) (byt b i) := by
  simp [byt, xorL, List.getD, List.getElem?_map, List.getElem?_range h]
theorem xorL_small {a b : List Int} (ha : AllB a) (hb : AllB b) : AllB (xorL a b) :=
  allB_byt fun i hi => by rw [xorL_len] at hi; rw [byt_xorL hi]; exact xr_bd (byt_bd ha i) (byt_bd hb i)
theorem u8_xr {a b : Int} (ha : 0 ≤ a ∧ a ≤ 255) (hb : 0 ≤ b ∧ b ≤ 255) : bits .xor .u8 a b = xr a b := u8_xor a b ha.1 (by omega) hb.1 (by omega)

set_option maxHeartbeats 800000 in
theorem xor_any (a b : Option Addr) (la ca lb cb : Nat) (x y : List Int) (w : World) (hx : Bys w a la x) (hy : Bys w b lb y) (hla : la ≤ 1000000000000) (hlb : lb ≤ 1000000000000) :
    Calls Try.prog 30 #[.slice a la ca, .slice b lb cb] w fun e w' => e = .returned (.slice (some ⟨w.heap.size, 0, none⟩) (max la lb) (max la lb)) ∧ Blk w' w.heap.size (xorL x y) ∧ Below w.heap.size w w' := by
  obtain ⟨n, hn⟩ : ∃ n, n = max la lb := ⟨_, rfl⟩
  have H : Hid (n = max la lb) := hn
  have hA : la ≤ n := by omega
  have hB : lb ≤ n := by omega
  have hN : n ≤ 1000000000000 := by omega
  have hmx : (if la < lb then (lb : Int) else (la : Int)) = (n : Int) := by split <;> omega
  rw [← hn]
  clear hn
  have HX : Hid (x.length = la) := hx.len
  have HY : Hid (y.length = lb) := hy.len
  go_enter Try.func30, Try.ntmps30
  go_wp2_with (first
    | (at_make; go_must (refine wpList_mk rfl _ _ rfl _ _ _ _ n rfl rfl rfl rfl (by omega) ?_); intro w1 hb1 hl1)
    | (with_reducible refine wpList_cp rfl (.tmp 14) (.tmp 15) rfl w.heap.size n n la ca a rfl rfl _ x hb1 (hx.below (Nat.le_refl _) hl1) (by simp) hA w.heap.size w hl1 (Nat.le_refl _) ?_; intro w2 hb2 hl2))
  have hmix0 : Mix (x ++ (List.replicate n 0).drop la) x (xorL x y) 0 := by
    refine ⟨?_, fun j h => by omega, fun j _ => ?_⟩
    · rw [xorL_len, HX.out, HY.out, ← H.out]; simp [HX.out]; omega
    · rw [List.drop_replicate, byt_pad]
  go_loopw [19] (fun i wr => ∃ (k : Nat) (zs : List Int), k ≤ lb ∧ i = .int .i64 k ∧ Blk wr w.heap.size zs ∧ Mix zs x (xorL x y) k ∧ Below w.heap.size w wr)
    (fun i _ => lb - (intOf i).toNat)
  case atStart => exact ⟨0, _, Nat.zero_le _, rfl, hb2, hmix0, hl2⟩
  case round =>
    obtain ⟨k, zs, hk, rfl, hb, hmix, hl⟩ := hrel
    clear hb1 hl1 hb2 hl2 hmix0 hmx
    have HT : Hid ((xorL x y).length = n) := by show _ = _; rw [xorL_len, HX.out, HY.out, H.out]
    by_cases hlt : k < lb
    · rcases hy.place with h0 | ⟨bb, ob, rfl, hbb, hcb⟩
      · omega
      have g1 : wr.cell? ⟨bb, ob + k, none⟩ = some (.int .u8 (byt y k)) := (hl.cell (p := ⟨bb, ob + k, none⟩) hbb).trans (hcb k hlt)
      have hf := hb.free k
      have hc : wr.cell? ⟨w.heap.size, k, none⟩ = some (.int .u8 (byt zs k)) := hb.cell (by rw [hmix.len, HT.out]; omega)
      have hkn : k < n := by omega
      have hkn' : (k : Int) < n := by omega
      have hv : Hid (bits .xor .u8 (byt zs k) (byt y k) = byt (xorL x y) k) := by
        show _ = _
        rw [hmix.old k (Nat.le_refl _), byt_xorL (by rw [HX.out, HY.out, ← H.out]; exact hkn)]
        exact u8_xr (byt_bd hx.small k) (byt_bd hy.small k)
      clear hcb hx hy
      go_wp2
      go_roundw
      case rel => exact ⟨k + 1, _, by omega, by go_num, hb.set k _, hmix.set (by rw [HT.out]; exact hkn) hv.out, hl.setCell (Nat.le_refl _) _⟩
      case measure => simp [intOf]; omega
    · obtain rfl : k = lb := by omega
      have hz : Hid (zs = xorL x y) := hmix.done (fun j h h' => by
        have hj : j < max x.length y.length := by rw [xorL_len] at h'; exact h'
        rw [byt_xorL hj, byt_past (zs := y) (by rw [HY.out]; exact h), xr_zero (byt_bd hx.small j).1])
      clear hx hy
      go_wp2
      go_ret
      exact ⟨rfl, by rw [← hz.out]; exact hb, hl⟩

theorem xor_n {n : Nat} (a b : Option Addr) (la ca lb cb : Nat) (x y : List Int) (w : World) (hx : Bys w a la x) (hy : Bys w b lb y) (hla : la ≤ 1000000000000) (hlb : lb ≤ 1000000000000) (hn : n = max la lb) :
    Calls Try.prog 30 #[.slice a la ca, .slice b lb cb] w fun e w' => e = .returned (.slice (some ⟨w.heap.size, 0, none⟩) n n) ∧ Bys w' (some ⟨w.heap.size, 0, none⟩) n (xorL x y) ∧ Below w.heap.size w w' := by
  subst hn
  exact (xor_any a b la ca lb cb x y w hx hy hla hlb).mono fun e w' ⟨he, hb, hl⟩ => ⟨he, hb.bysn (xorL_small hx.small hy.small) (by rw [xorL_len, hx.len, hy.len]), hl⟩

end Go.Proofs.Ytegllnjncpaipaa
