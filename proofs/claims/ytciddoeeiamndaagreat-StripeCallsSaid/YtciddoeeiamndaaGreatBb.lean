/-
  The program's Xor, by contract: a new block, each byte the one or the other.
-/
import Derived.Test.YtciddoeeiamndaaGreatBase
import Derived.Test.YtciddoeeiamndaaGreatDva
import Derived.Test.YtciddoeeiamndaaGreatBa
import Derived.Test.YtciddoeeiamndaaGreatCopy
namespace Go.Proofs.YtciddoeeiamndaaGreat
open Go.RowKit

def xr (a b : Int) : Int := ((a.toNat ^^^ b.toNat : Nat) : Int)
theorem xr_zero {a : Int} (h : 0 ≤ a) : xr a 0 = a := by
  show ((a.toNat ^^^ 0 : Nat) : Int) = a
  rw [Nat.xor_zero]; omega
theorem xr_comm (a b : Int) : xr a b = xr b a := by unfold xr; rw [Nat.xor_comm]
theorem xr_self (a : Int) : xr a a = 0 := by unfold xr; rw [Nat.xor_self]; rfl
theorem xr_assoc (a b c : Int) : xr (xr a b) c = xr a (xr b c) := by unfold xr; simp [Nat.xor_assoc]
theorem xr_bd {a b : Int} (ha : 0 ≤ a ∧ a ≤ 255) (hb : 0 ≤ b ∧ b ≤ 255) : 0 ≤ xr a b ∧ xr a b ≤ 255 := by
  have : a.toNat ^^^ b.toNat < 2 ^ 8 := Nat.xor_lt_two_pow (by omega) (by omega)
  unfold xr
  omega
def xorL (a b : List Int) : List Int := (List.range (max a.length b.length)).map fun i => xr (byt a i) (byt b i)
theorem xorL_len (a b : List Int) : (xorL a b).length = max a.length b.length := by simp [xorL]
theorem byt_xorL {a b : List Int} {i : Nat} (h : i < max a.length b.length) : byt (xorL a b) i = xr (byt a i) (byt b i) := by
  simp [byt, xorL, List.getD, List.getElem?_map, List.getElem?_range h]
theorem xorL_small {a b : List Int} (ha : AllB a) (hb : AllB b) : AllB (xorL a b) :=
  allB_byt fun i hi => by rw [xorL_len] at hi; rw [byt_xorL hi]; exact xr_bd (byt_bd ha i) (byt_bd hb i)
theorem u8_xr {a b : Int} (ha : 0 ≤ a ∧ a ≤ 255) (hb : 0 ≤ b ∧ b ≤ 255) : bits .xor .u8 a b = xr a b := u8_xor a b ha.1 (by omega) hb.1 (by omega)

set_option maxHeartbeats 800000 in
theorem xor_any (a b : Option Addr) (la ca lb cb : Nat) (x y : List Int) (w : World) (hx : Bys w a la x) (hy : Bys w b lb y) (hla : la ≤ 1000000000000) (hlb : lb ≤ 1000000000000) :
    Calls Tryz.prog 131 #[.slice a la ca, .slice b lb cb] w fun e w' => e = .returned (.slice (some ⟨w.heap.size, 0, none⟩) (max la lb) (max la lb)) ∧ Blk w' w.heap.size (xorL x y) ∧ Below w.heap.size w w' := by
  obtain ⟨n, hn⟩ : ∃ n, n = max la lb := ⟨_, rfl⟩
  have H : Hid (n = max la lb) := hn
  have hA : la ≤ n := by omega
  have hB : lb ≤ n := by omega
  have hN : n ≤ 1000000000000 := by omega
  have hmx : (if la < lb then (lb : Int) else (la : Int)) = (n : Int) := by split <;> omega
  rw [← hn]
  clear hn
  have HX : Hid (x.length = la) := hx.len
  have HY : Hid (y.length = lb) := hy.len
  go_enter Tryz.func131, Tryz.ntmps131
  go_wp2_with (first
    | (at_make; go_must (refine wpList_mk rfl _ _ rfl _ _ _ _ n rfl rfl rfl rfl (by omega) ?_); intro w1 hb1 hl1)
    | (with_reducible refine wpList_cp rfl (.tmp 14) (.tmp 15) rfl w.heap.size n n la ca a rfl rfl _ x hb1 (hx.below (Nat.le_refl _) hl1) (by simp) hA w.heap.size w hl1 (Nat.le_refl _) ?_; intro w2 hb2 hl2))
  have hmix0 : Mix (x ++ (List.replicate n 0).drop la) x (xorL x y) 0 := by
    refine ⟨?_, fun j h => by omega, fun j _ => ?_⟩
    · rw [xorL_len, HX.out, HY.out, ← H.out]; simp [HX.out]; omega
    · rw [List.drop_replicate, byt_pad]
  go_loopw [19] (fun i wr => ∃ (k : Nat) (zs : List Int), k ≤ lb ∧ i = .int .i64 k ∧ Blk wr w.heap.size zs ∧ Mix zs x (xorL x y) k ∧ Below w.heap.size w wr)
    (fun i _ => lb - (RowKit.intOf i).toNat)
  case atStart => exact ⟨0, _, Nat.zero_le _, rfl, hb2, hmix0, hl2⟩
  case round =>
    obtain ⟨k, zs, hk, rfl, hb, hmix, hl⟩ := hrel
    clear hb1 hl1 hb2 hl2 hmix0 hmx
    have HT : Hid ((xorL x y).length = n) := by show _ = _; rw [xorL_len, HX.out, HY.out, H.out]
    by_cases hlt : k < lb
    · rcases hy.place with h0 | ⟨bb, ob, rfl, hbb, hcb⟩
      · omega
      have g1 : wr.cell? ⟨bb, ob + k, none⟩ = some (.int .u8 (byt y k)) := (hl.cell (p := ⟨bb, ob + k, none⟩) hbb).trans (hcb k hlt)
      have hf := hb.free k
      have hc : wr.cell? ⟨w.heap.size, k, none⟩ = some (.int .u8 (byt zs k)) := hb.cell (by rw [hmix.len, HT.out]; omega)
      have hkn : k < n := by omega
      have hkn' : (k : Int) < n := by omega
      have hv : Hid (bits .xor .u8 (byt zs k) (byt y k) = byt (xorL x y) k) := by
        show _ = _
        rw [hmix.old k (Nat.le_refl _), byt_xorL (by rw [HX.out, HY.out, ← H.out]; exact hkn)]
        exact u8_xr (byt_bd hx.small k) (byt_bd hy.small k)
      clear hcb hx hy
      go_wp2
      go_roundw
      case rel => exact ⟨k + 1, _, by omega, by go_num, hb.set k _, hmix.set (by rw [HT.out]; exact hkn) hv.out, hl.setCell (Nat.le_refl _) _⟩
      case measure => simp [RowKit.intOf]; omega
    · obtain rfl : k = lb := by omega
      have hz : Hid (zs = xorL x y) := hmix.done (fun j h h' => by
        have hj : j < max x.length y.length := by rw [xorL_len] at h'; exact h'
        rw [byt_xorL hj, byt_past (zs := y) (by rw [HY.out]; exact h), xr_zero (byt_bd hx.small j).1])
      clear hx hy
      go_wp2
      go_ret
      exact ⟨rfl, by rw [← hz.out]; exact hb, hl⟩

theorem xor_n {n : Nat} (a b : Option Addr) (la ca lb cb : Nat) (x y : List Int) (w : World) (hx : Bys w a la x) (hy : Bys w b lb y) (hla : la ≤ 1000000000000) (hlb : lb ≤ 1000000000000) (hn : n = max la lb) :
    Calls Tryz.prog 131 #[.slice a la ca, .slice b lb cb] w fun e w' => e = .returned (.slice (some ⟨w.heap.size, 0, none⟩) n n) ∧ Bys w' (some ⟨w.heap.size, 0, none⟩) n (xorL x y) ∧ Below w.heap.size w w' := by
  subst hn
  exact (xor_any a b la ca lb cb x y w hx hy hla hlb).mono fun e w' ⟨he, hb, hl⟩ => ⟨he, hb.bysn (xorL_small hx.small hy.small) (by rw [xorL_len, hx.len, hy.len]), hl⟩

end Go.Proofs.YtciddoeeiamndaaGreat

/-
  The program's and the reference's Pad, by contract: a new block of the bytes and noughts behind them.
-/
namespace Go.Proofs.YtciddoeeiamndaaGreat
open Go.RowKit

def padL (x : List Int) (n : Nat) : List Int := x ++ List.replicate (n - x.length) 0
theorem padL_len {x : List Int} {n : Nat} (h : x.length ≤ n) : (padL x n).length = n := by simp [padL]; omega
theorem padL_small {x : List Int} (hx : AllB x) (n : Nat) : AllB (padL x n) := hx.app (AllB.zeros _)

set_option maxHeartbeats 400000 in
theorem pad_yes (a : Option Addr) (la ca n : Nat) (x : List Int) (w : World) (hx : Bys w a la x) (h : la ≤ n) (hn : n ≤ 65536) :
    Calls Tryz.prog 126 #[.slice a la ca, .int .i64 n] w fun e w' => e = .returned (.tuple #[.slice (some ⟨w.heap.size, 0, none⟩) n n, .bool true]) ∧ Blk w' w.heap.size (padL x n) ∧ Below w.heap.size w w' := by
  have HX : Hid (x.length = la) := hx.len
  go_enter Tryz.func126, Tryz.ntmps126
  go_wp2_with (first
    | (at_make; go_must (refine wpList_mk rfl _ _ rfl _ _ _ _ n rfl rfl rfl rfl (by omega) ?_); intro w1 hb1 hl1)
    | (with_reducible refine wpList_cp rfl (.tmp 17) (.tmp 18) rfl w.heap.size n n la ca a rfl rfl _ x hb1 (hx.below (Nat.le_refl _) hl1) (by simp) h w.heap.size w hl1 (Nat.le_refl _) ?_; intro w2 hb2 hl2))
  go_ret2
  refine ⟨rfl, ?_, hl2⟩
  rwa [List.drop_replicate, ← HX.out] at hb2

set_option maxHeartbeats 400000 in
theorem pad_no (a : Option Addr) (la ca : Nat) (n : Int) (w : World) (h : n < la ∨ 65536 < n) :
    Calls Tryz.prog 126 #[.slice a la ca, .int .i64 n] w fun e w' => e = .returned (.tuple #[.slice none 0 0, .bool false]) ∧ w = w' := by
  by_cases h1 : n < la
  · go_enter Tryz.func126, Tryz.ntmps126
    go_wp2
    go_ret2
    exact ⟨rfl, rfl⟩
  · have h2 : 65536 < n := by omega
    clear h
    go_enter Tryz.func126, Tryz.ntmps126
    go_wp2
    go_ret2
    exact ⟨rfl, rfl⟩

end Go.Proofs.YtciddoeeiamndaaGreat

/-
  Put, Get, Xor and Pad, each by one contract for every input.
-/
namespace Go.Proofs.YtciddoeeiamndaaGreat
open Go.RowKit

/-- What Put answers. -/
def putL (k n : Int) : List Int := if isW k && hasW n k then digs k.toNat n else []
theorem putL_yes {m : Nat} {n : Int} (h1 : 1 ≤ m) (h4 : m ≤ 4) (h : hasW n m = true) : putL m n = digs m n := by
  simp [putL, isW_true (n := (m : Int)) (by omega), h]
theorem putL_no {k n : Int} (h : isW k = false ∨ hasW n k = false) : putL k n = [] := by
  rcases h with h | h <;> simp [putL, h]
theorem putL_small (k n : Int) : AllB (putL k n) := by
  unfold putL
  split
  · exact digs_small _ _
  · intro z hz; cases hz

theorem put_fun (k n : Int) (w : World) : Calls Tryz.prog 128 #[.int .i64 k, .int .i64 n] w (RetB w (putL k n)) := by
  by_cases h : isW k = false ∨ hasW n k = false
  · rw [putL_no h]
    exact (put_no k n w h).mono fun e w' ⟨he, hw⟩ => by subst he hw; exact RetB.nil _
  · have h1 : isW k = true := by cases hk : isW k <;> simp_all
    have h2 : hasW n k = true := by cases hk : hasW n k <;> simp_all
    obtain ⟨a, b⟩ : 1 ≤ k ∧ k ≤ 4 := by simpa [isW] using h1
    obtain ⟨m, rfl⟩ := Int.eq_ofNat_of_zero_le (by omega : 0 ≤ k)
    rw [putL_yes (by omega) (by omega) h2]
    refine (put_yes m n w (by omega) (by omega) h2).mono fun e w' ⟨he, hb, hl⟩ => ?_
    subst he
    have := RetB.blk (w0 := w) (c := m) hb (digs_small m n) hl
    rwa [digs_len] at this

theorem hasW_quo {m : Nat} {n : Int} (h1 : 1 ≤ m) (h4 : m ≤ 4) (h0 : 0 ≤ n) : (0 < n / 256 ^ m ↔ hasW n m = false) := by
  unfold hasW
  rcases (by omega : m = 1 ∨ m = 2 ∨ m = 3 ∨ m = 4) with rfl | rfl | rfl | rfl <;> simp <;> omega

theorem xor_fun (a b : Option Addr) (la ca lb cb : Nat) (x y : List Int) (w : World) (hx : Bys w a la x) (hy : Bys w b lb y) (hla : la ≤ 1000000000000) (hlb : lb ≤ 1000000000000) :
    Calls Tryz.prog 131 #[.slice a la ca, .slice b lb cb] w (RetB w (xorL x y)) :=
  (xor_any a b la ca lb cb x y w hx hy hla hlb).mono fun e w' ⟨he, hb, hl⟩ => by
    subst he
    have := RetB.blk (w0 := w) (c := max la lb) hb (xorL_small hx.small hy.small) hl
    rwa [xorL_len, hx.len, hy.len] at this
/-- What Get answers. -/
def getO (la : Nat) (p k : Int) : Bool := decide ((1 ≤ k ∧ k ≤ 4) ∧ 0 ≤ p ∧ p ≤ la - k)
def getV (la : Nat) (x : List Int) (p k : Int) : Int := if getO la p k then getN x p.toNat k.toNat else 0
theorem getO_yes {la m p : Nat} (h1 : 1 ≤ m) (h4 : m ≤ 4) (h : p + m ≤ la) : getO la p m = true := by
  unfold getO
  rw [decide_eq_true_eq]
  omega
theorem get_fun (a : Option Addr) (la ca : Nat) (p k : Int) (x : List Int) (w : World) (hx : Bys w a la x) (hn : la ≤ 1000000000000) :
    Calls Tryz.prog 143 #[.slice a la ca, .int .i64 p, .int .i64 k] w fun e w' => e = .returned (.tuple #[.int .i64 (getV la x p k), .bool (getO la p k)]) ∧ w = w' := by
  by_cases h : (1 ≤ k ∧ k ≤ 4) ∧ 0 ≤ p ∧ p ≤ la - k
  · have ho : getO la p k = true := by simp only [getO, decide_eq_true_eq]; exact h
    obtain ⟨m, rfl⟩ := Int.eq_ofNat_of_zero_le (by omega : 0 ≤ k)
    obtain ⟨q, rfl⟩ := Int.eq_ofNat_of_zero_le h.2.1
    rw [getV, if_pos ho, ho]
    exact get_yes a la ca q m x w hx hn (by omega) (by omega) (by omega)
  · have ho : getO la p k = false := by simp only [getO, decide_eq_false_iff_not]; exact h
    rw [getV, if_neg (by rw [ho]; decide), ho]
    exact get_no a la ca p k w hn (by omega)
/-- What Pad answers. -/
def padO (la : Nat) (n : Int) : Bool := decide ((la : Int) ≤ n ∧ n ≤ 65536)
def padF (x : List Int) (n : Int) : List Int := if padO x.length n then padL x n.toNat else []
theorem padF_small {x : List Int} (hx : AllB x) (n : Int) : AllB (padF x n) := by
  unfold padF
  split
  · exact padL_small hx _
  · intro z hz; cases hz
def RetPB (w0 : World) (zs : List Int) (ok : Bool) (e : Ending) (w' : World) : Prop := ∃ a c, e = .returned (.tuple #[.slice a zs.length c, .bool ok]) ∧ SliceOf w0 zs zs.length a c w'
theorem pad_fun (a : Option Addr) (la ca : Nat) (n : Int) (x : List Int) (w : World) (hx : Bys w a la x) :
    Calls Tryz.prog 126 #[.slice a la ca, .int .i64 n] w (RetPB w (padF x n) (padO la n)) := by
  by_cases h : (la : Int) ≤ n ∧ n ≤ 65536
  · have ho : padO la n = true := by simp only [padO, decide_eq_true_eq]; exact h
    obtain ⟨m, rfl⟩ := Int.eq_ofNat_of_zero_le (by omega : 0 ≤ n)
    have hL : padF x m = padL x m := by unfold padF; rw [hx.len, ho]; rfl
    rw [hL, ho]
    refine (pad_yes a la ca m x w hx (by omega) (by omega)).mono fun e w' ⟨he, hb, hl⟩ => ?_
    subst he
    have hlen : (padL x m).length = m := padL_len (by rw [hx.len]; omega)
    refine ⟨some ⟨w.heap.size, 0, none⟩, m, ?_, hb.all (padL_small hx.small m), (fun h => by cases h), hl⟩
    rw [hlen]
  · have ho : padO la n = false := by simp only [padO, decide_eq_false_iff_not]; exact h
    have hL : padF x n = [] := by unfold padF; rw [hx.len, ho]; rfl
    rw [hL, ho]
    exact (pad_no a la ca n w (by omega)).mono fun e w' ⟨he, hw⟩ => by subst he hw; exact ⟨none, 0, rfl, Bys.none _, (fun _ => ⟨rfl, rfl⟩), Below.refl _ _⟩

end Go.Proofs.YtciddoeeiamndaaGreat
