/-
  Plain words for SectorRestores: the exclusive or of all but one.
-/
import Derived.Test.YtegllnjncpaipaaRefP
import Derived.Test.YtegllnjncpaipaaWBack
namespace Go.Proofs.Ytegllnjncpaipaa
open Go.RowKit

theorem i64_and1023 (n : Int) : bits .and .i64 n 1023 = n % 1024 := by
  show IntKind.i64.wrap ((BitVec.ofInt 64 n &&& BitVec.ofInt 64 1023).toNat : Int) = _
  have h2 : (BitVec.ofInt 64 n &&& BitVec.ofInt 64 1023).toNat = (BitVec.ofInt 64 n).toNat % 1024 := by
    rw [BitVec.toNat_and]
    exact Nat.and_two_pow_sub_one_eq_mod _ 10
  rw [h2, BitVec.toNat_ofInt, IntKind.wrap_i64]
  omega
theorem and_rem (l : Int) (m : Nat) (h : 0 < m) : ∃ k : Nat, k < m ∧ (bits .and .i64 l 1023).tmod m = (k : Int) := by
  rw [i64_and1023]
  obtain ⟨a, ha⟩ := Int.eq_ofNat_of_zero_le (Int.emod_nonneg l (show (1024 : Int) ≠ 0 by omega))
  rw [ha]
  exact ⟨a % m, Nat.mod_lt _ h, by rw [Int.ofNat_tmod]⟩

/-- The exclusive or of the byte at place 4 + j of the first m. -/
def xs (f : Nat → Pc) (j : Nat) : Nat → Int
  | 0 => 0
  | m + 1 => xr (xs f j m) (byt (f m).zs (4 + j))
theorem xs_bd {f : Nat → Pc} {n : Nat} (hf : ∀ i, i < n → AllB (f i).zs) (j : Nat) {m : Nat} (h : m ≤ n) : 0 ≤ xs f j m ∧ xs f j m ≤ 255 := by
  induction m with
  | zero => simp [xs]
  | succ m ih => exact xr_bd (ih (by omega)) (byt_bd (hf m h) _)
theorem byt_sumP {f : Nat → Pc} {n : Nat} (hl : ∀ i, i < n → (f i).zs.length = 64) {j : Nat} (hj : j < 60) {m : Nat} (h : m ≤ n) : byt (sumP f m) j = xs f j m := by
  induction m with
  | zero => rfl
  | succ m ih => rw [sumP, byt_xorL (by rw [List.length_drop, hl m h]; omega), ih (by omega), byt_drop, xs]
theorem xs_same {f g : Nat → Pc} {j m : Nat} (h : ∀ i, i < m → (f i).zs = (g i).zs) : xs f j m = xs g j m := by
  induction m with
  | zero => rfl
  | succ m ih => rw [xs, xs, ih fun i hi => h i (by omega), h m (by omega)]
theorem xr_swap (a b c : Int) : xr (xr a b) c = xr (xr a c) b := by rw [xr_assoc, xr_comm b c, ← xr_assoc]
/-- All but the one at place k. -/
def skip (f : Nat → Pc) (k : Nat) : Nat → Pc := fun i => if i < k then f i else f (i + 1)
theorem xs_skip {f : Nat → Pc} {j k m : Nat} (h : k ≤ m) : xr (xs (skip f k) j m) (byt (f k).zs (4 + j)) = xs f j (m + 1) := by
  induction m with
  | zero =>
    obtain rfl : k = 0 := by omega
    rfl
  | succ m ih =>
    rcases Nat.lt_or_ge m k with h1 | h1
    · obtain rfl : k = m + 1 := by omega
      rw [xs_same (f := skip f (m + 1)) (g := f) fun i hi => by rw [skip, if_pos hi]]
      rfl
    · rw [xs, xr_swap, ih h1, show skip f k m = f (m + 1) from if_neg (by omega)]
      rfl
/-- Of sectors of one writing and their parity each is told by all others. -/
theorem restored {F : Nat → Pc} {n k : Nat} (hn : 1 ≤ n) (hk : k ≤ n) (hs : ∀ i, i ≤ n → AllB (F i).zs) (hl : ∀ i, i ≤ n → (F i).zs.length = 64) (h4 : ∀ i, i ≤ n → (F i).zs.take 4 = (F 0).zs.take 4)
    (hp : (F n).zs = (F 0).zs.take 4 ++ sumP F n) : oneSeq (skip F k) n = true ∧ parL (skip F k) n = (F k).zs := by
  have hsk : ∀ i, i < n → ∃ u, u ≤ n ∧ skip F k i = F u := fun i hi => by
    by_cases h : i < k
    · exact ⟨i, by omega, if_pos h⟩
    · exact ⟨i + 1, by omega, if_neg h⟩
  have hone : oneUpto (skip F k) n = true := oneUpto_of fun i hi => by
    obtain ⟨u, hu, e⟩ := hsk i hi
    obtain ⟨v, hv, e'⟩ := hsk 0 (by omega)
    rw [e, e']
    exact ⟨hl u hu, by rw [h4 u hu, h4 v hv]⟩
  have ho : oneSeq (skip F k) n = true := by rw [oneSeq, hone]; simp; omega
  refine ⟨ho, ?_⟩
  have hlk : ∀ i, i < n → (skip F k i).zs.length = 64 := fun i hi => (oneUpto_at hi hone).1
  have hsml : ∀ i, i < n → AllB (skip F k i).zs := fun i hi => by
    obtain ⟨u, hu, e⟩ := hsk i hi
    rw [e]; exact hs u hu
  obtain ⟨m, rfl⟩ : ∃ m, n = m + 1 := ⟨n - 1, by omega⟩
  have hsl : (sumP (skip F k) (m + 1)).length = 60 := by rw [← sumR_sumP hsml (Nat.le_refl _) hone]; exact sumR_len (Nat.le_refl _) hone
  have h0 : (skip F k 0).zs.take 4 = (F k).zs.take 4 := by
    obtain ⟨v, hv, e'⟩ := hsk 0 (by omega)
    rw [e', h4 v hv, h4 k hk]
  have h4l : ((skip F k 0).zs.take 4).length = 4 := by rw [List.length_take, hlk 0 (by omega)]; rfl
  have hFl : ((F 0).zs.take 4).length = 4 := by rw [List.length_take, hl 0 (by omega)]; rfl
  rw [parL, ho, if_pos rfl]
  refine byt_ext (by rw [List.length_append, h4l, hsl, hl k hk]) fun j hj => ?_
  rw [List.length_append, h4l, hsl] at hj
  rw [byt_out h4l]
  by_cases hj4 : j < 4
  · rw [if_pos hj4, h0, byt_take hj4]
  · rw [if_neg hj4, byt_sumP hlk (by omega) (Nat.le_refl _)]
    obtain ⟨t, rfl⟩ : ∃ t, j = 4 + t := ⟨j - 4, by omega⟩
    rw [Nat.add_sub_cancel_left]
    have htot : xs F t (m + 1 + 1) = 0 := by
      rw [xs, hp, byt_out hFl, if_neg (by omega), Nat.add_sub_cancel_left, byt_sumP (f := F) (n := m + 1) (fun i hi => hl i (by omega)) (by omega) (Nat.le_refl _), xr_self]
    have h1 := xs_skip (f := F) (j := t) hk
    rw [htot] at h1
    have hb := xs_bd hsml t (Nat.le_refl (m + 1))
    have hbk := byt_bd (hs k hk) (4 + t)
    have : xs (skip F k) t (m + 1) = xr (xr (xs (skip F k) t (m + 1)) (byt (F k).zs (4 + t))) (byt (F k).zs (4 + t)) := by rw [xr_assoc, xr_self, xr_zero hb.1]
    rw [this, h1, xr_comm, xr_zero hbk.1]

end Go.Proofs.Ytegllnjncpaipaa
