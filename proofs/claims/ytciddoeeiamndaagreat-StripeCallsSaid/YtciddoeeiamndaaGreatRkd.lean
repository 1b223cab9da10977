/-
  The program's rack and the reference's, held against each other: what each call keeps alike.
-/
import Derived.Test.YtciddoeeiamndaaGreatRkb
import Derived.Test.YtciddoeeiamndaaGreatRkc
import Derived.Test.YtciddoeeiamndaaGreatSt
import Derived.Test.YtciddoeeiamndaaGreatOpm
namespace Go.Proofs.YtciddoeeiamndaaGreat
open Go.RowKit Go.Maps

theorem idx_div {S i s : Nat} (h : s < S) : (i * S + s) / S = i := by
  rw [Nat.add_comm, Nat.add_mul_div_right _ _ (by omega), Nat.div_eq_of_lt h]; omega
theorem idx_inj {S i j s t : Nat} (hs : s < S) (ht : t < S) (h : j * S + t = i * S + s) : j = i ∧ t = s := by
  have a := idx_div (i := i) hs
  have b := idx_div (i := j) ht
  rw [h, a] at b
  subst b
  exact ⟨rfl, by omega⟩
theorem idx_in {S i j t : Nat} (ht : t < S) : (i * S ≤ j * S + t ∧ j * S + t < i * S + S) ↔ j = i := by
  constructor
  · rintro ⟨h1, h2⟩
    have := idx_inj (S := S) (i := i) (j := j) (s := j * S + t - i * S) (t := t) (by omega) ht (by omega)
    exact this.1
  · rintro rfl; omega
theorem idx_lt {S n i s : Nat} (hi : i < n) (hs : s < S) : i * S + s < n * S := by
  have : (i + 1) * S ≤ n * S := Nat.mul_le_mul_right _ hi
  rw [Nat.add_mul, Nat.one_mul] at this
  omega

structure Rel (R : Rk) (F : Rf) : Prop where
  n : R.n = F.n
  S : R.S = F.S
  off : R.off = F.dead
  pw : F.pw = max R.cnt (-1)
  bad : ∀ i, i < R.n → (R.d i).bad = F.bad i
  cnt : ∀ i, i < R.n → F.bad i = false → F.cnt i = max (R.d i).cnt (-1)
  last : ∀ i s, i < R.n → s < R.S → sec (R.d i).last s = F.L (i * R.S + s)
  cache : ∀ i s, i < R.n → s < R.S → (R.d i).cache s = F.C (i * R.S + s)

section
variable {R : Rk} {F : Rf}
theorem Rel.read (h : Rel R F) {i s : Nat} (hi : i < R.n) (hs : s < R.S) : (R.d i).read s = F.rd (i * R.S + s) := by
  unfold Dk.read Rf.rd
  rw [h.cache i s hi hs, h.last i s hi hs]
theorem Rel.pw0 (h : Rel R F) : F.pw = 0 ↔ R.cnt = 0 := by rw [h.pw]; omega
theorem Rel.call (h : Rel R F) : Rel R.call F.call := by
  by_cases h0 : R.cnt = 0
  · have e1 : R.call = { R with off := true } := by unfold Rk.call; rw [if_pos h0]
    have e2 : F.call = { F with dead := true } := by unfold Rf.call; rw [if_pos (h.pw0.2 h0)]
    rw [e1, e2]
    exact ⟨h.n, h.S, rfl, h.pw, h.bad, h.cnt, h.last, h.cache⟩
  · have e1 : R.call = { R with cnt := if 0 < R.cnt then R.cnt - 1 else R.cnt, d := fun j => (R.d j).called } := by unfold Rk.call; rw [if_neg h0]
    have e2 : F.call = { F with pw := if 0 < F.pw then F.pw - 1 else F.pw, bad := badN F, cnt := cntN F } := by unfold Rf.call; rw [if_neg (fun x => h0 (h.pw0.1 x))]
    rw [e1, e2]
    refine ⟨h.n, h.S, h.off, ?_, fun i hi => ?_, fun i hi hb => ?_, h.last, h.cache⟩
    · have := h.pw
      show (if 0 < F.pw then F.pw - 1 else F.pw) = max (if 0 < R.cnt then R.cnt - 1 else R.cnt) (-1)
      split <;> split <;> omega
    · show ((R.d i).bad || (R.d i).cnt == 0) = (F.bad i || F.cnt i == 0)
      rw [h.bad i hi]
      cases hb : F.bad i with
      | true => rfl
      | false =>
        have := h.cnt i hi hb
        rw [Bool.false_or, Bool.false_or, Bool.eq_iff_iff]
        simp only [beq_iff_eq]
        omega
    · have hb' : (F.bad i || F.cnt i == 0) = false := hb
      rw [Bool.or_eq_false_iff] at hb'
      have := h.cnt i hi hb'.1
      have hz : F.cnt i ≠ 0 := by simpa using hb'.2
      show (if F.bad i then F.cnt i else if 0 < F.cnt i then F.cnt i - 1 else F.cnt i) = max (if 0 < (R.d i).cnt then (R.d i).cnt - 1 else (R.d i).cnt) (-1)
      rw [hb'.1]
      rw [if_neg (by simp)]
      split <;> split <;> omega
theorem Rel.callE (h : Rel R F) {i : Nat} (hi : i < R.n) : R.callE i = F.callB i := by
  unfold Rk.callE Rf.callB
  by_cases h0 : R.cnt = 0
  · rw [if_pos h0, if_pos (h.pw0.2 h0)]
  · rw [if_neg h0, if_neg (fun x => h0 (h.pw0.1 x))]
    have e1 : R.call = { R with cnt := if 0 < R.cnt then R.cnt - 1 else R.cnt, d := fun j => (R.d j).called } := by unfold Rk.call; rw [if_neg h0]
    have hc := h.call.bad i (by rw [Rk.call_n]; exact hi)
    rw [e1] at hc
    rw [show (R.d i).called.bad = F.call.bad i from hc]
theorem Rel.setD (h : Rel R F) {i : Nat} {d : Dk} {F' : Rf} (hn : F'.n = F.n) (hS : F'.S = F.S) (hd : F'.dead = F.dead) (hp : F'.pw = F.pw)
    (hb : ∀ j, j < R.n → (if j = i then d else R.d j).bad = F'.bad j) (hc : ∀ j, j < R.n → F'.bad j = false → F'.cnt j = max (if j = i then d else R.d j).cnt (-1))
    (hl : ∀ j s, j < R.n → s < R.S → sec (if j = i then d else R.d j).last s = F'.L (j * R.S + s)) (hC : ∀ j s, j < R.n → s < R.S → (if j = i then d else R.d j).cache s = F'.C (j * R.S + s)) : Rel (R.setD i d) F' :=
  ⟨h.n.trans hn.symm, h.S.trans hS.symm, h.off.trans hd.symm, hp.trans h.pw, hb, hc, hl, hC⟩
theorem Rel.put (h : Rel R F) {i s : Nat} (hi : i < R.n) (hs : s < R.S) (zs : List Int) : Rel (R.setD i ((R.d i).put s zs)) { F with C := atI F.C (i * F.S + s) (some zs) } := by
  refine h.setD rfl rfl rfl rfl (fun j hj => ?_) (fun j hj hb => ?_) (fun j t hj ht => ?_) (fun j t hj ht => ?_)
  · by_cases e : j = i
    · subst e; rw [if_pos rfl]; exact h.bad j hj
    · rw [if_neg e]; exact h.bad j hj
  · by_cases e : j = i
    · subst e; rw [if_pos rfl]; exact h.cnt j hj hb
    · rw [if_neg e]; exact h.cnt j hj hb
  · by_cases e : j = i
    · subst e; rw [if_pos rfl]; exact h.last j t hj ht
    · rw [if_neg e]; exact h.last j t hj ht
  · show _ = (if j * R.S + t = i * F.S + s then some zs else F.C (j * R.S + t))
    rw [← h.S]
    by_cases e : j = i
    · subst e
      rw [if_pos rfl]
      show (if t = s then some zs else (R.d j).cache t) = _
      by_cases e2 : t = s
      · subst e2; rw [if_pos rfl, if_pos rfl]
      · rw [if_neg e2, if_neg (by omega), h.cache j t hj ht]
    · rw [if_neg e, if_neg (fun x => e (idx_inj hs ht x).1), h.cache j t hj ht]
theorem Rel.flush (h : Rel R F) {i : Nat} (hi : i < R.n) (hlen : ∀ s, s < R.S → ((R.d i).read s).length = 64) : Rel (R.setD i ((R.d i).flush R.S)) (F.flushed (i * F.S) ((i + 1) * F.S)) := by
  have hin : ∀ j t, t < R.S → ((i * F.S ≤ j * R.S + t ∧ j * R.S + t < (i + 1) * F.S) ↔ j = i) := fun j t ht => by
    rw [← h.S, Nat.add_mul, Nat.one_mul]; exact idx_in ht
  refine h.setD rfl rfl rfl rfl (fun j hj => ?_) (fun j hj hb => ?_) (fun j t hj ht => ?_) (fun j t hj ht => ?_)
  · by_cases e : j = i
    · subst e; rw [if_pos rfl]; exact h.bad j hj
    · rw [if_neg e]; exact h.bad j hj
  · by_cases e : j = i
    · subst e; rw [if_pos rfl]; exact h.cnt j hj hb
    · rw [if_neg e]; exact h.cnt j hj hb
  · show _ = (if i * F.S ≤ j * R.S + t ∧ j * R.S + t < (i + 1) * F.S then F.rd (j * R.S + t) else F.L (j * R.S + t))
    by_cases e : j = i
    · rw [if_pos e, if_pos ((hin j t ht).2 e)]
      subst e
      show sec (joinS R.S (R.d j).read) t = _
      rw [sec_join hlen ht, h.read hj ht]
    · rw [if_neg e, if_neg (fun x => e ((hin j t ht).1 x)), h.last j t hj ht]
  · show _ = (if i * F.S ≤ j * R.S + t ∧ j * R.S + t < (i + 1) * F.S then none else F.C (j * R.S + t))
    by_cases e : j = i
    · rw [if_pos e, if_pos ((hin j t ht).2 e)]
      rfl
    · rw [if_neg e, if_neg (fun x => e ((hin j t ht).1 x)), h.cache j t hj ht]
theorem Rel.doom (h : Rel R F) {i : Nat} (hi : i < R.n) (n : Int) : Rel (R.setD i { R.d i with cnt := n }) { F with cnt := atI F.cnt i (max n (-1)) } := by
  refine h.setD rfl rfl rfl rfl (fun j hj => ?_) (fun j hj hb => ?_) (fun j t hj ht => ?_) (fun j t hj ht => ?_)
  · by_cases e : j = i
    · subst e; rw [if_pos rfl]; exact h.bad j hj
    · rw [if_neg e]; exact h.bad j hj
  · show (if j = i then max n (-1) else F.cnt j) = _
    by_cases e : j = i
    · rw [if_pos e, if_pos e]
    · rw [if_neg e, if_neg e]; exact h.cnt j hj hb
  · by_cases e : j = i
    · subst e; rw [if_pos rfl]; exact h.last j t hj ht
    · rw [if_neg e]; exact h.last j t hj ht
  · by_cases e : j = i
    · subst e; rw [if_pos rfl]; exact h.cache j t hj ht
    · rw [if_neg e]; exact h.cache j t hj ht

theorem Rel.rank_in (h : Rel R F) {i : Nat} (hi : i < R.n) : ∀ s, s ≤ R.S → rank F.C (i * R.S + s) = rank F.C (i * R.S) + rank (R.d i).cache s
  | 0, _ => by simp [rank, cN]
  | s + 1, hs => by
    rw [← Nat.add_assoc, rank_succ, rank_succ, h.rank_in hi s (by omega), ← h.cache i s hi (by omega)]
    omega
theorem Rel.rank_num (h : Rel R F) : ∀ i, i ≤ R.n → rank F.C (i * R.S) = R.num i
  | 0, _ => by simp [rank, cN, Rk.num]
  | i + 1, hi => by
    rw [Nat.add_mul, Nat.one_mul, h.rank_in (show i < R.n by omega) R.S (Nat.le_refl _), h.rank_num i (by omega)]
    rfl
theorem Rel.stays (h : Rel R F) {i s : Nat} (hi : i < R.n) (hs : s < R.S) (ks : List Int) : (R.d i).stays ks (R.num i) s = F.stays ks (i * R.S + s) := by
  unfold Dk.stays Rf.stays
  rw [h.rank_in hi s (by omega), h.rank_num i (by omega), h.cache i s hi hs, ← h.S, idx_div hs, h.bad i hi]
  cases (F.C (i * R.S + s)).isSome <;> cases F.bad i <;> simp
theorem Rel.restore (h : Rel R F) (ks : List Int) (hlen : ∀ i s, i < R.n → s < R.S → ((R.d i).rest ks (R.num i) s).length = 64) : Rel (R.restore ks) (F.restTo ks (F.n * F.S)) := by
  refine ⟨h.n, h.S, rfl, rfl, h.bad, h.cnt, fun i s hi hs => ?_, fun i s hi hs => ?_⟩
  · show sec (joinS R.S ((R.d i).rest ks (R.num i))) s = (if i * R.S + s < F.n * F.S ∧ F.stays ks (i * R.S + s) = true then F.rd (i * R.S + s) else F.L (i * R.S + s))
    have hi' : i < R.n := hi
    have hs' : s < R.S := hs
    rw [sec_join (fun t ht => hlen i t hi' ht) hs', ← h.n, ← h.S]
    unfold Dk.rest
    rw [h.stays hi' hs', h.read hi' hs', h.last i s hi' hs']
    by_cases e : F.stays ks (i * R.S + s) = true
    · rw [if_pos e, if_pos ⟨idx_lt hi' hs', e⟩]
    · rw [if_neg e, if_neg (fun x => e x.2)]
  · show none = (if i * R.S + s < F.n * F.S then none else F.C (i * R.S + s))
    rw [← h.n, ← h.S, if_pos (idx_lt (show i < R.n from hi) (show s < R.S from hs))]
end

end Go.Proofs.YtciddoeeiamndaaGreat

/-
  Every call keeps the racks alike, and they answer alike.
-/
namespace Go.Proofs.YtciddoeeiamndaaGreat
open Go.RowKit Go.Maps

theorem rf_call_S (F : Rf) : F.call.S = F.S := by unfold Rf.call; split <;> rfl
theorem rf_call_n (F : Rf) : F.call.n = F.n := by unfold Rf.call; split <;> rfl
theorem rk_wr_yes {R : Rk} {i s : Int} {zs : List Int} (h : (!R.off && (hasB R.n R.S i s && decide (zs.length = 64))) = true) : R.wr i s zs = if R.callE i.toNat = 0 then R.call.setD i.toNat ((R.call.d i.toNat).put s.toNat zs) else R.call := by
  unfold Rk.wr; rw [if_pos h]
theorem rf_wr_yes {F : Rf} {i s : Int} {zs : List Int} (h : (!F.dead && (hasB F.n F.S i s && decide (zs.length = 64))) = true) : F.wr i s zs = if F.callB i.toNat = 0 then { F.call with C := atI F.call.C (i.toNat * F.S + s.toNat) (some zs) } else F.call := by
  unfold Rf.wr; rw [if_pos h]
section
variable {R : Rk} {F : Rf}
theorem Rel.wr (h : Rel R F) (i s : Int) (zs : List Int) : Rel (R.wr i s zs) (F.wr i s zs) := by
  by_cases g : (!R.off && (hasB R.n R.S i s && decide (zs.length = 64))) = true
  · have g' : (!F.dead && (hasB F.n F.S i s && decide (zs.length = 64))) = true := by rw [← h.off, ← h.n, ← h.S]; exact g
    have hb : hasB R.n R.S i s = true := by
      rw [Bool.and_eq_true, Bool.and_eq_true] at g
      exact g.2.1
    obtain ⟨x, y, rfl, rfl, hx, hy⟩ := hasB_nat hb
    rw [rk_wr_yes g, rf_wr_yes g', Int.toNat_natCast, Int.toNat_natCast, h.callE hx]
    by_cases e : F.callB x = 0
    · rw [if_pos e, if_pos e, ← rf_call_S F]
      have hc := h.call
      exact hc.put (by rw [Rk.call_n]; exact hx) (by rw [Rk.call_S]; exact hy) zs
    · rw [if_neg e, if_neg e]
      exact h.call
  · have g' : ¬ (!F.dead && (hasB F.n F.S i s && decide (zs.length = 64))) = true := by rw [← h.off, ← h.n, ← h.S]; exact g
    unfold Rk.wr Rf.wr
    rw [if_neg g, if_neg g']
    exact h
theorem Rel.wrE (h : Rel R F) (i s : Int) (zs : List Int) : R.wrE i s zs = F.wrE i s zs := by
  unfold Rk.wrE Rf.wrE
  rw [← h.off, ← h.n, ← h.S]
  by_cases ho : R.off = true
  · rw [if_pos ho, if_pos ho]
  · rw [if_neg ho, if_neg ho]
    by_cases g : (hasB R.n R.S i s && decide (zs.length = 64)) = true
    · rw [if_pos g, if_pos g]
      rw [Bool.and_eq_true] at g
      obtain ⟨x, y, rfl, rfl, hx, hy⟩ := hasB_nat g.1
      exact h.callE hx
    · rw [if_neg g, if_neg g]
theorem Rel.flE (h : Rel R F) (i : Int) : R.flE i = F.flE i := by
  unfold Rk.flE Rf.flE
  rw [← h.off, ← h.n]
  by_cases ho : R.off = true
  · rw [if_pos ho, if_pos ho]
  · rw [if_neg ho, if_neg ho]
    by_cases g : 0 ≤ i ∧ i < R.n
    · rw [if_pos g, if_pos g]
      obtain ⟨x, rfl, hx⟩ := disk_nat g
      exact h.callE hx
    · rw [if_neg g, if_neg g]
theorem called_read {R : Rk} {i : Nat} {s : Nat} : (R.call.d i).read s = (R.d i).read s := by
  unfold Rk.call
  split <;> rfl
theorem Rel.fl (h : Rel R F) (i : Int) (hlen : ∀ j s, j < R.n → s < R.S → ((R.d j).read s).length = 64) : Rel (R.fl i) (F.fl i) := by
  unfold Rk.fl Rf.fl
  rw [← h.off, ← h.n]
  by_cases g : R.off = false ∧ (0 ≤ i ∧ i < R.n)
  · rw [if_pos g, if_pos g]
    obtain ⟨x, rfl, hx⟩ := disk_nat g.2
    rw [Int.toNat_natCast, h.callE hx]
    by_cases e : F.callB x = 0
    · rw [if_pos e, if_pos e]
      have := h.call.flush (i := x) (by rw [Rk.call_n]; exact hx) (fun s hs => by rw [called_read]; exact hlen x s hx (by rwa [Rk.call_S] at hs))
      rwa [rf_call_S, Rk.call_S] at this
    · rw [if_neg e, if_neg e]
      exact h.call
  · rw [if_neg g, if_neg g]
    exact h
theorem Rel.dkE (h : Rel R F) (i : Int) : R.dkE i = F.dkE i := by unfold Rk.dkE Rf.dkE; rw [h.n]
theorem Rel.dm (h : Rel R F) (i n : Int) : Rel (R.doom i n) (F.doom i n) := by
  by_cases g : 0 ≤ i ∧ i < R.n
  · have g' : 0 ≤ i ∧ i < F.n := by rw [← h.n]; exact g
    unfold Rk.doom Rf.doom
    rw [if_pos g, if_pos g']
    obtain ⟨x, rfl, hx⟩ := disk_nat g
    exact h.doom hx n
  · have g' : ¬ (0 ≤ i ∧ i < F.n) := by rw [← h.n]; exact g
    unfold Rk.doom Rf.doom
    rw [if_neg g, if_neg g']
    exact h
theorem Rel.arm (h : Rel R F) (n : Int) : Rel { R with cnt := n } { F with pw := max n (-1) } := ⟨h.n, h.S, h.off, rfl, h.bad, h.cnt, h.last, h.cache⟩
theorem Rel.failed (h : Rel R F) (i : Int) : R.failed i = F.failed i := by
  unfold Rk.failed Rf.failed
  rw [← h.n]
  by_cases g : 0 ≤ i ∧ i < R.n
  · obtain ⟨x, rfl, hx⟩ := disk_nat g
    rw [Int.toNat_natCast, h.bad x hx]
  · rw [decide_eq_false g]; rfl
theorem Rel.rdE (h : Rel R F) (i s : Int) : R.rdE i s = F.rdE i s := by
  unfold Rk.rdE Rf.rdE
  rw [← h.off, ← h.n, ← h.S]
  by_cases ho : R.off = true
  · rw [if_pos ho, if_pos ho]
  · rw [if_neg ho, if_neg ho]
    by_cases g : hasB R.n R.S i s = true
    · rw [if_pos g, if_pos g]
      obtain ⟨x, y, rfl, rfl, hx, hy⟩ := hasB_nat g
      rw [Int.toNat_natCast, h.bad x hx]
    · rw [if_neg g, if_neg g]
theorem Rel.rdV (h : Rel R F) (i s : Int) : R.rdV i s = F.rdV i s := by
  unfold Rk.rdV Rf.rdV
  rw [← h.rdE]
  by_cases e : R.rdE i s = 0
  · rw [if_pos e, if_pos e]
    have g : hasB R.n R.S i s = true := by
      unfold Rk.rdE at e
      by_cases ho : R.off = true
      · rw [if_pos ho] at e; omega
      · rw [if_neg ho] at e
        by_cases g : hasB R.n R.S i s = true
        · exact g
        · rw [if_neg g] at e; omega
    obtain ⟨x, y, rfl, rfl, hx, hy⟩ := hasB_nat g
    rw [Int.toNat_natCast, Int.toNat_natCast, h.read hx hy, h.S]
  · rw [if_neg e, if_neg e]
end
theorem Rel.new (n S : Nat) : Rel (newRk n S) (newRf n S) := by
  refine ⟨rfl, rfl, rfl, rfl, fun _ _ => rfl, fun _ _ _ => rfl, fun i s hi hs => ?_, fun _ _ _ _ => rfl⟩
  show sec (List.replicate (S * 64) 0) s = List.replicate 64 0
  have hs' : s < S := hs
  unfold sec
  rw [List.drop_replicate, List.take_replicate, Nat.min_eq_left]
  have : (s + 1) * 64 ≤ S * 64 := Nat.mul_le_mul_right _ hs'
  omega

end Go.Proofs.YtciddoeeiamndaaGreat

/-
  The bank and the reference's bank answer alike, and keep their racks alike.
-/
namespace Go.Proofs.YtciddoeeiamndaaGreat
open Go.RowKit Go.Maps
set_option linter.unusedVariables false

/-- Each sector reads 64 bytes. -/
def Lens (R : Rk) : Prop := ∀ j s, j < R.n → s < R.S → ((R.d j).read s).length = 64
theorem Rk.fl_S (R : Rk) (i : Int) : (R.fl i).S = R.S := by
  unfold Rk.fl
  split
  · split
    · exact R.call_S
    · exact R.call_S
  · rfl
theorem Lens.fl {R : Rk} (h : Lens R) (i : Int) : Lens (R.fl i) := by
  intro j s hj hs
  rw [Rk.fl_n] at hj
  rw [Rk.fl_S] at hs
  unfold Rk.fl
  split
  · split
    · show ((if j = i.toNat then (R.call.d i.toNat).flush R.S else R.call.d j).read s).length = 64
      by_cases e : j = i.toNat
      · rw [if_pos e]
        subst e
        have h1 : ∀ t, t < R.S → ((R.call.d i.toNat).read t).length = 64 := fun t ht => by rw [called_read]; exact h _ _ hj ht
        show ((none : Option (List Int)).getD (sec (joinS R.S (R.call.d i.toNat).read) s)).length = 64
        rw [Option.getD_none, sec_join h1 hs]
        exact h1 s hs
      · rw [if_neg e, called_read]
        exact h j s hj hs
    · rw [called_read]; exact h j s hj hs
  · exact h j s hj hs
theorem RackAt.lens {w : World} {M : Nat → Prop} {L : Lay} {R : Rk} (h : RackAt w M L R) : Lens R := fun j s hj hs => (Dk.read_len (h.drv j hj) hs).1

section
variable {R : Rk} {F : Rf}
theorem Rel.brV (h : Rel R F) (B : Bn) (i k : Int) : brV B R i k = rcV B F i k := by unfold Go.Proofs.YtciddoeeiamndaaGreat.brV rcV; rw [h.rdV]
theorem Rel.brE (h : Rel R F) (B : Bn) (i k : Int) : brE B R i k = rcE B F i k := by unfold Go.Proofs.YtciddoeeiamndaaGreat.brE rcE; rw [h.rdE]
theorem Rel.bwE (h : Rel R F) (B : Bn) (i k : Int) (zs : List Int) : bwE B R i k zs = rwE B F i k zs := by unfold Go.Proofs.YtciddoeeiamndaaGreat.bwE rwE; rw [h.wrE]
theorem Rel.bw (h : Rel R F) (B : Bn) (i k : Int) (zs : List Int) : Rel (bw B R i k zs) (rw' B F i k zs) := by
  unfold Go.Proofs.YtciddoeeiamndaaGreat.bw rw'
  split
  · exact h.wr _ _ _
  · exact h
theorem Rel.badL (h : Rel R F) (B : Bn) : ∀ n, badL B R n = rbadL B F n
  | 0 => rfl
  | n + 1 => by
    have e : badP B R (n : Int) = rbadP B F (n : Int) := by unfold badP rbadP; rw [h.failed]
    show (if _ then _ else _) = (if _ then _ else _)
    rw [e, h.badL B n]
end

/-- The bank and the reference's bank beside each other. -/
structure Two (w0 : World) (M : Nat → Prop) (L : Lay) (K : RLay) (b y : Nat) (R : Rk) (F : Rf) (B : Bn) (w : World) : Prop where
  st : St w0 M L b R B w
  rf : RefAt w M K F
  rb : RbAt w y K.p B
  my : M y
  ny : ¬ L.M R.n y
  kb : ¬ K.M b
  ky : ¬ K.M y
  ne : ∀ k, L.M R.n k → ¬ K.M k
  by' : b ≠ y
  rel : Rel R F
section
variable {w0 w w' : World} {M : Nat → Prop} {L : Lay} {K : RLay} {b y n : Nat} {R : Rk} {F : Rf} {B : Bn}
theorem Two.next (h : Two w0 M L K b y R F B w) (hb : Below w.heap.size w w') : Two w0 M L K b y R F B w' :=
  ⟨h.st.next hb, h.rf.below hb, h.rb.next hb, h.my, h.ny, h.kb, h.ky, h.ne, h.by', h.rel⟩
theorem Two.drewN (h : Two w0 M L K b y R F B w) (q : Nat) : Two w0 M L K b y R F B (w.drewN q) := h.next (below_drewN (Below.refl _ _) q)
theorem Two.drew (h : Two w0 M L K b y R F B w) : Two w0 M L K b y R F B w.drew := h.next (below_drewN (Below.refl _ _) 1)

/-- The program's bank has been called, the reference's not yet. -/
structure Mid (w0 : World) (M : Nat → Prop) (L : Lay) (K : RLay) (b y : Nat) (R : Rk) (F : Rf) (B C : Bn) (w : World) : Prop where
  st : St w0 M L b R B w
  rf : RefAt w M K F
  rb : RbAt w y K.p C
  my : M y
  ny : ¬ L.M R.n y
  kb : ¬ K.M b
  ky : ¬ K.M y
  ne : ∀ k, L.M R.n k → ¬ K.M k
  by' : b ≠ y
theorem Mid.next {C : Bn} (h : Mid w0 M L K b y R F B C w) (hb : Below w.heap.size w w') : Mid w0 M L K b y R F B C w' :=
  ⟨h.st.next hb, h.rf.below hb, h.rb.next hb, h.my, h.ny, h.kb, h.ky, h.ne, h.by'⟩
theorem Mid.drew {C : Bn} (h : Mid w0 M L K b y R F B C w) : Mid w0 M L K b y R F B C w.drew := h.next (below_drewN (Below.refl _ _) 1)
theorem Mid.two (h : Mid w0 M L K b y R F B B w) (hr : Rel R F) : Two w0 M L K b y R F B w := ⟨h.st, h.rf, h.rb, h.my, h.ny, h.kb, h.ky, h.ne, h.by', hr⟩
theorem Two.mid (h : Two w0 M L K b y R F B w) : Mid w0 M L K b y R F B B w := ⟨h.st, h.rf, h.rb, h.my, h.ny, h.kb, h.ky, h.ne, h.by'⟩
theorem Two.prog {R' : Rk} {v : Value} {e : Ending} (h : Two w0 M L K b y R F B w) (hn : R'.n = R.n) (hp : StPost w0 M L b R' B w v e w') : e = .returned v ∧ Mid w0 M L K b y R' F B B w' ∧ Turn (L.M R.n) w w' := by
  obtain ⟨he, hs, ht⟩ := hp
  rw [hn] at ht
  exact ⟨he, ⟨hs, h.rf.keep ht (fun k hk => h.st.rk.sub k hk) (fun k hk x => h.ne k x hk), h.rb.turn ht h.ny, h.my, by rw [hn]; exact h.ny, h.kb, h.ky, by rw [hn]; exact h.ne, h.by'⟩, ht⟩
theorem Mid.ref {F' : Rf} {v : Value} {e : Ending} (h : Mid w0 M L K b y R F B B w) (hp : RefPost M K F' w v e w') (hr : Rel R F') : e = .returned v ∧ Two w0 M L K b y R F' B w' := by
  obtain ⟨he, hs, ht⟩ := hp
  have hsub := h.rf.sub
  exact ⟨he, ⟨⟨h.st.rk.keep ht (fun k hk => hsub k hk) (fun k hk x => h.ne k hk x), h.st.bk.turn ht h.kb, h.st.mb, h.st.nb, h.st.lo, h.st.bel.trans (ht.below h.st.bel.size (fun k hk => h.st.lo k (hsub k hk)))⟩, hs, h.rb.turn ht h.ky, h.my, h.ny, h.kb, h.ky, h.ne, h.by', hr⟩⟩
end

end Go.Proofs.YtciddoeeiamndaaGreat

/-
  What the reference's New answers, laid into a variable that is made behind it: a rack, beside another one.
-/
namespace Go.Proofs.YtciddoeeiamndaaGreat
open Go.RowKit Go.Maps

theorem RefAt.of_new2 {w w' : World} {B p n S P : Nat} {v : Nat → Value} {xs : Nat → List Value} (h : NewD w B p n S (fun i => if i < 2 then n * S else n) v xs) (hb : Below w.heap.size w w') (hP : P = w.heap.size) (hBP : B ≤ P)
    (hx1 : xs 1 = List.replicate (n * S) (.slice none 0 0)) (hx2 : xs 2 = List.replicate n (.bool false)) (hx3 : xs 3 = List.replicate n (.int .i64 (-1)))
    (hrow : w'.heap[P]? = some (.cells #[.int .i64 n, .int .i64 S, v 0, v 1, v 2, v 3, .int .i64 (-1), .bool false] 35 (0, 0))) (h1 : 1 ≤ n) (h2 : n ≤ 17) (h3 : 1 ≤ S) (h4 : S ≤ 4096) (N : Nat → Prop) (hN : ∀ k, N k → k < B) :
    ∃ L : RLay, L.p = P ∧ (∀ k, L.M k → B ≤ k) ∧ RefAt w' (fun k => N k ∨ L.M k) L (newRf n S) := by
  have hkp : 0 < n * S := Nat.mul_pos h1 h3
  obtain ⟨g0, p0, e0⟩ := h.form 0 (by omega) hkp
  obtain ⟨g1, p1, e1⟩ := h.form 1 (by omega) hkp
  obtain ⟨g2, p2, e2⟩ := h.form 2 (by omega) h1
  obtain ⟨g3, p3, e3⟩ := h.form 3 (by omega) h1
  have b0 := (h.own 0 (by omega)).lt g0 (by rw [e0]; rfl)
  have b1 := (h.own 1 (by omega)).lt g1 (by rw [e1]; rfl)
  have b2 := (h.own 2 (by omega)).lt g2 (by rw [e2]; rfl)
  have b3 := (h.own 3 (by omega)).lt g3 (by rw [e3]; rfl)
  have h' := h.below hb
  have o0 := h'.own 0 (by omega)
  have o1 := h'.own 1 (by omega)
  have o2 := h'.own 2 (by omega)
  have o3 := h'.own 3 (by omega)
  have hne : ∀ i j, i < 4 → j < 4 → i ≠ j → ∀ a b, (v i).ownBlock = some a → (v j).ownBlock = some b → a ≠ b := fun i j hi hj hij a b ha hb e => h.ne i j hi hj hij a ha (by rw [hb, e])
  have w0 : (v 0).ownBlock = some g0 := by rw [e0]; rfl
  have w1 : (v 1).ownBlock = some g1 := by rw [e1]; rfl
  have w2 : (v 2).ownBlock = some g2 := by rw [e2]; rfl
  have w3 : (v 3).ownBlock = some g3 := by rw [e3]; rfl
  have hsz := hb.size
  rw [e0] at o0
  rw [e1, hx1] at o1
  rw [e2, hx2] at o2
  rw [e3, hx3] at o3
  rw [e0, e1, e2, e3] at hrow
  have hlow : ∀ k, (⟨P, g0, g1, g2, g3, p0, p1, p2, p3⟩ : RLay).M k → B ≤ k := by
    intro k hk
    rcases hk with rfl | rfl | rfl | rfl | rfl
    · exact hBP
    · exact b0.1
    · exact b1.1
    · exact b2.1
    · exact b3.1
  refine ⟨⟨P, g0, g1, g2, g3, p0, p1, p2, p3⟩, rfl, hlow, fun j => (xs 0).getD j undef, fun _ => .slice none 0 0, ⟨hrow, col_own o0, ?_, ?_, ?_, fun k hk => ?_, fun k _ => .inl ⟨rfl, rfl⟩, ⟨?_, ?_, ?_, ?_, ?_, ?_, ?_, ?_, ?_, ?_⟩, fun _ x => .inr x, fun k hk => ?_, h2, h3, h4, (by show (-1 : Int) ≤ _; omega), fun _ => (by show (-1 : Int) ≤ _; omega)⟩⟩
  · exact (col_own o1).congr fun k hk => by simp [List.getD, show k < n * S from hk]
  · exact (col_own o2).congr fun k hk => by simp [List.getD, show k < n from hk, newRf]
  · exact (col_own o3).congr fun k hk => by simp [List.getD, show k < n from hk, newRf]
  · obtain ⟨g, he, hbk, hB, hno⟩ := h.el k hk
    have hgl := hbk.lt
    refine ⟨g, 64, by simp [List.getD, he], ?_, (hbk.below hgl hb).bysn (AllB.zeros _) (by simp)⟩
    intro hM
    rcases hM with hM | rfl | rfl | rfl | rfl | rfl
    · have := hN _ hM
      omega
    · show False
      omega
    · exact hno 0 (by omega) w0
    · exact hno 1 (by omega) w1
    · exact hno 2 (by omega) w2
    · exact hno 3 (by omega) w3
  · show P ≠ g0; omega
  · show P ≠ g1; omega
  · show P ≠ g2; omega
  · show P ≠ g3; omega
  · exact hne 0 1 (by omega) (by omega) (by omega) _ _ w0 w1
  · exact hne 0 2 (by omega) (by omega) (by omega) _ _ w0 w2
  · exact hne 0 3 (by omega) (by omega) (by omega) _ _ w0 w3
  · exact hne 1 2 (by omega) (by omega) (by omega) _ _ w1 w2
  · exact hne 1 3 (by omega) (by omega) (by omega) _ _ w1 w3
  · exact hne 2 3 (by omega) (by omega) (by omega) _ _ w2 w3
  · have hPl := lt_of_block hrow
    rcases hk with hk | rfl | rfl | rfl | rfl | rfl
    · have := hN k hk; omega
    · exact hPl
    · omega
    · omega
    · omega
    · omega

theorem both_new2 {w w6 : World} {B p n S : Nat} {v : Nat → Value} {xs : Nat → List Value} {L : Lay} {R : Rk} (hr : RackAt w (L.M R.n) L R) (hb : Below w.heap.size w w6)
    (hD : NewD w6 B p n S (fun i => if i < 2 then n * S else n) v xs) (hx1 : xs 1 = List.replicate (n * S) (.slice none 0 0)) (hx2 : xs 2 = List.replicate n (.bool false)) (hx3 : xs 3 = List.replicate n (.int .i64 (-1)))
    (hB : w.heap.size ≤ B) (hBP : B ≤ w6.heap.size) (h1 : 1 ≤ n) (h2 : n ≤ 17) (h3 : 1 ≤ S) (h4 : S ≤ 4096) :
    ∃ K : RLay, K.p = w6.heap.size ∧ (∀ k, K.M k → w.heap.size ≤ k) ∧ Both (w6.alloc (.cells #[.int .i64 n, .int .i64 S, v 0, v 1, v 2, v 3, .int .i64 (-1), .bool false] 35 (0, 0))) L K R (newRf n S) := by
  have ha : Below w6.heap.size w6 (w6.alloc (.cells #[.int .i64 n, .int .i64 S, v 0, v 1, v 2, v 3, .int .i64 (-1), .bool false] 35 (0, 0))) := (Below.refl _ _).alloc (Nat.le_refl _) _
  have hb' := hb.trans (ha.mono hb.size)
  have hlow : ∀ k, L.M R.n k → k < w.heap.size := hr.low
  obtain ⟨K, e1, e2, e3⟩ := RefAt.of_new2 hD ha rfl hBP hx1 hx2 hx3 (heap_alloc_new w6 _) h1 h2 h3 h4 (fun k => L.M R.n k) (fun k hk => by have := hlow k hk; omega)
  have hK : ∀ k, K.M k → w.heap.size ≤ k := fun k hk => Nat.le_trans hB (e2 k hk)
  refine ⟨K, e1, hK, ⟨?_, e3, fun k hk hk' => ?_⟩⟩
  · refine hr.wide hb' (fun k hk => ?_) (fun k hk => .inl hk) (fun k hk => ?_)
    · rcases hk with hk | hk
      · exact .inl hk
      · exact .inr (hK k hk)
    · obtain ⟨fl, fc, hx⟩ := e3
      exact hx.low k hk
  · have := hlow k hk
    have := hK k hk'
    omega

end Go.Proofs.YtciddoeeiamndaaGreat
