/-
  The program's rack and the reference's, held against each other: what each call keeps alike.
-/
import Derived.Test.YtoiidhpohghiaaaGreatRfb
namespace Go.Proofs.YtoiidhpohghiaaaGreat
open Go.RowKit Go.Maps

theorem idx_div {S i s : Nat} (h : s < S) : (i * S + s) / S = i := by
  rw [Nat.add_comm, Nat.add_mul_div_right _ _ (by omega), Nat.div_eq_of_lt h]; omega
theorem idx_inj {S i j s t : Nat} (hs : s < S) (ht : t < S) (h : j * S + t = i * S + s) : j = i ∧ t = s := by
  have a := idx_div (i := i) hs
  have b := idx_div (i := j) ht
  rw [h, a] at b
  subst b
  exact ⟨rfl, by omega⟩
theorem idx_in {S i j t : Nat} (ht : t < S) : (i * S ≤ j * S + t ∧ j * S + t < i * S + S) ↔ j = i := by
  constructor
  · rintro ⟨h1, h2⟩
    have := idx_inj (S := S) (i := i) (j := j) (s := j * S + t - i * S) (t := t) (by omega) ht (by omega)
    exact this.1
  · rintro rfl; omega
theorem idx_lt {S n i s : Nat} (hi : i < n) (hs : s < S) : i * S + s < n * S := by
  have : (i + 1) * S ≤ n * S := Nat.mul_le_mul_right _ hi
  rw [Nat.add_mul, Nat.one_mul] at this
  omega

structure Rel (R : Rk) (F : Rf) : Prop where
  n : R.n = F.n
  S : R.S = F.S
  off : R.off = F.dead
  pw : F.pw = max R.cnt (-1)
  bad : ∀ i, i < R.n → (R.d i).bad = F.bad i
  cnt : ∀ i, i < R.n → F.bad i = false → F.cnt i = max (R.d i).cnt (-1)
  last : ∀ i s, i < R.n → s < R.S → sec (R.d i).last s = F.L (i * R.S + s)
  cache : ∀ i s, i < R.n → s < R.S → (R.d i).cache s = F.C (i * R.S + s)

section
variable {R : Rk} {F : Rf}
theorem Rel.read (h : Rel R F) {i s : Nat} (hi : i < R.n) (hs : s < R.S) : (R.d i).read s = F.rd (i * R.S + s) := by
  unfold Dk.read Rf.rd
  rw [h.cache i s hi hs, h.last i s hi hs]
theorem Rel.pw0 (h : Rel R F) : F.pw = 0 ↔ R.cnt = 0 := by rw [h.pw]; omega
theorem Rel.call (h : Rel R F) : Rel R.call F.call := by
  by_cases h0 : R.cnt = 0
  · have e1 : R.call = { R with off := true } := by unfold Rk.call; rw [if_pos h0]
    have e2 : F.call = { F with dead := true } := by unfold Rf.call; rw [if_pos (h.pw0.2 h0)]
    rw [e1, e2]
    exact ⟨h.n, h.S, rfl, h.pw, h.bad, h.cnt, h.last, h.cache⟩
  · have e1 : R.call = { R with cnt := if 0 < R.cnt then R.cnt - 1 else R.cnt, d := fun j => (R.d j).called } := by unfold Rk.call; rw [if_neg h0]
    have e2 : F.call = { F with pw := if 0 < F.pw then F.pw - 1 else F.pw, bad := badN F, cnt := cntN F } := by unfold Rf.call; rw [if_neg (fun x => h0 (h.pw0.1 x))]
    rw [e1, e2]
    refine ⟨h.n, h.S, h.off, ?_, fun i hi => ?_, fun i hi hb => ?_, h.last, h.cache⟩
    · have := h.pw
      show (if 0 < F.pw then F.pw - 1 else F.pw) = max (if 0 < R.cnt then R.cnt - 1 else R.cnt) (-1)
      split <;> split <;> omega
    · show ((R.d i).bad || (R.d i).cnt == 0) = (F.bad i || F.cnt i == 0)
      rw [h.bad i hi]
      cases hb : F.bad i with
      | true => rfl
      | false =>
        have := h.cnt i hi hb
        rw [Bool.false_or, Bool.false_or, Bool.eq_iff_iff]
        simp only [beq_iff_eq]
        omega
    · have hb' : (F.bad i || F.cnt i == 0) = false := hb
      rw [Bool.or_eq_false_iff] at hb'
      have := h.cnt i hi hb'.1
      have hz : F.cnt i ≠ 0 := by simpa using hb'.2
      show (if F.bad i then F.cnt i else if 0 < F.cnt i then F.cnt i - 1 else F.cnt i) = max (if 0 < (R.d i).cnt then (R.d i).cnt - 1 else (R.d i).cnt) (-1)
      rw [hb'.1]
      rw [if_neg (by simp)]
      split <;> split <;> omega
theorem Rel.callE (h : Rel R F) {i : Nat} (hi : i < R.n) : R.callE i = F.callB i := by
  unfold Rk.callE Rf.callB
  by_cases h0 : R.cnt = 0
  · rw [if_pos h0, if_pos (h.pw0.2 h0)]
  · rw [if_neg h0, if_neg (fun x => h0 (h.pw0.1 x))]
    have e1 : R.call = { R with cnt := if 0 < R.cnt then R.cnt - 1 else R.cnt, d := fun j => (R.d j).called } := by unfold Rk.call; rw [if_neg h0]
    have hc := h.call.bad i (by rw [Rk.call_n]; exact hi)
    rw [e1] at hc
    rw [show (R.d i).called.bad = F.call.bad i from hc]
theorem Rel.setD (h : Rel R F) {i : Nat} {d : Dk} {F' : Rf} (hn : F'.n = F.n) (hS : F'.S = F.S) (hd : F'.dead = F.dead) (hp : F'.pw = F.pw)
    (hb : ∀ j, j < R.n → (if j = i then d else R.d j).bad = F'.bad j) (hc : ∀ j, j < R.n → F'.bad j = false → F'.cnt j = max (if j = i then d else R.d j).cnt (-1))
    (hl : ∀ j s, j < R.n → s < R.S → sec (if j = i then d else R.d j).last s = F'.L (j * R.S + s)) (hC : ∀ j s, j < R.n → s < R.S → (if j = i then d else R.d j).cache s = F'.C (j * R.S + s)) : Rel (R.setD i d) F' :=
  ⟨h.n.trans hn.symm, h.S.trans hS.symm, h.off.trans hd.symm, hp.trans h.pw, hb, hc, hl, hC⟩
theorem Rel.put (h : Rel R F) {i s : Nat} (hi : i < R.n) (hs : s < R.S) (zs : List Int) : Rel (R.setD i ((R.d i).put s zs)) { F with C := atI F.C (i * F.S + s) (some zs) } := by
  refine h.setD rfl rfl rfl rfl (fun j hj => ?_) (fun j hj hb => ?_) (fun j t hj ht => ?_) (fun j t hj ht => ?_)
  · by_cases e : j = i
    · subst e; rw [if_pos rfl]; exact h.bad j hj
    · rw [if_neg e]; exact h.bad j hj
  · by_cases e : j = i
    · subst e; rw [if_pos rfl]; exact h.cnt j hj hb
    · rw [if_neg e]; exact h.cnt j hj hb
  · by_cases e : j = i
    · subst e; rw [if_pos rfl]; exact h.last j t hj ht
    · rw [if_neg e]; exact h.last j t hj ht
  · show _ = (if j * R.S + t = i * F.S + s then some zs else F.C (j * R.S + t))
    rw [← h.S]
    by_cases e : j = i
    · subst e
      rw [if_pos rfl]
      show (if t = s then some zs else (R.d j).cache t) = _
      by_cases e2 : t = s
      · subst e2; rw [if_pos rfl, if_pos rfl]
      · rw [if_neg e2, if_neg (by omega), h.cache j t hj ht]
    · rw [if_neg e, if_neg (fun x => e (idx_inj hs ht x).1), h.cache j t hj ht]
theorem Rel.flush (h : Rel R F) {i : Nat} (hi : i < R.n) (hlen : ∀ s, s < R.S → ((R.d i).read s).length = 64) : Rel (R.setD i ((R.d i).flush R.S)) (F.flushed (i * F.S) ((i + 1) * F.S)) := by
  have hin : ∀ j t, t < R.S → ((i * F.S ≤ j * R.S + t ∧ j * R.S + t < (i + 1) * F.S) ↔ j = i) := fun j t ht => by
    rw [← h.S, Nat.add_mul, Nat.one_mul]; exact idx_in ht
  refine h.setD rfl rfl rfl rfl (fun j hj => ?_) (fun j hj hb => ?_) (fun j t hj ht => ?_) (fun j t hj ht => ?_)
  · by_cases e : j = i
    · subst e; rw [if_pos rfl]; exact h.bad j hj
    · rw [if_neg e]; exact h.bad j hj
  · by_cases e : j = i
    · subst e; rw [if_pos rfl]; exact h.cnt j hj hb
    · rw [if_neg e]; exact h.cnt j hj hb
  · show _ = (if i * F.S ≤ j * R.S + t ∧ j * R.S + t < (i + 1) * F.S then F.rd (j * R.S + t) else F.L (j * R.S + t))
    by_cases e : j = i
    · rw [if_pos e, if_pos ((hin j t ht).2 e)]
      subst e
      show sec (joinS R.S (R.d j).read) t = _
      rw [sec_join hlen ht, h.read hj ht]
    · rw [if_neg e, if_neg (fun x => e ((hin j t ht).1 x)), h.last j t hj ht]
  · show _ = (if i * F.S ≤ j * R.S + t ∧ j * R.S + t < (i + 1) * F.S then none else F.C (j * R.S + t))
    by_cases e : j = i
    · rw [if_pos e, if_pos ((hin j t ht).2 e)]
      rfl
    · rw [if_neg e, if_neg (fun x => e ((hin j t ht).1 x)), h.cache j t hj ht]
theorem Rel.doom (h : Rel R F) {i : Nat} (hi : i < R.n) (n : Int) : Rel (R.setD i { R.d i with cnt := n }) { F with cnt := atI F.cnt i (max n (-1)) } := by
  refine h.setD rfl rfl rfl rfl (fun j hj => ?_) (fun j hj hb => ?_) (fun j t hj ht => ?_) (fun j t hj ht => ?_)
  · by_cases e : j = i
    · subst e; rw [if_pos rfl]; exact h.bad j hj
    · rw [if_neg e]; exact h.bad j hj
  · show (if j = i then max n (-1) else F.cnt j) = _
    by_cases e : j = i
    · rw [if_pos e, if_pos e]
    · rw [if_neg e, if_neg e]; exact h.cnt j hj hb
  · by_cases e : j = i
    · subst e; rw [if_pos rfl]; exact h.last j t hj ht
    · rw [if_neg e]; exact h.last j t hj ht
  · by_cases e : j = i
    · subst e; rw [if_pos rfl]; exact h.cache j t hj ht
    · rw [if_neg e]; exact h.cache j t hj ht

theorem Rel.rank_in (h : Rel R F) {i : Nat} (hi : i < R.n) : ∀ s, s ≤ R.S → rank F.C (i * R.S + s) = rank F.C (i * R.S) + rank (R.d i).cache s
  | 0, _ => by simp [rank, cN]
  | s + 1, hs => by
    rw [← Nat.add_assoc, rank_succ, rank_succ, h.rank_in hi s (by omega), ← h.cache i s hi (by omega)]
    omega
theorem Rel.rank_num (h : Rel R F) : ∀ i, i ≤ R.n → rank F.C (i * R.S) = R.num i
  | 0, _ => by simp [rank, cN, Rk.num]
  | i + 1, hi => by
    rw [Nat.add_mul, Nat.one_mul, h.rank_in (show i < R.n by omega) R.S (Nat.le_refl _), h.rank_num i (by omega)]
    rfl
theorem Rel.stays (h : Rel R F) {i s : Nat} (hi : i < R.n) (hs : s < R.S) (ks : List Int) : (R.d i).stays ks (R.num i) s = F.stays ks (i * R.S + s) := by
  unfold Dk.stays Rf.stays
  rw [h.rank_in hi s (by omega), h.rank_num i (by omega), h.cache i s hi hs, ← h.S, idx_div hs, h.bad i hi]
  cases (F.C (i * R.S + s)).isSome <;> cases F.bad i <;> simp
theorem Rel.restore (h : Rel R F) (ks : List Int) (hlen : ∀ i s, i < R.n → s < R.S → ((R.d i).rest ks (R.num i) s).length = 64) : Rel (R.restore ks) (F.restTo ks (F.n * F.S)) := by
  refine ⟨h.n, h.S, rfl, rfl, h.bad, h.cnt, fun i s hi hs => ?_, fun i s hi hs => ?_⟩
  · show sec (joinS R.S ((R.d i).rest ks (R.num i))) s = (if i * R.S + s < F.n * F.S ∧ F.stays ks (i * R.S + s) = true then F.rd (i * R.S + s) else F.L (i * R.S + s))
    have hi' : i < R.n := hi
    have hs' : s < R.S := hs
    rw [sec_join (fun t ht => hlen i t hi' ht) hs', ← h.n, ← h.S]
    unfold Dk.rest
    rw [h.stays hi' hs', h.read hi' hs', h.last i s hi' hs']
    by_cases e : F.stays ks (i * R.S + s) = true
    · rw [if_pos e, if_pos ⟨idx_lt hi' hs', e⟩]
    · rw [if_neg e, if_neg (fun x => e x.2)]
  · show none = (if i * R.S + s < F.n * F.S then none else F.C (i * R.S + s))
    rw [← h.n, ← h.S, if_pos (idx_lt (show i < R.n from hi) (show s < R.S from hs))]
end

end Go.Proofs.YtoiidhpohghiaaaGreat

/-
  Every call keeps the racks alike, and they answer alike.
-/
namespace Go.Proofs.YtoiidhpohghiaaaGreat
open Go.RowKit Go.Maps

theorem rf_call_S (F : Rf) : F.call.S = F.S := by unfold Rf.call; split <;> rfl
theorem rf_call_n (F : Rf) : F.call.n = F.n := by unfold Rf.call; split <;> rfl
theorem rk_wr_yes {R : Rk} {i s : Int} {zs : List Int} (h : (!R.off && (hasB R.n R.S i s && decide (zs.length = 64))) = true) : R.wr i s zs = if R.callE i.toNat = 0 then R.call.setD i.toNat ((R.call.d i.toNat).put s.toNat zs) else R.call := by
  unfold Rk.wr; rw [if_pos h]
theorem rf_wr_yes {F : Rf} {i s : Int} {zs : List Int} (h : (!F.dead && (hasB F.n F.S i s && decide (zs.length = 64))) = true) : F.wr i s zs = if F.callB i.toNat = 0 then { F.call with C := atI F.call.C (i.toNat * F.S + s.toNat) (some zs) } else F.call := by
  unfold Rf.wr; rw [if_pos h]
section
variable {R : Rk} {F : Rf}
theorem Rel.wr (h : Rel R F) (i s : Int) (zs : List Int) : Rel (R.wr i s zs) (F.wr i s zs) := by
  by_cases g : (!R.off && (hasB R.n R.S i s && decide (zs.length = 64))) = true
  · have g' : (!F.dead && (hasB F.n F.S i s && decide (zs.length = 64))) = true := by rw [← h.off, ← h.n, ← h.S]; exact g
    have hb : hasB R.n R.S i s = true := by
      rw [Bool.and_eq_true, Bool.and_eq_true] at g
      exact g.2.1
    obtain ⟨x, y, rfl, rfl, hx, hy⟩ := hasB_nat hb
    rw [rk_wr_yes g, rf_wr_yes g', Int.toNat_natCast, Int.toNat_natCast, h.callE hx]
    by_cases e : F.callB x = 0
    · rw [if_pos e, if_pos e, ← rf_call_S F]
      have hc := h.call
      exact hc.put (by rw [Rk.call_n]; exact hx) (by rw [Rk.call_S]; exact hy) zs
    · rw [if_neg e, if_neg e]
      exact h.call
  · have g' : ¬ (!F.dead && (hasB F.n F.S i s && decide (zs.length = 64))) = true := by rw [← h.off, ← h.n, ← h.S]; exact g
    unfold Rk.wr Rf.wr
    rw [if_neg g, if_neg g']
    exact h
theorem Rel.wrE (h : Rel R F) (i s : Int) (zs : List Int) : R.wrE i s zs = F.wrE i s zs := by
  unfold Rk.wrE Rf.wrE
  rw [← h.off, ← h.n, ← h.S]
  by_cases ho : R.off = true
  · rw [if_pos ho, if_pos ho]
  · rw [if_neg ho, if_neg ho]
    by_cases g : (hasB R.n R.S i s && decide (zs.length = 64)) = true
    · rw [if_pos g, if_pos g]
      rw [Bool.and_eq_true] at g
      obtain ⟨x, y, rfl, rfl, hx, hy⟩ := hasB_nat g.1
      exact h.callE hx
    · rw [if_neg g, if_neg g]
theorem Rel.flE (h : Rel R F) (i : Int) : R.flE i = F.flE i := by
  unfold Rk.flE Rf.flE
  rw [← h.off, ← h.n]
  by_cases ho : R.off = true
  · rw [if_pos ho, if_pos ho]
  · rw [if_neg ho, if_neg ho]
    by_cases g : 0 ≤ i ∧ i < R.n
    · rw [if_pos g, if_pos g]
      obtain ⟨x, rfl, hx⟩ := disk_nat g
      exact h.callE hx
    · rw [if_neg g, if_neg g]
theorem called_read {R : Rk} {i : Nat} {s : Nat} : (R.call.d i).read s = (R.d i).read s := by
  unfold Rk.call
  split <;> rfl
theorem Rel.fl (h : Rel R F) (i : Int) (hlen : ∀ j s, j < R.n → s < R.S → ((R.d j).read s).length = 64) : Rel (R.fl i) (F.fl i) := by
  unfold Rk.fl Rf.fl
  rw [← h.off, ← h.n]
  by_cases g : R.off = false ∧ (0 ≤ i ∧ i < R.n)
  · rw [if_pos g, if_pos g]
    obtain ⟨x, rfl, hx⟩ := disk_nat g.2
    rw [Int.toNat_natCast, h.callE hx]
    by_cases e : F.callB x = 0
    · rw [if_pos e, if_pos e]
      have := h.call.flush (i := x) (by rw [Rk.call_n]; exact hx) (fun s hs => by rw [called_read]; exact hlen x s hx (by rwa [Rk.call_S] at hs))
      rwa [rf_call_S, Rk.call_S] at this
    · rw [if_neg e, if_neg e]
      exact h.call
  · rw [if_neg g, if_neg g]
    exact h
theorem Rel.dkE (h : Rel R F) (i : Int) : R.dkE i = F.dkE i := by unfold Rk.dkE Rf.dkE; rw [h.n]
theorem Rel.dm (h : Rel R F) (i n : Int) : Rel (R.doom i n) (F.doom i n) := by
  by_cases g : 0 ≤ i ∧ i < R.n
  · have g' : 0 ≤ i ∧ i < F.n := by rw [← h.n]; exact g
    unfold Rk.doom Rf.doom
    rw [if_pos g, if_pos g']
    obtain ⟨x, rfl, hx⟩ := disk_nat g
    exact h.doom hx n
  · have g' : ¬ (0 ≤ i ∧ i < F.n) := by rw [← h.n]; exact g
    unfold Rk.doom Rf.doom
    rw [if_neg g, if_neg g']
    exact h
theorem Rel.arm (h : Rel R F) (n : Int) : Rel { R with cnt := n } { F with pw := max n (-1) } := ⟨h.n, h.S, h.off, rfl, h.bad, h.cnt, h.last, h.cache⟩
theorem Rel.failed (h : Rel R F) (i : Int) : R.failed i = F.failed i := by
  unfold Rk.failed Rf.failed
  rw [← h.n]
  by_cases g : 0 ≤ i ∧ i < R.n
  · obtain ⟨x, rfl, hx⟩ := disk_nat g
    rw [Int.toNat_natCast, h.bad x hx]
  · rw [decide_eq_false g]; rfl
theorem Rel.rdE (h : Rel R F) (i s : Int) : R.rdE i s = F.rdE i s := by
  unfold Rk.rdE Rf.rdE
  rw [← h.off, ← h.n, ← h.S]
  by_cases ho : R.off = true
  · rw [if_pos ho, if_pos ho]
  · rw [if_neg ho, if_neg ho]
    by_cases g : hasB R.n R.S i s = true
    · rw [if_pos g, if_pos g]
      obtain ⟨x, y, rfl, rfl, hx, hy⟩ := hasB_nat g
      rw [Int.toNat_natCast, h.bad x hx]
    · rw [if_neg g, if_neg g]
theorem Rel.rdV (h : Rel R F) (i s : Int) : R.rdV i s = F.rdV i s := by
  unfold Rk.rdV Rf.rdV
  rw [← h.rdE]
  by_cases e : R.rdE i s = 0
  · rw [if_pos e, if_pos e]
    have g : hasB R.n R.S i s = true := by
      unfold Rk.rdE at e
      by_cases ho : R.off = true
      · rw [if_pos ho] at e; omega
      · rw [if_neg ho] at e
        by_cases g : hasB R.n R.S i s = true
        · exact g
        · rw [if_neg g] at e; omega
    obtain ⟨x, y, rfl, rfl, hx, hy⟩ := hasB_nat g
    rw [Int.toNat_natCast, Int.toNat_natCast, h.read hx hy, h.S]
  · rw [if_neg e, if_neg e]
end
theorem Rel.new (n S : Nat) : Rel (newRk n S) (newRf n S) := by
  refine ⟨rfl, rfl, rfl, rfl, fun _ _ => rfl, fun _ _ _ => rfl, fun i s hi hs => ?_, fun _ _ _ _ => rfl⟩
  show sec (List.replicate (S * 64) 0) s = List.replicate 64 0
  have hs' : s < S := hs
  unfold sec
  rw [List.drop_replicate, List.take_replicate, Nat.min_eq_left]
  have : (s + 1) * 64 ≤ S * 64 := Nat.mul_le_mul_right _ hs'
  omega

end Go.Proofs.YtoiidhpohghiaaaGreat
