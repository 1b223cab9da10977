/-
  Every call keeps the racks alike, and they answer alike.
-/
import Derived.Test.YtcgemckookefmaaRel
namespace Go.Proofs.Ytcgemckookefmaa
open Go.RowKit Go.Maps

theorem rf_call_S (F : Rf) : F.call.S = F.S := by unfold Rf.call; split <;> rfl
theorem rf_call_n (F : Rf) : F.call.n = F.n := by unfold Rf.call; split <;> rfl
theorem rk_wr_yes {R : Rk} {i s : Int} {zs : List Int} (h : (!R.off && (hasB R.n R.S i s && decide (zs.length = 64))) = true) : R.wr i s zs = if R.callE i.toNat = 0 then R.call.setD i.toNat ((R.call.d i.toNat).put s.toNat zs) else R.call := by
  unfold Rk.wr; rw [if_pos h]
theorem rf_wr_yes {F : Rf} {i s : Int} {zs : List Int} (h : (!F.dead && (hasB F.n F.S i s && decide (zs.length = 64))) = true) : F.wr i s zs = if F.callB i.toNat = 0 then { F.call with C := atI F.call.C (i.toNat * F.S + s.toNat) (some zs) } else F.call := by
  unfold Rf.wr; rw [if_pos h]
section
variable {R : Rk} {F : Rf}
theorem Rel.wr (h : Rel R F) (i s : Int) (zs : List Int) : Rel (R.wr i s zs) (F.wr i s zs) := by
  by_cases g : (!R.off && (hasB R.n R.S i s && decide (zs.length = 64))) = true
  · have g' : (!F.dead && (hasB F.n F.S i s && decide (zs.length = 64))) = true := by rw [← h.off, ← h.n, ← h.S]; exact g
    have hb : hasB R.n R.S i s = true := by
      rw [Bool.and_eq_true, Bool.and_eq_true] at g
      exact g.2.1
    obtain ⟨x, y, rfl, rfl, hx, hy⟩ := hasB_nat hb
    rw [rk_wr_yes g, rf_wr_yes g', Int.toNat_natCast, Int.toNat_natCast, h.callE hx]
    by_cases e : F.callB x = 0
    · rw [if_pos e, if_pos e, ← rf_call_S F]
      have hc := h.call
      exact hc.put (by rw [Rk.call_n]; exact hx) (by rw [Rk.call_S]; exact hy) zs
    · rw [if_neg e, if_neg e]
      exact h.call
  · have g' : ¬ (!F.dead && (hasB F.n F.S i s && decide (zs.length = 64))) = true := by rw [← h.off, ← h.n, ← h.S]; exact g
    unfold Rk.wr Rf.wr
    rw [if_neg g, if_neg g']
    exact h
theorem Rel.wrE (h : Rel R F) (i s : Int) (zs : List Int) : R.wrE i s zs = F.wrE i s zs := by
  unfold Rk.wrE Rf.wrE
  rw [← h.off, ← h.n, ← h.S]
  by_cases ho : R.off = true
  · rw [if_pos ho, if_pos ho]
  · rw [if_neg ho, if_neg ho]
    by_cases g : (hasB R.n R.S i s && decide (zs.length = 64)) = true
    · rw [if_pos g, if_pos g]
      rw [Bool.and_eq_true] at g
      obtain ⟨x, y, rfl, rfl, hx, hy⟩ := hasB_nat g.1
      exact h.callE hx
    · rw [if_neg g, if_neg g]
theorem Rel.flE (h : Rel R F) (i : Int) : R.flE i = F.flE i := by
  unfold Rk.flE Rf.flE
  rw [← h.off, ← h.n]
  by_cases ho : R.off = true
  · rw [if_pos ho, if_pos ho]
  · rw [if_neg ho, if_neg ho]
    by_cases g : 0 ≤ i ∧ i < R.n
    · rw [if_pos g, if_pos g]
      obtain ⟨x, rfl, hx⟩ := disk_nat g
      exact h.callE hx
    · rw [if_neg g, if_neg g]
theorem called_read {R : Rk} {i : Nat} {s : Nat} : (R.call.d i).read s = (R.d i).read s := by
  unfold Rk.call
  split <;> rfl
theorem Rel.fl (h : Rel R F) (i : Int) (hlen : ∀ j s, j < R.n → s < R.S → ((R.d j).read s).length = 64) : Rel (R.fl i) (F.fl i) := by
  unfold Rk.fl Rf.fl
  rw [← h.off, ← h.n]
  by_cases g : R.off = false ∧ (0 ≤ i ∧ i < R.n)
  · rw [if_pos g, if_pos g]
    obtain ⟨x, rfl, hx⟩ := disk_nat g.2
    rw [Int.toNat_natCast, h.callE hx]
    by_cases e : F.callB x = 0
    · rw [if_pos e, if_pos e]
      have := h.call.flush (i := x) (by rw [Rk.call_n]; exact hx) (fun s hs => by rw [called_read]; exact hlen x s hx (by rwa [Rk.call_S] at hs))
      rwa [rf_call_S, Rk.call_S] at this
    · rw [if_neg e, if_neg e]
      exact h.call
  · rw [if_neg g, if_neg g]
    exact h
theorem Rel.dkE (h : Rel R F) (i : Int) : R.dkE i = F.dkE i := by unfold Rk.dkE Rf.dkE; rw [h.n]
theorem Rel.ld (h : Rel R F) (i : Int) (zs : List Int) : Rel (R.ld i zs) (F.ld i zs) := by
  unfold Rk.ld Rf.ld
  rw [← h.n]
  by_cases g : 0 ≤ i ∧ i < R.n
  · rw [if_pos g, if_pos g]
    obtain ⟨x, rfl, hx⟩ := disk_nat g
    exact h.load hx zs
  · rw [if_neg g, if_neg g]
    exact h
theorem Rel.dm (h : Rel R F) (i n : Int) : Rel (R.doom i n) (F.doom i n) := by
  by_cases g : 0 ≤ i ∧ i < R.n
  · have g' : 0 ≤ i ∧ i < F.n := by rw [← h.n]; exact g
    unfold Rk.doom Rf.doom
    rw [if_pos g, if_pos g']
    obtain ⟨x, rfl, hx⟩ := disk_nat g
    exact h.doom hx n
  · have g' : ¬ (0 ≤ i ∧ i < F.n) := by rw [← h.n]; exact g
    unfold Rk.doom Rf.doom
    rw [if_neg g, if_neg g']
    exact h
theorem Rel.arm (h : Rel R F) (n : Int) : Rel { R with cnt := n } { F with pw := max n (-1) } := ⟨h.n, h.S, h.off, rfl, h.bad, h.cnt, h.last, h.cache⟩
theorem Rel.step {w : World} {M : Nat → Prop} {L : Lay} (h : Rel R F) (hr : RackAt w M L R) (c : Cl) : Rel (R.step c) (F.step c) := by
  have hlen : ∀ j s, j < R.n → s < R.S → ((R.d j).read s).length = 64 := fun j s hj hs => (Dk.read_len (hr.drv j hj) hs).1
  unfold Rk.step Rf.step
  by_cases e1 : c.what = 1
  · rw [if_pos e1, if_pos e1]; exact h.wr _ _ _
  rw [if_neg e1, if_neg e1]
  by_cases e2 : c.what = 2
  · rw [if_pos e2, if_pos e2]; exact h.fl _ hlen
  rw [if_neg e2, if_neg e2]
  by_cases e3 : c.what = 3
  · rw [if_pos e3, if_pos e3]; exact h.arm _
  rw [if_neg e3, if_neg e3]
  by_cases e4 : c.what = 4
  · rw [if_pos e4, if_pos e4]; exact h.dm _ _
  rw [if_neg e4, if_neg e4]
  by_cases e5 : c.what = 5
  · rw [if_pos e5, if_pos e5]; exact h.restore _ (fun i s hi hs => (Dk.rest_len (hr.drv i hi) c.ks (R.num i) hs).1)
  rw [if_neg e5, if_neg e5]
  by_cases e6 : c.what = 6
  · rw [if_pos e6, if_pos e6]; exact h.ld _ _
  rw [if_neg e6, if_neg e6]
  exact h
theorem Rel.failed (h : Rel R F) (i : Int) : R.failed i = F.failed i := by
  unfold Rk.failed Rf.failed
  rw [← h.n]
  by_cases g : 0 ≤ i ∧ i < R.n
  · obtain ⟨x, rfl, hx⟩ := disk_nat g
    rw [Int.toNat_natCast, h.bad x hx]
  · rw [decide_eq_false g]; rfl
theorem Rel.laE (h : Rel R F) (i s : Int) : R.laE i s = F.laE i s := by unfold Rk.laE Rf.laE; rw [h.n, h.S]
theorem Rel.laV (h : Rel R F) (i s : Int) : R.laV i s = F.laV i s := by
  unfold Rk.laV Rf.laV
  rw [← h.n, ← h.S]
  by_cases g : hasB R.n R.S i s = true
  · rw [if_pos g, if_pos g]
    obtain ⟨x, y, rfl, rfl, hx, hy⟩ := hasB_nat g
    exact h.last x y hx hy
  · rw [if_neg g, if_neg g]
theorem Rel.rdE (h : Rel R F) (i s : Int) : R.rdE i s = F.rdE i s := by
  unfold Rk.rdE Rf.rdE
  rw [← h.off, ← h.n, ← h.S]
  by_cases ho : R.off = true
  · rw [if_pos ho, if_pos ho]
  · rw [if_neg ho, if_neg ho]
    by_cases g : hasB R.n R.S i s = true
    · rw [if_pos g, if_pos g]
      obtain ⟨x, y, rfl, rfl, hx, hy⟩ := hasB_nat g
      rw [Int.toNat_natCast, h.bad x hx]
    · rw [if_neg g, if_neg g]
theorem Rel.rdV (h : Rel R F) (i s : Int) : R.rdV i s = F.rdV i s := by
  unfold Rk.rdV Rf.rdV
  rw [← h.rdE]
  by_cases e : R.rdE i s = 0
  · rw [if_pos e, if_pos e]
    have g : hasB R.n R.S i s = true := by
      unfold Rk.rdE at e
      by_cases ho : R.off = true
      · rw [if_pos ho] at e; omega
      · rw [if_neg ho] at e
        by_cases g : hasB R.n R.S i s = true
        · exact g
        · rw [if_neg g] at e; omega
    obtain ⟨x, y, rfl, rfl, hx, hy⟩ := hasB_nat g
    rw [Int.toNat_natCast, Int.toNat_natCast, h.read hx hy, h.S]
  · rw [if_neg e, if_neg e]
theorem Rel.tb {w : World} {M : Nat → Prop} {L : Lay} (h : Rel R F) (hr : RackAt w M L R) (c : Cl) : tb R F c = true := by
  have hs := h.step hr c
  unfold Go.Proofs.Ytcgemckookefmaa.tb
  rw [h.rdV, h.rdE, h.wrE, h.flE, h.dkE, h.laV, h.laE, hs.off, hs.failed, sameB_true rfl, sameB_true rfl]
  simp
end
theorem Rel.new (n S : Nat) : Rel (newRk n S) (newRf n S) := by
  refine ⟨rfl, rfl, rfl, rfl, fun _ _ => rfl, fun _ _ _ => rfl, fun i s hi hs => ?_, fun _ _ _ _ => rfl⟩
  show sec (List.replicate (S * 64) 0) s = List.replicate 64 0
  have hs' : s < S := hs
  unfold sec
  rw [List.drop_replicate, List.take_replicate, Nat.min_eq_left]
  have : (s + 1) * 64 ≤ S * 64 := Nat.mul_le_mul_right _ hs'
  omega

end Go.Proofs.Ytcgemckookefmaa
