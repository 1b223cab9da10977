/-
  DeviceFails' words: a rack whose second disk has failed; a fresh reference beside it.
-/
import Derived.Test.YtcgemckookefmaaGreat
import Derived.Test.YtcgemckookefmaaRefSet
namespace Go.Proofs.Ytcgemckookefmaa
open Go.RowKit Go.Maps

/-- A rack of three disks of four sectors whose second one has failed, and whose power stays. -/
structure Fd (R : Rk) : Prop where
  n : R.n = 3
  S : R.S = 4
  off : R.off = false
  cnt : R.cnt = -1
  bad : (R.d 1).bad = true
theorem Fd.call {R : Rk} (h : Fd R) : Fd R.call := by
  have e : R.call = { R with cnt := -1, d := fun j => (R.d j).called } := by
    unfold Rk.call
    rw [if_neg (by rw [h.cnt]; omega), h.cnt]
    rfl
  rw [e]
  exact ⟨h.n, h.S, h.off, rfl, by show ((R.d 1).bad || (R.d 1).cnt == 0) = true; rw [h.bad]; rfl⟩
theorem Fd.setD {R : Rk} (h : Fd R) (i : Nat) (d : Dk) (hd : d.bad = (R.d i).bad) : Fd (R.setD i d) := by
  refine ⟨h.n, h.S, h.off, h.cnt, ?_⟩
  show (if 1 = i then d else R.d 1).bad = true
  by_cases e : 1 = i
  · subst e; rw [if_pos rfl, hd]; exact h.bad
  · rw [if_neg e]; exact h.bad
theorem Fd.wr {R : Rk} (h : Fd R) (i s : Int) (zs : List Int) : Fd (R.wr i s zs) := by
  unfold Rk.wr
  split
  · split
    · exact h.call.setD _ _ rfl
    · exact h.call
  · exact h
theorem Fd.fl {R : Rk} (h : Fd R) (i : Int) : Fd (R.fl i) := by
  unfold Rk.fl
  split
  · split
    · exact h.call.setD _ _ rfl
    · exact h.call
  · exact h
theorem Fd.step {R : Rk} (h : Fd R) (c : Cl) (h3 : c.what ≠ 3) (h4 : c.what ≠ 4) : Fd (R.step c) := by
  unfold Rk.step
  split
  · exact h.wr _ _ _
  · split
    · exact h.fl _
    · try rw [if_neg h3, if_neg h4]
      split
      · exact ⟨h.n, h.S, rfl, rfl, h.bad⟩
      · split
        · unfold Rk.ld
          split
          · exact h.setD _ _ rfl
          · exact h
        · exact h
theorem Fd.callE {R : Rk} (h : Fd R) (i : Nat) : R.callE i = if (R.d i).called.bad then 13 else 0 := by
  unfold Rk.callE
  rw [if_neg (by rw [h.cnt]; omega)]
theorem Fd.called {R : Rk} (h : Fd R) : (R.d 1).called.bad = true := by
  show ((R.d 1).bad || (R.d 1).cnt == 0) = true
  rw [h.bad]; rfl
theorem Fd.fl_1 {R : Rk} (h : Fd R) : R.flE 1 = 13 := by
  unfold Rk.flE
  rw [if_neg (by rw [h.off]; simp), if_pos (by rw [h.n]; omega)]
  show R.callE 1 = 13
  rw [h.callE, if_pos h.called]
theorem Fd.wr_1 {R : Rk} (h : Fd R) {m : Nat} (hm : m < 4) {zs : List Int} (hz : zs.length = 64) : R.wrE 1 m zs = 13 := by
  unfold Rk.wrE
  have e : hasB R.n R.S 1 (m : Int) = true := by rw [h.n, h.S, hasB_iff]; omega
  rw [if_neg (by rw [h.off]; simp), if_pos (by rw [e, hz]; rfl)]
  show R.callE 1 = 13
  rw [h.callE, if_pos h.called]
theorem Fd.rd_1 {R : Rk} (h : Fd R) {m : Nat} (hm : m < 4) : R.rdE 1 m = 13 := by
  unfold Rk.rdE
  have e : hasB R.n R.S 1 (m : Int) = true := by rw [h.n, h.S, hasB_iff]; omega
  rw [if_neg (by rw [h.off]; simp), if_pos e]
  show (if (R.d 1).bad then (13 : Int) else 0) = 13
  rw [h.bad]; rfl
theorem Fd.failed_1 {R : Rk} (h : Fd R) : R.failed 1 = true := by
  unfold Rk.failed
  rw [decide_eq_true (by rw [h.n]; omega)]
  exact h.bad
/-- A fresh reference answers a Write well, or as the rack does. -/
theorem Fd.alike {R : Rk} (h : Fd R) (i s : Int) (zs : List Int) : R.wrE i s zs = (newRf 3 4).wrE i s zs ∨ (R.wrE i s zs = 13 ∧ (newRf 3 4).wrE i s zs = 0) := by
  have eR : R.wrE i s zs = if (hasB 3 4 i s && decide (zs.length = 64)) = true then R.callE i.toNat else 11 := by
    unfold Rk.wrE
    rw [if_neg (by rw [h.off]; simp), h.n, h.S]
  have eF : (newRf 3 4).wrE i s zs = if (hasB 3 4 i s && decide (zs.length = 64)) = true then 0 else 11 := by
    unfold Rf.wrE
    rw [if_neg (by simp [newRf])]
    rfl
  rw [eR, eF, h.callE]
  by_cases g : (hasB 3 4 i s && decide (zs.length = 64)) = true
  · rw [if_pos g, if_pos g]
    by_cases b : (R.d i.toNat).called.bad = true
    · rw [if_pos b]; exact .inr ⟨rfl, rfl⟩
    · rw [if_neg b]; exact .inl rfl
  · rw [if_neg g, if_neg g]; exact .inl rfl
theorem fresh_dead (c : Cl) (h3 : c.what ≠ 3) : ((newRf 3 4).step c).dead = false := by
  unfold Rf.step
  split
  · unfold Rf.wr
    split
    · split <;> rfl
    · rfl
  · split
    · unfold Rf.fl
      split
      · split <;> rfl
      · rfl
    · try rw [if_neg h3]
      split
      · unfold Rf.doom
        split <;> rfl
      · split
        · rfl
        · split
          · unfold Rf.ld
            split <;> rfl
          · rfl

/-- Fewer blocks are watched. -/
theorem RackAt.thin {w : World} {M : Nat → Prop} {L : Lay} {R : Rk} (h : RackAt w M L R) : RackAt w (L.M R.n) L R := by
  refine ⟨h.row, h.rows, fun i hi => ?_, h.apart, fun k hk => hk, fun k hk => h.low k (h.sub k hk), h.few, h.fewS, h.big⟩
  have hd := h.drv i hi
  obtain ⟨n, D, hc⟩ := hd.cache
  exact ⟨hd.c0, hd.c1, hd.c2, hd.c3, hd.blk, hd.len, hd.small, ⟨n, D, hc.wide fun k hk => .inl (h.sub k hk)⟩, hd.big⟩

/-- Eight stores, one behind the other, into one block. -/
def eight (w : World) (P : Nat) (u0 u1 u2 u3 u4 u5 u6 u7 : Value) : World :=
  (((((((w.setCell ⟨P, 0, none⟩ u0).setCell ⟨P, 1, none⟩ u1).setCell ⟨P, 2, none⟩ u2).setCell ⟨P, 3, none⟩ u3).setCell ⟨P, 4, none⟩ u4).setCell ⟨P, 5, none⟩ u5).setCell ⟨P, 6, none⟩ u6).setCell ⟨P, 7, none⟩ u7
theorem eight_turn (w : World) (P : Nat) (u0 u1 u2 u3 u4 u5 u6 u7 : Value) : Turn (· = P) w (eight w P u0 u1 u2 u3 u4 u5 u6 u7) :=
  (((((((turn_set _ P 0 u0).trans (turn_set _ P 1 u1)).trans (turn_set _ P 2 u2)).trans (turn_set _ P 3 u3)).trans (turn_set _ P 4 u4)).trans (turn_set _ P 5 u5)).trans (turn_set _ P 6 u6)).trans (turn_set _ P 7 u7)
theorem eight_row {w : World} {P : Nat} {x0 x1 x2 x3 x4 x5 x6 x7 : Value} {t : TypeId} (h : w.heap[P]? = some (.cells #[x0, x1, x2, x3, x4, x5, x6, x7] t (0, 0))) (u0 u1 u2 u3 u4 u5 u6 u7 : Value) :
    (eight w P u0 u1 u2 u3 u4 u5 u6 u7).heap[P]? = some (.cells #[u0, u1, u2, u3, u4, u5, u6, u7] t (0, 0)) := by
  have h0 := cells_set (i := 0) (u := u0) h
  rw [show (#[x0, x1, x2, x3, x4, x5, x6, x7] : Array Value).setIfInBounds 0 u0 = #[u0, x1, x2, x3, x4, x5, x6, x7] from rfl] at h0
  have h1 := cells_set (i := 1) (u := u1) h0
  rw [show (#[u0, x1, x2, x3, x4, x5, x6, x7] : Array Value).setIfInBounds 1 u1 = #[u0, u1, x2, x3, x4, x5, x6, x7] from rfl] at h1
  have h2 := cells_set (i := 2) (u := u2) h1
  rw [show (#[u0, u1, x2, x3, x4, x5, x6, x7] : Array Value).setIfInBounds 2 u2 = #[u0, u1, u2, x3, x4, x5, x6, x7] from rfl] at h2
  have h3 := cells_set (i := 3) (u := u3) h2
  rw [show (#[u0, u1, u2, x3, x4, x5, x6, x7] : Array Value).setIfInBounds 3 u3 = #[u0, u1, u2, u3, x4, x5, x6, x7] from rfl] at h3
  have h4 := cells_set (i := 4) (u := u4) h3
  rw [show (#[u0, u1, u2, u3, x4, x5, x6, x7] : Array Value).setIfInBounds 4 u4 = #[u0, u1, u2, u3, u4, x5, x6, x7] from rfl] at h4
  have h5 := cells_set (i := 5) (u := u5) h4
  rw [show (#[u0, u1, u2, u3, u4, x5, x6, x7] : Array Value).setIfInBounds 5 u5 = #[u0, u1, u2, u3, u4, u5, x6, x7] from rfl] at h5
  have h6 := cells_set (i := 6) (u := u6) h5
  rw [show (#[u0, u1, u2, u3, u4, u5, x6, x7] : Array Value).setIfInBounds 6 u6 = #[u0, u1, u2, u3, u4, u5, u6, x7] from rfl] at h6
  have h7 := cells_set (i := 7) (u := u7) h6
  rw [show (#[u0, u1, u2, u3, u4, u5, u6, x7] : Array Value).setIfInBounds 7 u7 = #[u0, u1, u2, u3, u4, u5, u6, u7] from rfl] at h7
  exact h7

/-- What New answers, stored in a variable beside a rack: both stand. -/
theorem both_new {w w6 : World} {B p P : Nat} {v : Nat → Value} {xs : Nat → List Value} {M : Nat → Prop} {L : Lay} {R : Rk} (hr : RackAt w M L R) (hMe : ∀ k, M k ↔ L.M R.n k) (hb : Below w.heap.size w w6)
    (hD : NewD w6 B p 3 4 (fun i => if i < 2 then 3 * 4 else 3) v xs) (hx1 : xs 1 = List.replicate (3 * 4) (.slice none 0 0)) (hx2 : xs 2 = List.replicate 3 (.bool false)) (hx3 : xs 3 = List.replicate 3 (.int .i64 (-1)))
    (hP : w.heap.size ≤ P) (hPB : P < B) (hPp : P ≠ p) (hB : w.heap.size ≤ B) {x0 x1 x2 x3 x4 x5 x6 x7 : Value} (hrow : w6.heap[P]? = some (.cells #[x0, x1, x2, x3, x4, x5, x6, x7] 33 (0, 0))) :
    ∃ K : RLay, K.p = P ∧ (∀ k, K.M k → w.heap.size ≤ k) ∧ Both (eight w6 P (.int .i64 3) (.int .i64 4) (v 0) (v 1) (v 2) (v 3) (.int .i64 (-1)) (.bool false)) L K R (newRf 3 4) ∧ Below w.heap.size w (eight w6 P (.int .i64 3) (.int .i64 4) (v 0) (v 1) (v 2) (v 3) (.int .i64 (-1)) (.bool false)) := by
  have ht := eight_turn w6 P (.int .i64 3) (.int .i64 4) (v 0) (v 1) (v 2) (v 3) (.int .i64 (-1)) (.bool false)
  have hrow' := eight_row hrow (.int .i64 3) (.int .i64 4) (v 0) (v 1) (v 2) (v 3) (.int .i64 (-1)) (.bool false)
  have hb' : Below w.heap.size w (eight w6 P (.int .i64 3) (.int .i64 4) (v 0) (v 1) (v 2) (v 3) (.int .i64 (-1)) (.bool false)) := hb.trans (ht.below hb.size fun k e => e ▸ hP)
  have hD' := hD.turnq ht ⟨hPB, hPp⟩
  have hlow : ∀ k, M k → k < w.heap.size := hr.low
  obtain ⟨K, e1, e2, e3⟩ := RefAt.of_new hD' hx1 hx2 hx3 hrow' hPB (by omega) (by omega) (by omega) (by omega) (fun k => L.M R.n k) (fun k hk => by have := hlow k ((hMe k).2 hk); omega) (fun k hk => Nat.lt_of_lt_of_le (hlow k ((hMe k).2 hk)) hb'.size)
  have hK : ∀ k, K.M k → w.heap.size ≤ k := fun k hk => by
    rcases e2 k hk with h | h <;> omega
  refine ⟨K, e1, hK, ⟨?_, e3, fun k hk hk' => ?_⟩, hb'⟩
  · refine hr.wide hb' (fun k hk => ?_) (fun k hk => .inl ((hMe k).1 hk)) (fun k hk => ?_)
    · rcases hk with hk | hk
      · exact .inl ((hMe k).2 hk)
      · exact .inr (hK k hk)
    · obtain ⟨fl, fc, hx⟩ := e3
      exact hx.low k hk
  · have := hlow k ((hMe k).2 hk)
    have := hK k hk'
    omega

end Go.Proofs.Ytcgemckookefmaa
