/-
  The law's 'told': a call on both racks.
-/
import Derived.Test.YtcgemckookefmaaAny
import Derived.Test.YtcgemckookefmaaSame
namespace Go.Proofs.Ytcgemckookefmaa
open Go.RowKit Go.Maps

theorem bys_turn0 {M : Nat → Prop} {w w' : World} {a : Option Addr} {n : Nat} {zs : List Int} (h : Bys w a n zs) (ht : Turn M w w') (hm : n = 0 ∨ ∀ b off, a = some ⟨b, off, none⟩ → ¬ M b) : Bys w' a n zs := by
  rcases hm with h0 | hm
  · exact ⟨h.len, h.small, .inl h0⟩
  · exact bys_turn h ht hm
structure Cl where
  what : Int
  i : Int
  n : Int
  zs : List Int
  ks : List Int
def Rk.step (R : Rk) (c : Cl) : Rk :=
  if c.what = 1 then R.wr c.i c.n c.zs else if c.what = 2 then R.fl c.i else if c.what = 3 then { R with cnt := c.n } else if c.what = 4 then R.doom c.i c.n else if c.what = 5 then R.restore c.ks else if c.what = 6 then R.ld c.i c.zs else R
def Rf.step (F : Rf) (c : Cl) : Rf :=
  if c.what = 1 then F.wr c.i c.n c.zs else if c.what = 2 then F.fl c.i else if c.what = 3 then { F with pw := max c.n (-1) } else if c.what = 4 then F.doom c.i c.n else if c.what = 5 then F.restTo c.ks (F.n * F.S) else if c.what = 6 then F.ld c.i c.zs else F
theorem Rk.wr_n (R : Rk) (i s : Int) (zs : List Int) : (R.wr i s zs).n = R.n := by
  unfold Rk.wr
  split
  · split
    · exact R.call_n
    · exact R.call_n
  · rfl
theorem Rk.fl_n (R : Rk) (i : Int) : (R.fl i).n = R.n := by
  unfold Rk.fl
  split
  · split
    · exact R.call_n
    · exact R.call_n
  · rfl

/-- Both racks stand beside each other. -/
structure Both (w : World) (L : Lay) (K : RLay) (R : Rk) (F : Rf) : Prop where
  rk : RackAt w (fun k => L.M R.n k ∨ K.M k) L R
  rf : RefAt w (fun k => L.M R.n k ∨ K.M k) K F
  ne : ∀ k, L.M R.n k → ¬ K.M k
section
variable {w w' : World} {L : Lay} {K : RLay} {R R' : Rk} {F F' : Rf}
theorem Both.rack (h : Both w L K R F) (hn : R'.n = R.n) (hr : RackAt w' (fun k => L.M R.n k ∨ K.M k) L R') (ht : Turn (L.M R.n) w w') : Both w' L K R' F := by
  have h2 := h.rf.keep ht (fun _ => .inl) (fun k hk x => h.ne k x hk)
  rw [← hn] at hr h2
  exact ⟨hr, h2, by rw [hn]; exact h.ne⟩
theorem Both.ref (h : Both w L K R F) (hr : RefAt w' (fun k => L.M R.n k ∨ K.M k) K F') (ht : Turn K.M w w') : Both w' L K R F' :=
  ⟨h.rk.keep ht (fun _ => .inr) (fun k hk => h.ne k hk), hr, h.ne⟩
theorem Both.below (h : Both w L K R F) (hb : Below w.heap.size w w') : Both w' L K R F := ⟨h.rk.below hb, h.rf.below hb, h.ne⟩
end

def BothM (L : Lay) (K : RLay) (R : Rk) : Nat → Prop := fun k => L.M R.n k ∨ K.M k
/-- What 'told' leaves. -/
def ToldPost (L : Lay) (K : RLay) (R R' : Rk) (F' : Rf) (b : Bool) (w : World) (e : Ending) (w' : World) : Prop := e = .returned (.bool b) ∧ Both w' L K R' F' ∧ Turn (BothM L K R) w w'

theorem box {w : World} {L : Lay} {K : RLay} {R : Rk} {F : Rf} (h : Both w L K R F) (cs : Array Value) (t : TypeId) : ∃ wb, wb = w.alloc (Obj.cells cs t) ∧ wb.heap.size = w.heap.size + 1 ∧ Both wb L K R F ∧ Both wb.drew L K R F ∧ Below w.heap.size w wb ∧ Turn (BothM L K R) w wb ∧ Turn (BothM L K R) w wb.drew ∧ ¬ L.M R.n w.heap.size ∧ ¬ K.M w.heap.size ∧
    (∀ j v, cs[j]? = some v → wb.cell? ⟨w.heap.size, j, none⟩ = some v) ∧ (∀ j v, cs[j]? = some v → wb.drew.cell? ⟨w.heap.size, j, none⟩ = some v) := by
  have hB : Below w.heap.size w (w.alloc (Obj.cells cs t)) := (Below.refl _ _).alloc (Nat.le_refl _) _
  refine ⟨_, rfl, by simp, h.below hB, (h.below hB).below ⟨rfl, rfl, rfl, Nat.le_refl _, fun _ _ => rfl⟩, hB, Turn.of_below hB, (Turn.of_below hB).trans (turn_drew _ _), fun x => Nat.lt_irrefl _ (h.rk.low _ (.inl x)), fun x => Nat.lt_irrefl _ (h.rk.low _ (.inr x)), fun j v e => ?_, fun j v e => ?_⟩
  · rw [cell_of_row _ w.heap.size j _ _ (0, 0) (heap_alloc_new w _)]; exact e
  · exact (cell_of_row _ w.heap.size j _ _ (0, 0) (heap_alloc_new w _)).trans e

theorem Rk.doom_n (R : Rk) (i n : Int) : (R.doom i n).n = R.n := by unfold Rk.doom; split <;> rfl
theorem Rk.ld_n (R : Rk) (i : Int) (zs : List Int) : (R.ld i zs).n = R.n := by unfold Rk.ld; split <;> rfl
theorem Rk.restore_n (R : Rk) (ks : List Int) : (R.restore ks).n = R.n := rfl

set_option maxRecDepth 100000 in
set_option maxHeartbeats 2000000 in
theorem told_flush (L : Lay) (K : RLay) (R : Rk) (F : Rf) (w : World) (i n : Int) (v3 v4 : Value) (h : Both w L K R F) (l3 : ∃ a x y, v3 = .slice a x y) (l4 : ∃ a x y, v4 = .slice a x y) :
    Calls Try.prog 13 #[.pointer (some ⟨L.p, 0, none⟩), .pointer (some ⟨K.p, 0, none⟩), .agg #[.int .i64 2, .int .i64 i, .int .i64 n, v3, v4]] w (ToldPost L K R (R.fl i) (F.fl i) (R.flE i == F.flE i) w) := by
  obtain ⟨a3, x3, y3, rfl⟩ := l3
  obtain ⟨a4, x4, y4, rfl⟩ := l4
  have hB : Below w.heap.size w (w.alloc (Obj.cells #[.int .i64 2, .int .i64 i, .int .i64 n, .slice a3 x3 y3, .slice a4 x4 y4] 40)) := (Below.refl _ _).alloc (Nat.le_refl _) _
  have h0 := h.below hB
  have nL : ¬ L.M R.n w.heap.size := fun x => Nat.lt_irrefl _ (h.rk.low _ (.inl x))
  have nK : ¬ K.M w.heap.size := fun x => Nat.lt_irrefl _ (h.rk.low _ (.inr x))
  obtain ⟨wb, hwb⟩ : ∃ wb, wb = w.alloc (Obj.cells #[.int .i64 2, .int .i64 i, .int .i64 n, .slice a3 x3 y3, .slice a4 x4 y4] 40) := ⟨_, rfl⟩
  have hbs : wb.heap.size = w.heap.size + 1 := by rw [hwb]; simp
  have q1 : wb.drew.cell? ⟨w.heap.size, 1, none⟩ = some (.int .i64 i) := by
    rw [hwb]; exact (cell_of_row _ w.heap.size 1 _ _ (0, 0) (heap_alloc_new w _)).trans rfl
  have hd : Both wb.drew L K R F := by rw [hwb]; exact h0.below ⟨rfl, rfl, rfl, Nat.le_refl _, fun _ _ => rfl⟩
  have hT : Turn (BothM L K R) w wb.drew := by rw [hwb]; exact (Turn.of_below hB).trans (turn_drew _ _)
  clear h0 hB
  go_enter Try.func13, Try.ntmps13
  go_wp2_with (fail)
  rw [← hwb]
  clear hwb
  go_region_held3 (fun w' => w'.cell? ⟨w.heap.size, 1, none⟩ = some (.int .i64 i))
    (first
      | go_keep
      | exact (ht2.cell (a := ⟨w.heap.size, 1, none⟩) (by show w.heap.size < wb.heap.size; omega) nL).trans q1
      | exact (ht3.cell (a := ⟨w.heap.size, 1, none⟩) (Nat.lt_of_lt_of_le (by show w.heap.size < wb.heap.size; omega) ht2.size) nK).trans ((ht2.cell (a := ⟨w.heap.size, 1, none⟩) (by show w.heap.size < wb.heap.size; omega) nL).trans q1))
    (first
      | (go_at_call 22
         refine (flush_all i hd.rk).mono ?_
         rintro e w2 ⟨rfl, hr2, ht2⟩
         have b2 := hd.rack (R.fl_n i) hr2 ht2)
      | (go_at_call 32
         refine (rflush_all i b2.rf).mono ?_
         rintro e w3 ⟨rfl, hr3, ht3⟩))
  go_wp2_with (fail)
  go_ret
  refine ⟨rfl, b2.ref hr3 ht3, (hT.trans (ht2.mono fun _ => .inl)).trans (ht3.mono fun _ => .inr)⟩

set_option maxRecDepth 100000 in
set_option maxHeartbeats 2000000 in
theorem told_doom (L : Lay) (K : RLay) (R : Rk) (F : Rf) (w : World) (i n : Int) (v3 v4 : Value) (h : Both w L K R F) (hn : n ≤ 9223372036854775807) (l3 : ∃ a x y, v3 = .slice a x y) (l4 : ∃ a x y, v4 = .slice a x y) :
    Calls Try.prog 13 #[.pointer (some ⟨L.p, 0, none⟩), .pointer (some ⟨K.p, 0, none⟩), .agg #[.int .i64 4, .int .i64 i, .int .i64 n, v3, v4]] w (ToldPost L K R (R.doom i n) (F.doom i n) (R.dkE i == F.dkE i) w) := by
  obtain ⟨a3, x3, y3, rfl⟩ := l3
  obtain ⟨a4, x4, y4, rfl⟩ := l4
  obtain ⟨wb, hwb, hbs, hp, hd, hB, hT0, hT, nL, nK, hq, hqd⟩ := box h #[.int .i64 4, .int .i64 i, .int .i64 n, .slice a3 x3 y3, .slice a4 x4 y4] 40
  have q1 := hqd 1 (.int .i64 i) rfl
  have q2 := hqd 2 (.int .i64 n) rfl
  have r1 := hq 1 (.int .i64 i) rfl
  have r2 := hq 2 (.int .i64 n) rfl
  clear hq hqd
  go_enter Try.func13, Try.ntmps13
  go_wp2_with (fail)
  rw [← hwb]
  clear hwb r1 r2
  go_region_held3 (fun w' => w'.cell? ⟨w.heap.size, 1, none⟩ = some (.int .i64 i) ∧ w'.cell? ⟨w.heap.size, 2, none⟩ = some (.int .i64 n))
    (first
      | go_keep
      | exact ⟨(ht2.cell (a := ⟨w.heap.size, 1, none⟩) (by show w.heap.size < wb.heap.size; omega) nL).trans q1, (ht2.cell (a := ⟨w.heap.size, 2, none⟩) (by show w.heap.size < wb.heap.size; omega) nL).trans q2⟩
      | exact ⟨(ht3.cell (a := ⟨w.heap.size, 1, none⟩) (Nat.lt_of_lt_of_le (by show w.heap.size < wb.heap.size; omega) ht2.size) nK).trans ((ht2.cell (a := ⟨w.heap.size, 1, none⟩) (by show w.heap.size < wb.heap.size; omega) nL).trans q1), (ht3.cell (a := ⟨w.heap.size, 2, none⟩) (Nat.lt_of_lt_of_le (by show w.heap.size < wb.heap.size; omega) ht2.size) nK).trans ((ht2.cell (a := ⟨w.heap.size, 2, none⟩) (by show w.heap.size < wb.heap.size; omega) nL).trans q2)⟩)
    (first
      | (go_at_call 25
         refine (doom_all i n hd.rk hn).mono ?_
         rintro e w2 ⟨rfl, hr2, ht2⟩
         have b2 := hd.rack (R.doom_n i n) hr2 ht2)
      | (go_at_call 34
         refine (rdoom_all i n b2.rf hn).mono ?_
         rintro e w3 ⟨rfl, hr3, ht3⟩))
  go_wp2_with (fail)
  go_ret
  exact ⟨rfl, b2.ref hr3 ht3, (hT.trans (ht2.mono fun _ => .inl)).trans (ht3.mono fun _ => .inr)⟩

set_option maxRecDepth 100000 in
set_option maxHeartbeats 2000000 in
theorem told_read (L : Lay) (K : RLay) (R : Rk) (F : Rf) (w : World) (i n : Int) (v3 v4 : Value) (h : Both w L K R F) (l3 : ∃ a x y, v3 = .slice a x y) (l4 : ∃ a x y, v4 = .slice a x y) (hv : (R.rdV i n).length ≤ 64) :
    Calls Try.prog 13 #[.pointer (some ⟨L.p, 0, none⟩), .pointer (some ⟨K.p, 0, none⟩), .agg #[.int .i64 0, .int .i64 i, .int .i64 n, v3, v4]] w (ToldPost L K R R F (sameB (R.rdV i n) (F.rdV i n) && (R.rdE i n == F.rdE i n)) w) := by
  obtain ⟨a3, x3, y3, rfl⟩ := l3
  obtain ⟨a4, x4, y4, rfl⟩ := l4
  obtain ⟨wb, hwb, hbs, hp, hd, hB, hT0, hT, nL, nK, hq, hqd⟩ := box h #[.int .i64 0, .int .i64 i, .int .i64 n, .slice a3 x3 y3, .slice a4 x4 y4] 40
  have q1 := hqd 1 (.int .i64 i) rfl
  have q2 := hqd 2 (.int .i64 n) rfl
  have r1 := hq 1 (.int .i64 i) rfl
  have r2 := hq 2 (.int .i64 n) rfl
  clear hq hqd
  go_enter Try.func13, Try.ntmps13
  go_wp2_with (fail)
  rw [← hwb]
  clear hwb q1 q2
  with_reducible refine (read_all i n hp.rk).mono ?_
  rintro e w2 ⟨a2, c2, rfl, hs2⟩
  have b2 := hp.below hs2.bel
  have s1 := (hs2.bel.cell (p := ⟨w.heap.size, 1, none⟩) (by show w.heap.size < wb.heap.size; omega)).trans r1
  have s2 := (hs2.bel.cell (p := ⟨w.heap.size, 2, none⟩) (by show w.heap.size < wb.heap.size; omega)).trans r2
  go_wp2_with (fail)
  with_reducible refine (rread_all i n b2.rf).mono ?_
  rintro e w3 ⟨a5, c5, rfl, hs3⟩
  have b3 := b2.below hs3.bel
  have y2 := hs2.bys.next hs3.bel
  go_wp2_with (fail)
  with_reducible refine (same_any a2 a5 _ c2 _ c5 _ _ w3 y2 hs3.bys (by omega)).mono ?_
  rintro e w4 ⟨rfl, nq, rfl⟩
  have b4 : Both (w3.drewN nq) L K R F := b3.below (below_drewN (Below.refl _ _) nq)
  have hT4 : Turn (BothM L K R) w (w3.drewN nq) := ((hT0.trans (Turn.of_below hs2.bel)).trans (Turn.of_below hs3.bel)).trans (Turn.of_below (below_drewN (Below.refl _ _) nq))
  clear hs2 hs3 y2 b2 b3 hp hd
  obtain ⟨sm, hsm⟩ : ∃ sm, Hid (sameB (R.rdV i n) (F.rdV i n) = sm) := ⟨_, Lib.hid rfl⟩
  rw [hsm.out]
  cases sm
  all_goals
    go_wp2_with (fail)
    go_ret
    refine ⟨?_, b4, hT4⟩
    rw [hsm.out]
    rfl

set_option maxRecDepth 100000 in
set_option maxHeartbeats 2000000 in
theorem told_lasting (L : Lay) (K : RLay) (R : Rk) (F : Rf) (w : World) (i n : Int) (v3 v4 : Value) (h : Both w L K R F) (l3 : ∃ a x y, v3 = .slice a x y) (l4 : ∃ a x y, v4 = .slice a x y) (hv : (R.laV i n).length ≤ 64) :
    Calls Try.prog 13 #[.pointer (some ⟨L.p, 0, none⟩), .pointer (some ⟨K.p, 0, none⟩), .agg #[.int .i64 7, .int .i64 i, .int .i64 n, v3, v4]] w (ToldPost L K R R F (sameB (R.laV i n) (F.laV i n) && (R.laE i n == F.laE i n)) w) := by
  obtain ⟨a3, x3, y3, rfl⟩ := l3
  obtain ⟨a4, x4, y4, rfl⟩ := l4
  obtain ⟨wb, hwb, hbs, hp, hd, hB, hT0, hT, nL, nK, hq, hqd⟩ := box h #[.int .i64 7, .int .i64 i, .int .i64 n, .slice a3 x3 y3, .slice a4 x4 y4] 40
  have q1 := hqd 1 (.int .i64 i) rfl
  have q2 := hqd 2 (.int .i64 n) rfl
  have r1 := hq 1 (.int .i64 i) rfl
  have r2 := hq 2 (.int .i64 n) rfl
  clear hq hqd
  go_enter Try.func13, Try.ntmps13
  go_wp2_with (fail)
  rw [← hwb]
  clear hwb q1 q2
  with_reducible refine (lasting_all i n hp.rk).mono ?_
  rintro e w2 ⟨a2, c2, rfl, hs2⟩
  have b2 := hp.below hs2.bel
  have s1 := (hs2.bel.cell (p := ⟨w.heap.size, 1, none⟩) (by show w.heap.size < wb.heap.size; omega)).trans r1
  have s2 := (hs2.bel.cell (p := ⟨w.heap.size, 2, none⟩) (by show w.heap.size < wb.heap.size; omega)).trans r2
  go_wp2_with (fail)
  with_reducible refine (rlasting_all i n b2.rf).mono ?_
  rintro e w3 ⟨a5, c5, rfl, hs3⟩
  have b3 := b2.below hs3.bel
  have y2 := hs2.bys.next hs3.bel
  go_wp2_with (fail)
  with_reducible refine (same_any a2 a5 _ c2 _ c5 _ _ w3 y2 hs3.bys (by omega)).mono ?_
  rintro e w4 ⟨rfl, nq, rfl⟩
  have b4 : Both (w3.drewN nq) L K R F := b3.below (below_drewN (Below.refl _ _) nq)
  have hT4 : Turn (BothM L K R) w (w3.drewN nq) := ((hT0.trans (Turn.of_below hs2.bel)).trans (Turn.of_below hs3.bel)).trans (Turn.of_below (below_drewN (Below.refl _ _) nq))
  clear hs2 hs3 y2 b2 b3 hp hd
  obtain ⟨sm, hsm⟩ : ∃ sm, Hid (sameB (R.laV i n) (F.laV i n) = sm) := ⟨_, Lib.hid rfl⟩
  rw [hsm.out]
  cases sm
  all_goals
    go_wp2_with (fail)
    go_ret
    refine ⟨?_, b4, hT4⟩
    rw [hsm.out]
    rfl

end Go.Proofs.Ytcgemckookefmaa
