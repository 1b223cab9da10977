/-
  New, by contract.
-/
import Derived.Test.YtciddoeeiamndaaOps
import Derived.Deep.RegionHeld3
namespace Go.Proofs.Ytciddoeeiamndaa
open Go.RowKit Go.Maps

theorem new_bad (n S : Int) (w : World) (h : ¬ ((1 ≤ n ∧ n ≤ 17) ∧ 1 ≤ S ∧ S ≤ 4096)) :
    Calls Try.prog 25 #[.int .i64 n, .int .i64 S] w fun e w' => e = .returned (.tuple #[.pointer none, .int .i64 10]) ∧ w = w' := by
  by_cases h1 : n < 1
  · clear h
    go_enter Try.func25, Try.ntmps25
    go_wp2
    go_ret2
    exact ⟨rfl, rfl⟩
  · by_cases h2 : 17 < n
    · clear h
      go_enter Try.func25, Try.ntmps25
      go_wp2
      go_ret2
      exact ⟨rfl, rfl⟩
    · by_cases h3 : S < 1
      · clear h
        go_enter Try.func25, Try.ntmps25
        go_wp2
        go_ret2
        exact ⟨rfl, rfl⟩
      · have h4 : 4096 < S := by omega
        clear h
        go_enter Try.func25, Try.ntmps25
        go_wp2
        go_ret2
        exact ⟨rfl, rfl⟩

theorem infoDrv : (Try.prog.info? 79).map (fun i => (i.zero, i.size, i.bytes)) = some (some (.agg #[.slice none 0 0, .map none, .bool false, .int .i64 0]), 4, 48) := by kernel_rfl

/-- 'make([]drive, n)'. -/
theorem wpList_mkd {w : World} {ops : Array Oper} {rest : List Oper} {o : Oper} {a : Act} {Q : Exit → Act → World → Prop}
    (hg : o.guard = none) (l c : Operand) (hop : o.op = Op.makeSlice 80 l c) (n : Nat) (hl : a.eval l = .int .i64 n) (hc : a.eval c = .int .i64 n) (b2 : n ≤ 17)
    (hK : ∀ w' cs, Hid (w'.heap[w.heap.size]? = some (.cells cs 79 (0, 0)) ∧ cs.size = n * 4) → Below w.heap.size w w' → wpList Try.prog ops Q rest (a.put o.dst (.slice (some ⟨w.heap.size, 0, none⟩) n n)) w') :
    wpList Try.prog ops Q (o :: rest) a w := by
  obtain ⟨i0, hi, hz0, hz1, hz2⟩ := info_parts infoDrv
  refine wpList_make_full w hg l c 80 hop w.heap.size 79 i0 (.agg #[.slice none 0 0, .map none, .bool false, .int .i64 0]) 4 Try.underlying80 hi hz0 hz1 .i64 .i64 n n n hl hc rfl rfl (by rw [hz2]; omega) (by unfold maxLen; omega) (Nat.le_refl _) fun w' hown hgrow => ?_
  rcases hown.2 with ⟨h', _⟩ | ⟨g, cap, cur, h', _, hh, _, _, hsz, _⟩
  · simp at h'
  · simp only [Value.slice.injEq, Option.some.injEq, Addr.mk.injEq, and_true, true_and] at h'
    obtain ⟨rfl, rfl⟩ := h'
    exact hK w' cur ⟨hh, hsz⟩ ((Below.refl _ _).grown hgrow (Nat.le_refl _) (fun k h => by cases h))

/-- A rack of which the first k disks are made. -/
structure NewTo (w : World) (B n S : Nat) (L : Lay) (k : Nat) : Prop where
  row : w.heap[L.p]? = some (.cells #[.slice (some ⟨L.db, 0, none⟩) n n, .int .i64 S, .bool false, .int .i64 (-1)] 82 (0, 0))
  rows : ∃ cs, w.heap[L.db]? = some (.cells cs 79 (0, 0)) ∧ cs.size = n * 4
  drv : ∀ i, i < k → DrvAt w (fun _ => False) S L.db (i * 4) (L.lb i) (L.mb i) (newDk S)
  apart : L.Apart k
  low : ∀ j, L.M k j → B ≤ j ∧ j < w.heap.size

def newRk (n S : Nat) : Rk := ⟨n, S, false, -1, fun _ => newDk S⟩

/-- What New answers: a rack of new blocks. -/
def NewRet (n S : Nat) (w : World) (e : Ending) (w' : World) : Prop := ∃ L : Lay, e = .returned (.tuple #[.pointer (some ⟨L.p, 0, none⟩), .int .i64 0]) ∧ RackAt w' (L.M n) L (newRk n S) ∧ (∀ k, L.M n k → w.heap.size ≤ k) ∧ Below w.heap.size w w'

theorem NewTo.done {w : World} {B n S : Nat} {L : Lay} (h : NewTo w B n S L n) (hn : n ≤ 17) (hS : S ≤ 4096) : RackAt w (L.M n) L (newRk n S) := by
  obtain ⟨cs, hcs, _⟩ := h.rows
  refine ⟨h.row, ⟨cs, hcs⟩, fun i hi => ?_, h.apart, fun k hk => hk, fun k hk => (h.low k hk).2, hn, hS, by show (-1 : Int) ≤ _; omega⟩
  have hd := h.drv i hi
  obtain ⟨m, D, hc⟩ := hd.cache
  exact ⟨hd.c0, hd.c1, hd.c2, hd.c3, hd.blk, hd.len, hd.small, ⟨m, D, ⟨hc.own, hc.has, (fun s zs _ e => by cases e), hc.keys⟩⟩, hd.big⟩

theorem undrew {w w' : World} (h : Below w.drew.heap.size w.drew w') : Below w.heap.size w w' := ⟨h.os, h.tape, h.output, h.size, h.block⟩
def four (w : World) (db o : Nat) (u0 u1 u2 u3 : Value) : World := (((w.setCell ⟨db, o, none⟩ u0).setCell ⟨db, o + 1, none⟩ u1).setCell ⟨db, o + 2, none⟩ u2).setCell ⟨db, o + 3, none⟩ u3
theorem four_turn (w : World) (db o : Nat) (u0 u1 u2 u3 : Value) : Turn (· = db) w (four w db o u0 u1 u2 u3) := (((turn_set _ db o u0).trans (turn_set _ db (o + 1) u1)).trans (turn_set _ db (o + 2) u2)).trans (turn_set _ db (o + 3) u3)
theorem four_row {w : World} {db o : Nat} {u0 u1 u2 u3 : Value} {cs : Array Value} {t : TypeId} (h : w.heap[db]? = some (.cells cs t (0, 0))) :
    (four w db o u0 u1 u2 u3).heap[db]? = some (.cells ((((cs.setIfInBounds o u0).setIfInBounds (o + 1) u1).setIfInBounds (o + 2) u2).setIfInBounds (o + 3) u3) t (0, 0)) := cells_set (cells_set (cells_set (cells_set h)))
theorem four_other {w : World} {db o j : Nat} {u0 u1 u2 u3 : Value} (h : j < o ∨ o + 4 ≤ j) : (four w db o u0 u1 u2 u3).cell? ⟨db, j, none⟩ = w.cell? ⟨db, j, none⟩ := by
  unfold four
  rw [cell_set_other _ _ _ _ _ (by omega), cell_set_other _ _ _ _ _ (by omega), cell_set_other _ _ _ _ _ (by omega), cell_set_other _ _ _ _ _ (by omega)]
theorem four_same {w : World} {db o : Nat} {u0 u1 u2 u3 : Value} {cs : Array Value} {t : TypeId} (h : w.heap[db]? = some (.cells cs t (0, 0))) (hc : o + 4 ≤ cs.size) :
    (four w db o u0 u1 u2 u3).cell? ⟨db, o, none⟩ = some u0 ∧ (four w db o u0 u1 u2 u3).cell? ⟨db, o + 1, none⟩ = some u1 ∧ (four w db o u0 u1 u2 u3).cell? ⟨db, o + 2, none⟩ = some u2 ∧ (four w db o u0 u1 u2 u3).cell? ⟨db, o + 3, none⟩ = some u3 := by
  have hr := four_row (o := o) (u0 := u0) (u1 := u1) (u2 := u2) (u3 := u3) h
  refine ⟨?_, ?_, ?_, ?_⟩ <;> (rw [cell_of_row _ _ _ _ _ (0, 0) hr]; simp [Array.getElem?_setIfInBounds]; try omega)

def Lay.add (L : Lay) (k a b : Nat) : Lay := { L with lb := fun j => if j = k then a else L.lb j, mb := fun j => if j = k then b else L.mb j }

theorem NewTo.step {wr w2 : World} {B n S k : Nat} {L : Lay} (h : NewTo wr B n S L k) (hk : k < n) {a b : Nat} (ha : wr.heap.size ≤ a) (hb : wr.heap.size ≤ b) (hne : a ≠ b) (ha2 : a < w2.heap.size) (hb2 : b < w2.heap.size) (hB : B ≤ wr.heap.size)
    (hblk : Blk w2 a (List.replicate (S * 64) 0)) (hmap : w2.ownsMap Try.prog 3 elemR b 0 (.map [])) (hbel : Below wr.heap.size wr w2) :
    NewTo (four w2 L.db (k * 4) (.slice (some ⟨a, 0, none⟩) (S * 64) (S * 64)) (.map (some b)) (.bool false) (.int .i64 (-1))) B n S (L.add k a b) (k + 1) := by
  obtain ⟨cs, hcs, hsz⟩ := h.rows
  have lp : L.p < wr.heap.size := lt_of_block h.row
  have ld : L.db < wr.heap.size := lt_of_block hcs
  have hcs2 : w2.heap[L.db]? = some (.cells cs 79 (0, 0)) := (hbel.block _ ld).trans hcs
  have A := h.apart
  have hlb : ∀ j, j < k → (L.add k a b).lb j = L.lb j := fun j hj => by simp [Lay.add, Nat.ne_of_lt hj]
  have hmb : ∀ j, j < k → (L.add k a b).mb j = L.mb j := fun j hj => by simp [Lay.add, Nat.ne_of_lt hj]
  have hlk : (L.add k a b).lb k = a := by simp [Lay.add]
  have hmk : (L.add k a b).mb k = b := by simp [Lay.add]
  have llt : ∀ j, j < k → L.lb j < wr.heap.size := fun j hj => (h.low _ (L.M_lb hj)).2
  have mlt : ∀ j, j < k → L.mb j < wr.heap.size := fun j hj => (h.low _ (L.M_mb hj)).2
  have ht := four_turn w2 L.db (k * 4) (.slice (some ⟨a, 0, none⟩) (S * 64) (S * 64)) (.map (some b)) (.bool false) (.int .i64 (-1))
  have hcase : ∀ j, j < k + 1 → j < k ∨ j = k := fun j hj => by omega
  refine ⟨?_, ⟨_, four_row hcs2, by simp [hsz]⟩, fun i hi => ?_, ?_, ?_⟩
  · exact (ht.block L.p (Nat.lt_of_lt_of_le lp hbel.size) A.pd).trans ((hbel.block _ lp).trans h.row)
  · rcases hcase i hi with hi | rfl
    · have hd := h.drv i hi
      rw [hlb i hi, hmb i hi]
      have hd2 : DrvAt w2 (fun _ => False) S L.db (i * 4) (L.lb i) (L.mb i) (newDk S) := hd.turn (Turn.of_below (M := fun _ => False) hbel) (fun _ x => x) (fun x => x) (fun x => x) (fun x => x)
      refine ⟨(four_other (by omega)).trans hd2.c0, (four_other (by omega)).trans hd2.c1, (four_other (by omega)).trans hd2.c2, (four_other (by omega)).trans hd2.c3, hd2.blk.turn ht (A.ld i hi), hd2.len, hd2.small, ?_, hd2.big⟩
      obtain ⟨m, D, hc⟩ := hd2.cache
      exact ⟨m, D, ⟨ownsMap_of_row hc.own (ht.block _ hc.own.lt (A.md i hi)), hc.has, (fun s zs _ e => by cases e), hc.keys⟩⟩
    · rw [hlk, hmk]
      obtain ⟨e0, e1, e2, e3⟩ := four_same (o := i * 4) (u0 := .slice (some ⟨a, 0, none⟩) (S * 64) (S * 64)) (u1 := .map (some b)) (u2 := .bool false) (u3 := .int .i64 (-1)) hcs2 (by omega)
      exact ⟨e0, e1, e2, e3, hblk.turn ht (by show a ≠ L.db; omega), by simp [newDk], AllB.zeros _, CacheAt.empty (ownsMap_of_row hmap (ht.block _ hmap.lt (by omega))), by show (-1 : Int) ≤ _; omega⟩
  · refine ⟨A.pd, fun j hj => ?_, fun j hj => ?_, fun j hj => ?_, fun j hj => ?_, fun i j hi hj => ?_, fun i j hi hj hij => ?_, fun i j hi hj hij => ?_⟩
    · rcases hcase j hj with hj | rfl
      · rw [hlb j hj]; exact A.lp j hj
      · rw [hlk]; show a ≠ L.p; omega
    · rcases hcase j hj with hj | rfl
      · rw [hlb j hj]; exact A.ld j hj
      · rw [hlk]; show a ≠ L.db; omega
    · rcases hcase j hj with hj | rfl
      · rw [hmb j hj]; exact A.mp j hj
      · rw [hmk]; show b ≠ L.p; omega
    · rcases hcase j hj with hj | rfl
      · rw [hmb j hj]; exact A.md j hj
      · rw [hmk]; show b ≠ L.db; omega
    · rcases hcase i hi with hi | rfl <;> rcases hcase j hj with hj | rfl
      · rw [hlb i hi, hmb j hj]; exact A.lm i j hi hj
      · rw [hlb i hi, hmk]; have := llt i hi; omega
      · rw [hlk, hmb j hj]; have := mlt j hj; omega
      · rw [hlk, hmk]; exact hne
    · rcases hcase i hi with hi | rfl <;> rcases hcase j hj with hj | rfl
      · rw [hlb i hi, hlb j hj]; exact A.ll i j hi hj hij
      · rw [hlb i hi, hlk]; have := llt i hi; omega
      · rw [hlk, hlb j hj]; have := llt j hj; omega
      · exact absurd rfl hij
    · rcases hcase i hi with hi | rfl <;> rcases hcase j hj with hj | rfl
      · rw [hmb i hi, hmb j hj]; exact A.mm i j hi hj hij
      · rw [hmb i hi, hmk]; have := mlt i hi; omega
      · rw [hmk, hmb j hj]; have := mlt j hj; omega
      · exact absurd rfl hij
  · have hle := Nat.le_trans hbel.size ht.size
    rintro j (rfl | rfl | ⟨i, hi, hij⟩)
    · have := (h.low _ (L.M_p k)); exact ⟨this.1, Nat.lt_of_lt_of_le this.2 hle⟩
    · have := (h.low _ (L.M_db k)); exact ⟨this.1, Nat.lt_of_lt_of_le this.2 hle⟩
    · rcases hcase i hi with hi | rfl
      · rw [hlb i hi, hmb i hi] at hij
        have := (h.low j (.inr (.inr ⟨i, hi, hij⟩))); exact ⟨this.1, Nat.lt_of_lt_of_le this.2 hle⟩
      · rw [hlk, hmk] at hij
        have := ht.size
        rcases hij with rfl | rfl
        · exact ⟨by omega, by omega⟩
        · exact ⟨by omega, by omega⟩

set_option maxHeartbeats 1000000 in
theorem new_ok (n S : Nat) (w : World) (h1 : 1 ≤ n) (h17 : n ≤ 17) (hS1 : 1 ≤ S) (hS : S ≤ 4096) :
    Calls Try.prog 25 #[.int .i64 n, .int .i64 S] w (NewRet n S w) := by
  have j1 : (1 : Int) ≤ (n : Int) := by omega
  have j2 : (n : Int) ≤ 17 := by omega
  have j3 : (1 : Int) ≤ (S : Int) := by omega
  have j4 : (S : Int) ≤ 4096 := by omega
  go_enter Try.func25, Try.ntmps25
  go_wp2_with (at_make; refine wpList_mkd rfl _ _ rfl n rfl rfl h17 ?_; intro w1 cs hrow1 hb1)
  have hs1 := hb1.size
  have hp0 : w.heap.size < w1.heap.size := lt_of_block hrow1.out.1
  have hst : Hid (∃ L : Lay, L.p = w1.heap.size ∧ L.db = w.heap.size ∧ NewTo (w1.alloc (.cells #[.slice (some ⟨w.heap.size, 0, none⟩) n n, .int .i64 S, .bool false, .int .i64 (-1)] 82)) w.heap.size n S L 0 ∧ Below w.heap.size w (w1.alloc (.cells #[.slice (some ⟨w.heap.size, 0, none⟩) n n, .int .i64 S, .bool false, .int .i64 (-1)] 82))) := by
    refine ⟨⟨w1.heap.size, w.heap.size, fun _ => 0, fun _ => 0⟩, rfl, rfl, ⟨heap_alloc_new w1 _, ⟨cs, (Below.heap_alloc _ _ _ hp0).trans hrow1.out.1, hrow1.out.2⟩, fun i hi => by omega, ?_, ?_⟩, hb1.alloc hs1 _⟩
    · exact ⟨by show w1.heap.size ≠ w.heap.size; omega, (fun i hi => by omega), (fun i hi => by omega), (fun i hi => by omega), (fun i hi => by omega), (fun i j hi => by omega), (fun i j hi => by omega), (fun i j hi => by omega)⟩
    · rintro j (rfl | rfl | ⟨i, hi, _⟩)
      · exact ⟨hs1, by simp⟩
      · exact ⟨Nat.le_refl _, by simp; omega⟩
      · omega
  go_loopw [7, 32] (fun _ i wr => ∃ (k : Nat) (L : Lay), k ≤ n ∧ i = .int .i64 k ∧ L.p = w1.heap.size ∧ L.db = w.heap.size ∧ NewTo wr w.heap.size n S L k ∧ Below w.heap.size w wr) (fun _ i _ => n - (RowKit.intOf i).toNat)
  case atStart =>
    obtain ⟨L, e1, e2, h, hb⟩ := hst.out
    exact ⟨0, L, Nat.zero_le _, rfl, e1, e2, h, hb⟩
  case round =>
    obtain ⟨k, L, hk, rfl, e1, e2, hN, hbw⟩ := hrel
    have e1' : Hid (L.p = w1.heap.size) := e1
    have e2' : Hid (L.db = w.heap.size) := e2
    obtain ⟨cs2, hcs2, hsz2⟩ := hN.rows
    have a0 : wr.cell? ⟨w1.heap.size, 0, none⟩ = some (.slice (some ⟨w.heap.size, 0, none⟩) n n) := by
      rw [cell_of_row wr _ _ _ _ (0, 0) (e1 ▸ hN.row)]
      rw [e2]
      rfl
    rw [e2] at hcs2
    have lp : w1.heap.size < wr.heap.size := lt_of_block (e1 ▸ hN.row)
    have ld : w.heap.size < wr.heap.size := lt_of_block hcs2
    have hfz : ∀ i, wr.frozen? ⟨w.heap.size, i, none⟩ = false := fun i => frozen_of_row wr _ i _ _ hcs2
    have hcl : ∀ i, i < n * 4 → ∃ u, wr.cell? ⟨w.heap.size, i, none⟩ = some u := fun i hi => ⟨cs2[i]'(by omega), by rw [cell_of_row wr _ i _ _ (0, 0) hcs2]; exact Array.getElem?_eq_getElem (by omega)⟩
    clear e1 e2 hcs2 hrow1 hst
    by_cases hlt : k < n
    · obtain ⟨v0, d0⟩ := hcl (k * 4) (by omega)
      obtain ⟨v1, d1⟩ := hcl (k * 4 + 1) (by omega)
      obtain ⟨v2, d2⟩ := hcl (k * 4 + 2) (by omega)
      obtain ⟨v3, d3⟩ := hcl (k * 4 + 3) (by omega)
      have g0 := hfz (k * 4)
      have g1 := hfz (k * 4 + 1)
      have g2 := hfz (k * 4 + 2)
      have g3 := hfz (k * 4 + 3)
      have i0 : (0 : Int) ≤ (k : Int) := Int.natCast_nonneg _
      have i1 : (k : Int) < (n : Int) := by omega
      clear hcl hfz hsz2
      go_wp2_with (fail)
      go_region_held3 (fun w' => w'.cell? ⟨w1.heap.size, 0, none⟩ = some (.slice (some ⟨w.heap.size, 0, none⟩) n n))
        (first
          | go_keep
          | exact (hbn.cell (p := ⟨w1.heap.size, 0, none⟩) lp).trans a0
          | exact ((four_turn w2 w.heap.size (k * 4) _ _ _ _).cell (a := ⟨w1.heap.size, 0, none⟩) (Nat.lt_of_lt_of_le lp hbn.size) (Nat.ne_of_gt hp0)).trans ((hbn.cell (p := ⟨w1.heap.size, 0, none⟩) lp).trans a0))
        (first
          | (go_at_call 56
             refine (newDrive_any S _ hS).mono ?_
             rintro e w2 ⟨la, ma, rfl, hla, hma, hne, hla2, hma2, hblk, hmap, hbn⟩
             have q0 := (hbn.cell (p := ⟨w.heap.size, k * 4, none⟩) ld).trans d0
             have q1 := (hbn.cell (p := ⟨w.heap.size, k * 4 + 1, none⟩) ld).trans d1
             have q2 := (hbn.cell (p := ⟨w.heap.size, k * 4 + 2, none⟩) ld).trans d2
             have q3 := (hbn.cell (p := ⟨w.heap.size, k * 4 + 3, none⟩) ld).trans d3
             have r0 := (hbn.frozen (p := ⟨w.heap.size, k * 4, none⟩) ld).trans g0
             have r1 := (hbn.frozen (p := ⟨w.heap.size, k * 4 + 1, none⟩) ld).trans g1
             have r2 := (hbn.frozen (p := ⟨w.heap.size, k * 4 + 2, none⟩) ld).trans g2
             have r3 := (hbn.frozen (p := ⟨w.heap.size, k * 4 + 3, none⟩) ld).trans g3))
      have hN2 : Hid (NewTo (four w2 w.heap.size (k * 4) (.slice (some ⟨la, 0, none⟩) (S * 64) (S * 64)) (.map (some ma)) (.bool false) (.int .i64 (-1))) w.heap.size n S (L.add k la ma) (k + 1)) := by
        have := hN.step hlt hla hma hne hla2 hma2 hbw.size hblk hmap (undrew hbn)
        rwa [e2'.out] at this
      have hbw2 : Below w.heap.size w (four w2 w.heap.size (k * 4) (.slice (some ⟨la, 0, none⟩) (S * 64) (S * 64)) (.map (some ma)) (.bool false) (.int .i64 (-1))) :=
        (hbw.trans ((undrew hbn).mono hbw.size)).trans ((four_turn w2 w.heap.size (k * 4) _ _ _ _).below (Nat.le_trans hbw.size hbn.size) (fun j e => by omega))
      go_wp2_with (fail)
      go_roundw
      case rel => exact ⟨k + 1, L.add k la ma, by omega, by go_num, e1'.out, e2'.out, hN2.out, hbw2⟩
      case measure => simp [RowKit.intOf]; omega
    · obtain rfl : k = n := by omega
      have hdone := hN.done h17 hS
      go_wp2_with (fail)
      go_ret2
      exact ⟨L, by rw [e1'.out]; rfl, hdone, fun j hj => (hN.low j hj).1, hbw⟩

end Go.Proofs.Ytciddoeeiamndaa
