/-
  The program's rack, and how it stands in memory.
-/
import Derived.Test.YtciddoeeiamndaaRestore
import Derived.Test.YtciddoeeiamndaaNewDrv
namespace Go.Proofs.Ytciddoeeiamndaa
open Go.RowKit Go.Maps

/-- What a rack is. -/
structure Rk where
  n : Nat
  S : Nat
  off : Bool
  cnt : Int
  d : Nat → Dk
/-- Where a rack lies: its own block, its disks', each disk's bytes and its map. -/
structure Lay where
  p : Nat
  db : Nat
  lb : Nat → Nat
  mb : Nat → Nat
/-- The blocks that a rack's calls write. -/
def Lay.M (L : Lay) (n : Nat) : Nat → Prop := fun k => k = L.p ∨ k = L.db ∨ ∃ i, i < n ∧ (k = L.lb i ∨ k = L.mb i)

/-- No two of them are one. -/
structure Lay.Apart (L : Lay) (n : Nat) : Prop where
  pd : L.p ≠ L.db
  lp : ∀ i, i < n → L.lb i ≠ L.p
  ld : ∀ i, i < n → L.lb i ≠ L.db
  mp : ∀ i, i < n → L.mb i ≠ L.p
  md : ∀ i, i < n → L.mb i ≠ L.db
  lm : ∀ i j, i < n → j < n → L.lb i ≠ L.mb j
  ll : ∀ i j, i < n → j < n → i ≠ j → L.lb i ≠ L.lb j
  mm : ∀ i j, i < n → j < n → i ≠ j → L.mb i ≠ L.mb j

structure RackAt (w : World) (M : Nat → Prop) (L : Lay) (R : Rk) : Prop where
  row : w.heap[L.p]? = some (.cells #[.slice (some ⟨L.db, 0, none⟩) R.n R.n, .int .i64 R.S, .bool R.off, .int .i64 R.cnt] 82 (0, 0))
  rows : ∃ cs, w.heap[L.db]? = some (.cells cs 79 (0, 0))
  drv : ∀ i, i < R.n → DrvAt w M R.S L.db (i * 4) (L.lb i) (L.mb i) (R.d i)
  apart : L.Apart R.n
  sub : ∀ k, L.M R.n k → M k
  low : ∀ k, M k → k < w.heap.size
  few : R.n ≤ 17
  fewS : R.S ≤ 4096
  big : R.cnt ≤ 9223372036854775807

theorem Lay.M_p (L : Lay) (n : Nat) : L.M n L.p := .inl rfl
theorem Lay.M_db (L : Lay) (n : Nat) : L.M n L.db := .inr (.inl rfl)
theorem Lay.M_lb (L : Lay) {n i : Nat} (h : i < n) : L.M n (L.lb i) := .inr (.inr ⟨i, h, .inl rfl⟩)
theorem Lay.M_mb (L : Lay) {n i : Nat} (h : i < n) : L.M n (L.mb i) := .inr (.inr ⟨i, h, .inr rfl⟩)

section
variable {w w' : World} {M : Nat → Prop} {L : Lay} {R : Rk}
theorem RackAt.c0 (h : RackAt w M L R) : w.cell? ⟨L.p, 0, none⟩ = some (.slice (some ⟨L.db, 0, none⟩) R.n R.n) := by rw [cell_of_row w _ _ _ _ (0, 0) h.row]; rfl
theorem RackAt.c1 (h : RackAt w M L R) : w.cell? ⟨L.p, 1, none⟩ = some (.int .i64 R.S) := by rw [cell_of_row w _ _ _ _ (0, 0) h.row]; rfl
theorem RackAt.c2 (h : RackAt w M L R) : w.cell? ⟨L.p, 2, none⟩ = some (.bool R.off) := by rw [cell_of_row w _ _ _ _ (0, 0) h.row]; rfl
theorem RackAt.c3 (h : RackAt w M L R) : w.cell? ⟨L.p, 3, none⟩ = some (.int .i64 R.cnt) := by rw [cell_of_row w _ _ _ _ (0, 0) h.row]; rfl
theorem RackAt.fp (h : RackAt w M L R) (i : Nat) : w.frozen? ⟨L.p, i, none⟩ = false := frozen_of_row w _ i _ _ h.row
theorem RackAt.fd (h : RackAt w M L R) (i : Nat) : w.frozen? ⟨L.db, i, none⟩ = false := by
  obtain ⟨cs, hcs⟩ := h.rows
  exact frozen_of_row w _ i _ _ hcs
theorem RackAt.ltp (h : RackAt w M L R) : L.p < w.heap.size := lt_of_block h.row
theorem RackAt.ltd (h : RackAt w M L R) : L.db < w.heap.size := by
  obtain ⟨cs, hcs⟩ := h.rows
  exact lt_of_block hcs

/-- A disk stays what it is while other blocks turn. -/
theorem DrvAt.turn {N : Nat → Prop} {S db o lb mb : Nat} {d : Dk} (h : DrvAt w M S db o lb mb d) (ht : Turn N w w') (hNM : ∀ k, N k → M k) (h1 : ¬ N db) (h2 : ¬ N lb) (h3 : ¬ N mb) : DrvAt w' M S db o lb mb d := by
  have hl := h.lt
  refine ⟨(ht.cell (a := ⟨db, o, none⟩) hl h1).trans h.c0, (ht.cell (a := ⟨db, o + 1, none⟩) hl h1).trans h.c1, (ht.cell (a := ⟨db, o + 2, none⟩) hl h1).trans h.c2, (ht.cell (a := ⟨db, o + 3, none⟩) hl h1).trans h.c3, h.blk.turn ht h2, h.len, h.small, ?_, h.big⟩
  exact h.cache.turn (ht.mono hNM) (ht.block mb h.cache.lt h3)

/-- The rack stays what it is while blocks turn that are none of its own. -/
theorem RackAt.keep {N : Nat → Prop} (h : RackAt w M L R) (ht : Turn N w w') (hNM : ∀ k, N k → M k) (hN : ∀ k, L.M R.n k → ¬ N k) : RackAt w' M L R := by
  have hlp := h.ltp
  have hld := h.ltd
  obtain ⟨cs, hcs⟩ := h.rows
  exact ⟨(ht.block _ hlp (hN _ (L.M_p _))).trans h.row, ⟨cs, (ht.block _ hld (hN _ (L.M_db _))).trans hcs⟩, fun i hi => (h.drv i hi).turn ht hNM (hN _ (L.M_db _)) (hN _ (L.M_lb hi)) (hN _ (L.M_mb hi)), h.apart, h.sub, fun k hk => Nat.lt_of_lt_of_le (h.low k hk) ht.size, h.few, h.fewS, h.big⟩
/-- .. while only new blocks come. -/
theorem RackAt.below (h : RackAt w M L R) (hb : Below w.heap.size w w') : RackAt w' M L R := h.keep (Turn.of_below (M := fun _ => False) hb) (fun _ x => x.elim) (fun _ _ x => x)
theorem RackAt.drew (h : RackAt w M L R) : RackAt w.drew M L R := h.keep (turn_drew (fun _ => False) w) (fun _ x => x.elim) (fun _ _ x => x)
theorem CacheD.wide {M' : Nat → Prop} {S mb n : Nat} {C : Nat → Option (List Int)} {D : DataW Unit} (h : CacheD w M S mb C n D) (hM : ∀ k, M' k → M k ∨ w.heap.size ≤ k) : CacheD w M' S mb C n D :=
  ⟨h.own, h.has, fun s zs hs hc => by
    obtain ⟨g, hg, ha, hy⟩ := h.lies s zs hs hc
    refine ⟨g, fun x => ?_, ha, hy⟩
    rcases hM g x with h1 | h1
    · exact hg h1
    · rcases hy.place with h0 | ⟨b, off, e, hlt, _⟩
      · omega
      · cases e; omega, h.keys⟩
/-- More blocks may turn from here on, new ones. -/
theorem RackAt.wide {M' : Nat → Prop} (h : RackAt w M L R) (hb : Below w.heap.size w w') (hM : ∀ k, M' k → M k ∨ w.heap.size ≤ k) (hM2 : ∀ k, M k → M' k) (hlow : ∀ k, M' k → k < w'.heap.size) : RackAt w' M' L R := by
  have h' : ∀ i, i < R.n → DrvAt w M' R.S L.db (i * 4) (L.lb i) (L.mb i) (R.d i) := fun i hi => by
    have hd := h.drv i hi
    obtain ⟨n, D, hc⟩ := hd.cache
    exact ⟨hd.c0, hd.c1, hd.c2, hd.c3, hd.blk, hd.len, hd.small, ⟨n, D, hc.wide hM⟩, hd.big⟩
  have ht := Turn.of_below (M := fun _ => False) hb
  obtain ⟨cs, hcs⟩ := h.rows
  exact ⟨(ht.block _ h.ltp (fun x => x)).trans h.row, ⟨cs, (ht.block _ h.ltd (fun x => x)).trans hcs⟩, fun i hi => (h' i hi).turn ht (fun _ x => x.elim) (fun x => x) (fun x => x) (fun x => x), h.apart, fun k hk => hM2 k (h.sub k hk), hlow, h.few, h.fewS, h.big⟩

def Rk.setD (R : Rk) (i : Nat) (d : Dk) : Rk := { R with d := fun j => if j = i then d else R.d j }
/-- One disk's own two blocks have turned. -/
theorem RackAt.drive (h : RackAt w M L R) {i : Nat} (hi : i < R.n) {d : Dk} (ht : Turn (Own2 (L.lb i) (L.mb i)) w w') (hd : DrvAt w' M R.S L.db (i * 4) (L.lb i) (L.mb i) d) : RackAt w' M L (R.setD i d) := by
  have A := h.apart
  have hlp := h.ltp
  have hld := h.ltd
  obtain ⟨cs, hcs⟩ := h.rows
  have hp : ¬ Own2 (L.lb i) (L.mb i) L.p := fun x => x.elim (fun e => A.lp i hi e.symm) (fun e => A.mp i hi e.symm)
  have hdb : ¬ Own2 (L.lb i) (L.mb i) L.db := fun x => x.elim (fun e => A.ld i hi e.symm) (fun e => A.md i hi e.symm)
  refine ⟨(ht.block _ hlp hp).trans h.row, ⟨cs, (ht.block _ hld hdb).trans hcs⟩, fun j hj => ?_, A, h.sub, fun k hk => Nat.lt_of_lt_of_le (h.low k hk) ht.size, h.few, h.fewS, h.big⟩
  show DrvAt w' M R.S L.db (j * 4) (L.lb j) (L.mb j) (if j = i then d else R.d j)
  by_cases e : j = i
  · subst e
    rw [if_pos rfl]
    exact hd
  · rw [if_neg e]
    refine (h.drv j hj).turn ht (fun k x => x.elim (fun e => e ▸ h.sub _ (L.M_lb hi)) (fun e => e ▸ h.sub _ (L.M_mb hi))) hdb ?_ ?_
    · exact fun x => x.elim (fun e' => A.ll j i hj hi e e') (fun e' => A.lm j i hj hi e')
    · exact fun x => x.elim (fun e' => A.lm i j hi hj e'.symm) (fun e' => A.mm j i hj hi e e')

/-- A store into the rack's own block. -/
theorem RackAt.setP (h : RackAt w M L R) (i : Nat) (u : Value) (off : Bool) (cnt : Int) (hc : cnt ≤ 9223372036854775807)
    (e : (#[.slice (some ⟨L.db, 0, none⟩) R.n R.n, .int .i64 R.S, .bool R.off, .int .i64 R.cnt] : Array Value).setIfInBounds i u = #[.slice (some ⟨L.db, 0, none⟩) R.n R.n, .int .i64 R.S, .bool off, .int .i64 cnt]) :
    RackAt (w.setCell ⟨L.p, i, none⟩ u) M L { R with off := off, cnt := cnt } := by
  have A := h.apart
  have ht := turn_set w L.p i u
  obtain ⟨cs, hcs⟩ := h.rows
  refine ⟨by rw [cells_set h.row, e], ⟨cs, (ht.block _ h.ltd (Ne.symm A.pd)).trans hcs⟩, fun j hj => ?_, A, h.sub, fun k hk => Nat.lt_of_lt_of_le (h.low k hk) ht.size, h.few, h.fewS, hc⟩
  exact (h.drv j hj).turn ht (fun k x => x ▸ h.sub _ (L.M_p _)) (Ne.symm A.pd) (A.lp j hj) (A.mp j hj)
theorem RackAt.setOff (h : RackAt w M L R) (x : Bool) : RackAt (w.setCell ⟨L.p, 2, none⟩ (.bool x)) M L { R with off := x } := h.setP 2 _ x R.cnt h.big rfl
theorem RackAt.setCnt (h : RackAt w M L R) (n : Int) (hn : n ≤ 9223372036854775807) : RackAt (w.setCell ⟨L.p, 3, none⟩ (.int .i64 n)) M L { R with cnt := n } := h.setP 3 _ R.off n hn rfl

theorem cell_set_other (w : World) (b i j : Nat) (u : Value) (h : j ≠ i) : (w.setCell ⟨b, i, none⟩ u).cell? ⟨b, j, none⟩ = w.cell? ⟨b, j, none⟩ :=
  World.cell?_setCell_other w _ _ _ (fun e => h (by cases e; rfl))
theorem cell_set_same (w : World) (b i : Nat) (u v : Value) (h : w.cell? ⟨b, i, none⟩ = some v) : (w.setCell ⟨b, i, none⟩ u).cell? ⟨b, i, none⟩ = some u :=
  World.cell?_setCell_same w _ _ h

/-- A store into one of a disk's cells. -/
theorem RackAt.setDrv (h : RackAt w M L R) {i : Nat} (hi : i < R.n) (j : Nat) (u : Value) (hj : j = 2 ∨ j = 3) (bad : Bool) (cnt : Int) (hc : cnt ≤ 9223372036854775807) (e2 : if j = 2 then u = .bool bad else (R.d i).bad = bad) (e3 : if j = 3 then u = .int .i64 cnt else (R.d i).cnt = cnt) :
    RackAt (w.setCell ⟨L.db, i * 4 + j, none⟩ u) M L (R.setD i { R.d i with bad := bad, cnt := cnt }) := by
  have A := h.apart
  have ht := turn_set w L.db (i * 4 + j) u
  obtain ⟨cs, hcs⟩ := h.rows
  refine ⟨(ht.block _ h.ltp A.pd).trans h.row, ⟨_, cells_set hcs⟩, fun k hk => ?_, A, h.sub, fun k hk => Nat.lt_of_lt_of_le (h.low k hk) ht.size, h.few, h.fewS, h.big⟩
  have hd := h.drv k hk
  show DrvAt _ M R.S L.db (k * 4) (L.lb k) (L.mb k) (if k = i then { R.d i with bad := bad, cnt := cnt } else R.d k)
  have hb : Blk (w.setCell ⟨L.db, i * 4 + j, none⟩ u) (L.lb k) (R.d k).last := hd.blk.turn ht (A.ld k hk)
  have hca : CacheAt (w.setCell ⟨L.db, i * 4 + j, none⟩ u) M R.S (L.mb k) (R.d k).cache := hd.cache.turn (ht.mono fun k x => x ▸ h.sub _ (L.M_db _)) (ht.block _ hd.cache.lt (A.md k hk))
  by_cases e : k = i
  · subst e
    rw [if_pos rfl]
    refine ⟨(cell_set_other w _ _ _ u (by omega)).trans hd.c0, (cell_set_other w _ _ _ u (by omega)).trans hd.c1, ?_, ?_, hb, hd.len, hd.small, hca, hc⟩
    · rcases hj with rfl | rfl
      · rw [if_pos rfl] at e2
        rw [e2]
        exact cell_set_same w _ _ _ _ hd.c2
      · rw [if_neg (by omega)] at e2
        exact (cell_set_other w _ _ _ u (by omega)).trans (e2 ▸ hd.c2)
    · rcases hj with rfl | rfl
      · rw [if_neg (by omega)] at e3
        exact (cell_set_other w _ _ _ u (by omega)).trans (e3 ▸ hd.c3)
      · rw [if_pos rfl] at e3
        rw [e3]
        exact cell_set_same w _ _ _ _ hd.c3
  · rw [if_neg e]
    exact ⟨(cell_set_other w _ _ _ u (by omega)).trans hd.c0, (cell_set_other w _ _ _ u (by omega)).trans hd.c1, (cell_set_other w _ _ _ u (by omega)).trans hd.c2, (cell_set_other w _ _ _ u (by omega)).trans hd.c3, hb, hd.len, hd.small, hca, hd.big⟩
end

end Go.Proofs.Ytciddoeeiamndaa
