/-
  A map's keys, sorted.
-/
import Derived.Test.YtegmeoghonolcaaGreatLay
import Derived.Test.YtegmeoghonolcaaGreatDva
import Derived.StillTailTactics
set_option linter.unusedSimpArgs false
set_option linter.unusedVariables false
namespace Go.Proofs.YtegmeoghonolcaaGreat
open Go.RowKit Go.Maps Go.Sort Go.Shelf

theorem ins_turn {M : Nat → Prop} {w w' : World} {a : Option Addr} {n : Nat} {ks : List Int} (h : Ins w a n ks) (ht : Turn M w w') (hm : ∀ b off, a = some ⟨b, off, none⟩ → ¬ M b) : Ins w' a n ks := by
  refine ⟨h.1, ?_⟩
  rcases h.2 with h0 | ⟨b, off, ha, hlt, hc⟩
  · exact .inl h0
  · exact .inr ⟨b, off, ha, Nat.lt_of_lt_of_le hlt ht.size, fun i hi => (ht.cell (a := ⟨b, off + i, none⟩) hlt (hm b off ha)).trans (hc i hi)⟩

theorem ins_turn' {M : Nat → Prop} {w w' : World} {a : Option Addr} {n : Nat} {ks : List Int} (h : Ins w a n ks) (ht : Turn M w w') (hm : n = 0 ∨ ∀ b off, a = some ⟨b, off, none⟩ → ¬ M b) : Ins w' a n ks := by
  rcases hm with rfl | hm
  · exact ⟨h.1, .inl rfl⟩
  · exact ins_turn h ht hm

/-- The cached sectors, in rising order; how many of them lie ahead of a sector. -/
def cN (S : Nat) (C : Nat → Option (List Int)) : List Nat := (List.range S).filter fun s => (C s).isSome
def rank (C : Nat → Option (List Int)) (s : Nat) : Nat := (cN s C).length
theorem cN_succ (S : Nat) (C : Nat → Option (List Int)) : cN (S + 1) C = cN S C ++ if (C S).isSome then [S] else [] := by
  unfold cN
  rw [List.range_succ, List.filter_append]
  congr 1
  simp [List.filter_cons]
theorem rank_succ (C : Nat → Option (List Int)) (s : Nat) : rank C (s + 1) = rank C s + if (C s).isSome then 1 else 0 := by
  unfold rank
  rw [cN_succ, List.length_append]
  split <;> rfl
theorem rank_le (C : Nat → Option (List Int)) (s : Nat) : rank C s ≤ s := by
  induction s with
  | zero => exact Nat.le_refl _
  | succ n ih => rw [rank_succ]; split <;> omega
theorem cN_sorted (S : Nat) (C : Nat → Option (List Int)) : (cN S C).Pairwise (· < ·) := List.Pairwise.filter _ List.pairwise_lt_range
theorem mem_cN {S : Nat} {C : Nat → Option (List Int)} {s : Nat} : s ∈ cN S C ↔ s < S ∧ (C s).isSome = true := by simp [cN]

/-- As numbers. -/
def cZ (S : Nat) (C : Nat → Option (List Int)) : List Int := (cN S C).map fun (s : Nat) => (s : Int)
theorem cZ_len (S : Nat) (C : Nat → Option (List Int)) : (cZ S C).length = rank C S := by simp [cZ, rank]
theorem cZ_nodup (S : Nat) (C : Nat → Option (List Int)) : (cZ S C).Nodup := by
  unfold cZ List.Nodup
  rw [List.pairwise_map]
  exact (cN_sorted S C).imp fun h => by omega

theorem CacheD.perm {w : World} {M : Nat → Prop} {S mb n : Nat} {C : Nat → Option (List Int)} {D : DataW Unit} (h : CacheD w M S mb C n D) : (cZ S C).Perm (intKeys D) := by
  obtain ⟨es, hD, hpw, _⟩ := h.own.entries law3
  obtain ⟨es', hD', hko⟩ := h.own.keysOf
  obtain rfl : es = es' := by rw [hD] at hD'; simpa using hD'
  subst hD
  refine perm_intKeys hpw (fun p hp => by obtain ⟨v, hv⟩ := hko p hp; obtain ⟨x, _, hx, _⟩ := Maps.keyOf_i64 Tryz.underlying3 hv; exact ⟨x, hx⟩) (cZ_nodup S C) fun x => ?_
  constructor
  · intro hx
    obtain ⟨s, hs, rfl⟩ := List.mem_map.1 hx
    obtain ⟨h1, h2⟩ := mem_cN.1 hs
    exact (h.has s h1).trans h2
  · intro hx
    obtain ⟨s, hs, e⟩ := h.keys _ hx
    obtain rfl : x = (s : Int) := by simpa [keyI] using e
    exact List.mem_map.2 ⟨s, mem_cN.2 ⟨hs, (h.has s hs).symm.trans hx⟩, rfl⟩
theorem CacheD.size {w : World} {M : Nat → Prop} {S mb n : Nat} {C : Nat → Option (List Int)} {D : DataW Unit} (h : CacheD w M S mb C n D) : Maps.size D ≤ S := by
  have e : Maps.size D = (intKeys D).length := by
    obtain ⟨es, rfl⟩ := h.own.isMap
    simp [Maps.size, intKeys]
  rw [e, ← h.perm.length_eq, cZ_len]
  exact rank_le C S

theorem CacheD.tight {w : World} {M : Nat → Prop} {S mb n : Nat} {C : Nat → Option (List Int)} {D : DataW Unit} (h : CacheD w M S mb C n D) : CacheD w M S mb C S D := by
  have hs := h.size
  obtain ⟨es, clock, hb, F, _, hD⟩ := h.own
  refine ⟨⟨es, clock, hb, F, ?_, hD⟩, h.has, h.lies, h.keys⟩
  rw [hD] at hs
  simpa [Maps.size, length_sorted] using hs

end Go.Proofs.YtegmeoghonolcaaGreat

/-
  'flush' of a disk, by contract.
-/
namespace Go.Proofs.YtegmeoghonolcaaGreat
open Go.RowKit Go.Maps

/-- The sectors behind those of the cached ones that have come. -/
def Half (S : Nat) (d : Dk) (left : Lit → Bool) (L : List Int) : Prop := ∀ s, s < S → sec L s = if left (keyI s) then sec d.last s else d.read s

theorem Half.start {w : World} {M : Nat → Prop} {S mb n : Nat} {d : Dk} {D : DataW Unit} (h : CacheD w M S mb d.cache n D) : Half S d (Maps.has D) d.last := fun s hs => by
  rw [h.has s hs]
  unfold Dk.read
  cases d.cache s <;> simp
theorem Half.step {S : Nat} {d : Dk} {left : Lit → Bool} {L zs : List Int} {s : Nat} (h : Half S d left L) (hl : L.length = S * 64) (hs : s < S) (hz : zs.length = 64) (hc : d.cache s = some zs) : Half S d (fun z => left z && !z.sameKey (keyI s)) (upd L s zs) := fun t ht => by
  by_cases e : t = s
  · subst e
    rw [sec_same hl hs hz]
    simp [Lit.sameKey, Dk.read, hc]
  · rw [sec_other hl hs ht hz e, h t ht]
    have : (keyI t).sameKey (keyI s) = false := by simp [Lit.sameKey]; omega
    simp [this]
theorem Dk.read_len {w : World} {M : Nat → Prop} {S db o lb mb s : Nat} {d : Dk} (h : DrvAt w M S db o lb mb d) (hs : s < S) : (d.read s).length = 64 ∧ AllB (d.read s) := by
  obtain ⟨n, D, hc⟩ := h.cache
  unfold Dk.read
  cases e : d.cache s with
  | none => exact ⟨sec_len h.len hs, h.small.sec s⟩
  | some zs => exact hc.small hs e
theorem Half.done {w : World} {M : Nat → Prop} {S db o lb mb : Nat} {d : Dk} {left : Lit → Bool} {L : List Int} (hd : DrvAt w M S db o lb mb d) (h : Half S d left L) (hl : L.length = S * 64) (hf : ∀ kl, left kl = false) : L = joinS S d.read := by
  have hj : ∀ s, s < S → (d.read s).length = 64 := fun s hs => (Dk.read_len hd hs).1
  refine sec_ext hl (joinS_len hj) fun s hs => ?_
  rw [sec_join hj hs, h s hs, hf]
  rfl

/-- A disk whose cached sectors last. -/
def Dk.flush (S : Nat) (d : Dk) : Dk := { d with last := joinS S d.read, cache := noneC }

set_option maxHeartbeats 800000 in
theorem flush_any (M : Nat → Prop) (S db o lb mb : Nat) (d : Dk) (w : World) (h : DrvAt w M S db o lb mb d) (h1 : lb ≠ mb) (h2 : db ≠ lb) (h3 : db ≠ mb) (m1 : M lb) (hS : S ≤ 4096) :
    Calls Tryz.prog 75 #[.pointer (some ⟨db, o, none⟩)] w fun e w' => e = .returned (.tuple #[]) ∧ Turn (Own2 lb mb) w w' ∧ DrvAt w' M S db o lb mb (d.flush S) := by
  obtain ⟨nn, D, hc⟩ := h.cache
  have c0 := h.c0
  have c1 := h.c1
  have hdb := h.lt
  have hlb := h.blk.lt
  have hmb := hc.own.lt
  go_enter Tryz.func75, Tryz.ntmps75
  go_wp2_with (at_range; refine wpList_range_own _ rfl _ 79 rfl 3 42 law3 Tryz.underlying79 _ mb nn _ rfl hc.own ?_; intro w0 hrg0 hg0 hs0)
  go_frame
  clear hs0
  go_loopw [2, 3] (fun _ _ wr => ∃ (left : Lit → Bool) (cnt : Nat) (L : List Int), wr.ranges Tryz.prog 3 elemR mb w.heap.size nn D left cnt ∧ Turn (· = lb) w wr ∧ Blk wr lb L ∧ L.length = S * 64 ∧ AllB L ∧ Half S d left L)
    (fun _ _ wr => wr.rangeLeft mb w.heap.size)
  case atStart =>
    have t0 : Turn (· = lb) w w0 := ⟨hg0.os, hg0.tape, hg0.output, hg0.size, fun k hk _ => hg0.block k hk (by simp)⟩
    exact ⟨_, _, d.last, hrg0, t0, ⟨(hg0.block lb hlb (by simp)).trans h.blk.row⟩, h.len, h.small, Half.start hc⟩
  case round =>
    obtain ⟨left, cnt, L, hrg, ht, hb, hl, hsm, hH⟩ := hrel
    have hlb' : lb < wr.heap.size := hb.lt
    have hcr : CacheD wr M S mb d.cache nn D := hc.turn (ht.mono fun k e => by rw [e]; exact m1) (ht.block mb hmb (Ne.symm h1))
    have a0 := (ht.cell (a := ⟨db, o, none⟩) hdb h2).trans c0
    have a1 := (ht.cell (a := ⟨db, o + 1, none⟩) hdb h2).trans c1
    have hrw : Hid (w.heap.size ≠ lb) := by unfold Hid; omega
    have hrd : Hid (w.heap.size ≠ db) := by unfold Hid; omega
    clear c0 c1
    go_wp2_with (at_next; refine wpList_next_cache rfl _ rfl M S mb w.heap.size nn d.cache D left cnt w hc rfl hrg ?_ ?_)
    · intro hc0 hl0
      clear hc0
      obtain ⟨w2, hclm, hown2, hturn2⟩ := run_clear_map hcr.own Tryz.underlying79
      go_wp2_with (simp only [hclm])
      go_end0
      have t3 := turn_map hturn2
      have hl1 : db < wr.heap.size := Nat.lt_of_lt_of_le hdb ht.size
      have eL := hH.done h hl hl0
      refine ⟨rfl, (ht.mono fun k e => .inl e).trans (t3.mono fun k e => .inr e), (t3.cell (a := ⟨db, o, none⟩) hl1 h3).trans a0, (t3.cell (a := ⟨db, o + 1, none⟩) hl1 h3).trans a1, ?_, ?_, ?_, ?_, ?_, CacheAt.empty hown2, h.big⟩
      · exact (t3.cell (a := ⟨db, o + 2, none⟩) hl1 h3).trans ((ht.cell (a := ⟨db, o + 2, none⟩) hdb h2).trans h.c2)
      · exact (t3.cell (a := ⟨db, o + 3, none⟩) hl1 h3).trans ((ht.cell (a := ⟨db, o + 3, none⟩) hdb h2).trans h.c3)
      · rw [Dk.flush, ← eL]; exact hb.turn t3 h1
      · rw [Dk.flush, ← eL]; exact hl
      · rw [Dk.flush, ← eL]; exact hsm
    · intro s g c zs w1 cnt1 hs hzs hg hy hlk hrg1 hlt hg1 hen
      have t1 : Turn (· = lb) w w1 := ⟨hg1.os.trans ht.os, hg1.tape.trans ht.tape, hg1.output.trans ht.output, Nat.le_trans ht.size hg1.size, fun k hk hn => (hg1.block k (Nat.lt_of_lt_of_le hk ht.size) (fun e => by cases e; omega)).trans (ht.block k hk hn)⟩
      have hb1 : Blk w1 lb L := ⟨(hg1.block lb hlb' (fun e => hrw.out (Option.some.inj e).symm)).trans hb.row⟩
      have b0 : w1.cell? ⟨db, o, none⟩ = some (.slice (some ⟨lb, 0, none⟩) (S * 64) (S * 64)) := (t1.cell (a := ⟨db, o, none⟩) hdb h2).trans h.c0
      have hy1 : Bys w1 (some ⟨g, 0, none⟩) 64 zs := bys_turn hy t1 (fun b off e x => by cases e; exact hg (x ▸ m1))
      have hme : Hid (wr.rangeLeft mb w.heap.size = cnt) := Lib.hid hrg.left_eq
      clear hy hrg hb ht a0 a1
      go_wp2_with (first
        | (go_at_call 115; refine (lastingOf_any db o lb s S w1 b0 hs hS).mono ?_; rintro e w' ⟨rfl, rfl⟩)
        | ((with_reducible refine wpList_cps rfl (.tmp 16) (.tmp 17) rfl lb s S _ g 0 c rfl rfl L zs hb1 hl hs hy1 ?_); intro w2 hb2 ht2; go_frame))
      have hrg2 := hrg1.kept (w' := w2) (row := some lb) ⟨ht2.os, ht2.tape, ht2.output, ht2.size, fun k hk hn => ht2.block k hk (fun e => hn (by rw [e]))⟩ (fun e => h1 (Option.some.inj e).symm) (fun e => hrw.out (Option.some.inj e))
      have t2 := t1.trans ht2
      have hz := hy1.len
      have hzs2 := hy1.small
      go_roundw
      case rel => exact ⟨_, cnt1, _, hrg2, t2, hb2, upd_len hl hs hz, hsm.upd hzs2 s, hH.step hl hs hz hzs⟩
      case measure => rw [hrg2.left_eq, hme.out]; exact hlt

end Go.Proofs.YtegmeoghonolcaaGreat

/-
  'restore' of a disk, by contract.
-/
namespace Go.Proofs.YtegmeoghonolcaaGreat
open Go.RowKit Go.Maps

theorem turn_drew (M : Nat → Prop) (w : World) : Turn M w w.drew := ⟨rfl, rfl, rfl, Nat.le_refl _, fun _ _ _ => rfl⟩
end Go.Proofs.YtegmeoghonolcaaGreat

/-
  'newDrive', by contract.
-/
namespace Go.Proofs.YtegmeoghonolcaaGreat
open Go.RowKit Go.Maps

def newDk (S : Nat) : Dk := ⟨List.replicate (S * 64) 0, noneC, false, -1⟩
/-- What 'newDrive' answers: a struct whose slice and map lie in new blocks. -/
def NewDrvRet (S : Nat) (w : World) (e : Ending) (w' : World) : Prop := ∃ lb mb : Nat, e = .returned (.agg #[.slice (some ⟨lb, 0, none⟩) (S * 64) (S * 64), .map (some mb), .bool false, .int .i64 (-1)]) ∧
  w.heap.size ≤ lb ∧ w.heap.size ≤ mb ∧ lb ≠ mb ∧ lb < w'.heap.size ∧ mb < w'.heap.size ∧ Blk w' lb (List.replicate (S * 64) 0) ∧ w'.ownsMap Tryz.prog 3 elemR mb 0 (.map []) ∧ Below w.heap.size w w'

theorem newDrv_row {w w1 : World} {u0 u1 u2 u3 : Value} {t : TypeId} {o : Obj} (hl : Below (w.alloc o).heap.size (w.alloc o) w1) (ho : o = .cells #[u0, u1, u2, u3] t (0, 0)) :
    (w1.alloc (.map #[] 0)).cell? ⟨w.heap.size, 0, none⟩ = some u0 ∧ (w1.alloc (.map #[] 0)).cell? ⟨w.heap.size, 1, none⟩ = some u1 ∧ (w1.alloc (.map #[] 0)).cell? ⟨w.heap.size, 2, none⟩ = some u2 ∧ (w1.alloc (.map #[] 0)).cell? ⟨w.heap.size, 3, none⟩ = some u3 ∧
      ∀ i, (w1.alloc (.map #[] 0)).frozen? ⟨w.heap.size, i, none⟩ = false := by
  subst ho
  have h1 : (w1.alloc (.map #[] 0)).heap[w.heap.size]? = some (.cells #[u0, u1, u2, u3] t (0, 0)) := by
    rw [Below.heap_alloc _ _ _ (Nat.lt_of_lt_of_le (by simp) hl.size), hl.block _ (by simp)]
    exact heap_alloc_new w _
  refine ⟨?_, ?_, ?_, ?_, fun i => frozen_of_row _ _ i _ _ h1⟩ <;> (rw [cell_of_row _ _ _ _ _ (0, 0) h1]; rfl)

theorem newDrive_any (S : Nat) (w : World) (hS : S ≤ 4096) :
    Calls Tryz.prog 27 #[.int .i64 S] w (NewDrvRet S w) := by
  have hmm := @run_makeMap Tryz.prog
  have hwr : Hid (((S : Int) * 64) = ((S * 64 : Nat) : Int)) := by unfold Hid; omega
  go_enter Tryz.func27, Tryz.ntmps27
  go_wp2_with (at_make; refine wpList_mk rfl _ _ rfl .i64 .i64 ((S : Int) * 64) ((S : Int) * 64) (S * 64) rfl rfl hwr.out hwr.out (by omega) ?_; intro w1 hb1 hl1; obtain ⟨c0, c1, c2, c3, f⟩ := newDrv_row hl1 (by rfl))
  have e1 : Hid ((w.alloc (.cells #[.slice none 0 0, .map none, .bool false, .int .i64 0] 81)).heap.size = w.heap.size + 1) := by unfold Hid; simp
  refine bodyPost_ret (v := .agg #[.slice (some ⟨w.heap.size + 1, 0, none⟩) (S * 64) (S * 64), .map (some w1.heap.size), .bool false, .int .i64 (-1)]) ?_ rfl ?_
  · clear hl1
    simp [results, Tryz.results27, go_sem, c0, c1, c2, c3]
  · have e2 := e1.out
    have hlt := hb1.lt
    have hs1 := hl1.size
    rw [e2] at hlt hs1
    have hb2 : Blk w1 (w.heap.size + 1) (List.replicate (S * 64) 0) := by rw [e2] at hb1; exact hb1
    have t1 : ∀ u0 u1 u2 u3, Turn (· = w.heap.size) (w1.alloc (.map #[] 0)) (((((w1.alloc (.map #[] 0)).setCell ⟨w.heap.size, 0, none⟩ u0).setCell ⟨w.heap.size, 1, none⟩ u1).setCell ⟨w.heap.size, 2, none⟩ u2).setCell ⟨w.heap.size, 3, none⟩ u3) :=
      fun u0 u1 u2 u3 => (((turn_set _ _ 0 u0).trans (turn_set _ _ 1 u1)).trans (turn_set _ _ 2 u2)).trans (turn_set _ _ 3 u3)
    have t2 := fun u0 u1 u2 u3 => (Turn.of_below (M := (· = w.heap.size)) ((Below.refl w1.heap.size w1).alloc (Nat.le_refl _) (.map #[] 0))).trans (t1 u0 u1 u2 u3)
    have hlw : Below w.heap.size w w1 := ((Below.refl _ _).alloc (Nat.le_refl _) _).trans (hl1.mono (by rw [e2]; omega))
    refine ⟨w.heap.size + 1, w1.heap.size, rfl, by omega, by omega, by omega, ?_, ?_, hb2.turn (t2 _ _ _ _) (by omega), ?_, ?_⟩
    · exact Nat.lt_of_lt_of_le hb2.lt (t2 _ _ _ _).size
    · exact Nat.lt_of_lt_of_le (by simp) (t1 _ _ _ _).size
    · exact ownsMap_of_row (World.ownsMap_made _ _ _ _) ((t1 _ _ _ _).block w1.heap.size (by simp) (by omega))
    · exact hlw.trans ((t2 _ _ _ _).below (by omega) (fun k e => by omega))

end Go.Proofs.YtegmeoghonolcaaGreat

/-
  The program's rack, and how it stands in memory.
-/
namespace Go.Proofs.YtegmeoghonolcaaGreat
open Go.RowKit Go.Maps

/-- What a rack is. -/
structure Rk where
  n : Nat
  S : Nat
  off : Bool
  cnt : Int
  d : Nat → Dk
/-- Where a rack lies: its own block, its disks', each disk's bytes and its map. -/
structure Lay where
  p : Nat
  db : Nat
  lb : Nat → Nat
  mb : Nat → Nat
/-- The blocks that a rack's calls write. -/
def Lay.M (L : Lay) (n : Nat) : Nat → Prop := fun k => k = L.p ∨ k = L.db ∨ ∃ i, i < n ∧ (k = L.lb i ∨ k = L.mb i)

/-- No two of them are one. -/
structure Lay.Apart (L : Lay) (n : Nat) : Prop where
  pd : L.p ≠ L.db
  lp : ∀ i, i < n → L.lb i ≠ L.p
  ld : ∀ i, i < n → L.lb i ≠ L.db
  mp : ∀ i, i < n → L.mb i ≠ L.p
  md : ∀ i, i < n → L.mb i ≠ L.db
  lm : ∀ i j, i < n → j < n → L.lb i ≠ L.mb j
  ll : ∀ i j, i < n → j < n → i ≠ j → L.lb i ≠ L.lb j
  mm : ∀ i j, i < n → j < n → i ≠ j → L.mb i ≠ L.mb j

structure RackAt (w : World) (M : Nat → Prop) (L : Lay) (R : Rk) : Prop where
  row : w.heap[L.p]? = some (.cells #[.slice (some ⟨L.db, 0, none⟩) R.n R.n, .int .i64 R.S, .bool R.off, .int .i64 R.cnt] 78 (0, 0))
  rows : ∃ cs, w.heap[L.db]? = some (.cells cs 81 (0, 0))
  drv : ∀ i, i < R.n → DrvAt w M R.S L.db (i * 4) (L.lb i) (L.mb i) (R.d i)
  apart : L.Apart R.n
  sub : ∀ k, L.M R.n k → M k
  low : ∀ k, M k → k < w.heap.size
  few : R.n ≤ 17
  fewS : R.S ≤ 4096
  big : R.cnt ≤ 9223372036854775807

theorem Lay.M_p (L : Lay) (n : Nat) : L.M n L.p := .inl rfl
theorem Lay.M_db (L : Lay) (n : Nat) : L.M n L.db := .inr (.inl rfl)
theorem Lay.M_lb (L : Lay) {n i : Nat} (h : i < n) : L.M n (L.lb i) := .inr (.inr ⟨i, h, .inl rfl⟩)
theorem Lay.M_mb (L : Lay) {n i : Nat} (h : i < n) : L.M n (L.mb i) := .inr (.inr ⟨i, h, .inr rfl⟩)

section
variable {w w' : World} {M : Nat → Prop} {L : Lay} {R : Rk}
theorem RackAt.c0 (h : RackAt w M L R) : w.cell? ⟨L.p, 0, none⟩ = some (.slice (some ⟨L.db, 0, none⟩) R.n R.n) := by rw [cell_of_row w _ _ _ _ (0, 0) h.row]; rfl
theorem RackAt.c1 (h : RackAt w M L R) : w.cell? ⟨L.p, 1, none⟩ = some (.int .i64 R.S) := by rw [cell_of_row w _ _ _ _ (0, 0) h.row]; rfl
theorem RackAt.c2 (h : RackAt w M L R) : w.cell? ⟨L.p, 2, none⟩ = some (.bool R.off) := by rw [cell_of_row w _ _ _ _ (0, 0) h.row]; rfl
theorem RackAt.c3 (h : RackAt w M L R) : w.cell? ⟨L.p, 3, none⟩ = some (.int .i64 R.cnt) := by rw [cell_of_row w _ _ _ _ (0, 0) h.row]; rfl
theorem RackAt.fp (h : RackAt w M L R) (i : Nat) : w.frozen? ⟨L.p, i, none⟩ = false := frozen_of_row w _ i _ _ h.row
theorem RackAt.fd (h : RackAt w M L R) (i : Nat) : w.frozen? ⟨L.db, i, none⟩ = false := by
  obtain ⟨cs, hcs⟩ := h.rows
  exact frozen_of_row w _ i _ _ hcs
theorem RackAt.ltp (h : RackAt w M L R) : L.p < w.heap.size := lt_of_block h.row
theorem RackAt.ltd (h : RackAt w M L R) : L.db < w.heap.size := by
  obtain ⟨cs, hcs⟩ := h.rows
  exact lt_of_block hcs

/-- A disk stays what it is while other blocks turn. -/
theorem DrvAt.turn {N : Nat → Prop} {S db o lb mb : Nat} {d : Dk} (h : DrvAt w M S db o lb mb d) (ht : Turn N w w') (hNM : ∀ k, N k → M k) (h1 : ¬ N db) (h2 : ¬ N lb) (h3 : ¬ N mb) : DrvAt w' M S db o lb mb d := by
  have hl := h.lt
  refine ⟨(ht.cell (a := ⟨db, o, none⟩) hl h1).trans h.c0, (ht.cell (a := ⟨db, o + 1, none⟩) hl h1).trans h.c1, (ht.cell (a := ⟨db, o + 2, none⟩) hl h1).trans h.c2, (ht.cell (a := ⟨db, o + 3, none⟩) hl h1).trans h.c3, h.blk.turn ht h2, h.len, h.small, ?_, h.big⟩
  exact h.cache.turn (ht.mono hNM) (ht.block mb h.cache.lt h3)

/-- The rack stays what it is while blocks turn that are none of its own. -/
theorem RackAt.keep {N : Nat → Prop} (h : RackAt w M L R) (ht : Turn N w w') (hNM : ∀ k, N k → M k) (hN : ∀ k, L.M R.n k → ¬ N k) : RackAt w' M L R := by
  have hlp := h.ltp
  have hld := h.ltd
  obtain ⟨cs, hcs⟩ := h.rows
  exact ⟨(ht.block _ hlp (hN _ (L.M_p _))).trans h.row, ⟨cs, (ht.block _ hld (hN _ (L.M_db _))).trans hcs⟩, fun i hi => (h.drv i hi).turn ht hNM (hN _ (L.M_db _)) (hN _ (L.M_lb hi)) (hN _ (L.M_mb hi)), h.apart, h.sub, fun k hk => Nat.lt_of_lt_of_le (h.low k hk) ht.size, h.few, h.fewS, h.big⟩
/-- .. while only new blocks come. -/
theorem RackAt.below (h : RackAt w M L R) (hb : Below w.heap.size w w') : RackAt w' M L R := h.keep (Turn.of_below (M := fun _ => False) hb) (fun _ x => x.elim) (fun _ _ x => x)
theorem RackAt.drew (h : RackAt w M L R) : RackAt w.drew M L R := h.keep (turn_drew (fun _ => False) w) (fun _ x => x.elim) (fun _ _ x => x)
theorem CacheD.wide {M' : Nat → Prop} {S mb n : Nat} {C : Nat → Option (List Int)} {D : DataW Unit} (h : CacheD w M S mb C n D) (hM : ∀ k, M' k → M k ∨ w.heap.size ≤ k) : CacheD w M' S mb C n D :=
  ⟨h.own, h.has, fun s zs hs hc => by
    obtain ⟨g, hg, ha, hy⟩ := h.lies s zs hs hc
    refine ⟨g, fun x => ?_, ha, hy⟩
    rcases hM g x with h1 | h1
    · exact hg h1
    · rcases hy.place with h0 | ⟨b, off, e, hlt, _⟩
      · omega
      · cases e; omega, h.keys⟩
/-- More blocks may turn from here on, new ones. -/
theorem RackAt.wide {M' : Nat → Prop} (h : RackAt w M L R) (hb : Below w.heap.size w w') (hM : ∀ k, M' k → M k ∨ w.heap.size ≤ k) (hM2 : ∀ k, M k → M' k) (hlow : ∀ k, M' k → k < w'.heap.size) : RackAt w' M' L R := by
  have h' : ∀ i, i < R.n → DrvAt w M' R.S L.db (i * 4) (L.lb i) (L.mb i) (R.d i) := fun i hi => by
    have hd := h.drv i hi
    obtain ⟨n, D, hc⟩ := hd.cache
    exact ⟨hd.c0, hd.c1, hd.c2, hd.c3, hd.blk, hd.len, hd.small, ⟨n, D, hc.wide hM⟩, hd.big⟩
  have ht := Turn.of_below (M := fun _ => False) hb
  obtain ⟨cs, hcs⟩ := h.rows
  exact ⟨(ht.block _ h.ltp (fun x => x)).trans h.row, ⟨cs, (ht.block _ h.ltd (fun x => x)).trans hcs⟩, fun i hi => (h' i hi).turn ht (fun _ x => x.elim) (fun x => x) (fun x => x) (fun x => x), h.apart, fun k hk => hM2 k (h.sub k hk), hlow, h.few, h.fewS, h.big⟩

def Rk.setD (R : Rk) (i : Nat) (d : Dk) : Rk := { R with d := fun j => if j = i then d else R.d j }
/-- One disk's own two blocks have turned. -/
theorem RackAt.drive (h : RackAt w M L R) {i : Nat} (hi : i < R.n) {d : Dk} (ht : Turn (Own2 (L.lb i) (L.mb i)) w w') (hd : DrvAt w' M R.S L.db (i * 4) (L.lb i) (L.mb i) d) : RackAt w' M L (R.setD i d) := by
  have A := h.apart
  have hlp := h.ltp
  have hld := h.ltd
  obtain ⟨cs, hcs⟩ := h.rows
  have hp : ¬ Own2 (L.lb i) (L.mb i) L.p := fun x => x.elim (fun e => A.lp i hi e.symm) (fun e => A.mp i hi e.symm)
  have hdb : ¬ Own2 (L.lb i) (L.mb i) L.db := fun x => x.elim (fun e => A.ld i hi e.symm) (fun e => A.md i hi e.symm)
  refine ⟨(ht.block _ hlp hp).trans h.row, ⟨cs, (ht.block _ hld hdb).trans hcs⟩, fun j hj => ?_, A, h.sub, fun k hk => Nat.lt_of_lt_of_le (h.low k hk) ht.size, h.few, h.fewS, h.big⟩
  show DrvAt w' M R.S L.db (j * 4) (L.lb j) (L.mb j) (if j = i then d else R.d j)
  by_cases e : j = i
  · subst e
    rw [if_pos rfl]
    exact hd
  · rw [if_neg e]
    refine (h.drv j hj).turn ht (fun k x => x.elim (fun e => e ▸ h.sub _ (L.M_lb hi)) (fun e => e ▸ h.sub _ (L.M_mb hi))) hdb ?_ ?_
    · exact fun x => x.elim (fun e' => A.ll j i hj hi e e') (fun e' => A.lm j i hj hi e')
    · exact fun x => x.elim (fun e' => A.lm i j hi hj e'.symm) (fun e' => A.mm j i hj hi e e')

/-- A store into the rack's own block. -/
theorem RackAt.setP (h : RackAt w M L R) (i : Nat) (u : Value) (off : Bool) (cnt : Int) (hc : cnt ≤ 9223372036854775807)
    (e : (#[.slice (some ⟨L.db, 0, none⟩) R.n R.n, .int .i64 R.S, .bool R.off, .int .i64 R.cnt] : Array Value).setIfInBounds i u = #[.slice (some ⟨L.db, 0, none⟩) R.n R.n, .int .i64 R.S, .bool off, .int .i64 cnt]) :
    RackAt (w.setCell ⟨L.p, i, none⟩ u) M L { R with off := off, cnt := cnt } := by
  have A := h.apart
  have ht := turn_set w L.p i u
  obtain ⟨cs, hcs⟩ := h.rows
  refine ⟨by rw [cells_set h.row, e], ⟨cs, (ht.block _ h.ltd (Ne.symm A.pd)).trans hcs⟩, fun j hj => ?_, A, h.sub, fun k hk => Nat.lt_of_lt_of_le (h.low k hk) ht.size, h.few, h.fewS, hc⟩
  exact (h.drv j hj).turn ht (fun k x => x ▸ h.sub _ (L.M_p _)) (Ne.symm A.pd) (A.lp j hj) (A.mp j hj)
theorem RackAt.setOff (h : RackAt w M L R) (x : Bool) : RackAt (w.setCell ⟨L.p, 2, none⟩ (.bool x)) M L { R with off := x } := h.setP 2 _ x R.cnt h.big rfl
theorem RackAt.setCnt (h : RackAt w M L R) (n : Int) (hn : n ≤ 9223372036854775807) : RackAt (w.setCell ⟨L.p, 3, none⟩ (.int .i64 n)) M L { R with cnt := n } := h.setP 3 _ R.off n hn rfl

theorem cell_set_other (w : World) (b i j : Nat) (u : Value) (h : j ≠ i) : (w.setCell ⟨b, i, none⟩ u).cell? ⟨b, j, none⟩ = w.cell? ⟨b, j, none⟩ :=
  World.cell?_setCell_other w _ _ _ (fun e => h (by cases e; rfl))
theorem cell_set_same (w : World) (b i : Nat) (u v : Value) (h : w.cell? ⟨b, i, none⟩ = some v) : (w.setCell ⟨b, i, none⟩ u).cell? ⟨b, i, none⟩ = some u :=
  World.cell?_setCell_same w _ _ h

/-- A store into one of a disk's cells. -/
theorem RackAt.setDrv (h : RackAt w M L R) {i : Nat} (hi : i < R.n) (j : Nat) (u : Value) (hj : j = 2 ∨ j = 3) (bad : Bool) (cnt : Int) (hc : cnt ≤ 9223372036854775807) (e2 : if j = 2 then u = .bool bad else (R.d i).bad = bad) (e3 : if j = 3 then u = .int .i64 cnt else (R.d i).cnt = cnt) :
    RackAt (w.setCell ⟨L.db, i * 4 + j, none⟩ u) M L (R.setD i { R.d i with bad := bad, cnt := cnt }) := by
  have A := h.apart
  have ht := turn_set w L.db (i * 4 + j) u
  obtain ⟨cs, hcs⟩ := h.rows
  refine ⟨(ht.block _ h.ltp A.pd).trans h.row, ⟨_, cells_set hcs⟩, fun k hk => ?_, A, h.sub, fun k hk => Nat.lt_of_lt_of_le (h.low k hk) ht.size, h.few, h.fewS, h.big⟩
  have hd := h.drv k hk
  show DrvAt _ M R.S L.db (k * 4) (L.lb k) (L.mb k) (if k = i then { R.d i with bad := bad, cnt := cnt } else R.d k)
  have hb : Blk (w.setCell ⟨L.db, i * 4 + j, none⟩ u) (L.lb k) (R.d k).last := hd.blk.turn ht (A.ld k hk)
  have hca : CacheAt (w.setCell ⟨L.db, i * 4 + j, none⟩ u) M R.S (L.mb k) (R.d k).cache := hd.cache.turn (ht.mono fun k x => x ▸ h.sub _ (L.M_db _)) (ht.block _ hd.cache.lt (A.md k hk))
  by_cases e : k = i
  · subst e
    rw [if_pos rfl]
    refine ⟨(cell_set_other w _ _ _ u (by omega)).trans hd.c0, (cell_set_other w _ _ _ u (by omega)).trans hd.c1, ?_, ?_, hb, hd.len, hd.small, hca, hc⟩
    · rcases hj with rfl | rfl
      · rw [if_pos rfl] at e2
        rw [e2]
        exact cell_set_same w _ _ _ _ hd.c2
      · rw [if_neg (by omega)] at e2
        exact (cell_set_other w _ _ _ u (by omega)).trans (e2 ▸ hd.c2)
    · rcases hj with rfl | rfl
      · rw [if_neg (by omega)] at e3
        exact (cell_set_other w _ _ _ u (by omega)).trans (e3 ▸ hd.c3)
      · rw [if_pos rfl] at e3
        rw [e3]
        exact cell_set_same w _ _ _ _ hd.c3
  · rw [if_neg e]
    exact ⟨(cell_set_other w _ _ _ u (by omega)).trans hd.c0, (cell_set_other w _ _ _ u (by omega)).trans hd.c1, (cell_set_other w _ _ _ u (by omega)).trans hd.c2, (cell_set_other w _ _ _ u (by omega)).trans hd.c3, hb, hd.len, hd.small, hca, hd.big⟩
end

end Go.Proofs.YtegmeoghonolcaaGreat

/-
  The rack's 'call', by contract.
-/
namespace Go.Proofs.YtegmeoghonolcaaGreat
open Go.RowKit Go.Maps

def Dk.called (d : Dk) : Dk := { d with bad := d.bad || d.cnt == 0, cnt := if 0 < d.cnt then d.cnt - 1 else d.cnt }
/-- The first k disks have been told of a call. -/
def Rk.told (R : Rk) (k : Nat) : Rk := { R with d := fun j => if j < k then (R.d j).called else R.d j }
theorem Rk.told_zero (R : Rk) : R.told 0 = R := by unfold Rk.told; simp
theorem Rk.told_succ (R : Rk) (k : Nat) : (R.told k).setD k ((R.told k).d k).called = R.told (k + 1) := by
  unfold Rk.told Rk.setD
  simp only [Rk.mk.injEq, true_and]
  funext j
  by_cases h : j = k
  · subst h
    simp
  · rw [if_neg h]
    by_cases h2 : j < k
    · rw [if_pos h2, if_pos (by omega)]
    · rw [if_neg h2, if_neg (by omega)]

theorem RackAt.congr {w : World} {M : Nat → Prop} {L : Lay} {R R' : Rk} (h : RackAt w M L R) (hn : R'.n = R.n) (hS : R'.S = R.S) (ho : R'.off = R.off) (hc : R'.cnt = R.cnt) (hd : ∀ i, i < R.n → R'.d i = R.d i) : RackAt w M L R' := by
  obtain ⟨n, S, off, cnt, d⟩ := R
  obtain ⟨n', S', off', cnt', d'⟩ := R'
  simp only at hn hS ho hc hd
  subst hn hS ho hc
  exact ⟨h.row, h.rows, fun i hi => by show DrvAt w M _ L.db (i * 4) (L.lb i) (L.mb i) (d' i); rw [hd i hi]; exact h.drv i hi, h.apart, h.sub, h.low, h.few, h.fewS, h.big⟩

theorem called_rack (M : Nat → Prop) (L : Lay) (R : Rk) (i : Nat) (w : World) (h : RackAt w M L R) (hi : i < R.n) :
    Calls Tryz.prog 114 #[.pointer (some ⟨L.db, i * 4, none⟩)] w fun e w' => e = .returned (.tuple #[]) ∧ RackAt w' M L (R.setD i (R.d i).called) ∧ Turn (L.M R.n) w w' := by
  have hd := h.drv i hi
  refine (called_any L.db (i * 4) (R.d i).bad (R.d i).cnt w hd.c2 hd.c3 (h.fd _) (h.fd _) hd.big).mono ?_
  rintro e w' ⟨rfl, rfl⟩
  refine ⟨rfl, ?_, ?_⟩
  · have hb := hd.big
    split
    · next h0 =>
      refine (h.setDrv hi 2 (.bool true) (.inl rfl) true (R.d i).cnt hb rfl rfl).congr rfl rfl rfl rfl fun j _ => ?_
      unfold Rk.setD Dk.called
      simp [h0]
    · next h0 =>
      split
      · next h1 =>
        refine (h.setDrv hi 3 (.int .i64 ((R.d i).cnt - 1)) (.inr rfl) (R.d i).bad ((R.d i).cnt - 1) (by omega) rfl rfl).congr rfl rfl rfl rfl fun j _ => ?_
        unfold Rk.setD Dk.called
        have : ((R.d i).cnt == 0) = false := by simpa using h0
        simp [this, h1]
      · next h1 =>
        refine h.congr rfl rfl rfl rfl fun j _ => ?_
        unfold Rk.setD Dk.called
        have : ((R.d i).cnt == 0) = false := by simpa using h0
        by_cases e : j = i
        · subst e; simp [this, h1]
        · simp [e]
  · split
    · exact (turn_set w L.db _ _).mono fun k e => e ▸ L.M_db _
    · split
      · exact (turn_set w L.db _ _).mono fun k e => e ▸ L.M_db _
      · exact Turn.refl _ _

/-- What a call answers, and what it leaves. -/
def Rk.callE (R : Rk) (i : Nat) : Int := if R.cnt = 0 then 12 else if (R.d i).called.bad then 13 else 0
def Rk.call (R : Rk) : Rk := if R.cnt = 0 then { R with off := true } else { R with cnt := if 0 < R.cnt then R.cnt - 1 else R.cnt, d := fun j => (R.d j).called }
def CallPost (M : Nat → Prop) (L : Lay) (R R' : Rk) (w : World) (v : Value) (e : Ending) (w' : World) : Prop := e = .returned v ∧ RackAt w' M L R' ∧ Turn (L.M R.n) w w'

theorem call_dead (M : Nat → Prop) (L : Lay) (R : Rk) (i : Nat) (w : World) (h : RackAt w M L R) (h0 : R.cnt = 0) :
    Calls Tryz.prog 74 #[.pointer (some ⟨L.p, 0, none⟩), .int .i64 i] w (CallPost M L R R.call w (.int .i64 (R.callE i))) := by
  have c2 := h.c2
  have c3 := h.c3
  have f2 := h.fp 2
  rw [h0] at c3
  have h0' : Hid (R.cnt = 0) := h0
  clear h0
  go_enter Tryz.func74, Tryz.ntmps74
  go_wp2
  go_ret
  refine ⟨?_, ?_, (turn_set w L.p 2 _).mono fun k e => e ▸ L.M_p _⟩
  · simp [Rk.callE, h0'.out]
  · unfold Rk.call
    rw [if_pos h0'.out]
    exact h.setOff true

set_option maxHeartbeats 400000 in
theorem call_live (M : Nat → Prop) (L : Lay) (R : Rk) (i : Nat) (w : World) (h : RackAt w M L R) (h0 : R.cnt ≠ 0) (hi : i < R.n) :
    Calls Tryz.prog 74 #[.pointer (some ⟨L.p, 0, none⟩), .int .i64 i] w (CallPost M L R R.call w (.int .i64 (R.callE i))) := by
  obtain ⟨n, hn⟩ : ∃ n, n = R.n := ⟨_, rfl⟩
  have few := h.few
  have big := h.big
  have c0 := h.c0
  have c3 := h.c3
  have f3 := h.fp 3
  rw [← hn] at hi few c0
  have hn' : Hid (n = R.n) := hn
  clear hn
  have hne : (R.cnt == 0) = false := by simpa using h0
  obtain ⟨R0, hR0⟩ : ∃ R0 : Rk, Hid (R0 = { R with cnt := if 0 < R.cnt then R.cnt - 1 else R.cnt }) := ⟨_, Lib.hid rfl⟩
  have hend : Hid (∀ wr, RackAt wr M L (R0.told n) → RackAt wr M L R.call) := by
    intro wr hw
    refine hw.congr ?_ ?_ ?_ ?_ fun j hj => ?_ <;> (rw [hR0.out] at *; unfold Rk.call Rk.told; rw [if_neg h0])
    have : j < n := by rw [hn'.out]; exact hj
    simp [this]
  have hret : Hid (R.callE i = if (R.d i).called.bad then 13 else 0) := by unfold Rk.callE Hid; rw [if_neg h0]
  have hlast : Hid (∀ wr, RackAt wr M L (R0.told n) → wr.cell? ⟨L.db, i * 4 + 2, none⟩ = some (.bool (R.d i).called.bad)) := by
    intro wr hw
    have e : ((R0.told n).d i) = (R.d i).called := by rw [hR0.out]; unfold Rk.told; simp [hi]
    have := (hw.drv i (by rw [hR0.out]; show i < R.n; rw [← hn'.out]; exact hi)).c2
    rwa [e] at this
  obtain ⟨bad, hbad⟩ : ∃ x, Hid (x = (R.d i).called.bad) := ⟨_, Lib.hid rfl⟩
  rw [← hbad.out] at hret hlast
  clear h0
  by_cases h1 : 0 < R.cnt
  all_goals
    go_enter Tryz.func74, Tryz.ntmps74
    go_wp2
    go_loopw [5, 31] (fun _ i wr => ∃ k : Nat, k ≤ n ∧ i = .int .i64 k ∧ RackAt wr M L (R0.told k) ∧ Turn (L.M R.n) w wr) (fun _ i _ => n - (RowKit.intOf i).toNat)
    case atStart =>
      refine ⟨0, Nat.zero_le _, rfl, ?_, ?_⟩
      · rw [Rk.told_zero, hR0.out]
        first
          | (rw [if_pos h1]; exact h.setCnt _ (by omega))
          | (rw [if_neg (by omega)]; exact h)
      · first
          | exact (turn_set w L.p 3 _).mono fun k e => e ▸ L.M_p _
          | exact Turn.refl _ _
    case round =>
      obtain ⟨k, hk, rfl, hr, ht⟩ := hrel
      have a0 : wr.cell? ⟨L.p, 0, none⟩ = some (.slice (some ⟨L.db, 0, none⟩) n n) := by
        have := hr.c0
        rw [show (R0.told k).n = n by rw [hR0.out]; exact hn'.out.symm] at this
        exact this
      clear c0 c3 f3
      by_cases hlt : k < n
      · have hcall := called_rack M L (R0.told k) k wr hr (by rw [hR0.out]; show k < R.n; rw [← hn'.out]; exact hlt)
        rw [Rk.told_succ] at hcall
        go_wp2_with (go_at_call 114; refine hcall.mono ?_; rintro e w' ⟨rfl, hr2, ht2⟩)
        have ht2' : Turn (L.M R.n) wr w' := by rw [hR0.out] at ht2; exact ht2
        go_roundw
        case rel => exact ⟨k + 1, by omega, by go_num, hr2, ht.trans ht2'⟩
        case measure => simp [RowKit.intOf]; omega
      · obtain rfl : k = n := by omega
        have cl := hlast.out wr hr
        have hfin := hend.out wr hr
        clear hlast hend
        cases bad with
        | true =>
          go_wp2
          go_ret
          exact ⟨by rw [hret.out]; rfl, hfin, ht⟩
        | false =>
          go_wp2
          go_ret
          exact ⟨by rw [hret.out]; rfl, hfin, ht⟩

theorem call_rack (M : Nat → Prop) (L : Lay) (R : Rk) (i : Nat) (w : World) (h : RackAt w M L R) (hi : i < R.n) :
    Calls Tryz.prog 74 #[.pointer (some ⟨L.p, 0, none⟩), .int .i64 i] w (CallPost M L R R.call w (.int .i64 (R.callE i))) := by
  by_cases h0 : R.cnt = 0
  · exact call_dead M L R i w h h0
  · exact call_live M L R i w h h0 hi

end Go.Proofs.YtegmeoghonolcaaGreat
