/-
  A rack of two disks of four sectors, told by each sector's first byte: what lasts of it, and what was written last.
-/
import Derived.Test.YtcgemckookefmaaLoads
import Derived.Test.YtcgemckookefmaaPower
namespace Go.Proofs.Ytcgemckookefmaa
open Go.RowKit Go.Maps

/-- An array of eight bytes. -/
structure Arr (w : World) (g : Nat) (zs : List Int) : Prop where
  row : w.heap[g]? = some (.cells (ints zs) 47 (0, 0))
theorem Arr.lt {w : World} {g : Nat} {zs : List Int} (h : Arr w g zs) : g < w.heap.size := lt_of_block h.row
theorem Arr.cell {w : World} {g : Nat} {zs : List Int} (h : Arr w g zs) {i : Nat} (hi : i < zs.length) : w.cell? ⟨g, i, none⟩ = some (.int .u8 (byt zs i)) := by
  rw [cell_of_row w g i _ _ (0, 0) h.row]
  simp [ints, byt, List.getD, hi]
theorem Arr.free {w : World} {g : Nat} {zs : List Int} (h : Arr w g zs) (i : Nat) : w.frozen? ⟨g, i, none⟩ = false := frozen_of_row w g i _ _ h.row
theorem Arr.set {w : World} {g : Nat} {zs : List Int} (h : Arr w g zs) (i : Nat) (z : Int) : Arr (w.setCell ⟨g, i, none⟩ (.int .u8 z)) g (zs.set i z) := by
  refine ⟨?_⟩
  rw [heap_setCell_same w g i _ _ _ h.row]
  congr 2
  apply Array.ext'
  simp [ints, List.map_set]
theorem Arr.turn {M : Nat → Prop} {w w' : World} {g : Nat} {zs : List Int} (h : Arr w g zs) (ht : Turn M w w') (hm : ¬ M g) : Arr w' g zs := ⟨(ht.block g h.lt hm).trans h.row⟩
theorem Arr.below {w w' : World} {g : Nat} {zs : List Int} (h : Arr w g zs) {B : Nat} (hB : g < B) (hb : Below B w w') : Arr w' g zs := ⟨(hb.block g hB).trans h.row⟩

/-- The blocks of a rack of n disks, and one more. -/
def Lay.M' (L : Lay) (n wb : Nat) : Nat → Prop := fun k => L.M n k ∨ k = wb
theorem RackAt.more {w w' : World} {L : Lay} {R : Rk} {n : Nat} (h : RackAt w (L.M n) L R) (hb : Below w.heap.size w w') (hlt : w.heap.size < w'.heap.size) : RackAt w' (L.M' n w.heap.size) L R :=
  h.wide hb (fun k x => x.elim .inl fun e => .inr (by omega)) (fun _ x => .inl x) (fun k x => x.elim (fun y => Nat.lt_of_lt_of_le (h.low k y) hb.size) fun e => by omega)
theorem RackAt.setMore {w : World} {L : Lay} {R : Rk} {n wb : Nat} (h : RackAt w (L.M' n wb) L R) (hn : R.n = n) (hw : ¬ L.M n wb) (i : Nat) (u : Value) : RackAt (w.setCell ⟨wb, i, none⟩ u) (L.M' n wb) L R :=
  h.keep (turn_set w wb i u) (fun _ e => .inr e) (fun k hk e => hw (by rw [hn] at hk; exact e ▸ hk))

/-- U: the first byte of what lasts; V: of what was written last (or lasts). -/
structure Kp (U V : Nat → Int) (R : Rk) : Prop where
  hn : R.n = 2
  hS : R.S = 4
  off : R.off = false
  cnt : R.cnt = -1
  good : ∀ i, i < 2 → (R.d i).bad = false ∧ (R.d i).cnt = -1
  last : ∀ c, c < 8 → byt (sec (R.d (c / 4)).last (c % 4)) 0 = U c
  cache : ∀ c, c < 8 → ((R.d (c / 4)).cache (c % 4) = none ∧ V c = U c) ∨ ∃ zs, (R.d (c / 4)).cache (c % 4) = some zs ∧ byt zs 0 = V c

theorem Kp.start : Kp (fun _ => 0) (fun _ => 0) (newRk 2 4) := by
  refine ⟨rfl, rfl, rfl, rfl, fun _ _ => ⟨rfl, rfl⟩, fun c hc => ?_, fun c _ => .inl ⟨rfl, rfl⟩⟩
  rw [byt_sec (by omega)]
  exact byt_zero _ _

section
variable {U V : Nat → Int} {R : Rk}
theorem Kp.callE (h : Kp U V R) {i : Nat} (hi : i < 2) : R.callE i = 0 := by
  obtain ⟨h1, h2⟩ := h.good i hi
  simp [Rk.callE, h.cnt, Dk.called, h1, h2]
theorem Kp.call_d (h : Kp U V R) {i : Nat} (hi : i < 2) : R.call.d i = R.d i := by
  obtain ⟨h1, h2⟩ := h.good i hi
  have : ¬ R.cnt = 0 := by rw [h.cnt]; omega
  simp only [Rk.call, if_neg this, Dk.called, h1, h2]
  generalize hd : R.d i = d at *
  obtain ⟨l, c, b, n⟩ := d
  simp only at h1 h2
  subst h1 h2
  rfl
theorem Kp.call (h : Kp U V R) : Kp U V R.call := by
  have hd : ∀ c, c < 8 → R.call.d (c / 4) = R.d (c / 4) := fun c hc => h.call_d (by omega)
  refine ⟨by rw [Rk.call_n, h.hn], by rw [Rk.call_S, h.hS], ?_, ?_, fun i hi => by rw [h.call_d hi]; exact h.good i hi, fun c hc => by rw [hd c hc]; exact h.last c hc, fun c hc => by rw [hd c hc]; exact h.cache c hc⟩
  · simp [Rk.call, h.cnt, h.off]
  · simp [Rk.call, h.cnt]
def setV (V : Nat → Int) (c : Nat) (v : Int) : Nat → Int := fun x => if x = c then v else V x
theorem Kp.put (h : Kp U V R) {q r : Nat} (hq : q < 2) (hr : r < 4) (zs : List Int) : Kp U (setV V (4 * q + r) (byt zs 0)) (R.setD q ((R.d q).put r zs)) := by
  refine ⟨h.hn, h.hS, h.off, h.cnt, fun i hi => ?_, fun c hc => ?_, fun c hc => ?_⟩
  · show (if i = q then (R.d q).put r zs else R.d i).bad = false ∧ (if i = q then (R.d q).put r zs else R.d i).cnt = -1
    by_cases e : i = q
    · rw [if_pos e]; exact h.good q hq
    · rw [if_neg e]; exact h.good i hi
  · show byt (sec (if c / 4 = q then (R.d q).put r zs else R.d (c / 4)).last (c % 4)) 0 = U c
    by_cases e : c / 4 = q
    · rw [if_pos e, ← h.last c hc, e]; rfl
    · rw [if_neg e]; exact h.last c hc
  · show ((if c / 4 = q then (R.d q).put r zs else R.d (c / 4)).cache (c % 4) = none ∧ _) ∨ ∃ ys, (if c / 4 = q then (R.d q).put r zs else R.d (c / 4)).cache (c % 4) = some ys ∧ _
    by_cases e : c / 4 = q
    · rw [if_pos e]
      by_cases e2 : c % 4 = r
      · refine .inr ⟨zs, by simp [Dk.put, putC, e2], ?_⟩
        have : c = 4 * q + r := by omega
        simp [setV, this]
      · have hne : c ≠ 4 * q + r := by omega
        have := h.cache c hc
        rw [e] at this
        simp only [setV, if_neg hne]
        have e3 : ((R.d q).put r zs).cache (c % 4) = (R.d q).cache (c % 4) := by simp [Dk.put, putC, e2]
        rw [e3]
        exact this
    · have hne : c ≠ 4 * q + r := by omega
      rw [if_neg e]
      simp only [setV, if_neg hne]
      exact h.cache c hc

variable {M : Nat → Prop} {L : Lay} {w : World}
/-- Behind a call of the rack: its answer, and how the rack is. -/
def KpP (v : Int) (U V : Nat → Int) (M : Nat → Prop) (L : Lay) (w : World) (e : Ending) (w' : World) : Prop := e = .returned (.int .i64 v) ∧ ∃ R', RackAt w' M L R' ∧ Kp U V R' ∧ Turn (L.M 2) w w'
theorem kp_write (q r b off c : Nat) (zs : List Int) (hr : RackAt w M L R) (h : Kp U V R) (hq : q < 2) (hr4 : r < 4) (hz : Bys w (some ⟨b, off, none⟩) 64 zs) (hzM : ¬ M b) :
    Calls Try.prog 21 #[.pointer (some ⟨L.p, 0, none⟩), .int .i64 q, .int .i64 r, .slice (some ⟨b, off, none⟩) 64 c] w (KpP 0 U (setV V (4 * q + r) (byt zs 0)) M L w) := by
  refine (write_ok M L R q r b off c zs w hr h.off (by rw [h.hn]; exact hq) (by rw [h.hS]; exact hr4) hz hzM (h.callE hq)).mono ?_
  rintro e w' ⟨rfl, hr', ht⟩
  rw [h.hn] at ht
  exact ⟨rfl, _, hr', h.call.put hq hr4 zs, ht⟩

/-- How the rack is behind a flush of disk q. -/
def setU (U V : Nat → Int) (q : Nat) : Nat → Int := fun c => if c / 4 = q then V c else U c
theorem kp_flush (q : Nat) (hr : RackAt w M L R) (h : Kp U V R) (hq : q < 2) :
    Calls Try.prog 22 #[.pointer (some ⟨L.p, 0, none⟩), .int .i64 q] w (KpP 0 (setU U V q) V M L w) := by
  refine (flush_ok M L R w q hr h.off (by rw [h.hn]; exact hq) (h.callE hq)).mono ?_
  rintro e w' ⟨rfl, hr', ht⟩
  rw [h.hn] at ht
  have hd := hr.drv q (by rw [h.hn]; exact hq)
  have hc := h.call
  have hcd := h.call_d hq
  refine ⟨rfl, _, hr', ⟨hc.hn, hc.hS, hc.off, hc.cnt, fun i hi => ?_, fun c hc8 => ?_, fun c hc8 => ?_⟩, ht⟩
  · show (if i = q then (R.call.d q).flush R.S else R.call.d i).bad = false ∧ (if i = q then (R.call.d q).flush R.S else R.call.d i).cnt = -1
    by_cases e : i = q
    · rw [if_pos e]; exact hc.good q hq
    · rw [if_neg e]; exact hc.good i hi
  · show byt (sec (if c / 4 = q then (R.call.d q).flush R.S else R.call.d (c / 4)).last (c % 4)) 0 = setU U V q c
    unfold setU
    by_cases e : c / 4 = q
    · rw [if_pos e, if_pos e, hcd]
      show byt (sec (joinS R.S (R.d q).read) (c % 4)) 0 = V c
      rw [sec_join (fun s hs => (Dk.read_len hd hs).1) (by rw [h.hS]; omega)]
      unfold Dk.read
      have hl := h.last c hc8
      rcases h.cache c hc8 with ⟨h1, h2⟩ | ⟨zs, h1, h2⟩ <;> rw [e] at h1 hl <;> rw [h1]
      · rw [h2]; exact hl
      · exact h2
    · rw [if_neg e, if_neg e]; exact hc.last c hc8
  · show ((if c / 4 = q then (R.call.d q).flush R.S else R.call.d (c / 4)).cache (c % 4) = none ∧ _) ∨ ∃ ys, (if c / 4 = q then (R.call.d q).flush R.S else R.call.d (c / 4)).cache (c % 4) = some ys ∧ _
    unfold setU
    by_cases e : c / 4 = q
    · rw [if_pos e, if_pos e]; exact .inl ⟨rfl, rfl⟩
    · rw [if_neg e, if_neg e]; exact hc.cache c hc8

/-- Behind Restore: no sector is cached; of each its first byte is the lasting one's or the written one's. -/
structure KpR (U V : Nat → Int) (R : Rk) : Prop where
  hn : R.n = 2
  hS : R.S = 4
  off : R.off = false
  good : ∀ i, i < 2 → (R.d i).bad = false
  cache : ∀ i s, (R.d i).cache s = none
  last : ∀ c, c < 8 → byt (sec (R.d (c / 4)).last (c % 4)) 0 = U c ∨ byt (sec (R.d (c / 4)).last (c % 4)) 0 = V c
theorem Kp.rest_byt (hr : RackAt w M L R) (h : Kp U V R) (ks : List Int) {c : Nat} (hc : c < 8) :
    byt (sec ((R.restore ks).d (c / 4)).last (c % 4)) 0 = if (R.d (c / 4)).stays ks (R.num (c / 4)) (c % 4) then V c else U c := by
  have hd := hr.drv (c / 4) (by rw [h.hn]; omega)
  have e := restore_sec hd ks (R.num (c / 4)) (show c % 4 < R.S by rw [h.hS]; omega)
  show byt (sec ((R.d (c / 4)).restore R.S ks (R.num (c / 4))).last (c % 4)) 0 = _
  rw [e]
  unfold Dk.rest
  split
  · next hst =>
    unfold Dk.read
    rcases h.cache c hc with ⟨h1, _⟩ | ⟨zs, h1, h2⟩
    · rw [Dk.stays, h1] at hst; simp at hst
    · rw [h1]; exact h2
  · exact h.last c hc
theorem Kp.restored (hr : RackAt w M L R) (h : Kp U V R) (ks : List Int) : KpR U V (R.restore ks) := by
  refine ⟨h.hn, h.hS, rfl, fun i hi => (h.good i hi).1, fun _ _ => rfl, fun c hc => ?_⟩
  rw [h.rest_byt hr ks hc]
  split
  · exact .inr rfl
  · exact .inl rfl
end

end Go.Proofs.Ytcgemckookefmaa
