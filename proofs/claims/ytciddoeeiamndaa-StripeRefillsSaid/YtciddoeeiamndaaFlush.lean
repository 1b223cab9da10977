/-
  'flush' of a disk, by contract.
-/
import Derived.Test.YtciddoeeiamndaaDrv
namespace Go.Proofs.Ytciddoeeiamndaa
open Go.RowKit Go.Maps

/-- The sectors behind those of the cached ones that have come. -/
def Half (S : Nat) (d : Dk) (left : Lit → Bool) (L : List Int) : Prop := ∀ s, s < S → sec L s = if left (keyI s) then sec d.last s else d.read s

theorem Half.start {w : World} {M : Nat → Prop} {S mb n : Nat} {d : Dk} {D : DataW Unit} (h : CacheD w M S mb d.cache n D) : Half S d (Maps.has D) d.last := fun s hs => by
  rw [h.has s hs]
  unfold Dk.read
  cases d.cache s <;> simp
theorem Half.step {S : Nat} {d : Dk} {left : Lit → Bool} {L zs : List Int} {s : Nat} (h : Half S d left L) (hl : L.length = S * 64) (hs : s < S) (hz : zs.length = 64) (hc : d.cache s = some zs) : Half S d (fun z => left z && !z.sameKey (keyI s)) (upd L s zs) := fun t ht => by
  by_cases e : t = s
  · subst e
    rw [sec_same hl hs hz]
    simp [Lit.sameKey, Dk.read, hc]
  · rw [sec_other hl hs ht hz e, h t ht]
    have : (keyI t).sameKey (keyI s) = false := by simp [Lit.sameKey]; omega
    simp [this]
theorem Dk.read_len {w : World} {M : Nat → Prop} {S db o lb mb s : Nat} {d : Dk} (h : DrvAt w M S db o lb mb d) (hs : s < S) : (d.read s).length = 64 ∧ AllB (d.read s) := by
  obtain ⟨n, D, hc⟩ := h.cache
  unfold Dk.read
  cases e : d.cache s with
  | none => exact ⟨sec_len h.len hs, h.small.sec s⟩
  | some zs => exact hc.small hs e
theorem Half.done {w : World} {M : Nat → Prop} {S db o lb mb : Nat} {d : Dk} {left : Lit → Bool} {L : List Int} (hd : DrvAt w M S db o lb mb d) (h : Half S d left L) (hl : L.length = S * 64) (hf : ∀ kl, left kl = false) : L = joinS S d.read := by
  have hj : ∀ s, s < S → (d.read s).length = 64 := fun s hs => (Dk.read_len hd hs).1
  refine sec_ext hl (joinS_len hj) fun s hs => ?_
  rw [sec_join hj hs, h s hs, hf]
  rfl

/-- A disk whose cached sectors last. -/
def Dk.flush (S : Nat) (d : Dk) : Dk := { d with last := joinS S d.read, cache := noneC }

set_option maxHeartbeats 800000 in
theorem flush_any (M : Nat → Prop) (S db o lb mb : Nat) (d : Dk) (w : World) (h : DrvAt w M S db o lb mb d) (h1 : lb ≠ mb) (h2 : db ≠ lb) (h3 : db ≠ mb) (m1 : M lb) (hS : S ≤ 4096) :
    Calls Try.prog 67 #[.pointer (some ⟨db, o, none⟩)] w fun e w' => e = .returned (.tuple #[]) ∧ Turn (Own2 lb mb) w w' ∧ DrvAt w' M S db o lb mb (d.flush S) := by
  obtain ⟨nn, D, hc⟩ := h.cache
  have c0 := h.c0
  have c1 := h.c1
  have hdb := h.lt
  have hlb := h.blk.lt
  have hmb := hc.own.lt
  go_enter Try.func67, Try.ntmps67
  go_wp2_with (at_range; refine wpList_range_own _ rfl _ 77 rfl 3 37 law3 Try.underlying77 _ mb nn _ rfl hc.own ?_; intro w0 hrg0 hg0 hs0)
  go_frame
  clear hs0
  go_loopw [2, 3] (fun _ _ wr => ∃ (left : Lit → Bool) (cnt : Nat) (L : List Int), wr.ranges Try.prog 3 elemR mb w.heap.size nn D left cnt ∧ Turn (· = lb) w wr ∧ Blk wr lb L ∧ L.length = S * 64 ∧ AllB L ∧ Half S d left L)
    (fun _ _ wr => wr.rangeLeft mb w.heap.size)
  case atStart =>
    have t0 : Turn (· = lb) w w0 := ⟨hg0.os, hg0.tape, hg0.output, hg0.size, fun k hk _ => hg0.block k hk (by simp)⟩
    exact ⟨_, _, d.last, hrg0, t0, ⟨(hg0.block lb hlb (by simp)).trans h.blk.row⟩, h.len, h.small, Half.start hc⟩
  case round =>
    obtain ⟨left, cnt, L, hrg, ht, hb, hl, hsm, hH⟩ := hrel
    have hlb' : lb < wr.heap.size := hb.lt
    have hcr : CacheD wr M S mb d.cache nn D := hc.turn (ht.mono fun k e => by rw [e]; exact m1) (ht.block mb hmb (Ne.symm h1))
    have a0 := (ht.cell (a := ⟨db, o, none⟩) hdb h2).trans c0
    have a1 := (ht.cell (a := ⟨db, o + 1, none⟩) hdb h2).trans c1
    have hrw : Hid (w.heap.size ≠ lb) := by unfold Hid; omega
    have hrd : Hid (w.heap.size ≠ db) := by unfold Hid; omega
    clear c0 c1
    go_wp2_with (at_next; refine wpList_next_cache rfl _ rfl M S mb w.heap.size nn d.cache D left cnt w hc rfl hrg ?_ ?_)
    · intro hc0 hl0
      clear hc0
      obtain ⟨w2, hclm, hown2, hturn2⟩ := run_clear_map hcr.own Try.underlying77
      go_wp2_with (simp only [hclm])
      go_end0
      have t3 := turn_map hturn2
      have hl1 : db < wr.heap.size := Nat.lt_of_lt_of_le hdb ht.size
      have eL := hH.done h hl hl0
      refine ⟨rfl, (ht.mono fun k e => .inl e).trans (t3.mono fun k e => .inr e), (t3.cell (a := ⟨db, o, none⟩) hl1 h3).trans a0, (t3.cell (a := ⟨db, o + 1, none⟩) hl1 h3).trans a1, ?_, ?_, ?_, ?_, ?_, CacheAt.empty hown2, h.big⟩
      · exact (t3.cell (a := ⟨db, o + 2, none⟩) hl1 h3).trans ((ht.cell (a := ⟨db, o + 2, none⟩) hdb h2).trans h.c2)
      · exact (t3.cell (a := ⟨db, o + 3, none⟩) hl1 h3).trans ((ht.cell (a := ⟨db, o + 3, none⟩) hdb h2).trans h.c3)
      · rw [Dk.flush, ← eL]; exact hb.turn t3 h1
      · rw [Dk.flush, ← eL]; exact hl
      · rw [Dk.flush, ← eL]; exact hsm
    · intro s g c zs w1 cnt1 hs hzs hg hy hlk hrg1 hlt hg1 hen
      have t1 : Turn (· = lb) w w1 := ⟨hg1.os.trans ht.os, hg1.tape.trans ht.tape, hg1.output.trans ht.output, Nat.le_trans ht.size hg1.size, fun k hk hn => (hg1.block k (Nat.lt_of_lt_of_le hk ht.size) (fun e => by cases e; omega)).trans (ht.block k hk hn)⟩
      have hb1 : Blk w1 lb L := ⟨(hg1.block lb hlb' (fun e => hrw.out (Option.some.inj e).symm)).trans hb.row⟩
      have b0 : w1.cell? ⟨db, o, none⟩ = some (.slice (some ⟨lb, 0, none⟩) (S * 64) (S * 64)) := (t1.cell (a := ⟨db, o, none⟩) hdb h2).trans h.c0
      have hy1 : Bys w1 (some ⟨g, 0, none⟩) 64 zs := bys_turn hy t1 (fun b off e x => by cases e; exact hg (x ▸ m1))
      have hme : Hid (wr.rangeLeft mb w.heap.size = cnt) := Lib.hid hrg.left_eq
      clear hy hrg hb ht a0 a1
      go_wp2_with (first
        | (go_at_call 53; refine (lastingOf_any db o lb s S w1 b0 hs hS).mono ?_; rintro e w' ⟨rfl, rfl⟩)
        | ((with_reducible refine wpList_cps rfl (.tmp 16) (.tmp 17) rfl lb s S _ g 0 c rfl rfl L zs hb1 hl hs hy1 ?_); intro w2 hb2 ht2; go_frame))
      have hrg2 := hrg1.kept (w' := w2) (row := some lb) ⟨ht2.os, ht2.tape, ht2.output, ht2.size, fun k hk hn => ht2.block k hk (fun e => hn (by rw [e]))⟩ (fun e => h1 (Option.some.inj e).symm) (fun e => hrw.out (Option.some.inj e))
      have t2 := t1.trans ht2
      have hz := hy1.len
      have hzs2 := hy1.small
      go_roundw
      case rel => exact ⟨_, cnt1, _, hrg2, t2, hb2, upd_len hl hs hz, hsm.upd hzs2 s, hH.step hl hs hz hzs⟩
      case measure => rw [hrg2.left_eq, hme.out]; exact hlt

end Go.Proofs.Ytciddoeeiamndaa
