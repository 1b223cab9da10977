/-
  The program's Count, by contract.
-/
import Derived.Test.YtegcjpocdfmpfaaUam
import Derived.Test.YtegcjpocdfmpfaaUaj
import Derived.Test.YtegcjpocdfmpfaaUah
import Derived.Deep.CutBlock
import Derived.Deep.CutRange
import Derived.Test.YtegcjpocdfmpfaaUal
set_option linter.unusedVariables false
set_option linter.unusedSimpArgs false
set_option maxRecDepth 100000
set_option maxHeartbeats 16000000
namespace Go.Proofs.Ytegcjpocdfmpfaa
open Go.RowKit

/-- The pointers' blocks of addresses, as they are counted. -/
def ptF (l : List Int) : List Nat := l.foldl ptgS []
theorem ptF_snoc (l : List Int) (x : Int) : ptF (l ++ [x]) = ptgS (ptF l) x := by simp [ptF, List.foldl_append]
theorem ptL_all (l : List Int) : ptL l l.length = ptF l := by rw [ptL, List.take_length]; rfl
def ptI (a : Nat) : Int := if a = 0 then -1 else if a = 1 then -2 else (a : Int) - 2
theorem ptI_inj {a b : Nat} (h : ptI a = ptI b) : a = b := by
  unfold ptI at h
  split at h <;> split at h <;> (try split at h) <;> (try split at h) <;> omega
structure PtR (m : List Nat) (q : List Int) : Prop where
  len : m.length = q.length
  has : ∀ a, a ∈ m ↔ ptI a ∈ q
theorem PtR.ins {m : List Nat} {q : List Int} (h : PtR m q) (a : Nat) : PtR (insN m a) (insK (ptI a) q) := by
  unfold insN insK
  by_cases e : a ∈ m
  · rw [if_pos e, if_pos ((h.has a).1 e)]; exact h
  · rw [if_neg e, if_neg (fun x => e ((h.has a).2 x))]
    refine ⟨by simp [h.len], fun b => ?_⟩
    simp only [List.mem_append, List.mem_singleton, h.has]
    constructor
    · rintro (h1 | rfl)
      · exact .inl h1
      · exact .inr rfl
    · rintro (h1 | h1)
      · exact .inl h1
      · exact .inr (ptI_inj h1)
theorem pt_kp (A : List Int) (k : Nat) (hk : k ≤ 828) : PtR (ptF (ths A k)) (kp A k) := by
  induction k with
  | zero => exact ⟨rfl, fun a => by simp [ptF, ths, kp]⟩
  | succ k ih =>
    have ih := ih (by omega)
    rw [ths, kp]
    by_cases h0 : num A k = 0
    · rw [if_pos h0, if_pos h0, List.append_nil]
      by_cases h1 : k < 16
      · rw [if_pos h1]
        have : kp A k = [] := by
          cases k with
          | zero => rfl
          | succ j => rw [kp, if_pos (by omega)]
        rw [this] at ih
        exact ih
      · rw [if_neg h1]; exact ih
    · rw [if_neg h0, if_neg h0, ptF_snoc]
      by_cases h1 : k < 16
      · rw [if_pos h1, ptgS, if_pos (.inl (by omega))]
        have : kp A k = [] := by
          cases k with
          | zero => rfl
          | succ j => rw [kp, if_pos (by omega)]
        rw [this] at ih
        exact ih
      · rw [if_neg h1, ptgS, if_neg (by omega)]
        by_cases h2 : k < 44
        · rw [if_pos h2, if_pos (by omega)]
          exact ih.ins 0
        · rw [if_neg h2, if_neg (by omega), tdiv28 (by omega)]
          have := (ih.ins 1).ins (2 + (((k : Int) - 44) / 28).toNat)
          have e1 : ptI 1 = -2 := rfl
          have e2 : ptI (2 + (((k : Int) - 44) / 28).toNat) = (((k - 44) / 28 : Nat) : Int) := by
            unfold ptI
            rw [if_neg (by omega), if_neg (by omega)]
            omega
          rw [e1, e2] at this
          exact this
/-- How many pointers' blocks there are for addresses. -/
theorem pt_len {A : List Int} (h : A.length ≤ 828) : (ptL (ths A A.length) (ths A A.length).length).length = (kp A A.length).length := by
  rw [ptL_all]
  exact (pt_kp A A.length h).len
theorem insK_le (x : Int) (l : List Int) : (insK x l).length ≤ l.length + 1 := by
  unfold insK; split <;> simp
theorem kp_le (A : List Int) (k : Nat) : (kp A k).length ≤ 2 * k := by
  induction k with
  | zero => exact Nat.le_refl _
  | succ k ih =>
    rw [kp]
    split
    · simp
    split
    · omega
    split
    · have := insK_le (-1) (kp A k)
      omega
    · have := insK_le (-2) (kp A k)
      have := insK_le (((k : Int) - 44).tdiv 28) (insK (-2) (kp A k))
      omega
abbrev ndF' (f : Nat → Nw) : Nat → Nd := fun i => (f i).nd
theorem need_le {f : Nat → Nd} {K : Nat} (h : ∀ i, i < K → (f i).ads.length ≤ 828) : needN f K ≤ 1656 * K := by
  induction K with
  | zero => exact Nat.le_refl _
  | succ K ih =>
    have h1 := ih fun i hi => h i (by omega)
    have h2 := kp_le (f K).ads (f K).ads.length
    have h3 := h K (by omega)
    rw [needN]
    omega
/-- How many blocks a list has, as Count answers it. -/
def cntO (d r s : Int) (f : Nat → Nw) (n : Nat) : Int := if mrO d r s (lnL f n) = true then ((layB (fun _ => 0) (ndF' f) n).length : Int) else 0
theorem mr_few {d r s : Int} {f : Nat → Nw} {n : Nat} (h : mrO d r s (lnL f n) = true) : Rt d r s ∧ LR (adN d r s) (ndF' f) n ∧ ∀ i, i < n → (f i).ks.length ≤ 828 := by
  rw [mrO, Bool.and_eq_true, geoO_iff, lrO_iff, lnL_len] at h
  obtain ⟨h1, h2⟩ := h
  have e : ∀ i, i < n → (lnL f n).getD i default = (f i).nd := fun i hi => lnL_get f hi
  refine ⟨h1, ⟨h2.l1, h2.l2, ?_, ?_, fun i hi => ?_, fun i hi => ?_, fun i hi => ?_⟩, fun i hi => ?_⟩
  · have := h2.i0; rw [e 0 (by have := h2.l1; omega)] at this; exact this
  · have := h2.k0; rw [e 0 (by have := h2.l1; omega)] at this; exact this
  · have := h2.top i hi; rw [e i hi] at this; exact this
  · have := h2.up i hi; rw [e i (by omega), e (i + 1) hi] at this; exact this
  · have := h2.nd i hi; rw [e i hi] at this; exact this
  · have := (h2.nd i hi).l
    rw [e i hi] at this
    have h3 := blkN_le (f i).nd.size
    have : ((f i).ks.length : Int) ≤ blkN (f i).nd.size := this
    omega
theorem cnt_is {d r s : Int} {f : Nat → Nw} {n : Nat} (h : mrO d r s (lnL f n) = true) : cntO d r s f n = ((n + 3 + needN (ndF' f) n : Nat) : Int) := by
  rw [cntO, if_pos h, layB_len, off_need (mr_few h).2.2]
  omega
theorem pcount_any (d r s : Int) (a : Option Addr) (n c : Nat) (f : Nat → Nw) (w : World) (hl : NwsAt w a n f) (hn6 : n ≤ 1000000) :
    Calls Try.prog 19 #[gv d r s, .slice a n c] w fun e w' => e = .returned (.int .i64 (cntO d r s f n)) ∧ Below w.heap.size w w' := by
  have hx := Bx.mk' w d r s 23
  have hB : Below w.heap.size w (w.alloc (.cells #[.int .i64 d, .int .i64 r, .int .i64 s] 23 (0, 0))) := (Below.refl _ _).alloc (Nat.le_refl _) _
  obtain ⟨w1, hw1⟩ : ∃ w1, w1 = w.alloc (.cells #[.int .i64 d, .int .i64 r, .int .i64 s] 23 (0, 0)) := ⟨_, rfl⟩
  rw [← hw1] at hx hB
  have HB := Lib.hid hB
  have HL := Lib.hid (hl.next hB)
  have HW := Lib.hid hw1
  have hcall := pmr_any d r s a n c f w1 (hl.next hB) hn6
  have HN6 := Lib.hid hn6
  obtain ⟨mr, hmr⟩ : ∃ z, z = mrO d r s (lnL f n) := ⟨_, rfl⟩
  rw [← hmr] at hcall
  have HM := Lib.hid hmr
  clear hx hB hl hw1 hmr hn6
  cases mr with
  | false =>
    have HZ := Lib.hid (show cntO d r s f n = 0 by rw [cntO, ← HM.out]; rfl)
    go_enter Try.func19, Try.ntmps19
    go_wp2_with (fail)
    rw [← HW.out]
    refine hcall.mono ?_
    rintro e w2 ⟨rfl, hb⟩
    have HB2 := Lib.hid (HB.out.trans (hb.mono HB.out.size))
    clear hb hcall
    go_wp2_with (fail)
    go_ret
    exact ⟨by rw [HZ.out]; rfl, HB2.out⟩
  | true =>
    have HF := Lib.hid (mr_few HM.out.symm)
    have HZ := Lib.hid (cnt_is HM.out.symm)
    have n56 := HF.out.2.1.l2
    go_enter Try.func19, Try.ntmps19
    go_wp2_with (fail)
    rw [← HW.out]
    refine hcall.mono ?_
    rintro e w2 ⟨rfl, hb⟩
    have HB2 := Lib.hid (HB.out.trans (hb.mono HB.out.size))
    have HL2 := Lib.hid (HL.out.next hb)
    clear hb hcall
    go_wp2_with (fail)
    go_loopw [5, 7, 17] (fun v5 v7 v17 wr => ∃ i : Nat, i ≤ n ∧ v17 = .int .i64 i ∧ v5 = .int .i64 ((n + 3 + needN (ndF' f) i : Nat) : Int) ∧ Below w2.heap.size w2 wr) (fun v5 v7 v17 _ => n - (RowKit.intOf v17).toNat)
    case atStart => exact ⟨0, by omega, rfl, by show _ = Value.int .i64 ((n + 3 + 0 : Nat) : Int); congr 1, Below.refl _ _⟩
    case round =>
      obtain ⟨i, hi, rfl, rfl, hb⟩ := hrel
      have HBr := Lib.hid hb
      have HLr := Lib.hid (HL2.out.next hb)
      obtain ⟨t, ht⟩ : ∃ t : Nat, t = n + 3 + needN (ndF' f) i := ⟨_, rfl⟩
      have hnl := need_le (f := ndF' f) (K := i) (fun j hj => HF.out.2.2 j (by omega))
      have ht9 : t ≤ 1000000 := by omega
      rw [← ht]
      have HT := Lib.hid ht
      clear hb hnl ht
      by_cases hlt : i < n
      · have k1 : (i : Int) < (n : Int) := by omega
        obtain ⟨b, off, rfl, hbl, hc⟩ : ∃ b off, a = some ⟨b, off, none⟩ ∧ b < wr.heap.size ∧ ∀ i, i < n → NwIn wr b (off + i * 5) (f i) := by
          rcases HLr.out with h | h
          · omega
          · exact h
        have hin := hc i hlt
        have hks := HF.out.2.2 i hlt
        have hTS : n + 3 + needN (ndF' f) (i + 1) = t + (kp (f i).ks (f i).ks.length).length := by
          rw [needN, HT.out, ← Nat.add_assoc]
          rfl
        have hk2 := kp_le (f i).ks (f i).ks.length
        obtain ⟨x, hx⟩ : ∃ x, x = f i := ⟨_, rfl⟩
        rw [← hx] at hin hks hTS hk2
        have hxl := hin.ins.len
        have hp := pt_len hks
        obtain ⟨m, hm⟩ : ∃ m : Nat, m = (kp x.ks x.ks.length).length := ⟨_, rfl⟩
        rw [← hm] at hp hTS hk2
        rw [hxl] at hp
        have hm9 : m ≤ 1656 := by omega
        have hthl := ths_len x.ks x.n
        have HTL := Lib.hid (show (ths x.ks x.n).length ≤ 828 by omega)
        have HP := Lib.hid hp
        have HTS := Lib.hid hTS
        have HXL := Lib.hid (show x.n ≤ 828 by omega)
        have c0 := hin.c0
        have c1 := hin.c1
        have c2 := hin.c2
        have c3 := hin.c3
        have c4 := hin.c4
        obtain ⟨wx, hwx⟩ : ∃ wx, wx = wr.alloc (.cells #[.int .i64 x.ino, .int .i64 x.kind, .int .i64 x.links, .int .i64 x.size, .slice x.a x.n x.c] 83 (0, 0)) := ⟨_, rfl⟩
        have hbx : Below wr.heap.size wr wx := by rw [hwx]; exact (Below.refl _ _).alloc (Nat.le_refl _) _
        have HINS := Lib.hid (hin.ins.next hbx)
        have HWX := Lib.hid hwx
        have HBX := Lib.hid hbx
        clear hin hc hx hks hTS hk2 hp hm hxl hthl hwx hbx
        go_wp2_with (fail)
        rw [← HWX.out]
        refine (pthereA_any x.a x.n x.c x.ks wx HINS.out (by have := HXL.out; omega)).mono ?_
        rintro e w3 ⟨a', c', rfl, hi3, hb3⟩
        have HI3 := Lib.hid hi3
        have HB3 := Lib.hid (HBX.out.trans (hb3.mono HBX.out.size))
        clear hi3 hb3 c0 c1 c2 c3 c4
        go_wp2_with (fail)
        refine (pointing_any a' _ c' _ w3 HI3.out (by have := HTL.out; omega)).mono ?_
        rintro e w4 ⟨rfl, hb4⟩
        have HB4 := Lib.hid (HB3.out.trans (hb4.mono HB3.out.size))
        clear hb4
        rw [HP.out]
        go_wp2_with (fail)
        go_roundw
        case rel => exact ⟨i + 1, by omega, by go_num, by rw [HTS.out]; go_num, HBr.out.trans (HB4.out.mono HBr.out.size)⟩
        case measure => simp [RowKit.intOf]; omega
      · have hin : i = n := by omega
        have k1 : ¬ (i : Int) < (n : Int) := by omega
        have HIN := Lib.hid hin
        clear hin hlt hi
        go_wp2_with (fail)
        go_ret
        exact ⟨by rw [HZ.out, ← HIN.out, HT.out, HIN.out]; rfl, HB2.out.trans (HBr.out.mono HB2.out.size)⟩

structure LyO (w wr : World) (K : Nat → Prop) (u : Value) (gs : List Bl) : Prop where
  out : OwB wr w.heap.size u gs
  lt : ∀ j, K j → w.heap.size ≤ j ∧ j < wr.heap.size
  uk : ∀ j, u.ownBlock = some j → ¬ K j
  dk : ∀ x, x ∈ gs → ∀ y, x.a = some y → ¬ K y.block
  bel : Below w.heap.size w wr
section
variable {w wr w' : World} {K K' : Nat → Prop} {u u' : Value} {gs zs : List Bl}
theorem LyO.next (h : LyO w wr K u gs) (hb : Below wr.heap.size wr w') : LyO w w' K u gs :=
  ⟨h.out.next hb, fun j e => ⟨(h.lt j e).1, Nat.lt_of_lt_of_le (h.lt j e).2 hb.size⟩, h.uk, h.dk, h.bel.trans (hb.mono h.bel.size)⟩
theorem LyO.box (h : LyO w wr K u gs) (hb : Below wr.heap.size wr w') {g : Nat} (h1 : wr.heap.size ≤ g) (h2 : g < w'.heap.size) (hk : ∀ j, K' j → K j ∨ j = g) : LyO w w' K' u gs := by
  refine ⟨h.out.next hb, ?_, ?_, ?_, h.bel.trans (hb.mono h.bel.size)⟩
  · intro j e
    rcases hk j e with e | e
    · exact ⟨(h.lt j e).1, Nat.lt_of_lt_of_le (h.lt j e).2 hb.size⟩
    · exact ⟨by have := h.bel.size; omega, by omega⟩
  · intro j e e1
    rcases hk j e1 with e2 | e2
    · exact h.uk j e e2
    · have := (World.ownsRow.lt h.out.row j e).2; omega
  · intro x hx y e e1
    rcases hk _ e1 with e2 | e2
    · exact h.dk x hx y e e2
    · have := (h.out.apart x hx y e).2; omega
theorem LyO.sub (h : LyO w wr K u gs) (hk : ∀ j, K' j → K j) : LyO w wr K' u gs := ⟨h.out, fun j e => h.lt j (hk j e), fun j e e2 => h.uk j e (hk j e2), fun x hx y e e2 => h.dk x hx y e (hk _ e2), h.bel⟩
theorem LyO.set {b : Nat} (h : LyO w wr K u gs) (ht : Turn (· = b) wr w') (hb : K b) : LyO w w' K u gs :=
  ⟨h.out.turn ht (fun j e e2 => h.uk j e (by rw [e2]; exact hb)) (fun x hx y e e2 => h.dk x hx y e (by rw [e2]; exact hb)), fun j e => ⟨(h.lt j e).1, Nat.lt_of_lt_of_le (h.lt j e).2 ht.size⟩, h.uk, h.dk, h.bel.trans (ht.below h.bel.size (fun j e => by rw [e]; exact (h.lt b hb).1))⟩
theorem LyO.app (h : LyO w wr K u gs) (hO : OwB w' w.heap.size u' (gs ++ zs)) (hG : wr.grownBy w' u.ownBlock) (hu : u'.ownBlock = u.ownBlock ∨ u'.ownBlock = some wr.heap.size) (hz : ∀ z, z ∈ zs → ∀ y, z.a = some y → ¬ K y.block) : LyO w w' K u' (gs ++ zs) := by
  have ht : Turn (fun j => u.ownBlock = some j) wr w' := Turn.of_grown hG (fun b e => e)
  refine ⟨hO, fun j e => ⟨(h.lt j e).1, Nat.lt_of_lt_of_le (h.lt j e).2 ht.size⟩, fun j e e2 => ?_, fun x hx y e => ?_, h.bel.trans (ht.below h.bel.size (fun j e => (World.ownsRow.lt h.out.row j e).1))⟩
  · rcases hu with e3 | e3
    · exact h.uk j (by rw [← e3]; exact e) e2
    · rw [e3] at e
      simp only [Option.some.injEq] at e
      have := (h.lt j e2).2
      omega
  · rcases List.mem_append.1 hx with h1 | h1
    · exact h.dk x h1 y e
    · exact hz x h1 y e
end
section
variable {w wr w' : World} {M : Nat → Prop} {u u' : Value} {gs zs : List Bl} {bw bc b9 b10 bd : Nat} {p : Value} {ch F : Nat → Int} {x : Nw} {D : List Int}
end

/-- A layout: the addresses, the blocks laid; K: the boxes that are not to be touched by others. -/
structure PlO (w0 w : World) (K : Nat → Prop) (g : Nat) (a : Option Addr) (n c : Nat) (ks : List Int) (u : Value) (gs : List Bl) : Prop where
  o : LyO w0 w K u gs
  kg : K g
  row : w.heap[g]? = some (.cells #[.slice a n c, u] 89 (0, 0))
  ad : Ins w0 a n ks
/-- What a call of the layout's turns. -/
def Lv (g : Nat) (u : Value) (j : Nat) : Prop := j = g ∨ u.ownBlock = some j
section
variable {w0 w w' : World} {K K' : Nat → Prop} {g : Nat} {a : Option Addr} {n c : Nat} {ks : List Int} {u u' : Value} {gs zs : List Bl}
theorem PlO.next (h : PlO w0 w K g a n c ks u gs) (hb : Below w.heap.size w w') : PlO w0 w' K g a n c ks u gs :=
  ⟨h.o.next hb, h.kg, (hb.block _ (lt_of_block h.row)).trans h.row, h.ad⟩
theorem PlO.box (h : PlO w0 w K g a n c ks u gs) (hb : Below w.heap.size w w') {j : Nat} (h1 : w.heap.size ≤ j) (h2 : j < w'.heap.size) (hk : ∀ i, K' i → K i ∨ i = j) (hg : K' g) : PlO w0 w' K' g a n c ks u gs :=
  ⟨h.o.box hb h1 h2 hk, hg, (hb.block _ (lt_of_block h.row)).trans h.row, h.ad⟩
theorem PlO.sub (h : PlO w0 w K g a n c ks u gs) (hk : ∀ j, K' j → K j) (hg : K' g) : PlO w0 w K' g a n c ks u gs := ⟨h.o.sub hk, hg, h.row, h.ad⟩
theorem PlO.set {b : Nat} (h : PlO w0 w K g a n c ks u gs) (ht : Turn (· = b) w w') (hb : K b) (hne : b ≠ g) : PlO w0 w' K g a n c ks u gs :=
  ⟨h.o.set ht hb, h.kg, (ht.block _ (lt_of_block h.row) (fun e => hne e.symm)).trans h.row, h.ad⟩
theorem PlO.drew (h : PlO w0 w K g a n c ks u gs) : PlO w0 w.drew K g a n c ks u gs := h.next (below_drewN (Below.refl _ _) 1)
theorem PlO.ins (h : PlO w0 w K g a n c ks u gs) : Ins w a n ks := h.ad.next h.o.bel
theorem PlO.cells (h : PlO w0 w K g a n c ks u gs) : w.cell? ⟨g, 0, none⟩ = some (.slice a n c) ∧ w.cell? ⟨g, 1, none⟩ = some u ∧ w.frozen? ⟨g, 1, none⟩ = false ∧ g < w.heap.size := by
  refine ⟨?_, ?_, frozen_of_row w g 1 _ _ h.row, lt_of_block h.row⟩
  · rw [cell_of_row w g 0 _ _ (0, 0) h.row]; rfl
  · rw [cell_of_row w g 1 _ _ (0, 0) h.row]; rfl
theorem PlO.form (h : PlO w0 w K g a n c ks u gs) : ∃ au cu, u = .slice au gs.length cu := by
  obtain ⟨au, cu, e, _⟩ := h.o.out.bls
  exact ⟨au, cu, e⟩
/-- Another box isn't turned. -/
theorem PlO.off (h : PlO w0 w K g a n c ks u gs) {j : Nat} (hj : K j) (hne : j ≠ g) : ¬ Lv g u j := by
  rintro (e | e)
  · exact hne e
  · exact h.o.uk j e hj
/-- A block is laid. -/
theorem PlO.grow (h : PlO w0 w K g a n c ks u gs) (hO : OwB w' w0.heap.size u' (gs ++ zs)) (hG : w.grownBy w' u.ownBlock) (hu : u'.ownBlock = u.ownBlock ∨ u'.ownBlock = some w.heap.size) (hz : ∀ z, z ∈ zs → ∀ y, z.a = some y → ¬ K y.block) :
    (w'.cell? ⟨g, 1, none⟩ = some u ∧ w'.frozen? ⟨g, 1, none⟩ = false ∧ g < w'.heap.size) ∧ PlO w0 (w'.setCell ⟨g, 1, none⟩ u') K g a n c ks u' (gs ++ zs) ∧ Turn (Lv g u) w (w'.setCell ⟨g, 1, none⟩ u') := by
  have ht : Turn (fun j => u.ownBlock = some j) w w' := Turn.of_grown hG (fun b e => e)
  have hg : ¬ u.ownBlock = some g := fun e => h.o.uk g e h.kg
  have hrow := (ht.block g (lt_of_block h.row) hg).trans h.row
  have h2 := h.o.app hO hG hu hz
  have ht2 : Turn (· = g) w' (w'.setCell ⟨g, 1, none⟩ u') := Turn.setCell (M := (· = g)) (a := ⟨g, 1, none⟩) w' rfl _
  refine ⟨⟨?_, frozen_of_row w' g 1 _ _ hrow, lt_of_block hrow⟩, ⟨h2.set ht2 h.kg, h.kg, ?_, h.ad⟩, (ht.mono fun j e => .inr e).trans (ht2.mono fun j e => .inl e)⟩
  · rw [cell_of_row w' g 1 _ _ (0, 0) hrow]; rfl
  · rw [heap_setCell_same w' g 1 _ _ _ hrow]; rfl
end
/-- What a laying leaves: the blocks zs more. -/
def LyP (w0 w : World) (K : Nat → Prop) (g : Nat) (a : Option Addr) (n c : Nat) (ks : List Int) (u : Value) (gs : List Bl) (r : Int) (zs : List Bk) (e : Ending) (w' : World) : Prop :=
  ∃ u' gs', e = .returned (.int .i64 r) ∧ PlO w0 w' K g a n c ks u' gs' ∧ gs'.map Bl.bk = gs.map Bl.bk ++ zs ∧ Turn (Lv g u) w w' ∧ (∀ j, u'.ownBlock = some j → u.ownBlock = some j ∨ w.heap.size ≤ j)
/-- As LyP, the block by itself. -/
def LyQ (w0 w : World) (K : Nat → Prop) (g : Nat) (a : Option Addr) (n c : Nat) (ks : List Int) (u : Value) (gs : List Bl) (r : Int) (z : Bl) (e : Ending) (w' : World) : Prop :=
  ∃ u', e = .returned (.int .i64 r) ∧ PlO w0 w' K g a n c ks u' (gs ++ [z]) ∧ Turn (Lv g u) w w' ∧ (∀ j, u'.ownBlock = some j → u.ownBlock = some j ∨ w.heap.size ≤ j)
theorem play_eq {w0 w : World} {K : Nat → Prop} {g : Nat} {a : Option Addr} {n c : Nat} {ks : List Int} {u : Value} {gs : List Bl} (h : PlO w0 w K g a n c ks u gs) (z : Bl) (hp : Pin w z.a z.n z.c z.z) (hz : ∀ y, z.a = some y → u.ownBlock ≠ some y.block ∧ y.block < w.heap.size ∧ ¬ K y.block) (hlen : gs.length < n) (hs : gs.length ≤ 100000) :
    Calls Try.prog 51 #[.pointer (some ⟨g, 0, none⟩), .int .i64 z.own, .int .i64 z.ind, .slice z.a z.n z.c] w (LyQ w0 w K g a n c ks u gs (num ks gs.length) z) := by
  obtain ⟨au, cu, rfl⟩ := h.form
  have H := Lib.hid h
  have HP := Lib.hid hp
  have HZ := Lib.hid hz
  have HS := Lib.hid hs
  obtain ⟨b, off, rfl, hlt, hcs⟩ := h.ins.at (by omega)
  have x3 := hcs gs.length hlen
  obtain ⟨zz, hzz⟩ : ∃ zz, zz = num ks gs.length := ⟨_, rfl⟩
  rw [← hzz] at x3 ⊢
  have x1 := h.cells.1
  have x2 := h.cells.2.1
  have k0 : (gs.length : Int) < (n : Int) := by omega
  have k1 : (0 : Int) ≤ (gs.length : Int) := by omega
  clear h hp hz hs hcs hzz hlt hlen
  obtain ⟨gl, hgl⟩ : ∃ gl, gl = gs.length := ⟨_, rfl⟩
  rw [← hgl] at H HZ x2 x3 k0 k1 HS ⊢
  have HGL := Lib.hid hgl
  clear hgl
  go_enter Try.func51, Try.ntmps51
  go_upto_region 1 with fail
  refine wp_region_held_drew (S := (fun w' => w'.cell? ⟨g, 0, none⟩ = some (.slice (some ⟨b, off, none⟩) n c) ∧ w'.cell? ⟨g, 1, none⟩ = some (.slice au gl cu) ∧ w'.cell? ⟨b, off + gl, none⟩ = some (.int .i64 zz))) (by kernel_rfl) ⟨x1, x2, x3⟩ (fun hHeld => ?_)
  refine wpAnyH_take (i := 0) (v := ?_) rfl (by kernel_rfl) (by kernel_rfl) (by kernel_rfl) (fun _ _ _ h => h) (Or.inl ⟨by rfl, fun w hSw => ?_⟩) (by assumption) ?_
  rotate_left
  · (try dsimp only at hSw); go_simp; try with_reducible rfl
  simp only [Act.put, List.setIfInBounds_toArray, List.set_cons_zero, List.set_cons_succ, List.getElem_toArray, List.getElem_cons_zero]
  refine wpAnyH_take (i := 1) (v := ?_) rfl (by kernel_rfl) (by kernel_rfl) (by kernel_rfl) (fun _ _ _ h => h) (Or.inl ⟨by rfl, fun w hSw => ?_⟩) (by assumption) ?_
  rotate_left
  · (try dsimp only at hSw); go_simp; try with_reducible rfl
  simp only [Act.put, List.setIfInBounds_toArray, List.set_cons_zero, List.set_cons_succ, List.getElem_toArray, List.getElem_cons_succ, List.getElem_cons_zero]
  refine wpAnyH_take (i := 2) (v := ?_) rfl (by kernel_rfl) (by kernel_rfl) (by kernel_rfl) (fun _ _ _ h => h) (Or.inl ⟨by rfl, fun w hSw => ?_⟩) (by assumption) ?_
  rotate_left
  · (try dsimp only at hSw); go_simp; try with_reducible rfl
  simp only [Act.put, List.setIfInBounds_toArray, List.set_cons_zero, List.set_cons_succ, List.getElem_toArray, List.getElem_cons_succ, List.getElem_cons_zero]
  refine wpAnyH_take (i := 3) (v := ?_) rfl (by kernel_rfl) (by kernel_rfl) (by kernel_rfl) (fun _ _ _ h => h) (Or.inl ⟨by rfl, fun w hSw => ?_⟩) (by assumption) ?_
  rotate_left
  · (try dsimp only at hSw); go_simp; try with_reducible rfl
  simp only [Act.put, List.setIfInBounds_toArray, List.set_cons_zero, List.set_cons_succ, List.getElem_toArray, List.getElem_cons_succ, List.getElem_cons_zero]
  refine wpAnyH_take (i := 4) (v := ?_) rfl (by kernel_rfl) (by kernel_rfl) (by kernel_rfl) (fun _ _ _ h => h) (Or.inl ⟨by rfl, fun w hSw => ?_⟩) (by assumption) ?_
  rotate_left
  · (try dsimp only at hSw); go_simp; try with_reducible rfl
  simp only [Act.put, List.setIfInBounds_toArray, List.set_cons_zero, List.set_cons_succ, List.getElem_toArray, List.getElem_cons_succ, List.getElem_cons_zero]
  refine wpAnyH_take (i := 5) (v := ?_) rfl (by kernel_rfl) (by kernel_rfl) (by kernel_rfl) (fun _ _ _ h => h) (Or.inl ⟨by rfl, fun w hSw => ?_⟩) (by assumption) ?_
  rotate_left
  · (try dsimp only at hSw); go_simp; try with_reducible rfl
  simp only [Act.put, List.setIfInBounds_toArray, List.set_cons_zero, List.set_cons_succ, List.getElem_toArray, List.getElem_cons_succ, List.getElem_cons_zero]
  refine wpAnyH_take (i := 6) (v := ?_) rfl (by kernel_rfl) (by kernel_rfl) (by kernel_rfl) (fun _ _ _ h => h) (Or.inl ⟨by rfl, fun w hSw => ?_⟩) (by assumption) ?_
  rotate_left
  · (try dsimp only at hSw); go_simp; try with_reducible rfl
  simp only [Act.put, List.setIfInBounds_toArray, List.set_cons_zero, List.set_cons_succ, List.getElem_toArray, List.getElem_cons_succ, List.getElem_cons_zero]
  refine wpAnyH_take (i := 7) (v := ?_) rfl (by kernel_rfl) (by kernel_rfl) (by kernel_rfl) (fun _ _ _ h => h) (Or.inl ⟨by rfl, fun w hSw => ?_⟩) (by assumption) ?_
  rotate_left
  · (try dsimp only at hSw); go_simp; try with_reducible rfl
  simp only [Act.put, List.setIfInBounds_toArray, List.set_cons_zero, List.set_cons_succ, List.getElem_toArray, List.getElem_cons_succ, List.getElem_cons_zero]
  refine wpAnyH_take (i := 8) (v := ?_) rfl (by kernel_rfl) (by kernel_rfl) (by kernel_rfl) (fun _ _ _ h => h) (Or.inl ⟨by rfl, fun w hSw => ?_⟩) (by assumption) ?_
  rotate_left
  · (try dsimp only at hSw); go_simp; try with_reducible rfl
  simp only [Act.put, List.setIfInBounds_toArray, List.set_cons_zero, List.set_cons_succ, List.getElem_toArray, List.getElem_cons_succ, List.getElem_cons_zero]
  refine wpAnyH_take (i := 9) (v := ?_) rfl (by kernel_rfl) (by kernel_rfl) (by kernel_rfl) (fun _ _ _ h => h) (Or.inl ⟨by rfl, fun w hSw => ?_⟩) (by assumption) ?_
  rotate_left
  · (try dsimp only at hSw); go_simp; try with_reducible rfl
  simp only [Act.put, List.setIfInBounds_toArray, List.set_cons_zero, List.set_cons_succ, List.getElem_toArray, List.getElem_cons_succ, List.getElem_cons_zero]
  refine wpAnyH_take (i := 10) (v := ?_) rfl (by kernel_rfl) (by kernel_rfl) (by kernel_rfl) (fun _ _ _ h => h) (Or.inl ⟨by rfl, fun w hSw => ?_⟩) (by assumption) ?_
  rotate_left
  · (try dsimp only at hSw); go_simp; try with_reducible rfl
  simp only [Act.put, List.setIfInBounds_toArray, List.set_cons_zero, List.set_cons_succ, List.getElem_toArray, List.getElem_cons_succ, List.getElem_cons_zero]
  refine wpAnyH_take (i := 11) (v := ?_) rfl (by kernel_rfl) (by kernel_rfl) (by kernel_rfl) (fun _ _ _ h => h) (Or.inl ⟨by rfl, fun w hSw => ?_⟩) (by assumption) ?_
  rotate_left
  · (try dsimp only at hSw); go_simp; try with_reducible rfl
  simp only [Act.put, List.setIfInBounds_toArray, List.set_cons_zero, List.set_cons_succ, List.getElem_toArray, List.getElem_cons_succ, List.getElem_cons_zero]
  refine wpAnyH_done (by kernel_rfl) ?_ _
  have HD := Lib.hid H.out.drew
  have hbx : Below w.drew.heap.size w.drew (w.drew.alloc (.cells #[.int .i64 z.own, .int .i64 z.ind, .slice z.a z.n z.c] 52)) := (Below.refl _ _).alloc (Nat.le_refl _) _
  have HX := Lib.hid (HD.out.next hbx)
  have HPX := Lib.hid (show ∀ z', z' ∈ [z] → Pin (w.drew.alloc (.cells #[.int .i64 z.own, .int .i64 z.ind, .slice z.a z.n z.c] 52)) z'.a z'.n z'.c z'.z from fun z' h' => by
    rw [List.mem_singleton.1 h']
    exact (HP.out.next (below_drewN (Below.refl _ _) 1)).next hbx)
  have HZX := Lib.hid (show ∀ z', z' ∈ [z] → ∀ y, z'.a = some y → (Value.slice au gl cu).ownBlock ≠ some y.block ∧ y.block < (w.drew.alloc (.cells #[.int .i64 z.own, .int .i64 z.ind, .slice z.a z.n z.c] 52)).heap.size from fun z' h' y e => by
    rw [List.mem_singleton.1 h'] at e
    exact ⟨(HZ.out y e).1, Nat.lt_of_lt_of_le (HZ.out y e).2.1 hbx.size⟩)
  have HKX := Lib.hid (show ∀ z', z' ∈ [z] → ∀ y, z'.a = some y → ¬ K y.block from fun z' h' y e => by
    rw [List.mem_singleton.1 h'] at e
    exact (HZ.out y e).2.2)
  have HGX := Lib.hid (show (w.drew.alloc (.cells #[.int .i64 z.own, .int .i64 z.ind, .slice z.a z.n z.c] 52)).heap[w.drew.heap.size]? = some (.cells (blL [z]).toArray 52 (0, 0)) from heap_alloc_new w.drew _)
  have HTX := Lib.hid (show Turn (Lv g (.slice au gl cu)) w (w.drew.alloc (.cells #[.int .i64 z.own, .int .i64 z.ind, .slice z.a z.n z.c] 52)) from (Turn.of_below (below_drewN (Below.refl _ _) 1)).trans (Turn.of_below hbx))
  have HBX := Lib.hid (show w.heap.size ≤ (w.drew.alloc (.cells #[.int .i64 z.own, .int .i64 z.ind, .slice z.a z.n z.c] 52)).heap.size from hbx.size)
  clear hbx x1 x2 x3
  have y1 := HD.out.cells.2.1
  have y2 := HD.out.cells.2.2.2
  go_wp2_with (at_builtin; go_must (refine wpList_apB rfl (.tmp 25) (.tmp 30) rfl w0.heap.size _ gs rfl HX.out.o.out w.drew.heap.size [z] 1 rfl rfl HPX.out HZX.out HGX.out (by have := HS.out; have := HGL.out; omega) HX.out.o.bel.size ?_); intro v5 w5 hO5 hG5 hv5; obtain ⟨⟨c4n, f4n, ltn⟩, hR6, hT6⟩ := HX.out.grow hO5 hG5 hv5 HKX.out; obtain ⟨a5, c5n, rfl⟩ := hR6.form; obtain ⟨m5, hm5⟩ : ∃ m, m = (gs ++ [z]).length := ⟨_, rfl⟩; rw [← hm5] at hR6 hT6 hv5 ⊢; clear hm5; have HR6 := Lib.hid hR6; have HT6 := Lib.hid hT6; have HV := Lib.hid hv5; clear hR6 hT6 hO5 hG5 hv5 y1 y2)
  go_ret
  refine ⟨_, rfl, HR6.out, HTX.out.trans HT6.out, fun j hj => ?_⟩
  rcases HV.out with e | e
  · exact .inl (e.symm.trans hj)
  · refine .inr ?_
    rw [e] at hj
    have h2 := Option.some.inj hj
    rw [← h2]
    exact HBX.out
theorem play_any {w0 w : World} {K : Nat → Prop} {g : Nat} {a : Option Addr} {n c : Nat} {ks : List Int} {u : Value} {gs : List Bl} (h : PlO w0 w K g a n c ks u gs) (z : Bl) (hp : Pin w z.a z.n z.c z.z) (hz : ∀ y, z.a = some y → u.ownBlock ≠ some y.block ∧ y.block < w.heap.size ∧ ¬ K y.block) (hlen : gs.length < n) (hs : gs.length ≤ 100000) :
    Calls Try.prog 51 #[.pointer (some ⟨g, 0, none⟩), .int .i64 z.own, .int .i64 z.ind, .slice z.a z.n z.c] w (LyP w0 w K g a n c ks u gs (num ks gs.length) [z.bk]) :=
  (play_eq h z hp hz hlen hs).mono fun e w' ⟨u', he, h1, h2, h3⟩ => ⟨u', _, he, h1, by rw [List.map_append]; rfl, h2, h3⟩

section
variable {w wr w' : World} {u u' : Value} {gs zs : List Bl} {bw bc b9 b10 : Nat} {p : Value} {ch F : Nat → Int} {x : Nw}
end
/-- The record, when k of its own pointers are laid. -/
def rD (n : Nd) (k : Nat) : Nat → Int := fun j => if j < 3 then rK n j else if j < 3 + k then num n.ads (j - 3) else 0
theorem rD_zero (n : Nd) : rK n = rD n 0 := by
  funext j
  unfold rD rK
  by_cases h : j < 3
  · rw [if_pos h]
  · rw [if_neg h, if_neg (by omega), if_neg (by omega), if_neg (by omega), if_neg (by omega)]
theorem ppF_tb {g : Nat → Int} (h : ∀ i, i < 28 → 0 ≤ g i ∧ g i ≤ 65535) : ppF (tb g) = ppL (tb g) := by
  have e : ppO (tb g) = true := by
    rw [ppO, Bool.and_eq_true, decide_eq_true_eq, List.all_eq_true]
    refine ⟨by rw [tb_len]; exact Nat.le_refl _, fun z hz => ?_⟩
    unfold tb at hz
    obtain ⟨i, hi, rfl⟩ := List.mem_map.1 hz
    have := h i (List.mem_range.1 hi)
    simp [ptO, this.1, this.2]
  rw [ppF, if_pos e]
theorem sB_le (n : Nd) : (sB n).length ≤ 1 := by unfold sB; split <;> simp
theorem dB_le (n : Nd) (k : Nat) : (dB n k).length ≤ k := by
  induction k with
  | zero => exact Nat.le_refl _
  | succ k ih => rw [dB, List.length_append]; split <;> simp <;> omega
theorem dL_le (at' : Nat → Int) (n : Nd) (m : Nat) : (dL at' n m).length ≤ 1 := by unfold dL; split <;> simp
theorem lB_le (at' : Nat → Int) (f : Nat → Nd) (i : Nat) : (lB at' f i).length ≤ 31 * i := by
  induction i with
  | zero => exact Nat.le_refl _
  | succ i ih =>
    have h1 := sB_le (f i)
    have h2 := dB_le (f i) 28
    have h3 := dL_le at' (f i) (lB at' f i).length
    rw [lB, ndB, bod]
    simp only [List.length_append, List.length_cons, List.length_nil]
    omega
theorem rF_make (at' : Nat → Int) (n : Nd) (m : Nat) : upd (upd (rD n 16) 19 (if sS n.ads then at' m else 0)) 20 (if dA n then at' (m + dI n 28) else 0) = rF at' n m := by
  funext j
  unfold upd rD rF rK
  by_cases h20 : j = 20
  · subst h20; simp
  by_cases h19 : j = 19
  · subst h19; simp
  rw [if_neg h20, if_neg h19]
  by_cases h3 : j < 3
  · rw [if_pos h3]
    rcases (by omega : j = 0 ∨ j = 1 ∨ j = 2) with rfl | rfl | rfl <;> rfl
  · rw [if_neg h3, if_neg (by omega : ¬ j = 0), if_neg (by omega : ¬ j = 1), if_neg (by omega : ¬ j = 2)]
    by_cases h4 : j < 19
    · rw [if_pos (by omega), if_pos h4]
    · rw [if_neg (by omega), if_neg h4, if_neg h19, if_neg h20]
theorem rF_rgt {N : Int} {at' : Nat → Int} {n : Nd} {m : Nat} (hr : NdR N n) (hN : N ≤ 65535) (ht : ∀ i, 0 ≤ at' i ∧ at' i ≤ 65535) : RgR (rF at' n m) := by
  have h0 := rgO_iff.1 hr.r
  have hk : (n.kind = 1 ∨ n.kind = 2) := h0.kind
  have h1 : 1 ≤ n.links := h0.l1
  have h2 : n.links ≤ 65535 := h0.l2
  have h3 : 0 ≤ n.size := h0.s0
  have h4 : n.size ≤ 46368 := h0.s1
  have hl := hr.l
  refine ⟨by rw [rF_0]; exact hk, by rw [rF_1]; exact h1, by rw [rF_1]; exact h2, by rw [rF_2]; exact h3, by rw [rF_2]; exact h4, fun i hi => ?_⟩
  rw [atO, rF_2]
  by_cases h16 : i < 16
  · rw [rF_d h16]
    refine at_yes (hr.pt hN i) ?_
    by_cases hz : num n.ads i = 0
    · exact .inl hz
    · have : i < n.ads.length := by
        by_cases hi2 : i < n.ads.length
        · exact hi2
        · exact absurd (num_out (by omega)) hz
      rw [ftI, if_neg (by omega), if_neg (by omega)]
      exact .inr (by omega)
  · rcases (by omega : i = 16 ∨ i = 17) with rfl | rfl
    · rw [show 3 + 16 = 19 from rfl, rF_19]
      by_cases hs : sS n.ads = true
      · have hb := ht m
        have := prt_far hs
        rw [if_pos hs]
        exact at_yes (by omega) (.inr (by rw [show ftI 16 = 16 from rfl]; omega))
      · rw [if_neg hs]
        exact at_yes (by omega) (.inl rfl)
    · rw [show 3 + 17 = 20 from rfl, rF_20]
      by_cases hs : dA n = true
      · have hb := ht (m + dI n 28)
        obtain ⟨k, hk1, hk2⟩ := dA_iff.1 hs
        have := prt_far hk2
        rw [if_pos hs]
        exact at_yes (by omega) (.inr (by rw [show ftI 17 = 44 from rfl]; omega))
      · rw [if_neg hs]
        exact at_yes (by omega) (.inl rfl)

theorem tb_arr (f : Nat → Int) : ((List.range 28).map fun i => f (0 + i)) = tb f := by
  unfold tb
  exact List.map_congr_left fun i _ => by rw [Nat.zero_add]
theorem playP_any {w0 w : World} {K : Nat → Prop} {g : Nat} {a : Option Addr} {n c : Nat} {ks : List Int} {u : Value} {gs : List Bl} (h : PlO w0 w K g a n c ks u gs) (own ind : Int) (f : Nat → Int) (hf : ∀ i, i < 28 → 0 ≤ f i ∧ f i ≤ 65535) (hlen : gs.length < n) (hs : gs.length ≤ 100000) :
    Calls Try.prog 50 #[.pointer (some ⟨g, 0, none⟩), .int .i64 own, .int .i64 ind, arv 28 f] w (LyP w0 w K g a n c ks u gs (num ks gs.length) [⟨own, ind, ppL (tb f)⟩]) := by
  have H := Lib.hid h
  have HS := Lib.hid hs
  have HL := Lib.hid hlen
  have HF := Lib.hid hf
  obtain ⟨wa, hwa⟩ : ∃ wa, wa = w.alloc (.cells (arr 28 f) 91 (0, 0)) := ⟨_, rfl⟩
  have hba : Below w.heap.size w wa := by rw [hwa]; exact (Below.refl _ _).alloc (Nat.le_refl _) _
  have hra : wa.heap[w.heap.size]? = some (.cells (arr 28 f) 91 (0, 0)) := by rw [hwa]; exact heap_alloc_new w _
  have hia := ins_arr hra (o := 0) (m := 28) (by omega)
  rw [tb_arr] at hia
  have HA := Lib.hid (h.next hba)
  have HB := Lib.hid hba
  have HI := Lib.hid hia
  have HW := Lib.hid hwa
  clear h hs hlen hf hwa hba hra hia
  go_enter Try.func50, Try.ntmps50
  go_wp2_with (first | (refine wpList_bxA ar28 (by rfl) (.tmp 3) rfl f rfl ?_; rw [← HW.out]) | fail)
  refine (putP_any (some ⟨w.heap.size, 0, none⟩) 28 28 _ wa HI.out (by omega)).mono ?_
  rintro e w2 ⟨a', n', c', rfl, hp, hnw, hb⟩
  rw [ppF_tb HF.out] at hp
  have hn56 : n' = 56 := by
    have := hp.len
    rw [ppL_len (by rw [tb_len]; exact Nat.le_refl _)] at this
    exact this.symm
  have H2 := Lib.hid (HA.out.next hb)
  have HB2 := Lib.hid (HB.out.trans (hb.mono HB.out.size))
  obtain ⟨z, hz⟩ : ∃ z : Bl, z = ⟨own, ind, a', n', c', ppL (tb f)⟩ := ⟨_, rfl⟩
  have hcall := play_any H2.out z (by rw [hz]; exact hp) (fun y e => by
    rw [hz] at e
    have h1 := hnw y e
    have h2 : y.block < w2.heap.size := by
      obtain ⟨b', o', e', hlt', _⟩ := hp.at (by omega)
      rw [e'] at e
      cases e
      exact hlt'
    refine ⟨fun e2 => ?_, h2, fun e2 => ?_⟩
    · have := (World.ownsRow.lt HA.out.o.out.row _ e2).2; omega
    · have := (HA.out.o.lt _ e2).2; omega) HL.out HS.out
  rw [hz] at hcall
  have HCALL := Lib.hid hcall
  clear hz hcall hp hnw hb hn56
  go_wp2_with (fail)
  refine HCALL.out.mono ?_
  rintro e w3 ⟨u', gs', rfl, h3, hg3, ht3, hu3⟩
  have H3 := Lib.hid h3
  have HG3 := Lib.hid hg3
  have HT3 := Lib.hid ((Turn.of_below (M := Lv g u) HB2.out).trans ht3)
  have HU3 := Lib.hid (show ∀ j, u'.ownBlock = some j → u.ownBlock = some j ∨ w.heap.size ≤ j from fun j e => by
    rcases hu3 j e with e1 | e1
    · exact .inl e1
    · exact .inr (Nat.le_trans HB2.out.size e1))
  clear h3 hg3 ht3 hu3
  go_wp2_with (fail)
  go_ret
  exact ⟨u', gs', rfl, H3.out, HG3.out, HT3.out, HU3.out⟩
theorem playS_any {w0 w : World} {K : Nat → Prop} {g : Nat} {a : Option Addr} {n c : Nat} {ks : List Int} {u : Value} {gs : List Bl} (h : PlO w0 w K g a n c ks u gs) (own ind : Int) (f : Nat → Int) (hf : ∀ i, i < 28 → 0 ≤ f i ∧ f i ≤ 65535) (hlen : gs.length < n) (hs : gs.length ≤ 100000) :
    Calls Try.prog 84 #[.pointer (some ⟨g, 0, none⟩), .int .i64 own, .int .i64 ind, arv 28 f] w (LyP w0 w K g a n c ks u gs (if allZ 28 f then 0 else num ks gs.length) (if allZ 28 f then [] else [⟨own, ind, ppL (tb f)⟩])) := by
  have H := Lib.hid h
  have HS := Lib.hid hs
  have HL := Lib.hid hlen
  have HF := Lib.hid hf
  obtain ⟨wa, hwa⟩ : ∃ wa, wa = w.alloc (.cells (arr 28 f) 91 (0, 0)) := ⟨_, rfl⟩
  have hba : Below w.heap.size w wa := by rw [hwa]; exact (Below.refl _ _).alloc (Nat.le_refl _) _
  have hra : wa.heap[w.heap.size]? = some (.cells (arr 28 f) 91 (0, 0)) := by rw [hwa]; exact heap_alloc_new w _
  have HA := Lib.hid (h.next hba)
  have HB := Lib.hid hba
  have HR := Lib.hid hra
  have HW := Lib.hid hwa
  have heq := fun w => run_eqZ f w
  obtain ⟨t, ht⟩ : ∃ t, t = allZ 28 f := ⟨_, rfl⟩
  rw [← ht] at heq ⊢
  clear h hs hlen hf hwa hba hra ht
  cases t with
  | true =>
    go_enter Try.func84, Try.ntmps84
    go_wp2_with (first
      | (refine wpList_bxA ar28 (by rfl) (.tmp 3) rfl f rfl ?_; rw [← HW.out])
      | (refine wpList_ldA ar28 (by rfl) (.tmp 7) rfl w.heap.size rfl f HR.out ?_)
      | (refine wpList_bu28 (by rfl) rfl ?_)
      | fail)
    go_ret
    exact ⟨u, gs, rfl, HA.out, by simp, Turn.of_below HB.out, fun j e => .inl e⟩
  | false =>
    go_enter Try.func84, Try.ntmps84
    go_wp2_with (first
      | (refine wpList_bxA ar28 (by rfl) (.tmp 3) rfl f rfl ?_; rw [← HW.out])
      | (refine wpList_ldA ar28 (by rfl) (.tmp 7) rfl w.heap.size rfl f HR.out ?_)
      | (refine wpList_bu28 (by rfl) rfl ?_)
      | fail)
    refine (playP_any HA.out own ind f HF.out HL.out HS.out).mono ?_
    rintro e w3 ⟨u', gs', rfl, h3, hg3, ht3, hu3⟩
    have H3 := Lib.hid h3
    have HG3 := Lib.hid hg3
    have HT3 := Lib.hid ((Turn.of_below (M := Lv g u) HB.out).trans ht3)
    have HU3 := Lib.hid (show ∀ j, u'.ownBlock = some j → u.ownBlock = some j ∨ w.heap.size ≤ j from fun j e => by
      rcases hu3 j e with e1 | e1
      · exact .inl e1
      · exact .inr (Nat.le_trans HB.out.size e1))
    clear h3 hg3 ht3 hu3 heq
    go_wp2_with (fail)
    go_ret
    exact ⟨u', gs', rfl, H3.out, HG3.out, HT3.out, HU3.out⟩
theorem pfirst_any (i : Nat) (h : i ≤ 1000) (w : World) : Calls Try.prog 86 #[.int .i64 (i : Int)] w fun e w' => e = .returned (.int .i64 ((44 + 28 * i : Nat) : Int)) ∧ w = w' := by
  have e : IntKind.i64.wrap ((i : Int) * 28) = ((28 * i : Nat) : Int) := by rw [show (i : Int) * 28 = ((28 * i : Nat) : Int) by omega]; exact IntWalk.i64_in _ (by omega)
  have e2 : IntKind.i64.wrap (44 + ((28 * i : Nat) : Int)) = ((44 + 28 * i : Nat) : Int) := by rw [show (44 : Int) + ((28 * i : Nat) : Int) = ((44 + 28 * i : Nat) : Int) by omega]; exact IntWalk.i64_in _ (by omega)
  go_enter Try.func86, Try.ntmps86
  go_wp2_with (fail)
  go_ret
  refine ⟨?_, rfl⟩
  congr 2
theorem pfrom_any (g k : Nat) (A : Nat → Int) (hk : k + 28 ≤ 828) (w : World) (hr : w.heap[g]? = some (.cells (arr 828 A) 149 (0, 0))) :
    Calls Try.prog 85 #[.pointer (some ⟨g, 0, none⟩), .int .i64 (k : Int)] w fun e w' => e = .returned (arv 28 fun i => A (k + i)) ∧ Below w.heap.size w w' := by
  obtain ⟨wa, hwa⟩ : ∃ wa, wa = w.alloc (.cells (arr 28 noA) 91 (0, 0)) := ⟨_, rfl⟩
  have hba : Below w.heap.size w wa := by rw [hwa]; exact (Below.refl _ _).alloc (Nat.le_refl _) _
  have hra : wa.heap[w.heap.size]? = some (.cells (arr 28 noA) 91 (0, 0)) := by rw [hwa]; exact heap_alloc_new w _
  have hga := (hba.block g (lt_of_block hr)).trans hr
  have HB := Lib.hid hba
  have HR := Lib.hid hra
  have HW := Lib.hid hwa
  have HC := Lib.hid (show ∀ i, i < 28 → wa.cell? ⟨g, k + i, none⟩ = some (.int .i64 (A (k + i))) from fun i hi => by
    rw [cell_of_row wa g (k + i) _ _ (0, 0) hga, arr_at A (by omega)])
  have hsl := run_slA_lh g k 28 hk (by omega)
  have hap := run_aptr
  have e28 : ((28 : Nat) : Int) = 28 := rfl
  rw [e28] at hsl
  clear hwa hba hra hga hr
  go_enter Try.func85, Try.ntmps85
  go_wp2_with (first
    | (refine wpList_alA ar28 (by rfl) rfl ?_; rw [← HW.out])
    | (refine wpList_ldM ar28 (by rfl) (.tmp 11) rfl g k rfl (fun i => A (k + i)) HC.out ?_)
    | (refine wpList_stA ar28 (by rfl) (.tmp 4) (.tmp 12) rfl w.heap.size rfl (fun i => A (k + i)) noA rfl HR.out ?_; intro w5 h5 ho5 hb5)
    | fail)
  refine bodyPost_ret (v := arv 28 fun i => A (k + i)) ?_ rfl ?_
  · exact res_c1 rfl _ _ ⟨w.heap.size, 0, none⟩ _ rfl (ar28.load h5)
  · exact ⟨rfl, hb5 _ _ (Nat.le_refl _) HB.out⟩

section
variable {α β : Type} {N : Int} {blk : Int → Option (List Int)}
theorem run_rd2 (q : Int) (k : List Int → Rp α) (l : List Int) : run N blk (.rd q k) l = match run N blk (.rd q .ret) l with
    | .ok (b, l') => run N blk (k b) l'
    | .error e => .error e := by
  have h := run_bind (N := N) (blk := blk) (.rd q .ret) k l
  have e : (Rp.rd q Rp.ret).bind k = Rp.rd q k := rfl
  rw [e] at h
  rw [h]
  cases run N blk (.rd q .ret) l with
  | ok x => obtain ⟨a, b⟩ := x; rfl
  | error e => rfl
end
theorem run_rd_len {N : Int} {blk : Int → Option (List Int)} {q : Int} {l l' b : List Int} (h : run N blk (.rd q .ret) l = .ok (b, l')) : l' = l ++ [q] := by
  rw [run] at h
  split at h
  · split at h
    · cases h
    · split at h
      · cases h; rfl
      · cases h
  · cases h
theorem som_num {ks : List Int} (h : ks.length = 28) : som ks = !allZ 28 (num ks) := by
  cases hz : allZ 28 (num ks) with
  | true =>
    rw [allZ_iff] at hz
    exact som_false fun i hi => hz i (by omega)
  | false =>
    cases hs : som ks with
    | true => rfl
    | false =>
      exfalso
      have : allZ 28 (num ks) = true := allZ_iff.2 fun i hi => by
        by_cases e : num ks i = 0
        · exact e
        · rw [som_iff.2 ⟨i, by omega, e⟩] at hs; cases hs
      rw [this] at hz
      cases hz
abbrev valP (ks : List Int) (u : Value) (w' : World) : Prop := u = arv 28 (num ks)
abbrev rdQ (q : Int) : Rp (List Int) := .rd q fun b => .ret (gpL b 28)
theorem preadP_any {K : Nat → Prop} (S : Sv) (g : Nat) (v : Value) (l : List Int) (hh : Bool) (q : Int) (w : World) (H : LdK w K S g v l hh) (hm : l.length ≤ 1000000) :
    Calls Try.prog 104 #[.pointer (some ⟨g, 0, none⟩), .int .i64 q] w (PrP w K S g v (run S.M S.blk (rdQ q) l) (fun _ => hh) valP) := by
  obtain ⟨wa, hwa⟩ : ∃ wa, wa = w.alloc (.cells (arr 28 noA) 91 (0, 0)) := ⟨_, rfl⟩
  have hba : Below w.heap.size w wa := by rw [hwa]; exact (Below.refl _ _).alloc (Nat.le_refl _) _
  have hra : wa.heap[w.heap.size]? = some (.cells (arr 28 noA) 91 (0, 0)) := by rw [hwa]; exact heap_alloc_new w _
  have HH := Lib.hid (show LdK wa (fun j => K j ∨ j = w.heap.size) S g v l hh from H.box hba (b := w.heap.size) (Nat.le_refl _) (lt_of_block hra) (fun j e => e))
  have HB := Lib.hid hba
  have HR := Lib.hid hra
  have HW := Lib.hid hwa
  have HL := Lib.hid hm
  have HG0 := Lib.hid (show S.w0.heap.size ≤ w.heap.size from H.bel.size)
  have hap := run_aptr
  have hcall := pblock_any S g v l hh q wa HH.out hm
  obtain ⟨R, hR⟩ : ∃ R, R = run S.M S.blk (.rd q .ret) l := ⟨_, rfl⟩
  rw [← hR] at hcall
  have HRE := Lib.hid hR
  clear hwa hba hra H hm hR
  cases R with
  | error er =>
    have HE := Lib.hid (show run S.M S.blk (rdQ q) l = .error er by rw [run_rd2, ← HRE.out])
    go_enter Try.func104, Try.ntmps104
    go_wp2_with (first | (refine wpList_alA ar28 (by rfl) rfl ?_; rw [← HW.out]) | fail)
    refine hcall.mono ?_
    rintro e w2 ⟨ht, rfl⟩
    exact ⟨rfl, PrP.err HE.out ((Turn.of_below (M := Tv g v) HB.out).trans ht)⟩
  | ok x =>
    obtain ⟨z, l'⟩ := x
    have HE := Lib.hid (show run S.M S.blk (rdQ q) l = .ok (gpL z 28, l') by rw [run_rd2, ← HRE.out]; rfl)
    go_enter Try.func104, Try.ntmps104
    go_wp2_with (first | (refine wpList_alA ar28 (by rfl) rfl ?_; rw [← HW.out]) | fail)
    refine hcall.mono ?_
    rintro e w2 ⟨ht, u, v', rfl, ⟨a, c, rfl, hp, hn⟩, hk, ho⟩
    have HK2 := Lib.hid hk
    have HR2 := Lib.hid (HH.out.keep ht (.inr rfl) HR.out)
    have HT2 := Lib.hid ((Turn.of_below (M := Tv g v) HB.out).trans ht)
    have HO2 := Lib.hid (show ∀ j, v'.ownBlock = some j → v.ownBlock = some j ∨ w.heap.size ≤ j from fun j e => by
      rcases ho j e with e1 | e1
      · exact .inl e1
      · exact .inr (Nat.le_trans HB.out.size e1))
    have HP2 := Lib.hid hp
    clear hcall hk ht ho hp hn
    go_wp2_with (fail)
    refine (getP_any a 56 c z w2 HP2.out.bys (by omega)).mono ?_
    rintro e w3 ⟨a3, c3, rfl, hi3, _, _, hb3⟩
    have hz56 := HP2.out.len
    rw [gpF, if_pos hz56] at hi3 ⊢
    rw [gpL_len] at hi3 ⊢
    obtain ⟨b3, o3, rfl, hl3, hc3⟩ := hi3.at (by omega)
    have HK3 := Lib.hid (HK2.out.next hb3)
    have HR3 := Lib.hid ((hb3.block _ (lt_of_block HR2.out)).trans HR2.out)
    have HT3 := Lib.hid (HT2.out.trans (Turn.of_below hb3))
    have HC3 := Lib.hid hc3
    clear hi3 hb3 hl3 hz56
    go_wp2_with (first
      | (refine wpList_ldM ar28 (by rfl) (.tmp 15) rfl b3 o3 rfl (num (gpL z 28)) HC3.out ?_)
      | (refine wpList_stA ar28 (by rfl) (.tmp 4) (.tmp 16) rfl w.heap.size rfl (num (gpL z 28)) noA rfl HR3.out ?_; intro w5 h5 ho5 hb5)
      | fail)
    have ht5 : Turn (· = w.heap.size) w3 w5 := ⟨(hb5 _ _ (Nat.le_refl _) (Below.refl _ _)).os, (hb5 _ _ (Nat.le_refl _) (Below.refl _ _)).tape, (hb5 _ _ (Nat.le_refl _) (Below.refl _ _)).output, (hb5 _ _ (Nat.le_refl _) (Below.refl _ _)).size, fun k _ hk => ho5 k hk⟩
    refine bodyPost_ret (v := arv 28 (num (gpL z 28))) ?_ rfl ?_
    · exact res_c1 rfl _ _ ⟨w.heap.size, 0, none⟩ _ rfl (ar28.load h5)
    · exact PrP.ok HE.out (HT3.out.trans2 ht5 (fun j e => .inr (by rw [e]; exact Nat.le_refl _))) rfl ((HK3.out.set ht5 (.inr rfl) HG0.out).sub (fun j e => .inl e)) HO2.out
/-- The flag is set. -/
theorem LdK.flag {w : World} {K : Nat → Prop} {S : Sv} {g : Nat} {v : Value} {l : List Int} {h : Bool} (H : LdK w K S g v l h) (b : Bool) : LdK (w.setCell ⟨g, 5, none⟩ (.bool b)) K S g v l b ∧ Turn (Tv g v) w (w.setCell ⟨g, 5, none⟩ (.bool b)) := by
  have ht2 : Turn (· = g) w (w.setCell ⟨g, 5, none⟩ (.bool b)) := Turn.setCell (M := (· = g)) (a := ⟨g, 5, none⟩) w rfl _
  refine ⟨⟨?_, H.own.turn ht2 (fun j e h' => by subst h'; exact H.vg e), H.sto, H.bel.trans (ht2.below H.bel.size fun j hj => by rw [hj]; exact H.gB), H.gB, H.vg, fun j e => ⟨Nat.lt_of_lt_of_le (H.kk j e).1 ht2.size, (H.kk j e).2⟩⟩, ht2.mono fun j e => .inl e⟩
  rw [heap_setCell_same w g 5 _ _ _ H.row]; rfl
end Go.Proofs.Ytegcjpocdfmpfaa
