import Derived.Test.YtinholnidchblaaGreatDoorQam
import Derived.Test.YtinholnidchblaaGreatDoorQan
import Derived.Test.YtinholnidchblaaGreatDoorQaf
set_option linter.unusedVariables false
set_option linter.unusedSimpArgs false
set_option maxRecDepth 100000
set_option maxHeartbeats 16000000
namespace Go.Proofs.YtinholnidchblaaGreatDoor
open Go.RowKit
theorem Snd.okF {f : Nat → Nc} {n : Nat} (h : Snd (ndL f n)) : EntOk n f ∧ (∀ i, i < n → Fit (f i).e) ∧ ∀ i, i < n → (f i).d.length ≤ 100000 := by
 have hl := ndL_len f n
 have key : ∀ i, i < n → fileOk (f i).nd ∨ dirOk n (f i).nd := fun i hi => by
  have := h.node i (by omega)
  rwa [nat_ndL hi, hl] at this
 refine ⟨⟨by have := h.few; omega, fun i hi => ?_⟩, fun i hi => ?_, fun i hi => ?_⟩
 ·rcases key i hi with h7 | h7
  ·have h8 : (f i).e = [] := h7.2.1
   rw [h8]
   exact ⟨by simp, fun y hy => by cases hy⟩
  ·refine ⟨h7.2.2.1, fun y hy => ?_⟩
   have := h7.2.2.2.1 y hy
   exact ⟨by omega, this.2.2⟩
 ·rcases key i hi with h7 | h7
  ·have h8 : (f i).e = [] := h7.2.1
   rw [h8]
   exact fun y hy => by cases hy
  ·intro y hy
   have := (h7.2.2.2.1 y hy).1; unfold nmB at this; simp only [Bool.and_eq_true, decide_eq_true_eq] at this; rw [Lib.size_eq]
   omega
 ·rcases key i hi with h7 | h7
  ·exact Nat.le_trans h7.2.2 (by decide)
  ·have h8 : (f i).d = [] := h7.2.1
   rw [h8]
   decide
def OpC (w : World) (b : Nat) (o i m : Int) (p q : ByteArray) (da : Option Addr) (dn dc : Nat) : Prop := w.heap[b]? = some (.cells #[.int .i64 o, .string p, .string q, .int .i64 i, .int .i64 m, .slice da dn dc] 31 (0, 0))
theorem OpC.load {w : World} {b : Nat} {o i m : Int} {p q : ByteArray} {da : Option Addr} {dn dc : Nat} (h : OpC w b o i m p q da dn dc) : (loadVar 31 ⟨b, 0, none⟩).run Tryz.prog w = .ok (.agg #[.int .i64 o, .string p, .string q, .int .i64 i, .int .i64 m, .slice da dn dc]) w :=
 run_loadVar_row w b _ _ _ _ _ h Tryz.underlying31 rfl (by kernel_rfl)
theorem OpC.cells {w : World} {b : Nat} {o i m : Int} {p q : ByteArray} {da : Option Addr} {dn dc : Nat} (h : OpC w b o i m p q da dn dc) :
  w.cell? ⟨b, 0, none⟩ = some (.int .i64 o) ∧ w.cell? ⟨b, 1, none⟩ = some (.string p) ∧ w.cell? ⟨b, 2, none⟩ = some (.string q) ∧ w.cell? ⟨b, 3, none⟩ = some (.int .i64 i) ∧ w.cell? ⟨b, 4, none⟩ = some (.int .i64 m) ∧ w.cell? ⟨b, 5, none⟩ = some (.slice da dn dc) := by
 unfold OpC at h
 refine ⟨?_, ?_, ?_, ?_, ?_, ?_⟩ <;> simp [World.cell?, h]
def resA (r : Rv) (da : Option Addr) (dn dc : Nat) (na : Option Addr) (nn nc : Nat) : Array Value := #[.int .i64 r.err, .slice da dn dc, .slice na nn nc, .int .i64 r.k, .int .i64 r.l, .int .i64 r.sz]
def Do1Post (w : World) (wb g q7 : Nat) (r : List Nd × Rv) (x : Int) (w' : World) : Prop :=
 Turn (fun j => WM g wb j ∨ j = q7) w w' ∧ (x = 0 → r.2.err = 0 ∧ (∃ g' n' c' f', Wo w' wb g' n' c' f' ∧ ndL f' n' = r.1) ∧ ∃ da dn dc na nn nc Ls, RsB w' q7 (resA r.2 da dn dc na nn nc) ∧ ResS w' r.2 da dn dc na nn nc Ls) ∧ (x ≠ 0 → x = r.2.err ∧ RsB w' q7 ResZ)
section
variable {w : World} {wb g n c : Nat} {f : Nat → Nc}
theorem do1_any {q6 q3 q7 : Nat} (h : Wo w wb g n c f) (ht : Rgt (ndL f n)) (o i m : Int) (p q : ByteArray) (da : Option Addr) (dn dc : Nat) (zs : List Int) (hp : p.size < 4294967281) (hq : q.size < 4294967281)
  (hi : -9223372036854775808 ≤ i ∧ i ≤ 9223372036854775807) (hm : -9223372036854775808 ≤ m ∧ m ≤ 9223372036854775807) (hz : Pin w da dn dc zs) (hoff : Off dn da g wb)
  (h6 : w.cell? ⟨q6, 0, none⟩ = some (.pointer (some ⟨wb, 0, none⟩))) (h3 : OpC w q3 o i m p q da dn dc) (h7 : RsB w q7 ResZ) (hg7 : q7 ≠ g) (hw7 : q7 ≠ wb) :
  Calls Tryz.prog 38 #[.pointer (some ⟨q6, 0, none⟩), .pointer (some ⟨q3, 0, none⟩), .pointer (some ⟨q7, 0, none⟩)] w fun e w' =>
   ∃ x, ((e = .returned (.tuple #[]) ∧ x = 0) ∨ e = .panicked [pe x]) ∧ Do1Post w wb g q7 (oAny (ndL f n) o (nms p) (nms q) i m zs) x w' := by
 have hdo := wdo_any h ht o i m p q da dn dc zs hp hq hi hm hz hoff
 obtain ⟨r, hr⟩ : ∃ r, r = oAny (ndL f n) o (nms p) (nms q) i m zs := ⟨_, rfl⟩
 rw [← hr] at hdo ⊢
 have l3 := h3.load
 have H7 := qH h7
 have HNE := qH (And.intro hg7 hw7)
 obtain ⟨x30, x31, x32, x33, x34, x35⟩ := h3.cells
 clear h ht hp hq hi hm hz hoff h3 h7 hg7 hw7 hr
 go_enter Tryz.func38, Tryz.ntmps38
 go_wp2_with fail
 refine hdo.mono ?_
 rintro e w2 h2
 clear hdo
 unfold OpR at h2
 by_cases he : r.2.err = 0
 ·rw [if_pos he] at h2
  obtain ⟨⟨v, rfl, da2, dn2, dc2, na2, nn2, nc2, Ls, rfl, hS⟩, ⟨g', n', c', f', hW, hL, hg'⟩, hT⟩ := h2
  have h72 : RsB w2 q7 ResZ := (hT.block q7 H7.out.lt fun e => e.elim HNE.out.1 HNE.out.2).trans H7.out
  have HE := qH he
  have HW := qH hW
  have HL := qH hL
  have HS := qH hS
  have HT := qH hT
  have H72 := qH h72
  obtain ⟨x0, x1, x2, x3, x4, x5⟩ := h72.cells
  have g0 := h72.free 0
  have g1 := h72.free 1
  have g2 := h72.free 2
  have g3 := h72.free 3
  have g4 := h72.free 4
  have g5 := h72.free 5
  unfold resW
  clear hW hL hS hT h72 he hg'
  go_wp2_with fail
  go_end0
  have hT8 := turn_set6 w2 q7 (.int .i64 r.2.err) (.slice da2 dn2 dc2) (.slice na2 nn2 nc2) (.int .i64 r.2.k) (.int .i64 r.2.l) (.int .i64 r.2.sz)
  refine ⟨0, .inl ⟨rfl, rfl⟩, ?_, fun _ => ⟨HE.out, ⟨g', n', c', f', HW.out.turnR H72.out hT8, HL.out⟩, da2, dn2, dc2, na2, nn2, nc2, Ls, H72.out.set _ _ _ _ _ _, HS.out.turnR H72.out hT8⟩, fun h => absurd rfl h⟩
  exact (HT.out.mono fun j h => .inl h).trans (hT8.mono fun j h => .inr h)
 ·rw [if_neg he] at h2
  obtain ⟨rfl, hT⟩ := h2
  have HT := qH hT
  have HE := qH he
  clear hT he
  go_wp2_with fail
  exact ⟨rfl, r.2.err, .inr rfl, HT.out.mono fun j h => .inl h, fun h => absurd h HE.out, fun _ => ⟨rfl, (HT.out.block q7 H7.out.lt fun e => e.elim HNE.out.1 HNE.out.2).trans H7.out⟩⟩
end
def Odd (v : Value) : Prop := (∀ x, v ≠ .int .u8 x) ∧ ∀ s, v ≠ .string s
def OddB (w : World) (b : Nat) : Prop := ∀ j v, w.cell? ⟨b, j, none⟩ = some v → Odd v
theorem OddB.of {w : World} {b : Nat} {vs : Array Value} {ty : TypeId} {fr : Nat × Nat} (h : w.heap[b]? = some (.cells vs ty fr)) (hv : ∀ v ∈ vs, Odd v) : OddB w b := fun j v hc => by
 rw [cell_of_row w b j _ _ _ h] at hc
 exact hv v (Array.mem_of_getElem? hc)
theorem odd_i (x : Int) : Odd (.int .i64 x) := ⟨fun _ e => (by cases e), fun _ e => (by cases e)⟩
theorem odd_s (a : Option Addr) (m c : Nat) : Odd (.slice a m c) := ⟨fun _ e => (by cases e), fun _ e => (by cases e)⟩
theorem odd_p (a : Option Addr) : Odd (.pointer a) := ⟨fun _ e => (by cases e), fun _ e => (by cases e)⟩
theorem RsB.odd {w : World} {b : Nat} {r : Rv} {da : Option Addr} {dn dc : Nat} {na : Option Addr} {nn nc : Nat} (h : RsB w b (resA r da dn dc na nn nc)) : OddB w b := OddB.of h fun v hv => by
 simp only [resA, List.mem_toArray, List.mem_cons, List.not_mem_nil, or_false] at hv
 rcases hv with e | e | e | e | e | e <;> subst e
 ·exact odd_i _
 ·exact odd_s _ _ _
 ·exact odd_s _ _ _
 ·exact odd_i _
 ·exact odd_i _
 ·exact odd_i _
theorem RsB.oddZ {w : World} {b : Nat} (h : RsB w b ResZ) : OddB w b := (show RsB w b (resA ⟨0, [], [], 0, 0, 0⟩ none 0 0 none 0 0) from h).odd
theorem TrB.odd {w : World} {b : Nat} {a : Option Addr} {m c : Nat} (h : TrB w b (.slice a m c)) : OddB w b := OddB.of h fun v hv => by
 simp only [List.mem_toArray, List.mem_cons, List.not_mem_nil, or_false] at hv
 subst hv
 exact odd_s _ _ _
theorem OddB.pin {w : World} {b : Nat} (h : OddB w b) {a : Option Addr} {n c : Nat} {zs : List Int} (hp : Pin w a n c zs) : 0 < n → ∀ b' off, a = some ⟨b', off, none⟩ → ¬ b' = b := by
 rintro h0 b' off rfl rfl
 rcases hp.bys.place with h1 | ⟨b2, off2, e, _, hc⟩
 ·omega
 ·cases e
  exact (h _ _ (hc 0 h0)).1 _ rfl
theorem OddB.enz {w : World} {b : Nat} (h : OddB w b) {a : Option Addr} {n c : Nat} {E : List En} (hp : Enz w a n c E) : 0 < n → ∀ b' off, a = some ⟨b', off, none⟩ → ¬ b' = b := by
 rintro h0 b' off rfl rfl
 rcases hp.ens.place with h1 | ⟨b2, off2, e, _, hc⟩
 ·omega
 ·cases e
  exact (h _ _ (hc 0 h0).1).2 _ rfl
theorem OddB.sts {w : World} {b : Nat} (h : OddB w b) {a : Option Addr} {n : Nat} {L : List (List UInt8)} (hp : Sts w a n L) : 0 < n → ∀ b' off, a = some ⟨b', off, none⟩ → ¬ b' = b := by
 rintro h0 b' off rfl rfl
 rcases hp.place with h1 | ⟨b2, off2, e, _, hc⟩
 ·omega
 ·cases e
  exact (h _ _ (hc 0 h0)).2 _ rfl
theorem Wo.turnK {w w' : World} {wb g n c b : Nat} {f : Nat → Nc} (h : Wo w wb g n c f) {vs : Array Value} {ty : TypeId} {fr : Nat × Nat} (hb : w.heap[b]? = some (.cells vs ty fr)) (h1 : ty ≠ 54) (h2 : ty ≠ 81)
  (ho : OddB w b) (ht : Turn (· = b) w w') : Wo w' wb g n c f := by
 obtain ⟨⟨pm, em, hk⟩, hw, hne, hd, he⟩ := h
 have n1 : wb ≠ b := by
  rintro rfl
  have hk' : w.heap[wb]? = _ := hk
  rw [hb] at hk'
  simp only [Option.some.injEq, Obj.cells.injEq] at hk'
  exact h2 hk'.2.1
 have n2 : g ≠ b := by
  rintro rfl
  rcases hw.2 with ⟨h0, _⟩ | ⟨g', cap, cur, hv, _, hg, _⟩
  ·cases h0
  ·cases hv
   rw [hb] at hg; simp only [Option.some.injEq, Obj.cells.injEq] at hg
   exact h1 hg.2.1
 exact ⟨⟨pm, em, hk.block (ht.block wb hk.lt n1)⟩, row_block hw (ht.block g (row_lt hw) n2), hne, fun i hi => ⟨(hd i hi).1.turn ht (ho.pin (hd i hi).1), (hd i hi).2⟩, fun i hi => ⟨(he i hi).1.turn ht (ho.enz (he i hi).1), (he i hi).2⟩⟩
theorem ResS.turnK {w w' : World} {r : Rv} {da : Option Addr} {dn dc : Nat} {na : Option Addr} {nn nc : Nat} {Ls : List (List UInt8)} {b : Nat} (h : ResS w r da dn dc na nn nc Ls) (ho : OddB w b) (ht : Turn (· = b) w w') : ResS w' r da dn dc na nn nc Ls :=
 ⟨h.data.turn ht (ho.pin h.data), h.names.turn ht (ho.sts h.names), h.nam, h.nil, h.cap⟩
theorem Nds.turnT {w w' : World} {n b : Nat} {na : Option Addr} {f : Nat → Nc} (h : Nds w na n f) {a : Option Addr} {m c : Nat} (hb : TrB w b (.slice a m c)) (ht : Turn (· = b) w w') : Nds w' na n f := by
 refine ⟨?_, fun i hi => (h.data i hi).turn ht (hb.odd.pin (h.data i hi)), fun i hi => (h.ents i hi).turn ht (hb.odd.enz (h.ents i hi))⟩
 rcases h.place with h0 | ⟨b', off, ha, hlt, hc⟩
 ·exact .inl h0
 ·by_cases hn : n = 0
  ·exact .inl hn
  have hne : b' ≠ b := by
   rintro rfl; have h0 := (hc 0 (by omega)).1; rw [cell_of_row w b' _ _ _ _ hb] at h0; have := Array.mem_of_getElem? h0
   simp at this
  refine .inr ⟨b', off, ha, Nat.lt_of_lt_of_le hlt ht.size, fun i hi => ?_⟩
  obtain ⟨c0, c1, c2, c3⟩ := hc i hi
  exact ⟨(ht.cell (a := ⟨b', off + i * 4, none⟩) hlt hne).trans c0, (ht.cell (a := ⟨b', off + i * 4 + 1, none⟩) hlt hne).trans c1, (ht.cell (a := ⟨b', off + i * 4 + 2, none⟩) hlt hne).trans c2, (ht.cell (a := ⟨b', off + i * 4 + 3, none⟩) hlt hne).trans c3⟩
theorem Nds.turnR {w w' : World} {n b : Nat} {na : Option Addr} {f : Nat → Nc} (h : Nds w na n f) (hb : RsB w b ResZ) (ht : Turn (· = b) w w') : Nds w' na n f := by
 refine ⟨?_, fun i hi => (h.data i hi).turn ht (hb.oddZ.pin (h.data i hi)), fun i hi => (h.ents i hi).turn ht (hb.oddZ.enz (h.ents i hi))⟩
 rcases h.place with h0 | ⟨b', off, ha, hlt, hc⟩
 ·exact .inl h0
 ·by_cases hn : n = 0
  ·exact .inl hn
  have hne : b' ≠ b := by
   rintro rfl; have hr := hb.cells; obtain ⟨c0, c1, c2, c3⟩ := hc 0 (by omega)
   have key : ∀ j v, w.cell? ⟨b', j, none⟩ = some v → ResZ[j]? = some v := fun j v hj => by
    rwa [cell_of_row w b' j _ _ _ hb] at hj
   have a0 := key _ _ c0; have a1 := key _ _ c1; have a2 := key _ _ c2; have a3 := key _ _ c3; have hsz : off + 0 * 4 + 3 < 6 := (Array.getElem?_eq_some_iff.1 a3).1
   have h6 : off = 0 ∨ off = 1 ∨ off = 2 := by omega
   rcases h6 with rfl | rfl | rfl
   ·simp [ResZ] at a1
   ·simp [ResZ] at a0
   ·simp [ResZ] at a0
  refine .inr ⟨b', off, ha, Nat.lt_of_lt_of_le hlt ht.size, fun i hi => ?_⟩
  obtain ⟨c0, c1, c2, c3⟩ := hc i hi
  exact ⟨(ht.cell (a := ⟨b', off + i * 4, none⟩) hlt hne).trans c0, (ht.cell (a := ⟨b', off + i * 4 + 1, none⟩) hlt hne).trans c1, (ht.cell (a := ⟨b', off + i * 4 + 2, none⟩) hlt hne).trans c2, (ht.cell (a := ⟨b', off + i * 4 + 3, none⟩) hlt hne).trans c3⟩
theorem TreV.turn {w w' w2 : World} {L : List Nd} {v : Value} {a b : Nat} (h : TreV w L v) {x : Option Addr} {m c : Nat} (ha : TrB w a (.slice x m c)) (ht : Turn (· = a) w w') (hb : RsB w' b ResZ) (ht2 : Turn (· = b) w' w2) : TreV w2 L v := by
 obtain ⟨na, k, f, hv, hn, h3⟩ := h
 exact ⟨na, k, f, hv, (hn.turnT ha ht).turnR hb ht2, h3⟩
def PtB (w : World) (b wb : Nat) : Prop := w.heap[b]? = some (.cells #[.pointer (some ⟨wb, 0, none⟩)] 70 (0, 0))
theorem PtB.cell {w : World} {b wb : Nat} (h : PtB w b wb) : w.cell? ⟨b, 0, none⟩ = some (.pointer (some ⟨wb, 0, none⟩)) := by
 unfold PtB at h
 simp [World.cell?, h]
theorem PtB.free {w : World} {b wb : Nat} (h : PtB w b wb) (i : Nat) : w.frozen? ⟨b, i, none⟩ = false := frozen_of_row w b i _ _ h
theorem PtB.set {w : World} {b wb : Nat} (h : PtB w b wb) (x : Nat) : PtB (w.setCell ⟨b, 0, none⟩ (.pointer (some ⟨x, 0, none⟩))) b x := cells_set h
theorem PtB.odd {w : World} {b wb : Nat} (h : PtB w b wb) : OddB w b := OddB.of h fun v hv => by
 simp only [List.mem_toArray, List.mem_cons, List.not_mem_nil, or_false] at hv
 subst hv
 exact odd_p _
structure MidPost (w2 : World) (q6 wb : Nat) (r : List Nd × Rv) (x : Int) (w6 : World) : Prop where
 bel : Below w2.heap.size w2 w6
 pt : PtB w6 q6 wb
 yes : x = 0 → r.2.err = 0 ∧ (∃ g' n' c' f', Wo w6 wb g' n' c' f' ∧ ndL f' n' = r.1) ∧ ∃ da dn dc na nn nc Ls, RsB w6 (q6 + 1) (resA r.2 da dn dc na nn nc) ∧ ResS w6 r.2 da dn dc na nn nc Ls
 no : x ≠ 0 → x = r.2.err ∧ RsB w6 (q6 + 1) ResZ
section
variable {w2 w3 : World} {wb g n c q3 : Nat} {f : Nat → Nc}
theorem mid_any (h : Wo w3 wb g n c f) (hg : w2.heap.size ≤ g) (hwb : w2.heap.size ≤ wb) (hb3 : Below w2.heap.size w2 w3) (ht : Rgt (ndL f n)) (o i m : Int) (p q : ByteArray) (da : Option Addr) (dn dc : Nat) (zs : List Int)
  (hp : p.size < 4294967281) (hq : q.size < 4294967281) (hi : -9223372036854775808 ≤ i ∧ i ≤ 9223372036854775807) (hm : -9223372036854775808 ≤ m ∧ m ≤ 9223372036854775807) (hz : Pin w2 da dn dc zs) (hop : OpC w2 q3 o i m p q da dn dc) :
  Calls Tryz.prog 37 #[.func (.func 38) #[] #[.pointer (some ⟨w3.heap.size, 0, none⟩), .pointer (some ⟨q3, 0, none⟩), .pointer (some ⟨w3.heap.size + 1, 0, none⟩)]]
   ((w3.alloc (.cells #[.pointer (some ⟨wb, 0, none⟩)] 70 (0, 0))).alloc (.cells ResZ 37 (0, 0)))
   fun e w6 => ∃ x, e = .returned (.int .i64 x) ∧ MidPost w2 w3.heap.size wb (oAny (ndL f n) o (nms p) (nms q) i m zs) x w6 := by
 obtain ⟨wa, ha⟩ : ∃ wa, wa = w3.alloc (.cells #[.pointer (some ⟨wb, 0, none⟩)] 70 (0, 0)) := ⟨_, rfl⟩
 obtain ⟨wq, hwq⟩ : ∃ wq, wq = wa.alloc (.cells ResZ 37 (0, 0)) := ⟨_, rfl⟩
 obtain ⟨wy, hwy⟩ : ∃ wy, wy = wq.alloc (.cells #[.int .i64 0] 34 (0, 0)) := ⟨_, rfl⟩
 have k1 : ∀ (w : World) (o : Obj), (w.alloc o).heap.size = w.heap.size + 1 := fun w o => by simp
 have k2 : ∀ (w : World) (o : Obj) (b : Nat) (x : Obj), w.heap[b]? = some x → (w.alloc o).heap[b]? = some x := fun w o b x h => (Below.heap_alloc _ _ _ (Array.getElem?_eq_some_iff.1 h).1).trans h
 have sa : wa.heap.size = w3.heap.size + 1 := by rw [ha, k1]
 have sq : wq.heap.size = w3.heap.size + 1 + 1 := by rw [hwq, k1, sa]
 have sy : wy.heap.size = w3.heap.size + 1 + 1 + 1 := by rw [hwy, k1, sq]
 have ba : Below w3.heap.size w3 wa := by rw [ha]; exact (Below.refl _ _).alloc (Nat.le_refl _) _
 have bq : Below w3.heap.size w3 wq := by rw [hwq]; exact ba.alloc ba.size _
 have byy : Below w3.heap.size w3 wy := by rw [hwy]; exact bq.alloc bq.size _
 have xa : wa.heap[w3.heap.size]? = some (.cells #[.pointer (some ⟨wb, 0, none⟩)] 70 (0, 0)) := by rw [ha]; exact heap_alloc_new w3 _
 have xq := heap_alloc_new wa (.cells ResZ 37 (0, 0))
 rw [← hwq, sa] at xq
 have xy := heap_alloc_new wq (.cells #[.int .i64 0] 34 (0, 0))
 rw [← hwy, sq] at xy
 have pa : PtB wy w3.heap.size wb := by rw [hwy]; exact k2 _ _ _ _ (by rw [hwq]; exact k2 _ _ _ _ xa)
 have pr : RsB wy (w3.heap.size + 1) ResZ := by rw [hwy]; exact k2 _ _ _ _ xq
 have b2y : Below w2.heap.size w2 wy := hb3.trans (byy.mono hb3.size)
 have glt := row_lt h.row
 have wlt := h.wr.lt
 have hd := do1_any (q6 := w3.heap.size) (q3 := q3) (q7 := w3.heap.size + 1) (h.next byy) ht o i m p q da dn dc zs hp hq hi hm (hz.next b2y) (off_pin hz hg hwb) pa.cell ((b2y.block q3 (lt_of_block hop)).trans hop) pr (by omega) (by omega)
 rw [← ha, ← hwq]
 refine (tried_do ⟨w3.heap.size, 0, none⟩ ⟨q3, 0, none⟩ ⟨w3.heap.size + 1, 0, none⟩ wq (fun x w' => Do1Post wy wb g (w3.heap.size + 1) (oAny (ndL f n) o (nms p) (nms q) i m zs) x w') ?_).mono ?_
 ·rw [← hwy, sq]
  refine hd.mono ?_
  rintro e w5 ⟨x, hex, hP⟩
  have h8 : w5.heap[w3.heap.size + 1 + 1]? = some (.cells #[.int .i64 0] 34 (0, 0)) := (hP.1.block _ (by omega) (by
   rintro ((e | e) | e) <;> omega)).trans xy
  exact ⟨x, hex, by simp [World.cell?, h8], frozen_of_row w5 _ _ _ _ h8, hP⟩
 ·rintro e w6 ⟨x, w5, rfl, ⟨hT, hyes, hno⟩, hw6⟩
  rw [sq] at hw6
  have h8 : w5.heap[w3.heap.size + 1 + 1]? = some (.cells #[.int .i64 0] 34 (0, 0)) := (hT.block _ (by omega) (by
   rintro ((e | e) | e) <;> omega)).trans xy
  have ho8 : OddB w5 (w3.heap.size + 1 + 1) := OddB.of h8 fun v hv => by
   simp only [List.mem_toArray, List.mem_cons, List.not_mem_nil, or_false] at hv; subst hv
   exact odd_i _
  have hT6 : Turn (· = w3.heap.size + 1 + 1) w5 w6 := by rw [hw6]; exact (Turn.refl (· = w3.heap.size + 1 + 1) w5).setO (p := ⟨w3.heap.size + 1 + 1, 0, none⟩) rfl _
  have hb6 : Below w2.heap.size w2 w6 := (b2y.trans (hT.below (by omega) (by
   rintro k ((e | e) | e)
   ·omega
   ·omega
   ·have := hb3.size; omega))).trans (hT6.below (Nat.le_trans b2y.size hT.size) (by
   rintro k rfl; have := hb3.size
   omega))
  have pt5 : PtB w5 w3.heap.size wb := (hT.block _ (by omega) (by rintro ((e | e) | e) <;> omega)).trans pa
  have l5 : w3.heap.size + 1 < w5.heap.size := by have := hT.size; omega
  refine ⟨x, rfl, hb6, (hT6.block _ (by have := hT.size; omega) (by omega)).trans pt5, fun hx => ?_, fun hx => ?_⟩
  ·obtain ⟨he, ⟨g', n', c', f', hW, hL⟩, da2, dn2, dc2, na2, nn2, nc2, Ls, hR, hS⟩ := hyes hx
   exact ⟨he, ⟨g', n', c', f', hW.turnK h8 (by decide) (by decide) ho8 hT6, hL⟩, da2, dn2, dc2, na2, nn2, nc2, Ls, (hT6.block _ l5 (by omega)).trans hR, hS.turnK ho8 hT6⟩
  ·obtain ⟨he, hR⟩ := hno hx
   exact ⟨he, (hT6.block _ l5 (by omega)).trans hR⟩
end
def dO (L : List Nd) (o : Int) (P Q : Option (List ByteArray)) (i m : Int) (zs : List Int) : List Nd × Rv := if rightB L then doO L o P Q i m zs else ([], .bad 15)
def DoPost (w : World) (r : List Nd × Rv) (e : Ending) (w' : World) : Prop := ∃ v1 v2, e = .returned (.tuple #[v1, v2]) ∧ TreV w' r.1 v1 ∧ ResV w' r.2 v2 ∧ Below w.heap.size w w'
structure DoX (w w1 : World) (q n c : Nat) (na : Option Addr) (f : Nat → Nc) (o i m : Int) (p s : ByteArray) (da : Option Addr) (dn dc : Nat) (zs : List Int) : Prop where
 eq : w1 = (((w.alloc (.cells #[.slice na n c] 26 (0, 0))).alloc (.cells #[.int .i64 o, .string p, .string s, .int .i64 i, .int .i64 m, .slice da dn dc] 31 (0, 0))).alloc (.cells #[.slice none 0 0] 26 (0, 0))).alloc (.cells ResZ 37 (0, 0))
 hq : q = w.heap.size
 bel : Below w.heap.size w w1
 tr : TrB w1 q (.slice na n c)
 op : OpC w1 (q + 1) o i m p s da dn dc
 tz : TrB w1 (q + 1 + 1) (.slice none 0 0)
 rz : RsB w1 (q + 1 + 1 + 1) ResZ
 nds : Nds w1 na n f
 pin : Pin w1 da dn dc zs
theorem DoX.mk' {w : World} {n c : Nat} {na : Option Addr} {f : Nat → Nc} {o i m : Int} {p s : ByteArray} {da : Option Addr} {dn dc : Nat} {zs : List Int} (hn : Nds w na n f) (hp : Pin w da dn dc zs) :
  ∃ w1 q, DoX w w1 q n c na f o i m p s da dn dc zs := by
 have k1 : ∀ (w : World) (o : Obj), (w.alloc o).heap.size = w.heap.size + 1 := fun w o => by simp
 have k2 : ∀ (w : World) (o : Obj) (b : Nat) (x : Obj), w.heap[b]? = some x → (w.alloc o).heap[b]? = some x := fun w o b x h => (Below.heap_alloc _ _ _ (Array.getElem?_eq_some_iff.1 h).1).trans h
 obtain ⟨wa, ha⟩ : ∃ wa, wa = w.alloc (.cells #[.slice na n c] 26 (0, 0)) := ⟨_, rfl⟩
 obtain ⟨wc, hc⟩ : ∃ wc, wc = wa.alloc (.cells #[.int .i64 o, .string p, .string s, .int .i64 i, .int .i64 m, .slice da dn dc] 31 (0, 0)) := ⟨_, rfl⟩
 obtain ⟨wd, hd⟩ : ∃ wd, wd = wc.alloc (.cells #[.slice none 0 0] 26 (0, 0)) := ⟨_, rfl⟩
 obtain ⟨we, he⟩ : ∃ we, we = wd.alloc (.cells ResZ 37 (0, 0)) := ⟨_, rfl⟩
 have sa : wa.heap.size = w.heap.size + 1 := by rw [ha, k1]
 have sc : wc.heap.size = w.heap.size + 1 + 1 := by rw [hc, k1, sa]
 have sd : wd.heap.size = w.heap.size + 1 + 1 + 1 := by rw [hd, k1, sc]
 have ba : Below w.heap.size w wa := by rw [ha]; exact (Below.refl _ _).alloc (Nat.le_refl _) _
 have bc : Below w.heap.size w wc := by rw [hc]; exact ba.alloc ba.size _
 have bd : Below w.heap.size w wd := by rw [hd]; exact bc.alloc bc.size _
 have be : Below w.heap.size w we := by rw [he]; exact bd.alloc bd.size _
 have xa : wa.heap[w.heap.size]? = some (.cells #[.slice na n c] 26 (0, 0)) := by rw [ha]; exact heap_alloc_new w _
 have xc := heap_alloc_new wa (.cells #[.int .i64 o, .string p, .string s, .int .i64 i, .int .i64 m, .slice da dn dc] 31 (0, 0))
 rw [← hc, sa] at xc
 have xd := heap_alloc_new wc (.cells #[.slice none 0 0] 26 (0, 0))
 rw [← hd, sc] at xd
 have xe := heap_alloc_new wd (.cells ResZ 37 (0, 0))
 rw [← he, sd] at xe
 refine ⟨we, w.heap.size, by rw [he, hd, hc, ha], rfl, be, ?_, ?_, ?_, xe, hn.next be, hp.next be⟩
 ·rw [he, hd, hc]; exact k2 _ _ _ _ (k2 _ _ _ _ (k2 _ _ _ _ xa))
 ·rw [he, hd]; exact k2 _ _ _ _ (k2 _ _ _ _ xc)
 ·rw [he]; exact k2 _ _ _ _ xd
theorem res_stored {w : World} {a b : Nat} {u : Value} {u0 u1 u2 u3 u4 u5 : Value} (ht : TrB w a u) (hr : RsB w b #[u0, u1, u2, u3, u4, u5]) (hne : a ≠ b) (v v0 v1 v2 v3 v4 v5 : Value) :
  TrB (((((((w.setCell ⟨a, 0, none⟩ v).setCell ⟨b, 0, none⟩ v0).setCell ⟨b, 1, none⟩ v1).setCell ⟨b, 2, none⟩ v2).setCell ⟨b, 3, none⟩ v3).setCell ⟨b, 4, none⟩ v4).setCell ⟨b, 5, none⟩ v5) a v ∧
  RsB (((((((w.setCell ⟨a, 0, none⟩ v).setCell ⟨b, 0, none⟩ v0).setCell ⟨b, 1, none⟩ v1).setCell ⟨b, 2, none⟩ v2).setCell ⟨b, 3, none⟩ v3).setCell ⟨b, 4, none⟩ v4).setCell ⟨b, 5, none⟩ v5) b #[v0, v1, v2, v3, v4, v5] ∧
  Turn (fun j => j = a ∨ j = b) w (((((((w.setCell ⟨a, 0, none⟩ v).setCell ⟨b, 0, none⟩ v0).setCell ⟨b, 1, none⟩ v1).setCell ⟨b, 2, none⟩ v2).setCell ⟨b, 3, none⟩ v3).setCell ⟨b, 4, none⟩ v4).setCell ⟨b, 5, none⟩ v5) := by
 have hT1 : Turn (· = a) w (w.setCell ⟨a, 0, none⟩ v) := (Turn.refl (· = a) w).setO (p := ⟨a, 0, none⟩) rfl _
 have hT2 := turn_set6 (w.setCell ⟨a, 0, none⟩ v) b v0 v1 v2 v3 v4 v5
 have hr1 : RsB (w.setCell ⟨a, 0, none⟩ v) b #[u0, u1, u2, u3, u4, u5] := (hT1.block b hr.lt fun e => hne e.symm).trans hr
 have ht1 := ht.set v
 exact ⟨(hT2.block a (lt_of_block ht1) hne).trans ht1, hr1.set _ _ _ _ _ _, (hT1.mono fun j h => .inl h).trans (hT2.mono fun j h => .inr h)⟩
structure FinX (w wz : World) (x4 x5 x6 x7 wb g n c : Nat) (f : Nat → Nc) (r : Rv) (da : Option Addr) (dn dc : Nat) (na : Option Addr) (nn nc : Nat) (Ls : List (List UInt8)) : Prop where
 bel : Below w.heap.size w wz
 wo : Wo wz wb g n c f
 snd : Snd (ndL f n)
 pt : PtB wz x6 wb
 rs : RsB wz x7 (resA r da dn dc na nn nc)
 res : ResS wz r da dn dc na nn nc Ls
 t4 : TrB wz x4 (.slice none 0 0)
 r5 : RsB wz x5 ResZ
 lw : w.heap.size ≤ wb
 l4 : w.heap.size ≤ x4
 l5 : w.heap.size ≤ x5
 n45 : x4 ≠ x5
 n46 : x4 ≠ x6
 n47 : x4 ≠ x7
 n56 : x5 ≠ x6
 n57 : x5 ≠ x7
theorem FinX.held {w wz : World} {x4 x5 x6 x7 wb g n c : Nat} {f : Nat → Nc} {r : Rv} {da : Option Addr} {dn dc : Nat} {na : Option Addr} {nn nc : Nat} {Ls : List (List UInt8)} (h : FinX w wz x4 x5 x6 x7 wb g n c f r da dn dc na nn nc Ls) :
  wz.cell? ⟨x6, 0, none⟩ = some (.pointer (some ⟨wb, 0, none⟩)) ∧ wz.cell? ⟨x7, 0, none⟩ = some (.int .i64 r.err) ∧ wz.cell? ⟨x7, 1, none⟩ = some (.slice da dn dc) ∧ wz.cell? ⟨x7, 2, none⟩ = some (.slice na nn nc) ∧ wz.cell? ⟨x7, 3, none⟩ = some (.int .i64 r.k) ∧ wz.cell? ⟨x7, 4, none⟩ = some (.int .i64 r.l) ∧ wz.cell? ⟨x7, 5, none⟩ = some (.int .i64 r.sz) := by
 have hr := h.rs
 unfold resA at hr
 exact ⟨h.pt.cell, hr.cells⟩
theorem ResS.next {w w' : World} {r : Rv} {da : Option Addr} {dn dc : Nat} {na : Option Addr} {nn nc : Nat} {Ls : List (List UInt8)} (h : ResS w r da dn dc na nn nc Ls) (hb : Below w.heap.size w w') : ResS w' r da dn dc na nn nc Ls :=
 ⟨h.data.next hb, h.names.below (Nat.le_refl _) hb, h.nam, h.nil, h.cap⟩
theorem ne_ty {w : World} {a b : Nat} {vs us : Array Value} {t u : TypeId} {fr gr : Nat × Nat} (ha : w.heap[a]? = some (.cells vs t fr)) (hb : w.heap[b]? = some (.cells us u gr)) (h : t ≠ u) : a ≠ b := by
 rintro rfl
 rw [ha] at hb
 simp only [Option.some.injEq, Obj.cells.injEq] at hb
 exact h hb.2.1
theorem WkB.odd {w : World} {wb n c : Nat} {na : Option Addr} {pm em : Option Nat} (h : WkB w wb na n c pm em) : OddB w wb := OddB.of h fun v hv => by
 simp only [List.mem_toArray, List.mem_cons, List.not_mem_nil, or_false] at hv
 rcases hv with e | e | e <;> subst e
 ·exact odd_s _ _ _
 ·exact ⟨fun _ e => (by cases e), fun _ e => (by cases e)⟩
 ·exact ⟨fun _ e => (by cases e), fun _ e => (by cases e)⟩
theorem FinX.after {w wz w8 : World} {x4 x5 x6 x7 wb g n c : Nat} {f : Nat → Nc} {r : Rv} {da : Option Addr} {dn dc : Nat} {na : Option Addr} {nn nc : Nat} {Ls : List (List UInt8)} (h : FinX w wz x4 x5 x6 x7 wb g n c f r da dn dc na nn nc Ls) (hT : Turn (· = wb) wz.drew w8) :
  Below w.heap.size w w8 ∧ PtB w8 x6 wb ∧ RsB w8 x7 (resA r da dn dc na nn nc) ∧ ResS w8 r da dn dc na nn nc Ls ∧ TrB w8 x4 (.slice none 0 0) ∧ RsB w8 x5 ResZ := by
 have hbz : Below wz.heap.size wz (wz.drew) := below_drewN (Below.refl _ _) 1
 obtain ⟨pm, em, hk⟩ := h.wo.wk
 have hres : ResS wz.drew r da dn dc na nn nc Ls := h.res.next hbz
 refine ⟨(h.bel.trans (hbz.mono h.bel.size)).trans (hT.below h.bel.size (fun k e => e ▸ h.lw)), ?_, ?_, ?_, ?_, ?_⟩
 ·exact (hT.block x6 (lt_of_block h.pt) (ne_ty h.pt hk (by decide))).trans h.pt
 ·exact (hT.block x7 h.rs.lt (ne_ty h.rs hk (by decide))).trans h.rs
 ·exact hres.turnK (show OddB wz.drew wb from hk.odd) hT
 ·exact (hT.block x4 (lt_of_block h.t4) (ne_ty h.t4 hk (by decide))).trans h.t4
 ·exact (hT.block x5 h.r5.lt (ne_ty h.r5 hk (by decide))).trans h.r5
theorem FinX.done {w wz w8 w9 : World} {x4 x5 x6 x7 wb g n c : Nat} {f : Nat → Nc} {r : Rv} {da : Option Addr} {dn dc : Nat} {na : Option Addr} {nn nc : Nat} {Ls : List (List UInt8)} (h : FinX w wz x4 x5 x6 x7 wb g n c f r da dn dc na nn nc Ls)
  (hA : Below w.heap.size w w8 ∧ PtB w8 x6 wb ∧ RsB w8 x7 (resA r da dn dc na nn nc) ∧ ResS w8 r da dn dc na nn nc Ls ∧ TrB w8 x4 (.slice none 0 0) ∧ RsB w8 x5 ResZ) {L : List Nd} {a9 : Option Addr} {m9 c9 : Nat} (hTV : TreV w8 L (.agg #[.slice a9 m9 c9])) (h9 : w9 = w8.setCell ⟨x4, 0, none⟩ (.slice a9 m9 c9)) :
  ∃ w10, w10 = ((((((w9.setCell ⟨x5, 0, none⟩ (.int .i64 r.err)).setCell ⟨x5, 1, none⟩ (.slice da dn dc)).setCell ⟨x5, 2, none⟩ (.slice na nn nc)).setCell ⟨x5, 3, none⟩ (.int .i64 r.k)).setCell ⟨x5, 4, none⟩ (.int .i64 r.l)).setCell ⟨x5, 5, none⟩ (.int .i64 r.sz)) ∧
   TrB w10 x4 (.slice a9 m9 c9) ∧ RsB w10 x5 #[.int .i64 r.err, .slice da dn dc, .slice na nn nc, .int .i64 r.k, .int .i64 r.l, .int .i64 r.sz] ∧ TreV w10 L (.agg #[.slice a9 m9 c9]) ∧ ResV w10 r (.agg #[.int .i64 r.err, .slice da dn dc, .slice na nn nc, .int .i64 r.k, .int .i64 r.l, .int .i64 r.sz]) ∧ Below w.heap.size w w10 ∧
   (w10.cell? ⟨x6, 0, none⟩ = some (.pointer (some ⟨wb, 0, none⟩)) ∧ w10.cell? ⟨x7, 0, none⟩ = some (.int .i64 r.err) ∧ w10.cell? ⟨x7, 1, none⟩ = some (.slice da dn dc) ∧ w10.cell? ⟨x7, 2, none⟩ = some (.slice na nn nc) ∧ w10.cell? ⟨x7, 3, none⟩ = some (.int .i64 r.k) ∧ w10.cell? ⟨x7, 4, none⟩ = some (.int .i64 r.l) ∧ w10.cell? ⟨x7, 5, none⟩ = some (.int .i64 r.sz)) := by
 subst h9
 obtain ⟨hb, hpt, hrs, hres, ht4, hr5⟩ := hA
 refine ⟨_, rfl, ?_⟩
 obtain ⟨q4, q5, qT⟩ := res_stored ht4 hr5 h.n45 (.slice a9 m9 c9) (.int .i64 r.err) (.slice da dn dc) (.slice na nn nc) (.int .i64 r.k) (.int .i64 r.l) (.int .i64 r.sz)
 have hT9 : Turn (· = x4) w8 (w8.setCell ⟨x4, 0, none⟩ (.slice a9 m9 c9)) := (Turn.refl (· = x4) w8).setO (p := ⟨x4, 0, none⟩) rfl _
 have hr59 : RsB (w8.setCell ⟨x4, 0, none⟩ (.slice a9 m9 c9)) x5 ResZ := (hT9.block x5 hr5.lt (fun e => h.n45 e.symm)).trans hr5
 have hT10 := turn_set6 (w8.setCell ⟨x4, 0, none⟩ (.slice a9 m9 c9)) x5 (.int .i64 r.err) (.slice da dn dc) (.slice na nn nc) (.int .i64 r.k) (.int .i64 r.l) (.int .i64 r.sz)
 have hpt10 := (qT.block x6 (lt_of_block hpt) (fun e => e.elim (fun e => h.n46 e.symm) (fun e => h.n56 e.symm))).trans hpt
 have hrs10 := (qT.block x7 hrs.lt (fun e => e.elim (fun e => h.n47 e.symm) (fun e => h.n57 e.symm))).trans hrs
 have hc := RsB.cells (show RsB _ x7 #[.int .i64 r.err, .slice da dn dc, .slice na nn nc, .int .i64 r.k, .int .i64 r.l, .int .i64 r.sz] from hrs10)
 refine ⟨q4, q5, hTV.turn ht4 hT9 hr59 hT10, ⟨da, dn, dc, na, nn, nc, Ls, rfl, (hres.turnK ht4.odd hT9).turnK hr59.oddZ hT10⟩, hb.trans (qT.below hb.size fun k e => ?_), PtB.cell hpt10, hc⟩
 rcases e with e | e
 ·exact e ▸ h.l4
 ·exact e ▸ h.l5
section
variable {w : World} {n c : Nat} {na : Option Addr} {f : Nat → Nc}
theorem do_any (h : Nds w na n f) (hn : n ≤ 1000000) (hen : ∀ i, i < n → (f i).en ≤ 1000000) (o i m : Int) (p s : ByteArray) (da : Option Addr) (dn dc : Nat) (zs : List Int) (hp : p.size < 4294967281) (hq : s.size < 4294967281)
  (hi : -9223372036854775808 ≤ i ∧ i ≤ 9223372036854775807) (hm : -9223372036854775808 ≤ m ∧ m ≤ 9223372036854775807) (hz : Pin w da dn dc zs) :
  Calls Tryz.prog 19 #[.agg #[.slice na n c], .agg #[.int .i64 o, .string p, .string s, .int .i64 i, .int .i64 m, .slice da dn dc]] w (DoPost w (dO (ndL f n) o (nms p) (nms s) i m zs)) := by
 have hmf : ∀ (fn : Fn) (first cap : Array Value) (w : World), (Instr.makeFunc fn first cap).run Tryz.prog w = .ok (.func fn first cap) w := fun _ _ _ _ => rfl
 obtain ⟨w1, q, hx⟩ := DoX.mk' (c := c) (o := o) (i := i) (m := m) (p := p) (s := s) h hz
 have hri := right_any (c := c) hx.nds hn hen
 have HX := qH hx
 have HPQ := qH (And.intro hp (And.intro hq (And.intro hi hm)))
 obtain ⟨x4, hx4⟩ : ∃ x4, x4 = q + 1 + 1 := ⟨_, rfl⟩
 obtain ⟨x5, hx5⟩ : ∃ x5, x5 = q + 1 + 1 + 1 := ⟨_, rfl⟩
 have HX4 := qH hx4
 have HX5 := qH hx5
 clear h hz hp hq hi hm
 have l2 := hx.tr.load
 cases hr : rightB (ndL f n) with
 | false =>
  rw [hr] at hri
  have HD : Hid (dO (ndL f n) o (nms p) (nms s) i m zs = ([], .bad 15)) := qH (by rw [dO, hr]; rfl)
  clear hx hr
  go_enter Tryz.func19, Tryz.ntmps19
  go_wp2_with fail
  have hxe := HX.out.eq
  unfold ResZ at hxe
  rw [← hxe, ← HX.out.hq, ← HX5.out, ← HX4.out]
  clear hxe
  refine hri.mono ?_
  rintro e w2 ⟨rfl, hb2⟩
  have HB2 := qH (HX.out.bel.trans (hb2.mono HX.out.bel.size))
  have t4 : TrB w2 x4 (.slice none 0 0) := by rw [HX4.out]; exact (hb2.block _ (lt_of_block HX.out.tz)).trans HX.out.tz
  have r5 : RsB w2 x5 ResZ := by rw [HX5.out]; exact (hb2.block _ HX.out.rz.lt).trans HX.out.rz
  have c4 := t4.cell
  have e4 := t4.free 0
  obtain ⟨y0, y1, y2, y3, y4, y5⟩ := r5.cells
  have g0 := r5.free 0
  have g1 := r5.free 1
  have g2 := r5.free 2
  have g3 := r5.free 3
  have g4 := r5.free 4
  have g5 := r5.free 5
  have T4 := qH t4
  have R5 := qH r5
  have n45 : x4 ≠ x5 := by omega
  have n54 : x5 ≠ x4 := by omega
  have lt4 := lt_of_block t4
  have lt5 := r5.lt
  clear hri hb2 hx4 hx5 l2 t4 r5
  go_wp2_with fail
  obtain ⟨q4, q5, q6⟩ := res_stored T4.out R5.out n45 (.slice none 0 0) (.int .i64 15) (.slice none 0 0) (.slice none 0 0) (.int .i64 0) (.int .i64 0) (.int .i64 0)
  refine bodyPost_ret (res_cell2 rfl _ _ ⟨x4, 0, none⟩ ⟨x5, 0, none⟩ _ _ rfl rfl q4.load q5.load) rfl ?_
  rw [HD.out]
  refine ⟨_, _, rfl, ⟨none, 0, fun _ => default, rfl, ⟨.inl rfl, fun i hi => absurd hi (Nat.not_lt_zero i), fun i hi => absurd hi (Nat.not_lt_zero i)⟩, rfl, fun _ => ⟨rfl, rfl⟩, Nat.le_refl _⟩, resV_num _ 15 0 0 0, HB2.out.trans (q6.below HB2.out.size fun k e => ?_)⟩
  have := HX.out.hq
  have := HX4.out
  have := HX5.out
  omega
 | true =>
  have hrg := rightB_iff.1 hr
  have hn1 : 1 ≤ n := hrg.le.1
  obtain ⟨b, off, rfl, hbl, d0, d1, d2, d3⟩ := hx.nds.at (show 0 < n by omega)
  rw [hr] at hri
  have HD : Hid (dO (ndL f n) o (nms p) (nms s) i m zs = doO (ndL f n) o (nms p) (nms s) i m zs) := qH (by rw [dO, hr]; rfl)
  have HRG := qH hrg
  have HN := qH (And.intro hn1 hn)
  clear hx hr hrg hn1 hn hen d0 d1 d2 d3 hbl
  go_enter Tryz.func19, Tryz.ntmps19
  go_wp2_with fail
  have hxe := HX.out.eq
  unfold ResZ at hxe
  rw [← hxe, ← HX.out.hq, ← HX5.out, ← HX4.out]
  clear hxe
  refine hri.mono ?_
  rintro e w2 ⟨rfl, hb2⟩
  have t2 : TrB w2 q (.slice (some ⟨b, off, none⟩) n c) := (hb2.block _ (lt_of_block HX.out.tr)).trans HX.out.tr
  have l22 := t2.load
  have c22 := t2.cell
  have hwo := workerOn_any (c := c) (HX.out.nds.next hb2) HN.out.1 HN.out.2
  have HB2 := qH hb2
  clear hri hb2 hx4 hx5 l2 t2
  go_wp2_with fail
  refine hwo.mono ?_
  rintro e w3 ⟨wb, g, c', rfl, hWo, hg, hwb, hb3⟩
  have HB3 := qH (HB2.out.trans (hb3.mono HB2.out.size))
  have HWO := qH hWo
  have HGW := qH (And.intro hg hwb)
  have hb3' := hb3
  have HS3 := qH hb3.size
  clear hwo hWo hg hwb hb3 l22 c22
  go_wp2_with fail
  have hmid := mid_any (q3 := q + 1) HWO.out HGW.out.1 HGW.out.2 hb3' HRG.out o i m p s da dn dc zs HPQ.out.1 HPQ.out.2.1 HPQ.out.2.2.1 HPQ.out.2.2.2 (HX.out.pin.next HB2.out) ((HB2.out.block _ (lt_of_block HX.out.op)).trans HX.out.op)
  obtain ⟨r, hr⟩ : ∃ r, r = oAny (ndL f n) o (nms p) (nms s) i m zs := ⟨_, rfl⟩
  rw [← hr] at hmid
  have HR := qH hr
  obtain ⟨x6, hx6⟩ : ∃ x6, x6 = w3.heap.size := ⟨_, rfl⟩
  obtain ⟨x7, hx7⟩ : ∃ x7, x7 = w3.heap.size + 1 := ⟨_, rfl⟩
  have HX6 := qH hx6
  have HX7 := qH hx7
  unfold ResZ at hmid
  rw [← hx7, ← hx6] at hmid ⊢
  refine hmid.mono ?_
  rintro e w6 ⟨x, rfl, hM⟩
  have HM := qH hM
  clear hmid hr hx6 hx7 hM hb3'
  by_cases hx0 : x = 0
  ·subst hx0
   obtain ⟨he, ⟨gF, nF, cF, fF, hWF, hLF⟩, dF, dnF, dcF, naF, nnF, ncF, Ls, hRF, hSF⟩ := HM.out.yes rfl; have hxf : ((0 : Int) != 0) = false := rfl
   have HF : Hid (FinX w w6 x4 x5 x6 x7 wb gF nF cF fF r.2 dF dnF dcF naF nnF ncF Ls) := qH (by
    have e6 := HX6.out; have e7 := HX7.out; have e4 := HX4.out; have e5 := HX5.out; have eq := HX.out.hq; have s1 := lt_of_block HX.out.tz; have s2 := HX.out.rz.lt; have s3 := HB2.out.size; have s4 := HS3.out; have s6 := HX.out.bel.size; have s7 := HGW.out.2; have s8 := HM.out.bel.size; have hb6 : Below w.heap.size w w6 := (HX.out.bel.trans (HB2.out.mono HX.out.bel.size)).trans (HM.out.bel.mono (by omega)); have hk := (any_keep HRG.out o (nms_ok p) (nms_ok s) i m zs).1; rw [← HR.out, ← hLF] at hk; rw [show x6 + 1 = x7 by omega] at hRF; refine ⟨hb6, hWF, hk, HM.out.pt, hRF, hSF, ?_, ?_, by omega, by omega, by omega, by omega, by omega, by omega, by omega, by omega⟩
    ·rw [HX4.out]
     exact (HM.out.bel.block _ (by omega)).trans ((HB2.out.block _ s1).trans HX.out.tz)
    ·rw [HX5.out]
     exact (HM.out.bel.block _ (by omega)).trans ((HB2.out.block _ s2).trans HX.out.rz))
   have HE9 : Hid (dO (ndL f n) o (nms p) (nms s) i m zs = (num (ndL fF nF), r.2)) := qH (by rw [HD.out, doO, ← HR.out, hLF])
   obtain ⟨rF, hrF⟩ : ∃ rF, rF = r.2 := ⟨_, rfl⟩
   rw [← hrF] at HF HE9; clear he hWF hLF hRF hSF hxf hrF; go_wp2_with fail; refine wp_region_held_drew (S := (fun w' => w'.cell? ⟨x6, 0, none⟩ = some (.pointer (some ⟨wb, 0, none⟩)) ∧ w'.cell? ⟨x7, 0, none⟩ = some (.int .i64 rF.err) ∧ w'.cell? ⟨x7, 1, none⟩ = some (.slice dF dnF dcF) ∧ w'.cell? ⟨x7, 2, none⟩ = some (.slice naF nnF ncF) ∧ w'.cell? ⟨x7, 3, none⟩ = some (.int .i64 rF.k) ∧ w'.cell? ⟨x7, 4, none⟩ = some (.int .i64 rF.l) ∧ w'.cell? ⟨x7, 5, none⟩ = some (.int .i64 rF.sz))) (by kernel_rfl) ?_ (fun hHeld => ?_)
   ·exact HF.out.held
   refine rgZ 0 ?_ rfl (.inl ⟨by rfl, fun w hSw => ?_⟩) ?_ (by kernel_rfl) (fun _ _ _ h => h) (by assumption); rotate_left
   ·(try dsimp only at hSw); go_simp; try with_reducible rfl
   simp only [Act.put, rg]; refine rgZ 2 ?_ rfl (.inl ⟨by rfl, fun w hSw => ?_⟩) ?_ (by kernel_rfl) (fun _ _ _ h => h) (by assumption); rotate_left
   ·(try dsimp only at hSw); go_simp; try with_reducible rfl
   simp only [Act.put, rg]; refine rgC 1 rfl (by kernel_rfl) (fun K hK => ?_); simp only [rg4, rg5, rg6]; go_simp; have hbz : Below w6.heap.size w6 (w6.drew) := below_drewN (Below.refl _ _) 1; refine (numbered_any (HF.out.wo.wr.next hbz) HF.out.snd.okF.1 HF.out.snd HF.out.snd.okF.2.1 HF.out.snd.okF.2.2).mono ?_; rintro e w8 ⟨⟨v, rfl, hTV⟩, hT8⟩; obtain ⟨a9, c9, f9, hv9, _⟩ := id hTV; subst hv9; have hA := HF.out.after hT8; have HTV := qH hTV; have HA := qH hA; obtain ⟨_, hpt8, hrs8, _, ht48, hr58⟩ := hA; have hh8 := hrs8; unfold resA at hh8; have hS8 := And.intro hpt8.cell hh8.cells; have c4 := ht48.cell; have f4 := ht48.free 0; have lt4 := lt_of_block ht48; clear hTV hT8 hpt8 hrs8 ht48 hr58 hh8 hbz hHeld; go_wp2_with fail; refine hK.out _ _ hS8 (fun _ => ?_); clear hK K hS8; refine rgC 3 rfl (by kernel_rfl) (fun K hK => ?_); simp only [rg4, rg5, rg6]; go_simp; obtain ⟨hbA, hpt8, hrs8, hres8, ht48, hr58⟩ := HA.out; have hT9 : Turn (· = x4) w8 (w8.setCell ⟨x4, 0, none⟩ (.slice a9 (num (ndL fF nF)).length c9)) := (Turn.refl (· = x4) w8).setO (p := ⟨x4, 0, none⟩) rfl _; have hpt9 : PtB (w8.setCell ⟨x4, 0, none⟩ (.slice a9 (num (ndL fF nF)).length c9)) x6 wb := (hT9.block x6 (lt_of_block hpt8) (fun e => HF.out.n46 e.symm)).trans hpt8; have hrs9 : RsB (w8.setCell ⟨x4, 0, none⟩ (.slice a9 (num (ndL fF nF)).length c9)) x7 (resA rF dF dnF dcF naF nnF ncF) := (hT9.block x7 hrs8.lt (fun e => HF.out.n47 e.symm)).trans hrs8; have hr59 : RsB (w8.setCell ⟨x4, 0, none⟩ (.slice a9 (num (ndL fF nF)).length c9)) x5 ResZ := (hT9.block x5 hr58.lt (fun e => HF.out.n45 e.symm)).trans hr58; have hh9 := hrs9; unfold resA at hh9; have hS9 := And.intro hpt9.cell hh9.cells
   obtain ⟨w9, hw9⟩ : ∃ w9, w9 = w8.setCell ⟨x4, 0, none⟩ (.slice a9 (num (ndL fF nF)).length c9) := ⟨_, rfl⟩
   rw [← hw9] at hS9 hr59 ⊢; have HW9 := qH hw9; obtain ⟨y0, y1, y2, y3, y4, y5⟩ := hr59.cells; have g0 := hr59.free 0; have g1 := hr59.free 1; have g2' := hr59.free 2; have g3 := hr59.free 3; have g4 := hr59.free 4; have g5 := hr59.free 5; have lt5 := hr59.lt; clear hw9 hT9 hpt9 hrs9 hr59 hh9 hbA hpt8 hrs8 hres8 ht48 hr58 c4 f4 lt4; refine hK.out _ _ hS9 (fun _ => ?_); clear hK K hS9; refine rgC 4 rfl (by kernel_rfl) (fun K hK => ?_); simp only [rg4, rg5, rg6]; go_simp; obtain ⟨w10, hw10, q4, q5, hTV10, hRV10, hb10, hS10⟩ := HF.out.done HA.out HTV.out HW9.out; rw [← hw10]; have HQ := qH (And.intro q4 (And.intro q5 (And.intro hTV10 (And.intro hRV10 hb10)))); clear hw10 q4 q5 hTV10 hRV10 hb10 y0 y1 y2 y3 y4 y5 g0 g1 g2' g3 g4 g5 lt5; refine hK.out _ _ hS10 (fun _ => ?_); clear hK K hS10; refine wpAnyH_done (by kernel_rfl) ?_ _; go_wp2_with fail; refine bodyPost_ret (res_cell2 rfl _ _ ⟨x4, 0, none⟩ ⟨x5, 0, none⟩ _ _ rfl rfl HQ.out.1.load HQ.out.2.1.load) rfl ?_; rw [HE9.out]
   exact ⟨_, _, rfl, HQ.out.2.2.1, HQ.out.2.2.2.1, HQ.out.2.2.2.2⟩
  ·obtain ⟨hxe, hRZ⟩ := HM.out.no hx0
   have t26 : TrB w6 q (.slice (some ⟨b, off, none⟩) n c) := (HM.out.bel.block _ (Nat.lt_of_lt_of_le (lt_of_block HX.out.tr) HB2.out.size)).trans ((HB2.out.block _ (lt_of_block HX.out.tr)).trans HX.out.tr); have l26 := t26.load; have c26 := t26.cell; have hwo2 := workerOn_any (c := c) ((HX.out.nds.next HB2.out).next HM.out.bel) HN.out.1 HN.out.2; have HXE := qH hxe; have HRZ := qH hRZ
   have hxb : (x != 0) = true := by simpa using hx0
   have HX0 := qH hx0; clear hxe hRZ t26 hx0; go_wp2_with fail; refine hwo2.mono ?_; rintro e w7 ⟨wb2, g2, c2, rfl, hWo2, hg2, hwb2, hb7⟩; have hpt : PtB w7 x6 wb := (hb7.block _ (lt_of_block HM.out.pt)).trans HM.out.pt
   have hrz : RsB w7 x7 ResZ := by
    have h1 := HRZ.out; rw [show x6 + 1 = x7 by rw [HX6.out, HX7.out]] at h1
    exact (hb7.block _ h1.lt).trans h1
   have c66 := hpt.cell; have f66 := hpt.free 0; obtain ⟨y0, y1, y2, y3, y4, y5⟩ := hrz.cells; have g0 := hrz.free 0; have g1 := hrz.free 1; have g2' := hrz.free 2; have g3 := hrz.free 3; have g4 := hrz.free 4; have g5 := hrz.free 5
   have n67 : x6 ≠ x7 := by have := HX6.out; have := HX7.out; omega
   have n76 : x7 ≠ x6 := by have := HX6.out; have := HX7.out; omega
   have lt6 := lt_of_block hpt; have lt7 := hrz.lt; have HB7 := qH (HM.out.bel.trans (hb7.mono HM.out.bel.size)); have HWO2 := qH hWo2; have HGW2 := qH (And.intro hg2 hwb2); have HPT := qH hpt; have HRS := qH hrz; clear hwo2 hWo2 hg2 hwb2 hb7 hpt hrz l26 c26; go_wp2_with fail; have hPT9 := HPT.out.set wb2
   obtain ⟨wz, hwz⟩ : ∃ wz, wz = ((((((w7.setCell ⟨x6, 0, none⟩ (.pointer (some ⟨wb2, 0, none⟩))).setCell ⟨x7, 0, none⟩ (.int .i64 x)).setCell ⟨x7, 1, none⟩ (.slice none 0 0)).setCell ⟨x7, 2, none⟩ (.slice none 0 0)).setCell ⟨x7, 3, none⟩ (.int .i64 0)).setCell ⟨x7, 4, none⟩ (.int .i64 0)).setCell ⟨x7, 5, none⟩ (.int .i64 0) := ⟨_, rfl⟩
   rw [← hwz]
   obtain ⟨rF, hrF⟩ : ∃ rF, rF = Rv.bad x := ⟨_, rfl⟩
   have HF : Hid (FinX w wz x4 x5 x6 x7 wb2 g2 n c2 f rF none 0 0 none 0 0 []) := qH (by
    have hT6 : Turn (· = x6) w7 (w7.setCell ⟨x6, 0, none⟩ (.pointer (some ⟨wb2, 0, none⟩))) := (Turn.refl (· = x6) w7).setO (p := ⟨x6, 0, none⟩) rfl _; have hr6 : RsB (w7.setCell ⟨x6, 0, none⟩ (.pointer (some ⟨wb2, 0, none⟩))) x7 ResZ := (hT6.block x7 HRS.out.lt n76).trans HRS.out; have hT7 := turn_set6 (w7.setCell ⟨x6, 0, none⟩ (.pointer (some ⟨wb2, 0, none⟩))) x7 (.int .i64 x) (.slice none 0 0) (.slice none 0 0) (.int .i64 0) (.int .i64 0) (.int .i64 0); rw [← hwz] at hT7; have hw1 : Turn (fun j => j = x6 ∨ j = x7) w7 wz := (hT6.mono fun j h => .inl h).trans (hT7.mono fun j h => .inr h); have e6 := HX6.out; have e7 := HX7.out; have e4 := HX4.out; have e5 := HX5.out; have eq := HX.out.hq; have s1 := lt_of_block HX.out.tz; have s2 := HX.out.rz.lt; have s3 := HB2.out.size; have s4 := HS3.out; have s5 := HB7.out.size; have s6 := HX.out.bel.size; have s7 := HGW2.out.2; have s8 := HM.out.bel.size; have hb7 : Below w.heap.size w w7 := (HX.out.bel.trans (HB2.out.mono HX.out.bel.size)).trans (HB7.out.mono (by omega)); refine ⟨hb7.trans (hw1.below hb7.size (fun k e => by omega)), (HWO2.out.turnK HPT.out (by decide) (by decide) HPT.out.odd hT6).turnR hr6 hT7, HRG.out.snd, (hT7.block x6 (by rw [show (w7.setCell ⟨x6, 0, none⟩ (.pointer (some ⟨wb2, 0, none⟩))).heap.size = w7.heap.size by simp [World.setCell]]; exact lt_of_block HPT.out) n67).trans hPT9, ?_, ?_, ?_, ?_, by omega, by omega, by omega, by omega, by omega, by omega, by omega, by omega⟩
    ·rw [hwz, hrF]
     exact hr6.set _ _ _ _ _ _
    ·rw [hrF]
     exact ⟨Pin.zero _, sts_nil _ _, rfl, fun _ => ⟨rfl, rfl⟩, Nat.le_refl _⟩
    ·rw [HX4.out]
     exact (hw1.block _ (by omega) (by omega)).trans ((HB7.out.block _ (by omega)).trans ((HB2.out.block _ s1).trans HX.out.tz))
    ·rw [HX5.out]
     exact (hw1.block _ (by omega) (by omega)).trans ((HB7.out.block _ (by omega)).trans ((HB2.out.block _ s2).trans HX.out.rz)))
   have HE9 : Hid (dO (ndL f n) o (nms p) (nms s) i m zs = (num (ndL f n), rF)) := qH (by
    have hk := (any_keep HRG.out o (nms_ok p) (nms_ok s) i m zs).2; rw [← HR.out, ← HXE.out] at hk; obtain ⟨k1, k2⟩ := hk HX0.out
    rw [HD.out, doO, ← HR.out, k1, k2, hrF])
   clear c66 f66 y0 y1 y2 y3 y4 y5 g0 g1 g2' g3 g4 g5 n67 n76 lt6 lt7 hPT9 hwz hrF hxb; refine wp_region_held_drew (S := (fun w' => w'.cell? ⟨x6, 0, none⟩ = some (.pointer (some ⟨wb2, 0, none⟩)) ∧ w'.cell? ⟨x7, 0, none⟩ = some (.int .i64 rF.err) ∧ w'.cell? ⟨x7, 1, none⟩ = some (.slice none 0 0) ∧ w'.cell? ⟨x7, 2, none⟩ = some (.slice none 0 0) ∧ w'.cell? ⟨x7, 3, none⟩ = some (.int .i64 rF.k) ∧ w'.cell? ⟨x7, 4, none⟩ = some (.int .i64 rF.l) ∧ w'.cell? ⟨x7, 5, none⟩ = some (.int .i64 rF.sz))) (by kernel_rfl) ?_ (fun hHeld => ?_)
   ·exact HF.out.held
   refine rgZ 0 ?_ rfl (.inl ⟨by rfl, fun w hSw => ?_⟩) ?_ (by kernel_rfl) (fun _ _ _ h => h) (by assumption); rotate_left
   ·(try dsimp only at hSw); go_simp; try with_reducible rfl
   simp only [Act.put, rg]; refine rgZ 2 ?_ rfl (.inl ⟨by rfl, fun w hSw => ?_⟩) ?_ (by kernel_rfl) (fun _ _ _ h => h) (by assumption); rotate_left
   ·(try dsimp only at hSw); go_simp; try with_reducible rfl
   simp only [Act.put, rg]; refine rgC 1 rfl (by kernel_rfl) (fun K hK => ?_); simp only [rg4, rg5, rg6]; go_simp; have hbz : Below wz.heap.size wz (wz.drew) := below_drewN (Below.refl _ _) 1; refine (numbered_any (HF.out.wo.wr.next hbz) HF.out.snd.okF.1 HF.out.snd HF.out.snd.okF.2.1 HF.out.snd.okF.2.2).mono ?_; rintro e w8 ⟨⟨v, rfl, hTV⟩, hT8⟩; obtain ⟨a9, c9, f9, hv9, _⟩ := id hTV; subst hv9; have hA := HF.out.after hT8; have HTV := qH hTV; have HA := qH hA; obtain ⟨_, hpt8, hrs8, _, ht48, hr58⟩ := hA; have hh8 := hrs8; unfold resA at hh8; have hS8 := And.intro hpt8.cell hh8.cells; have c4 := ht48.cell; have f4 := ht48.free 0; have lt4 := lt_of_block ht48; clear hTV hT8 hpt8 hrs8 ht48 hr58 hh8 hbz hHeld; go_wp2_with fail; refine hK.out _ _ hS8 (fun _ => ?_); clear hK K hS8; refine rgC 3 rfl (by kernel_rfl) (fun K hK => ?_); simp only [rg4, rg5, rg6]; go_simp; obtain ⟨hbA, hpt8, hrs8, hres8, ht48, hr58⟩ := HA.out; have hT9 : Turn (· = x4) w8 (w8.setCell ⟨x4, 0, none⟩ (.slice a9 (num (ndL f n)).length c9)) := (Turn.refl (· = x4) w8).setO (p := ⟨x4, 0, none⟩) rfl _; have hpt9 : PtB (w8.setCell ⟨x4, 0, none⟩ (.slice a9 (num (ndL f n)).length c9)) x6 wb2 := (hT9.block x6 (lt_of_block hpt8) (fun e => HF.out.n46 e.symm)).trans hpt8; have hrs9 : RsB (w8.setCell ⟨x4, 0, none⟩ (.slice a9 (num (ndL f n)).length c9)) x7 (resA rF none 0 0 none 0 0) := (hT9.block x7 hrs8.lt (fun e => HF.out.n47 e.symm)).trans hrs8; have hr59 : RsB (w8.setCell ⟨x4, 0, none⟩ (.slice a9 (num (ndL f n)).length c9)) x5 ResZ := (hT9.block x5 hr58.lt (fun e => HF.out.n45 e.symm)).trans hr58; have hh9 := hrs9; unfold resA at hh9; have hS9 := And.intro hpt9.cell hh9.cells
   obtain ⟨w9, hw9⟩ : ∃ w9, w9 = w8.setCell ⟨x4, 0, none⟩ (.slice a9 (num (ndL f n)).length c9) := ⟨_, rfl⟩
   rw [← hw9] at hS9 hr59 ⊢; have HW9 := qH hw9; obtain ⟨y0, y1, y2, y3, y4, y5⟩ := hr59.cells; have g0 := hr59.free 0; have g1 := hr59.free 1; have g2' := hr59.free 2; have g3 := hr59.free 3; have g4 := hr59.free 4; have g5 := hr59.free 5; have lt5 := hr59.lt; clear hw9 hT9 hpt9 hrs9 hr59 hh9 hbA hpt8 hrs8 hres8 ht48 hr58 c4 f4 lt4; refine hK.out _ _ hS9 (fun _ => ?_); clear hK K hS9; refine rgC 4 rfl (by kernel_rfl) (fun K hK => ?_); simp only [rg4, rg5, rg6]; go_simp; obtain ⟨w10, hw10, q4, q5, hTV10, hRV10, hb10, hS10⟩ := HF.out.done HA.out HTV.out HW9.out; rw [← hw10]; have HQ := qH (And.intro q4 (And.intro q5 (And.intro hTV10 (And.intro hRV10 hb10)))); clear hw10 q4 q5 hTV10 hRV10 hb10 y0 y1 y2 y3 y4 y5 g0 g1 g2' g3 g4 g5 lt5; refine hK.out _ _ hS10 (fun _ => ?_); clear hK K hS10; refine wpAnyH_done (by kernel_rfl) ?_ _; go_wp2_with fail; refine bodyPost_ret (res_cell2 rfl _ _ ⟨x4, 0, none⟩ ⟨x5, 0, none⟩ _ _ rfl rfl HQ.out.1.load HQ.out.2.1.load) rfl ?_; rw [HE9.out]
   exact ⟨_, _, rfl, HQ.out.2.2.1, HQ.out.2.2.2.1, HQ.out.2.2.2.2⟩
end
end Go.Proofs.YtinholnidchblaaGreatDoor
