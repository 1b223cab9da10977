/-
  The reference's rack, and how it stands in memory.
-/
import Derived.Test.YtoiidhpohghiaaaNew
import Derived.Test.YtoiidhpohghiaaaRest
namespace Go.Proofs.Ytoiidhpohghiaaa
open Go.RowKit Go.Maps

/-- What the reference's rack is: by sectors counted through all disks. -/
structure Rf where
  n : Nat
  S : Nat
  L : Nat → List Int
  C : Nat → Option (List Int)
  bad : Nat → Bool
  cnt : Nat → Int
  pw : Int
  dead : Bool
/-- Where it lies: its own block, and its four arrays, with their capacities. -/
structure RLay where
  p : Nat
  lb : Nat
  cb : Nat
  bb : Nat
  nb : Nat
  k1 : Nat
  k2 : Nat
  k3 : Nat
  k4 : Nat
def RLay.M (L : RLay) : Nat → Prop := fun k => k = L.p ∨ k = L.lb ∨ k = L.cb ∨ k = L.bb ∨ k = L.nb
structure RLay.Apart (L : RLay) : Prop where
  pl : L.p ≠ L.lb
  pc : L.p ≠ L.cb
  pb : L.p ≠ L.bb
  pn : L.p ≠ L.nb
  lc : L.lb ≠ L.cb
  lbb : L.lb ≠ L.bb
  ln : L.lb ≠ L.nb
  cbb : L.cb ≠ L.bb
  cn : L.cb ≠ L.nb
  bn : L.bb ≠ L.nb

/-- A block of one-cell elements, the first N of them told. -/
def Col (w : World) (g : Nat) (t : TypeId) (N : Nat) (f : Nat → Value) : Prop := ∃ cs, w.heap[g]? = some (.cells cs t (0, 0)) ∧ ∀ k, k < N → cs[k]? = some (f k)
section
variable {w w' : World} {g N : Nat} {t : TypeId} {f : Nat → Value}
theorem Col.lt (h : Col w g t N f) : g < w.heap.size := by obtain ⟨cs, hcs, _⟩ := h; exact lt_of_block hcs
theorem Col.cell (h : Col w g t N f) {k : Nat} (hk : k < N) : w.cell? ⟨g, k, none⟩ = some (f k) := by
  obtain ⟨cs, hcs, hf⟩ := h
  rw [cell_of_row w g k _ _ (0, 0) hcs]
  exact hf k hk
theorem Col.free (h : Col w g t N f) (k : Nat) : w.frozen? ⟨g, k, none⟩ = false := by obtain ⟨cs, hcs, _⟩ := h; exact frozen_of_row w g k _ _ hcs
theorem Col.turn {M : Nat → Prop} (h : Col w g t N f) (ht : Turn M w w') (hm : ¬ M g) : Col w' g t N f := by
  have hl := h.lt
  obtain ⟨cs, hcs, hf⟩ := h
  exact ⟨cs, (ht.block g hl hm).trans hcs, hf⟩
theorem Col.set (h : Col w g t N f) {k : Nat} (hk : k < N) (u : Value) : Col (w.setCell ⟨g, k, none⟩ u) g t N (fun j => if j = k then u else f j) := by
  obtain ⟨cs, hcs, hf⟩ := h
  have hsz : k < cs.size := by
    have := hf k hk
    exact (Array.getElem?_eq_some_iff.1 this).1
  refine ⟨_, cells_set hcs, fun j hj => ?_⟩
  rw [Array.getElem?_setIfInBounds]
  show _ = some (if j = k then u else f j)
  by_cases e : k = j
  · subst e; simp [hsz]
  · rw [if_neg e, if_neg (Ne.symm e)]
    exact hf j hj
theorem Col.congr {f' : Nat → Value} (h : Col w g t N f) (e : ∀ k, k < N → f' k = f k) : Col w g t N f' := by
  obtain ⟨cs, hcs, hf⟩ := h
  exact ⟨cs, hcs, fun k hk => by rw [e k hk]; exact hf k hk⟩
end

/-- A slice of 64 bytes in a block that nothing writes. -/
def SlL (w : World) (M : Nat → Prop) (v : Value) (zs : List Int) : Prop := ∃ g c : Nat, v = .slice (some ⟨g, 0, none⟩) 64 c ∧ ¬ M g ∧ Bys w (some ⟨g, 0, none⟩) 64 zs
/-- What the reference has for a sector's cached content. -/
def SlC (w : World) (M : Nat → Prop) (v : Value) (o : Option (List Int)) : Prop := (o = none ∧ v = .slice none 0 0) ∨ ∃ zs, o = some zs ∧ SlL w M v zs
section
variable {w w' : World} {M N : Nat → Prop} {v : Value}
theorem SlL.turn {zs : List Int} (h : SlL w M v zs) (ht : Turn M w w') : SlL w' M v zs := by
  obtain ⟨g, c, rfl, hg, hy⟩ := h
  exact ⟨g, c, rfl, hg, bys_turn hy ht (fun b off e => by cases e; exact hg)⟩
theorem SlC.turn {o : Option (List Int)} (h : SlC w M v o) (ht : Turn M w w') : SlC w' M v o := by
  rcases h with h | ⟨zs, h1, h2⟩
  · exact .inl h
  · exact .inr ⟨zs, h1, h2.turn ht⟩
end

structure RefD (w : World) (M : Nat → Prop) (L : RLay) (F : Rf) (fl fc : Nat → Value) : Prop where
  row : w.heap[L.p]? = some (.cells #[.int .i64 F.n, .int .i64 F.S, .slice (some ⟨L.lb, 0, none⟩) (F.n * F.S) L.k1, .slice (some ⟨L.cb, 0, none⟩) (F.n * F.S) L.k2, .slice (some ⟨L.bb, 0, none⟩) F.n L.k3, .slice (some ⟨L.nb, 0, none⟩) F.n L.k4, .int .i64 F.pw, .bool F.dead] 35 (0, 0))
  cl : Col w L.lb 46 (F.n * F.S) fl
  cc : Col w L.cb 46 (F.n * F.S) fc
  cb : Col w L.bb 4 F.n (fun i => .bool (F.bad i))
  cn : Col w L.nb 3 F.n (fun i => .int .i64 (F.cnt i))
  last : ∀ k, k < F.n * F.S → SlL w M (fl k) (F.L k)
  cach : ∀ k, k < F.n * F.S → SlC w M (fc k) (F.C k)
  apart : L.Apart
  sub : ∀ k, L.M k → M k
  low : ∀ k, M k → k < w.heap.size
  few : F.n ≤ 17
  one : 1 ≤ F.S
  fewS : F.S ≤ 4096
  bigp : F.pw ≤ 9223372036854775807
  bigc : ∀ i, F.cnt i ≤ 9223372036854775807
def RefAt (w : World) (M : Nat → Prop) (L : RLay) (F : Rf) : Prop := ∃ fl fc, RefD w M L F fl fc

theorem RLay.M_p (L : RLay) : L.M L.p := .inl rfl
theorem RLay.M_lb (L : RLay) : L.M L.lb := .inr (.inl rfl)
theorem RLay.M_cb (L : RLay) : L.M L.cb := .inr (.inr (.inl rfl))
theorem RLay.M_bb (L : RLay) : L.M L.bb := .inr (.inr (.inr (.inl rfl)))
theorem RLay.M_nb (L : RLay) : L.M L.nb := .inr (.inr (.inr (.inr rfl)))

section
variable {w w' : World} {M N : Nat → Prop} {L : RLay} {F : Rf} {fl fc : Nat → Value}
theorem RefD.c0 (h : RefD w M L F fl fc) : w.cell? ⟨L.p, 0, none⟩ = some (.int .i64 F.n) := by rw [cell_of_row w _ _ _ _ (0, 0) h.row]; rfl
theorem RefD.c1 (h : RefD w M L F fl fc) : w.cell? ⟨L.p, 1, none⟩ = some (.int .i64 F.S) := by rw [cell_of_row w _ _ _ _ (0, 0) h.row]; rfl
theorem RefD.c2 (h : RefD w M L F fl fc) : w.cell? ⟨L.p, 2, none⟩ = some (.slice (some ⟨L.lb, 0, none⟩) (F.n * F.S) L.k1) := by rw [cell_of_row w _ _ _ _ (0, 0) h.row]; rfl
theorem RefD.c3 (h : RefD w M L F fl fc) : w.cell? ⟨L.p, 3, none⟩ = some (.slice (some ⟨L.cb, 0, none⟩) (F.n * F.S) L.k2) := by rw [cell_of_row w _ _ _ _ (0, 0) h.row]; rfl
theorem RefD.c4 (h : RefD w M L F fl fc) : w.cell? ⟨L.p, 4, none⟩ = some (.slice (some ⟨L.bb, 0, none⟩) F.n L.k3) := by rw [cell_of_row w _ _ _ _ (0, 0) h.row]; rfl
theorem RefD.c5 (h : RefD w M L F fl fc) : w.cell? ⟨L.p, 5, none⟩ = some (.slice (some ⟨L.nb, 0, none⟩) F.n L.k4) := by rw [cell_of_row w _ _ _ _ (0, 0) h.row]; rfl
theorem RefD.c6 (h : RefD w M L F fl fc) : w.cell? ⟨L.p, 6, none⟩ = some (.int .i64 F.pw) := by rw [cell_of_row w _ _ _ _ (0, 0) h.row]; rfl
theorem RefD.c7 (h : RefD w M L F fl fc) : w.cell? ⟨L.p, 7, none⟩ = some (.bool F.dead) := by rw [cell_of_row w _ _ _ _ (0, 0) h.row]; rfl
theorem RefD.fp (h : RefD w M L F fl fc) (i : Nat) : w.frozen? ⟨L.p, i, none⟩ = false := frozen_of_row w _ i _ _ h.row
theorem RefD.ltp (h : RefD w M L F fl fc) : L.p < w.heap.size := lt_of_block h.row

theorem RefD.keep (h : RefD w M L F fl fc) (ht : Turn N w w') (hNM : ∀ k, N k → M k) (hN : ∀ k, L.M k → ¬ N k) : RefD w' M L F fl fc :=
  ⟨(ht.block _ h.ltp (hN _ L.M_p)).trans h.row, h.cl.turn ht (hN _ L.M_lb), h.cc.turn ht (hN _ L.M_cb), h.cb.turn ht (hN _ L.M_bb), h.cn.turn ht (hN _ L.M_nb), fun k hk => (h.last k hk).turn (ht.mono hNM), fun k hk => (h.cach k hk).turn (ht.mono hNM),
    h.apart, h.sub, fun k hk => Nat.lt_of_lt_of_le (h.low k hk) ht.size, h.few, h.one, h.fewS, h.bigp, h.bigc⟩
theorem RefAt.keep (h : RefAt w M L F) (ht : Turn N w w') (hNM : ∀ k, N k → M k) (hN : ∀ k, L.M k → ¬ N k) : RefAt w' M L F := by
  obtain ⟨fl, fc, h⟩ := h
  exact ⟨fl, fc, h.keep ht hNM hN⟩
theorem RefAt.below (h : RefAt w M L F) (hb : Below w.heap.size w w') : RefAt w' M L F := h.keep (Turn.of_below (M := fun _ => False) hb) (fun _ x => x.elim) (fun _ _ x => x)

/-- A store into the rack's own block. -/
theorem RefD.setRow (h : RefD w M L F fl fc) (i : Nat) (u : Value) (pw : Int) (dead : Bool) (hp : pw ≤ 9223372036854775807)
    (e : (#[.int .i64 F.n, .int .i64 F.S, .slice (some ⟨L.lb, 0, none⟩) (F.n * F.S) L.k1, .slice (some ⟨L.cb, 0, none⟩) (F.n * F.S) L.k2, .slice (some ⟨L.bb, 0, none⟩) F.n L.k3, .slice (some ⟨L.nb, 0, none⟩) F.n L.k4, .int .i64 F.pw, .bool F.dead] : Array Value).setIfInBounds i u =
      #[.int .i64 F.n, .int .i64 F.S, .slice (some ⟨L.lb, 0, none⟩) (F.n * F.S) L.k1, .slice (some ⟨L.cb, 0, none⟩) (F.n * F.S) L.k2, .slice (some ⟨L.bb, 0, none⟩) F.n L.k3, .slice (some ⟨L.nb, 0, none⟩) F.n L.k4, .int .i64 pw, .bool dead]) :
    RefD (w.setCell ⟨L.p, i, none⟩ u) M L { F with pw := pw, dead := dead } fl fc := by
  have A := h.apart
  have ht := turn_set w L.p i u
  have htM : Turn M w (w.setCell ⟨L.p, i, none⟩ u) := ht.mono fun k x => x ▸ h.sub _ L.M_p
  exact ⟨by rw [cells_set h.row, e], h.cl.turn ht (Ne.symm A.pl), h.cc.turn ht (Ne.symm A.pc), h.cb.turn ht (Ne.symm A.pb), h.cn.turn ht (Ne.symm A.pn), fun k hk => (h.last k hk).turn htM, fun k hk => (h.cach k hk).turn htM, A, h.sub, fun k hk => Nat.lt_of_lt_of_le (h.low k hk) ht.size, h.few, h.one, h.fewS, hp, h.bigc⟩
theorem RefD.setPw (h : RefD w M L F fl fc) (n : Int) (hn : n ≤ 9223372036854775807) : RefD (w.setCell ⟨L.p, 6, none⟩ (.int .i64 n)) M L { F with pw := n } fl fc := h.setRow 6 _ n F.dead hn rfl
theorem RefD.setDead (h : RefD w M L F fl fc) (b : Bool) : RefD (w.setCell ⟨L.p, 7, none⟩ (.bool b)) M L { F with dead := b } fl fc := h.setRow 7 _ F.pw b h.bigp rfl

def atI {α : Type} (f : Nat → α) (i : Nat) (x : α) : Nat → α := fun j => if j = i then x else f j
theorem RefD.setBad (h : RefD w M L F fl fc) {i : Nat} (hi : i < F.n) (b : Bool) : RefD (w.setCell ⟨L.bb, i, none⟩ (.bool b)) M L { F with bad := atI F.bad i b } fl fc := by
  have A := h.apart
  have ht := turn_set w L.bb i (.bool b)
  have htM : Turn M w (w.setCell ⟨L.bb, i, none⟩ (.bool b)) := ht.mono fun k x => x ▸ h.sub _ L.M_bb
  refine ⟨(ht.block _ h.ltp A.pb).trans h.row, h.cl.turn ht A.lbb, h.cc.turn ht A.cbb, (h.cb.set hi _).congr fun k _ => ?_, h.cn.turn ht (Ne.symm A.bn), fun k hk => (h.last k hk).turn htM, fun k hk => (h.cach k hk).turn htM, A, h.sub, fun k hk => Nat.lt_of_lt_of_le (h.low k hk) ht.size, h.few, h.one, h.fewS, h.bigp, h.bigc⟩
  unfold atI
  by_cases e : k = i <;> simp [e]
theorem RefD.setCnt (h : RefD w M L F fl fc) {i : Nat} (hi : i < F.n) (z : Int) (hz : z ≤ 9223372036854775807) : RefD (w.setCell ⟨L.nb, i, none⟩ (.int .i64 z)) M L { F with cnt := atI F.cnt i z } fl fc := by
  have A := h.apart
  have ht := turn_set w L.nb i (.int .i64 z)
  have htM : Turn M w (w.setCell ⟨L.nb, i, none⟩ (.int .i64 z)) := ht.mono fun k x => x ▸ h.sub _ L.M_nb
  refine ⟨(ht.block _ h.ltp A.pn).trans h.row, h.cl.turn ht A.ln, h.cc.turn ht A.cn, h.cb.turn ht A.bn, (h.cn.set hi _).congr fun k _ => ?_, fun k hk => (h.last k hk).turn htM, fun k hk => (h.cach k hk).turn htM, A, h.sub, fun k hk => Nat.lt_of_lt_of_le (h.low k hk) ht.size, h.few, h.one, h.fewS, h.bigp, fun j => ?_⟩
  · unfold atI
    by_cases e : k = i <;> simp [e]
  · show atI F.cnt i z j ≤ _
    unfold atI
    by_cases e : j = i
    · rw [if_pos e]; exact hz
    · rw [if_neg e]; exact h.bigc j
theorem RefD.setL (h : RefD w M L F fl fc) {k : Nat} (hk : k < F.n * F.S) (v : Value) (zs : List Int) (hv : SlL w M v zs) : RefD (w.setCell ⟨L.lb, k, none⟩ v) M L { F with L := atI F.L k zs } (atI fl k v) fc := by
  have A := h.apart
  have ht := turn_set w L.lb k v
  have htM : Turn M w (w.setCell ⟨L.lb, k, none⟩ v) := ht.mono fun k x => x ▸ h.sub _ L.M_lb
  refine ⟨(ht.block _ h.ltp A.pl).trans h.row, h.cl.set hk v, h.cc.turn ht (Ne.symm A.lc), h.cb.turn ht (Ne.symm A.lbb), h.cn.turn ht (Ne.symm A.ln), fun j hj => ?_, fun j hj => (h.cach j hj).turn htM, A, h.sub, fun k hk => Nat.lt_of_lt_of_le (h.low k hk) ht.size, h.few, h.one, h.fewS, h.bigp, h.bigc⟩
  show SlL _ M (atI fl k v j) (atI F.L k zs j)
  unfold atI
  by_cases e : j = k
  · rw [if_pos e, if_pos e]; exact hv.turn htM
  · rw [if_neg e, if_neg e]; exact (h.last j hj).turn htM
theorem RefD.setC (h : RefD w M L F fl fc) {k : Nat} (hk : k < F.n * F.S) (v : Value) (o : Option (List Int)) (hv : SlC w M v o) : RefD (w.setCell ⟨L.cb, k, none⟩ v) M L { F with C := atI F.C k o } fl (atI fc k v) := by
  have A := h.apart
  have ht := turn_set w L.cb k v
  have htM : Turn M w (w.setCell ⟨L.cb, k, none⟩ v) := ht.mono fun k x => x ▸ h.sub _ L.M_cb
  refine ⟨(ht.block _ h.ltp A.pc).trans h.row, h.cl.turn ht A.lc, h.cc.set hk v, h.cb.turn ht (Ne.symm A.cbb), h.cn.turn ht (Ne.symm A.cn), fun j hj => (h.last j hj).turn htM, fun j hj => ?_, A, h.sub, fun k hk => Nat.lt_of_lt_of_le (h.low k hk) ht.size, h.few, h.one, h.fewS, h.bigp, h.bigc⟩
  show SlC _ M (atI fc k v j) (atI F.C k o j)
  unfold atI
  by_cases e : j = k
  · rw [if_pos e, if_pos e]; exact hv.turn htM
  · rw [if_neg e, if_neg e]; exact (h.cach j hj).turn htM
end

end Go.Proofs.Ytoiidhpohghiaaa
