/-
  The reference's rack, and how it stands in memory.
-/
import Derived.Test.YtacnhlmhibhlhaaGreatOpm
import Derived.Deep.RegionHeld3
import Derived.StillTailTactics
set_option linter.unusedSimpArgs false
set_option linter.unusedVariables false
namespace Go.Proofs.YtacnhlmhibhlhaaGreat
open Go.RowKit Go.Maps

/-- What the reference's rack is: by sectors counted through all disks. -/
structure Rf where
  n : Nat
  S : Nat
  L : Nat → List Int
  C : Nat → Option (List Int)
  bad : Nat → Bool
  cnt : Nat → Int
  pw : Int
  dead : Bool
/-- Where it lies: its own block, and its four arrays, with their capacities. -/
structure RLay where
  p : Nat
  lb : Nat
  cb : Nat
  bb : Nat
  nb : Nat
  k1 : Nat
  k2 : Nat
  k3 : Nat
  k4 : Nat
def RLay.M (L : RLay) : Nat → Prop := fun k => k = L.p ∨ k = L.lb ∨ k = L.cb ∨ k = L.bb ∨ k = L.nb
structure RLay.Apart (L : RLay) : Prop where
  pl : L.p ≠ L.lb
  pc : L.p ≠ L.cb
  pb : L.p ≠ L.bb
  pn : L.p ≠ L.nb
  lc : L.lb ≠ L.cb
  lbb : L.lb ≠ L.bb
  ln : L.lb ≠ L.nb
  cbb : L.cb ≠ L.bb
  cn : L.cb ≠ L.nb
  bn : L.bb ≠ L.nb

/-- A block of one-cell elements, the first N of them told. -/
def Col (w : World) (g : Nat) (t : TypeId) (N : Nat) (f : Nat → Value) : Prop := ∃ cs, w.heap[g]? = some (.cells cs t (0, 0)) ∧ ∀ k, k < N → cs[k]? = some (f k)
section
variable {w w' : World} {g N : Nat} {t : TypeId} {f : Nat → Value}
theorem Col.lt (h : Col w g t N f) : g < w.heap.size := by obtain ⟨cs, hcs, _⟩ := h; exact lt_of_block hcs
theorem Col.cell (h : Col w g t N f) {k : Nat} (hk : k < N) : w.cell? ⟨g, k, none⟩ = some (f k) := by
  obtain ⟨cs, hcs, hf⟩ := h
  rw [cell_of_row w g k _ _ (0, 0) hcs]
  exact hf k hk
theorem Col.free (h : Col w g t N f) (k : Nat) : w.frozen? ⟨g, k, none⟩ = false := by obtain ⟨cs, hcs, _⟩ := h; exact frozen_of_row w g k _ _ hcs
theorem Col.turn {M : Nat → Prop} (h : Col w g t N f) (ht : Turn M w w') (hm : ¬ M g) : Col w' g t N f := by
  have hl := h.lt
  obtain ⟨cs, hcs, hf⟩ := h
  exact ⟨cs, (ht.block g hl hm).trans hcs, hf⟩
theorem Col.set (h : Col w g t N f) {k : Nat} (hk : k < N) (u : Value) : Col (w.setCell ⟨g, k, none⟩ u) g t N (fun j => if j = k then u else f j) := by
  obtain ⟨cs, hcs, hf⟩ := h
  have hsz : k < cs.size := by
    have := hf k hk
    exact (Array.getElem?_eq_some_iff.1 this).1
  refine ⟨_, cells_set hcs, fun j hj => ?_⟩
  rw [Array.getElem?_setIfInBounds]
  show _ = some (if j = k then u else f j)
  by_cases e : k = j
  · subst e; simp [hsz]
  · rw [if_neg e, if_neg (Ne.symm e)]
    exact hf j hj
theorem Col.congr {f' : Nat → Value} (h : Col w g t N f) (e : ∀ k, k < N → f' k = f k) : Col w g t N f' := by
  obtain ⟨cs, hcs, hf⟩ := h
  exact ⟨cs, hcs, fun k hk => by rw [e k hk]; exact hf k hk⟩
end

/-- A slice of 64 bytes in a block that nothing writes. -/
def SlL (w : World) (M : Nat → Prop) (v : Value) (zs : List Int) : Prop := ∃ g c : Nat, v = .slice (some ⟨g, 0, none⟩) 64 c ∧ ¬ M g ∧ Bys w (some ⟨g, 0, none⟩) 64 zs
/-- What the reference has for a sector's cached content. -/
def SlC (w : World) (M : Nat → Prop) (v : Value) (o : Option (List Int)) : Prop := (o = none ∧ v = .slice none 0 0) ∨ ∃ zs, o = some zs ∧ SlL w M v zs
section
variable {w w' : World} {M N : Nat → Prop} {v : Value}
theorem SlL.turn {zs : List Int} (h : SlL w M v zs) (ht : Turn M w w') : SlL w' M v zs := by
  obtain ⟨g, c, rfl, hg, hy⟩ := h
  exact ⟨g, c, rfl, hg, bys_turn hy ht (fun b off e => by cases e; exact hg)⟩
theorem SlC.turn {o : Option (List Int)} (h : SlC w M v o) (ht : Turn M w w') : SlC w' M v o := by
  rcases h with h | ⟨zs, h1, h2⟩
  · exact .inl h
  · exact .inr ⟨zs, h1, h2.turn ht⟩
end

structure RefD (w : World) (M : Nat → Prop) (L : RLay) (F : Rf) (fl fc : Nat → Value) : Prop where
  row : w.heap[L.p]? = some (.cells #[.int .i64 F.n, .int .i64 F.S, .slice (some ⟨L.lb, 0, none⟩) (F.n * F.S) L.k1, .slice (some ⟨L.cb, 0, none⟩) (F.n * F.S) L.k2, .slice (some ⟨L.bb, 0, none⟩) F.n L.k3, .slice (some ⟨L.nb, 0, none⟩) F.n L.k4, .int .i64 F.pw, .bool F.dead] 38 (0, 0))
  cl : Col w L.lb 42 (F.n * F.S) fl
  cc : Col w L.cb 42 (F.n * F.S) fc
  cb : Col w L.bb 4 F.n (fun i => .bool (F.bad i))
  cn : Col w L.nb 3 F.n (fun i => .int .i64 (F.cnt i))
  last : ∀ k, k < F.n * F.S → SlL w M (fl k) (F.L k)
  cach : ∀ k, k < F.n * F.S → SlC w M (fc k) (F.C k)
  apart : L.Apart
  sub : ∀ k, L.M k → M k
  low : ∀ k, M k → k < w.heap.size
  few : F.n ≤ 17
  one : 1 ≤ F.S
  fewS : F.S ≤ 4096
  bigp : F.pw ≤ 9223372036854775807
  bigc : ∀ i, F.cnt i ≤ 9223372036854775807
def RefAt (w : World) (M : Nat → Prop) (L : RLay) (F : Rf) : Prop := ∃ fl fc, RefD w M L F fl fc

theorem RLay.M_p (L : RLay) : L.M L.p := .inl rfl
theorem RLay.M_lb (L : RLay) : L.M L.lb := .inr (.inl rfl)
theorem RLay.M_cb (L : RLay) : L.M L.cb := .inr (.inr (.inl rfl))
theorem RLay.M_bb (L : RLay) : L.M L.bb := .inr (.inr (.inr (.inl rfl)))
theorem RLay.M_nb (L : RLay) : L.M L.nb := .inr (.inr (.inr (.inr rfl)))

section
variable {w w' : World} {M N : Nat → Prop} {L : RLay} {F : Rf} {fl fc : Nat → Value}
theorem RefD.c0 (h : RefD w M L F fl fc) : w.cell? ⟨L.p, 0, none⟩ = some (.int .i64 F.n) := by rw [cell_of_row w _ _ _ _ (0, 0) h.row]; rfl
theorem RefD.c1 (h : RefD w M L F fl fc) : w.cell? ⟨L.p, 1, none⟩ = some (.int .i64 F.S) := by rw [cell_of_row w _ _ _ _ (0, 0) h.row]; rfl
theorem RefD.c2 (h : RefD w M L F fl fc) : w.cell? ⟨L.p, 2, none⟩ = some (.slice (some ⟨L.lb, 0, none⟩) (F.n * F.S) L.k1) := by rw [cell_of_row w _ _ _ _ (0, 0) h.row]; rfl
theorem RefD.c3 (h : RefD w M L F fl fc) : w.cell? ⟨L.p, 3, none⟩ = some (.slice (some ⟨L.cb, 0, none⟩) (F.n * F.S) L.k2) := by rw [cell_of_row w _ _ _ _ (0, 0) h.row]; rfl
theorem RefD.c4 (h : RefD w M L F fl fc) : w.cell? ⟨L.p, 4, none⟩ = some (.slice (some ⟨L.bb, 0, none⟩) F.n L.k3) := by rw [cell_of_row w _ _ _ _ (0, 0) h.row]; rfl
theorem RefD.c5 (h : RefD w M L F fl fc) : w.cell? ⟨L.p, 5, none⟩ = some (.slice (some ⟨L.nb, 0, none⟩) F.n L.k4) := by rw [cell_of_row w _ _ _ _ (0, 0) h.row]; rfl
theorem RefD.c6 (h : RefD w M L F fl fc) : w.cell? ⟨L.p, 6, none⟩ = some (.int .i64 F.pw) := by rw [cell_of_row w _ _ _ _ (0, 0) h.row]; rfl
theorem RefD.c7 (h : RefD w M L F fl fc) : w.cell? ⟨L.p, 7, none⟩ = some (.bool F.dead) := by rw [cell_of_row w _ _ _ _ (0, 0) h.row]; rfl
theorem RefD.fp (h : RefD w M L F fl fc) (i : Nat) : w.frozen? ⟨L.p, i, none⟩ = false := frozen_of_row w _ i _ _ h.row
theorem RefD.ltp (h : RefD w M L F fl fc) : L.p < w.heap.size := lt_of_block h.row

theorem RefD.keep (h : RefD w M L F fl fc) (ht : Turn N w w') (hNM : ∀ k, N k → M k) (hN : ∀ k, L.M k → ¬ N k) : RefD w' M L F fl fc :=
  ⟨(ht.block _ h.ltp (hN _ L.M_p)).trans h.row, h.cl.turn ht (hN _ L.M_lb), h.cc.turn ht (hN _ L.M_cb), h.cb.turn ht (hN _ L.M_bb), h.cn.turn ht (hN _ L.M_nb), fun k hk => (h.last k hk).turn (ht.mono hNM), fun k hk => (h.cach k hk).turn (ht.mono hNM),
    h.apart, h.sub, fun k hk => Nat.lt_of_lt_of_le (h.low k hk) ht.size, h.few, h.one, h.fewS, h.bigp, h.bigc⟩
theorem RefAt.keep (h : RefAt w M L F) (ht : Turn N w w') (hNM : ∀ k, N k → M k) (hN : ∀ k, L.M k → ¬ N k) : RefAt w' M L F := by
  obtain ⟨fl, fc, h⟩ := h
  exact ⟨fl, fc, h.keep ht hNM hN⟩
theorem RefAt.below (h : RefAt w M L F) (hb : Below w.heap.size w w') : RefAt w' M L F := h.keep (Turn.of_below (M := fun _ => False) hb) (fun _ x => x.elim) (fun _ _ x => x)

/-- A store into the rack's own block. -/
theorem RefD.setRow (h : RefD w M L F fl fc) (i : Nat) (u : Value) (pw : Int) (dead : Bool) (hp : pw ≤ 9223372036854775807)
    (e : (#[.int .i64 F.n, .int .i64 F.S, .slice (some ⟨L.lb, 0, none⟩) (F.n * F.S) L.k1, .slice (some ⟨L.cb, 0, none⟩) (F.n * F.S) L.k2, .slice (some ⟨L.bb, 0, none⟩) F.n L.k3, .slice (some ⟨L.nb, 0, none⟩) F.n L.k4, .int .i64 F.pw, .bool F.dead] : Array Value).setIfInBounds i u =
      #[.int .i64 F.n, .int .i64 F.S, .slice (some ⟨L.lb, 0, none⟩) (F.n * F.S) L.k1, .slice (some ⟨L.cb, 0, none⟩) (F.n * F.S) L.k2, .slice (some ⟨L.bb, 0, none⟩) F.n L.k3, .slice (some ⟨L.nb, 0, none⟩) F.n L.k4, .int .i64 pw, .bool dead]) :
    RefD (w.setCell ⟨L.p, i, none⟩ u) M L { F with pw := pw, dead := dead } fl fc := by
  have A := h.apart
  have ht := turn_set w L.p i u
  have htM : Turn M w (w.setCell ⟨L.p, i, none⟩ u) := ht.mono fun k x => x ▸ h.sub _ L.M_p
  exact ⟨by rw [cells_set h.row, e], h.cl.turn ht (Ne.symm A.pl), h.cc.turn ht (Ne.symm A.pc), h.cb.turn ht (Ne.symm A.pb), h.cn.turn ht (Ne.symm A.pn), fun k hk => (h.last k hk).turn htM, fun k hk => (h.cach k hk).turn htM, A, h.sub, fun k hk => Nat.lt_of_lt_of_le (h.low k hk) ht.size, h.few, h.one, h.fewS, hp, h.bigc⟩
theorem RefD.setPw (h : RefD w M L F fl fc) (n : Int) (hn : n ≤ 9223372036854775807) : RefD (w.setCell ⟨L.p, 6, none⟩ (.int .i64 n)) M L { F with pw := n } fl fc := h.setRow 6 _ n F.dead hn rfl
theorem RefD.setDead (h : RefD w M L F fl fc) (b : Bool) : RefD (w.setCell ⟨L.p, 7, none⟩ (.bool b)) M L { F with dead := b } fl fc := h.setRow 7 _ F.pw b h.bigp rfl

def atI {α : Type} (f : Nat → α) (i : Nat) (x : α) : Nat → α := fun j => if j = i then x else f j
theorem RefD.setBad (h : RefD w M L F fl fc) {i : Nat} (hi : i < F.n) (b : Bool) : RefD (w.setCell ⟨L.bb, i, none⟩ (.bool b)) M L { F with bad := atI F.bad i b } fl fc := by
  have A := h.apart
  have ht := turn_set w L.bb i (.bool b)
  have htM : Turn M w (w.setCell ⟨L.bb, i, none⟩ (.bool b)) := ht.mono fun k x => x ▸ h.sub _ L.M_bb
  refine ⟨(ht.block _ h.ltp A.pb).trans h.row, h.cl.turn ht A.lbb, h.cc.turn ht A.cbb, (h.cb.set hi _).congr fun k _ => ?_, h.cn.turn ht (Ne.symm A.bn), fun k hk => (h.last k hk).turn htM, fun k hk => (h.cach k hk).turn htM, A, h.sub, fun k hk => Nat.lt_of_lt_of_le (h.low k hk) ht.size, h.few, h.one, h.fewS, h.bigp, h.bigc⟩
  unfold atI
  by_cases e : k = i <;> simp [e]
theorem RefD.setCnt (h : RefD w M L F fl fc) {i : Nat} (hi : i < F.n) (z : Int) (hz : z ≤ 9223372036854775807) : RefD (w.setCell ⟨L.nb, i, none⟩ (.int .i64 z)) M L { F with cnt := atI F.cnt i z } fl fc := by
  have A := h.apart
  have ht := turn_set w L.nb i (.int .i64 z)
  have htM : Turn M w (w.setCell ⟨L.nb, i, none⟩ (.int .i64 z)) := ht.mono fun k x => x ▸ h.sub _ L.M_nb
  refine ⟨(ht.block _ h.ltp A.pn).trans h.row, h.cl.turn ht A.ln, h.cc.turn ht A.cn, h.cb.turn ht A.bn, (h.cn.set hi _).congr fun k _ => ?_, fun k hk => (h.last k hk).turn htM, fun k hk => (h.cach k hk).turn htM, A, h.sub, fun k hk => Nat.lt_of_lt_of_le (h.low k hk) ht.size, h.few, h.one, h.fewS, h.bigp, fun j => ?_⟩
  · unfold atI
    by_cases e : k = i <;> simp [e]
  · show atI F.cnt i z j ≤ _
    unfold atI
    by_cases e : j = i
    · rw [if_pos e]; exact hz
    · rw [if_neg e]; exact h.bigc j
theorem RefD.setL (h : RefD w M L F fl fc) {k : Nat} (hk : k < F.n * F.S) (v : Value) (zs : List Int) (hv : SlL w M v zs) : RefD (w.setCell ⟨L.lb, k, none⟩ v) M L { F with L := atI F.L k zs } (atI fl k v) fc := by
  have A := h.apart
  have ht := turn_set w L.lb k v
  have htM : Turn M w (w.setCell ⟨L.lb, k, none⟩ v) := ht.mono fun k x => x ▸ h.sub _ L.M_lb
  refine ⟨(ht.block _ h.ltp A.pl).trans h.row, h.cl.set hk v, h.cc.turn ht (Ne.symm A.lc), h.cb.turn ht (Ne.symm A.lbb), h.cn.turn ht (Ne.symm A.ln), fun j hj => ?_, fun j hj => (h.cach j hj).turn htM, A, h.sub, fun k hk => Nat.lt_of_lt_of_le (h.low k hk) ht.size, h.few, h.one, h.fewS, h.bigp, h.bigc⟩
  show SlL _ M (atI fl k v j) (atI F.L k zs j)
  unfold atI
  by_cases e : j = k
  · rw [if_pos e, if_pos e]; exact hv.turn htM
  · rw [if_neg e, if_neg e]; exact (h.last j hj).turn htM
theorem RefD.setC (h : RefD w M L F fl fc) {k : Nat} (hk : k < F.n * F.S) (v : Value) (o : Option (List Int)) (hv : SlC w M v o) : RefD (w.setCell ⟨L.cb, k, none⟩ v) M L { F with C := atI F.C k o } fl (atI fc k v) := by
  have A := h.apart
  have ht := turn_set w L.cb k v
  have htM : Turn M w (w.setCell ⟨L.cb, k, none⟩ v) := ht.mono fun k x => x ▸ h.sub _ L.M_cb
  refine ⟨(ht.block _ h.ltp A.pc).trans h.row, h.cl.turn ht A.lc, h.cc.set hk v, h.cb.turn ht (Ne.symm A.cbb), h.cn.turn ht (Ne.symm A.cn), fun j hj => (h.last j hj).turn htM, fun j hj => ?_, A, h.sub, fun k hk => Nat.lt_of_lt_of_le (h.low k hk) ht.size, h.few, h.one, h.fewS, h.bigp, h.bigc⟩
  show SlC _ M (atI fc k v j) (atI F.C k o j)
  unfold atI
  by_cases e : j = k
  · rw [if_pos e, if_pos e]; exact hv.turn htM
  · rw [if_neg e, if_neg e]; exact (h.cach j hj).turn htM
end

end Go.Proofs.YtacnhlmhibhlhaaGreat

/-
  The reference's small functions, by contract.
-/
namespace Go.Proofs.YtacnhlmhibhlhaaGreat
open Go.RowKit Go.Maps

def RefPost (M : Nat → Prop) (L : RLay) (F' : Rf) (w : World) (v : Value) (e : Ending) (w' : World) : Prop := e = .returned v ∧ RefAt w' M L F' ∧ Turn L.M w w'

section
variable (M : Nat → Prop) (L : RLay) (F : Rf) (w : World)
theorem there_yes (i k : Int) (h : RefAt w M L F) (hb : hasB F.n F.S i k = true) :
    Calls Tryz.prog 77 #[.pointer (some ⟨L.p, 0, none⟩), .int .i64 i, .int .i64 k] w fun e w' => e = .returned (.bool true) ∧ w = w' := by
  obtain ⟨fl, fc, h⟩ := h
  have c0 := h.c0
  have c1 := h.c1
  obtain ⟨⟨h0, h1⟩, h2, h3⟩ := hasB_iff.1 hb
  clear hb
  go_enter Tryz.func77, Tryz.ntmps77
  go_wp2
  go_ret
  exact ⟨rfl, rfl⟩
theorem there_no (i k : Int) (h : RefAt w M L F) (hb : hasB F.n F.S i k = false) :
    Calls Tryz.prog 77 #[.pointer (some ⟨L.p, 0, none⟩), .int .i64 i, .int .i64 k] w fun e w' => e = .returned (.bool false) ∧ w = w' := by
  obtain ⟨fl, fc, h⟩ := h
  have c0 := h.c0
  have c1 := h.c1
  have hb' : ¬ ((0 ≤ i ∧ i < F.n) ∧ 0 ≤ k ∧ k < F.S) := fun x => by rw [hasB_iff.2 x] at hb; cases hb
  clear hb
  by_cases h0 : 0 ≤ i
  · by_cases h1 : i < F.n
    · by_cases h2 : 0 ≤ k
      · have h3 : ¬ k < F.S := fun x => hb' ⟨⟨h0, h1⟩, h2, x⟩
        clear hb'
        go_enter Tryz.func77, Tryz.ntmps77
        go_wp2
        go_ret
        exact ⟨rfl, rfl⟩
      · clear hb'
        go_enter Tryz.func77, Tryz.ntmps77
        go_wp2
        go_ret
        exact ⟨rfl, rfl⟩
    · clear hb'
      go_enter Tryz.func77, Tryz.ntmps77
      go_wp2
      go_ret
      exact ⟨rfl, rfl⟩
  · clear hb'
    go_enter Tryz.func77, Tryz.ntmps77
    go_wp2
    go_ret
    exact ⟨rfl, rfl⟩

def badN (F : Rf) (i : Nat) : Bool := F.bad i || F.cnt i == 0
def cntN (F : Rf) (i : Nat) : Int := if F.bad i then F.cnt i else if 0 < F.cnt i then F.cnt i - 1 else F.cnt i
def Rf.told (F : Rf) (k : Nat) : Rf := { F with bad := fun j => if j < k then badN F j else F.bad j, cnt := fun j => if j < k then cntN F j else F.cnt j }
def Rf.call (F : Rf) : Rf := if F.pw = 0 then { F with dead := true } else { F with pw := if 0 < F.pw then F.pw - 1 else F.pw, bad := badN F, cnt := cntN F }
def Rf.callE (F : Rf) : Int := if F.pw = 0 then 12 else 0

theorem refcall_dead (h : RefAt w M L F) (h0 : F.pw = 0) :
    Calls Tryz.prog 78 #[.pointer (some ⟨L.p, 0, none⟩)] w (RefPost M L F.call w (.int .i64 F.callE)) := by
  obtain ⟨fl, fc, h⟩ := h
  have c6 := h.c6
  have c7 := h.c7
  have f7 := h.fp 7
  rw [h0] at c6
  have h0' : Hid (F.pw = 0) := h0
  clear h0
  go_enter Tryz.func78, Tryz.ntmps78
  go_wp2
  go_ret
  refine ⟨?_, ⟨fl, fc, ?_⟩, (turn_set w L.p 7 _).mono fun k e => e ▸ L.M_p⟩
  · simp [Rf.callE, h0'.out]
  · unfold Rf.call
    rw [if_pos h0'.out]
    exact h.setDead true

theorem RefD.congr {w : World} {M : Nat → Prop} {L : RLay} {F F' : Rf} {fl fc : Nat → Value} (h : RefD w M L F fl fc) (hn : F'.n = F.n) (hS : F'.S = F.S) (hp : F'.pw = F.pw) (hd : F'.dead = F.dead) (hL : ∀ k, k < F.n * F.S → F'.L k = F.L k) (hC : ∀ k, k < F.n * F.S → F'.C k = F.C k)
    (hb : ∀ i, i < F.n → F'.bad i = F.bad i) (hc : ∀ i, i < F.n → F'.cnt i = F.cnt i) (hbig : ∀ i, F'.cnt i ≤ 9223372036854775807) : RefD w M L F' fl fc := by
  obtain ⟨n, S, Lf, C, bad, cnt, pw, dead⟩ := F
  obtain ⟨n', S', Lf', C', bad', cnt', pw', dead'⟩ := F'
  simp only at hn hS hp hd hL hC hb hc hbig
  subst hn hS hp hd
  exact ⟨h.row, h.cl, h.cc, h.cb.congr fun i hi => by show Value.bool (bad' i) = Value.bool (bad i); rw [hb i hi], h.cn.congr fun i hi => by show Value.int _ (cnt' i) = Value.int _ (cnt i); rw [hc i hi], fun k hk => by show SlL w M (fl k) (Lf' k); rw [hL k hk]; exact h.last k hk,
    fun k hk => by show SlC w M (fc k) (C' k); rw [hC k hk]; exact h.cach k hk, h.apart, h.sub, h.low, h.few, h.one, h.fewS, h.bigp, hbig⟩

theorem cntN_big (h : ∀ i, F.cnt i ≤ 9223372036854775807) (i : Nat) : cntN F i ≤ 9223372036854775807 := by
  have := h i
  unfold cntN
  split
  · exact this
  · split <;> omega
theorem told_big (h : ∀ i, F.cnt i ≤ 9223372036854775807) (k i : Nat) : (F.told k).cnt i ≤ 9223372036854775807 := by
  show (if i < k then cntN F i else F.cnt i) ≤ _
  split
  · exact cntN_big F h i
  · exact h i
end

set_option maxHeartbeats 1000000 in
theorem refcall_live (M : Nat → Prop) (L : RLay) (F : Rf) (w : World) (h : RefAt w M L F) (h0 : F.pw ≠ 0) :
    Calls Tryz.prog 78 #[.pointer (some ⟨L.p, 0, none⟩)] w (RefPost M L F.call w (.int .i64 F.callE)) := by
  obtain ⟨fl, fc, h⟩ := h
  obtain ⟨n, hn⟩ : ∃ n, n = F.n := ⟨_, rfl⟩
  have few := h.few
  have big := h.bigp
  have bigc := Lib.hid h.bigc
  have c6 := h.c6
  have f6 := h.fp 6
  rw [← hn] at few
  have hn' : Hid (n = F.n) := hn
  clear hn
  have hne : (F.pw == 0) = false := by simpa using h0
  obtain ⟨F0, hF0⟩ : ∃ F0 : Rf, Hid (F0 = { F with pw := if 0 < F.pw then F.pw - 1 else F.pw }) := ⟨_, Lib.hid rfl⟩
  have hend : Hid (∀ wr, RefD wr M L (F0.told n) fl fc → RefAt wr M L F.call) := by
    intro wr hw
    refine ⟨fl, fc, hw.congr ?_ ?_ ?_ ?_ (fun k _ => ?_) (fun k _ => ?_) (fun i hi => ?_) (fun i hi => ?_) ?_⟩
    all_goals (rw [hF0.out] at *; unfold Rf.call; rw [if_neg h0]; try rfl)
    · have : i < n := by rw [hn'.out]; exact hi
      simp [Rf.told, this, badN]
    · have : i < n := by rw [hn'.out]; exact hi
      simp [Rf.told, this, cntN]
    · exact cntN_big F bigc.out
  have hret : Hid (F.callE = 0) := by unfold Rf.callE Hid; rw [if_neg h0]
  have hn0 : Hid (F0.n = n) := by unfold Hid; rw [hF0.out]; exact hn'.out.symm
  have hb0 : Hid (∀ i, F0.cnt i ≤ 9223372036854775807) := by unfold Hid; rw [hF0.out]; exact bigc.out
  clear h0
  by_cases h1 : 0 < F.pw
  all_goals
    go_enter Tryz.func78, Tryz.ntmps78
    go_wp2
    go_loopw [3] (fun i wr => ∃ k : Nat, k ≤ n ∧ i = .int .i64 k ∧ RefD wr M L (F0.told k) fl fc ∧ Turn L.M w wr) (fun i _ => n - (RowKit.intOf i).toNat)
    case atStart =>
      refine ⟨0, Nat.zero_le _, rfl, ?_, ?_⟩
      · rw [show F0.told 0 = F0 by unfold Rf.told; simp, hF0.out]
        first
          | (rw [if_pos h1]; exact h.setPw _ (by omega))
          | (rw [if_neg (by omega)]; exact h)
      · first
          | exact (turn_set w L.p 6 _).mono fun k e => e ▸ L.M_p
          | exact Turn.refl _ _
    case round =>
      obtain ⟨k, hk, rfl, hr, ht⟩ := hrel
      have a0 : wr.cell? ⟨L.p, 0, none⟩ = some (.int .i64 n) := by
        have := hr.c0
        rwa [show (F0.told k).n = n from hn0.out] at this
      have a4 : wr.cell? ⟨L.p, 4, none⟩ = some (.slice (some ⟨L.bb, 0, none⟩) n L.k3) := by
        have := hr.c4
        rwa [show (F0.told k).n = n from hn0.out] at this
      have a5 : wr.cell? ⟨L.p, 5, none⟩ = some (.slice (some ⟨L.nb, 0, none⟩) n L.k4) := by
        have := hr.c5
        rwa [show (F0.told k).n = n from hn0.out] at this
      clear c6 f6
      by_cases hlt : k < n
      · have ab : wr.cell? ⟨L.bb, k, none⟩ = some (.bool (F0.bad k)) := by
          have := hr.cb.cell (k := k) (by rw [show (F0.told k).n = n from hn0.out]; exact hlt)
          simpa [Rf.told] using this
        have an : wr.cell? ⟨L.nb, k, none⟩ = some (.int .i64 (F0.cnt k)) := by
          have := hr.cn.cell (k := k) (by rw [show (F0.told k).n = n from hn0.out]; exact hlt)
          simpa [Rf.told] using this
        have fb := hr.cb.free k
        have fn := hr.cn.free k
        have A := hr.apart
        have n1 := A.pb
        have n2 := Ne.symm A.pb
        have n3 := A.pn
        have n4 := Ne.symm A.pn
        have n5 := A.bn
        have n6 := Ne.symm A.bn
        have hkn : k < (F0.told k).n := by rw [show (F0.told k).n = n from hn0.out]; exact hlt
        have hbc := hb0.out k
        have step : Hid (∀ b z, badN F0 k = b → cntN F0 k = z → ∀ w2 F2, RefD w2 M L F2 fl fc → F2.n = F0.n → F2.S = F0.S → F2.pw = F0.pw → F2.dead = F0.dead → F2.L = F0.L → F2.C = F0.C → F2.bad = atI (F0.told k).bad k b → F2.cnt = atI (F0.told k).cnt k z → RefD w2 M L (F0.told (k + 1)) fl fc) := by
          intro b z hb hz w2 F2 h2 e1 e2 e3 e4 e5 e6 e7 e8
          refine h2.congr e1.symm e2.symm e3.symm e4.symm (fun j _ => by rw [e5]; rfl) (fun j _ => by rw [e6]; rfl) (fun i _ => ?_) (fun i _ => ?_) (told_big F0 hb0.out (k + 1))
          · rw [e7]
            show (if i < k + 1 then badN F0 i else F0.bad i) = atI (F0.told k).bad k b i
            unfold atI
            by_cases e : i = k
            · subst e; rw [if_pos (by omega), if_pos rfl, hb]
            · rw [if_neg e]
              show _ = if i < k then badN F0 i else F0.bad i
              by_cases h3 : i < k
              · rw [if_pos (by omega), if_pos h3]
              · rw [if_neg (by omega), if_neg h3]
          · rw [e8]
            show (if i < k + 1 then cntN F0 i else F0.cnt i) = atI (F0.told k).cnt k z i
            unfold atI
            by_cases e : i = k
            · subst e; rw [if_pos (by omega), if_pos rfl, hz]
            · rw [if_neg e]
              show _ = if i < k then cntN F0 i else F0.cnt i
              by_cases h3 : i < k
              · rw [if_pos (by omega), if_pos h3]
              · rw [if_neg (by omega), if_neg h3]
        have tb : (F0.told k).bad k = F0.bad k := by simp [Rf.told]
        have tc : (F0.told k).cnt k = F0.cnt k := by simp [Rf.told]
        have same : ∀ {α : Type} (f : Nat → α), f = atI f k (f k) := fun f => by funext j; unfold atI; by_cases e : j = k <;> simp [e]
        have eb := same (F0.told k).bad
        have ec := same (F0.told k).cnt
        rw [tb] at eb
        rw [tc] at ec
        have eb' : Hid ((F0.told k).bad = atI (F0.told k).bad k (F0.bad k)) := eb
        have ec' : Hid ((F0.told k).cnt = atI (F0.told k).cnt k (F0.cnt k)) := ec
        have hr' : Hid (RefD wr M L (F0.told k) fl fc) := hr
        have hbN : Hid (badN F0 k = (F0.bad k || F0.cnt k == 0)) := rfl
        have hcN : Hid (cntN F0 k = if F0.bad k then F0.cnt k else if 0 < F0.cnt k then F0.cnt k - 1 else F0.cnt k) := rfl
        generalize hbv : F0.bad k = bv at ab eb' hbN hcN
        generalize hzv : F0.cnt k = zv at an ec' hbN hcN hbc
        clear same tb tc eb ec hr hbv hzv A
        cases bv with
        | true =>
          go_wp2_with (fail)
          go_roundw
          case rel => exact ⟨k + 1, by omega, by go_num, step.out true zv (by rw [hbN.out]; rfl) (by rw [hcN.out]; rfl) wr _ hr'.out rfl rfl rfl rfl rfl rfl eb'.out ec'.out, ht⟩
          case measure => simp [RowKit.intOf]; omega
        | false =>
          rcases (by omega : zv = 0 ∨ 0 < zv ∨ zv < 0) with hz | hz | hz
          · subst hz
            go_wp2_with (fail)
            have hr2 := hr'.out.setBad hkn true
            go_roundw
            case rel => exact ⟨k + 1, by omega, by go_num, step.out true 0 (by rw [hbN.out]; rfl) (by rw [hcN.out]; rfl) _ _ hr2 rfl rfl rfl rfl rfl rfl rfl ec'.out, ht.trans ((turn_set wr L.bb k _).mono fun j e => e ▸ L.M_bb)⟩
            case measure => simp [RowKit.intOf]; omega
          · have hz0 : (zv == 0) = false := by simp; omega
            go_wp2_with (fail)
            have hr2 := hr'.out.setCnt hkn (zv - 1) (by omega)
            go_roundw
            case rel => exact ⟨k + 1, by omega, by go_num, step.out false (zv - 1) (by rw [hbN.out, hz0]; rfl) (by rw [hcN.out, if_pos hz]; rfl) _ _ hr2 rfl rfl rfl rfl rfl rfl eb'.out rfl, ht.trans ((turn_set wr L.nb k _).mono fun j e => e ▸ L.M_nb)⟩
            case measure => simp [RowKit.intOf]; omega
          · have hz0 : (zv == 0) = false := by simp; omega
            go_wp2_with (fail)
            go_roundw
            case rel => exact ⟨k + 1, by omega, by go_num, step.out false zv (by rw [hbN.out, hz0]; rfl) (by rw [hcN.out, if_neg (by decide), if_neg (by omega)]) wr _ hr'.out rfl rfl rfl rfl rfl rfl eb'.out ec'.out, ht⟩
            case measure => simp [RowKit.intOf]; omega
      · obtain rfl : k = n := by omega
        have hfin := hend.out wr hr
        clear hend
        go_wp2
        go_ret
        exact ⟨by rw [hret.out]; rfl, hfin, ht⟩

theorem refcall_any (M : Nat → Prop) (L : RLay) (F : Rf) (w : World) (h : RefAt w M L F) :
    Calls Tryz.prog 78 #[.pointer (some ⟨L.p, 0, none⟩)] w (RefPost M L F.call w (.int .i64 F.callE)) := by
  by_cases h0 : F.pw = 0
  · exact refcall_dead M L F w h h0
  · exact refcall_live M L F w h h0

end Go.Proofs.YtacnhlmhibhlhaaGreat

/-
  The reference's calls that have no loop, by contract.
-/
namespace Go.Proofs.YtacnhlmhibhlhaaGreat
open Go.RowKit Go.Maps

/-- A sector's place among all. -/
theorem place {n S i s : Nat} (hi : i < n) (hs : s < S) (hn : n ≤ 17) (hS : S ≤ 4096) : ∃ k N : Nat, Hid (N = n * S) ∧ Hid (k = i * S + s) ∧ k < N ∧ (i : Int) * (S : Int) + (s : Int) = (k : Int) ∧ 0 ≤ (i : Int) * (S : Int) ∧ (i : Int) * (S : Int) ≤ 100000 := by
  have h1 : (i + 1) * S ≤ n * S := Nat.mul_le_mul_right S hi
  have h2 : i * S ≤ 17 * 4096 := Nat.mul_le_mul (by omega) hS
  rw [Nat.succ_mul] at h1
  have h3 : (i : Int) * (S : Int) = ((i * S : Nat) : Int) := by simp
  exact ⟨i * S + s, n * S, rfl, rfl, by omega, by rw [h3]; omega, by rw [h3]; omega, by rw [h3]; omega⟩

def Rf.rd (F : Rf) (k : Nat) : List Int := (F.C k).getD (F.L k)

section
variable (M : Nat → Prop) (L : RLay) (F : Rf) (w : World)
theorem rread_dead (i s : Int) (h : RefAt w M L F) (hd : F.dead = true) :
    Calls Tryz.prog 84 #[.pointer (some ⟨L.p, 0, none⟩), .int .i64 i, .int .i64 s] w fun e w' => e = .returned (.tuple #[.slice none 0 0, .int .i64 12]) ∧ w = w' := by
  obtain ⟨fl, fc, h⟩ := h
  have c7 := h.c7
  rw [hd] at c7
  clear hd
  go_enter Tryz.func84, Tryz.ntmps84
  go_wp2
  go_ret2
  exact ⟨rfl, rfl⟩
theorem rread_bad (i s : Int) (h : RefAt w M L F) (hd : F.dead = false) (hb : hasB F.n F.S i s = false) :
    Calls Tryz.prog 84 #[.pointer (some ⟨L.p, 0, none⟩), .int .i64 i, .int .i64 s] w fun e w' => e = .returned (.tuple #[.slice none 0 0, .int .i64 11]) ∧ w = w' := by
  have ht := there_no M L F w i s h hb
  obtain ⟨fl, fc, h⟩ := h
  have c7 := h.c7
  rw [hd] at c7
  clear hd hb
  go_enter Tryz.func84, Tryz.ntmps84
  go_wp2_with (go_at_call 77; refine ht.mono ?_; rintro e w' ⟨rfl, rfl⟩)
  go_ret2
  exact ⟨rfl, rfl⟩
theorem rread_failed (i s : Nat) (h : RefAt w M L F) (hd : F.dead = false) (hi : i < F.n) (hs : s < F.S) (hb : F.bad i = true) :
    Calls Tryz.prog 84 #[.pointer (some ⟨L.p, 0, none⟩), .int .i64 i, .int .i64 s] w fun e w' => e = .returned (.tuple #[.slice none 0 0, .int .i64 13]) ∧ w = w' := by
  have ht := there_yes M L F w i s h (hasB_yes (by omega) (by omega) (by omega) (by omega))
  obtain ⟨fl, fc, h⟩ := h
  have c7 := h.c7
  have c4 := h.c4
  have b0 := h.cb.cell hi
  rw [hd] at c7
  simp only [hb] at b0
  clear hd hb
  go_enter Tryz.func84, Tryz.ntmps84
  go_wp2_with (go_at_call 77; refine ht.mono ?_; rintro e w' ⟨rfl, rfl⟩)
  go_ret2
  exact ⟨rfl, rfl⟩
theorem rdoom_bad (i n : Int) (h : RefAt w M L F) (hb : ¬ (0 ≤ i ∧ i < F.n)) :
    Calls Tryz.prog 14 #[.pointer (some ⟨L.p, 0, none⟩), .int .i64 i, .int .i64 n] w fun e w' => e = .returned (.int .i64 11) ∧ w = w' := by
  obtain ⟨fl, fc, h⟩ := h
  have c0 := h.c0
  by_cases h0 : i < 0
  · clear hb
    go_enter Tryz.func14, Tryz.ntmps14
    go_wp2
    go_ret
    exact ⟨rfl, rfl⟩
  · have h1 : (F.n : Int) ≤ i := by omega
    clear hb
    go_enter Tryz.func14, Tryz.ntmps14
    go_wp2
    go_ret
    exact ⟨rfl, rfl⟩
theorem rdoom_ok (i : Nat) (n : Int) (h : RefAt w M L F) (hi : i < F.n) (hn : n ≤ 9223372036854775807) :
    Calls Tryz.prog 14 #[.pointer (some ⟨L.p, 0, none⟩), .int .i64 i, .int .i64 n] w (RefPost M L { F with cnt := atI F.cnt i (max n (-1)) } w (.int .i64 0)) := by
  obtain ⟨fl, fc, h⟩ := h
  have c0 := h.c0
  have c5 := h.c5
  have b0 := h.cn.cell hi
  have f0 := h.cn.free i
  go_enter Tryz.func14, Tryz.ntmps14
  go_wp2
  go_ret
  exact ⟨rfl, ⟨fl, fc, h.setCnt hi _ (by omega)⟩, (turn_set w L.nb i _).mono fun k e => e ▸ L.M_nb⟩

def Rf.failed (F : Rf) (i : Int) : Bool := decide (0 ≤ i ∧ i < F.n) && F.bad i.toNat
theorem rfailed (i : Int) (h : RefAt w M L F) :
    Calls Tryz.prog 126 #[.pointer (some ⟨L.p, 0, none⟩), .int .i64 i] w fun e w' => e = .returned (.bool (F.failed i)) ∧ w = w' := by
  obtain ⟨fl, fc, h⟩ := h
  have c0 := h.c0
  have c4 := h.c4
  by_cases h0 : 0 ≤ i
  · by_cases h1 : i < F.n
    · obtain ⟨m, rfl⟩ := Int.eq_ofNat_of_zero_le h0
      have hm : m < F.n := by omega
      have b0 := h.cb.cell hm
      have e : Hid (F.failed m = F.bad m) := by
        unfold Rf.failed Hid
        simp [hm]
      go_enter Tryz.func126, Tryz.ntmps126
      go_wp2
      go_ret
      exact ⟨ret_bool e.out.symm, rfl⟩
    · have e : Hid (F.failed i = false) := by unfold Rf.failed Hid; rw [decide_eq_false (by omega)]; rfl
      go_enter Tryz.func126, Tryz.ntmps126
      go_wp2
      go_ret
      exact ⟨ret_bool e.out.symm, rfl⟩
  · have e : Hid (F.failed i = false) := by unfold Rf.failed Hid; rw [decide_eq_false (by omega)]; rfl
    go_enter Tryz.func126, Tryz.ntmps126
    go_wp2
    go_ret
    exact ⟨ret_bool e.out.symm, rfl⟩
end

end Go.Proofs.YtacnhlmhibhlhaaGreat

/-
  The reference's Write, by contract.
-/
namespace Go.Proofs.YtacnhlmhibhlhaaGreat
open Go.RowKit Go.Maps

theorem Rf.call_n (F : Rf) : F.call.n = F.n := by unfold Rf.call; split <;> rfl
theorem Rf.call_S (F : Rf) : F.call.S = F.S := by unfold Rf.call; split <;> rfl

section
variable (M : Nat → Prop) (L : RLay) (F : Rf) (w : World)
end

end Go.Proofs.YtacnhlmhibhlhaaGreat

/-
  The reference's Flush, by contract.
-/
namespace Go.Proofs.YtacnhlmhibhlhaaGreat
open Go.RowKit Go.Maps

section
variable (M : Nat → Prop) (L : RLay) (F : Rf) (w : World)
theorem rflush_dead (i : Int) (h : RefAt w M L F) (hd : F.dead = true) :
    Calls Tryz.prog 39 #[.pointer (some ⟨L.p, 0, none⟩), .int .i64 i] w fun e w' => e = .returned (.int .i64 12) ∧ w = w' := by
  obtain ⟨fl, fc, h⟩ := h
  have c7 := h.c7
  rw [hd] at c7
  clear hd
  go_enter Tryz.func39, Tryz.ntmps39
  go_wp2
  go_ret
  exact ⟨rfl, rfl⟩
theorem rflush_bad (i : Int) (h : RefAt w M L F) (hd : F.dead = false) (hb : ¬ (0 ≤ i ∧ i < F.n)) :
    Calls Tryz.prog 39 #[.pointer (some ⟨L.p, 0, none⟩), .int .i64 i] w fun e w' => e = .returned (.int .i64 11) ∧ w = w' := by
  have ht := there_no M L F w i 0 h (hasB_disk hb)
  obtain ⟨fl, fc, h⟩ := h
  have c7 := h.c7
  rw [hd] at c7
  clear hd hb
  go_enter Tryz.func39, Tryz.ntmps39
  go_wp2_with (go_at_call 77; refine ht.mono ?_; rintro e w' ⟨rfl, rfl⟩)
  go_ret
  exact ⟨rfl, rfl⟩
theorem there_zero (i : Nat) (h : RefAt w M L F) (hi : i < F.n) :
    Calls Tryz.prog 77 #[.pointer (some ⟨L.p, 0, none⟩), .int .i64 i, .int .i64 0] w fun e w' => e = .returned (.bool true) ∧ w = w' := by
  have : 1 ≤ F.S := by obtain ⟨_, _, h⟩ := h; exact h.one
  exact there_yes M L F w i 0 h (hasB_yes (by omega) (by omega) (by omega) (by omega))
theorem rflush_err (i : Nat) (h : RefAt w M L F) (hd : F.dead = false) (hi : i < F.n) (hE : F.callE ≠ 0) :
    Calls Tryz.prog 39 #[.pointer (some ⟨L.p, 0, none⟩), .int .i64 i] w (RefPost M L F.call w (.int .i64 F.callE)) := by
  have ht := there_zero M L F w i h hi
  have hcall := refcall_any M L F w h
  obtain ⟨fl, fc, h⟩ := h
  have c7 := h.c7
  rw [hd] at c7
  have hne : (F.callE != 0) = true := by simpa using hE
  clear hd hE
  go_enter Tryz.func39, Tryz.ntmps39
  go_wp2_with (first
    | (go_at_call 77; refine ht.mono ?_; rintro e w' ⟨rfl, rfl⟩)
    | (go_at_call 78; refine hcall.mono ?_; rintro e w' ⟨rfl, hr, ht⟩))
  go_ret
  exact ⟨rfl, hr, ht⟩
theorem rflush_failed (i : Nat) (h : RefAt w M L F) (hd : F.dead = false) (hi : i < F.n) (hE : F.callE = 0) (hb : F.call.bad i = true) :
    Calls Tryz.prog 39 #[.pointer (some ⟨L.p, 0, none⟩), .int .i64 i] w (RefPost M L F.call w (.int .i64 13)) := by
  have ht := there_zero M L F w i h hi
  have hcall := refcall_any M L F w h
  rw [hE] at hcall
  obtain ⟨n, hn⟩ : ∃ n, Hid (n = F.n) := ⟨_, Lib.hid rfl⟩
  have hin : i < n := by rw [hn.out]; exact hi
  obtain ⟨fl, fc, h⟩ := h
  have c7 := h.c7
  rw [hd] at c7
  have hb' : Hid (F.call.bad i = true) := hb
  clear hd hE hb
  go_enter Tryz.func39, Tryz.ntmps39
  go_wp2_with (go_at_call 77; refine ht.mono ?_; rintro e w' ⟨rfl, rfl⟩)
  refine hcall.mono ?_
  rintro e w1 ⟨rfl, ⟨fl1, fc1, hr⟩, ht1⟩
  have c4 := hr.c4
  rw [Rf.call_n, ← hn.out] at c4
  have b0 := hr.cb.cell (k := i) (by rw [Rf.call_n]; exact hi)
  simp only [hb'.out] at b0
  go_wp2_with (fail)
  go_ret
  exact ⟨rfl, ⟨fl1, fc1, hr⟩, ht1⟩

/-- The reference's rack of which what was cached from place a to place k lasts. -/
def Rf.flushed (F : Rf) (a k : Nat) : Rf := { F with L := fun j => if a ≤ j ∧ j < k then F.rd j else F.L j, C := fun j => if a ≤ j ∧ j < k then none else F.C j }
theorem flushed_start (a : Nat) : F.flushed a a = F := by
  have : ∀ j, ¬ (a ≤ j ∧ j < a) := fun j => by omega
  unfold Rf.flushed
  simp [this]
theorem flushed_L {a k : Nat} (h : a ≤ k) : (F.flushed a (k + 1)).L = atI (F.flushed a k).L k (F.rd k) := by
  funext j
  show (if a ≤ j ∧ j < k + 1 then F.rd j else F.L j) = if j = k then F.rd k else if a ≤ j ∧ j < k then F.rd j else F.L j
  by_cases e : j = k
  · subst e; rw [if_pos (by omega), if_pos rfl]
  · rw [if_neg e]
    by_cases e2 : a ≤ j ∧ j < k
    · rw [if_pos (by omega), if_pos e2]
    · rw [if_neg (by omega), if_neg e2]
theorem flushed_C {a k : Nat} (h : a ≤ k) : (F.flushed a (k + 1)).C = atI (F.flushed a k).C k none := by
  funext j
  show (if a ≤ j ∧ j < k + 1 then none else F.C j) = if j = k then none else if a ≤ j ∧ j < k then none else F.C j
  by_cases e : j = k
  · subst e; rw [if_pos (by omega), if_pos rfl]
  · rw [if_neg e]
    by_cases e2 : a ≤ j ∧ j < k
    · rw [if_pos (by omega), if_pos e2]
    · rw [if_neg (by omega), if_neg e2]

set_option maxRecDepth 100000 in
set_option maxHeartbeats 2000000 in
theorem rflush_ok (i : Nat) (h : RefAt w M L F) (hd : F.dead = false) (hi : i < F.n) (hE : F.callE = 0) (hb : F.call.bad i = false) :
    Calls Tryz.prog 39 #[.pointer (some ⟨L.p, 0, none⟩), .int .i64 i] w (RefPost M L (F.call.flushed (i * F.S) ((i + 1) * F.S)) w (.int .i64 0)) := by
  have ht := there_zero M L F w i h hi
  have hcall := refcall_any M L F w h
  rw [hE] at hcall
  obtain ⟨n, hn⟩ : ∃ n, Hid (n = F.n) := ⟨_, Lib.hid rfl⟩
  obtain ⟨S, hS⟩ : ∃ S, Hid (S = F.S) := ⟨_, Lib.hid rfl⟩
  obtain ⟨N, hN⟩ : ∃ N, Hid (N = F.n * F.S) := ⟨_, Lib.hid rfl⟩
  obtain ⟨B, hB⟩ : ∃ B, Hid (B = i * F.S) := ⟨_, Lib.hid rfl⟩
  obtain ⟨E, hEE⟩ : ∃ E, Hid (E = (i + 1) * F.S) := ⟨_, Lib.hid rfl⟩
  have hin : i < n := by rw [hn.out]; exact hi
  obtain ⟨fl, fc, h⟩ := h
  have few := h.few
  have fewS := h.fewS
  have hEN : E ≤ N := by rw [hN.out, hEE.out]; exact Nat.mul_le_mul_right F.S hi
  have hBE : B ≤ E := by rw [hB.out, hEE.out]; exact Nat.mul_le_mul_right F.S (by omega)
  have hN1 : N ≤ 100000 := by
    have : F.n * F.S ≤ 17 * 4096 := Nat.mul_le_mul few fewS
    rw [hN.out]; omega
  have eB : (i : Int) * (S : Int) = (B : Int) := by rw [hB.out, hS.out]; simp
  have eE : ((i : Int) + 1) * (S : Int) = (E : Int) := by rw [hEE.out, hS.out]; simp
  have c7 := h.c7
  rw [hd] at c7
  have hb' : Hid (F.call.bad i = false) := hb
  rw [← hB.out, ← hEE.out]
  clear hd hE hb
  go_enter Tryz.func39, Tryz.ntmps39
  go_wp2_with (go_at_call 77; refine ht.mono ?_; rintro e w' ⟨rfl, rfl⟩)
  refine hcall.mono ?_
  rintro e w1 ⟨rfl, hr0, ht1⟩
  obtain ⟨F1, hF1⟩ : ∃ F1, Hid (F1 = F.call) := ⟨_, Lib.hid rfl⟩
  have hn1 : Hid (F1.n = n) := by unfold Hid; rw [hF1.out, Rf.call_n]; exact hn.out.symm
  have hS1 : Hid (F1.S = S) := by unfold Hid; rw [hF1.out, Rf.call_S]; exact hS.out.symm
  have hNN : Hid (F1.n * F1.S = N) := by unfold Hid; rw [hF1.out, Rf.call_n, Rf.call_S]; exact hN.out.symm
  rw [← hF1.out] at hr0
  obtain ⟨fl1, fc1, hr⟩ := hr0
  have c4 := hr.c4
  have c1 := hr.c1
  rw [hn1.out] at c4
  rw [hS1.out] at c1
  have b0 := hr.cb.cell (k := i) (by rw [hn1.out]; exact hin)
  simp only [hF1.out, hb'.out] at b0
  clear h hcall ht
  go_wp2_with (fail)
  go_loopw [6] (fun t wr => ∃ (k : Nat), B ≤ k ∧ k ≤ E ∧ t = .int .i64 k ∧ RefAt wr M L (F1.flushed B k) ∧ Turn L.M w wr) (fun t _ => E - (RowKit.intOf t).toNat)
  case atStart => exact ⟨B, Nat.le_refl _, hBE, rfl, by rw [flushed_start]; exact ⟨fl1, fc1, hr⟩, ht1⟩
  case round =>
    obtain ⟨k, hBk, hkE, rfl, ⟨fl2, fc2, hr2⟩, ht2⟩ := hrel
    have a1 : wr.cell? ⟨L.p, 1, none⟩ = some (.int .i64 S) := by have := hr2.c1; rwa [show (F1.flushed B k).S = S from hS1.out] at this
    have a2 : wr.cell? ⟨L.p, 2, none⟩ = some (.slice (some ⟨L.lb, 0, none⟩) N L.k1) := by have := hr2.c2; rwa [show (F1.flushed B k).n * (F1.flushed B k).S = N from hNN.out] at this
    have a3 : wr.cell? ⟨L.p, 3, none⟩ = some (.slice (some ⟨L.cb, 0, none⟩) N L.k2) := by have := hr2.c3; rwa [show (F1.flushed B k).n * (F1.flushed B k).S = N from hNN.out] at this
    clear c1 c4 b0 c7 hr ht1
    by_cases hlt : k < E
    · have hkN : k < (F1.flushed B k).n * (F1.flushed B k).S := by rw [show (F1.flushed B k).n * (F1.flushed B k).S = N from hNN.out]; omega
      have l0 := hr2.cl.cell hkN
      have q0 := hr2.cc.cell hkN
      have fl0 := hr2.cl.free k
      have fq0 := hr2.cc.free k
      have A := hr2.apart
      have n1 := A.pl
      have n2 := Ne.symm A.pl
      have n3 := A.lc
      have n4 := Ne.symm A.lc
      have i0 : (0 : Int) ≤ (k : Int) := Int.natCast_nonneg _
      have i1 : (k : Int) < (N : Int) := by omega
      have hC := hr2.cach k hkN
      have eC : (F1.flushed B k).C k = F1.C k := by show (if B ≤ k ∧ k < k then none else F1.C k) = _; rw [if_neg (by omega)]
      have eL : (F1.flushed B k).L k = F1.L k := by show (if B ≤ k ∧ k < k then F1.rd k else F1.L k) = _; rw [if_neg (by omega)]
      rw [eC] at hC
      obtain ⟨vl, hvl⟩ : ∃ v, Hid (v = fl2 k) := ⟨_, Lib.hid rfl⟩
      rw [← hvl.out] at l0
      rcases hC with ⟨e0, e1⟩ | ⟨zs, e0, hsl⟩
      · rw [e1] at q0
        have hnext : Hid (RefD wr M L (F1.flushed B (k + 1)) fl2 fc2) := by
          refine hr2.congr rfl rfl rfl rfl (fun j _ => ?_) (fun j _ => ?_) (fun _ _ => rfl) (fun _ _ => rfl) hr2.bigc
          · rw [flushed_L F1 hBk]; unfold atI
            by_cases e : j = k
            · subst e; rw [if_pos rfl, eL]; simp [Rf.rd, e0]
            · rw [if_neg e]
          · rw [flushed_C F1 hBk]; unfold atI
            by_cases e : j = k
            · subst e; rw [if_pos rfl, eC, e0]
            · rw [if_neg e]
        clear hr2 e0 e1 eC eL A hvl
        go_wp2_with (fail)
        go_roundw
        case rel => exact ⟨k + 1, by omega, by omega, by go_num, ⟨fl2, fc2, hnext.out⟩, ht2⟩
        case measure => simp [RowKit.intOf]; omega
      · obtain ⟨g, c, e1, hg, hy⟩ := hsl
        rw [e1] at q0
        have hd2 : RefD wr.drew M L (F1.flushed B k) fl2 fc2 := hr2.keep (turn_drew (fun _ => False) wr) (fun _ x => x.elim) (fun _ _ x => x)
        have h1 := hd2.setL hkN (.slice (some ⟨g, 0, none⟩) 64 c) zs ⟨g, c, rfl, hg, ⟨hy.len, hy.small, hy.place⟩⟩
        have h2 := h1.setC hkN (.slice none 0 0) none (.inl ⟨rfl, rfl⟩)
        have hnext : Hid (RefAt ((wr.drew.setCell ⟨L.lb, k, none⟩ (.slice (some ⟨g, 0, none⟩) 64 c)).setCell ⟨L.cb, k, none⟩ (.slice none 0 0)) M L (F1.flushed B (k + 1))) := by
          refine ⟨_, _, h2.congr rfl rfl rfl rfl (fun j _ => ?_) (fun j _ => ?_) (fun _ _ => rfl) (fun _ _ => rfl) hr2.bigc⟩
          · rw [flushed_L F1 hBk, show F1.rd k = zs by simp [Rf.rd, e0]]
          · rw [flushed_C F1 hBk]
        have hT : Hid (Turn L.M w ((wr.drew.setCell ⟨L.lb, k, none⟩ (.slice (some ⟨g, 0, none⟩) 64 c)).setCell ⟨L.cb, k, none⟩ (.slice none 0 0))) :=
          ((ht2.trans (turn_drew _ wr)).trans ((turn_set _ L.lb k _).mono fun j e => e ▸ L.M_lb)).trans ((turn_set _ L.cb k _).mono fun j e => e ▸ L.M_cb)
        clear hr2 hd2 h1 h2 e0 e1 eC eL A hvl hy
        go_wp2_with (fail)
        go_still_tail 13, (by kernel_rfl)
        change wpList _ _ _ _ _ wr.drew
        go_wp2_with (fail)
        go_roundw
        case rel => exact ⟨k + 1, by omega, by omega, by go_num, hnext.out, hT.out⟩
        case measure => simp [RowKit.intOf]; omega
    · obtain rfl : k = E := by omega
      go_wp2_with (fail)
      go_ret
      rw [hF1.out] at hr2
      exact ⟨rfl, ⟨fl2, fc2, hr2⟩, ht2⟩
end

end Go.Proofs.YtacnhlmhibhlhaaGreat

/-
  The reference's Load, by contract.
-/
namespace Go.Proofs.YtacnhlmhibhlhaaGreat
open Go.RowKit Go.Maps

theorem bys_turn' {M : Nat → Prop} {w w' : World} {a : Option Addr} {n : Nat} {zs : List Int} (h : Bys w a n zs) (ht : Turn M w w') (hm : n = 0 ∨ ∀ b off, a = some ⟨b, off, .none⟩ → ¬ M b) : Bys w' a n zs := by
  rcases hm with rfl | hm
  · exact ⟨h.len, h.small, .inl rfl⟩
  · exact bys_turn h ht hm

/-- The reference's rack of which k sectors from place B on are loaded. -/
def Rf.loaded (F : Rf) (B : Nat) (x : List Int) (k : Nat) : Rf := { F with L := fun j => if B ≤ j ∧ j < B + k then sec x (j - B) else F.L j, C := fun j => if B ≤ j ∧ j < B + k then none else F.C j }
section
variable (F : Rf)
theorem loaded_start (B : Nat) (x : List Int) : F.loaded B x 0 = F := by
  have : ∀ j, ¬ (B ≤ j ∧ j < B + 0) := fun j => by omega
  unfold Rf.loaded
  simp only [this, if_false]
theorem loaded_L (B : Nat) (x : List Int) (k : Nat) : (F.loaded B x (k + 1)).L = atI (F.loaded B x k).L (B + k) (sec x k) := by
  funext j
  show (if B ≤ j ∧ j < B + (k + 1) then sec x (j - B) else F.L j) = if j = B + k then sec x k else if B ≤ j ∧ j < B + k then sec x (j - B) else F.L j
  by_cases e : j = B + k
  · subst e; rw [if_pos (by omega), if_pos rfl, show B + k - B = k by omega]
  · rw [if_neg e]
    by_cases e2 : B ≤ j ∧ j < B + k
    · rw [if_pos (by omega), if_pos e2]
    · rw [if_neg (by omega), if_neg e2]
theorem loaded_C (B : Nat) (x : List Int) (k : Nat) : (F.loaded B x (k + 1)).C = atI (F.loaded B x k).C (B + k) none := by
  funext j
  show (if B ≤ j ∧ j < B + (k + 1) then none else F.C j) = if j = B + k then none else if B ≤ j ∧ j < B + k then none else F.C j
  by_cases e : j = B + k
  · subst e; rw [if_pos (by omega), if_pos rfl]
  · rw [if_neg e]
    by_cases e2 : B ≤ j ∧ j < B + k
    · rw [if_pos (by omega), if_pos e2]
    · rw [if_neg (by omega), if_neg e2]
end

end Go.Proofs.YtacnhlmhibhlhaaGreat
