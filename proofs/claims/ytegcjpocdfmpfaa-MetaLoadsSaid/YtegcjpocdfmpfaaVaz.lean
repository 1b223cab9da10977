/-
  The statements' first line: a root alone, as facts.
-/
import Derived.Test.YtegcjpocdfmpfaaVaw
import Derived.Test.YtegcjpocdfmpfaaVay
import Derived.Test.YtegcjpocdfmpfaaVak
import Derived.Test.YtegcjpocdfmpfaaVar
import Derived.Deep.AppendLies
import Derived.Test.YtegcjpocdfmpfaaVag
set_option linter.unusedVariables false
set_option linter.unusedSimpArgs false
set_option maxRecDepth 100000
set_option maxHeartbeats 16000000
namespace Go.Proofs.Ytegcjpocdfmpfaa
open Go.RowKit

def alA : List Int := [3, 4, 5, 9]
def alL : List Bk := layB (num alA) (ndF' fun _ => rootN) 1
theorem alL_len : alL.length = 4 := by kernel_rfl
theorem al_cnt : cntO 3 3 12 (fun _ => rootN) 1 = 4 := by kernel_rfl
theorem al_bld : bldO 3 3 12 (fun _ => rootN) 1 alA = true := by kernel_rfl
def alB (q : Int) : Option (List Int) := blkF alA (fun i => ⟨none, 0, 0, (alL.getD i default).z⟩) q
theorem al_z : ((List.range 4).all fun j => decide ((alL.getD j default).z.length = 56)) = true := by kernel_rfl
theorem al_ld : ldR (adO 3 3 12) alB 9 = .ok ([rootN.nd], [9, 4, 5, 3]) := by kernel_rfl

abbrev pcV (p : Pc) : Value := .slice p.a p.n p.c
theorem infoS : (Try.prog.info? 50).map (fun i => (i.zero, i.size, i.bytes)) = some (some (.slice none 0 0), 1, 24) := by kernel_rfl
structure StG (w : World) (B g : Nat) (vA vD : Value) (ks : List Int) (ps : List Pc) : Prop where
  row : w.heap[g]? = some (.cells #[vA, vD] 43 (0, 0))
  lo : B ≤ g
  oa : OwnI w B vA ks.length ks
  od : w.ownsRow B 50 1 vD ps.length (ps.map pcV)
  na : vA.ownBlock ≠ some g
  nd : vD.ownBlock ≠ some g
  ne : ∀ j, vA.ownBlock = some j → vD.ownBlock ≠ some j
section
variable {w w' : World} {B g : Nat} {vA vD : Value} {ks : List Int} {ps : List Pc}
theorem StG.next (h : StG w B g vA vD ks ps) (hb : Below w.heap.size w w') : StG w' B g vA vD ks ps :=
  ⟨(hb.block g (lt_of_block h.row)).trans h.row, h.lo, h.oa.next hb, h.od.kept (row := none) ⟨hb.os, hb.tape, hb.output, hb.size, fun k hk _ => hb.block k hk⟩ (by cases vD.ownBlock <;> simp), h.na, h.nd, h.ne⟩
theorem StG.cells (h : StG w B g vA vD ks ps) : g < w.heap.size ∧ w.cell? ⟨g, 0, none⟩ = some vA ∧ w.cell? ⟨g, 1, none⟩ = some vD ∧ w.frozen? ⟨g, 0, none⟩ = false ∧ w.frozen? ⟨g, 1, none⟩ = false :=
  ⟨lt_of_block h.row, cell_of_row w g 0 _ _ (0, 0) h.row, cell_of_row w g 1 _ _ (0, 0) h.row, frozen_of_row w g 0 _ _ h.row, frozen_of_row w g 1 _ _ h.row⟩
theorem stG_new (w : World) (B : Nat) (hB : B ≤ w.heap.size) : StG (w.alloc (.cells #[.slice none 0 0, .slice none 0 0] 43 (0, 0))) B w.heap.size (.slice none 0 0) (.slice none 0 0) [] [] :=
  ⟨heap_alloc_new w _, hB, ownI_nil _ _, World.ownsRow_nil _ _ _ _, by simp [Value.ownBlock], by simp [Value.ownBlock], by simp [Value.ownBlock]⟩
theorem StG.addA (h : StG w B g vA vD ks ps) {v' : Value} {z : Int} (ho : w'.ownsRow B 3 1 v' (ks.length + 1) (ks.map (Value.int .i64) ++ [.int .i64 z])) (hg : w.grownBy w' vA.ownBlock) {g1 : Nat} (hv : v'.ownBlock = some g1) (h1 : vA.ownBlock = some g1 ∨ g1 = w.heap.size) :
    StG (w'.setCell ⟨g, 0, none⟩ v') B g v' vD (ks ++ [z]) ps := by
  have hgl := lt_of_block h.row
  have hr : w'.heap[g]? = some (.cells #[vA, vD] 43 (0, 0)) := (hg.block g hgl fun e => h.na e.symm).trans h.row
  have hn1 : v'.ownBlock ≠ some g := by
    rw [hv]
    intro e
    cases e
    rcases h1 with e | e
    · exact h.na e
    · omega
  have hne2 : ∀ j, v'.ownBlock = some j → vD.ownBlock ≠ some j := by
    intro j e e2
    rw [hv] at e
    cases e
    rcases h1 with e | e
    · exact h.ne _ e e2
    · have := (World.ownsRow.lt h.od _ e2).2
      omega
  refine ⟨?_, h.lo, ?_, ?_, hn1, h.nd, hne2⟩
  · rw [heap_setCell_same w' g 0 _ _ _ hr]; rfl
  · have ho2 : OwnI w' B v' (ks ++ [z]).length (ks ++ [z]) := by
      unfold OwnI
      rw [List.map_append, List.length_append]
      exact ho
    exact ho2.turn (M := (· = g)) (Turn.setCell (M := fun j => j = _) w' (a := ⟨_, 0, none⟩) rfl _) fun j e hj => hn1 (by rw [← hj]; exact e)
  · exact ownsRow_setCell_other (h.od.kept hg (by
      rcases hd : vD.ownBlock with _ | k
      · exact .inl rfl
      · exact .inr fun e => h.ne k e.symm hd)) (by exact h.nd) _
theorem StG.addD (h : StG w B g vA vD ks ps) {v' : Value} {p : Pc} (ho : w'.ownsRow B 50 1 v' (ps.length + 1) (ps.map pcV ++ [pcV p])) (hg : w.grownBy w' vD.ownBlock) {g1 : Nat} (hv : v'.ownBlock = some g1) (h1 : vD.ownBlock = some g1 ∨ g1 = w.heap.size) :
    StG (w'.setCell ⟨g, 1, none⟩ v') B g vA v' ks (ps ++ [p]) := by
  have hgl := lt_of_block h.row
  have hr : w'.heap[g]? = some (.cells #[vA, vD] 43 (0, 0)) := (hg.block g hgl fun e => h.nd e.symm).trans h.row
  have hn1 : v'.ownBlock ≠ some g := by
    rw [hv]
    intro e
    cases e
    rcases h1 with e | e
    · exact h.nd e
    · omega
  have hne2 : ∀ j, vA.ownBlock = some j → v'.ownBlock ≠ some j := by
    intro j e e2
    rw [hv] at e2
    cases e2
    rcases h1 with e3 | e3
    · exact h.ne _ e e3
    · have := (World.ownsRow.lt h.oa _ e).2
      omega
  refine ⟨?_, h.lo, ?_, ?_, h.na, hn1, hne2⟩
  · rw [heap_setCell_same w' g 1 _ _ _ hr]; rfl
  · exact (h.oa.turn (Turn.of_grown (M := fun j => vD.ownBlock = some j) hg (fun b e => e)) fun j e e2 => h.ne j e e2).turn (M := (· = g)) (Turn.setCell (M := fun j => j = _) w' (a := ⟨_, 1, none⟩) rfl _) fun j e hj => h.na (by rw [← hj]; exact e)
  · refine ownsRow_setCell_other ?_ (by exact hn1) _
    rw [List.map_append, List.length_append]
    exact ho
/-- What is filled is a store. -/
theorem StG.sto (h : StG w B g vA vD ks ps) (he : ∀ p, p ∈ ps → Pin w p.a p.n p.c p.zs ∧ p.n ≤ 1000000000000) (hl : ks.length = ps.length) (hm : ks.length ≤ 1000000) :
    ∃ A cA Dt cD, Sto w g A ks.length cA Dt ps.length cD ks (fun i => ps.getD i default) := by
  obtain ⟨a, c, rfl, hi, _⟩ := h.oa.ins
  obtain ⟨h1, h2, h3, _⟩ := h.cells
  have hget : ∀ i, i < ps.length → ps.getD i default ∈ ps := fun i hi => by
    rw [show ps.getD i default = ps[i] by simp [List.getD, hi]]; exact List.getElem_mem hi
  rcases h.od.2 with ⟨rfl, h0⟩ | ⟨b, cap, cur, rfl, hb, hg, hnc, hmx, hsz, htake⟩
  · refine ⟨a, c, none, 0, h1, h2, ?_, hi, ⟨.inl h0, fun i hi => (he _ (hget i hi)).1⟩, by omega, hm, fun i hi => (he _ (hget i (by omega))).2⟩
    rw [h3, h0]
  · refine ⟨a, c, some ⟨b, 0, none⟩, cap, h1, h2, h3, hi, ⟨.inr ⟨b, 0, rfl, lt_of_block hg, fun i hi => ?_⟩, fun i hi => (he _ (hget i hi)).1⟩, by omega, hm, fun i hi => (he _ (hget i (by omega))).2⟩
    have := h.od.cellAt i (by omega)
    rw [Nat.zero_add, this]
    simp [List.getElem?_map, List.getElem?_eq_getElem hi, List.getD, hi]
theorem own2 {o1 o2 : Obj} {v : Value} {n : Nat} {xs : List Value} {e : TypeId} (h : w.ownsRow B e 1 v n xs) : ((w.alloc o1).alloc o2).drew.ownsRow B e 1 v n xs := ((h.alloc o1).alloc o2).drew
theorem own1 {o1 : Obj} {v : Value} {n : Nat} {xs : List Value} {e : TypeId} (h : w.ownsRow B e 1 v n xs) : (w.alloc o1).drew.ownsRow B e 1 v n xs := (h.alloc o1).drew
theorem new2 (w : World) (o1 : Obj) (u : Value) (t : TypeId) : ∀ j x, [u][j]? = some x → ((w.alloc o1).alloc (.cells #[u] t (0, 0))).drew.cell? ((⟨w.heap.size + 1, 0, none⟩ : Addr).add j) = some x :=
  World.news_of_block (cs := #[u]) (t := t) (by have := heap_alloc_new (w.alloc o1) (.cells #[u] t (0, 0)); rw [show (w.alloc o1).heap.size = w.heap.size + 1 from by simp] at this; exact this)
theorem new1 (w : World) (u : Value) (t : TypeId) : ∀ j x, [u][j]? = some x → (w.alloc (.cells #[u] t (0, 0))).drew.cell? ((⟨w.heap.size, 0, none⟩ : Addr).add j) = some x :=
  World.news_of_block (cs := #[u]) (t := t) (heap_alloc_new w (.cells #[u] t (0, 0)))
theorem bl2 (w : World) (o1 o2 : Obj) : Below w.heap.size w ((w.alloc o1).alloc o2).drew := below_drewN (((Below.refl _ _).alloc (Nat.le_refl _) o1).alloc (by simp) o2) 1
theorem bl1 (w : World) (o1 : Obj) : Below w.heap.size w (w.alloc o1).drew := below_drewN ((Below.refl _ _).alloc (Nat.le_refl _) o1) 1
theorem StG.far (h : StG w B g vA vD ks ps) {wx : World} (hb : Below w.heap.size w wx) {row : Option Nat} (hg : wx.grownBy w' row) (hr : row ≠ some g) :
    g < w'.heap.size ∧ w'.cell? ⟨g, 0, none⟩ = some vA ∧ w'.cell? ⟨g, 1, none⟩ = some vD ∧ w'.frozen? ⟨g, 0, none⟩ = false ∧ w'.frozen? ⟨g, 1, none⟩ = false := by
  have h2 := h.next hb
  have hr : w'.heap[g]? = _ := (hg.block g (lt_of_block h2.row) fun e => hr e.symm).trans h2.row
  exact ⟨lt_of_block hr, cell_of_row _ _ 0 _ _ (0, 0) hr, cell_of_row _ _ 1 _ _ (0, 0) hr, frozen_of_row _ _ 0 _ _ hr, frozen_of_row _ _ 1 _ _ hr⟩
theorem StG.putA (h : StG w B g vA vD ks ps) {w0 wx : World} (hb0 : Below B w0 w) (hB : B ≤ w.heap.size) (hx : Below w.heap.size w wx) {z : Int} {n cap g1 H : Nat} (hn : ks.length = n) (ho : w'.ownsRow B 3 1 (.slice (some ⟨g1, 0, none⟩) (n + 1) cap) (n + 1) (ks.map (Value.int .i64) ++ [.int .i64 z])) (hg : wx.grownBy w' vA.ownBlock) (h1 : vA.ownBlock = some g1 ∨ g1 = H) (hH : wx.heap.size = H) :
    StG (w'.setCell ⟨g, 0, none⟩ (.slice (some ⟨g1, 0, none⟩) (n + 1) cap)) B g (.slice (some ⟨g1, 0, none⟩) (n + 1) cap) vD (ks ++ [z]) ps ∧ Below B w0 (w'.setCell ⟨g, 0, none⟩ (.slice (some ⟨g1, 0, none⟩) (n + 1) cap)) := by
  have h2 := h.next hx
  have hb : Below B w0 wx := hb0.trans (hx.mono hB)
  refine ⟨h2.addA (by rw [hn]; exact ho) hg rfl (by rw [hH]; exact h1), Below.setCell (hb.grown hg (Nat.le_trans hB hx.size) fun k e => (World.ownsRow.lt h2.oa k e).1) h.lo _⟩
theorem StG.putD (h : StG w B g vA vD ks ps) {w0 wx : World} (hb0 : Below B w0 w) (hB : B ≤ w.heap.size) (hx : Below w.heap.size w wx) {p : Pc} {n cap g1 H : Nat} (hn : ps.length = n) (ho : w'.ownsRow B 50 1 (.slice (some ⟨g1, 0, none⟩) (n + 1) cap) (n + 1) (ps.map pcV ++ [pcV p])) (hg : wx.grownBy w' vD.ownBlock) (h1 : vD.ownBlock = some g1 ∨ g1 = H) (hH : wx.heap.size = H) :
    StG (w'.setCell ⟨g, 1, none⟩ (.slice (some ⟨g1, 0, none⟩) (n + 1) cap)) B g vA (.slice (some ⟨g1, 0, none⟩) (n + 1) cap) ks (ps ++ [p]) ∧ Below B w0 (w'.setCell ⟨g, 1, none⟩ (.slice (some ⟨g1, 0, none⟩) (n + 1) cap)) := by
  have h2 := h.next hx
  have hb : Below B w0 wx := hb0.trans (hx.mono hB)
  refine ⟨h2.addD (by rw [hn]; exact ho) hg rfl (by rw [hH]; exact h1), Below.setCell (hb.grown hg (Nat.le_trans hB hx.size) fun k e => (World.ownsRow.lt h2.od k e).1) h.lo _⟩
theorem blkF_same {ks : List Int} {f h : Nat → Pc} {q : Int} (he : ∀ j, j < ks.length → (f j).zs = (h j).zs) : blkF ks f q = blkF ks h q := by
  unfold blkF
  cases e : (List.range ks.length).find? fun i => num ks i == q with
  | none => rfl
  | some i =>
    have := List.mem_range.1 (List.mem_of_find?_eq_some e)
    simp [he i this]
end

theorem sameList_yes (a b : Option Addr) (n c d : Nat) (f g : Nat → Nw) (w : World) (h1 : NwsAt w a n f) (h2 : NwsAt w b n g) (hn : n ≤ 1000000) (he : ∀ i, i < n → (f i).nd = (g i).nd ∧ (f i).n ≤ 1000000000000) :
    Calls Try.prog 22 #[.slice a n c, .slice b n d] w fun e w' => e = .returned (.bool true) ∧ Below w.heap.size w w' := by
  have H1 := Lib.hid h1
  have H2 := Lib.hid h2
  have HE := Lib.hid he
  clear h1 h2 he
  go_enter Try.func22, Try.ntmps22
  go_wp2_with (fail)
  go_loopw [5] (fun v wr => ∃ i : Nat, i ≤ n ∧ v = .int .i64 i ∧ Below w.heap.size w wr) (fun v _ => n - (RowKit.intOf v).toNat)
  case atStart => exact ⟨0, by omega, rfl, Below.refl _ _⟩
  case round =>
    obtain ⟨i, hi, rfl, hb⟩ := hrel
    have HB := Lib.hid hb
    clear hb
    by_cases hlt : i < n
    · rcases H1.out.next HB.out with h0 | ⟨b1, o1, rfl, l1, r1⟩
      · omega
      rcases H2.out.next HB.out with h0 | ⟨b2, o2, rfl, l2, r2⟩
      · omega
      have hx := r1 i hlt
      have hy := r2 i hlt
      obtain ⟨hnd, hmx⟩ := HE.out i hlt
      obtain ⟨x, hxe⟩ : ∃ x, x = f i := ⟨_, rfl⟩
      obtain ⟨y, hye⟩ : ∃ y, y = g i := ⟨_, rfl⟩
      rw [← hxe] at hx hnd hmx
      rw [← hye] at hy hnd
      clear hxe hye r1 r2
      have k0 : (0 : Int) ≤ (i : Int) := by omega
      have k1 : (i : Int) < (n : Int) := by omega
      obtain ⟨i1, i2, i3, i4, ya, yn, yc, ik⟩ := y
      obtain ⟨ino, kind, links, size, xa, xn, xc, ks⟩ := x
      simp only [Nw.nd, Nd.mk.injEq] at hnd
      obtain ⟨rfl, rfl, rfl, rfl, rfl⟩ := hnd
      have hxi := hx.ins
      have hyi := hy.ins
      obtain rfl : xn = yn := by have h1 := hxi.len; have h2 := hyi.len; simp only at h1 h2; omega
      have HX := Lib.hid hx
      have HY := Lib.hid hy
      have HM := Lib.hid hmx
      have c0 := hx.c0
      have c1 := hx.c1
      have c2 := hx.c2
      have c3 := hx.c3
      have c4 := hx.c4
      have d0 := hy.c0
      have d1 := hy.c1
      have d2 := hy.c2
      have d3 := hy.c3
      have d4 := hy.c4
      simp only at c0 c1 c2 c3 c4 d0 d1 d2 d3 d4
      clear hxi hyi hx hy hmx
      go_wp2_with (fail)
      obtain ⟨wb, hwb⟩ : ∃ wb, wb = (wr.alloc (.cells #[.int .i64 ino, .int .i64 kind, .int .i64 links, .int .i64 size, .slice xa xn xc] 83)).alloc (.cells #[.int .i64 ino, .int .i64 kind, .int .i64 links, .int .i64 size, .slice ya xn yc] 83) := ⟨_, rfl⟩
      have hbb : Below wr.heap.size wr wb := by rw [hwb]; exact ((Below.refl _ _).alloc (Nat.le_refl _) _).alloc (by simp) _
      have HBB := Lib.hid hbb
      rw [← hwb]
      refine (sameInts_yes xa ya xn xc yc ks _ (HX.out.ins.next hbb) (HY.out.ins.next hbb) HM.out).mono ?_
      rintro e w5 ⟨rfl, hb5⟩
      have HB5 := Lib.hid (HB.out.trans ((HBB.out.trans (hb5.mono HBB.out.size)).mono HB.out.size))
      clear hb5 hbb hwb HBB
      go_wp2_with (fail)
      go_roundw
      case rel => exact ⟨i + 1, by omega, by go_num, HB5.out⟩
      case measure => simp [RowKit.intOf]; omega
    · obtain rfl : i = n := by omega
      go_wp2_with (fail)
      go_ret
      exact ⟨rfl, HB.out⟩
end Go.Proofs.Ytegcjpocdfmpfaa
