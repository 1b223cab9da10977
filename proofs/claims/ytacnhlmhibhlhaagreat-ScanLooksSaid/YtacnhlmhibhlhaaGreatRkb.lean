/-
  The reference's New, by contract.
-/
import Derived.Test.YtacnhlmhibhlhaaGreatRka
import Derived.Deep.AppendLies
import Derived.Deep.RegionLaw
import Derived.Test.YtacnhlmhibhlhaaGreatOpm
set_option linter.unusedSimpArgs false
set_option linter.unusedVariables false
namespace Go.Proofs.YtacnhlmhibhlhaaGreat
open Go.RowKit Go.Maps

theorem infoS : (Tryz.prog.info? 42).map (fun i => (i.zero, i.size, i.bytes)) = some (some (.slice none 0 0), 1, 24) := by kernel_rfl
theorem infoB : (Tryz.prog.info? 4).map (fun i => (i.zero, i.size, i.bytes)) = some (some (.bool false), 1, 1) := by kernel_rfl
theorem infoI : (Tryz.prog.info? 3).map (fun i => (i.zero, i.size, i.bytes)) = some (some (.int .i64 0), 1, 8) := by kernel_rfl

/-- 'make([]byte, 64)' as it runs. -/
theorem mkn (w : World) (n : Nat) (hn : n ≤ 1000) : ∃ w', Sem.run Tryz.prog (Instr.makeSlice 42 (.int .i64 (n : Int)) (.int .i64 (n : Int))) w = Result.ok (.slice (some ⟨w.heap.size, 0, none⟩) n n) w' ∧ Blk w' w.heap.size (List.replicate n 0) ∧ Below w.heap.size w w' := by
  obtain ⟨i0, hi, hz0, hz1, hz2⟩ := info_parts info8
  obtain ⟨w', hrun, hown, hgrow⟩ := run_make_full (P := Tryz.prog) (w := w) w.heap.size 42 5 i0 (.int .u8 0) 1 Tryz.underlying42 hi hz0 hz1 .i64 .i64 n (by rw [hz2]; omega) (by unfold maxLen; omega) (Nat.le_refl _)
  refine ⟨w', hrun, ⟨?_⟩, (Below.refl _ _).grown hgrow (Nat.le_refl _) (fun k h => by cases h)⟩
  rcases hown.2 with ⟨h', _⟩ | ⟨g, cap, cur, h', _, hh, _, _, hsz, htake⟩
  · simp at h'
  · simp only [Value.slice.injEq, Option.some.injEq, Addr.mk.injEq, and_true, true_and] at h'
    obtain ⟨rfl, rfl⟩ := h'
    have hc : cur = ints (List.replicate n 0) := by
      apply Array.ext'
      rw [List.take_of_length_le (by rw [Array.length_toList, hsz]; exact Nat.le_refl _)] at htake
      rw [htake, show (Value.int IntKind.u8 0).cells = #[Value.int .u8 0] from rfl, Nat.mul_one, toList_madeCells_one]
      simp [ints]
    rw [hh, hc]
theorem mk64 (w : World) : ∃ w', Sem.run Tryz.prog (Instr.makeSlice 42 (.int .i64 64) (.int .i64 64)) w = Result.ok (.slice (some ⟨w.heap.size, 0, none⟩) 64 64) w' ∧ Blk w' w.heap.size (List.replicate 64 0) ∧ Below w.heap.size w w' := mkn w 64 (by omega)

/-- The four lists of the reference's rack while it is made. -/
def tyN (i : Nat) : TypeId := if i < 2 then 42 else if i = 2 then 4 else 3
structure NewD (w : World) (B p n S : Nat) (k : Nat → Nat) (v : Nat → Value) (xs : Nat → List Value) : Prop where
  row : w.heap[p]? = some (.cells #[.int .i64 n, .int .i64 S, v 0, v 1, v 2, v 3, .int .i64 (-1), .bool false] 38 (0, 0))
  own : ∀ i, i < 4 → w.ownsRow B (tyN i) 1 (v i) (k i) (xs i)
  ne : ∀ i j, i < 4 → j < 4 → i ≠ j → ∀ g, (v i).ownBlock = some g → (v j).ownBlock ≠ some g
  el : ∀ j, j < k 0 → ∃ g, (xs 0)[j]? = some (.slice (some ⟨g, 0, none⟩) 64 64) ∧ Blk w g (List.replicate 64 0) ∧ B ≤ g ∧ ∀ i, i < 4 → (v i).ownBlock ≠ some g
  low : p < B

theorem NewD.c {w : World} {B p n S : Nat} {k : Nat → Nat} {v : Nat → Value} {xs : Nat → List Value} (h : NewD w B p n S k v xs) (i : Nat) (hi : i < 4) : w.cell? ⟨p, 2 + i, none⟩ = some (v i) := by
  rw [cell_of_row w _ _ _ _ (0, 0) h.row]
  rcases (by omega : i = 0 ∨ i = 1 ∨ i = 2 ∨ i = 3) with rfl | rfl | rfl | rfl <;> rfl
theorem NewD.f {w : World} {B p n S : Nat} {k : Nat → Nat} {v : Nat → Value} {xs : Nat → List Value} (h : NewD w B p n S k v xs) (i : Nat) : w.frozen? ⟨p, i, none⟩ = false := frozen_of_row w _ i _ _ h.row

theorem grown_set {w w' : World} {r : Option Nat} (h : w.grownBy w' r) (b i : Nat) (u : Value) (k : Nat) (hk : k < w.heap.size) (hb : k ≠ b) (hr : some k ≠ r) : (w'.setCell ⟨b, i, none⟩ u).heap[k]? = w.heap[k]? :=
  ((turn_set w' b i u).block k (Nat.lt_of_lt_of_le hk h.size) hb).trans (h.block k hk hr)

theorem own_set {w : World} {B : Nat} {t : TypeId} {v : Value} {n : Nat} {xs : List Value} (h : w.ownsRow B t 1 v n xs) (p i : Nat) (u : Value) (hp : p < B) : (w.setCell ⟨p, i, none⟩ u).ownsRow B t 1 v n xs :=
  h.kept (row := some p) ⟨rfl, rfl, rfl, (turn_set w p i u).size, fun k hk hne => (turn_set w p i u).block k hk fun e => hne (by rw [e])⟩ (by
    cases e : v.ownBlock with
    | none => exact .inl rfl
    | some g => right; intro x; cases x; have := (h.lt p e).1; omega)

theorem NewD.app {w w' : World} {B p n S : Nat} {k : Nat → Nat} {v : Nat → Value} {xs : Nat → List Value} (h : NewD w B p n S k v xs) (i : Nat) (hi : i < 4) (u : Value) (g cap : Nat)
    (hown : w'.ownsRow B (tyN i) 1 (.slice (some ⟨g, 0, none⟩) (k i + 1) cap) (k i + 1) (xs i ++ [u])) (hgrow : w.grownBy w' (v i).ownBlock) (hl : (v i).ownBlock = some g ∨ g = w.heap.size)
    (hu : i = 0 → ∃ e, u = .slice (some ⟨e, 0, none⟩) 64 64 ∧ Blk w e (List.replicate 64 0) ∧ B ≤ e ∧ ∀ j, j < 4 → (v j).ownBlock ≠ some e) :
    NewD (w'.setCell ⟨p, 2 + i, none⟩ (.slice (some ⟨g, 0, none⟩) (k i + 1) cap)) B p n S (atI k i (k i + 1)) (atI v i (.slice (some ⟨g, 0, none⟩) (k i + 1) cap)) (atI xs i (xs i ++ [u])) := by
  have hp := lt_of_block h.row
  have hpo : some p ≠ (v i).ownBlock := fun e => by have := ((h.own i hi).lt p e.symm).1; have := h.low; omega
  have hgn : ∀ j, j < 4 → j ≠ i → (v j).ownBlock ≠ some g := by
    intro j hj hji e
    rcases hl with hl | hl
    · exact h.ne j i hj hi hji g e hl
    · have := ((h.own j hj).lt g e).2; omega
  have hrow' : w'.heap[p]? = _ := (hgrow.block p hp hpo).trans h.row
  refine ⟨?_, fun j hj => ?_, fun a b ha hb hab x hx => ?_, fun j hj => ?_, h.low⟩
  · rw [cells_set hrow']
    rcases (by omega : i = 0 ∨ i = 1 ∨ i = 2 ∨ i = 3) with rfl | rfl | rfl | rfl <;> rfl
  · by_cases e : j = i
    · subst e
      simp only [atI, if_pos]
      exact own_set hown p _ _ h.low
    · simp only [atI, if_neg e]
      refine own_set ((h.own j hj).kept hgrow ?_) p _ _ h.low
      cases eo : (v j).ownBlock with
      | none => exact .inl rfl
      | some x => exact .inr fun x' => h.ne j i hj hi e x eo x'.symm
  · by_cases ea : a = i
    · subst ea
      simp only [atI, if_pos, if_neg (Ne.symm hab)] at hx ⊢
      simp [Value.ownBlock] at hx
      subst hx
      exact hgn b hb (Ne.symm hab)
    · by_cases eb : b = i
      · subst eb
        simp only [atI, if_pos, if_neg ea] at hx ⊢
        intro e2
        simp [Value.ownBlock] at e2
        subst e2
        exact hgn a ha ea hx
      · simp only [atI, if_neg ea, if_neg eb] at hx ⊢
        exact h.ne a b ha hb hab x hx
  · have keep : ∀ e, Blk w e (List.replicate 64 0) → B ≤ e → (∀ b, b < 4 → (v b).ownBlock ≠ some e) → Blk (w'.setCell ⟨p, 2 + i, none⟩ (.slice (some ⟨g, 0, none⟩) (k i + 1) cap)) e (List.replicate 64 0) ∧ B ≤ e ∧ ∀ b, b < 4 → (atI v i (.slice (some ⟨g, 0, none⟩) (k i + 1) cap) b).ownBlock ≠ some e := by
      intro e hb hB hne
      refine ⟨⟨(grown_set hgrow p _ _ e hb.lt (by have := h.low; omega) (fun x => hne i hi x.symm)).trans hb.row⟩, hB, fun b hb4 => ?_⟩
      by_cases eb : b = i
      · subst eb
        simp only [atI, if_pos]
        intro x
        simp [Value.ownBlock] at x
        subst x
        rcases hl with hl | hl
        · exact hne b hi hl
        · have := hb.lt; omega
      · simp only [atI, if_neg eb]
        exact hne b hb4
    have hlen := (h.own 0 (by omega)).1
    by_cases e0 : i = 0
    · subst e0
      simp only [atI, if_pos] at hj ⊢
      by_cases hjk : j < k 0
      · obtain ⟨e, he, hb, hB, hne⟩ := h.el j hjk
        exact ⟨e, by rw [List.getElem?_append_left (by omega)]; exact he, keep e hb hB hne⟩
      · obtain ⟨e, he, hb, hB, hne⟩ := hu rfl
        refine ⟨e, ?_, keep e hb hB hne⟩
        rw [List.getElem?_append_right (by omega), he, show j - (xs 0).length = 0 by omega]
        rfl
    · simp only [atI, if_neg (Ne.symm e0)] at hj ⊢
      obtain ⟨e, he, hb, hB, hne⟩ := h.el j hj
      exact ⟨e, he, keep e hb hB hne⟩

theorem NewD.below {w w' : World} {B p n S : Nat} {k : Nat → Nat} {v : Nat → Value} {xs : Nat → List Value} (h : NewD w B p n S k v xs) (hb : Below w.heap.size w w') : NewD w' B p n S k v xs :=
  ⟨(hb.block p (lt_of_block h.row)).trans h.row, fun i hi => (h.own i hi).kept (row := none) ⟨hb.os, hb.tape, hb.output, hb.size, fun k hk _ => hb.block k hk⟩ (by cases (v i).ownBlock <;> simp), h.ne,
    fun j hj => by obtain ⟨g, h1, h2, h3⟩ := h.el j hj; exact ⟨g, h1, ⟨(hb.block g h2.lt).trans h2.row⟩, h3⟩, h.low⟩

theorem NewD.kk2 {w : World} {B p n S N k : Nat} {v : Nat → Value} {xs : Nat → List Value} (h : NewD w B p n S (atI (atI (fun i => if i < 2 then N else k) 2 (k + 1)) 3 (k + 1)) v xs) : NewD w B p n S (fun i => if i < 2 then N else k + 1) v xs := by
  have e : ∀ i, i < 4 → atI (atI (fun i => if i < 2 then N else k) 2 (k + 1)) 3 (k + 1) i = if i < 2 then N else k + 1 := by
    intro i hi
    rcases (by omega : i = 0 ∨ i = 1 ∨ i = 2 ∨ i = 3) with rfl | rfl | rfl | rfl <;> rfl
  exact ⟨h.row, fun i hi => by have := h.own i hi; rwa [e i hi] at this, h.ne, fun j hj => h.el j (by rw [e 0 (by omega)]; exact hj), h.low⟩
theorem NewD.turnq {w w' : World} {B p n S q : Nat} {k : Nat → Nat} {v : Nat → Value} {xs : Nat → List Value} (h : NewD w B p n S k v xs) (ht : Turn (· = q) w w') (hq : q < B ∧ q ≠ p) : NewD w' B p n S k v xs :=
  ⟨(ht.block p (lt_of_block h.row) (Ne.symm hq.2)).trans h.row, fun i hi => (h.own i hi).kept (row := some q) ⟨ht.os, ht.tape, ht.output, ht.size, fun k hk hne => ht.block k hk fun e => hne (by rw [e])⟩ (by
      cases e : (v i).ownBlock with
      | none => exact .inl rfl
      | some g => right; intro x; cases x; have := ((h.own i hi).lt q e).1; omega), h.ne,
    fun j hj => by obtain ⟨g, h1, h2, h3, h4⟩ := h.el j hj; exact ⟨g, h1, ⟨(ht.block g h2.lt (by have := hq.1; omega)).trans h2.row⟩, h3, h4⟩, h.low⟩
theorem NewD.form {w : World} {B p n S : Nat} {k : Nat → Nat} {v : Nat → Value} {xs : Nat → List Value} (h : NewD w B p n S k v xs) (i : Nat) (hi : i < 4) (hk : 0 < k i) : ∃ g c, v i = .slice (some ⟨g, 0, none⟩) (k i) c := by
  rcases (h.own i hi).2 with ⟨_, h0⟩ | ⟨g, cap, cur, e, _⟩
  · omega
  · exact ⟨g, cap, e⟩
/-- What the reference's New answers. -/
def RNew (n S : Nat) (w : World) (e : Ending) (w' : World) : Prop := ∃ (v : Nat → Value) (xs : Nat → List Value),
  e = .returned (.tuple #[.agg #[.int .i64 n, .int .i64 S, v 0, v 1, v 2, v 3, .int .i64 (-1), .bool false], .int .i64 0]) ∧ NewD w' (w.heap.size + 2) (w.heap.size + 1) n S (fun i => if i < 2 then n * S else n) v xs ∧
  xs 1 = List.replicate (n * S) (.slice none 0 0) ∧ xs 2 = List.replicate n (.bool false) ∧ xs 3 = List.replicate n (.int .i64 (-1)) ∧ Below w.heap.size w w'
theorem NewD.kk {w : World} {B p n S k : Nat} {v : Nat → Value} {xs : Nat → List Value} (h : NewD w B p n S (atI (atI (fun i => if i < 2 then k else 0) 0 (k + 1)) 1 (k + 1)) v xs) : NewD w B p n S (fun i => if i < 2 then k + 1 else 0) v xs := by
  have e : atI (atI (fun i => if i < 2 then k else 0) 0 (k + 1)) 1 (k + 1) = fun i => if i < 2 then k + 1 else 0 := by
    funext i
    unfold atI
    by_cases e1 : i = 1
    · subst e1; rfl
    · by_cases e0 : i = 0
      · subst e0; rfl
      · rw [if_neg e1, if_neg e0]; dsimp only; rw [if_neg (by omega), if_neg (by omega)]
  rwa [e] at h

set_option maxRecDepth 100000 in
set_option maxHeartbeats 4000000 in
theorem rnew_ok (n S : Nat) (w : World) (h1 : 1 ≤ n) (h2 : n ≤ 17) (h3 : 1 ≤ S) (h4 : S ≤ 4096) :
    Calls Tryz.prog 10 #[.int .i64 n, .int .i64 S] w (RNew n S w) := by
  obtain ⟨N, hN⟩ : ∃ N, Hid (N = n * S) := ⟨_, Lib.hid rfl⟩
  have eN : (n : Int) * (S : Int) = (N : Int) := by rw [hN.out]; simp
  have hn17 : (n : Int) ≤ 17 := by omega
  have hN1 : N ≤ 100000 := by
    have : n * S ≤ 17 * 4096 := Nat.mul_le_mul h2 h4
    rw [hN.out]; omega
  have x1 : decide ((n : Int) < 1) = false := by simp; omega
  have x2 : decide (17 < (n : Int)) = false := by simp; omega
  have x3 : decide ((S : Int) < 1) = false := by simp; omega
  have x4 : decide (4096 < (S : Int)) = false := by simp; omega
  obtain ⟨i0, hi, hz0, hz1, hz2⟩ := info_parts infoS
  obtain ⟨iB, bi, bz0, bz1, bz2⟩ := info_parts infoB
  obtain ⟨iI, ii, iz0, iz1, iz2⟩ := info_parts infoI
  obtain ⟨q, hq⟩ : ∃ q, Hid (q = w.heap.size) := ⟨_, Lib.hid rfl⟩
  obtain ⟨wz, hwz⟩ : ∃ wz, Hid (wz = w.alloc (Obj.cells #[Value.int IntKind.i64 0, Value.int IntKind.i64 0, Value.slice none 0 0, Value.slice none 0 0, Value.slice none 0 0, Value.slice none 0 0, Value.int IntKind.i64 0, Value.bool false] 38)) := ⟨_, Lib.hid rfl⟩
  have hzs : wz.heap.size = w.heap.size + 1 := by rw [hwz.out]; simp
  have hzq : Hid (wz.heap[w.heap.size]? = some (Obj.cells #[Value.int IntKind.i64 0, Value.int IntKind.i64 0, Value.slice none 0 0, Value.slice none 0 0, Value.slice none 0 0, Value.slice none 0 0, Value.int IntKind.i64 0, Value.bool false] 38 (0, 0))) := by
    unfold Hid; rw [hwz.out]; exact heap_alloc_new w _
  go_enter Tryz.func10, Tryz.ntmps10
  go_wp2_with (fail)
  go_loopw [7] (fun t wr => ∃ (k : Nat) (v : Nat → Value) (xs : Nat → List Value), k ≤ N ∧ t = .int .i64 k ∧ NewD wr (w.heap.size + 2) (w.heap.size + 1) n S (fun i => if i < 2 then k else 0) v xs ∧ xs 1 = List.replicate k (.slice none 0 0) ∧ v 2 = .slice none 0 0 ∧ v 3 = .slice none 0 0 ∧ Below (w.heap.size + 1) wz wr) (fun t _ => N - (RowKit.intOf t).toNat)
  case atStart =>
    refine ⟨0, fun _ => .slice none 0 0, fun _ => [], Nat.zero_le _, rfl, ⟨?_, fun i _ => ⟨by simp, .inl ⟨rfl, by simp⟩⟩, (fun i j _ _ _ g e => by simp [Value.ownBlock] at e), (fun j hj => by simp at hj), by omega⟩, rfl, rfl, rfl, by rw [← hwz.out]; exact (Below.refl _ _).alloc (by omega) _⟩
    have := heap_alloc_new (w.alloc (Obj.cells #[Value.int IntKind.i64 0, Value.int IntKind.i64 0, Value.slice none 0 0, Value.slice none 0 0, Value.slice none 0 0, Value.slice none 0 0, Value.int IntKind.i64 0, Value.bool false] 38)) (Obj.cells #[Value.int IntKind.i64 n, Value.int IntKind.i64 S, Value.slice none 0 0, Value.slice none 0 0, Value.slice none 0 0, Value.slice none 0 0, Value.int IntKind.i64 (-1), Value.bool false] 38)
    simpa using this
  case round =>
    obtain ⟨k, v, xs, hk, rfl, hD, hx1, hv2, hv3, hbel⟩ := hrel
    have c2 := hD.c 0 (by omega)
    have c3 := hD.c 1 (by omega)
    have f2 := hD.f 2
    have f3 := hD.f 3
    simp only [Nat.add_zero] at c2
    by_cases hlt : k < N
    · obtain ⟨w3, hmk, hb3, hl3⟩ := mk64 wr.drew
      have hl3' : Below wr.heap.size wr w3 := undrew hl3
      have hD3 := hD.below hl3'
      have hw3 : wr.heap.size < w3.heap.size := hb3.lt
      change Sem.run _ _ _ = Result.ok (Value.slice (some ⟨wr.heap.size, 0, none⟩) 64 64) w3 at hmk
      have hbw : Blk w3 wr.heap.size (List.replicate 64 0) := hb3
      obtain ⟨lit, hlit⟩ : ∃ lit, lit = Obj.cells #[Value.slice (some ⟨wr.heap.size, 0, none⟩) 64 64] 42 := ⟨_, rfl⟩
      have hla : Below w3.heap.size w3 (w3.alloc lit) := (Below.refl _ _).alloc (Nat.le_refl _) _
      have hDa := hD3.below hla
      have hown := hDa.own 0 (by omega)
      have d2 := hD3.c 0 (by omega)
      have ca := hDa.c 0 (by omega)
      simp only [Nat.add_zero] at d2 ca
      have hrow := hDa.row
      have hpl := lt_of_block hDa.row
      have hpo : some (w.heap.size + 1) ≠ (v 0).ownBlock := fun e => by have := (hown.lt _ e.symm).1; omega
      rw [hlit] at hla hDa hown ca hrow hpl
      clear hb3 hl3 c3 f3
      go_wp2_with (fail)
      go_region_law ((refine step_append_lies _ (by rfl) (.tmp 35) (.tmp 37) 24 (by rfl) (w.heap.size + 2) 42 i0 _ 1 24 Tryz.underlying24 hi hz0 hz1 hz2 rfl (by omega) (v 0) k (xs 0) (by rfl) hown ⟨w3.heap.size, 0, none⟩ 1 1 [Value.slice (some ⟨wr.heap.size, 0, none⟩) 64 64] (by rfl) (by rfl) (World.news_of_block (heap_alloc_new w3 _)) (by simp [Value.oneCell']) (by omega) (by unfold maxLen; omega) (by omega) (by have := hbel.size; simp; omega) (w3.heap.size + 1) (by simp) ?_; intro g cap w4 hown4 hgrow4 hl4 hlt4
                      have s4 : w4.cell? ⟨w.heap.size + 1, 2, none⟩ = some (v 0) := by rw [cell_of_row w4 _ _ _ _ (0, 0) ((hgrow4.block _ hpl hpo).trans hrow)]; rfl
                      have t4 : w4.frozen? ⟨w.heap.size + 1, 2, none⟩ = false := frozen_of_row w4 _ 2 _ _ ((hgrow4.block _ hpl hpo).trans hrow)))
      all_goals
        have hu0 : (0 : Nat) = 0 → ∃ e, Value.slice (some ⟨wr.heap.size, 0, none⟩) 64 64 = .slice (some ⟨e, 0, none⟩) 64 64 ∧ Blk (w3.alloc (Obj.cells #[Value.slice (some ⟨wr.heap.size, 0, none⟩) 64 64] 42)) e (List.replicate 64 0) ∧ w.heap.size + 2 ≤ e ∧ ∀ j, j < 4 → (v j).ownBlock ≠ some e := fun _ =>
          ⟨_, rfl, ⟨(hla.block _ hbw.lt).trans hbw.row⟩, (by have := hbel.size; have := lt_of_block hD.row; omega), fun j hj x => by have := ((hD.own j hj).lt _ x).2; omega⟩
        have hD5 := hDa.app 0 (by omega) _ g cap hown4 hgrow4 (by simpa using hl4) hu0
        have hB3 : Below (w.heap.size + 1) wz w3 := hbel.trans (hl3'.mono (by have := hbel.size; omega))
        have hBa := hB3.alloc (by have := hB3.size; omega) (Obj.cells #[Value.slice (some ⟨wr.heap.size, 0, none⟩) 64 64] 42)
        have hB4 : Below (w.heap.size + 1) wz w4 := hBa.grown hgrow4 (by have := hBa.size; omega) (fun k hk => by have := ((hD.own 0 (by omega)).lt k hk).1; omega)
        have hB5 : Below (w.heap.size + 1) wz (w4.setCell ⟨w.heap.size + 1, 2, none⟩ (.slice (some ⟨g, 0, none⟩) (k + 1) cap)) := hB4.setCell (by show w.heap.size + 1 ≤ w.heap.size + 1; omega) _
        change NewD (w4.setCell ⟨w.heap.size + 1, 2, none⟩ (.slice (some ⟨g, 0, none⟩) (k + 1) cap)) _ _ _ _ _ _ _ at hD5
        clear hu0 hB3 hBa hB4 hown4 hgrow4 hl4 hlt4 s4 t4 hmk hl3' hD3 hw3 hbw hla hDa hown d2 ca hrow hpl hpo c2 f2 hbel hlit
        generalize w4.setCell ⟨w.heap.size + 1, 2, none⟩ (.slice (some ⟨g, 0, none⟩) (k + 1) cap) = w5 at *
        have hlb : Below w5.heap.size w5 (w5.alloc (Obj.cells #[Value.slice none 0 0] 42)) := (Below.refl _ _).alloc (Nat.le_refl _) _
        have hDb := hD5.below hlb
        have c5 : w5.cell? ⟨w.heap.size + 1, 3, none⟩ = some (v 1) := hD5.c 1 (by omega)
        have ownb : (w5.alloc (Obj.cells #[Value.slice none 0 0] 42)).ownsRow (w.heap.size + 2) 42 1 (v 1) k (xs 1) := hDb.own 1 (by omega)
        have hrow := hDb.row
        have hpl := lt_of_block hrow
        have hpo : some (w.heap.size + 1) ≠ (v 1).ownBlock := fun e => by have := (ownb.lt _ e.symm).1; omega
        go_wp2_with (at_builtin; refine wpList_append_lies _ rfl (.tmp 41) (.tmp 42) 24 rfl (w.heap.size + 2) 42 i0 _ 1 24 Tryz.underlying24 hi hz0 hz1 hz2 rfl (by omega) (v 1) k (xs 1) rfl ownb ⟨w5.heap.size, 0, none⟩ 1 1 [Value.slice none 0 0] rfl rfl (World.news_of_block (heap_alloc_new w5 _)) (by simp [Value.oneCell']) (by omega) (by unfold maxLen; omega) (by omega) (by have := hB5.size; have := lt_of_block hD5.row; simp; omega) (w5.heap.size + 1) (by simp) ?_; intro g1 cap1 w6 hown6 hgrow6 hl6 hlt6; have s6 : w6.cell? ⟨w.heap.size + 1, 3, none⟩ = some (v 1) := (cell_of_row w6 _ 3 _ _ (0, 0) ((hgrow6.block _ hpl hpo).trans hrow)).trans rfl; have t6 : w6.frozen? ⟨w.heap.size + 1, 3, none⟩ = false := frozen_of_row w6 _ 3 _ _ ((hgrow6.block _ hpl hpo).trans hrow))
        have hD7 := hDb.app 1 (by omega) _ g1 cap1 hown6 hgrow6 (by rcases hl6 with h | h; exact .inl h; right; rw [h]; simp) (fun e => by cases e)
        have hBb := hB5.alloc (by have := hB5.size; omega) (Obj.cells #[Value.slice none 0 0] 42)
        have hB6 : Below (w.heap.size + 1) wz w6 := hBb.grown hgrow6 (by have := hBb.size; omega) (fun k hk => by have := (ownb.lt k hk).1; omega)
        have hB7 : Below (w.heap.size + 1) wz (w6.setCell ⟨w.heap.size + 1, 3, none⟩ (.slice (some ⟨g1, 0, none⟩) (k + 1) cap1)) := hB6.setCell (by show w.heap.size + 1 ≤ w.heap.size + 1; omega) _
        change NewD (w6.setCell ⟨w.heap.size + 1, 3, none⟩ (.slice (some ⟨g1, 0, none⟩) (k + 1) cap1)) _ _ _ _ _ _ _ at hD7
        go_roundw
        case rel =>
          have hx7 : xs 1 ++ [Value.slice none 0 0] = List.replicate (k + 1) (Value.slice none 0 0) := by rw [hx1]; exact List.replicate_succ'.symm
          exact ⟨k + 1, _, _, by omega, by go_num, hD7.kk, hx7, hv2, hv3, hB7⟩
        case measure => simp [RowKit.intOf]; omega
    · obtain rfl : k = N := by omega
      have h2x : xs 2 = [] := List.eq_nil_of_length_eq_zero (by have := (hD.own 2 (by omega)).1; simpa using this)
      have h3x : xs 3 = [] := List.eq_nil_of_length_eq_zero (by have := (hD.own 3 (by omega)).1; simpa using this)
      clear c2 c3 f2 f3
      go_wp2_with (fail)
      obtain ⟨wo, rfl⟩ : ∃ wo : World, wo = wr := ⟨_, rfl⟩
      go_loopw [8] (fun t wr => ∃ (j : Nat) (v : Nat → Value) (xs : Nat → List Value), j ≤ n ∧ t = .int .i64 j ∧ NewD wr (w.heap.size + 2) (w.heap.size + 1) n S (fun i => if i < 2 then k else j) v xs ∧ xs 1 = List.replicate k (.slice none 0 0) ∧ xs 2 = List.replicate j (.bool false) ∧ xs 3 = List.replicate j (.int .i64 (-1)) ∧ Below (w.heap.size + 1) wz wr) (fun t _ => n - (RowKit.intOf t).toNat)
      case atStart => exact ⟨0, v, xs, Nat.zero_le _, rfl, hD, hx1, h2x, h3x, hbel⟩
      case round =>
      clear hD hx1 h2x h3x hbel hv2 hv3
      clear xs v
      obtain ⟨j, v, xs, hj, rfl, hDa, hx1, hx2, hx3, hBa⟩ := hrel
      by_cases hlt2 : j < n
      · have fa := hDa.f 4
        have hlba : Below wr.heap.size wr (wr.alloc (Obj.cells #[Value.bool false] 4)) := (Below.refl _ _).alloc (Nat.le_refl _) _
        have hDba := hDa.below hlba
        have ca : wr.cell? ⟨w.heap.size + 1, 4, none⟩ = some (v 2) := hDa.c 2 (by omega)
        have ownba : (wr.alloc (Obj.cells #[Value.bool false] 4)).ownsRow (w.heap.size + 2) 4 1 (v 2) j (xs 2) := hDba.own 2 (by omega)
        have hrowa := hDba.row
        have hpla := lt_of_block hrowa
        have hpoa : some (w.heap.size + 1) ≠ (v 2).ownBlock := fun e => by have := (ownba.lt _ e.symm).1; omega
        go_upto_region 13 with (at_builtin; refine wpList_append_lies _ rfl (.tmp 51) (.tmp 52) 35 rfl (w.heap.size + 2) 4 iB _ 1 1 Tryz.underlying35 bi bz0 bz1 bz2 rfl (by omega) (v 2) j (xs 2) rfl ownba ⟨wr.heap.size, 0, none⟩ 1 1 [Value.bool false] rfl rfl (World.news_of_block (heap_alloc_new wr _)) (by simp [Value.oneCell']) (by omega) (by unfold maxLen; omega) (by omega) (by have := hBa.size; have := lt_of_block hDa.row; simp; omega) (wr.heap.size + 1) (by simp) ?_; intro g1 cap1 w1 hown1 hgrow1 hl1 hlt1; have s1 : w1.cell? ⟨w.heap.size + 1, 4, none⟩ = some (v 2) := (cell_of_row w1 _ 4 _ _ (0, 0) ((hgrow1.block _ hpla hpoa).trans hrowa)).trans rfl; have t1 : w1.frozen? ⟨w.heap.size + 1, 4, none⟩ = false := frozen_of_row w1 _ 4 _ _ ((hgrow1.block _ hpla hpoa).trans hrowa))
        have hDe := hDba.app 2 (by omega) _ g1 cap1 hown1 hgrow1 (by rcases hl1 with h | h; exact .inl h; right; rw [h]; simp) (fun e => by cases e)
        have hBba := hBa.alloc (by have := hBa.size; omega) (Obj.cells #[Value.bool false] 4)
        have hBca : Below (w.heap.size + 1) wz w1 := hBba.grown hgrow1 (by have := hBba.size; omega) (fun k hk => by have := (ownba.lt k hk).1; omega)
        have hBe : Below (w.heap.size + 1) wz (w1.setCell ⟨w.heap.size + 1, 4, none⟩ (.slice (some ⟨g1, 0, none⟩) (j + 1) cap1)) := hBca.setCell (by show w.heap.size + 1 ≤ w.heap.size + 1; omega) _
        change NewD (w1.setCell ⟨w.heap.size + 1, 4, none⟩ (.slice (some ⟨g1, 0, none⟩) (j + 1) cap1)) _ _ _ _ _ _ _ at hDe
        clear hown1 hgrow1 hl1 hlt1 s1 t1 hlba hDba ca ownba hrowa hpla hpoa hBba hBca fa
        generalize w1.setCell ⟨w.heap.size + 1, 4, none⟩ (.slice (some ⟨g1, 0, none⟩) (j + 1) cap1) = w5 at *
        have hlbe : Below w5.heap.size w5 (w5.alloc (Obj.cells #[Value.int IntKind.i64 (-1)] 3)) := (Below.refl _ _).alloc (Nat.le_refl _) _
        have hDbe := hDe.below hlbe
        have ce : w5.cell? ⟨w.heap.size + 1, 5, none⟩ = some (v 3) := hDe.c 3 (by omega)
        have ownbe : (w5.alloc (Obj.cells #[Value.int IntKind.i64 (-1)] 3)).ownsRow (w.heap.size + 2) 3 1 (v 3) j (xs 3) := hDbe.own 3 (by omega)
        have hrowe := hDbe.row
        have hple := lt_of_block hrowe
        have hpoe : some (w.heap.size + 1) ≠ (v 3).ownBlock := fun e => by have := (ownbe.lt _ e.symm).1; omega
        go_wp2_with (at_builtin; refine wpList_append_lies _ rfl (.tmp 56) (.tmp 57) 36 rfl (w.heap.size + 2) 3 iI _ 1 8 Tryz.underlying36 ii iz0 iz1 iz2 rfl (by omega) (v 3) j (xs 3) rfl ownbe ⟨w5.heap.size, 0, none⟩ 1 1 [Value.int IntKind.i64 (-1)] rfl rfl (World.news_of_block (heap_alloc_new w5 _)) (by simp [Value.oneCell']) (by omega) (by unfold maxLen; omega) (by omega) (by have := hBe.size; have := lt_of_block hDe.row; simp; omega) (w5.heap.size + 1) (by simp) ?_; intro g2 cap2 w2 hown2 hgrow2 hl2 hlt2; have s2 : w2.cell? ⟨w.heap.size + 1, 5, none⟩ = some (v 3) := (cell_of_row w2 _ 5 _ _ (0, 0) ((hgrow2.block _ hple hpoe).trans hrowe)).trans rfl; have t2 : w2.frozen? ⟨w.heap.size + 1, 5, none⟩ = false := frozen_of_row w2 _ 5 _ _ ((hgrow2.block _ hple hpoe).trans hrowe))
        have hDz := hDbe.app 3 (by omega) _ g2 cap2 hown2 hgrow2 (by rcases hl2 with h | h; exact .inl h; right; rw [h]; simp) (fun e => by cases e)
        have hBbe := hBe.alloc (by have := hBe.size; omega) (Obj.cells #[Value.int IntKind.i64 (-1)] 3)
        have hBce : Below (w.heap.size + 1) wz w2 := hBbe.grown hgrow2 (by have := hBbe.size; omega) (fun k hk => by have := (ownbe.lt k hk).1; omega)
        have hBz : Below (w.heap.size + 1) wz (w2.setCell ⟨w.heap.size + 1, 5, none⟩ (.slice (some ⟨g2, 0, none⟩) (j + 1) cap2)) := hBce.setCell (by show w.heap.size + 1 ≤ w.heap.size + 1; omega) _
        change NewD (w2.setCell ⟨w.heap.size + 1, 5, none⟩ (.slice (some ⟨g2, 0, none⟩) (j + 1) cap2)) _ _ _ _ _ _ _ at hDz
        have e2 : xs 2 ++ [Value.bool false] = List.replicate (j + 1) (Value.bool false) := by rw [hx2]; exact List.replicate_succ'.symm
        have e3 : xs 3 ++ [Value.int IntKind.i64 (-1)] = List.replicate (j + 1) (Value.int IntKind.i64 (-1)) := by rw [hx3]; exact List.replicate_succ'.symm
        go_roundw
        case rel => exact ⟨j + 1, _, _, by omega, by go_num, hDz.kk2, hx1, e2, e3, hBz⟩
        case measure => simp [RowKit.intOf]; omega
      · obtain rfl : j = n := by omega
        have r0 := hDa.row
        have r1 := (hBa.block w.heap.size (by omega)).trans hzq.out
        have y0 : wr.cell? ⟨w.heap.size + 1, 0, none⟩ = some (.int .i64 j) := (cell_of_row wr _ 0 _ _ (0, 0) r0).trans rfl
        have y1 : wr.cell? ⟨w.heap.size + 1, 1, none⟩ = some (.int .i64 S) := (cell_of_row wr _ 1 _ _ (0, 0) r0).trans rfl
        have y2 : wr.cell? ⟨w.heap.size + 1, 2, none⟩ = some (v 0) := hDa.c 0 (by omega)
        have y3 : wr.cell? ⟨w.heap.size + 1, 3, none⟩ = some (v 1) := hDa.c 1 (by omega)
        have y4 : wr.cell? ⟨w.heap.size + 1, 4, none⟩ = some (v 2) := hDa.c 2 (by omega)
        have y5 : wr.cell? ⟨w.heap.size + 1, 5, none⟩ = some (v 3) := hDa.c 3 (by omega)
        have y6 : wr.cell? ⟨w.heap.size + 1, 6, none⟩ = some (.int .i64 (-1)) := (cell_of_row wr _ 6 _ _ (0, 0) r0).trans rfl
        have y7 : wr.cell? ⟨w.heap.size + 1, 7, none⟩ = some (.bool false) := (cell_of_row wr _ 7 _ _ (0, 0) r0).trans rfl
        have z0 : wr.cell? ⟨w.heap.size, 0, none⟩ = some (.int .i64 0) := (cell_of_row wr w.heap.size 0 _ _ (0, 0) r1).trans rfl
        have zf0 : wr.frozen? ⟨w.heap.size, 0, none⟩ = false := frozen_of_row wr _ 0 _ _ r1
        have z1 : wr.cell? ⟨w.heap.size, 1, none⟩ = some (.int .i64 0) := (cell_of_row wr w.heap.size 1 _ _ (0, 0) r1).trans rfl
        have zf1 : wr.frozen? ⟨w.heap.size, 1, none⟩ = false := frozen_of_row wr _ 1 _ _ r1
        have z2 : wr.cell? ⟨w.heap.size, 2, none⟩ = some (.slice none 0 0) := (cell_of_row wr w.heap.size 2 _ _ (0, 0) r1).trans rfl
        have zf2 : wr.frozen? ⟨w.heap.size, 2, none⟩ = false := frozen_of_row wr _ 2 _ _ r1
        have z3 : wr.cell? ⟨w.heap.size, 3, none⟩ = some (.slice none 0 0) := (cell_of_row wr w.heap.size 3 _ _ (0, 0) r1).trans rfl
        have zf3 : wr.frozen? ⟨w.heap.size, 3, none⟩ = false := frozen_of_row wr _ 3 _ _ r1
        have z4 : wr.cell? ⟨w.heap.size, 4, none⟩ = some (.slice none 0 0) := (cell_of_row wr w.heap.size 4 _ _ (0, 0) r1).trans rfl
        have zf4 : wr.frozen? ⟨w.heap.size, 4, none⟩ = false := frozen_of_row wr _ 4 _ _ r1
        have z5 : wr.cell? ⟨w.heap.size, 5, none⟩ = some (.slice none 0 0) := (cell_of_row wr w.heap.size 5 _ _ (0, 0) r1).trans rfl
        have zf5 : wr.frozen? ⟨w.heap.size, 5, none⟩ = false := frozen_of_row wr _ 5 _ _ r1
        have z6 : wr.cell? ⟨w.heap.size, 6, none⟩ = some (.int .i64 0) := (cell_of_row wr w.heap.size 6 _ _ (0, 0) r1).trans rfl
        have zf6 : wr.frozen? ⟨w.heap.size, 6, none⟩ = false := frozen_of_row wr _ 6 _ _ r1
        have z7 : wr.cell? ⟨w.heap.size, 7, none⟩ = some (.bool false) := (cell_of_row wr w.heap.size 7 _ _ (0, 0) r1).trans rfl
        have zf7 : wr.frozen? ⟨w.heap.size, 7, none⟩ = false := frozen_of_row wr _ 7 _ _ r1
        have hkp : 0 < k := by rw [hN.out]; exact Nat.mul_pos h1 h3
        obtain ⟨g0, p0, e0⟩ := hDa.form 0 (by omega) hkp
        obtain ⟨g1, p1, e1⟩ := hDa.form 1 (by omega) hkp
        obtain ⟨g2, p2, e2⟩ := hDa.form 2 (by omega) h1
        obtain ⟨g3, p3, e3⟩ := hDa.form 3 (by omega) h1
        rw [e0] at y2
        rw [e1] at y3
        rw [e2] at y4
        rw [e3] at y5
        have hDa' := hDa
        rw [hN.out] at hDa'
        have hfin : Hid (∀ w', Turn (· = w.heap.size) wr w' → RNew j S w (.returned (.tuple #[.agg #[.int .i64 j, .int .i64 S, v 0, v 1, v 2, v 3, .int .i64 (-1), .bool false], .int .i64 0])) w') := by
          intro w' ht
          have hBw : Below w.heap.size w wr := ((Below.refl w.heap.size w).alloc (Nat.le_refl _) _).trans (by rw [← hwz.out]; exact hBa.mono (by omega))
          refine ⟨v, xs, rfl, hDa'.turnq ht (by omega), by rw [← hN.out]; exact hx1, hx2, hx3, hBw.trans (ht.below hBw.size fun k e => by rw [e]; exact Nat.le_refl _)⟩
        rw [e0, e1, e2, e3] at hfin
        clear e0 e1 e2 e3 hDa hx1 hx2 hx3 hBa r0 r1
        go_wp2_with (fail)
        refine bodyPost_ret (v := .tuple #[.agg #[.int .i64 j, .int .i64 S, .slice (some ⟨g0, 0, none⟩) k p0, .slice (some ⟨g1, 0, none⟩) k p1, .slice (some ⟨g2, 0, none⟩) j p2, .slice (some ⟨g3, 0, none⟩) j p3, .int .i64 (-1), .bool false], .int .i64 0]) (by simp [results, Tryz.results10, go_sem, z0, z1, z2, z3, z4, z5, z6, z7]) rfl ?_
        exact hfin.out _ ((((((((turn_set _ _ _ _).trans (turn_set _ _ _ _)).trans (turn_set _ _ _ _)).trans (turn_set _ _ _ _)).trans (turn_set _ _ _ _)).trans (turn_set _ _ _ _)).trans (turn_set _ _ _ _)).trans (turn_set _ _ _ _))

end Go.Proofs.YtacnhlmhibhlhaaGreat

/-
  What the reference's New answers, laid into a variable: a rack.
-/
namespace Go.Proofs.YtacnhlmhibhlhaaGreat
open Go.RowKit Go.Maps

def newRf (n S : Nat) : Rf := ⟨n, S, fun _ => List.replicate 64 0, fun _ => none, fun _ => false, fun _ => -1, -1, false⟩

theorem col_own {w : World} {B : Nat} {t : TypeId} {g n c : Nat} {xs : List Value} (h : w.ownsRow B t 1 (.slice (some ⟨g, 0, none⟩) n c) n xs) : Col w g t n (fun j => xs.getD j undef) := by
  rcases h.2 with ⟨h', _⟩ | ⟨g', cap', cur, h', _, hg, _, _, _, htake⟩
  · simp at h'
  · simp only [Value.slice.injEq, Option.some.injEq, Addr.mk.injEq, and_true, true_and] at h'
    obtain ⟨rfl, rfl⟩ := h'
    refine ⟨cur, hg, fun j hj => ?_⟩
    have hl := h.1
    have hj2 : j < xs.length := by rw [hl]; omega
    have : cur[j]? = xs[j]? := by
      rw [← htake, List.getElem?_take, if_pos (by omega)]
      simp
    rw [this]
    simp [List.getD, hj2]

end Go.Proofs.YtacnhlmhibhlhaaGreat

/-
  One contract for each call of the reference's rack, whatever the arguments.
-/
namespace Go.Proofs.YtacnhlmhibhlhaaGreat
open Go.RowKit Go.Maps

def Rf.callB (F : Rf) (i : Nat) : Int := if F.pw = 0 then 12 else if F.call.bad i then 13 else 0
def Rf.flE (F : Rf) (i : Int) : Int := if F.dead then 12 else if 0 ≤ i ∧ i < F.n then F.callB i.toNat else 11
def Rf.fl (F : Rf) (i : Int) : Rf := if F.dead = false ∧ (0 ≤ i ∧ i < F.n) then (if F.callB i.toNat = 0 then F.call.flushed (i.toNat * F.S) ((i.toNat + 1) * F.S) else F.call) else F
def Rf.rdE (F : Rf) (i s : Int) : Int := if F.dead then 12 else if hasB F.n F.S i s then (if F.bad i.toNat then 13 else 0) else 11
def Rf.rdV (F : Rf) (i s : Int) : List Int := if F.rdE i s = 0 then F.rd (i.toNat * F.S + s.toNat) else []
def Rf.dkE (F : Rf) (i : Int) : Int := if 0 ≤ i ∧ i < F.n then 0 else 11
def Rf.doom (F : Rf) (i n : Int) : Rf := if 0 ≤ i ∧ i < F.n then { F with cnt := atI F.cnt i.toNat (max n (-1)) } else F

section
variable {M : Nat → Prop} {L : RLay} {F : Rf} {w : World}
theorem rpost_same {v : Value} (h : RefAt w M L F) {e : Ending} {w' : World} (he : e = .returned v ∧ w = w') : RefPost M L F w v e w' := by
  obtain ⟨rfl, rfl⟩ := he
  exact ⟨rfl, h, Turn.refl _ _⟩
theorem callB_dead {i : Nat} (h : F.callE ≠ 0) : F.callB i = F.callE ∧ F.callB i ≠ 0 := by
  unfold Rf.callE at h ⊢
  unfold Rf.callB
  by_cases h0 : F.pw = 0
  · rw [if_pos h0, if_pos h0]; exact ⟨rfl, by omega⟩
  · rw [if_neg h0] at h; exact absurd rfl h
theorem callB_live {i : Nat} (h : F.callE = 0) : F.callB i = if F.call.bad i then 13 else 0 := by
  unfold Rf.callE at h
  unfold Rf.callB
  by_cases h0 : F.pw = 0
  · rw [if_pos h0] at h; omega
  · rw [if_neg h0]
theorem rflush_all (i : Int) (h : RefAt w M L F) :
    Calls Tryz.prog 39 #[.pointer (some ⟨L.p, 0, none⟩), .int .i64 i] w (RefPost M L (F.fl i) w (.int .i64 (F.flE i))) := by
  cases ho : F.dead with
  | true =>
    refine (rflush_dead M L F w i h ho).mono fun e w' he => ?_
    unfold Rf.fl Rf.flE
    simp only [ho, Bool.true_eq_false, false_and, if_false, if_true]
    exact rpost_same h he
  | false =>
    by_cases hb : 0 ≤ i ∧ i < F.n
    · obtain ⟨x, rfl, hx⟩ := disk_nat hb
      have e1 : F.flE x = F.callB x := by unfold Rf.flE; rw [if_neg (by simp [ho]), if_pos hb, Int.toNat_natCast]
      rw [e1]
      unfold Rf.fl
      rw [if_pos ⟨ho, hb⟩, Int.toNat_natCast]
      by_cases hE : F.callE = 0
      · cases hbad : F.call.bad x with
        | true =>
          have e2 : F.callB x = 13 := by rw [callB_live hE, hbad]; rfl
          rw [e2, if_neg (by omega)]
          exact rflush_failed M L F w x h ho hx hE hbad
        | false =>
          have e2 : F.callB x = 0 := by rw [callB_live hE, hbad]; rfl
          rw [e2, if_pos rfl]
          exact rflush_ok M L F w x h ho hx hE hbad
      · rw [if_neg (callB_dead hE).2, (callB_dead hE).1]
        exact rflush_err M L F w x h ho hx hE
    · refine (rflush_bad M L F w i h ho hb).mono fun e w' he => ?_
      unfold Rf.fl Rf.flE
      rw [if_neg (fun x => hb x.2), if_neg (by simp [ho]), if_neg hb]
      exact rpost_same h he
theorem rdoom_all (i n : Int) (h : RefAt w M L F) (hn : n ≤ 9223372036854775807) :
    Calls Tryz.prog 14 #[.pointer (some ⟨L.p, 0, none⟩), .int .i64 i, .int .i64 n] w (RefPost M L (F.doom i n) w (.int .i64 (F.dkE i))) := by
  unfold Rf.doom Rf.dkE
  by_cases hb : 0 ≤ i ∧ i < F.n
  · obtain ⟨x, rfl, hx⟩ := disk_nat hb
    rw [if_pos hb, if_pos hb, Int.toNat_natCast]
    exact rdoom_ok M L F w x n h hx hn
  · rw [if_neg hb, if_neg hb]
    exact (rdoom_bad M L F w i n h hb).mono fun e w' he => rpost_same h he
end

end Go.Proofs.YtacnhlmhibhlhaaGreat

/-
  The program's rack and the reference's beside each other.
-/
namespace Go.Proofs.YtacnhlmhibhlhaaGreat
open Go.RowKit Go.Maps

/-- Both racks stand beside each other. -/
structure Both (w : World) (L : Lay) (K : RLay) (R : Rk) (F : Rf) : Prop where
  rk : RackAt w (fun k => L.M R.n k ∨ K.M k) L R
  rf : RefAt w (fun k => L.M R.n k ∨ K.M k) K F
  ne : ∀ k, L.M R.n k → ¬ K.M k
section
variable {w w' : World} {L : Lay} {K : RLay} {R R' : Rk} {F F' : Rf}
theorem Both.rack (h : Both w L K R F) (hn : R'.n = R.n) (hr : RackAt w' (fun k => L.M R.n k ∨ K.M k) L R') (ht : Turn (L.M R.n) w w') : Both w' L K R' F := by
  have h2 := h.rf.keep ht (fun _ => .inl) (fun k hk x => h.ne k x hk)
  rw [← hn] at hr h2
  exact ⟨hr, h2, by rw [hn]; exact h.ne⟩
theorem Both.ref (h : Both w L K R F) (hr : RefAt w' (fun k => L.M R.n k ∨ K.M k) K F') (ht : Turn K.M w w') : Both w' L K R F' :=
  ⟨h.rk.keep ht (fun _ => .inr) (fun k hk => h.ne k hk), hr, h.ne⟩
theorem Both.below (h : Both w L K R F) (hb : Below w.heap.size w w') : Both w' L K R F := ⟨h.rk.below hb, h.rf.below hb, h.ne⟩
end


theorem Rk.doom_n (R : Rk) (i n : Int) : (R.doom i n).n = R.n := by unfold Rk.doom; split <;> rfl
end Go.Proofs.YtacnhlmhibhlhaaGreat

/-
  The program's rack and the reference's, held against each other: what each call keeps alike.
-/
namespace Go.Proofs.YtacnhlmhibhlhaaGreat
open Go.RowKit Go.Maps

theorem idx_div {S i s : Nat} (h : s < S) : (i * S + s) / S = i := by
  rw [Nat.add_comm, Nat.add_mul_div_right _ _ (by omega), Nat.div_eq_of_lt h]; omega
theorem idx_inj {S i j s t : Nat} (hs : s < S) (ht : t < S) (h : j * S + t = i * S + s) : j = i ∧ t = s := by
  have a := idx_div (i := i) hs
  have b := idx_div (i := j) ht
  rw [h, a] at b
  subst b
  exact ⟨rfl, by omega⟩
theorem idx_in {S i j t : Nat} (ht : t < S) : (i * S ≤ j * S + t ∧ j * S + t < i * S + S) ↔ j = i := by
  constructor
  · rintro ⟨h1, h2⟩
    have := idx_inj (S := S) (i := i) (j := j) (s := j * S + t - i * S) (t := t) (by omega) ht (by omega)
    exact this.1
  · rintro rfl; omega
structure Rel (R : Rk) (F : Rf) : Prop where
  n : R.n = F.n
  S : R.S = F.S
  off : R.off = F.dead
  pw : F.pw = max R.cnt (-1)
  bad : ∀ i, i < R.n → (R.d i).bad = F.bad i
  cnt : ∀ i, i < R.n → F.bad i = false → F.cnt i = max (R.d i).cnt (-1)
  last : ∀ i s, i < R.n → s < R.S → sec (R.d i).last s = F.L (i * R.S + s)
  cache : ∀ i s, i < R.n → s < R.S → (R.d i).cache s = F.C (i * R.S + s)

section
variable {R : Rk} {F : Rf}
theorem Rel.read (h : Rel R F) {i s : Nat} (hi : i < R.n) (hs : s < R.S) : (R.d i).read s = F.rd (i * R.S + s) := by
  unfold Dk.read Rf.rd
  rw [h.cache i s hi hs, h.last i s hi hs]
theorem Rel.pw0 (h : Rel R F) : F.pw = 0 ↔ R.cnt = 0 := by rw [h.pw]; omega
theorem Rel.call (h : Rel R F) : Rel R.call F.call := by
  by_cases h0 : R.cnt = 0
  · have e1 : R.call = { R with off := true } := by unfold Rk.call; rw [if_pos h0]
    have e2 : F.call = { F with dead := true } := by unfold Rf.call; rw [if_pos (h.pw0.2 h0)]
    rw [e1, e2]
    exact ⟨h.n, h.S, rfl, h.pw, h.bad, h.cnt, h.last, h.cache⟩
  · have e1 : R.call = { R with cnt := if 0 < R.cnt then R.cnt - 1 else R.cnt, d := fun j => (R.d j).called } := by unfold Rk.call; rw [if_neg h0]
    have e2 : F.call = { F with pw := if 0 < F.pw then F.pw - 1 else F.pw, bad := badN F, cnt := cntN F } := by unfold Rf.call; rw [if_neg (fun x => h0 (h.pw0.1 x))]
    rw [e1, e2]
    refine ⟨h.n, h.S, h.off, ?_, fun i hi => ?_, fun i hi hb => ?_, h.last, h.cache⟩
    · have := h.pw
      show (if 0 < F.pw then F.pw - 1 else F.pw) = max (if 0 < R.cnt then R.cnt - 1 else R.cnt) (-1)
      split <;> split <;> omega
    · show ((R.d i).bad || (R.d i).cnt == 0) = (F.bad i || F.cnt i == 0)
      rw [h.bad i hi]
      cases hb : F.bad i with
      | true => rfl
      | false =>
        have := h.cnt i hi hb
        rw [Bool.false_or, Bool.false_or, Bool.eq_iff_iff]
        simp only [beq_iff_eq]
        omega
    · have hb' : (F.bad i || F.cnt i == 0) = false := hb
      rw [Bool.or_eq_false_iff] at hb'
      have := h.cnt i hi hb'.1
      have hz : F.cnt i ≠ 0 := by simpa using hb'.2
      show (if F.bad i then F.cnt i else if 0 < F.cnt i then F.cnt i - 1 else F.cnt i) = max (if 0 < (R.d i).cnt then (R.d i).cnt - 1 else (R.d i).cnt) (-1)
      rw [hb'.1]
      rw [if_neg (by simp)]
      split <;> split <;> omega
theorem Rel.callE (h : Rel R F) {i : Nat} (hi : i < R.n) : R.callE i = F.callB i := by
  unfold Rk.callE Rf.callB
  by_cases h0 : R.cnt = 0
  · rw [if_pos h0, if_pos (h.pw0.2 h0)]
  · rw [if_neg h0, if_neg (fun x => h0 (h.pw0.1 x))]
    have e1 : R.call = { R with cnt := if 0 < R.cnt then R.cnt - 1 else R.cnt, d := fun j => (R.d j).called } := by unfold Rk.call; rw [if_neg h0]
    have hc := h.call.bad i (by rw [Rk.call_n]; exact hi)
    rw [e1] at hc
    rw [show (R.d i).called.bad = F.call.bad i from hc]
theorem Rel.setD (h : Rel R F) {i : Nat} {d : Dk} {F' : Rf} (hn : F'.n = F.n) (hS : F'.S = F.S) (hd : F'.dead = F.dead) (hp : F'.pw = F.pw)
    (hb : ∀ j, j < R.n → (if j = i then d else R.d j).bad = F'.bad j) (hc : ∀ j, j < R.n → F'.bad j = false → F'.cnt j = max (if j = i then d else R.d j).cnt (-1))
    (hl : ∀ j s, j < R.n → s < R.S → sec (if j = i then d else R.d j).last s = F'.L (j * R.S + s)) (hC : ∀ j s, j < R.n → s < R.S → (if j = i then d else R.d j).cache s = F'.C (j * R.S + s)) : Rel (R.setD i d) F' :=
  ⟨h.n.trans hn.symm, h.S.trans hS.symm, h.off.trans hd.symm, hp.trans h.pw, hb, hc, hl, hC⟩
theorem Rel.flush (h : Rel R F) {i : Nat} (hi : i < R.n) (hlen : ∀ s, s < R.S → ((R.d i).read s).length = 64) : Rel (R.setD i ((R.d i).flush R.S)) (F.flushed (i * F.S) ((i + 1) * F.S)) := by
  have hin : ∀ j t, t < R.S → ((i * F.S ≤ j * R.S + t ∧ j * R.S + t < (i + 1) * F.S) ↔ j = i) := fun j t ht => by
    rw [← h.S, Nat.add_mul, Nat.one_mul]; exact idx_in ht
  refine h.setD rfl rfl rfl rfl (fun j hj => ?_) (fun j hj hb => ?_) (fun j t hj ht => ?_) (fun j t hj ht => ?_)
  · by_cases e : j = i
    · subst e; rw [if_pos rfl]; exact h.bad j hj
    · rw [if_neg e]; exact h.bad j hj
  · by_cases e : j = i
    · subst e; rw [if_pos rfl]; exact h.cnt j hj hb
    · rw [if_neg e]; exact h.cnt j hj hb
  · show _ = (if i * F.S ≤ j * R.S + t ∧ j * R.S + t < (i + 1) * F.S then F.rd (j * R.S + t) else F.L (j * R.S + t))
    by_cases e : j = i
    · rw [if_pos e, if_pos ((hin j t ht).2 e)]
      subst e
      show sec (joinS R.S (R.d j).read) t = _
      rw [sec_join hlen ht, h.read hj ht]
    · rw [if_neg e, if_neg (fun x => e ((hin j t ht).1 x)), h.last j t hj ht]
  · show _ = (if i * F.S ≤ j * R.S + t ∧ j * R.S + t < (i + 1) * F.S then none else F.C (j * R.S + t))
    by_cases e : j = i
    · rw [if_pos e, if_pos ((hin j t ht).2 e)]
      rfl
    · rw [if_neg e, if_neg (fun x => e ((hin j t ht).1 x)), h.cache j t hj ht]
theorem Rel.doom (h : Rel R F) {i : Nat} (hi : i < R.n) (n : Int) : Rel (R.setD i { R.d i with cnt := n }) { F with cnt := atI F.cnt i (max n (-1)) } := by
  refine h.setD rfl rfl rfl rfl (fun j hj => ?_) (fun j hj hb => ?_) (fun j t hj ht => ?_) (fun j t hj ht => ?_)
  · by_cases e : j = i
    · subst e; rw [if_pos rfl]; exact h.bad j hj
    · rw [if_neg e]; exact h.bad j hj
  · show (if j = i then max n (-1) else F.cnt j) = _
    by_cases e : j = i
    · rw [if_pos e, if_pos e]
    · rw [if_neg e, if_neg e]; exact h.cnt j hj hb
  · by_cases e : j = i
    · subst e; rw [if_pos rfl]; exact h.last j t hj ht
    · rw [if_neg e]; exact h.last j t hj ht
  · by_cases e : j = i
    · subst e; rw [if_pos rfl]; exact h.cache j t hj ht
    · rw [if_neg e]; exact h.cache j t hj ht

end

end Go.Proofs.YtacnhlmhibhlhaaGreat

/-
  Every call keeps the racks alike, and they answer alike.
-/
namespace Go.Proofs.YtacnhlmhibhlhaaGreat
open Go.RowKit Go.Maps

theorem rf_call_S (F : Rf) : F.call.S = F.S := by unfold Rf.call; split <;> rfl
section
variable {R : Rk} {F : Rf}
theorem Rel.flE (h : Rel R F) (i : Int) : R.flE i = F.flE i := by
  unfold Rk.flE Rf.flE
  rw [← h.off, ← h.n]
  by_cases ho : R.off = true
  · rw [if_pos ho, if_pos ho]
  · rw [if_neg ho, if_neg ho]
    by_cases g : 0 ≤ i ∧ i < R.n
    · rw [if_pos g, if_pos g]
      obtain ⟨x, rfl, hx⟩ := disk_nat g
      exact h.callE hx
    · rw [if_neg g, if_neg g]
theorem called_read {R : Rk} {i : Nat} {s : Nat} : (R.call.d i).read s = (R.d i).read s := by
  unfold Rk.call
  split <;> rfl
theorem Rel.fl (h : Rel R F) (i : Int) (hlen : ∀ j s, j < R.n → s < R.S → ((R.d j).read s).length = 64) : Rel (R.fl i) (F.fl i) := by
  unfold Rk.fl Rf.fl
  rw [← h.off, ← h.n]
  by_cases g : R.off = false ∧ (0 ≤ i ∧ i < R.n)
  · rw [if_pos g, if_pos g]
    obtain ⟨x, rfl, hx⟩ := disk_nat g.2
    rw [Int.toNat_natCast, h.callE hx]
    by_cases e : F.callB x = 0
    · rw [if_pos e, if_pos e]
      have := h.call.flush (i := x) (by rw [Rk.call_n]; exact hx) (fun s hs => by rw [called_read]; exact hlen x s hx (by rwa [Rk.call_S] at hs))
      rwa [rf_call_S, Rk.call_S] at this
    · rw [if_neg e, if_neg e]
      exact h.call
  · rw [if_neg g, if_neg g]
    exact h
theorem Rel.dkE (h : Rel R F) (i : Int) : R.dkE i = F.dkE i := by unfold Rk.dkE Rf.dkE; rw [h.n]
theorem Rel.dm (h : Rel R F) (i n : Int) : Rel (R.doom i n) (F.doom i n) := by
  by_cases g : 0 ≤ i ∧ i < R.n
  · have g' : 0 ≤ i ∧ i < F.n := by rw [← h.n]; exact g
    unfold Rk.doom Rf.doom
    rw [if_pos g, if_pos g']
    obtain ⟨x, rfl, hx⟩ := disk_nat g
    exact h.doom hx n
  · have g' : ¬ (0 ≤ i ∧ i < F.n) := by rw [← h.n]; exact g
    unfold Rk.doom Rf.doom
    rw [if_neg g, if_neg g']
    exact h
theorem Rel.failed (h : Rel R F) (i : Int) : R.failed i = F.failed i := by
  unfold Rk.failed Rf.failed
  rw [← h.n]
  by_cases g : 0 ≤ i ∧ i < R.n
  · obtain ⟨x, rfl, hx⟩ := disk_nat g
    rw [Int.toNat_natCast, h.bad x hx]
  · rw [decide_eq_false g]; rfl
theorem Rel.rdE (h : Rel R F) (i s : Int) : R.rdE i s = F.rdE i s := by
  unfold Rk.rdE Rf.rdE
  rw [← h.off, ← h.n, ← h.S]
  by_cases ho : R.off = true
  · rw [if_pos ho, if_pos ho]
  · rw [if_neg ho, if_neg ho]
    by_cases g : hasB R.n R.S i s = true
    · rw [if_pos g, if_pos g]
      obtain ⟨x, y, rfl, rfl, hx, hy⟩ := hasB_nat g
      rw [Int.toNat_natCast, h.bad x hx]
    · rw [if_neg g, if_neg g]
theorem Rel.rdV (h : Rel R F) (i s : Int) : R.rdV i s = F.rdV i s := by
  unfold Rk.rdV Rf.rdV
  rw [← h.rdE]
  by_cases e : R.rdE i s = 0
  · rw [if_pos e, if_pos e]
    have g : hasB R.n R.S i s = true := by
      unfold Rk.rdE at e
      by_cases ho : R.off = true
      · rw [if_pos ho] at e; omega
      · rw [if_neg ho] at e
        by_cases g : hasB R.n R.S i s = true
        · exact g
        · rw [if_neg g] at e; omega
    obtain ⟨x, y, rfl, rfl, hx, hy⟩ := hasB_nat g
    rw [Int.toNat_natCast, Int.toNat_natCast, h.read hx hy, h.S]
  · rw [if_neg e, if_neg e]
end
theorem Rel.new (n S : Nat) : Rel (newRk n S) (newRf n S) := by
  refine ⟨rfl, rfl, rfl, rfl, fun _ _ => rfl, fun _ _ _ => rfl, fun i s hi hs => ?_, fun _ _ _ _ => rfl⟩
  show sec (List.replicate (S * 64) 0) s = List.replicate 64 0
  have hs' : s < S := hs
  unfold sec
  rw [List.drop_replicate, List.take_replicate, Nat.min_eq_left]
  have : (s + 1) * 64 ≤ S * 64 := Nat.mul_le_mul_right _ hs'
  omega

end Go.Proofs.YtacnhlmhibhlhaaGreat

/-
  What the reference's New answers, laid into a variable that is made behind it: a rack, beside another one.
-/
namespace Go.Proofs.YtacnhlmhibhlhaaGreat
open Go.RowKit Go.Maps

theorem RefAt.of_new2 {w w' : World} {B p n S P : Nat} {v : Nat → Value} {xs : Nat → List Value} (h : NewD w B p n S (fun i => if i < 2 then n * S else n) v xs) (hb : Below w.heap.size w w') (hP : P = w.heap.size) (hBP : B ≤ P)
    (hx1 : xs 1 = List.replicate (n * S) (.slice none 0 0)) (hx2 : xs 2 = List.replicate n (.bool false)) (hx3 : xs 3 = List.replicate n (.int .i64 (-1)))
    (hrow : w'.heap[P]? = some (.cells #[.int .i64 n, .int .i64 S, v 0, v 1, v 2, v 3, .int .i64 (-1), .bool false] 38 (0, 0))) (h1 : 1 ≤ n) (h2 : n ≤ 17) (h3 : 1 ≤ S) (h4 : S ≤ 4096) (N : Nat → Prop) (hN : ∀ k, N k → k < B) :
    ∃ L : RLay, L.p = P ∧ (∀ k, L.M k → B ≤ k) ∧ RefAt w' (fun k => N k ∨ L.M k) L (newRf n S) := by
  have hkp : 0 < n * S := Nat.mul_pos h1 h3
  obtain ⟨g0, p0, e0⟩ := h.form 0 (by omega) hkp
  obtain ⟨g1, p1, e1⟩ := h.form 1 (by omega) hkp
  obtain ⟨g2, p2, e2⟩ := h.form 2 (by omega) h1
  obtain ⟨g3, p3, e3⟩ := h.form 3 (by omega) h1
  have b0 := (h.own 0 (by omega)).lt g0 (by rw [e0]; rfl)
  have b1 := (h.own 1 (by omega)).lt g1 (by rw [e1]; rfl)
  have b2 := (h.own 2 (by omega)).lt g2 (by rw [e2]; rfl)
  have b3 := (h.own 3 (by omega)).lt g3 (by rw [e3]; rfl)
  have h' := h.below hb
  have o0 := h'.own 0 (by omega)
  have o1 := h'.own 1 (by omega)
  have o2 := h'.own 2 (by omega)
  have o3 := h'.own 3 (by omega)
  have hne : ∀ i j, i < 4 → j < 4 → i ≠ j → ∀ a b, (v i).ownBlock = some a → (v j).ownBlock = some b → a ≠ b := fun i j hi hj hij a b ha hb e => h.ne i j hi hj hij a ha (by rw [hb, e])
  have w0 : (v 0).ownBlock = some g0 := by rw [e0]; rfl
  have w1 : (v 1).ownBlock = some g1 := by rw [e1]; rfl
  have w2 : (v 2).ownBlock = some g2 := by rw [e2]; rfl
  have w3 : (v 3).ownBlock = some g3 := by rw [e3]; rfl
  have hsz := hb.size
  rw [e0] at o0
  rw [e1, hx1] at o1
  rw [e2, hx2] at o2
  rw [e3, hx3] at o3
  rw [e0, e1, e2, e3] at hrow
  have hlow : ∀ k, (⟨P, g0, g1, g2, g3, p0, p1, p2, p3⟩ : RLay).M k → B ≤ k := by
    intro k hk
    rcases hk with rfl | rfl | rfl | rfl | rfl
    · exact hBP
    · exact b0.1
    · exact b1.1
    · exact b2.1
    · exact b3.1
  refine ⟨⟨P, g0, g1, g2, g3, p0, p1, p2, p3⟩, rfl, hlow, fun j => (xs 0).getD j undef, fun _ => .slice none 0 0, ⟨hrow, col_own o0, ?_, ?_, ?_, fun k hk => ?_, fun k _ => .inl ⟨rfl, rfl⟩, ⟨?_, ?_, ?_, ?_, ?_, ?_, ?_, ?_, ?_, ?_⟩, fun _ x => .inr x, fun k hk => ?_, h2, h3, h4, (by show (-1 : Int) ≤ _; omega), fun _ => (by show (-1 : Int) ≤ _; omega)⟩⟩
  · exact (col_own o1).congr fun k hk => by simp [List.getD, show k < n * S from hk]
  · exact (col_own o2).congr fun k hk => by simp [List.getD, show k < n from hk, newRf]
  · exact (col_own o3).congr fun k hk => by simp [List.getD, show k < n from hk, newRf]
  · obtain ⟨g, he, hbk, hB, hno⟩ := h.el k hk
    have hgl := hbk.lt
    refine ⟨g, 64, by simp [List.getD, he], ?_, (hbk.below hgl hb).bysn (AllB.zeros _) (by simp)⟩
    intro hM
    rcases hM with hM | rfl | rfl | rfl | rfl | rfl
    · have := hN _ hM
      omega
    · show False
      omega
    · exact hno 0 (by omega) w0
    · exact hno 1 (by omega) w1
    · exact hno 2 (by omega) w2
    · exact hno 3 (by omega) w3
  · show P ≠ g0; omega
  · show P ≠ g1; omega
  · show P ≠ g2; omega
  · show P ≠ g3; omega
  · exact hne 0 1 (by omega) (by omega) (by omega) _ _ w0 w1
  · exact hne 0 2 (by omega) (by omega) (by omega) _ _ w0 w2
  · exact hne 0 3 (by omega) (by omega) (by omega) _ _ w0 w3
  · exact hne 1 2 (by omega) (by omega) (by omega) _ _ w1 w2
  · exact hne 1 3 (by omega) (by omega) (by omega) _ _ w1 w3
  · exact hne 2 3 (by omega) (by omega) (by omega) _ _ w2 w3
  · have hPl := lt_of_block hrow
    rcases hk with hk | rfl | rfl | rfl | rfl | rfl
    · have := hN k hk; omega
    · exact hPl
    · omega
    · omega
    · omega
    · omega

theorem both_new2 {w w6 : World} {B p n S : Nat} {v : Nat → Value} {xs : Nat → List Value} {L : Lay} {R : Rk} (hr : RackAt w (L.M R.n) L R) (hb : Below w.heap.size w w6)
    (hD : NewD w6 B p n S (fun i => if i < 2 then n * S else n) v xs) (hx1 : xs 1 = List.replicate (n * S) (.slice none 0 0)) (hx2 : xs 2 = List.replicate n (.bool false)) (hx3 : xs 3 = List.replicate n (.int .i64 (-1)))
    (hB : w.heap.size ≤ B) (hBP : B ≤ w6.heap.size) (h1 : 1 ≤ n) (h2 : n ≤ 17) (h3 : 1 ≤ S) (h4 : S ≤ 4096) :
    ∃ K : RLay, K.p = w6.heap.size ∧ (∀ k, K.M k → w.heap.size ≤ k) ∧ Both (w6.alloc (.cells #[.int .i64 n, .int .i64 S, v 0, v 1, v 2, v 3, .int .i64 (-1), .bool false] 38 (0, 0))) L K R (newRf n S) := by
  have ha : Below w6.heap.size w6 (w6.alloc (.cells #[.int .i64 n, .int .i64 S, v 0, v 1, v 2, v 3, .int .i64 (-1), .bool false] 38 (0, 0))) := (Below.refl _ _).alloc (Nat.le_refl _) _
  have hb' := hb.trans (ha.mono hb.size)
  have hlow : ∀ k, L.M R.n k → k < w.heap.size := hr.low
  obtain ⟨K, e1, e2, e3⟩ := RefAt.of_new2 hD ha rfl hBP hx1 hx2 hx3 (heap_alloc_new w6 _) h1 h2 h3 h4 (fun k => L.M R.n k) (fun k hk => by have := hlow k hk; omega)
  have hK : ∀ k, K.M k → w.heap.size ≤ k := fun k hk => Nat.le_trans hB (e2 k hk)
  refine ⟨K, e1, hK, ⟨?_, e3, fun k hk hk' => ?_⟩⟩
  · refine hr.wide hb' (fun k hk => ?_) (fun k hk => .inl hk) (fun k hk => ?_)
    · rcases hk with hk | hk
      · exact .inl hk
      · exact .inr (hK k hk)
    · obtain ⟨fl, fc, hx⟩ := e3
      exact hx.low k hk
  · have := hlow k hk
    have := hK k hk'
    omega

end Go.Proofs.YtacnhlmhibhlhaaGreat

/-
  The reference's Load, by contract; two racks that were loaded alike.
-/
namespace Go.Proofs.YtacnhlmhibhlhaaGreat
open Go.RowKit Go.Maps
set_option linter.unusedVariables false
theorem rload_bad (M : Nat → Prop) (L : RLay) (F : Rf) (w : World) (i : Int) (a : Option Addr) (n c : Nat) (h : RefAt w M L F) (hb : ¬ (0 ≤ i ∧ i < F.n)) :
    Calls Tryz.prog 12 #[.pointer (some ⟨L.p, 0, none⟩), .int .i64 i, .slice a n c] w fun e w' => e = .returned (.int .i64 11) ∧ w = w' := by
  obtain ⟨fl, fc, h⟩ := h
  have c0 := h.c0
  by_cases h0 : i < 0
  · clear hb
    go_enter Tryz.func12, Tryz.ntmps12
    go_wp2
    go_ret
    exact ⟨rfl, rfl⟩
  · have h1 : (F.n : Int) ≤ i := by omega
    clear hb
    go_enter Tryz.func12, Tryz.ntmps12
    go_wp2
    go_ret
    exact ⟨rfl, rfl⟩

set_option maxRecDepth 100000 in
set_option maxHeartbeats 4000000 in
theorem rload_ok (M : Nat → Prop) (L : RLay) (F : Rf) (w : World) (i la ca : Nat) (a : Option Addr) (zs : List Int) (h : RefAt w M L F) (hi : i < F.n) (hx : Bys w a la zs) (hxm : la = 0 ∨ ∀ b off, a = some ⟨b, off, none⟩ → ¬ L.M b) (hla : la ≤ 1000000000000) :
    Calls Tryz.prog 12 #[.pointer (some ⟨L.p, 0, none⟩), .int .i64 i, .slice a la ca] w (RefPost M L (F.loaded (i * F.S) (loadL F.S zs) F.S) w (.int .i64 0)) := by
  obtain ⟨fl, fc, h⟩ := h
  obtain ⟨n, hn⟩ : ∃ n, Hid (n = F.n) := ⟨_, Lib.hid rfl⟩
  obtain ⟨S, hS⟩ : ∃ S, Hid (S = F.S) := ⟨_, Lib.hid rfl⟩
  obtain ⟨N, hN⟩ : ∃ N, Hid (N = F.n * F.S) := ⟨_, Lib.hid rfl⟩
  obtain ⟨B, hB⟩ : ∃ B, Hid (B = i * F.S) := ⟨_, Lib.hid rfl⟩
  obtain ⟨x, hx0⟩ : ∃ x, Hid (x = loadL F.S zs) := ⟨_, Lib.hid rfl⟩
  have few := h.few
  have fewS := h.fewS
  have hin : (i : Int) < (n : Int) := by have := hn.out; omega
  have i0 : (0 : Int) ≤ (i : Int) := Int.natCast_nonneg _
  have hdn : decide (n ≤ i) = false := by simp; omega
  have hdn' : decide ((n : Int) ≤ (i : Int)) = false := by simp; omega
  have hdi : decide ((i : Int) < 0) = false := by simp
  have hS4 : (S : Int) ≤ 4096 := by have := hS.out; omega
  have hS1 : (1 : Int) ≤ (S : Int) := by have := h.one; have := hS.out; omega
  have hBN : B + S ≤ N := by
    have h1 : (i + 1) * F.S ≤ F.n * F.S := Nat.mul_le_mul_right F.S hi
    rw [Nat.succ_mul] at h1
    rw [hB.out, hN.out, hS.out]; exact h1
  have hN1 : N ≤ 100000 := by
    have : F.n * F.S ≤ 17 * 4096 := Nat.mul_le_mul few fewS
    rw [hN.out]; omega
  have eB : (i : Int) * (S : Int) = (B : Int) := by rw [hB.out, hS.out]; simp
  have hxl : x.length = S * 64 := by rw [hx0.out, hS.out]; exact loadL_len _ _
  have hxs : AllB x := by rw [hx0.out]; exact loadL_small _ hx.small
  have hxb : Hid (∀ j, j < S * 64 → byt x j = byt zs j) := fun j hj => by rw [hx0.out]; exact byt_loadL (by rw [← hS.out]; exact hj)
  have c0 := h.c0
  rw [← hn.out] at c0
  have hfin : Hid (F.loaded (i * F.S) (loadL F.S zs) F.S = F.loaded B x S) := by unfold Hid; rw [hB.out, hx0.out, hS.out]
  go_enter Tryz.func12, Tryz.ntmps12
  go_wp2_with (fail)
  go_loopw [7] (fun t wr => ∃ k : Nat, k ≤ S ∧ t = .int .i64 k ∧ RefAt wr M L (F.loaded B x k) ∧ Turn L.M w wr) (fun t _ => S - (RowKit.intOf t).toNat)
  case atStart => exact ⟨0, Nat.zero_le _, rfl, by rw [loaded_start]; exact ⟨fl, fc, h⟩, Turn.refl _ _⟩
  case round =>
    obtain ⟨k, hk, rfl, hr2, ht2⟩ := hrel
    obtain ⟨fl2, fc2, hr2⟩ := hr2
    have a1 : wr.cell? ⟨L.p, 1, none⟩ = some (.int .i64 S) := by have := hr2.c1; rwa [show (F.loaded B x k).S = S from hS.out.symm] at this
    have hxr := bys_turn' hx ht2 hxm
    clear c0 h
    by_cases hlt : k < S
    · go_wp2_with (at_make; refine wpList_mk rfl _ _ rfl .i64 .i64 64 64 64 rfl rfl rfl rfl (by omega) ?_; intro w3 hb3 hl3)
      have hgM : ¬ M wr.heap.size := fun y => Nat.lt_irrefl _ (hr2.low _ y)
      have hgw : Hid (w.heap.size ≤ wr.heap.size) := ht2.size
      have ltp := hr2.ltp
      obtain ⟨g, hgg⟩ : ∃ g, Hid (g = wr.heap.size) := ⟨_, Lib.hid rfl⟩
      have hbg : Below g wr w3 := by rw [hgg.out]; exact hl3
      rw [← hgg.out] at hgM hb3 ⊢
      have k0 : (0 : Int) ≤ (k : Int) := Int.natCast_nonneg _
      have k1 : (k : Int) < (S : Int) := by omega
      have hsl : Hid ((sec x k).length = 64) := sec_len hxl hlt
      go_wp2_with (fail)
      obtain ⟨wo, rfl⟩ : ∃ wo : World, wo = wr := ⟨_, rfl⟩
      go_loopw [9] (fun t wq => ∃ (j : Nat) (ys : List Int), j ≤ 64 ∧ t = .int .i64 j ∧ Blk wq g ys ∧ Mix ys (List.replicate 64 0) (sec x k) j ∧ Below g wo wq) (fun t _ => 64 - (RowKit.intOf t).toNat)
      case atStart => exact ⟨0, _, Nat.zero_le _, rfl, hb3, Mix.start (by rw [hsl.out]; simp), hbg⟩
      case round =>
        obtain ⟨j, ys, hj, rfl, hblk, hmix, hbel⟩ := hrel
        have hxq : Bys wr a la zs := hxr.below (by rw [hgg.out]; exact Nat.le_refl _) hbel
        clear hb3 hl3 hbg
        have hmd := hmix.len
        rw [hsl.out] at hmd
        by_cases hin2 : j < 64 ∧ k * 64 + j < la
        · obtain ⟨hj6, hja⟩ := hin2
          rcases hxq.place with h0 | ⟨ba, oa, rfl, hbl, hca⟩
          · omega
          have hci := hca (k * 64 + j) hja
          have cg := hblk.cell (i := j) (by omega)
          have fg := hblk.free j
          obtain ⟨v, hv⟩ : ∃ v, Hid (v = byt zs (k * 64 + j)) := ⟨_, Lib.hid rfl⟩
          rw [← hv.out] at hci
          have hnext := hmix.set (z := v) (by rw [hsl.out]; omega) (by rw [hv.out, byt_sec hj6, hxb.out _ (by omega)])
          have hnext' : Hid (Mix (ys.set j v) (List.replicate 64 0) (sec x k) (j + 1)) := hnext
          clear hca hxq hmix hnext hx hxr
          go_wp2_with (fail)
          go_roundw
          case rel => exact ⟨j + 1, ys.set j v, by omega, by go_num, hblk.set j v, hnext'.out, hbel.setCell (by rw [hgg.out]; exact Nat.le_refl _) _⟩
          case measure => simp [RowKit.intOf]; omega
        · have hys : ys = sec x k := hmix.done fun t h1 h2 => by
            rw [hsl.out] at h2
            rw [byt_zero, byt_sec h2, hxb.out _ (by omega), byt_past (by rw [hx.len]; omega)]
          subst hys
          have hex : j = 64 ∨ (j < 64 ∧ la ≤ k * 64 + j) := by omega
          have hr4 : RefD wr M L (F.loaded B x k) fl2 fc2 := hr2.keep (Turn.of_below (M := fun _ => False) (by rw [← hgg.out]; exact hbel)) (fun _ x => x.elim) (fun _ _ x => x)
          have ht4 : Turn L.M w wr := ht2.trans (Turn.of_below (by rw [← hgg.out]; exact hbel))
          have hy4 : Bys wr (some ⟨g, 0, none⟩) 64 (sec x k) := hblk.bysn (hxs.sec k) hsl.out
          have hqN : B + k < (F.loaded B x k).n * (F.loaded B x k).S := by show B + k < F.n * F.S; rw [← hN.out]; omega
          obtain ⟨q, hq⟩ : ∃ q, Hid (q = B + k) := ⟨_, Lib.hid rfl⟩
          rw [← hq.out] at hqN
          have hkE : (i : Int) * (S : Int) + (k : Int) = (q : Int) := by rw [eB]; have := hq.out; omega
          have x1 : IntKind.i64.wrap ((i : Int) * (S : Int)) = (i : Int) * (S : Int) := by rw [eB]; exact IntWalk.i64_in _ (by omega)
          have x2 : IntKind.i64.wrap (q : Int) = (q : Int) := IntWalk.i64_in _ (by have := hq.out; omega)
          have q0 : (0 : Int) ≤ (q : Int) := Int.natCast_nonneg _
          have q1 : (q : Int) < (N : Int) := by have := hq.out; omega
          have A := hr4.apart
          have hcnt : (F.loaded B x k).n * (F.loaded B x k).S = N := hN.out.symm
          have d1 : wr.cell? ⟨L.p, 1, none⟩ = some (.int .i64 S) := by have := hr4.c1; rwa [show (F.loaded B x k).S = S from hS.out.symm] at this
          have d2 : wr.cell? ⟨L.p, 2, none⟩ = some (.slice (some ⟨L.lb, 0, none⟩) N L.k1) := by have := hr4.c2; rwa [hcnt] at this
          have dl := hr4.cl.cell hqN
          obtain ⟨vl, hvl⟩ : ∃ v, Hid (v = fl2 q) := ⟨_, Lib.hid rfl⟩
          rw [← hvl.out] at dl
          have dfl := hr4.cl.free q
          have hd5 : RefD wr.drew M L (F.loaded B x k) fl2 fc2 := hr4.keep (turn_drew (fun _ => False) _) (fun _ x => x.elim) (fun _ _ x => x)
          have hr5 := hd5.setL hqN (.slice (some ⟨g, 0, none⟩) 64 64) (sec x k) ⟨g, 64, rfl, hgM, ⟨hy4.len, hy4.small, hy4.place⟩⟩
          have ht5 : Turn L.M w (wr.drew.setCell ⟨L.lb, q, none⟩ (.slice (some ⟨g, 0, none⟩) 64 64)) := (ht4.trans (turn_drew _ _)).trans ((turn_set _ L.lb q _).mono fun j e => e ▸ L.M_lb)
          obtain ⟨w5, hw5⟩ : ∃ w5, w5 = (wr.setCell ⟨L.lb, q, none⟩ (.slice (some ⟨g, 0, none⟩) 64 64)).drew := ⟨_, rfl⟩
          rw [show wr.drew.setCell ⟨L.lb, q, none⟩ (.slice (some ⟨g, 0, none⟩) 64 64) = (wr.setCell ⟨L.lb, q, none⟩ (.slice (some ⟨g, 0, none⟩) 64 64)).drew from rfl, ← hw5] at hr5 ht5
          have e1 : w5.cell? ⟨L.p, 1, none⟩ = some (.int .i64 S) := by have := hr5.c1; rwa [show (F.loaded B x k).S = S from hS.out.symm] at this
          have e3 : w5.cell? ⟨L.p, 3, none⟩ = some (.slice (some ⟨L.cb, 0, none⟩) N L.k2) := by have := hr5.c3; rwa [show ({ F.loaded B x k with L := atI (F.loaded B x k).L q (sec x k) } : Rf).n * ({ F.loaded B x k with L := atI (F.loaded B x k).L q (sec x k) } : Rf).S = N from hcnt] at this
          have el := hr5.cc.cell hqN
          obtain ⟨vc, hvc⟩ : ∃ v, Hid (v = fc2 q) := ⟨_, Lib.hid rfl⟩
          rw [← hvc.out] at el
          have efl := hr5.cc.free q
          have hd6 : RefD w5.drew M L _ _ _ := hr5.keep (turn_drew (fun _ => False) _) (fun _ x => x.elim) (fun _ _ x => x)
          have hr6 := hd6.setC hqN (.slice none 0 0) none (.inl ⟨rfl, rfl⟩)
          have hend : Hid (RefAt (w5.drew.setCell ⟨L.cb, q, none⟩ (.slice none 0 0)) M L (F.loaded B x (k + 1)) ∧ Turn L.M w (w5.drew.setCell ⟨L.cb, q, none⟩ (.slice none 0 0))) := by
            refine ⟨⟨_, _, hr6.congr rfl rfl rfl rfl (fun j _ => ?_) (fun j _ => ?_) (fun _ _ => rfl) (fun _ _ => rfl) hr4.bigc⟩, (ht5.trans (turn_drew _ _)).trans ((turn_set _ L.cb q _).mono fun j e => e ▸ L.M_cb)⟩
            · rw [loaded_L F, hq.out]
            · rw [loaded_C F, hq.out]
          clear hr2 hxq hmix hx hxr hbel ht2 hblk hin2 hmd hr4 hd5 hr5 hd6 hr6 ht4 ht5 A hy4 a1 eB hcnt hxm hxl
          rcases hex with rfl | ⟨hj6, hja⟩
          all_goals
            go_wp2_with (fail)
            go_still_tail 14, (by kernel_rfl)
            change wpList _ _ _ _ _ wr.drew
            go_wp2_with (fail)
            rw [← hw5]
            clear hw5 d1 d2 dl dfl
            go_still_tail 13, (by kernel_rfl)
            change wpList _ _ _ _ _ w5.drew
            go_wp2_with (fail)
            go_roundw
            case rel => exact ⟨k + 1, by omega, by go_num, hend.out.1, hend.out.2⟩
            case measure => simp [RowKit.intOf]; omega
    · obtain rfl : k = S := by omega
      clear hx hxr
      go_wp2_with (fail)
      go_ret
      rw [hfin.out]
      exact ⟨rfl, ⟨fl2, fc2, hr2⟩, ht2⟩

def Rf.ld (F : Rf) (i : Int) (zs : List Int) : Rf := if 0 ≤ i ∧ i < F.n then F.loaded (i.toNat * F.S) (loadL F.S zs) F.S else F
section
variable {M : Nat → Prop} {L : RLay} {F : Rf} {w : World}
theorem rload_all (i : Int) (a : Option Addr) (n c : Nat) (zs : List Int) (h : RefAt w M L F) (hx : Bys w a n zs) (hxm : n = 0 ∨ ∀ b off, a = some ⟨b, off, none⟩ → ¬ L.M b) (hn : n ≤ 1000000000000) :
    Calls Tryz.prog 12 #[.pointer (some ⟨L.p, 0, none⟩), .int .i64 i, .slice a n c] w (RefPost M L (F.ld i zs) w (.int .i64 (F.dkE i))) := by
  unfold Rf.ld Rf.dkE
  by_cases hb : 0 ≤ i ∧ i < F.n
  · obtain ⟨x, rfl, hi⟩ := disk_nat hb
    rw [if_pos hb, if_pos hb, Int.toNat_natCast]
    exact rload_ok M L F w x n c a zs h hi hx hxm hn
  · rw [if_neg hb, if_neg hb]
    exact (rload_bad M L F w i a n c h hb).mono fun e w' he => rpost_same h he
end
section
variable {R : Rk} {F : Rf}
theorem Rel.load (h : Rel R F) {i : Nat} (hi : i < R.n) (zs : List Int) : Rel (R.setD i ((R.d i).load R.S zs)) (F.loaded (i * F.S) (loadL F.S zs) F.S) := by
  have hin : ∀ j t, t < R.S → ((i * F.S ≤ j * R.S + t ∧ j * R.S + t < i * F.S + F.S) ↔ j = i) := fun j t ht => by
    rw [← h.S]; exact idx_in ht
  refine h.setD rfl rfl rfl rfl (fun j hj => ?_) (fun j hj hb => ?_) (fun j t hj ht => ?_) (fun j t hj ht => ?_)
  · by_cases e : j = i
    · subst e; rw [if_pos rfl]; exact h.bad j hj
    · rw [if_neg e]; exact h.bad j hj
  · by_cases e : j = i
    · subst e; rw [if_pos rfl]; exact h.cnt j hj hb
    · rw [if_neg e]; exact h.cnt j hj hb
  · show _ = (if i * F.S ≤ j * R.S + t ∧ j * R.S + t < i * F.S + F.S then sec (loadL F.S zs) (j * R.S + t - i * F.S) else F.L (j * R.S + t))
    by_cases e : j = i
    · rw [if_pos e, if_pos ((hin j t ht).2 e)]
      subst e
      show sec (loadL R.S zs) t = _
      rw [← h.S, show j * R.S + t - j * R.S = t by omega]
    · rw [if_neg e, if_neg (fun x => e ((hin j t ht).1 x)), h.last j t hj ht]
  · show _ = (if i * F.S ≤ j * R.S + t ∧ j * R.S + t < i * F.S + F.S then none else F.C (j * R.S + t))
    by_cases e : j = i
    · rw [if_pos e, if_pos ((hin j t ht).2 e)]
      rfl
    · rw [if_neg e, if_neg (fun x => e ((hin j t ht).1 x)), h.cache j t hj ht]
theorem Rel.ld (h : Rel R F) (i : Int) (zs : List Int) : Rel (R.ld i zs) (F.ld i zs) := by
  unfold Rk.ld Rf.ld
  rw [← h.n]
  by_cases g : 0 ≤ i ∧ i < R.n
  · rw [if_pos g, if_pos g]
    obtain ⟨x, rfl, hx⟩ := disk_nat g
    exact h.load hx zs
  · rw [if_neg g, if_neg g]
    exact h

end
end Go.Proofs.YtacnhlmhibhlhaaGreat
