/-
  The reference's New, by contract.
-/
import Derived.Test.YtoiidhpohghiaaaRefLd
import Derived.Deep.AppendLies
import Derived.Deep.RegionLaw
namespace Go.Proofs.Ytoiidhpohghiaaa
open Go.RowKit Go.Maps

theorem infoS : (Try.prog.info? 46).map (fun i => (i.zero, i.size, i.bytes)) = some (some (.slice none 0 0), 1, 24) := by kernel_rfl
theorem infoB : (Try.prog.info? 4).map (fun i => (i.zero, i.size, i.bytes)) = some (some (.bool false), 1, 1) := by kernel_rfl
theorem infoI : (Try.prog.info? 3).map (fun i => (i.zero, i.size, i.bytes)) = some (some (.int .i64 0), 1, 8) := by kernel_rfl

/-- 'make([]byte, 64)' as it runs. -/
theorem mkn (w : World) (n : Nat) (hn : n ≤ 1000) : ∃ w', Sem.run Try.prog (Instr.makeSlice 46 (.int .i64 (n : Int)) (.int .i64 (n : Int))) w = Result.ok (.slice (some ⟨w.heap.size, 0, none⟩) n n) w' ∧ Blk w' w.heap.size (List.replicate n 0) ∧ Below w.heap.size w w' := by
  obtain ⟨i0, hi, hz0, hz1, hz2⟩ := info_parts info8
  obtain ⟨w', hrun, hown, hgrow⟩ := run_make_full (P := Try.prog) (w := w) w.heap.size 46 5 i0 (.int .u8 0) 1 Try.underlying46 hi hz0 hz1 .i64 .i64 n (by rw [hz2]; omega) (by unfold maxLen; omega) (Nat.le_refl _)
  refine ⟨w', hrun, ⟨?_⟩, (Below.refl _ _).grown hgrow (Nat.le_refl _) (fun k h => by cases h)⟩
  rcases hown.2 with ⟨h', _⟩ | ⟨g, cap, cur, h', _, hh, _, _, hsz, htake⟩
  · simp at h'
  · simp only [Value.slice.injEq, Option.some.injEq, Addr.mk.injEq, and_true, true_and] at h'
    obtain ⟨rfl, rfl⟩ := h'
    have hc : cur = ints (List.replicate n 0) := by
      apply Array.ext'
      rw [List.take_of_length_le (by rw [Array.length_toList, hsz]; exact Nat.le_refl _)] at htake
      rw [htake, show (Value.int IntKind.u8 0).cells = #[Value.int .u8 0] from rfl, Nat.mul_one, toList_madeCells_one]
      simp [ints]
    rw [hh, hc]
theorem mk64 (w : World) : ∃ w', Sem.run Try.prog (Instr.makeSlice 46 (.int .i64 64) (.int .i64 64)) w = Result.ok (.slice (some ⟨w.heap.size, 0, none⟩) 64 64) w' ∧ Blk w' w.heap.size (List.replicate 64 0) ∧ Below w.heap.size w w' := mkn w 64 (by omega)

/-- The four lists of the reference's rack while it is made. -/
def tyN (i : Nat) : TypeId := if i < 2 then 46 else if i = 2 then 4 else 3
structure NewD (w : World) (B p n S : Nat) (k : Nat → Nat) (v : Nat → Value) (xs : Nat → List Value) : Prop where
  row : w.heap[p]? = some (.cells #[.int .i64 n, .int .i64 S, v 0, v 1, v 2, v 3, .int .i64 (-1), .bool false] 35 (0, 0))
  own : ∀ i, i < 4 → w.ownsRow B (tyN i) 1 (v i) (k i) (xs i)
  ne : ∀ i j, i < 4 → j < 4 → i ≠ j → ∀ g, (v i).ownBlock = some g → (v j).ownBlock ≠ some g
  el : ∀ j, j < k 0 → ∃ g, (xs 0)[j]? = some (.slice (some ⟨g, 0, none⟩) 64 64) ∧ Blk w g (List.replicate 64 0) ∧ B ≤ g ∧ ∀ i, i < 4 → (v i).ownBlock ≠ some g
  low : p < B

theorem NewD.c {w : World} {B p n S : Nat} {k : Nat → Nat} {v : Nat → Value} {xs : Nat → List Value} (h : NewD w B p n S k v xs) (i : Nat) (hi : i < 4) : w.cell? ⟨p, 2 + i, none⟩ = some (v i) := by
  rw [cell_of_row w _ _ _ _ (0, 0) h.row]
  rcases (by omega : i = 0 ∨ i = 1 ∨ i = 2 ∨ i = 3) with rfl | rfl | rfl | rfl <;> rfl
theorem NewD.f {w : World} {B p n S : Nat} {k : Nat → Nat} {v : Nat → Value} {xs : Nat → List Value} (h : NewD w B p n S k v xs) (i : Nat) : w.frozen? ⟨p, i, none⟩ = false := frozen_of_row w _ i _ _ h.row

theorem grown_set {w w' : World} {r : Option Nat} (h : w.grownBy w' r) (b i : Nat) (u : Value) (k : Nat) (hk : k < w.heap.size) (hb : k ≠ b) (hr : some k ≠ r) : (w'.setCell ⟨b, i, none⟩ u).heap[k]? = w.heap[k]? :=
  ((turn_set w' b i u).block k (Nat.lt_of_lt_of_le hk h.size) hb).trans (h.block k hk hr)

theorem own_set {w : World} {B : Nat} {t : TypeId} {v : Value} {n : Nat} {xs : List Value} (h : w.ownsRow B t 1 v n xs) (p i : Nat) (u : Value) (hp : p < B) : (w.setCell ⟨p, i, none⟩ u).ownsRow B t 1 v n xs :=
  h.kept (row := some p) ⟨rfl, rfl, rfl, (turn_set w p i u).size, fun k hk hne => (turn_set w p i u).block k hk fun e => hne (by rw [e])⟩ (by
    cases e : v.ownBlock with
    | none => exact .inl rfl
    | some g => right; intro x; cases x; have := (h.lt p e).1; omega)

theorem NewD.app {w w' : World} {B p n S : Nat} {k : Nat → Nat} {v : Nat → Value} {xs : Nat → List Value} (h : NewD w B p n S k v xs) (i : Nat) (hi : i < 4) (u : Value) (g cap : Nat)
    (hown : w'.ownsRow B (tyN i) 1 (.slice (some ⟨g, 0, none⟩) (k i + 1) cap) (k i + 1) (xs i ++ [u])) (hgrow : w.grownBy w' (v i).ownBlock) (hl : (v i).ownBlock = some g ∨ g = w.heap.size)
    (hu : i = 0 → ∃ e, u = .slice (some ⟨e, 0, none⟩) 64 64 ∧ Blk w e (List.replicate 64 0) ∧ B ≤ e ∧ ∀ j, j < 4 → (v j).ownBlock ≠ some e) :
    NewD (w'.setCell ⟨p, 2 + i, none⟩ (.slice (some ⟨g, 0, none⟩) (k i + 1) cap)) B p n S (atI k i (k i + 1)) (atI v i (.slice (some ⟨g, 0, none⟩) (k i + 1) cap)) (atI xs i (xs i ++ [u])) := by
  have hp := lt_of_block h.row
  have hpo : some p ≠ (v i).ownBlock := fun e => by have := ((h.own i hi).lt p e.symm).1; have := h.low; omega
  have hgn : ∀ j, j < 4 → j ≠ i → (v j).ownBlock ≠ some g := by
    intro j hj hji e
    rcases hl with hl | hl
    · exact h.ne j i hj hi hji g e hl
    · have := ((h.own j hj).lt g e).2; omega
  have hrow' : w'.heap[p]? = _ := (hgrow.block p hp hpo).trans h.row
  refine ⟨?_, fun j hj => ?_, fun a b ha hb hab x hx => ?_, fun j hj => ?_, h.low⟩
  · rw [cells_set hrow']
    rcases (by omega : i = 0 ∨ i = 1 ∨ i = 2 ∨ i = 3) with rfl | rfl | rfl | rfl <;> rfl
  · by_cases e : j = i
    · subst e
      simp only [atI, if_pos]
      exact own_set hown p _ _ h.low
    · simp only [atI, if_neg e]
      refine own_set ((h.own j hj).kept hgrow ?_) p _ _ h.low
      cases eo : (v j).ownBlock with
      | none => exact .inl rfl
      | some x => exact .inr fun x' => h.ne j i hj hi e x eo x'.symm
  · by_cases ea : a = i
    · subst ea
      simp only [atI, if_pos, if_neg (Ne.symm hab)] at hx ⊢
      simp [Value.ownBlock] at hx
      subst hx
      exact hgn b hb (Ne.symm hab)
    · by_cases eb : b = i
      · subst eb
        simp only [atI, if_pos, if_neg ea] at hx ⊢
        intro e2
        simp [Value.ownBlock] at e2
        subst e2
        exact hgn a ha ea hx
      · simp only [atI, if_neg ea, if_neg eb] at hx ⊢
        exact h.ne a b ha hb hab x hx
  · have keep : ∀ e, Blk w e (List.replicate 64 0) → B ≤ e → (∀ b, b < 4 → (v b).ownBlock ≠ some e) → Blk (w'.setCell ⟨p, 2 + i, none⟩ (.slice (some ⟨g, 0, none⟩) (k i + 1) cap)) e (List.replicate 64 0) ∧ B ≤ e ∧ ∀ b, b < 4 → (atI v i (.slice (some ⟨g, 0, none⟩) (k i + 1) cap) b).ownBlock ≠ some e := by
      intro e hb hB hne
      refine ⟨⟨(grown_set hgrow p _ _ e hb.lt (by have := h.low; omega) (fun x => hne i hi x.symm)).trans hb.row⟩, hB, fun b hb4 => ?_⟩
      by_cases eb : b = i
      · subst eb
        simp only [atI, if_pos]
        intro x
        simp [Value.ownBlock] at x
        subst x
        rcases hl with hl | hl
        · exact hne b hi hl
        · have := hb.lt; omega
      · simp only [atI, if_neg eb]
        exact hne b hb4
    have hlen := (h.own 0 (by omega)).1
    by_cases e0 : i = 0
    · subst e0
      simp only [atI, if_pos] at hj ⊢
      by_cases hjk : j < k 0
      · obtain ⟨e, he, hb, hB, hne⟩ := h.el j hjk
        exact ⟨e, by rw [List.getElem?_append_left (by omega)]; exact he, keep e hb hB hne⟩
      · obtain ⟨e, he, hb, hB, hne⟩ := hu rfl
        refine ⟨e, ?_, keep e hb hB hne⟩
        rw [List.getElem?_append_right (by omega), he, show j - (xs 0).length = 0 by omega]
        rfl
    · simp only [atI, if_neg (Ne.symm e0)] at hj ⊢
      obtain ⟨e, he, hb, hB, hne⟩ := h.el j hj
      exact ⟨e, he, keep e hb hB hne⟩

theorem NewD.below {w w' : World} {B p n S : Nat} {k : Nat → Nat} {v : Nat → Value} {xs : Nat → List Value} (h : NewD w B p n S k v xs) (hb : Below w.heap.size w w') : NewD w' B p n S k v xs :=
  ⟨(hb.block p (lt_of_block h.row)).trans h.row, fun i hi => (h.own i hi).kept (row := none) ⟨hb.os, hb.tape, hb.output, hb.size, fun k hk _ => hb.block k hk⟩ (by cases (v i).ownBlock <;> simp), h.ne,
    fun j hj => by obtain ⟨g, h1, h2, h3⟩ := h.el j hj; exact ⟨g, h1, ⟨(hb.block g h2.lt).trans h2.row⟩, h3⟩, h.low⟩

theorem NewD.kk2 {w : World} {B p n S N k : Nat} {v : Nat → Value} {xs : Nat → List Value} (h : NewD w B p n S (atI (atI (fun i => if i < 2 then N else k) 2 (k + 1)) 3 (k + 1)) v xs) : NewD w B p n S (fun i => if i < 2 then N else k + 1) v xs := by
  have e : ∀ i, i < 4 → atI (atI (fun i => if i < 2 then N else k) 2 (k + 1)) 3 (k + 1) i = if i < 2 then N else k + 1 := by
    intro i hi
    rcases (by omega : i = 0 ∨ i = 1 ∨ i = 2 ∨ i = 3) with rfl | rfl | rfl | rfl <;> rfl
  exact ⟨h.row, fun i hi => by have := h.own i hi; rwa [e i hi] at this, h.ne, fun j hj => h.el j (by rw [e 0 (by omega)]; exact hj), h.low⟩
theorem NewD.turnq {w w' : World} {B p n S q : Nat} {k : Nat → Nat} {v : Nat → Value} {xs : Nat → List Value} (h : NewD w B p n S k v xs) (ht : Turn (· = q) w w') (hq : q < B ∧ q ≠ p) : NewD w' B p n S k v xs :=
  ⟨(ht.block p (lt_of_block h.row) (Ne.symm hq.2)).trans h.row, fun i hi => (h.own i hi).kept (row := some q) ⟨ht.os, ht.tape, ht.output, ht.size, fun k hk hne => ht.block k hk fun e => hne (by rw [e])⟩ (by
      cases e : (v i).ownBlock with
      | none => exact .inl rfl
      | some g => right; intro x; cases x; have := ((h.own i hi).lt q e).1; omega), h.ne,
    fun j hj => by obtain ⟨g, h1, h2, h3, h4⟩ := h.el j hj; exact ⟨g, h1, ⟨(ht.block g h2.lt (by have := hq.1; omega)).trans h2.row⟩, h3, h4⟩, h.low⟩
theorem NewD.form {w : World} {B p n S : Nat} {k : Nat → Nat} {v : Nat → Value} {xs : Nat → List Value} (h : NewD w B p n S k v xs) (i : Nat) (hi : i < 4) (hk : 0 < k i) : ∃ g c, v i = .slice (some ⟨g, 0, none⟩) (k i) c := by
  rcases (h.own i hi).2 with ⟨_, h0⟩ | ⟨g, cap, cur, e, _⟩
  · omega
  · exact ⟨g, cap, e⟩
/-- What the reference's New answers. -/
def RNew (n S : Nat) (w : World) (e : Ending) (w' : World) : Prop := ∃ (v : Nat → Value) (xs : Nat → List Value),
  e = .returned (.tuple #[.agg #[.int .i64 n, .int .i64 S, v 0, v 1, v 2, v 3, .int .i64 (-1), .bool false], .int .i64 0]) ∧ NewD w' (w.heap.size + 2) (w.heap.size + 1) n S (fun i => if i < 2 then n * S else n) v xs ∧
  xs 1 = List.replicate (n * S) (.slice none 0 0) ∧ xs 2 = List.replicate n (.bool false) ∧ xs 3 = List.replicate n (.int .i64 (-1)) ∧ Below w.heap.size w w'
theorem NewD.kk {w : World} {B p n S k : Nat} {v : Nat → Value} {xs : Nat → List Value} (h : NewD w B p n S (atI (atI (fun i => if i < 2 then k else 0) 0 (k + 1)) 1 (k + 1)) v xs) : NewD w B p n S (fun i => if i < 2 then k + 1 else 0) v xs := by
  have e : atI (atI (fun i => if i < 2 then k else 0) 0 (k + 1)) 1 (k + 1) = fun i => if i < 2 then k + 1 else 0 := by
    funext i
    unfold atI
    by_cases e1 : i = 1
    · subst e1; rfl
    · by_cases e0 : i = 0
      · subst e0; rfl
      · rw [if_neg e1, if_neg e0]; dsimp only; rw [if_neg (by omega), if_neg (by omega)]
  rwa [e] at h

set_option maxRecDepth 100000 in
set_option maxHeartbeats 4000000 in
theorem rnew_ok (n S : Nat) (w : World) (h1 : 1 ≤ n) (h2 : n ≤ 17) (h3 : 1 ≤ S) (h4 : S ≤ 4096) :
    Calls Try.prog 9 #[.int .i64 n, .int .i64 S] w (RNew n S w) := by
  obtain ⟨N, hN⟩ : ∃ N, Hid (N = n * S) := ⟨_, Lib.hid rfl⟩
  have eN : (n : Int) * (S : Int) = (N : Int) := by rw [hN.out]; simp
  have hn17 : (n : Int) ≤ 17 := by omega
  have hN1 : N ≤ 100000 := by
    have : n * S ≤ 17 * 4096 := Nat.mul_le_mul h2 h4
    rw [hN.out]; omega
  have x1 : decide ((n : Int) < 1) = false := by simp; omega
  have x2 : decide (17 < (n : Int)) = false := by simp; omega
  have x3 : decide ((S : Int) < 1) = false := by simp; omega
  have x4 : decide (4096 < (S : Int)) = false := by simp; omega
  obtain ⟨i0, hi, hz0, hz1, hz2⟩ := info_parts infoS
  obtain ⟨iB, bi, bz0, bz1, bz2⟩ := info_parts infoB
  obtain ⟨iI, ii, iz0, iz1, iz2⟩ := info_parts infoI
  obtain ⟨q, hq⟩ : ∃ q, Hid (q = w.heap.size) := ⟨_, Lib.hid rfl⟩
  obtain ⟨wz, hwz⟩ : ∃ wz, Hid (wz = w.alloc (Obj.cells #[Value.int IntKind.i64 0, Value.int IntKind.i64 0, Value.slice none 0 0, Value.slice none 0 0, Value.slice none 0 0, Value.slice none 0 0, Value.int IntKind.i64 0, Value.bool false] 35)) := ⟨_, Lib.hid rfl⟩
  have hzs : wz.heap.size = w.heap.size + 1 := by rw [hwz.out]; simp
  have hzq : Hid (wz.heap[w.heap.size]? = some (Obj.cells #[Value.int IntKind.i64 0, Value.int IntKind.i64 0, Value.slice none 0 0, Value.slice none 0 0, Value.slice none 0 0, Value.slice none 0 0, Value.int IntKind.i64 0, Value.bool false] 35 (0, 0))) := by
    unfold Hid; rw [hwz.out]; exact heap_alloc_new w _
  go_enter Try.func9, Try.ntmps9
  go_wp2_with (fail)
  go_loopw [7] (fun t wr => ∃ (k : Nat) (v : Nat → Value) (xs : Nat → List Value), k ≤ N ∧ t = .int .i64 k ∧ NewD wr (w.heap.size + 2) (w.heap.size + 1) n S (fun i => if i < 2 then k else 0) v xs ∧ xs 1 = List.replicate k (.slice none 0 0) ∧ v 2 = .slice none 0 0 ∧ v 3 = .slice none 0 0 ∧ Below (w.heap.size + 1) wz wr) (fun t _ => N - (intOf t).toNat)
  case atStart =>
    refine ⟨0, fun _ => .slice none 0 0, fun _ => [], Nat.zero_le _, rfl, ⟨?_, fun i _ => ⟨by simp, .inl ⟨rfl, by simp⟩⟩, (fun i j _ _ _ g e => by simp [Value.ownBlock] at e), (fun j hj => by simp at hj), by omega⟩, rfl, rfl, rfl, by rw [← hwz.out]; exact (Below.refl _ _).alloc (by omega) _⟩
    have := heap_alloc_new (w.alloc (Obj.cells #[Value.int IntKind.i64 0, Value.int IntKind.i64 0, Value.slice none 0 0, Value.slice none 0 0, Value.slice none 0 0, Value.slice none 0 0, Value.int IntKind.i64 0, Value.bool false] 35)) (Obj.cells #[Value.int IntKind.i64 n, Value.int IntKind.i64 S, Value.slice none 0 0, Value.slice none 0 0, Value.slice none 0 0, Value.slice none 0 0, Value.int IntKind.i64 (-1), Value.bool false] 35)
    simpa using this
  case round =>
    obtain ⟨k, v, xs, hk, rfl, hD, hx1, hv2, hv3, hbel⟩ := hrel
    have c2 := hD.c 0 (by omega)
    have c3 := hD.c 1 (by omega)
    have f2 := hD.f 2
    have f3 := hD.f 3
    simp only [Nat.add_zero] at c2
    by_cases hlt : k < N
    · obtain ⟨w3, hmk, hb3, hl3⟩ := mk64 wr.drew
      have hl3' : Below wr.heap.size wr w3 := undrew hl3
      have hD3 := hD.below hl3'
      have hw3 : wr.heap.size < w3.heap.size := hb3.lt
      change Sem.run _ _ _ = Result.ok (Value.slice (some ⟨wr.heap.size, 0, none⟩) 64 64) w3 at hmk
      have hbw : Blk w3 wr.heap.size (List.replicate 64 0) := hb3
      obtain ⟨lit, hlit⟩ : ∃ lit, lit = Obj.cells #[Value.slice (some ⟨wr.heap.size, 0, none⟩) 64 64] 46 := ⟨_, rfl⟩
      have hla : Below w3.heap.size w3 (w3.alloc lit) := (Below.refl _ _).alloc (Nat.le_refl _) _
      have hDa := hD3.below hla
      have hown := hDa.own 0 (by omega)
      have d2 := hD3.c 0 (by omega)
      have ca := hDa.c 0 (by omega)
      simp only [Nat.add_zero] at d2 ca
      have hrow := hDa.row
      have hpl := lt_of_block hDa.row
      have hpo : some (w.heap.size + 1) ≠ (v 0).ownBlock := fun e => by have := (hown.lt _ e.symm).1; omega
      rw [hlit] at hla hDa hown ca hrow hpl
      clear hb3 hl3 c3 f3
      go_wp2_with (fail)
      go_region_law ((refine step_append_lies _ (by rfl) (.tmp 35) (.tmp 37) 31 (by rfl) (w.heap.size + 2) 46 i0 _ 1 24 Try.underlying31 hi hz0 hz1 hz2 rfl (by omega) (v 0) k (xs 0) (by rfl) hown ⟨w3.heap.size, 0, none⟩ 1 1 [Value.slice (some ⟨wr.heap.size, 0, none⟩) 64 64] (by rfl) (by rfl) (World.news_of_block (heap_alloc_new w3 _)) (by simp [Value.oneCell']) (by omega) (by unfold maxLen; omega) (by omega) (by have := hbel.size; simp; omega) (w3.heap.size + 1) (by simp) ?_; intro g cap w4 hown4 hgrow4 hl4 hlt4
                      have s4 : w4.cell? ⟨w.heap.size + 1, 2, none⟩ = some (v 0) := by rw [cell_of_row w4 _ _ _ _ (0, 0) ((hgrow4.block _ hpl hpo).trans hrow)]; rfl
                      have t4 : w4.frozen? ⟨w.heap.size + 1, 2, none⟩ = false := frozen_of_row w4 _ 2 _ _ ((hgrow4.block _ hpl hpo).trans hrow)))
      all_goals
        have hu0 : (0 : Nat) = 0 → ∃ e, Value.slice (some ⟨wr.heap.size, 0, none⟩) 64 64 = .slice (some ⟨e, 0, none⟩) 64 64 ∧ Blk (w3.alloc (Obj.cells #[Value.slice (some ⟨wr.heap.size, 0, none⟩) 64 64] 46)) e (List.replicate 64 0) ∧ w.heap.size + 2 ≤ e ∧ ∀ j, j < 4 → (v j).ownBlock ≠ some e := fun _ =>
          ⟨_, rfl, ⟨(hla.block _ hbw.lt).trans hbw.row⟩, (by have := hbel.size; have := lt_of_block hD.row; omega), fun j hj x => by have := ((hD.own j hj).lt _ x).2; omega⟩
        have hD5 := hDa.app 0 (by omega) _ g cap hown4 hgrow4 (by simpa using hl4) hu0
        have hB3 : Below (w.heap.size + 1) wz w3 := hbel.trans (hl3'.mono (by have := hbel.size; omega))
        have hBa := hB3.alloc (by have := hB3.size; omega) (Obj.cells #[Value.slice (some ⟨wr.heap.size, 0, none⟩) 64 64] 46)
        have hB4 : Below (w.heap.size + 1) wz w4 := hBa.grown hgrow4 (by have := hBa.size; omega) (fun k hk => by have := ((hD.own 0 (by omega)).lt k hk).1; omega)
        have hB5 : Below (w.heap.size + 1) wz (w4.setCell ⟨w.heap.size + 1, 2, none⟩ (.slice (some ⟨g, 0, none⟩) (k + 1) cap)) := hB4.setCell (by show w.heap.size + 1 ≤ w.heap.size + 1; omega) _
        change NewD (w4.setCell ⟨w.heap.size + 1, 2, none⟩ (.slice (some ⟨g, 0, none⟩) (k + 1) cap)) _ _ _ _ _ _ _ at hD5
        clear hu0 hB3 hBa hB4 hown4 hgrow4 hl4 hlt4 s4 t4 hmk hl3' hD3 hw3 hbw hla hDa hown d2 ca hrow hpl hpo c2 f2 hbel hlit
        generalize w4.setCell ⟨w.heap.size + 1, 2, none⟩ (.slice (some ⟨g, 0, none⟩) (k + 1) cap) = w5 at *
        have hlb : Below w5.heap.size w5 (w5.alloc (Obj.cells #[Value.slice none 0 0] 46)) := (Below.refl _ _).alloc (Nat.le_refl _) _
        have hDb := hD5.below hlb
        have c5 : w5.cell? ⟨w.heap.size + 1, 3, none⟩ = some (v 1) := hD5.c 1 (by omega)
        have ownb : (w5.alloc (Obj.cells #[Value.slice none 0 0] 46)).ownsRow (w.heap.size + 2) 46 1 (v 1) k (xs 1) := hDb.own 1 (by omega)
        have hrow := hDb.row
        have hpl := lt_of_block hrow
        have hpo : some (w.heap.size + 1) ≠ (v 1).ownBlock := fun e => by have := (ownb.lt _ e.symm).1; omega
        go_wp2_with (at_builtin; refine wpList_append_lies _ rfl (.tmp 41) (.tmp 42) 31 rfl (w.heap.size + 2) 46 i0 _ 1 24 Try.underlying31 hi hz0 hz1 hz2 rfl (by omega) (v 1) k (xs 1) rfl ownb ⟨w5.heap.size, 0, none⟩ 1 1 [Value.slice none 0 0] rfl rfl (World.news_of_block (heap_alloc_new w5 _)) (by simp [Value.oneCell']) (by omega) (by unfold maxLen; omega) (by omega) (by have := hB5.size; have := lt_of_block hD5.row; simp; omega) (w5.heap.size + 1) (by simp) ?_; intro g1 cap1 w6 hown6 hgrow6 hl6 hlt6; have s6 : w6.cell? ⟨w.heap.size + 1, 3, none⟩ = some (v 1) := (cell_of_row w6 _ 3 _ _ (0, 0) ((hgrow6.block _ hpl hpo).trans hrow)).trans rfl; have t6 : w6.frozen? ⟨w.heap.size + 1, 3, none⟩ = false := frozen_of_row w6 _ 3 _ _ ((hgrow6.block _ hpl hpo).trans hrow))
        have hD7 := hDb.app 1 (by omega) _ g1 cap1 hown6 hgrow6 (by rcases hl6 with h | h; exact .inl h; right; rw [h]; simp) (fun e => by cases e)
        have hBb := hB5.alloc (by have := hB5.size; omega) (Obj.cells #[Value.slice none 0 0] 46)
        have hB6 : Below (w.heap.size + 1) wz w6 := hBb.grown hgrow6 (by have := hBb.size; omega) (fun k hk => by have := (ownb.lt k hk).1; omega)
        have hB7 : Below (w.heap.size + 1) wz (w6.setCell ⟨w.heap.size + 1, 3, none⟩ (.slice (some ⟨g1, 0, none⟩) (k + 1) cap1)) := hB6.setCell (by show w.heap.size + 1 ≤ w.heap.size + 1; omega) _
        change NewD (w6.setCell ⟨w.heap.size + 1, 3, none⟩ (.slice (some ⟨g1, 0, none⟩) (k + 1) cap1)) _ _ _ _ _ _ _ at hD7
        go_roundw
        case rel =>
          have hx7 : xs 1 ++ [Value.slice none 0 0] = List.replicate (k + 1) (Value.slice none 0 0) := by rw [hx1]; exact List.replicate_succ'.symm
          exact ⟨k + 1, _, _, by omega, by go_num, hD7.kk, hx7, hv2, hv3, hB7⟩
        case measure => simp [intOf]; omega
    · obtain rfl : k = N := by omega
      have h2x : xs 2 = [] := List.eq_nil_of_length_eq_zero (by have := (hD.own 2 (by omega)).1; simpa using this)
      have h3x : xs 3 = [] := List.eq_nil_of_length_eq_zero (by have := (hD.own 3 (by omega)).1; simpa using this)
      clear c2 c3 f2 f3
      go_wp2_with (fail)
      obtain ⟨wo, rfl⟩ : ∃ wo : World, wo = wr := ⟨_, rfl⟩
      go_loopw [8] (fun t wr => ∃ (j : Nat) (v : Nat → Value) (xs : Nat → List Value), j ≤ n ∧ t = .int .i64 j ∧ NewD wr (w.heap.size + 2) (w.heap.size + 1) n S (fun i => if i < 2 then k else j) v xs ∧ xs 1 = List.replicate k (.slice none 0 0) ∧ xs 2 = List.replicate j (.bool false) ∧ xs 3 = List.replicate j (.int .i64 (-1)) ∧ Below (w.heap.size + 1) wz wr) (fun t _ => n - (intOf t).toNat)
      case atStart => exact ⟨0, v, xs, Nat.zero_le _, rfl, hD, hx1, h2x, h3x, hbel⟩
      case round =>
      clear hD hx1 h2x h3x hbel hv2 hv3
      clear xs v
      obtain ⟨j, v, xs, hj, rfl, hDa, hx1, hx2, hx3, hBa⟩ := hrel
      by_cases hlt2 : j < n
      · have fa := hDa.f 4
        have hlba : Below wr.heap.size wr (wr.alloc (Obj.cells #[Value.bool false] 4)) := (Below.refl _ _).alloc (Nat.le_refl _) _
        have hDba := hDa.below hlba
        have ca : wr.cell? ⟨w.heap.size + 1, 4, none⟩ = some (v 2) := hDa.c 2 (by omega)
        have ownba : (wr.alloc (Obj.cells #[Value.bool false] 4)).ownsRow (w.heap.size + 2) 4 1 (v 2) j (xs 2) := hDba.own 2 (by omega)
        have hrowa := hDba.row
        have hpla := lt_of_block hrowa
        have hpoa : some (w.heap.size + 1) ≠ (v 2).ownBlock := fun e => by have := (ownba.lt _ e.symm).1; omega
        go_upto_region 13 with (at_builtin; refine wpList_append_lies _ rfl (.tmp 51) (.tmp 52) 32 rfl (w.heap.size + 2) 4 iB _ 1 1 Try.underlying32 bi bz0 bz1 bz2 rfl (by omega) (v 2) j (xs 2) rfl ownba ⟨wr.heap.size, 0, none⟩ 1 1 [Value.bool false] rfl rfl (World.news_of_block (heap_alloc_new wr _)) (by simp [Value.oneCell']) (by omega) (by unfold maxLen; omega) (by omega) (by have := hBa.size; have := lt_of_block hDa.row; simp; omega) (wr.heap.size + 1) (by simp) ?_; intro g1 cap1 w1 hown1 hgrow1 hl1 hlt1; have s1 : w1.cell? ⟨w.heap.size + 1, 4, none⟩ = some (v 2) := (cell_of_row w1 _ 4 _ _ (0, 0) ((hgrow1.block _ hpla hpoa).trans hrowa)).trans rfl; have t1 : w1.frozen? ⟨w.heap.size + 1, 4, none⟩ = false := frozen_of_row w1 _ 4 _ _ ((hgrow1.block _ hpla hpoa).trans hrowa))
        have hDe := hDba.app 2 (by omega) _ g1 cap1 hown1 hgrow1 (by rcases hl1 with h | h; exact .inl h; right; rw [h]; simp) (fun e => by cases e)
        have hBba := hBa.alloc (by have := hBa.size; omega) (Obj.cells #[Value.bool false] 4)
        have hBca : Below (w.heap.size + 1) wz w1 := hBba.grown hgrow1 (by have := hBba.size; omega) (fun k hk => by have := (ownba.lt k hk).1; omega)
        have hBe : Below (w.heap.size + 1) wz (w1.setCell ⟨w.heap.size + 1, 4, none⟩ (.slice (some ⟨g1, 0, none⟩) (j + 1) cap1)) := hBca.setCell (by show w.heap.size + 1 ≤ w.heap.size + 1; omega) _
        change NewD (w1.setCell ⟨w.heap.size + 1, 4, none⟩ (.slice (some ⟨g1, 0, none⟩) (j + 1) cap1)) _ _ _ _ _ _ _ at hDe
        clear hown1 hgrow1 hl1 hlt1 s1 t1 hlba hDba ca ownba hrowa hpla hpoa hBba hBca fa
        generalize w1.setCell ⟨w.heap.size + 1, 4, none⟩ (.slice (some ⟨g1, 0, none⟩) (j + 1) cap1) = w5 at *
        have hlbe : Below w5.heap.size w5 (w5.alloc (Obj.cells #[Value.int IntKind.i64 (-1)] 3)) := (Below.refl _ _).alloc (Nat.le_refl _) _
        have hDbe := hDe.below hlbe
        have ce : w5.cell? ⟨w.heap.size + 1, 5, none⟩ = some (v 3) := hDe.c 3 (by omega)
        have ownbe : (w5.alloc (Obj.cells #[Value.int IntKind.i64 (-1)] 3)).ownsRow (w.heap.size + 2) 3 1 (v 3) j (xs 3) := hDbe.own 3 (by omega)
        have hrowe := hDbe.row
        have hple := lt_of_block hrowe
        have hpoe : some (w.heap.size + 1) ≠ (v 3).ownBlock := fun e => by have := (ownbe.lt _ e.symm).1; omega
        go_wp2_with (at_builtin; refine wpList_append_lies _ rfl (.tmp 56) (.tmp 57) 33 rfl (w.heap.size + 2) 3 iI _ 1 8 Try.underlying33 ii iz0 iz1 iz2 rfl (by omega) (v 3) j (xs 3) rfl ownbe ⟨w5.heap.size, 0, none⟩ 1 1 [Value.int IntKind.i64 (-1)] rfl rfl (World.news_of_block (heap_alloc_new w5 _)) (by simp [Value.oneCell']) (by omega) (by unfold maxLen; omega) (by omega) (by have := hBe.size; have := lt_of_block hDe.row; simp; omega) (w5.heap.size + 1) (by simp) ?_; intro g2 cap2 w2 hown2 hgrow2 hl2 hlt2; have s2 : w2.cell? ⟨w.heap.size + 1, 5, none⟩ = some (v 3) := (cell_of_row w2 _ 5 _ _ (0, 0) ((hgrow2.block _ hple hpoe).trans hrowe)).trans rfl; have t2 : w2.frozen? ⟨w.heap.size + 1, 5, none⟩ = false := frozen_of_row w2 _ 5 _ _ ((hgrow2.block _ hple hpoe).trans hrowe))
        have hDz := hDbe.app 3 (by omega) _ g2 cap2 hown2 hgrow2 (by rcases hl2 with h | h; exact .inl h; right; rw [h]; simp) (fun e => by cases e)
        have hBbe := hBe.alloc (by have := hBe.size; omega) (Obj.cells #[Value.int IntKind.i64 (-1)] 3)
        have hBce : Below (w.heap.size + 1) wz w2 := hBbe.grown hgrow2 (by have := hBbe.size; omega) (fun k hk => by have := (ownbe.lt k hk).1; omega)
        have hBz : Below (w.heap.size + 1) wz (w2.setCell ⟨w.heap.size + 1, 5, none⟩ (.slice (some ⟨g2, 0, none⟩) (j + 1) cap2)) := hBce.setCell (by show w.heap.size + 1 ≤ w.heap.size + 1; omega) _
        change NewD (w2.setCell ⟨w.heap.size + 1, 5, none⟩ (.slice (some ⟨g2, 0, none⟩) (j + 1) cap2)) _ _ _ _ _ _ _ at hDz
        have e2 : xs 2 ++ [Value.bool false] = List.replicate (j + 1) (Value.bool false) := by rw [hx2]; exact List.replicate_succ'.symm
        have e3 : xs 3 ++ [Value.int IntKind.i64 (-1)] = List.replicate (j + 1) (Value.int IntKind.i64 (-1)) := by rw [hx3]; exact List.replicate_succ'.symm
        go_roundw
        case rel => exact ⟨j + 1, _, _, by omega, by go_num, hDz.kk2, hx1, e2, e3, hBz⟩
        case measure => simp [intOf]; omega
      · obtain rfl : j = n := by omega
        have r0 := hDa.row
        have r1 := (hBa.block w.heap.size (by omega)).trans hzq.out
        have y0 : wr.cell? ⟨w.heap.size + 1, 0, none⟩ = some (.int .i64 j) := (cell_of_row wr _ 0 _ _ (0, 0) r0).trans rfl
        have y1 : wr.cell? ⟨w.heap.size + 1, 1, none⟩ = some (.int .i64 S) := (cell_of_row wr _ 1 _ _ (0, 0) r0).trans rfl
        have y2 : wr.cell? ⟨w.heap.size + 1, 2, none⟩ = some (v 0) := hDa.c 0 (by omega)
        have y3 : wr.cell? ⟨w.heap.size + 1, 3, none⟩ = some (v 1) := hDa.c 1 (by omega)
        have y4 : wr.cell? ⟨w.heap.size + 1, 4, none⟩ = some (v 2) := hDa.c 2 (by omega)
        have y5 : wr.cell? ⟨w.heap.size + 1, 5, none⟩ = some (v 3) := hDa.c 3 (by omega)
        have y6 : wr.cell? ⟨w.heap.size + 1, 6, none⟩ = some (.int .i64 (-1)) := (cell_of_row wr _ 6 _ _ (0, 0) r0).trans rfl
        have y7 : wr.cell? ⟨w.heap.size + 1, 7, none⟩ = some (.bool false) := (cell_of_row wr _ 7 _ _ (0, 0) r0).trans rfl
        have z0 : wr.cell? ⟨w.heap.size, 0, none⟩ = some (.int .i64 0) := (cell_of_row wr w.heap.size 0 _ _ (0, 0) r1).trans rfl
        have zf0 : wr.frozen? ⟨w.heap.size, 0, none⟩ = false := frozen_of_row wr _ 0 _ _ r1
        have z1 : wr.cell? ⟨w.heap.size, 1, none⟩ = some (.int .i64 0) := (cell_of_row wr w.heap.size 1 _ _ (0, 0) r1).trans rfl
        have zf1 : wr.frozen? ⟨w.heap.size, 1, none⟩ = false := frozen_of_row wr _ 1 _ _ r1
        have z2 : wr.cell? ⟨w.heap.size, 2, none⟩ = some (.slice none 0 0) := (cell_of_row wr w.heap.size 2 _ _ (0, 0) r1).trans rfl
        have zf2 : wr.frozen? ⟨w.heap.size, 2, none⟩ = false := frozen_of_row wr _ 2 _ _ r1
        have z3 : wr.cell? ⟨w.heap.size, 3, none⟩ = some (.slice none 0 0) := (cell_of_row wr w.heap.size 3 _ _ (0, 0) r1).trans rfl
        have zf3 : wr.frozen? ⟨w.heap.size, 3, none⟩ = false := frozen_of_row wr _ 3 _ _ r1
        have z4 : wr.cell? ⟨w.heap.size, 4, none⟩ = some (.slice none 0 0) := (cell_of_row wr w.heap.size 4 _ _ (0, 0) r1).trans rfl
        have zf4 : wr.frozen? ⟨w.heap.size, 4, none⟩ = false := frozen_of_row wr _ 4 _ _ r1
        have z5 : wr.cell? ⟨w.heap.size, 5, none⟩ = some (.slice none 0 0) := (cell_of_row wr w.heap.size 5 _ _ (0, 0) r1).trans rfl
        have zf5 : wr.frozen? ⟨w.heap.size, 5, none⟩ = false := frozen_of_row wr _ 5 _ _ r1
        have z6 : wr.cell? ⟨w.heap.size, 6, none⟩ = some (.int .i64 0) := (cell_of_row wr w.heap.size 6 _ _ (0, 0) r1).trans rfl
        have zf6 : wr.frozen? ⟨w.heap.size, 6, none⟩ = false := frozen_of_row wr _ 6 _ _ r1
        have z7 : wr.cell? ⟨w.heap.size, 7, none⟩ = some (.bool false) := (cell_of_row wr w.heap.size 7 _ _ (0, 0) r1).trans rfl
        have zf7 : wr.frozen? ⟨w.heap.size, 7, none⟩ = false := frozen_of_row wr _ 7 _ _ r1
        have hkp : 0 < k := by rw [hN.out]; exact Nat.mul_pos h1 h3
        obtain ⟨g0, p0, e0⟩ := hDa.form 0 (by omega) hkp
        obtain ⟨g1, p1, e1⟩ := hDa.form 1 (by omega) hkp
        obtain ⟨g2, p2, e2⟩ := hDa.form 2 (by omega) h1
        obtain ⟨g3, p3, e3⟩ := hDa.form 3 (by omega) h1
        rw [e0] at y2
        rw [e1] at y3
        rw [e2] at y4
        rw [e3] at y5
        have hDa' := hDa
        rw [hN.out] at hDa'
        have hfin : Hid (∀ w', Turn (· = w.heap.size) wr w' → RNew j S w (.returned (.tuple #[.agg #[.int .i64 j, .int .i64 S, v 0, v 1, v 2, v 3, .int .i64 (-1), .bool false], .int .i64 0])) w') := by
          intro w' ht
          have hBw : Below w.heap.size w wr := ((Below.refl w.heap.size w).alloc (Nat.le_refl _) _).trans (by rw [← hwz.out]; exact hBa.mono (by omega))
          refine ⟨v, xs, rfl, hDa'.turnq ht (by omega), by rw [← hN.out]; exact hx1, hx2, hx3, hBw.trans (ht.below hBw.size fun k e => by rw [e]; exact Nat.le_refl _)⟩
        rw [e0, e1, e2, e3] at hfin
        clear e0 e1 e2 e3 hDa hx1 hx2 hx3 hBa r0 r1
        go_wp2_with (fail)
        refine bodyPost_ret (v := .tuple #[.agg #[.int .i64 j, .int .i64 S, .slice (some ⟨g0, 0, none⟩) k p0, .slice (some ⟨g1, 0, none⟩) k p1, .slice (some ⟨g2, 0, none⟩) j p2, .slice (some ⟨g3, 0, none⟩) j p3, .int .i64 (-1), .bool false], .int .i64 0]) (by simp [results, Try.results9, go_sem, z0, z1, z2, z3, z4, z5, z6, z7]) rfl ?_
        exact hfin.out _ ((((((((turn_set _ _ _ _).trans (turn_set _ _ _ _)).trans (turn_set _ _ _ _)).trans (turn_set _ _ _ _)).trans (turn_set _ _ _ _)).trans (turn_set _ _ _ _)).trans (turn_set _ _ _ _)).trans (turn_set _ _ _ _))

end Go.Proofs.Ytoiidhpohghiaaa
