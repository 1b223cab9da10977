/-
  Slices of texts: what they hold, and how one of the call's own grows.
-/
import Derived.Test.YthoblenoijkglaaDoorCopy
import Derived.Test.YthoblenoijkglaaDoorPt
import Derived.Lib.ConvBytes
namespace Go.Proofs.YthoblenoijkglaaDoor
open Go.RowKit
set_option linter.unusedVariables false
set_option linter.unusedSimpArgs false

/-- The text of bytes l. -/
def tx (l : List UInt8) : ByteArray := ⟨l.toArray⟩
theorem tx_data (s : ByteArray) : tx s.data.toList = s := Lib.mk_data s
theorem data_tx (l : List UInt8) : (tx l).data.toList = l := by simp [tx]
theorem tx_size (l : List UInt8) : (tx l).size = l.length := by rw [Lib.size_eq, data_tx]
theorem tx_inj {x y : List UInt8} (h : tx x = tx y) : x = y := by
  have := congrArg (fun s => s.data.toList) h
  simpa [data_tx] using this
/-- The text at a place. -/
def tat (L : List (List UInt8)) (i : Nat) : List UInt8 := L.getD i []
/-- The slice at a, of n texts, holds L. -/
structure Sts (w : World) (a : Option Addr) (n : Nat) (L : List (List UInt8)) : Prop where
  len : L.length = n
  place : n = 0 ∨ ∃ b off, a = some ⟨b, off, none⟩ ∧ b < w.heap.size ∧ ∀ i, i < n → w.cell? ⟨b, off + i, none⟩ = some (.string (tx (tat L i)))
theorem Sts.below {w w' : World} {a : Option Addr} {n : Nat} {L : List (List UInt8)} (h : Sts w a n L) {B : Nat} (hB : w.heap.size ≤ B) (hb : Below B w w') : Sts w' a n L := by
  refine ⟨h.len, ?_⟩
  rcases h.place with h0 | ⟨b, off, ha, hlt, hc⟩
  · exact .inl h0
  · exact .inr ⟨b, off, ha, Nat.lt_of_lt_of_le hlt hb.size, fun i hi => (hb.cell (p := ⟨b, off + i, none⟩) (by show b < B; omega)).trans (hc i hi)⟩
theorem Sts.next {w w' : World} {a : Option Addr} {n : Nat} {L : List (List UInt8)} (h : Sts w a n L) (hb : Below w.heap.size w w') : Sts w' a n L := h.below (Nat.le_refl _) hb
theorem Sts.alloc {w : World} {a : Option Addr} {n : Nat} {L : List (List UInt8)} (h : Sts w a n L) (o : Obj) : Sts (w.alloc o) a n L := h.next ((Below.refl _ _).alloc (Nat.le_refl _) o)
theorem Sts.drewN {w : World} {a : Option Addr} {n : Nat} {L : List (List UInt8)} (h : Sts w a n L) (q : Nat) : Sts (w.drewN q) a n L := h.next (below_drewN (Below.refl _ _) q)
theorem Sts.drew {w : World} {a : Option Addr} {n : Nat} {L : List (List UInt8)} (h : Sts w a n L) : Sts w.drew a n L := h.drewN 1
theorem Sts.at {w : World} {a : Option Addr} {n : Nat} {L : List (List UInt8)} (h : Sts w a n L) (hn : 0 < n) : ∃ b off, a = some ⟨b, off, none⟩ ∧ b < w.heap.size ∧ ∀ i, i < n → w.cell? ⟨b, off + i, none⟩ = some (.string (tx (tat L i))) := by
  rcases h.place with h0 | h1
  · omega
  · exact h1
theorem tat_take {L : List (List UInt8)} {k i : Nat} (h : i < k) : tat (L.take k) i = tat L i := by simp [tat, List.getD, h]
theorem Sts.front {w : World} {a : Option Addr} {n : Nat} {L : List (List UInt8)} (h : Sts w a n L) {k : Nat} (hk : k ≤ n) : Sts w a k (L.take k) := by
  refine ⟨by rw [List.length_take, h.len]; omega, ?_⟩
  rcases h.place with h0 | ⟨b, off, e, hlt, hc⟩
  · exact .inl (by omega)
  · exact .inr ⟨b, off, e, hlt, fun i hi => by rw [tat_take hi]; exact hc i (by omega)⟩
theorem tat_ext {x y : List (List UInt8)} (hl : x.length = y.length) (h : ∀ i, i < x.length → tat x i = tat y i) : x = y := by
  apply List.ext_getElem hl
  intro i h1 h2
  have := h i h1
  simpa [tat, List.getD, h1, h2] using this
theorem tat_mem {L : List (List UInt8)} {i : Nat} (h : i < L.length) : tat L i ∈ L := by
  simp [tat, List.getD, h]
theorem sts_nil (w : World) (a : Option Addr) : Sts w a 0 [] := ⟨rfl, .inl rfl⟩
theorem infoT : (Tryd.prog.info? 9).map (fun i => (i.zero, i.size, i.bytes)) = some (some (.string ByteArray.empty), 1, 16) := by kernel_rfl

/-- A slice of texts of the call's own. -/
def OwnT (w : World) (B : Nat) (v : Value) (n : Nat) (L : List (List UInt8)) : Prop := w.ownsRow B 9 1 v n (L.map fun x => Value.string (tx x))
theorem OwnT.below {w w' : World} {B : Nat} {v : Value} {n : Nat} {L : List (List UInt8)} (h : OwnT w B v n L) {C : Nat} (hC : w.heap.size ≤ C) (hb : Below C w w') : OwnT w' B v n L :=
  h.kept (row := none) ⟨hb.os, hb.tape, hb.output, hb.size, fun k hk _ => hb.block k (by omega)⟩ (by cases v.ownBlock <;> simp)
theorem OwnT.next {w w' : World} {B : Nat} {v : Value} {n : Nat} {L : List (List UInt8)} (h : OwnT w B v n L) (hb : Below w.heap.size w w') : OwnT w' B v n L := h.below (Nat.le_refl _) hb
theorem OwnT.alloc {w : World} {B : Nat} {v : Value} {n : Nat} {L : List (List UInt8)} (h : OwnT w B v n L) (o : Obj) : OwnT (w.alloc o) B v n L := h.next ((Below.refl _ _).alloc (Nat.le_refl _) o)
theorem ownT_none (w : World) (B : Nat) (hB : B ≤ w.heap.size) : OwnT (w.alloc (.cells #[] 9)) B (.slice (some ⟨w.heap.size, 0, none⟩) 0 0) 0 [] := World.ownsRow_lit w #[] 0 hB (Nat.zero_le _) rfl
theorem ownT_nil (w : World) (B : Nat) : OwnT w B (.slice none 0 0) 0 [] := World.ownsRow_nil _ _ _ _
theorem OwnT.sts {w : World} {B : Nat} {v : Value} {n : Nat} {L : List (List UInt8)} (h : OwnT w B v n L) : ∃ a c, v = .slice a n c ∧ Sts w a n L ∧ n ≤ c ∧ c ≤ 9223372036854775807 ∧ (a = none → n = 0 ∧ c = 0) ∧ (∀ x, a = some x → B ≤ x.block ∧ x.block < w.heap.size) := by
  rcases h.2 with ⟨rfl, rfl⟩ | ⟨g, cap, cur, rfl, hb, hg, hnc, hm, hsz, htake⟩
  · have := h.1
    simp at this
    exact ⟨none, 0, rfl, ⟨by simpa using this, .inl rfl⟩, Nat.le_refl _, by omega, (fun _ => ⟨rfl, rfl⟩), (fun x hx => by cases hx)⟩
  · have hl : L.length = n := by have := h.1; simpa using this
    refine ⟨some ⟨g, 0, none⟩, cap, rfl, ⟨hl, .inr ⟨g, 0, rfl, lt_of_block hg, fun i hi => ?_⟩⟩, hnc, by unfold maxLen at hm; omega, (fun h => by cases h), fun x hx => by cases hx; exact ⟨hb, lt_of_block hg⟩⟩
    have hc := h.cellAt i (by omega)
    rw [Nat.zero_add, hc]
    simp [tat, List.getD, show i < L.length by omega]

/-- 'append(s, xs...)' of texts, s of the call's own. -/
theorem wpList_apT {w : World} {ops : Array Oper} {rest : List Oper} {o : Oper} {a : Act} {Q : Exit → Act → World → Prop} (hgd : o.guard = none) (s x : Operand)
    (ho : o.op = .call { callee := .builtin .append, args := #[s, x], argTypes := #[23, 23] })
    (B : Nat) (v : Value) (n : Nat) (L : List (List UInt8)) (hs : a.eval s = v) (hown : OwnT w B v n L) (p : Addr) (m c : Nat) (M : List (List UInt8)) (hx : a.eval x = .slice (some p) m c) (hM : Sts w (some p) m M)
    (hn : n + m ≤ 1000000000000) (hB : B ≤ w.heap.size) (w0 : World) (hb : Below B w0 w)
    (h : ∀ v' w', OwnT w' B v' (n + m) (L ++ M) → Below B w0 w' → wpList Tryd.prog ops Q rest (a.put o.dst v') w') : wpList Tryd.prog ops Q (o :: rest) a w := by
  obtain ⟨i0, hi, hz0, hz1, hz2⟩ := info_parts infoT
  refine wpList_append_own w hgd s x 23 ho B 9 i0 (.string ByteArray.empty) 1 16 Tryd.underlying23 hi hz0 hz1 hz2 rfl (by decide) v n _ hs hown p m c (M.map fun y => Value.string (tx y)) hx (by rw [List.length_map, hM.len, Nat.mul_one]) ?_ ?_ (by unfold maxLen; omega) (by omega) hB ?_
  · intro j u hj
    rw [List.getElem?_map] at hj
    cases hj' : M[j]? with
    | none => rw [hj'] at hj; cases hj
    | some y =>
      rw [hj'] at hj
      cases hj
      have hlt : j < m := by
        have := (List.getElem?_eq_some_iff.1 hj').1
        rw [hM.len] at this
        exact this
      rcases hM.place with h0 | ⟨b, off, e, _, hc⟩
      · omega
      · cases e
        have e2 : tat M j = y := by simp [tat, List.getD, hj']
        have := hc j hlt
        rw [e2] at this
        rw [WideShapes.add_plain]
        exact this
  · intro u hu
    obtain ⟨y, _, rfl⟩ := List.mem_map.1 hu
    rfl
  · intro v' w' hown' hgrow _
    exact h v' w' (by unfold OwnT; rw [List.map_append]; exact hown') (hb.grown hgrow hB fun k hk => (hown.lt k hk).1)
/-- 'append(s, nil...)'. -/
theorem wpList_apT0 {w : World} {ops : Array Oper} {rest : List Oper} {o : Oper} {a : Act} {Q : Exit → Act → World → Prop} (hgd : o.guard = none) (s x : Operand)
    (ho : o.op = .call { callee := .builtin .append, args := #[s, x], argTypes := #[23, 23] })
    (B : Nat) (v : Value) (n : Nat) (L : List (List UInt8)) (hs : a.eval s = v) (hown : OwnT w B v n L) (hx : a.eval x = .slice none 0 0)
    (h : wpList Tryd.prog ops Q rest (a.put o.dst v) w) : wpList Tryd.prog ops Q (o :: rest) a w := by
  obtain ⟨i0, hi, hz0, hz1, hz2⟩ := info_parts infoT
  exact wpList_append_own_none hgd s x 23 ho B 9 i0 1 Tryd.underlying23 hi v n _ hs hown hx h
/-- A text built in place. -/
theorem sts_one {w : World} {g : Nat} (x : ByteArray) (h : w.heap.size = g) : Sts (w.alloc (.cells #[.string x] 9 (0, 0))) (some ⟨g, 0, none⟩) 1 [x.data.toList] := by
  subst h
  exact ⟨rfl, .inr ⟨_, 0, rfl, by simp, fun i hi => by
    rcases (by omega : i = 0) with rfl
    simp [tat, tx_data]⟩⟩

/-- What Split answers: the names and a number. -/
def SplV (B : Nat) (o : Option (List (List UInt8))) (e : Ending) (w' : World) : Prop :=
  match o with
  | none => e = .returned (.tuple #[.slice none 0 0, .int .i64 20])
  | some L => ∃ v, e = .returned (.tuple #[v, .int .i64 0]) ∧ OwnT w' B v L.length L
end Go.Proofs.YthoblenoijkglaaDoor
