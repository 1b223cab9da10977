/-
  Slices of numbers: what they hold, and how one of the call's own grows.
-/
import Derived.Test.YtgedgkdnjnbijaaPc
import Derived.Deep.AppendLies
namespace Go.Proofs.Ytgedgkdnjnbijaa
open Go.RowKit

/-- The number at a place (0 behind the end). -/
def num (ks : List Int) (i : Nat) : Int := ks.getD i 0

/-- The slice at a, of n numbers, holds ks. -/
structure Ins (w : World) (a : Option Addr) (n : Nat) (ks : List Int) : Prop where
  len : ks.length = n
  place : n = 0 ∨ ∃ b off, a = some ⟨b, off, none⟩ ∧ b < w.heap.size ∧ ∀ i, i < n → w.cell? ⟨b, off + i, none⟩ = some (.int .i64 (num ks i))
theorem Ins.below {w w' : World} {a : Option Addr} {n : Nat} {ks : List Int} (h : Ins w a n ks) {B : Nat} (hB : w.heap.size ≤ B) (hb : Below B w w') : Ins w' a n ks := by
  refine ⟨h.len, ?_⟩
  rcases h.place with h0 | ⟨b, off, ha, hlt, hc⟩
  · exact .inl h0
  · exact .inr ⟨b, off, ha, Nat.lt_of_lt_of_le hlt hb.size, fun i hi => (hb.cell (p := ⟨b, off + i, none⟩) (by show b < B; omega)).trans (hc i hi)⟩
theorem Ins.next {w w' : World} {a : Option Addr} {n : Nat} {ks : List Int} (h : Ins w a n ks) (hb : Below w.heap.size w w') : Ins w' a n ks := h.below (Nat.le_refl _) hb
theorem Ins.alloc {w : World} {a : Option Addr} {n : Nat} {ks : List Int} (h : Ins w a n ks) (o : Obj) : Ins (w.alloc o) a n ks := h.next ((Below.refl _ _).alloc (Nat.le_refl _) o)
theorem Ins.drewN {w : World} {a : Option Addr} {n : Nat} {ks : List Int} (h : Ins w a n ks) (q : Nat) : Ins (w.drewN q) a n ks := h.next (below_drewN (Below.refl _ _) q)
theorem Ins.drew {w : World} {a : Option Addr} {n : Nat} {ks : List Int} (h : Ins w a n ks) : Ins w.drew a n ks := h.drewN 1
theorem Ins.at {w : World} {a : Option Addr} {n : Nat} {ks : List Int} (h : Ins w a n ks) (hn : 0 < n) : ∃ b off, a = some ⟨b, off, none⟩ ∧ b < w.heap.size ∧ ∀ i, i < n → w.cell? ⟨b, off + i, none⟩ = some (.int .i64 (num ks i)) := by
  rcases h.place with h0 | h1
  · omega
  · exact h1
theorem ins_one (w : World) (x : Int) : Ins (w.alloc (.cells #[.int .i64 x] 3 (0, 0))) (some ⟨w.heap.size, 0, none⟩) 1 [x] :=
  ⟨rfl, .inr ⟨_, 0, rfl, by simp, fun i hi => by
    rcases (by omega : i = 0) with rfl
    simp [num]⟩⟩
theorem ins_three (w : World) (x y z : Int) : Ins (w.alloc (.cells #[.int .i64 x, .int .i64 y, .int .i64 z] 3 (0, 0))) (some ⟨w.heap.size, 0, none⟩) 3 [x, y, z] :=
  ⟨rfl, .inr ⟨_, 0, rfl, by simp, fun i hi => by
    rcases (by omega : i = 0 ∨ i = 1 ∨ i = 2) with rfl | rfl | rfl <;> simp [num]⟩⟩

theorem ins_one' {w : World} {g : Nat} (x : Int) (h : w.heap.size = g) : Ins (w.alloc (.cells #[.int .i64 x] 3 (0, 0))) (some ⟨g, 0, none⟩) 1 [x] := by
  subst h
  exact ins_one w x
theorem ins_three' {w : World} {g : Nat} (x y z : Int) (h : w.heap.size = g) : Ins (w.alloc (.cells #[.int .i64 x, .int .i64 y, .int .i64 z] 3 (0, 0))) (some ⟨g, 0, none⟩) 3 [x, y, z] := by
  subst h
  exact ins_three w x y z
theorem info3 : (Try.prog.info? 3).map (fun i => (i.zero, i.size, i.bytes)) = some (some (.int .i64 0), 1, 8) := by kernel_rfl

/-- A slice of numbers of the call's own. -/
def OwnI (w : World) (B : Nat) (v : Value) (n : Nat) (ks : List Int) : Prop := w.ownsRow B 3 1 v n (ks.map (Value.int .i64))
theorem OwnI.below {w w' : World} {B : Nat} {v : Value} {n : Nat} {ks : List Int} (h : OwnI w B v n ks) {C : Nat} (hC : w.heap.size ≤ C) (hb : Below C w w') : OwnI w' B v n ks :=
  h.kept (row := none) ⟨hb.os, hb.tape, hb.output, hb.size, fun k hk _ => hb.block k (by omega)⟩ (by cases v.ownBlock <;> simp)
theorem OwnI.next {w w' : World} {B : Nat} {v : Value} {n : Nat} {ks : List Int} (h : OwnI w B v n ks) (hb : Below w.heap.size w w') : OwnI w' B v n ks := h.below (Nat.le_refl _) hb
theorem OwnI.alloc {w : World} {B : Nat} {v : Value} {n : Nat} {ks : List Int} (h : OwnI w B v n ks) (o : Obj) : OwnI (w.alloc o) B v n ks := h.next ((Below.refl _ _).alloc (Nat.le_refl _) o)
theorem ownI_none (w : World) (B : Nat) (hB : B ≤ w.heap.size) : OwnI (w.alloc (.cells #[] 3)) B (.slice (some ⟨w.heap.size, 0, none⟩) 0 0) 0 [] := World.ownsRow_lit w #[] 0 hB (Nat.zero_le _) rfl
theorem ownI_nil (w : World) (B : Nat) : OwnI w B (.slice none 0 0) 0 [] := World.ownsRow_nil _ _ _ _
theorem OwnI.ins {w : World} {B : Nat} {v : Value} {n : Nat} {ks : List Int} (h : OwnI w B v n ks) : ∃ a c, v = .slice a n c ∧ Ins w a n ks ∧ n ≤ c ∧ c ≤ 9223372036854775807 ∧ (∀ x, a = some x → B ≤ x.block ∧ x.block < w.heap.size) := by
  rcases h.2 with ⟨rfl, rfl⟩ | ⟨g, cap, cur, rfl, hb, hg, hnc, hm, hsz, htake⟩
  · have := h.1
    simp at this
    exact ⟨none, 0, rfl, ⟨by simpa using this, .inl rfl⟩, Nat.le_refl _, by omega, (fun x hx => by cases hx)⟩
  · have hl : ks.length = n := by have := h.1; simpa using this
    refine ⟨some ⟨g, 0, none⟩, cap, rfl, ⟨hl, .inr ⟨g, 0, rfl, lt_of_block hg, fun i hi => ?_⟩⟩, hnc, by unfold maxLen at hm; omega, fun x hx => by cases hx; exact ⟨hb, lt_of_block hg⟩⟩
    have hc := h.cellAt i (by omega)
    rw [Nat.zero_add, hc]
    simp [num, List.getD, show i < ks.length by omega]

/-- 'append(s, x)' of one number, s of the call's own; what lies in other blocks is as it was. -/
theorem wpList_api {w : World} {ops : Array Oper} {rest : List Oper} {o : Oper} {a : Act} {Q : Exit → Act → World → Prop} (hgd : o.guard = none) (s x : Operand)
    (ho : o.op = .call { callee := .builtin .append, args := #[s, x], argTypes := #[22, 22] })
    (B : Nat) (v : Value) (n : Nat) (ks : List Int) (hs : a.eval s = v) (hown : OwnI w B v n ks) (g : Nat) (z : Int) (hx : a.eval x = .slice (some ⟨g, 0, none⟩) 1 1) (hg : w.cell? ⟨g, 0, none⟩ = some (.int .i64 z))
    (hn : n + 1 ≤ 1000000000000) (hB : B ≤ w.heap.size) (w0 : World) (hb : Below B w0 w)
    (h : ∀ v' w', OwnI w' B v' (n + 1) (ks ++ [z]) → Below B w0 w' → wpList Try.prog ops Q rest (a.put o.dst v') w') : wpList Try.prog ops Q (o :: rest) a w := by
  obtain ⟨i0, hi, hz0, hz1, hz2⟩ := info_parts info3
  refine wpList_append_own w hgd s x 22 ho B 3 i0 (.int .i64 0) 1 8 Try.underlying22 hi hz0 hz1 hz2 rfl (by decide) v n _ hs hown ⟨g, 0, none⟩ 1 1 [.int .i64 z] hx rfl ?_ ?_ (by unfold maxLen; omega) (by omega) hB ?_
  · intro j u hj
    cases j with
    | zero =>
      simp at hj
      subst hj
      exact hg
    | succ j => simp at hj
  · intro u hu
    rw [List.mem_singleton.1 hu]
    rfl
  · intro v' w' hown' hgrow _
    exact h v' w' (by unfold OwnI; rw [List.map_append]; exact hown') (hb.grown hgrow hB fun k hk => (hown.lt k hk).1)

theorem Ins.grown {w w' : World} {a : Option Addr} {n : Nat} {ks : List Int} (h : Ins w a n ks) {row : Option Nat} (hg : w.grownBy w' row) (hne : ∀ x, a = some x → row ≠ some x.block) : Ins w' a n ks := by
  refine ⟨h.len, ?_⟩
  rcases h.place with h0 | ⟨b, off, e, hlt, hc⟩
  · exact .inl h0
  · exact .inr ⟨b, off, e, Nat.lt_of_lt_of_le hlt hg.size, fun i hi => hg.cell (hc i hi) (fun e2 => hne _ e e2.symm)⟩
/-- 'append(s, x...)' of bytes, s of the call's own; what lies in other blocks is as it was. -/
theorem wpList_apl {w : World} {ops : Array Oper} {rest : List Oper} {o : Oper} {a : Act} {Q : Exit → Act → World → Prop} (hgd : o.guard = none) (s x : Operand)
    (ho : o.op = .call { callee := .builtin .append, args := #[s, x], argTypes := #[36, 36] })
    (B : Nat) (v : Value) (n : Nat) (zs : List Int) (hs : a.eval s = v) (hown : Own w B v n zs) (p : Addr) (m c : Nat) (ys : List Int) (hx : a.eval x = .slice (some p) m c) (hy : Bys w (some p) m ys) (hm : 0 < m)
    (hnm : n + m ≤ 1000000000000) (hB : B ≤ w.heap.size) (w0 : World) (hb : Below B w0 w)
    (h : ∀ v' w', Own w' B v' (n + m) (zs ++ ys) → Below B w0 w' → w.grownBy w' v.ownBlock → (∀ b, b < w.heap.size → v.ownBlock ≠ some b → v'.ownBlock ≠ some b) → wpList Try.prog ops Q rest (a.put o.dst v') w') : wpList Try.prog ops Q (o :: rest) a w := by
  obtain ⟨i0, hi, hz0, hz1, hz2⟩ := info_parts info8
  refine wpList_append_lies (P := Try.prog) w hgd s x 36 ho B 5 i0 (.int .u8 0) 1 1 Try.underlying36 hi hz0 hz1 hz2 rfl (by decide) v n _ hs hown.row p m c (ys.map (Value.int .u8)) hx (by simp [hy.len]) ?_ ?_ hm (by unfold maxLen; omega) (by omega) hB _ rfl ?_
  · intro j u hj
    have hjm : j < m := by
      rcases Nat.lt_or_ge j m with h | h
      · exact h
      · rw [List.getElem?_eq_none (by simp [hy.len]; omega)] at hj; cases hj
    have hv : u = .int .u8 (byt ys j) := by
      rw [List.getElem?_map] at hj
      have hjx : j < ys.length := by rw [hy.len]; exact hjm
      simp [List.getElem?_eq_getElem hjx] at hj
      simp [byt, List.getD, hjx, hj]
    rcases hy.place with h0 | ⟨b, off, hp, _, hcell⟩
    · omega
    · cases hp
      rw [hv, show (⟨b, off, none⟩ : Addr).add j = ⟨b, off + j, none⟩ by unfold Addr.add; split <;> simp_all]
      exact hcell j hjm
  · intro u hu
    obtain ⟨z, _, rfl⟩ := List.mem_map.1 hu
    rfl
  · intro g' cap w' hown' hgrow hat _
    refine h _ w' ⟨by rw [List.map_append]; exact hown', hown.small.app hy.small⟩ (hb.grown hgrow hB fun k hk => (hown.row.lt k hk).1) hgrow fun b hb' hne e => ?_
    have e' : g' = b := by simpa [Value.ownBlock] using e
    rcases hat with h1 | h1
    · exact hne (by rw [h1, e'])
    · omega

end Go.Proofs.Ytgedgkdnjnbijaa
