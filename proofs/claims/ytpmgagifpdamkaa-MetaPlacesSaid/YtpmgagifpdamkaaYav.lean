/-
  Two slices of numbers that a statement makes side by side.
-/
import Derived.Test.YtpmgagifpdamkaaYal
import Derived.Test.YtpmgagifpdamkaaYac
import Derived.Test.YtpmgagifpdamkaaYah
import Derived.Deep.AppendLies
set_option linter.unusedVariables false
set_option linter.unusedSimpArgs false
set_option maxRecDepth 100000
set_option maxHeartbeats 16000000
namespace Go.Proofs.Ytpmgagifpdamkaa
open Go.RowKit

/-- 'append(s, x)' of one number, s of the call's own; another slice of the call's own is as it was. -/
theorem wpList_apTw {w : World} {ops : Array Oper} {rest : List Oper} {o : Oper} {a : Act} {Q : Exit → Act → World → Prop} (hgd : o.guard = none) (s x : Operand)
    (ho : o.op = .call { callee := .builtin .append, args := #[s, x], argTypes := #[25, 25] })
    (B : Nat) (v u : Value) (n m : Nat) (ks ls : List Int) (hs : a.eval s = v) (hown : OwnI w B v n ks) (hu : OwnI w B u m ls) (hne : ∀ j, v.ownBlock = some j → u.ownBlock ≠ some j) (g : Nat) (z : Int) (hx : a.eval x = .slice (some ⟨g, 0, none⟩) 1 1) (hg : w.cell? ⟨g, 0, none⟩ = some (.int .i64 z))
    (hn : n + 1 ≤ 1000000000000) (hB : B ≤ w.heap.size) (w0 : World) (hb : Below B w0 w)
    (h : ∀ v' w', OwnI w' B v' (n + 1) (ks ++ [z]) → OwnI w' B u m ls → (∀ j, v'.ownBlock = some j → u.ownBlock ≠ some j) → Below B w0 w' → wpList Try.prog ops Q rest (a.put o.dst v') w') : wpList Try.prog ops Q (o :: rest) a w := by
  obtain ⟨i0, hi, hz0, hz1, hz2⟩ := info_parts info3
  refine wpList_append_lies w hgd s x 25 ho B 3 i0 (.int .i64 0) 1 8 Try.underlying25 hi hz0 hz1 hz2 rfl (by decide) v n _ hs hown ⟨g, 0, none⟩ 1 1 [.int .i64 z] hx rfl ?_ ?_ (by decide) (by unfold maxLen; omega) (by omega) hB w.heap.size rfl ?_
  · intro j u hj
    cases j with
    | zero =>
      simp at hj
      subst hj
      exact hg
    | succ j => simp at hj
  · intro u hu
    rw [List.mem_singleton.1 hu]
    rfl
  · intro g1 cap w' hown' hgrow hat hlt
    refine h _ w' (by unfold OwnI; rw [List.map_append]; exact hown') (hu.turn (Turn.of_grown (M := fun j => v.ownBlock = some j) hgrow (fun b e => e)) fun j e e2 => hne j e2 e) (fun j e e2 => ?_) (hb.grown hgrow hB fun k hk => (World.ownsRow.lt hown k hk).1)
    have e3 : g1 = j := by simpa [Value.ownBlock] using e
    subst e3
    rcases hat with e4 | e4
    · exact hne _ e4 e2
    · have := (World.ownsRow.lt hu _ e2).2
      omega
/-- Numbers by their places. -/
def sq (f : Nat → Int) (i : Nat) : List Int := (List.range i).map f
theorem sq_len (f : Nat → Int) (i : Nat) : (sq f i).length = i := by simp [sq]
theorem sq_succ (f : Nat → Int) (i : Nat) : sq f (i + 1) = sq f i ++ [f i] := by simp [sq, List.range_succ]
theorem sq_any (f : Nat → Int) {i : Nat} {A : Int} (h : ∀ j, j < i → 1 ≤ f j ∧ f j ≤ A) : ((sq f i).any fun a => !isA A a) = false := by
  rw [List.any_eq_false]
  intro x hx
  obtain ⟨j, hj, rfl⟩ := List.mem_map.1 hx
  have := isA_iff.2 (h j (List.mem_range.1 hj))
  simp [this]
theorem layB_last (at' : Nat → Int) (f : Nat → Nd) (n : Nat) {C : Nat} (hC : C = off at' f n + 3) : ((layB at' f n).getD (C - 1) default).own = 0 ∧ ((layB at' f n).getD (C - 1) default).ind = 0 := by
  subst hC
  have : (layB at' f n)[off at' f n + 3 - 1]? = some ⟨0, 0, rtB (at' (off at' f n)) (at' (off at' f n + 1))⟩ := by
    unfold layB
    rw [List.getElem?_append_right (by unfold off; omega)]
    rw [show off at' f n + 3 - 1 - (lB at' f n).length = 2 by unfold off; omega]
    rfl
  rw [List.getD, this]
  exact ⟨rfl, rfl⟩
theorem bls_heads {at1 at2 : Nat → Int} {f : Nat → Nd} {n : Nat} {gs hs : List Bl} (h1 : gs.map Bl.bk = layB at1 f n) (h2 : hs.map Bl.bk = layB at2 f n) {i : Nat} (hi : i < gs.length) (hj : i < hs.length) : gs[i].own = hs[i].own ∧ gs[i].ind = hs[i].ind := by
  have h := layB_heads at1 at2 f n
  rw [← h1, ← h2, List.map_map, List.map_map] at h
  have := congrArg (fun l => l[i]?) h
  simp only [List.getElem?_map, List.getElem?_eq_getElem hi, List.getElem?_eq_getElem hj, Option.map_some, Option.some.injEq, Function.comp, Prod.mk.injEq] at this
  exact this
end Go.Proofs.Ytpmgagifpdamkaa
