/-
  CopyInts by contract.
-/
import Derived.Test.YtgedgkdnjnbijaaInts
import Derived.Laws.AppendOwnNone
namespace Go.Proofs.Ytgedgkdnjnbijaa
open Go.RowKit
set_option linter.unusedVariables false
set_option linter.unusedSimpArgs false

/-- 'append' of a slice of numbers onto a new empty slice. -/
theorem wpList_apx {w : World} {ops : Array Oper} {rest : List Oper} {o : Oper} {a : Act} {Q : Exit → Act → World → Prop} (hgd : o.guard = none) (s x : Operand)
    (ho : o.op = .call { callee := .builtin .append, args := #[s, x], argTypes := #[22, 22] })
    (g1 : Nat) (ad : Option Addr) (l c : Nat) (ks : List Int) (hs : a.eval s = .slice (some ⟨g1, 0, none⟩) 0 0) (hx : a.eval x = .slice ad l c) (h1 : w.heap[g1]? = some (.cells #[] 3 (0, 0))) (hy : Ins w ad l ks) (hnil : ad = none → l = 0 ∧ c = 0) (hl : l ≤ 1000000000000) (B : Nat) (hB : B ≤ g1) (w0 : World) (hb : Below B w0 w)
    (h : ∀ a' c' w', Ins w' a' l ks → (a' = none → l = 0 ∧ c' = 0) → (∀ x, a' = some x → B ≤ x.block) → Below B w0 w' → wpList Try.prog ops Q rest (a.put o.dst (.slice a' l c')) w') : wpList Try.prog ops Q (o :: rest) a w := by
  obtain ⟨i0, hi, hz0, hz1, hz2⟩ := info_parts info3
  have hlt := lt_of_block h1
  have hown : w.ownsRow B 3 1 (.slice (some ⟨g1, 0, none⟩) 0 0) 0 [] := ⟨rfl, .inr ⟨g1, 0, #[], rfl, hB, h1, Nat.le_refl _, Nat.zero_le _, rfl, rfl⟩⟩
  obtain ⟨hlen, hp⟩ := hy
  cases ad with
  | none =>
    obtain ⟨rfl, rfl⟩ := hnil rfl
    exact wpList_append_own_none hgd s x 22 ho B 3 i0 1 Try.underlying22 hi _ 0 _ hs hown hx (h _ _ w ⟨hlen, .inl rfl⟩ (fun e => by cases e) (fun x e => by cases e; exact hB) hb)
  | some p =>
    refine wpList_append_own w hgd s x 22 ho B 3 i0 (.int .i64 0) 1 8 Try.underlying22 hi hz0 hz1 hz2 rfl (by decide) (.slice (some ⟨g1, 0, none⟩) 0 0) 0 [] hs hown p l c (ks.map (Value.int .i64)) hx (by simp [hlen]) ?_ ?_ (by unfold maxLen; omega) (by omega) (by omega) ?_
    · intro j u hj
      have hjl : j < l := by
        rcases Nat.lt_or_ge j l with h | h
        · exact h
        · rw [List.getElem?_eq_none (by simp [hlen]; omega)] at hj; cases hj
      have hv : u = .int .i64 (num ks j) := by
        rw [List.getElem?_map] at hj
        have hjx : j < ks.length := by rw [hlen]; exact hjl
        simp [List.getElem?_eq_getElem hjx] at hj
        simp [num, List.getD, hjx, hj]
      rcases hp with h0 | ⟨b, off, hp, _, hcell⟩
      · omega
      · cases hp
        rw [hv, show (⟨b, off, none⟩ : Addr).add j = ⟨b, off + j, none⟩ by unfold Addr.add; split <;> simp_all]
        exact hcell j hjl
    · intro u hu
      obtain ⟨z, _, rfl⟩ := List.mem_map.1 hu
      rfl
    · intro v' w' hown' hgrow _
      have hb' := hb.grown hgrow (by omega) fun k hk => by cases hk; exact hB
      rw [Nat.zero_add] at hown'
      have ho : OwnI w' B v' l ks := by
        have := hown'
        rw [List.nil_append] at this
        exact this
      have hnn := ho
      obtain ⟨a', c', rfl, hi, _, _, hlo⟩ := ho.ins
      refine h a' c' w' hi (fun e => ?_) (fun x hx => (hlo x hx).1) hb'
      subst e
      rcases hnn.2 with ⟨e1, h0⟩ | ⟨g, cap, cur, e1, _⟩
      · cases e1; exact ⟨rfl, rfl⟩
      · cases e1
theorem cpints_any (a : Option Addr) (l c : Nat) (ks : List Int) (w : World) (hx : Ins w a l ks) (hnil : a = none → l = 0 ∧ c = 0) (hl : l ≤ 1000000000000) :
    Calls Try.prog 11 #[.slice a l c] w fun e w' => ∃ a' c', e = .returned (.slice a' l c') ∧ Ins w' a' l ks ∧ (a' = none → l = 0 ∧ c' = 0) ∧ Below w.heap.size w w' := by
  have hxa := hx.alloc (.cells #[] 3)
  go_enter Try.func11, Try.ntmps11
  go_wp2_with (at_builtin; go_must (refine wpList_apx rfl (.tmp 5) (.tmp 6) rfl w.heap.size a l c ks rfl rfl (heap_alloc_new w _) hxa hnil hl w.heap.size (Nat.le_refl _) w ((Below.refl _ _).alloc (Nat.le_refl _) _) ?_); intro a' c' w1 h1 h2 _ hb1)
  go_ret
  exact ⟨a', c', rfl, h1, h2, hb1⟩
end Go.Proofs.Ytgedgkdnjnbijaa
