/-
  The reference's copy of numbers, by contract.
-/
import Derived.Test.YtcgemckookefmaaRefSet
import Derived.Laws.AppendOwnNone
namespace Go.Proofs.Ytcgemckookefmaa
open Go.RowKit Go.Maps

/-- 'append' of a slice of numbers onto a new empty slice. -/
theorem wpList_api {w : World} {ops : Array Oper} {rest : List Oper} {o : Oper} {a : Act} {Q : Exit → Act → World → Prop} (hgd : o.guard = none) (s x : Operand)
    (ho : o.op = .call { callee := .builtin .append, args := #[s, x], argTypes := #[31, 31] })
    (g1 : Nat) (ad : Option Addr) (l c : Nat) (ks : List Int) (hs : a.eval s = .slice (some ⟨g1, 0, none⟩) 0 0) (hx : a.eval x = .slice ad l c) (h1 : w.heap[g1]? = some (.cells #[] 3 (0, 0))) (hy : Ins w ad l ks) (hnil : ad = none → l = 0 ∧ c = 0) (hl : l ≤ 1000000000000) (B : Nat) (hB : B ≤ g1) (w0 : World) (hb : Below B w0 w)
    (h : ∀ a' c' w', Ins w' a' l ks → (∀ b off, a' = some ⟨b, off, none⟩ → B ≤ b) → Below B w0 w' → wpList Try.prog ops Q rest (a.put o.dst (.slice a' l c')) w') : wpList Try.prog ops Q (o :: rest) a w := by
  obtain ⟨i0, hi, hz0, hz1, hz2⟩ := info_parts info3
  have hlt := lt_of_block h1
  have hown : w.ownsRow B 3 1 (.slice (some ⟨g1, 0, none⟩) 0 0) 0 [] := ⟨rfl, .inr ⟨g1, 0, #[], rfl, hB, h1, Nat.le_refl _, Nat.zero_le _, rfl, rfl⟩⟩
  obtain ⟨hlen, hp⟩ := hy
  cases ad with
  | none =>
    obtain ⟨rfl, rfl⟩ := hnil rfl
    exact wpList_append_own_none hgd s x 31 ho B 3 i0 1 Try.underlying31 hi _ 0 _ hs hown hx (h _ _ w ⟨hlen, .inl rfl⟩ (fun b off e => by cases e; exact hB) hb)
  | some p =>
    refine wpList_append_own w hgd s x 31 ho B 3 i0 (.int .i64 0) 1 8 Try.underlying31 hi hz0 hz1 hz2 rfl (by decide) (.slice (some ⟨g1, 0, none⟩) 0 0) 0 [] hs hown p l c (ks.map (Value.int .i64)) hx (by simp [hlen]) ?_ ?_ (by unfold maxLen; omega) (by omega) (by omega) ?_
    · intro j u hj
      have hjl : j < l := by
        rcases Nat.lt_or_ge j l with h | h
        · exact h
        · rw [List.getElem?_eq_none (by simp [hlen]; omega)] at hj; cases hj
      have hv : u = .int .i64 (ks.getD j 0) := by
        rw [List.getElem?_map] at hj
        have hjx : j < ks.length := by rw [hlen]; exact hjl
        simp [List.getElem?_eq_getElem hjx] at hj
        simp [List.getD, hjx, hj]
      rcases hp with h0 | ⟨b, off, hp, _, hcell⟩
      · omega
      · cases hp
        rw [hv, show (⟨b, off, none⟩ : Addr).add j = ⟨b, off + j, none⟩ by unfold Addr.add; split <;> simp_all]
        exact hcell j hjl
    · intro u hu
      obtain ⟨z, _, rfl⟩ := List.mem_map.1 hu
      rfl
    · intro v' w' hown' hgrow _
      have hb' := hb.grown hgrow (by omega) fun k hk => by cases hk; exact hB
      rcases hown'.2 with ⟨rfl, h0⟩ | ⟨g, cap, cur, rfl, hbg, hh, _, _, hsz, htake⟩
      · obtain rfl : l = 0 := by omega
        exact h _ _ w' ⟨hlen, .inl rfl⟩ (fun b off e => by cases e) hb'
      · rw [Nat.zero_add]
        refine h _ _ w' ⟨hlen, .inr ⟨g, 0, rfl, (Array.getElem?_eq_some_iff.1 hh).1, fun i hi => ?_⟩⟩ (fun b off e => by cases e; exact hbg) hb'
        rw [Nat.zero_add, cell_of_row w' g _ _ _ (0, 0) hh, ← Array.getElem?_toList]
        have := congrArg (fun l => l[i]?) htake
        simp [hi] at this
        rw [Array.getElem?_toList, this]
        simp [List.getD, show i < ks.length by omega]

theorem cpints_any (a : Option Addr) (l c : Nat) (ks : List Int) (w : World) (hx : Ins w a l ks) (hnil : a = none → l = 0 ∧ c = 0) (hl : l ≤ 1000000000000) :
    Calls Try.prog 35 #[.slice a l c] w fun e w' => ∃ a' c', e = .returned (.slice a' l c') ∧ Ins w' a' l ks ∧ (∀ b off, a' = some ⟨b, off, none⟩ → w.heap.size ≤ b) ∧ Below w.heap.size w w' := by
  have hxa : Ins (w.alloc (.cells #[] 3)) a l ks := ins_turn' hx (Turn.of_below (M := fun _ => False) ((Below.refl w.heap.size w).alloc (Nat.le_refl _) _)) (.inr fun _ _ _ x => x)
  go_enter Try.func35, Try.ntmps35
  go_wp2_with (at_builtin; go_must (refine wpList_api rfl (.tmp 5) (.tmp 6) rfl w.heap.size a l c ks rfl rfl (heap_alloc_new w _) hxa hnil hl w.heap.size (Nat.le_refl _) w ((Below.refl _ _).alloc (Nat.le_refl _) _) ?_); intro a' c' w1 h1 h2 hb1)
  go_ret
  exact ⟨a', c', rfl, h1, h2, hb1⟩

end Go.Proofs.Ytcgemckookefmaa
