/-
  Rows of pieces of the call's own: two more at once.
-/
import Derived.Test.YtgdkcdgomopnfaaRowO
namespace Go.Proofs.Ytgdkcdgomopnfaa
open Go.RowKit

theorem vals_two (f : Nat → Pc) (n : Nat) (p q : Pc) : vals (snoc (snoc f n p) (n + 1) q) (n + 2) = vals f n ++ [.slice p.a p.n p.c, .slice q.a q.n q.c] := by
  rw [show n + 2 = (n + 1) + 1 from rfl, vals_snoc, vals_snoc, List.append_assoc]
  rfl
/-- 'append(rows, p, q)'. -/
theorem wpList_apR2 {w : World} {ops : Array Oper} {rest : List Oper} {o : Oper} {a : Act} {Q : Exit → Act → World → Prop} (hgd : o.guard = none) (s x : Operand)
    (ho : o.op = .call { callee := .builtin .append, args := #[s, x], argTypes := #[46, 46] })
    (B : Nat) (v : Value) (n : Nat) (f : Nat → Pc) (hs : a.eval s = v) (hown : OwnR w B v n f) (g : Nat) (hx : a.eval x = .slice (some ⟨g, 0, none⟩) 2 2)
    (p q : Pc) (hg0 : w.cell? ⟨g, 0, none⟩ = some (.slice p.a p.n p.c)) (hg1 : w.cell? ⟨g, 1, none⟩ = some (.slice q.a q.n q.c)) (hp : Pin w p.a p.n p.c p.zs) (hq : Pin w q.a q.n q.c q.zs)
    (hap : p.n = 0 ∨ ∀ y, p.a = some y → some y.block ≠ v.ownBlock) (haq : q.n = 0 ∨ ∀ y, q.a = some y → some y.block ≠ v.ownBlock)
    (hn : n + 2 ≤ 1000000000000) (hB : B ≤ w.heap.size) (w0 : World) (hb : Below B w0 w)
    (h : ∀ v' w', OwnR w' B v' (n + 2) (snoc (snoc f n p) (n + 1) q) → Below B w0 w' → wpList Try.prog ops Q rest (a.put o.dst v') w') : wpList Try.prog ops Q (o :: rest) a w := by
  obtain ⟨i0, hi, hz0, hz1, hz2⟩ := info_parts info24
  refine wpList_append_lies (P := Try.prog) w hgd s x 46 ho B 31 i0 (.slice none 0 0) 1 24 Try.underlying46 hi hz0 hz1 hz2 rfl (by omega) v n _ hs hown.row ⟨g, 0, none⟩ 2 2 [.slice p.a p.n p.c, .slice q.a q.n q.c] hx rfl ?_ ?_ (by omega) (by unfold maxLen; omega) (by omega) hB _ rfl ?_
  · intro j u hj
    match j with
    | 0 =>
      simp at hj
      subst hj
      exact hg0
    | 1 =>
      simp at hj
      subst hj
      exact hg1
    | j + 2 => simp at hj
  · intro u hu
    rcases List.mem_cons.1 hu with rfl | hu
    · rfl
    · rw [List.mem_singleton.1 hu]; rfl
  · intro g' cap w' hown' hgrow hat hlt
    have hE : (Value.slice (some ⟨g', 0, none⟩) (n + 2) cap).ownBlock = some g' := rfl
    have hap' : ∀ {pa : Option Addr} {pn pc : Nat} {pz : List Int}, Pin w pa pn pc pz → (pn = 0 ∨ ∀ y, pa = some y → some y.block ≠ v.ownBlock) → (pn = 0 ∨ ∀ y, pa = some y → some y.block ≠ some g') := by
      intro pa pn pc pz hp h
      rcases h with h0 | hne
      · exact .inl h0
      rcases hp.bys.place with h0 | ⟨b, off, e, hb', _⟩
      · exact .inl h0
      right
      intro y hy e2
      rcases hat with h1 | h1
      · exact hne y hy (by rw [h1]; exact e2)
      · rw [e] at hy
        cases hy
        have : b = g' := by simpa using e2
        omega
    refine h _ w' ⟨by rw [vals_two]; exact hown', fun i hi => ?_, fun i hi => ?_⟩ (hb.grown hgrow hB fun k hk => (hown.row.lt k hk).1)
    · rcases Nat.lt_or_ge i n with h1 | h1
      · rw [snoc_old (by omega), snoc_old h1]; exact (hown.each i h1).grown hgrow (hown.apart i h1)
      · rcases (by omega : i = n ∨ i = n + 1) with rfl | rfl
        · rw [snoc_old (by omega), snoc_new]; exact hp.grown hgrow hap
        · rw [snoc_new]; exact hq.grown hgrow haq
    · rw [hE]
      rcases Nat.lt_or_ge i n with h1 | h1
      · rw [snoc_old (by omega), snoc_old h1]; exact hap' (hown.each i h1) (hown.apart i h1)
      · rcases (by omega : i = n ∨ i = n + 1) with rfl | rfl
        · rw [snoc_old (by omega), snoc_new]; exact hap' hp hap
        · rw [snoc_new]; exact hap' hq haq

end Go.Proofs.Ytgdkcdgomopnfaa
