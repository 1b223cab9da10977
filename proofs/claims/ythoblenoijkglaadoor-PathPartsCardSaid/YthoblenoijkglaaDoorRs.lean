/-
  The document's Split, by contract.
-/
import Derived.Test.YthoblenoijkglaaDoorSp
import Derived.Laws.BytesArg
namespace Go.Proofs.YthoblenoijkglaaDoor
open Go.RowKit
set_option linter.unusedVariables false
set_option linter.unusedSimpArgs false

/-- Bytes, as the cells of a slice have them. -/
def bI (l : List UInt8) : List Int := l.map fun b => ((b.toNat : Nat) : Int)
theorem bI_len (l : List UInt8) : (bI l).length = l.length := by simp [bI]
theorem bI_all (l : List UInt8) : AllB (bI l) := fun z hz => by
  obtain ⟨b, _, rfl⟩ := List.mem_map.1 hz
  have := b.toNat_lt
  omega
theorem bI_snoc (l : List UInt8) (b : UInt8) : bI (l ++ [b]) = bI l ++ [((b.toNat : Nat) : Int)] := by simp [bI]
theorem bI_text (l : List UInt8) : strOfNums (bI l) = tx l := by
  unfold strOfNums tx bI
  rw [List.map_map]
  congr 2
  conv => rhs; rw [← List.map_id l]
  exact List.map_congr_left fun b _ => by simp
/-- A slice of bytes of the call's own, as a text. -/
theorem conv_own {w : World} {B : Nat} {v : Value} {n : Nat} {l : List UInt8} (h : Own w B v n (bI l)) : (convert 40 9 v).run Tryd.prog w = .ok (.string (tx l)) w := by
  obtain ⟨a, c, rfl, hz, hb, _⟩ := h.form
  rcases a with _ | p
  · obtain ⟨rfl, rfl⟩ := hz rfl
    have hl := hb.len
    rw [bI_len] at hl
    obtain rfl : l = [] := List.length_eq_zero_iff.1 hl
    exact run_convert_bytes_nil w _ _ Tryd.underlying40 Tryd.underlying5 0 0 _ Tryd.underlying9
  · rcases h.row.2 with ⟨e, _⟩ | ⟨g, cap, cur, e, _, _, _, _, _, _⟩
    · cases e
    · cases e
      rw [← bI_text]
      refine run_convert_bytes_arg w _ _ Tryd.underlying40 Tryd.underlying5 g 0 n c (bI l) hb.len (fun i hi => ?_) _ Tryd.underlying9
      rcases hb.place with h0 | ⟨b, off, e, _, hc⟩
      · omega
      · cases e
        exact hc i hi
theorem own_apart {w : World} {B B' : Nat} {v v' : Value} {n m : Nat} {zs : List Int} {L : List (List UInt8)} (h : Own w B v n zs) (h' : OwnT w B' v' m L) : v'.ownBlock = none ∨ v'.ownBlock ≠ v.ownBlock := by
  rcases h'.2 with ⟨rfl, _⟩ | ⟨g', cap', cur', rfl, _, hg', _⟩
  · exact .inl rfl
  · rcases h.row.2 with ⟨rfl, _⟩ | ⟨g, cap, cur, rfl, _, hg, _⟩
    · exact .inr (by simp [Value.ownBlock])
    · refine .inr fun e => ?_
      simp only [Value.ownBlock, Option.some.injEq] at e
      subst e
      rw [hg] at hg'
      cases hg'
/-- 'append(s, b)' of a byte, s of the call's own, a row of texts of its own beside it. -/
theorem wpList_apb {w : World} {ops : Array Oper} {rest : List Oper} {o : Oper} {a : Act} {Q : Exit → Act → World → Prop} (hgd : o.guard = none) (s x : Operand)
    (ho : o.op = .call { callee := .builtin .append, args := #[s, x], argTypes := #[40, 40] })
    (B : Nat) (v : Value) (n : Nat) (l : List UInt8) (hs : a.eval s = v) (hown : Own w B v n (bI l)) (g : Nat) (b : UInt8) (hx : a.eval x = .slice (some ⟨g, 0, none⟩) 1 1) (hg : w.cell? ⟨g, 0, none⟩ = some (.int .u8 ((b.toNat : Nat) : Int)))
    (vt : Value) (m : Nat) (L : List (List UInt8)) (hT : OwnT w B vt m L)
    (hn : n + 1 ≤ 1000000000000) (hB : B ≤ w.heap.size) (w0 : World) (hb : Below B w0 w)
    (h : ∀ v' w', Own w' B v' (n + 1) (bI (l ++ [b])) → OwnT w' B vt m L → Below B w0 w' → wpList Tryd.prog ops Q rest (a.put o.dst v') w') : wpList Tryd.prog ops Q (o :: rest) a w := by
  obtain ⟨i0, hi, hz0, hz1, hz2⟩ := info_parts info8
  refine wpList_append_own w hgd s x 40 ho B 5 i0 (.int .u8 0) 1 1 Tryd.underlying40 hi hz0 hz1 hz2 rfl (by decide) v n _ hs hown.row ⟨g, 0, none⟩ 1 1 [.int .u8 ((b.toNat : Nat) : Int)] hx rfl ?_ ?_ (by unfold maxLen; omega) (by omega) hB ?_
  · intro j u hj
    cases j with
    | zero =>
      simp at hj
      subst hj
      exact hg
    | succ j => simp at hj
  · intro u hu
    rw [List.mem_singleton.1 hu]
    rfl
  · intro v' w' hown' hgrow _
    refine h v' w' ⟨by rw [bI_snoc, List.map_append]; exact hown', bI_all _⟩ (hT.kept hgrow (own_apart hown hT)) (hb.grown hgrow hB fun k hk => (hown.row.lt k hk).1)
theorem own_nil8 (w : World) (B : Nat) : Own w B (.slice none 0 0) 0 (bI []) := ⟨World.ownsRow_nil _ _ _ _, fun z hz => by cases hz⟩
theorem Own.next {w w' : World} {B : Nat} {v : Value} {n : Nat} {zs : List Int} (h : Own w B v n zs) (hb : Below w.heap.size w w') : Own w' B v n zs := h.below (Nat.le_refl _) hb
theorem Own.alloc {w : World} {B : Nat} {v : Value} {n : Nat} {zs : List Int} (h : Own w B v n zs) (o : Obj) : Own (w.alloc o) B v n zs := h.next ((Below.refl _ _).alloc (Nat.le_refl _) o)
end Go.Proofs.YthoblenoijkglaaDoor
