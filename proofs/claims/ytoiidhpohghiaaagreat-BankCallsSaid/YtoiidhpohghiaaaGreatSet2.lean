/-
  What the reference's New answers, laid into a variable that is made behind it: a rack, beside another one.
-/
import Derived.Test.YtoiidhpohghiaaaGreatRly
import Derived.Test.YtoiidhpohghiaaaGreatRfb
import Derived.Test.YtoiidhpohghiaaaGreatOpm
namespace Go.Proofs.YtoiidhpohghiaaaGreat
open Go.RowKit Go.Maps

theorem RefAt.of_new2 {w w' : World} {B p n S P : Nat} {v : Nat → Value} {xs : Nat → List Value} (h : NewD w B p n S (fun i => if i < 2 then n * S else n) v xs) (hb : Below w.heap.size w w') (hP : P = w.heap.size) (hBP : B ≤ P)
    (hx1 : xs 1 = List.replicate (n * S) (.slice none 0 0)) (hx2 : xs 2 = List.replicate n (.bool false)) (hx3 : xs 3 = List.replicate n (.int .i64 (-1)))
    (hrow : w'.heap[P]? = some (.cells #[.int .i64 n, .int .i64 S, v 0, v 1, v 2, v 3, .int .i64 (-1), .bool false] 41 (0, 0))) (h1 : 1 ≤ n) (h2 : n ≤ 17) (h3 : 1 ≤ S) (h4 : S ≤ 4096) (N : Nat → Prop) (hN : ∀ k, N k → k < B) :
    ∃ L : RLay, L.p = P ∧ (∀ k, L.M k → B ≤ k) ∧ RefAt w' (fun k => N k ∨ L.M k) L (newRf n S) := by
  have hkp : 0 < n * S := Nat.mul_pos h1 h3
  obtain ⟨g0, p0, e0⟩ := h.form 0 (by omega) hkp
  obtain ⟨g1, p1, e1⟩ := h.form 1 (by omega) hkp
  obtain ⟨g2, p2, e2⟩ := h.form 2 (by omega) h1
  obtain ⟨g3, p3, e3⟩ := h.form 3 (by omega) h1
  have b0 := (h.own 0 (by omega)).lt g0 (by rw [e0]; rfl)
  have b1 := (h.own 1 (by omega)).lt g1 (by rw [e1]; rfl)
  have b2 := (h.own 2 (by omega)).lt g2 (by rw [e2]; rfl)
  have b3 := (h.own 3 (by omega)).lt g3 (by rw [e3]; rfl)
  have h' := h.below hb
  have o0 := h'.own 0 (by omega)
  have o1 := h'.own 1 (by omega)
  have o2 := h'.own 2 (by omega)
  have o3 := h'.own 3 (by omega)
  have hne : ∀ i j, i < 4 → j < 4 → i ≠ j → ∀ a b, (v i).ownBlock = some a → (v j).ownBlock = some b → a ≠ b := fun i j hi hj hij a b ha hb e => h.ne i j hi hj hij a ha (by rw [hb, e])
  have w0 : (v 0).ownBlock = some g0 := by rw [e0]; rfl
  have w1 : (v 1).ownBlock = some g1 := by rw [e1]; rfl
  have w2 : (v 2).ownBlock = some g2 := by rw [e2]; rfl
  have w3 : (v 3).ownBlock = some g3 := by rw [e3]; rfl
  have hsz := hb.size
  rw [e0] at o0
  rw [e1, hx1] at o1
  rw [e2, hx2] at o2
  rw [e3, hx3] at o3
  rw [e0, e1, e2, e3] at hrow
  have hlow : ∀ k, (⟨P, g0, g1, g2, g3, p0, p1, p2, p3⟩ : RLay).M k → B ≤ k := by
    intro k hk
    rcases hk with rfl | rfl | rfl | rfl | rfl
    · exact hBP
    · exact b0.1
    · exact b1.1
    · exact b2.1
    · exact b3.1
  refine ⟨⟨P, g0, g1, g2, g3, p0, p1, p2, p3⟩, rfl, hlow, fun j => (xs 0).getD j undef, fun _ => .slice none 0 0, ⟨hrow, col_own o0, ?_, ?_, ?_, fun k hk => ?_, fun k _ => .inl ⟨rfl, rfl⟩, ⟨?_, ?_, ?_, ?_, ?_, ?_, ?_, ?_, ?_, ?_⟩, fun _ x => .inr x, fun k hk => ?_, h2, h3, h4, (by show (-1 : Int) ≤ _; omega), fun _ => (by show (-1 : Int) ≤ _; omega)⟩⟩
  · exact (col_own o1).congr fun k hk => by simp [List.getD, show k < n * S from hk]
  · exact (col_own o2).congr fun k hk => by simp [List.getD, show k < n from hk, newRf]
  · exact (col_own o3).congr fun k hk => by simp [List.getD, show k < n from hk, newRf]
  · obtain ⟨g, he, hbk, hB, hno⟩ := h.el k hk
    have hgl := hbk.lt
    refine ⟨g, 64, by simp [List.getD, he], ?_, (hbk.below hgl hb).bysn (AllB.zeros _) (by simp)⟩
    intro hM
    rcases hM with hM | rfl | rfl | rfl | rfl | rfl
    · have := hN _ hM
      omega
    · show False
      omega
    · exact hno 0 (by omega) w0
    · exact hno 1 (by omega) w1
    · exact hno 2 (by omega) w2
    · exact hno 3 (by omega) w3
  · show P ≠ g0; omega
  · show P ≠ g1; omega
  · show P ≠ g2; omega
  · show P ≠ g3; omega
  · exact hne 0 1 (by omega) (by omega) (by omega) _ _ w0 w1
  · exact hne 0 2 (by omega) (by omega) (by omega) _ _ w0 w2
  · exact hne 0 3 (by omega) (by omega) (by omega) _ _ w0 w3
  · exact hne 1 2 (by omega) (by omega) (by omega) _ _ w1 w2
  · exact hne 1 3 (by omega) (by omega) (by omega) _ _ w1 w3
  · exact hne 2 3 (by omega) (by omega) (by omega) _ _ w2 w3
  · have hPl := lt_of_block hrow
    rcases hk with hk | rfl | rfl | rfl | rfl | rfl
    · have := hN k hk; omega
    · exact hPl
    · omega
    · omega
    · omega
    · omega

theorem both_new2 {w w6 : World} {B p n S : Nat} {v : Nat → Value} {xs : Nat → List Value} {L : Lay} {R : Rk} (hr : RackAt w (L.M R.n) L R) (hb : Below w.heap.size w w6)
    (hD : NewD w6 B p n S (fun i => if i < 2 then n * S else n) v xs) (hx1 : xs 1 = List.replicate (n * S) (.slice none 0 0)) (hx2 : xs 2 = List.replicate n (.bool false)) (hx3 : xs 3 = List.replicate n (.int .i64 (-1)))
    (hB : w.heap.size ≤ B) (hBP : B ≤ w6.heap.size) (h1 : 1 ≤ n) (h2 : n ≤ 17) (h3 : 1 ≤ S) (h4 : S ≤ 4096) :
    ∃ K : RLay, K.p = w6.heap.size ∧ (∀ k, K.M k → w.heap.size ≤ k) ∧ Both (w6.alloc (.cells #[.int .i64 n, .int .i64 S, v 0, v 1, v 2, v 3, .int .i64 (-1), .bool false] 41 (0, 0))) L K R (newRf n S) := by
  have ha : Below w6.heap.size w6 (w6.alloc (.cells #[.int .i64 n, .int .i64 S, v 0, v 1, v 2, v 3, .int .i64 (-1), .bool false] 41 (0, 0))) := (Below.refl _ _).alloc (Nat.le_refl _) _
  have hb' := hb.trans (ha.mono hb.size)
  have hlow : ∀ k, L.M R.n k → k < w.heap.size := hr.low
  obtain ⟨K, e1, e2, e3⟩ := RefAt.of_new2 hD ha rfl hBP hx1 hx2 hx3 (heap_alloc_new w6 _) h1 h2 h3 h4 (fun k => L.M R.n k) (fun k hk => by have := hlow k hk; omega)
  have hK : ∀ k, K.M k → w.heap.size ≤ k := fun k hk => Nat.le_trans hB (e2 k hk)
  refine ⟨K, e1, hK, ⟨?_, e3, fun k hk hk' => ?_⟩⟩
  · refine hr.wide hb' (fun k hk => ?_) (fun k hk => .inl hk) (fun k hk => ?_)
    · rcases hk with hk | hk
      · exact .inl hk
      · exact .inr (hK k hk)
    · obtain ⟨fl, fc, hx⟩ := e3
      exact hx.low k hk
  · have := hlow k hk
    have := hK k hk'
    omega

end Go.Proofs.YtoiidhpohghiaaaGreat
