import Derived.Test.YtinholnidchblaaGreatDoorQbc
set_option linter.unusedVariables false
set_option linter.unusedSimpArgs false
set_option maxRecDepth 100000
set_option maxHeartbeats 16000000
namespace Go.Proofs.YtinholnidchblaaGreatDoor
open Go.RowKit
section
variable {w w' : World}
theorem TrB.nx {x : Nat} {v : Value} (h : TrB w x v) (hb : Below w.heap.size w w') : TrB w' x v := (hb.block _ (lt_of_block h)).trans h
theorem RsB.nx {x : Nat} {vs : Array Value} (h : RsB w x vs) (hb : Below w.heap.size w w') : RsB w' x vs := (hb.block _ (lt_of_block h)).trans h
theorem OpC.nx {x : Nat} {o i m : Int} {p q : ByteArray} {da : Option Addr} {dn dc : Nat} (h : OpC w x o i m p q da dn dc) (hb : Below w.heap.size w w') : OpC w' x o i m p q da dn dc := (hb.block _ (lt_of_block h)).trans h
theorem Nds.nx {a : Option Addr} {n : Nat} {g : Nat → Nc} (h : Nds w a n g) (hb : Below w.heap.size w w') : Nds w' a n g := h.next hb
theorem ResS.nx {r : Rv} {da : Option Addr} {dn dc : Nat} {na : Option Addr} {nn nc : Nat} {Ls : List (List UInt8)} (h : ResS w r da dn dc na nn nc Ls) (hb : Below w.heap.size w w') : ResS w' r da dn dc na nn nc Ls := h.next hb
end
theorem new_trb (w : World) (v : Value) : ∃ wS x, wS = w.alloc (.cells #[v] 26 (0, 0)) ∧ x = w.heap.size ∧ TrB wS x v ∧ Below w.heap.size w wS :=
 ⟨_, _, rfl, rfl, heap_alloc_new w _, (Below.refl _ _).alloc (Nat.le_refl _) _⟩
theorem new_trs (w : World) (v u0 u1 u2 u3 u4 u5 : Value) : ∃ wS x y, wS = (w.alloc (.cells #[v] 26 (0, 0))).alloc (.cells #[u0, u1, u2, u3, u4, u5] 37 (0, 0)) ∧ x = w.heap.size ∧ y = w.heap.size + 1 ∧ TrB wS x v ∧ RsB wS y #[u0, u1, u2, u3, u4, u5] ∧ Below w.heap.size w wS := by
 obtain ⟨w1, x, h1, hx, ht, hb⟩ := new_trb w v
 have s1 : w1.heap.size = w.heap.size + 1 := by rw [h1]; simp
 obtain ⟨w2, h2⟩ : ∃ w2, w2 = w1.alloc (.cells #[u0, u1, u2, u3, u4, u5] 37 (0, 0)) := ⟨_, rfl⟩
 have hb2 : Below w1.heap.size w1 w2 := by rw [h2]; exact (Below.refl _ _).alloc (Nat.le_refl _) _
 exact ⟨w2, x, w.heap.size + 1, by rw [h2, h1], hx, rfl, ht.nx hb2, by rw [h2, ← s1]; exact heap_alloc_new w1 _, hb.trans (hb2.mono hb.size)⟩
theorem treV_few {w : World} {L : List Nd} {v : Value} (h : TreV w L v) (hL : L = [] ∨ Rgt L) : ∃ a c f, v = .agg #[.slice a L.length c] ∧ Nds w a L.length f ∧ ndL f L.length = L ∧ Few L.length f := by
 have h1 := h
 obtain ⟨a, c, f, rfl, hn, hl, h0, hc⟩ := h1
 rcases hL with rfl | hr
 ·exact ⟨a, c, f, rfl, hn, hl, Nat.zero_le _, fun i hi => absurd hi (Nat.not_lt_zero i)⟩
 ·obtain ⟨f', hn', hl', hf', _⟩ := Tv.nds ⟨h, hr⟩
  exact ⟨a, c, f', rfl, hn', hl', hf'⟩
theorem dO_ok (L : List Nd) (o : Int) (p q : ByteArray) (i m : Int) (z : List Int) : (dO L o (nms p) (nms q) i m z).1 = [] ∨ Rgt (dO L o (nms p) (nms q) i m z).1 := by
 unfold dO
 cases h : rightB L with
 | false => exact .inl rfl
 | true => exact .inr (do_right (rightB_iff.1 h) o (nms_ok p) (nms_ok q) i m z)
theorem dO_wide {w : World} {L : List Nd} {o : Int} {p q : ByteArray} {i m : Int} {z : List Int} {da : Option Addr} {dn dc : Nat} {na : Option Addr} {nn nc : Nat} {Ls : List (List UInt8)} (h : ResS w (dO L o (nms p) (nms q) i m z).2 da dn dc na nn nc Ls) : dn ≤ 1000000000 ∧ nn ≤ 1000000000 := by
 unfold dO at h
 cases hr : rightB L with
 | false =>
  rw [hr] at h
  have h1 := h.data.len
  have h2 := h.names.len
  have h3 := congrArg List.length h.nam
  rw [List.length_map] at h3
  have e1 : (0 : Nat) = dn := h1
  have e2 : Ls.length = 0 := h3
  omega
 | true =>
  rw [hr] at h
  exact lp_wide (rightB_iff.1 hr) rfl h
end Go.Proofs.YtinholnidchblaaGreatDoor
