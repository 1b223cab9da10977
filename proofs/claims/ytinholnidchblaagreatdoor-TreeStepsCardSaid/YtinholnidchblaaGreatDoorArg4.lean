import Derived.Test.YtinholnidchblaaGreatDoorQaa
import Derived.Deep.Slices
import Derived.ChangeArms
import Derived.SizedLaws
set_option linter.unusedVariables false
set_option linter.unusedSimpArgs false
set_option maxRecDepth 100000
set_option maxHeartbeats 16000000
namespace Go.Proofs.YtinholnidchblaaGreatDoor
open Go.RowKit Go.ChangeShapes Go.WideShapes Go.Deep
theorem choose_lt {α : Type} [Inhabited α] {n : Nat} {P : Nat → α → Prop} (h : ∀ i, i < n → ∃ y, P i y) : ∃ f : Nat → α, ∀ i, i < n → P i (f i) :=
 ⟨fun i => if hi : i < n then Classical.choose (h i hi) else default, fun i hi => by
  show P i (if hi : i < n then Classical.choose (h i hi) else default)
  rw [dif_pos hi]
  exact Classical.choose_spec (h i hi)⟩
section
variable {H : Type} {enc : TypeId × Value → H} {w : World}
def Small (t : TypeId) (d : DataW H) : Prop := ∀ n ∈ d.weights Tryz.prog t, n ≤ reachBytes
theorem all_mem {e : TypeId} {n : Nat} : ∀ {l : List (DataW H)} {d : DataW H}, d ∈ l → n ∈ d.weights Tryz.prog e → n ∈ DataW.weightsAll Tryz.prog e l
 | x :: r, d, h, hn => by
  unfold DataW.weightsAll
  rcases List.mem_cons.1 h with rfl | h
  ·exact List.mem_append.2 (.inl hn)
  ·exact List.mem_append.2 (.inr (all_mem h hn))
theorem small_elem {t e : TypeId} {el sp : List (DataW H)} {d : DataW H} (ht : Tryz.prog.underlying t = some (.slice e)) (h : Small t (.slice el sp)) (hd : d ∈ el) : Small e d := fun n hn => h n (by
 unfold DataW.weights
 rw [ht]
 exact List.mem_cons_of_mem _ (List.mem_append.2 (.inl (all_mem hd hn))))
theorem small_len {t e : TypeId} {el sp : List (DataW H)} (ht : Tryz.prog.underlying t = some (.slice e)) (hb : 1 ≤ Tryz.prog.bytesOf e) (h : Small t (.slice el sp)) : el.length ≤ reachBytes := by
 have := h ((el.length + sp.length) * Tryz.prog.bytesOf e) (by
  unfold DataW.weights
  rw [ht]
  exact List.mem_cons_self)
 exact Nat.le_trans (Nat.le_trans (Nat.le_add_right _ sp.length) (Nat.le_mul_of_pos_right _ hb)) this
theorem one_pin {n : Nat} {l : List Value} {x : DataW H × List MemPlace} (h : DataW.trod enc Tryz.prog w 0 (fun _ => true) true n 29 l = some x) :
  ∃ (a : Option Addr) (len c : Nat) (zs : List Int), l = [.slice a len c] ∧ Pin w a len c zs ∧ (Small 29 x.1 → len ≤ reachBytes) := by
 rcases open_ints Tryz.underlying29 Tryz.underlying5 (by kernel_rfl) h with ⟨hcs, _⟩ | ⟨a, len, cap, zs, hcs, _, hl, hm, hz, hx, hcell, hwz⟩
 ·exact ⟨none, 0, 0, [], hcs, Pin.zero _, fun _ => Nat.zero_le _⟩
 ·obtain ⟨h1, h2⟩ := bys_of_row (w := w) (a := some a) (len := len) (cap := cap) (zs := zs) (.inr ⟨a, rfl, hl, hm, by simpa using hz, hcell, hwz⟩)
  refine ⟨some a, len, cap, zs.take len, hcs, ⟨h1, h2, hl, by unfold maxLen at hm; omega⟩, fun hs => ?_⟩
  rw [hx] at hs
  have := small_len Tryz.underlying29 (of_decide_eq_true (by kernel_rfl)) hs
  have hz' : zs.length = cap := by simpa using hz
  simp [lits] at this
  omega
end
end Go.Proofs.YtinholnidchblaaGreatDoor
