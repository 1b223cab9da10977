/-
  Slices of bytes, and rows of them, that came in: what they hold.
-/
import Derived.Test.YtijhmpdeohbjhaaQaa
import Derived.Deep.Slices
import Derived.ChangeArms
import Derived.SizedLaws
set_option linter.unusedVariables false
set_option linter.unusedSimpArgs false
namespace Go.Proofs.Ytijhmpdeohbjhaa
open Go.RowKit Go.ChangeShapes Go.WideShapes Go.Deep

section
variable {H : Type} {enc : TypeId × Value → H} {w : World}
/-- All that is read of a datum takes no more than the reach. -/
def Small (t : TypeId) (d : DataW H) : Prop := ∀ n ∈ d.weights Try.prog t, n ≤ reachBytes
theorem small_len {t e : TypeId} {el sp : List (DataW H)} (ht : Try.prog.underlying t = some (.slice e)) (hb : 1 ≤ Try.prog.bytesOf e) (h : Small t (.slice el sp)) : el.length ≤ reachBytes := by
  have := h ((el.length + sp.length) * Try.prog.bytesOf e) (by
    unfold DataW.weights
    rw [ht]
    exact List.mem_cons_self)
  exact Nat.le_trans (Nat.le_trans (Nat.le_add_right _ sp.length) (Nat.le_mul_of_pos_right _ hb)) this
theorem one_pin {n : Nat} {l : List Value} {x : DataW H × List MemPlace} (h : DataW.trod enc Try.prog w 0 (fun _ => true) true n 22 l = some x) :
    ∃ (a : Option Addr) (len c : Nat) (zs : List Int), l = [.slice a len c] ∧ Pin w a len c zs ∧ (Small 22 x.1 → len ≤ reachBytes) := by
  rcases open_ints Try.underlying22 Try.underlying5 (by kernel_rfl) h with ⟨hcs, _⟩ | ⟨a, len, cap, zs, hcs, _, hl, hm, hz, hx, hcell, hwz⟩
  · exact ⟨none, 0, 0, [], hcs, Pin.zero _, fun _ => Nat.zero_le _⟩
  · obtain ⟨h1, h2⟩ := bys_of_row (w := w) (a := some a) (len := len) (cap := cap) (zs := zs) (.inr ⟨a, rfl, hl, hm, by simpa using hz, hcell, hwz⟩)
    refine ⟨some a, len, cap, zs.take len, hcs, ⟨h1, h2, hl, by unfold maxLen at hm; omega⟩, fun hs => ?_⟩
    rw [hx] at hs
    have := small_len Try.underlying22 (of_decide_eq_true (by kernel_rfl)) hs
    have hz' : zs.length = cap := by simpa using hz
    simp [lits] at this
    omega
end

end Go.Proofs.Ytijhmpdeohbjhaa
