/-
  Texts, and slices of them, that came in; the worlds in which the library's tables lie.
-/
import Derived.Test.YthoblenoijkglaaDoorSt
import Derived.Deep.Strs
import Derived.ChangeArms
import Derived.SizedLaws
import Derived.LaidLaws
namespace Go.Proofs.YthoblenoijkglaaDoor
open Go.RowKit Go.ChangeShapes Go.WideShapes Go.Deep
set_option linter.unusedVariables false
set_option linter.unusedSimpArgs false

section
variable {H : Type} {enc : TypeId × Value → H} {w : World}
/-- All that is read of a datum takes no more than the reach. -/
def Small (t : TypeId) (d : DataW H) : Prop := ∀ n ∈ d.weights Tryd.prog t, n ≤ reachBytes
theorem all_mem {e : TypeId} {n : Nat} : ∀ {l : List (DataW H)} {d : DataW H}, d ∈ l → n ∈ d.weights Tryd.prog e → n ∈ DataW.weightsAll Tryd.prog e l
  | x :: r, d, h, hn => by
    unfold DataW.weightsAll
    rcases List.mem_cons.1 h with rfl | h
    · exact List.mem_append.2 (.inl hn)
    · exact List.mem_append.2 (.inr (all_mem h hn))
theorem small_elem {t e : TypeId} {el sp : List (DataW H)} {d : DataW H} (ht : Tryd.prog.underlying t = some (.slice e)) (h : Small t (.slice el sp)) (hd : d ∈ el) : Small e d := fun n hn => h n (by
  unfold DataW.weights
  rw [ht]
  exact List.mem_cons_of_mem _ (List.mem_append.2 (.inl (all_mem hd hn))))
theorem small_text {bytes : List UInt8} (h : Small 9 (.lit (.string bytes) : DataW H)) : bytes.length ≤ reachBytes := h _ (by unfold DataW.weights; simp)
theorem texts_of {held : Bool} {fuel : Nat} {cs : List Value} {y : DataW H × List MemPlace} (h : DataW.trod enc Tryd.prog w 0 (fun _ => true) held fuel 23 cs = some y) (hs : Small 23 y.1) :
    ∃ (a : Option Addr) (n c : Nat) (L : List (List UInt8)), cs = [.slice a n c] ∧ Sts w a n L ∧ n ≤ c ∧ c ≤ maxLen ∧ (a = none → n = 0 ∧ c = 0) ∧ ∀ x ∈ L, x.length ≤ reachBytes := by
  rcases open_strs Tryd.underlying23 Tryd.underlying9 (by kernel_rfl) h with ⟨hcs, _⟩ | ⟨a, len, cap, m, Sx, hcs, _, hl, hm, hmm, hx, hcell⟩
  · exact ⟨none, 0, 0, [], hcs, sts_nil _ _, Nat.le_refl _, Nat.zero_le _, (fun _ => ⟨rfl, rfl⟩), fun x hx => by cases hx⟩
  · have hm' : m = cap := by rw [hmm]; rfl
    subst hm'
    refine ⟨some a, len, m, (List.range len).map fun i => (Sx i).data.toList, hcs, ⟨by simp, ?_⟩, hl, hm, (fun h => by cases h), fun x hx' => ?_⟩
    · by_cases h0 : len = 0
      · exact .inl h0
      · refine .inr ?_
        obtain ⟨b, off, spot⟩ := a
        have hc := (hcell 0 (by omega)).1
        have hspot : spot = none := by simpa [Addr.add] using World.cell?_spot hc
        subst hspot
        refine ⟨b, off, rfl, World.block_lt_of_cell? w ((⟨b, off, none⟩ : Addr).add 0) hc, fun i hi => ?_⟩
        have := (hcell i (by omega)).1
        rw [WideShapes.add_plain] at this
        rw [this]
        have e : tat ((List.range len).map fun i => (Sx i).data.toList) i = (Sx i).data.toList := by simp [tat, List.getD, hi]
        rw [e, tx_data]
    · obtain ⟨i, hi, rfl⟩ := List.mem_map.1 hx'
      rw [hx] at hs
      exact small_text (small_elem Tryd.underlying23 hs (List.mem_map.2 ⟨i, hi, rfl⟩))
end

/-- The library's two tables, as cells. -/
def firstCells : Array Value := (Go.Pinned.utf8FirstZ.map fun n : Nat => Value.int .u8 ((n : Nat) : Int)).toArray
def rangeCells : Array Value := #[.int .u8 128, .int .u8 191, .int .u8 160, .int .u8 191, .int .u8 128, .int .u8 159, .int .u8 144, .int .u8 191, .int .u8 128, .int .u8 143, .int .u8 0, .int .u8 0, .int .u8 0, .int .u8 0, .int .u8 0, .int .u8 0, .int .u8 0, .int .u8 0, .int .u8 0, .int .u8 0, .int .u8 0, .int .u8 0, .int .u8 0, .int .u8 0, .int .u8 0, .int .u8 0, .int .u8 0, .int .u8 0, .int .u8 0, .int .u8 0, .int .u8 0, .int .u8 0]
/-- A block's cells laid anew. -/
def layCells (cs : Array Value) : Obj → Obj
  | .cells _ t frozen => .cells cs t frozen
  | o => o
/-- A world in which they lie. -/
noncomputable def laidWorld (os : Os) : World :=
  { World.holding Tryd.prog os ⟨#[], #[], []⟩ with heap := ((World.holding Tryd.prog os ⟨#[], #[], []⟩).heap.modify 1 (layCells firstCells)).modify 2 (layCells rangeCells) }
end Go.Proofs.YthoblenoijkglaaDoor
