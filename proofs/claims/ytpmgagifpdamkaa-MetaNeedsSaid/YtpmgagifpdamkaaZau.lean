/-
  The statements' map of parts.
-/
import Derived.Test.YtpmgagifpdamkaaZak
import Derived.Test.YtpmgagifpdamkaaZac
set_option linter.unusedVariables false
set_option linter.unusedSimpArgs false
set_option maxRecDepth 100000
set_option maxHeartbeats 16000000
namespace Go.Proofs.Ytpmgagifpdamkaa
open Go.RowKit Go.Maps

def zI (x : Int) : Lit := .int .i64 x
theorem zI_inj {a b : Int} (h : zI a = zI b) : a = b := by simpa [zI] using h
theorem zI_wf {x : Int} (h : -9223372036854775808 ≤ x ∧ x ≤ 9223372036854775807) : (Lit.int .i64 x).wf = true := WalkArith.wf_i64 h
theorem zI_of {x : Int} (h : -9223372036854775808 ≤ x ∧ x ≤ 9223372036854775807) : keyOf Try.prog 3 (.int .i64 x) = some (zI x) := keyOf_int_mk Try.underlying3 (zI_wf h)
structure KpM (D : DataW Unit) (m : List Int) : Prop where
  tidy : Tidy D
  has : ∀ k : Int, Maps.has D (zI k) = decide (k ∈ m)
  size : Maps.size D = m.length
theorem KpM.none : KpM (.map []) [] := ⟨tidy_empty, fun k => rfl, rfl⟩
theorem KpM.ins {D : DataW Unit} {m : List Int} (h : KpM D m) {a : Int} (hb : -9223372036854775808 ≤ a ∧ a ≤ 9223372036854775807) (e : DataW Unit) : KpM (D.put (zI a) e) (insK a m) := by
  have hk : WideAt.IsKeyLit (zI a) := lawN.key (zI_of hb)
  have hm := h.tidy.isMap
  refine ⟨h.tidy.put hk _, fun k => ?_, ?_⟩
  · by_cases e : k = a
    · subst e
      rw [has_put_same hm hk]
      unfold insK; split <;> simp_all
    · rw [has_put_other (fun x => e (zI_inj x)), h.has]
      unfold insK; split <;> simp [e]
  · rw [size_put h.tidy, h.has, h.size]
    unfold insK; split <;> simp_all
def KpAt (w : World) (b : Nat) (m : List Int) (N : Nat) : Prop := ∃ D, w.ownsMap Try.prog 3 (plainElem Try.prog 4) b N D ∧ KpM D m
theorem KpAt.mono {w : World} {b N M : Nat} {m : List Int} (h : KpAt w b m N) (hN : N ≤ M) : KpAt w b m M := by
  obtain ⟨D, h1, h2⟩ := h
  exact ⟨D, h1.mono hN, h2⟩
theorem KpAt.len {w : World} {b N : Nat} {m : List Int} (h : KpAt w b m N) (ty : TypeId) : (Builtin.len_ #[53] ty #[.map (some b)]).run Try.prog w = .ok (.int .i64 (m.length : Nat)) w := by
  obtain ⟨D, h1, h2⟩ := h
  have := h1.len Try.underlying53 ty
  rw [h2.size] at this
  exact this
theorem KpAt.put {w : World} {b N : Nat} {m : List Int} (h : KpAt w b m N) {a : Int} (hb : -9223372036854775808 ≤ a ∧ a ≤ 9223372036854775807) (hN : N ≤ 1000000000) :
    ∃ w', (Instr.mapUpdate 53 (.map (some b)) (.int .i64 a) (.bool true)).run Try.prog w = .ok () w' ∧ KpAt w' b (insK a m) (N + 1) ∧ w.mapTurned w' b := by
  obtain ⟨D, h1, h2⟩ := h
  obtain ⟨w', hrun, hown, ht⟩ := h1.store lawN Try.underlying53 (by unfold maxLen; omega) (zI_of hb) (plainElem_bool Try.underlying4 true)
  exact ⟨w', hrun, ⟨_, hown, h2.ins hb _⟩, ht⟩
theorem KpAt.new (w : World) : KpAt (w.alloc (.map #[] 0)) w.heap.size [] 0 := ⟨_, World.ownsMap_made (H := Unit) w Try.prog 3 (plainElem Try.prog 4), KpM.none⟩
theorem insK_len (x : Int) (l : List Int) : (insK x l).length ≤ l.length + 1 := by unfold insK; split <;> simp
theorem kmp_le (A : List Int) (k : Nat) : (kp A k).length ≤ 2 * k := by
  induction k with
  | zero => exact Nat.le_refl _
  | succ k ih =>
    rw [kp]
    split
    · exact Nat.zero_le _
    · split
      · omega
      · split
        · have := insK_len (-1) (kp A k); omega
        · have h1 := insK_len (((k : Int) - 44).tdiv 28) (insK (-2) (kp A k)); have h2 := insK_len (-2) (kp A k); omega
theorem kp_few (A : List Int) {k : Nat} (h : k ≤ 16) : kp A k = [] := by
  cases k with
  | zero => rfl
  | succ k => rw [kp, if_pos (by omega)]
theorem kneed_le {f : Nat → Nd} {K : Nat} (h : ∀ i, i < K → (f i).ads.length ≤ 828) : needN f K ≤ 1656 * K := by
  induction K with
  | zero => exact Nat.le_refl _
  | succ K ih => have := kmp_le (f K).ads (f K).ads.length; have h1 := h K (by omega); have := ih fun i hi => h i (by omega); rw [needN]; omega
end Go.Proofs.Ytpmgagifpdamkaa
