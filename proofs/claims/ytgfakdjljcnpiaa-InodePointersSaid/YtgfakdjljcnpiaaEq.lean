/-
  Records held against each other.
-/
import Derived.Test.YtgfakdjljcnpiaaRb
import Derived.ChangeKeysEq
import Derived.Laws.StructEq
namespace Go.Proofs.Ytgfakdjljcnpiaa
open Go.RowKit
set_option linter.unusedVariables false
set_option linter.unusedSimpArgs false

theorem plainInt : Try.prog.plainKey 3 = true := by kernel_rfl
theorem intInfo : ∃ i, Try.prog.info? 3 = some i := by
  obtain ⟨i0, hi, _⟩ := info_parts info3
  exact ⟨i0, hi⟩
theorem run_items (d : Nat) (xs ys : Array Value) (F G : Nat → Int) (w : World) : ∀ (is : List Nat), (∀ i ∈ is, xs[i * 1]? = some (.int .i64 (F i)) ∧ ys[i * 1]? = some (.int .i64 (G i))) →
    (Op.eqItems (d + 1) 3 1 xs ys is).run Try.prog w = .ok (is.all fun i => F i == G i) w
  | [], _ => rfl
  | i :: is, h => by
    obtain ⟨h1, h2⟩ := h i List.mem_cons_self
    have ih := run_items d xs ys F G w is (fun j hj => h j (List.mem_cons_of_mem _ hj))
    simp only [Op.eqItems, Sem.run_bind, run_part_plain w plainInt h1, run_part_plain w plainInt h2, run_equalIn_int w d 3 .i64 .i64 (F i) (G i) Try.underlying3, Result.andThen_ok, List.all_cons]
    cases hb : (F i == G i)
    · simp
    · simpa using ih
theorem fields_rec : (Try.prog.fieldsOf 24).toList = [⟨"Kind", 3, 0, false, "", "", 0⟩, ⟨"Links", 3, 1, false, "", "", 8⟩, ⟨"Size", 3, 2, false, "", "", 16⟩, ⟨"Direct", 22, 3, false, "", "", 24⟩, ⟨"Single", 3, 19, false, "", "", 152⟩, ⟨"Double", 3, 20, false, "", "", 160⟩] := by kernel_rfl
theorem und_rec : Try.prog.underlying 24 = some (.struct (Try.prog.fieldsOf 24)) := by kernel_rfl
/-- The own pointers, as cells. -/
def dcs (f : Nat → Int) : Array Value := (rcs f).extract 3 19
theorem dcs_get (f : Nat → Int) {i : Nat} (h : i < 16) : (dcs f)[i * 1]? = some (.int .i64 (f (3 + i))) := by
  rw [Nat.mul_one, dcs, Array.getElem?_extract]
  rw [if_pos (by rw [show (rcs f).size = 21 from rfl]; omega)]
  exact rcs_get f (by omega)
theorem part_dir (f : Nat → Int) (w : World) : (part 22 (rcs f) 3).run Try.prog w = .ok (.agg (dcs f)) w := by
  obtain ⟨i, hi⟩ : ∃ i, Try.prog.info? 22 = some i := by
    cases h : Try.prog.info? 22 with
    | none =>
      have : (Try.prog.info? 22).isSome = true := by kernel_rfl
      rw [h] at this
      cases this
    | some i => exact ⟨i, rfl⟩
  have hz : Try.prog.cellsOf 22 = 16 := by kernel_rfl
  simp [part, isAgg, run_underlying Try.underlying22, run_sizeOf w hi, hz, dcs]
theorem run_fld (d : Nat) (xs ys : Array Value) (fl : Field) (fs : List Field) (w : World) (hn : fl.name ≠ "_") {a b : Value} {r s : Bool} (h1 : (part fl.type xs fl.offset).run Try.prog w = .ok a w) (h2 : (part fl.type ys fl.offset).run Try.prog w = .ok b w)
    (h3 : (Op.equalIn d fl.type a b).run Try.prog w = .ok r w) (h4 : (Op.eqFields d xs ys fs).run Try.prog w = .ok s w) : (Op.eqFields d xs ys (fl :: fs)).run Try.prog w = .ok (r && s) w := by
  simp only [Op.eqFields, if_pos hn, Sem.run_bind, h1, h2, h3, Result.andThen_ok]
  cases r
  · simp
  · simpa using h4
theorem run_eqR (f g : Nat → Int) (w : World) : (Op.equalIn 10000 24 (rcv f) (rcv g)).run Try.prog w = .ok (eqR f g) w := by
  obtain ⟨ii, hii⟩ := intInfo
  have hc3 : Try.prog.cellsOf 3 = 1 := by kernel_rfl
  have key : ∀ {i : Nat}, i < 21 → (part 3 (rcs f) i).run Try.prog w = .ok (.int .i64 (f i)) w ∧ (part 3 (rcs g) i).run Try.prog w = .ok (.int .i64 (g i)) w :=
    fun h => ⟨run_part_plain w plainInt (rcs_get f h), run_part_plain w plainInt (rcs_get g h)⟩
  have hi : ∀ d (x y : Int), (Op.equalIn (d + 1) 3 (.int .i64 x) (.int .i64 y)).run Try.prog w = .ok (x == y) w := fun d x y => run_equalIn_int w d 3 .i64 .i64 x y Try.underlying3
  have ha : (Op.equalIn 9999 22 (.agg (dcs f)) (.agg (dcs g))).run Try.prog w = .ok ((List.range 16).all fun i => f (3 + i) == g (3 + i)) w := by
    rw [run_equalIn_array w 9998 (dcs f) (dcs g) Try.underlying22 hii, hc3]
    exact run_items 9997 _ _ (fun i => f (3 + i)) (fun i => g (3 + i)) w _ fun i hi => ⟨dcs_get f (List.mem_range.1 hi), dcs_get g (List.mem_range.1 hi)⟩
  have e : eqR f g = ((f 0 == g 0) && ((f 1 == g 1) && ((f 2 == g 2) && (((List.range 16).all fun i => f (3 + i) == g (3 + i)) && ((f 19 == g 19) && (f 20 == g 20)))))) := by
    rw [Bool.eq_iff_iff, eqR_iff]
    simp only [Bool.and_eq_true, beq_iff_eq, List.all_eq_true, List.mem_range]
    constructor
    · intro h
      exact ⟨h 0 (by omega), h 1 (by omega), h 2 (by omega), fun i hi => h (3 + i) (by omega), h 19 (by omega), h 20 (by omega)⟩
    · intro ⟨h0, h1, h2, h3, h4, h5⟩ i hi
      by_cases e0 : i = 0
      · rw [e0]; exact h0
      by_cases e1 : i = 1
      · rw [e1]; exact h1
      by_cases e2 : i = 2
      · rw [e2]; exact h2
      by_cases e4 : i = 19
      · rw [e4]; exact h4
      by_cases e5 : i = 20
      · rw [e5]; exact h5
      have := h3 (i - 3) (by omega)
      rwa [show 3 + (i - 3) = i by omega] at this
  rw [show (10000 : Nat) = 9999 + 1 from rfl, run_equalIn_agg w 9999 24 (rcs f) (rcs g) und_rec (by kernel_rfl), fields_rec, e]
  have k := @key
  refine run_fld 9999 _ _ _ _ w (by decide) (k (i := 0) (by omega)).1 (k (i := 0) (by omega)).2 (hi 9998 _ _) ?_
  refine run_fld 9999 _ _ _ _ w (by decide) (k (i := 1) (by omega)).1 (k (i := 1) (by omega)).2 (hi 9998 _ _) ?_
  refine run_fld 9999 _ _ _ _ w (by decide) (k (i := 2) (by omega)).1 (k (i := 2) (by omega)).2 (hi 9998 _ _) ?_
  refine run_fld 9999 _ _ _ _ w (by decide) (part_dir f w) (part_dir g w) ha ?_
  refine run_fld 9999 _ _ _ _ w (by decide) (k (i := 19) (by omega)).1 (k (i := 19) (by omega)).2 (hi 9998 _ _) ?_
  have := run_fld 9999 (rcs f) (rcs g) (fs := []) (w := w) (hn := by decide) (fl := ⟨"Double", 3, 20, false, "", "", 160⟩) (k (i := 20) (by omega)).1 (k (i := 20) (by omega)).2 (hi 9998 _ _) (s := true) rfl
  rw [Bool.and_true] at this
  exact this
theorem run_eqlR (f g : Nat → Int) (w : World) : (binOp .eql 24 (rcv f) (rcv g)).run Try.prog w = .ok (.bool (eqR f g)) w := by
  rw [run_eql_struct, run_eqR]; rfl
theorem run_neqR (f g : Nat → Int) (w : World) : (binOp .neq 24 (rcv f) (rcv g)).run Try.prog w = .ok (.bool (!eqR f g)) w := by
  rw [run_neq_struct, run_eqR]; rfl
end Go.Proofs.Ytgfakdjljcnpiaa
