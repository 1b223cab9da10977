/-
  Proved: FileErrors: for every input the Go function returns true and leaves its arguments as they were. No condition.
-/
import Derived.Test.YtegcjpocdfmpfaaRows
import Derived.Test.YtegcjpocdfmpfaaYFWc
import Derived.Test.YtegcjpocdfmpfaaYFArg9
import Derived.WalkKit
import Derived.ProofKit
import Derived.OpenShut
import Derived.ShutString
import Derived.ChangeOld
import Derived.Below
import Derived.SizedLaws
import Derived.Lib.SmallJoins
namespace Go.Proofs.Ytegcjpocdfmpfaa.fileErrors
open Go.ChangeShapes Go.WideShapes Go.ChangeAt Go.RowKit Go.Joins
set_option linter.unusedVariables false

theorem own : ownKnob Try.prog.godebug = none := by kernel_rfl
theorem laidOut : laidOutB Try.prog = true := by kernel_rfl

theorem walk (W : World) (a0 : Int) (a1 : Option Addr) (n1 c1 : Nat) (x1 : List Int) (a2 : Option Addr) (n2 c2 : Nat) (f2 : Nat → Pc) (ya3 yb3 yc3 : Int) (a3 : Option Addr) (n3 c3 : Nat) (x3 : List Int) (w0 : (Lit.int .i64 a0).wf = true) (h1 : Ins W a1 n1 x1) (l1 : n1 ≤ maxLen) (e1 : ∀ z ∈ x1, (Lit.int .i64 z).wf = true) (z1 : a1 = none → n1 = 0 ∧ c1 = 0) (q1 : n1 ≤ c1) (h2 : Rws W a2 n2 f2) (l2 : n2 ≤ 9223372036854775807) (r2 : ∀ i, i < n2 → (f2 i).n ≤ reachBytes) (h3 : Pin W a3 n3 c3 x3) (r3 : n3 ≤ reachBytes) (w3 : (Lit.int .i64 yb3).wf = true) : Calls Try.prog 8 #[.int .i64 a0, .slice a1 n1 c1, .slice a2 n2 c2, .agg #[.int .i64 ya3, .int .i64 yb3, .int .i64 yc3, .slice a3 n3 c3]] W fun e w' => e = .returned (.bool true) ∧ Below W.heap.size W w' :=
  fileErrors_any a0 a1 n1 c1 x1 a2 n2 c2 f2 ya3 yb3 yc3 a3 n3 c3 x3 W h1 z1 h2 l2 r2 h3 r3 w3

set_option maxRecDepth 100000 in
set_option maxHeartbeats 2000000 in
theorem lifted (os : Os) (started : os.Started) (H : Type) (enc : TypeId × Value → H) :
    ReturnsInHanded {} Try.checked os 8 .any (Rows.fileErrorsSpec.pre6 enc Try.prog Try.f8 Rows.fileErrorsRow.domain false) (Rows.fileErrorsSpec.post enc Try.prog Try.f8 false true false false) := by
  refine returnsInHanded_of_change_sized (C := Try.checked) own started (by kernel_rfl) Try.func8
    (ChangeSpec.witness6 (enc := enc) (C := Try.checked) false ⟨#[], #[.int .i64 0, .slice none 0 0, .slice none 0 0, .agg #[.int .i64 0, .int .i64 0, .int .i64 0, .slice none 0 0]], []⟩ 8 (by kernel_rfl) (by kernel_rfl) (by kernel_rfl) (by kernel_rfl)) ?_
  intro W base args ds gs before hval0 hW hcnd hsz0 _
  have hval : ∀ (j : Nat) t v, Try.f8.params[j]? = some t → args[j]? = some v → Value.okWide Try.prog W .any base t v := hval0
  have hW' := hW
  obtain ⟨p, q, hA0, hV, rfl, hfz, hnd⟩ := hW
  have hA : DataW.TrodAll enc Try.prog W 0 (fun _ => true) true Try.f8.params.toList args.toList ds p := hA0
  have hsz : (DataW.weightsEach Try.prog (Try.f8.params.toList ++ Rows.fileErrorsSpec.plain.varTypes Try.prog) (ds ++ gs)).all (· ≤ reachBytes) = true := hsz0
  rw [Try.params8] at hA hval hsz
  obtain ⟨v0, vs0, d0, ds0, p0, q0, hargs, rfl, rfl, g0, t0⟩ := trodAll_cons hA
  obtain ⟨v1, vs1, d1, ds1, p1, q1, rfl, rfl, rfl, g1, t1⟩ := trodAll_cons t0
  obtain ⟨v2, vs2, d2, ds2, p2, q2, rfl, rfl, rfl, g2, t2⟩ := trodAll_cons t1
  obtain ⟨v3, vs3, d3, ds3, p3, q3, rfl, rfl, rfl, g3, t3⟩ := trodAll_cons t2
  obtain ⟨rfl, rfl, rfl⟩ := trodAll_nil t3
  obtain rfl : args = #[v0, v1, v2, v3] := by cases args; simp_all
  obtain ⟨rfl, rfl⟩ := trodVars_none hV
  obtain ⟨a0, rfl, rfl, rfl, w0⟩ := open_int Try.underlying3 (hval 0 3 v0 rfl rfl) g0
  have k1 := g1
  have lt1 : ∀ x ∈ p1, x.block < W.heap.size := by obtain ⟨m, hm⟩ := k1; exact DataW.trod_lt m _ _ _ hm
  obtain ⟨a1, n1, c1, rfl⟩ := okWide_slice Try.underlying25 (hval 1 25 v1 rfl rfl)
  obtain ⟨x1, h1, l1, e1, z1, q1⟩ : ∃ x, Ins W a1 n1 x ∧ n1 ≤ maxLen ∧ (∀ z ∈ x, (Lit.int .i64 z).wf = true) ∧ (a1 = none → n1 = 0 ∧ c1 = 0) ∧ n1 ≤ c1 := by
    obtain ⟨fuel, hf⟩ := g1
    obtain ⟨a, len, cap, x, hcs, hp, hl, he, hz, hq⟩ := one_insz hf
    simp [Value.cells] at hcs
    obtain ⟨rfl, rfl, rfl⟩ := hcs
    exact ⟨x, hp, hl, he, hz, hq⟩
  have k2 := g2
  have lt2 : ∀ x ∈ p2, x.block < W.heap.size := by obtain ⟨m, hm⟩ := k2; exact DataW.trod_lt m _ _ _ hm
  have hs2 : Small 39 d2 := fun n hn => by
    have := List.all_eq_true.1 hsz n (DataW.weights_mem_each (j := 2) (t := 39) rfl rfl n hn)
    simpa using this
  obtain ⟨a2, n2, c2, rfl⟩ := okWide_slice Try.underlying39 (hval 2 39 v2 rfl rfl)
  obtain ⟨f2, h2, l2, r2⟩ : ∃ f, Rws W a2 n2 f ∧ n2 ≤ 9223372036854775807 ∧ ∀ i, i < n2 → (f i).n ≤ reachBytes := by
    obtain ⟨fuel, hf⟩ := g2
    obtain ⟨a, len, cap, f, hcs, hl, hm, hr, hb⟩ := rows_of hf hs2
    simp [Value.cells] at hcs
    obtain ⟨rfl, rfl, rfl⟩ := hcs
    exact ⟨f, hr, Nat.le_trans hl hm, hb⟩
  have k3 := g3
  have lt3 : ∀ x ∈ p3, x.block < W.heap.size := by obtain ⟨m, hm⟩ := k3; exact DataW.trod_lt m _ _ _ hm
  have hs3 : Small 62 d3 := fun n hn => by
    have := List.all_eq_true.1 hsz n (DataW.weights_mem_each (j := 3) (t := 62) rfl rfl n hn)
    simpa using this
  obtain ⟨ya3, yb3, yc3, a3, n3, c3, x3, rfl, w3, h3, r3⟩ := open_call (hval 3 62 v3 rfl rfl) g3 hs3
  clear hA0 hval0 hsz hsz0
  refine (walk W a0 a1 n1 c1 x1 a2 n2 c2 f2 ya3 yb3 yc3 a3 n3 c3 x3 w0 h1 l1 e1 z1 q1 h2 l2 r2 h3 r3 w3).mono fun e W' ⟨he, bel⟩ => ?_
  subst he
  exact ⟨_, rfl, _, _, _, [], _, [], hW', trodAll_mk1 (shut_bool Try.underlying4 _), (trodAll_cons_mk (shut_int Try.underlying3 w0) (trodAll_cons_mk (Below.trod laidOut (by kernel_rfl) (of_decide_eq_true (by kernel_rfl)) k1 bel lt1) (trodAll_cons_mk (Below.trod laidOut (by kernel_rfl) (of_decide_eq_true (by kernel_rfl)) k2 bel lt2) (trodAll_cons_mk (Below.trod laidOut (by kernel_rfl) (of_decide_eq_true (by kernel_rfl)) k3 bel lt3) trodAll_mk0)))), rfl, bel.frame _, fun h => by cases h⟩

theorem over : Rows.fileErrorsRow.holds Try.pinned (OpenSpec.ofChange Rows.fileErrorsSpec) :=
  OpenClaim.holds_of_wide 8 Try.f8 rfl rfl rfl rfl rfl rfl rfl ⟨rfl, rfl, rfl, rfl, rfl⟩ rfl rfl rfl rfl rfl (by kernel_rfl) Try.func8 (by kernel_rfl)
    (of_decide_eq_true (by kernel_rfl)) (by unfold Func.isWrapper; first | (rw [if_pos (by decide +kernel)]; kernel_rfl) | (rw [if_neg (by decide +kernel)]; exact ⟨rfl, rfl⟩))
    (fun os started H enc _ => lifted os started H enc)

theorem proved : Rows.FileErrorsSaid := over
#print axioms proved
end Go.Proofs.Ytegcjpocdfmpfaa.fileErrors
