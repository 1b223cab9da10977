/-
  Proved: BlockPlaces: for every input the Go function returns true and leaves its arguments as they were. No condition.
-/
import Derived.Test.YtgedgkdnjnbijaaRows
import Derived.Test.YtgedgkdnjnbijaaFi
import Derived.Test.YtgedgkdnjnbijaaArg9
import Derived.WalkKit
import Derived.ProofKit
import Derived.OpenShut
import Derived.ShutString
import Derived.ChangeOld
import Derived.Below
import Derived.SizedLaws
import Derived.Lib.SmallJoins
namespace Go.Proofs.Ytgedgkdnjnbijaa.blockPlaces
open Go.ChangeShapes Go.WideShapes Go.ChangeAt Go.RowKit Go.Joins
set_option linter.unusedVariables false

theorem own : ownKnob Try.prog.godebug = none := by kernel_rfl
theorem laidOut : laidOutB Try.prog = true := by kernel_rfl

theorem walk (W : World) (a0 : Option Addr) (n0 c0 : Nat) (x0 : List Int) (a1 : Option Addr) (n1 c1 : Nat) (f1 : Nat → Pc) (h0 : Ins W a0 n0 x0) (l0 : n0 ≤ maxLen) (e0 : ∀ z ∈ x0, (Lit.int .i64 z).wf = true) (z0 : a0 = none → n0 = 0 ∧ c0 = 0) (q0 : n0 ≤ c0) (h1 : Rws W a1 n1 f1) (l1 : n1 ≤ 9223372036854775807) (r1 : ∀ i, i < n1 → (f1 i).n ≤ reachBytes) : Calls Try.prog 7 #[.slice a0 n0 c0, .slice a1 n1 c1] W fun e w' => e = .returned (.bool true) ∧ Below W.heap.size W w' :=
  places_any pmp_ok a0 n0 c0 x0 a1 n1 c1 f1 W h0 z0 h1

set_option maxRecDepth 100000 in
set_option maxHeartbeats 2000000 in
theorem lifted (os : Os) (started : os.Started) (H : Type) (enc : TypeId × Value → H) :
    ReturnsInHanded {} Try.checked os 7 .any (Rows.blockPlacesSpec.pre6 enc Try.prog Try.f7 Rows.blockPlacesRow.domain false) (Rows.blockPlacesSpec.post enc Try.prog Try.f7 false true false false) := by
  refine returnsInHanded_of_change_sized (C := Try.checked) own started (by kernel_rfl) Try.func7
    (ChangeSpec.witness6 (enc := enc) (C := Try.checked) false ⟨#[], #[.slice none 0 0, .slice none 0 0], []⟩ 8 (by kernel_rfl) (by kernel_rfl) (by kernel_rfl) (by kernel_rfl)) ?_
  intro W base args ds gs before hval0 hW hcnd hsz0 _
  have hval : ∀ (j : Nat) t v, Try.f7.params[j]? = some t → args[j]? = some v → Value.okWide Try.prog W .any base t v := hval0
  have hW' := hW
  obtain ⟨p, q, hA0, hV, rfl, hfz, hnd⟩ := hW
  have hA : DataW.TrodAll enc Try.prog W 0 (fun _ => true) true Try.f7.params.toList args.toList ds p := hA0
  have hsz : (DataW.weightsEach Try.prog (Try.f7.params.toList ++ Rows.blockPlacesSpec.plain.varTypes Try.prog) (ds ++ gs)).all (· ≤ reachBytes) = true := hsz0
  rw [Try.params7] at hA hval hsz
  obtain ⟨v0, vs0, d0, ds0, p0, q0, hargs, rfl, rfl, g0, t0⟩ := trodAll_cons hA
  obtain ⟨v1, vs1, d1, ds1, p1, q1, rfl, rfl, rfl, g1, t1⟩ := trodAll_cons t0
  obtain ⟨rfl, rfl, rfl⟩ := trodAll_nil t1
  obtain rfl : args = #[v0, v1] := by cases args; simp_all
  obtain ⟨rfl, rfl⟩ := trodVars_none hV
  have k0 := g0
  have lt0 : ∀ x ∈ p0, x.block < W.heap.size := by obtain ⟨m, hm⟩ := k0; exact DataW.trod_lt m _ _ _ hm
  obtain ⟨a0, n0, c0, rfl⟩ := okWide_slice Try.underlying22 (hval 0 22 v0 rfl rfl)
  obtain ⟨x0, h0, l0, e0, z0, q0⟩ : ∃ x, Ins W a0 n0 x ∧ n0 ≤ maxLen ∧ (∀ z ∈ x, (Lit.int .i64 z).wf = true) ∧ (a0 = none → n0 = 0 ∧ c0 = 0) ∧ n0 ≤ c0 := by
    obtain ⟨fuel, hf⟩ := g0
    obtain ⟨a, len, cap, x, hcs, hp, hl, he, hz, hq⟩ := one_insz hf
    simp [Value.cells] at hcs
    obtain ⟨rfl, rfl, rfl⟩ := hcs
    exact ⟨x, hp, hl, he, hz, hq⟩
  have k1 := g1
  have lt1 : ∀ x ∈ p1, x.block < W.heap.size := by obtain ⟨m, hm⟩ := k1; exact DataW.trod_lt m _ _ _ hm
  have hs1 : Small 53 d1 := fun n hn => by
    have := List.all_eq_true.1 hsz n (DataW.weights_mem_each (j := 1) (t := 53) rfl rfl n hn)
    simpa using this
  obtain ⟨a1, n1, c1, rfl⟩ := okWide_slice Try.underlying53 (hval 1 53 v1 rfl rfl)
  obtain ⟨f1, h1, l1, r1⟩ : ∃ f, Rws W a1 n1 f ∧ n1 ≤ 9223372036854775807 ∧ ∀ i, i < n1 → (f i).n ≤ reachBytes := by
    obtain ⟨fuel, hf⟩ := g1
    obtain ⟨a, len, cap, f, hcs, hl, hm, hr, hb⟩ := rows_of hf hs1
    simp [Value.cells] at hcs
    obtain ⟨rfl, rfl, rfl⟩ := hcs
    exact ⟨f, hr, Nat.le_trans hl hm, hb⟩
  clear hA0 hval0 hsz hsz0
  refine (walk W a0 n0 c0 x0 a1 n1 c1 f1 h0 l0 e0 z0 q0 h1 l1 r1).mono fun e W' ⟨he, bel⟩ => ?_
  subst he
  exact ⟨_, rfl, _, _, _, [], _, [], hW', trodAll_mk1 (shut_bool Try.underlying4 _), (trodAll_cons_mk (Below.trod laidOut (by kernel_rfl) (of_decide_eq_true (by kernel_rfl)) k0 bel lt0) (trodAll_cons_mk (Below.trod laidOut (by kernel_rfl) (of_decide_eq_true (by kernel_rfl)) k1 bel lt1) trodAll_mk0)), rfl, bel.frame _, fun h => by cases h⟩

theorem over : Rows.blockPlacesRow.holds Try.pinned (OpenSpec.ofChange Rows.blockPlacesSpec) :=
  OpenClaim.holds_of_wide 7 Try.f7 rfl rfl rfl rfl rfl rfl rfl ⟨rfl, rfl, rfl, rfl, rfl⟩ rfl rfl rfl rfl rfl (by kernel_rfl) Try.func7 (by kernel_rfl)
    (of_decide_eq_true (by kernel_rfl)) (by unfold Func.isWrapper; first | (rw [if_pos (by decide +kernel)]; kernel_rfl) | (rw [if_neg (by decide +kernel)]; exact ⟨rfl, rfl⟩))
    (fun os started H enc _ => lifted os started H enc)

theorem proved : Rows.BlockPlacesSaid := over
#print axioms proved
end Go.Proofs.Ytgedgkdnjnbijaa.blockPlaces
