/-
  PutPointers and GetPointers of the program, by contract.
-/
import Derived.Test.YtgfakdjljcnpiaaPb
import Derived.Test.YtgfakdjljcnpiaaIx
import Derived.Laws.OwnMore
namespace Go.Proofs.Ytgfakdjljcnpiaa
open Go.RowKit
set_option linter.unusedVariables false
set_option linter.unusedSimpArgs false

/-- What a Put of pointers answers. -/
def ppF (ks : List Int) : List Int := if ppO ks then ppL ks else []
theorem putP_any (a : Option Addr) (n c : Nat) (ks : List Int) (w : World) (h : Ins w a n ks) (hn : n ≤ 1000000) :
    Calls Try.prog 17 #[.slice a n c] w (RetN w (ppF ks) (ppO ks)) := by
  have hl := h.len
  subst hl
  by_cases h1 : 28 < ks.length
  · have e : ppO ks = false := by rw [ppO, decide_eq_false (by omega)]; rfl
    rw [ppF, e]
    clear e
    go_enter Try.func17, Try.ntmps17
    go_wp2
    go_ret2
    exact ⟨_, _, _, rfl, Pin.zero _, (fun x hx => by cases hx), Below.refl _ _⟩
  · have hc := containsP_any w a ks.length c ks h (by omega)
    have e : ppO ks = ks.all ptO := by rw [ppO, decide_eq_true (by omega), Bool.true_and]
    cases hb : ks.all ptO with
    | false =>
      rw [ppF, e, hb]
      rw [hb] at hc
      clear e
      go_enter Try.func17, Try.ntmps17
      go_wp2_with (fail)
      refine hc.mono ?_
      rintro e w2 ⟨rfl, rfl⟩
      go_wp2_with (fail)
      go_ret2
      exact ⟨_, _, _, rfl, Pin.zero _, (fun x hx => by cases hx), Below.refl _ _⟩
    | true =>
      rw [ppF, e, hb, if_pos rfl]
      rw [hb] at hc
      have hp := fun i (hi : i < ks.length) => ptO_iff.1 (all_pt.1 hb i hi)
      have hpb := ptrBytes_any a ks.length c ks w h hp (by omega)
      have HL := Lib.hid (show ks.length ≤ 28 by omega)
      clear e hb hp h
      go_enter Try.func17, Try.ntmps17
      go_wp2_with (fail)
      refine hc.mono ?_
      rintro e w2 ⟨rfl, rfl⟩
      go_wp2_with (fail)
      refine hpb.mono ?_
      rintro e w2 ⟨v, rfl, hO, hB⟩
      obtain ⟨a2, c2, rfl, hp2, _⟩ := hO.pin
      have HB := Lib.hid hB
      clear hc hpb hO hB
      go_wp2_with (fail)
      refine (pad_yes a2 (2 * ks.length) c2 56 _ w2 hp2.bys (by have := HL.out; omega) (by omega)).mono ?_
      rintro e w3 ⟨rfl, hb3, hl3⟩
      have HB3 := Lib.hid (HB.out.trans (hl3.mono HB.out.size))
      have HS := Lib.hid HB.out.size
      clear hl3 hp2
      go_wp2_with (fail)
      go_ret2
      exact ⟨_, _, _, rfl, hb3.pin (ppL_small ks) (ppL_len HL.out) (Nat.le_refl _) (by omega), (fun x hx => by cases hx; exact HS.out), HB3.out⟩

/-- 'make([]int, n)'. -/
theorem wpList_mki {w : World} {ops : Array Oper} {rest : List Oper} {o : Oper} {a : Act} {Q : Exit → Act → World → Prop}
    (hg : o.guard = none) (l c : Operand) (hop : o.op = Op.makeSlice 34 l c) (kl kc : IntKind) (L C : Int) (n : Nat) (hl : a.eval l = .int kl L) (hc : a.eval c = .int kc C) (hL : L = (n : Int)) (hC : C = (n : Int)) (b2 : n ≤ 100000) (B : Nat) (hB : B ≤ w.heap.size)
    (hK : ∀ w', OwnI w' B (.slice (some ⟨w.heap.size, 0, none⟩) n n) n (List.replicate n 0) → Below w.heap.size w w' → wpList Try.prog ops Q rest (a.put o.dst (.slice (some ⟨w.heap.size, 0, none⟩) n n)) w') :
    wpList Try.prog ops Q (o :: rest) a w := by
  obtain ⟨i0, hi, hz0, hz1, hz2⟩ := info_parts info3
  refine wpList_make_full w hg l c 34 hop B 3 i0 _ 1 Try.underlying34 hi hz0 hz1 kl kc L C n hl hc hL hC (by rw [hz2]; omega) (by unfold maxLen; omega) hB fun w' hown hgrow => hK w' ?_ ((Below.refl _ _).grown hgrow (Nat.le_refl _) (fun k h => by cases h))
  unfold OwnI
  rw [List.map_replicate]
  have e : (madeCells (Value.int .i64 0).cells (n * 1)).toList = List.replicate n (.int .i64 0) := by
    rw [Nat.mul_one]
    exact toList_madeCells_one _ _
  rwa [e] at hown
theorem OwnI.freeN {w : World} {B g n c : Nat} {ks : List Int} (h : OwnI w B (.slice (some ⟨g, 0, none⟩) n c) n ks) (i : Nat) : w.frozen? ⟨g, i, none⟩ = false := World.ownsRow.frozenAt h i
theorem OwnI.cellN {w : World} {B g n c : Nat} {ks : List Int} (h : OwnI w B (.slice (some ⟨g, 0, none⟩) n c) n ks) {i : Nat} (hi : i < n) : ∃ v, w.cell? ⟨g, i, none⟩ = some v := by
  have hl : ks.length = n := by have := h.1; simpa using this
  exact ⟨.int .i64 (ks[i]'(by omega)), by rw [World.ownsRow.cellAt h i (by omega)]; simp [show i < ks.length by omega]⟩
theorem OwnI.setN {w : World} {B g n c : Nat} {ks : List Int} (h : OwnI w B (.slice (some ⟨g, 0, none⟩) n c) n ks) (i : Nat) (z : Int) : OwnI (w.setCell ⟨g, i, none⟩ (.int .i64 z)) B (.slice (some ⟨g, 0, none⟩) n c) n (ks.set i z) := by
  have := (World.ownsRow.stored h i (.int .i64 z)).1
  unfold OwnI
  rwa [List.map_set]
theorem OwnI.lt {w : World} {B g n c : Nat} {ks : List Int} (h : OwnI w B (.slice (some ⟨g, 0, none⟩) n c) n ks) (hn : 0 < n) : g < w.heap.size := by
  obtain ⟨_, hv⟩ := h.cellN hn
  exact World.block_lt_of_cell? w ⟨g, 0, none⟩ hv
/-- The first k pointers of bytes, noughts behind. -/
def gpK (x : List Int) (k : Nat) : List Int := gpL x k ++ List.replicate (28 - k) 0
theorem gpK_set (x : List Int) {k : Nat} (h : k < 28) : (gpK x k).set k (getV x.length x ((2 * k : Nat) : Int) 2) = gpK x (k + 1) := by
  rw [gpK, gpK, gpL, List.set_append, if_neg (by rw [gpL_len]; omega), gpL_len, Nat.sub_self, show 28 - k = (28 - (k + 1)) + 1 by omega, List.replicate_succ, List.set_cons_zero]
  simp
/-- Numbers that are the call's own, and a bool. -/
def RetK (w0 : World) (ks : List Int) (ok : Bool) (e : Ending) (w' : World) : Prop :=
  ∃ a c, e = .returned (.tuple #[.slice a ks.length c, .bool ok]) ∧ Ins w' a ks.length ks ∧ (a = none → ks.length = 0 ∧ c = 0) ∧ ks.length ≤ c ∧ Below w0.heap.size w0 w'
def gpF (x : List Int) : List Int := if x.length = 56 then gpL x 28 else []
set_option maxHeartbeats 1000000 in
theorem getP_any (a : Option Addr) (n c : Nat) (x : List Int) (w : World) (h : Bys w a n x) (hn : n ≤ 1000000) :
    Calls Try.prog 19 #[.slice a n c] w (RetK w (gpF x) (decide (x.length = 56))) := by
  have hl := h.len
  subst hl
  by_cases h1 : x.length = 56
  · rw [gpF, if_pos h1, decide_eq_true h1]
    have HX := Lib.hid h
    have HL := Lib.hid h1
    clear h
    rw [h1]
    clear h1
    go_enter Try.func19, Try.ntmps19
    go_wp2_with (at_make; go_must (refine wpList_mki rfl _ _ rfl _ _ _ _ 28 rfl rfl rfl rfl (by omega) w.heap.size (Nat.le_refl _) ?_); intro w1 o1 b1; have HO1 := Lib.hid o1; have HB1 := Lib.hid b1; clear o1 b1)
    go_loopw [12, 5] (fun v _p wr => ∃ k : Nat, k ≤ 28 ∧ v = .int .i64 k ∧ OwnI wr w.heap.size (.slice (some ⟨w.heap.size, 0, none⟩) 28 28) 28 (gpK x k) ∧ Below w.heap.size w wr) (fun v _ _ => 28 - (RowKit.intOf v).toNat)
    case atStart => exact ⟨0, by omega, rfl, HO1.out, HB1.out⟩
    case round =>
      obtain ⟨k, hk, rfl, hO, hB⟩ := hrel
      have HO := Lib.hid hO
      have HB := Lib.hid hB
      clear hO hB
      by_cases hlt : k < 28
      · have hxr := HX.out.next HB.out
        have hget := get_fun a x.length c ((2 * k : Nat) : Int) 2 x wr hxr (by omega)
        have hlen := HL.out
        rw [HL.out] at hget
        have fr := HO.out.freeN k
        obtain ⟨u, hu⟩ := HO.out.cellN hlt
        have hlt2 := HO.out.lt (by omega : 0 < 28)
        obtain ⟨z, hz⟩ : ∃ z, z = getV x.length x ((2 * k : Nat) : Int) 2 := ⟨_, rfl⟩
        have hz2 := hz
        rw [HL.out] at hz2
        rw [← hz2] at hget
        have HZ := Lib.hid hz
        have w1 : IntKind.i64.wrap ((k : Int) * 2) = ((2 * k : Nat) : Int) := by rw [show (k : Int) * 2 = ((2 * k : Nat) : Int) by omega]; exact IntWalk.i64_in _ (by omega)
        clear hxr hz hz2 hlen
        go_wp2_with (fail)
        refine hget.mono ?_
        rintro e w2 ⟨rfl, rfl⟩
        go_wp2_with (fail)
        go_roundw
        case rel => exact ⟨k + 1, by omega, by go_num, by rw [← gpK_set x hlt, ← HZ.out]; exact HO.out.setN k z, HB.out.setCell (Nat.le_refl _) _⟩
        case measure => simp [RowKit.intOf]; omega
      · obtain rfl : k = 28 := by omega
        go_wp2_with (fail)
        go_ret2
        have e : gpK x 28 = gpL x 28 := by simp [gpK]
        have ho := HO.out
        rw [e] at ho
        obtain ⟨a', c', hv, hi, hc, hm, _⟩ := ho.ins
        cases hv
        refine ⟨some ⟨w.heap.size, 0, none⟩, 28, ?_, ?_, ?_, ?_, HB.out⟩
        · rw [gpL_len]; rfl
        · rw [gpL_len]; exact hi
        · intro h; cases h
        · rw [gpL_len]; exact hc
  · rw [gpF, if_neg h1, decide_eq_false h1]
    have d1 : ((x.length : Int) != 56) = true := by simp; omega
    clear h
    go_enter Try.func19, Try.ntmps19
    go_wp2
    go_ret2
    exact ⟨_, _, rfl, ⟨rfl, .inl rfl⟩, (fun _ => ⟨rfl, rfl⟩), Nat.le_refl _, Below.refl _ _⟩
end Go.Proofs.Ytgfakdjljcnpiaa
