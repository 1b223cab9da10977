/-
  The program's map in memory: two maps by the numbers of blocks, one of addresses, one of bytes.
-/
import Derived.Test.YtegcjpocdfmpfaaZab
import Derived.Laws.CopyRow
import Derived.Laws.Tables
import Derived.Deep.DeepCutAuto
import Derived.Deep.RegionHeld3
import Derived.Test.YtegcjpocdfmpfaaFLay
import Derived.Deep.MidRow
import Derived.Deep.WholeRow
import Derived.Lib.SliceRun
set_option linter.unusedVariables false
set_option linter.unusedSimpArgs false
set_option maxRecDepth 100000
set_option maxHeartbeats 16000000
namespace Go.Proofs.Ytegcjpocdfmpfaa
open Go.RowKit Go.Maps Go.ChangeMaps Go.MapKept

/-- How an address reads, and the bytes of a new block. -/
def elA : El
  | .int .i64 a => if (Lit.int .i64 a).wf = true then some (.lit (.int .i64 a), []) else none
  | _ => none
def byD : Value → DataW Unit
  | .int .u8 x => .lit (.int .u8 x)
  | _ => .nil
def elX : El
  | .agg cs => if cs.size = 56 ∧ cs.all (·.oneCell') = true then some (.agg (cs.toList.map byD), []) else none
  | _ => none
def payC (zs : List Int) : Array Value := (zs.map (Value.int .u8)).toArray
abbrev payV (zs : List Int) : Value := .agg (payC zs)
def payD (zs : List Int) : DataW Unit := .agg (zs.map fun x => .lit (.int .u8 x))
theorem payC_size {zs : List Int} (h : zs.length = 56) : (payC zs).size = 56 := by simp [payC, h]
theorem payC_all (zs : List Int) : (payC zs).all (·.oneCell') = true := by simp [payC, Value.oneCell']
theorem elX_mk {zs : List Int} (h : zs.length = 56) : elX (payV zs) = some (payD zs, []) := by
  show (if (payC zs).size = 56 ∧ (payC zs).all (·.oneCell') = true then some (DataW.agg ((payC zs).toList.map byD), []) else none) = _
  rw [if_pos ⟨payC_size h, payC_all zs⟩]
  unfold payC payD
  simp only [List.map_map]
  rfl
theorem byD_inv {cs : List Value} {zs : List Int} (h : cs.map byD = zs.map fun x => .lit (.int .u8 x)) : cs = zs.map (Value.int .u8) := by
  induction cs generalizing zs with
  | nil => cases zs with
    | nil => rfl
    | cons z zs => cases h
  | cons c cs ih => cases zs with
    | nil => cases h
    | cons z zs =>
      simp only [List.map_cons, List.cons.injEq] at h ⊢
      refine ⟨?_, ih h.2⟩
      have h1 := h.1
      unfold byD at h1
      split at h1
      · cases h1; rfl
      · cases h1
theorem elX_inv {v : Value} {zs : List Int} {ps : List MemPlace} (h : elX v = some (payD zs, ps)) : v = payV zs := by
  unfold elX at h
  split at h
  · rename_i cs
    split at h
    · simp only [payD, Option.some.injEq, Prod.mk.injEq, DataW.agg.injEq] at h
      unfold payV payC
      rw [← byD_inv h.1]
    · cases h
  · cases h
theorem elX_agg {v : Value} {y : DataW Unit × List MemPlace} (h : elX v = some y) : ∃ cs, v = .agg cs ∧ cs.size = 56 ∧ cs.all (·.oneCell') = true := by
  unfold elX at h
  split at h
  · split at h
    · rename_i h1
      exact ⟨_, rfl, h1.1, h1.2⟩
    · cases h
  · cases h
theorem elA_mk {a : Int} (h : 0 ≤ a ∧ a ≤ 65535) : elA (.int .i64 a) = some (.lit (.int .i64 a), []) := by
  show (if (Lit.int .i64 a).wf = true then some (DataW.lit (Lit.int .i64 a), []) else none) = _
  rw [if_pos (WalkArith.wf_i64 (by omega))]
theorem elA_inv {v : Value} {a : Int} {ps : List MemPlace} (h : elA v = some (.lit (.int .i64 a), ps)) : v = .int .i64 a := by
  unfold elA at h
  split at h
  · split at h
    · simp only [Option.some.injEq, Prod.mk.injEq, DataW.lit.injEq, Lit.int.injEq] at h
      rw [h.1.2]
    · cases h
  · cases h
theorem uA : Try.prog.underlying 138 = some (.map 3 3) := Try.underlying138
theorem uX : Try.prog.underlying 140 = some (.map 3 143) := Try.underlying140
theorem zA (w : World) : (zeroValue 3).run Try.prog w = .ok (.int .i64 0) w := by kernel_rfl
def no56 : List Int := List.replicate 56 0
theorem infoX : (Try.prog.info? 143).map (fun i => (i.zero, i.size, i.bytes)) = some (some (payV no56), 56, 56) := by kernel_rfl
theorem zX (w : World) : (zeroValue 143).run Try.prog w = .ok (payV no56) w := by
  obtain ⟨i0, hi, hz0, hz1, hz2⟩ := info_parts infoX
  simp [zeroValue, typeInfo, hi, hz0, Result.andThen]

/-- What the maps have. -/
def fA (A : Nat → Int) (s : Nat) : Option (DataW Unit) := if A s = 0 then none else some (.lit (.int .i64 (A s)))
def fX (X : Nat → List Int) (s : Nat) : Option (DataW Unit) := if X s = [] then none else some (payD (X s))
theorem fA_upd (A : Nat → Int) (k : Nat) {z : Int} (h : z ≠ 0) : upd (fA A) k (some (.lit (.int .i64 z))) = fA (upd A k z) := by
  funext s
  by_cases e : s = k
  · subst e; simp [upd, fA, h]
  · simp [upd, fA, e]
theorem fA_off (A : Nat → Int) (k : Nat) : upd (fA A) k none = fA (upd A k 0) := by
  funext s
  by_cases e : s = k
  · subst e; simp [upd, fA]
  · simp [upd, fA, e]
theorem fX_upd (X : Nat → List Int) (k : Nat) {z : List Int} (h : z ≠ []) : upd (fX X) k (some (payD z)) = fX (upd X k z) := by
  funext s
  by_cases e : s = k
  · subst e; simp [upd, fX, h]
  · simp [upd, fX, e]
theorem fX_off (X : Nat → List Int) (k : Nat) : upd (fX X) k none = fX (upd X k []) := by
  funext s
  by_cases e : s = k
  · subst e; simp [upd, fX]
  · simp [upd, fX, e]
theorem fA_none : fA (fun _ => 0) = fun _ => none := by funext s; rfl
theorem fX_none : fX (fun _ => []) = fun _ => none := by funext s; rfl
theorem fA_zero {A : Nat → Int} {s : Nat} (h : fA A s = none) : A s = 0 := by
  unfold fA at h
  split at h
  · assumption
  · cases h
theorem fX_zero {X : Nat → List Int} {s : Nat} (h : fX X s = none) : X s = [] := by
  unfold fX at h
  split at h
  · assumption
  · cases h
theorem fA_yes {A : Nat → Int} {s : Nat} (h : A s ≠ 0) : fA A s = some (.lit (.int .i64 (A s))) := if_neg h
theorem fA_no {A : Nat → Int} {s : Nat} (h : A s = 0) : fA A s = none := if_pos h
theorem fX_yes {X : Nat → List Int} {s : Nat} (h : X s ≠ []) : fX X s = some (payD (X s)) := if_neg h
theorem fX_no {X : Nat → List Int} {s : Nat} (h : X s = []) : fX X s = none := if_pos h

/-- What the two maps tell goes together. -/
structure Fits (A : Nat → Int) (X : Nat → List Int) : Prop where
  rg : ∀ k, 0 ≤ A k ∧ A k ≤ 65535
  sz : ∀ k, X k = [] ∨ ((X k).length = 56 ∧ AllB (X k))
  dj : ∀ k, X k = [] ∨ A k = 0
/-- The program's map at p: its maps in blocks b and c. -/
structure PmpAt (w : World) (p b c : Nat) (A : Nat → Int) (X : Nat → List Int) : Prop where
  c0 : w.cell? ⟨p, 0, none⟩ = some (.map (some b))
  c1 : w.cell? ⟨p, 1, none⟩ = some (.map (some c))
  lt : p < w.heap.size
  nb : p ≠ b
  nc : p ≠ c
  ne : b ≠ c
  ma : Nm w elA b (fA A)
  mx : Nm w elX c (fX X)
  ok : Fits A X
def Pmp (w : World) (p : Nat) (T D : Nat → Prop) (A : Nat → Int) (X : Nat → List Int) : Prop :=
  ∃ b c, PmpAt w p b c A X ∧ (∀ j, T j ↔ j = b ∨ j = c) ∧ (∀ j, D j ↔ j = p ∨ j = b ∨ j = c)
theorem PmpAt.pmp {w : World} {p b c : Nat} {A : Nat → Int} {X : Nat → List Int} (h : PmpAt w p b c A X) : Pmp w p (fun j => j = b ∨ j = c) (fun j => j = p ∨ j = b ∨ j = c) A X := ⟨b, c, h, fun _ => Iff.rfl, fun _ => Iff.rfl⟩
theorem PmpAt.turn {w w' : World} {p b c : Nat} {A : Nat → Int} {X : Nat → List Int} {M : Nat → Prop} (h : PmpAt w p b c A X) (ht : Turn M w w') (hp : ¬ M p) (hb : ¬ M b) (hc : ¬ M c) : PmpAt w' p b c A X :=
  ⟨(ht.cell (a := ⟨p, 0, none⟩) h.lt hp).trans h.c0, (ht.cell (a := ⟨p, 1, none⟩) h.lt hp).trans h.c1, Nat.lt_of_lt_of_le h.lt ht.size, h.nb, h.nc, h.ne, h.ma.turn ht hb, h.mx.turn ht hc, h.ok⟩
theorem PmpAt.next {w w' : World} {p b c : Nat} {A : Nat → Int} {X : Nat → List Int} (h : PmpAt w p b c A X) (hb : Below w.heap.size w w') : PmpAt w' p b c A X :=
  h.turn (M := fun _ => False) (Turn.of_below hb) id id id
/-- The addresses' map has turned; the bytes' map has. -/
theorem PmpAt.setA {w w' : World} {p b c : Nat} {A A' : Nat → Int} {X : Nat → List Int} (h : PmpAt w p b c A X) (ht : Turn (· = b) w w') (hm : Nm w' elA b (fA A')) (ho : Fits A' X) : PmpAt w' p b c A' X :=
  ⟨(ht.cell (a := ⟨p, 0, none⟩) h.lt h.nb).trans h.c0, (ht.cell (a := ⟨p, 1, none⟩) h.lt h.nb).trans h.c1, Nat.lt_of_lt_of_le h.lt ht.size, h.nb, h.nc, h.ne, hm, h.mx.turn ht (fun e => h.ne e.symm), ho⟩
theorem PmpAt.setX {w w' : World} {p b c : Nat} {A : Nat → Int} {X X' : Nat → List Int} (h : PmpAt w p b c A X) (ht : Turn (· = c) w w') (hm : Nm w' elX c (fX X')) (ho : Fits A X') : PmpAt w' p b c A X' :=
  ⟨(ht.cell (a := ⟨p, 0, none⟩) h.lt h.nc).trans h.c0, (ht.cell (a := ⟨p, 1, none⟩) h.lt h.nc).trans h.c1, Nat.lt_of_lt_of_le h.lt ht.size, h.nb, h.nc, h.ne, h.ma.turn ht h.ne, hm, ho⟩
/-- A call is over: at most the two maps have turned. -/
theorem PmpAt.left {w w' : World} {p b c : Nat} {T D : Nat → Prop} {A' : Nat → Int} {X' : Nat → List Int} (h : PmpAt w' p b c A' X') (hT : ∀ j, T j ↔ j = b ∨ j = c) (hD : ∀ j, D j ↔ j = p ∨ j = b ∨ j = c) (ht : Turn (fun j => j = b ∨ j = c) w w') : Left Pmp w p T D A' X' w' :=
  ⟨ht.mono fun j hj => (hT j).2 hj, T, D, ⟨b, c, h, hT, hD⟩, (fun j hj => .inl hj), fun j hj => .inl hj⟩
theorem Fits.setA {A : Nat → Int} {X : Nat → List Int} (h : Fits A X) {k : Nat} {z : Int} (hz : 0 ≤ z ∧ z ≤ 65535) (hx : X k = []) : Fits (upd A k z) X :=
  ⟨fun j => by unfold upd; split; exact hz; exact h.rg j, h.sz, fun j => by
    unfold upd
    split
    · subst_vars; exact .inl hx
    · exact h.dj j⟩
theorem Fits.offA {A : Nat → Int} {X : Nat → List Int} (h : Fits A X) (k : Nat) : Fits (upd A k 0) X :=
  ⟨fun j => by unfold upd; split; omega; exact h.rg j, h.sz, fun j => by
    unfold upd
    split
    · exact .inr rfl
    · exact h.dj j⟩
theorem Fits.setX {A : Nat → Int} {X : Nat → List Int} (h : Fits A X) {k : Nat} {z : List Int} (hz : z = [] ∨ (z.length = 56 ∧ AllB z)) (ha : A k = 0) : Fits A (upd X k z) :=
  ⟨h.rg, fun j => by unfold upd; split; exact hz; exact h.sz j, fun j => by
    unfold upd
    split
    · subst_vars; exact .inr ha
    · exact h.dj j⟩
theorem Fits.offX {A : Nat → Int} {X : Nat → List Int} (h : Fits A X) (k : Nat) : Fits A (upd X k []) :=
  ⟨h.rg, fun j => by unfold upd; split; exact .inl rfl; exact h.sz j, fun j => by
    unfold upd
    split
    · exact .inl rfl
    · exact h.dj j⟩
theorem Fits.cut {A : Nat → Int} {X : Nat → List Int} (h : Fits A X) (n m : Nat) : Fits (cutF 0 A n m) (cutF [] X n m) :=
  ⟨fun j => by unfold cutF; split; omega; exact h.rg j, fun j => by unfold cutF; split; exact .inl rfl; exact h.sz j, fun j => by
    unfold cutF
    split
    · exact .inl rfl
    · exact h.dj j⟩

theorem isAddr_any (z : Int) (w : World) : Calls Try.prog 113 #[.int .i64 z] w fun e w' => e = .returned (.bool (decide (1 ≤ z ∧ z ≤ 65535))) ∧ w' = w := by
  obtain ⟨r, hr⟩ : ∃ r, r = decide (1 ≤ z ∧ z ≤ 65535) := ⟨_, rfl⟩
  rw [← hr]
  have e := Lib.hid hr
  clear hr
  by_cases h1 : 1 ≤ z
  · by_cases h2 : z ≤ 65535
    · have e2 := Lib.hid (e.out.trans (decide_eq_true ⟨h1, h2⟩))
      go_enter Try.func113, Try.ntmps113
      go_wp2
      go_ret
      exact ⟨by rw [e2.out]; rfl, rfl⟩
    · have e2 := Lib.hid (e.out.trans (decide_eq_false (by omega)))
      go_enter Try.func113, Try.ntmps113
      go_wp2
      go_ret
      exact ⟨by rw [e2.out]; rfl, rfl⟩
  · have e2 := Lib.hid (e.out.trans (decide_eq_false (by omega)))
    go_enter Try.func113, Try.ntmps113
    go_wp2
    go_ret
    exact ⟨by rw [e2.out]; rfl, rfl⟩
theorem isBlock_any (z : Int) (w : World) : Calls Try.prog 114 #[.int .i64 z] w fun e w' => e = .returned (.bool (inK z)) ∧ w' = w := by
  by_cases h1 : 0 ≤ z
  · by_cases h2 : z < 828
    · have e := Lib.hid (inK_iff.2 ⟨h1, h2⟩)
      go_enter Try.func114, Try.ntmps114
      go_wp2
      go_ret
      exact ⟨by rw [e.out]; rfl, rfl⟩
    · have e := Lib.hid (show inK z = false from decide_eq_false (by omega))
      go_enter Try.func114, Try.ntmps114
      go_wp2
      go_ret
      exact ⟨by rw [e.out]; rfl, rfl⟩
  · have e := Lib.hid (show inK z = false from decide_eq_false (by omega))
    go_enter Try.func114, Try.ntmps114
    go_wp2
    go_ret
    exact ⟨by rw [e.out]; rfl, rfl⟩

theorem PmpAt.lookA {w : World} {p b c : Nat} {A : Nat → Int} {X : Nat → List Int} (h : PmpAt w p b c A X) (k : Int) :
    (Instr.lookup 138 (.map (some b)) (.int .i64 k) false).run Try.prog w = .ok (.int .i64 (adO A k)) w := by
  by_cases h0 : 0 ≤ k
  · obtain ⟨j, rfl⟩ := Int.eq_ofNat_of_zero_le h0
    by_cases ha : A j = 0
    · have := h.ma.no uA (zA w) (k := (j : Int)) (fun s e => by rw [show s = j by omega]; exact fA_no ha) false
      rw [this]
      rcases Nat.lt_or_ge j 828 with h1 | h1
      · rw [adO_yes A h1, ha]; rfl
      · rw [adO_no A (by omega)]; rfl
    · have hj : j < 828 := by
        rcases Nat.lt_or_ge j 828 with h1 | h1
        · exact h1
        · exact absurd (fA_zero (h.ma.far h1)) ha
      obtain ⟨v, ps, hv, hrun⟩ := h.ma.yes2 uA (zA w) (elA_mk ⟨Int.le_refl 0, by omega⟩) (fA_yes ha)
      rw [elA_inv hv] at hrun
      rw [hrun, adO_yes A hj]
  · have := h.ma.no uA (zA w) (k := k) (fun s e => by omega) false
    rw [this, adO_no A (by omega)]
    rfl
theorem at_any {w : World} {p b c : Nat} {A : Nat → Int} {X : Nat → List Int} (h : PmpAt w p b c A X) (k : Int) :
    Calls Try.prog 41 #[.pointer (some ⟨p, 0, none⟩), .int .i64 k] w fun e w' => e = .returned (.int .i64 (adO A k)) ∧ Below w.heap.size w w' := by
  have c0 := h.c0
  have hq := h.lookA k
  obtain ⟨z, hz⟩ : ∃ z, z = adO A k := ⟨_, rfl⟩
  rw [← hz] at hq ⊢
  clear h hz
  go_enter Try.func41, Try.ntmps41
  go_wp2
  go_ret
  exact ⟨rfl, Below.refl _ _⟩
/-- The look-up of bytes. -/
theorem PmpAt.lookX {w : World} {p b c : Nat} {A : Nat → Int} {X : Nat → List Int} (h : PmpAt w p b c A X) (k : Int) :
    (Instr.lookup 140 (.map (some c)) (.int .i64 k) true).run Try.prog w = .ok (.tuple #[payV (if byO X k then byX X k else no56), .bool (byO X k)]) w := by
  by_cases h0 : 0 ≤ k
  · obtain ⟨j, rfl⟩ := Int.eq_ofNat_of_zero_le h0
    by_cases ha : X j = []
    · have := h.mx.no uX (zX w) (k := (j : Int)) (fun s e => by rw [show s = j by omega]; exact fX_no ha) true
      have e : byO X (j : Int) = false := by simp [byO, ha]
      rw [this, e]
      rfl
    · have hj : j < 828 := by
        rcases Nat.lt_or_ge j 828 with h1 | h1
        · exact h1
        · exact absurd (fX_zero (h.mx.far h1)) ha
      obtain ⟨v, ps, hv, hrun⟩ := h.mx.yes uX (zX w) (elX_mk (zs := no56) rfl) (fX_yes ha)
      rw [elX_inv hv] at hrun
      rw [hrun]
      have e : byO X (j : Int) = true := by
        unfold byO
        rw [inK_iff.2 (by omega)]
        cases hx : X j with
        | nil => exact absurd hx ha
        | cons y l => simp [hx]
      have e2 : byX X (j : Int) = X j := by
        unfold byX
        rw [if_pos (inK_iff.2 (by omega))]
        rfl
      rw [e, e2]
      rfl
  · have := h.mx.no uX (zX w) (k := k) (fun s e => by omega) true
    have e : byO X k = false := by simp [byO, show inK k = false from decide_eq_false (by omega)]
    rw [this, e]
    rfl

theorem pmp_new (w : World) : PmpAt (((w.alloc (.map #[] 0)).alloc (.map #[] 0)).alloc (.cells #[.map (some w.heap.size), .map (some (w.heap.size + 1))] 142 (0, 0))) (w.heap.size + 2) w.heap.size (w.heap.size + 1) (fun _ => 0) (fun _ => []) := by
  have s1 : (w.alloc (.map #[] 0)).heap.size = w.heap.size + 1 := by simp
  have s2 : ((w.alloc (.map #[] 0)).alloc (.map #[] 0)).heap.size = w.heap.size + 2 := by simp
  refine ⟨?_, ?_, by simp, by omega, by omega, by omega, ?_, ?_, ⟨fun _ => by omega, fun _ => .inl rfl, fun _ => .inl rfl⟩⟩
  · have := heap_alloc_new ((w.alloc (.map #[] 0)).alloc (.map #[] 0)) (.cells #[.map (some w.heap.size), .map (some (w.heap.size + 1))] 142 (0, 0))
    rw [s2] at this
    rw [cell_of_row _ _ 0 _ _ (0, 0) this]
    rfl
  · have := heap_alloc_new ((w.alloc (.map #[] 0)).alloc (.map #[] 0)) (.cells #[.map (some w.heap.size), .map (some (w.heap.size + 1))] 142 (0, 0))
    rw [s2] at this
    rw [cell_of_row _ _ 1 _ _ (0, 0) this]
    rfl
  · rw [fA_none]
    exact ((Nm.made w elA).next ((Below.refl _ _).alloc (Nat.le_refl _) _)).next ((Below.refl _ _).alloc (Nat.le_refl _) _)
  · rw [fX_none]
    have := (Nm.made (w.alloc (.map #[] 0)) elX).next ((Below.refl _ _).alloc (Nat.le_refl _) (.cells #[.map (some w.heap.size), .map (some (w.heap.size + 1))] 142 (0, 0)))
    rwa [s1] at this
theorem mk_map (w : World) (t : TypeId) : (Instr.makeMap t none).run Try.prog w = .ok (.map (some w.heap.size)) (w.alloc (.map #[] 0)) := rfl
/-- What the program's New answers. -/
def NewP (w : World) (ks : List Int) (e : Ending) (w' : World) : Prop :=
  (nwO ks = true → ∃ p b c, e = .returned (.tuple #[.pointer (some ⟨p, 0, none⟩), .int .i64 0]) ∧ PmpAt w' p b c (num ks) (fun _ => []) ∧ w.heap.size ≤ p ∧ w.heap.size ≤ b ∧ w.heap.size ≤ c) ∧
  (nwO ks = false → e = .returned (.tuple #[.pointer none, .int .i64 28])) ∧ Below w.heap.size w w'
theorem new_any (a : Option Addr) (n c : Nat) (ks : List Int) (w : World) (h : Ins w a n ks) (hn : n ≤ 1000000000) :
    Calls Try.prog 72 #[.slice a n c] w (NewP w ks) := by
  have hl := h.len
  subst hl
  by_cases h1 : 828 < ks.length
  · have e : nwO ks = false := by rw [nwO, decide_eq_false (by omega)]; rfl
    have k1 : (828 : Int) < (ks.length : Int) := by omega
    have HE := Lib.hid e
    clear h h1 e
    go_enter Try.func72, Try.ntmps72
    go_wp2_with (fail)
    go_ret2
    exact ⟨(fun h => by rw [HE.out] at h; cases h), (fun _ => rfl), Below.refl _ _⟩
  · have HI := Lib.hid h
    have H1 := Lib.hid h1
    have k1 : ¬ (828 : Int) < (ks.length : Int) := by omega
    have HP0 := Lib.hid (pmp_new w)
    have HB0 := Lib.hid (((((Below.refl w.heap.size w).alloc (Nat.le_refl _) (.map #[] 0)).alloc (by simp) (.map #[] 0)).alloc (by simp; omega) (.cells #[.map (some w.heap.size), .map (some (w.heap.size + 1))] 142 (0, 0))))
    clear h h1
    have hmk := mk_map
    go_enter Try.func72, Try.ntmps72
    go_wp2_with (fail)
    go_loopw [5, 6, 16] (fun _ _ v wr => ∃ k : Nat, k ≤ ks.length ∧ v = .int .i64 k ∧ (∀ i, i < k → ptO (num ks i) = true) ∧ PmpAt wr (w.heap.size + 2) w.heap.size (w.heap.size + 1) (nwA ks k) (fun _ => []) ∧ Below w.heap.size w wr) (fun _ _ v _ => ks.length - (RowKit.intOf v).toNat)
    case atStart => exact ⟨0, by omega, rfl, (fun i hi => by omega), by rw [show nwA ks 0 = fun _ => 0 by funext i; simp [nwA]]; exact HP0.out, HB0.out⟩
    case round =>
      obtain ⟨k, hk, rfl, hP, hM, hB⟩ := hrel
      have HP := Lib.hid hP
      have HM := Lib.hid hM
      have HB := Lib.hid hB
      clear hP hM hB HP0 HB0
      by_cases hlt : k < ks.length
      · obtain ⟨b, off, rfl, hbl, hcs⟩ := (HI.out.next HB.out).at (by omega : 0 < ks.length)
        have hc1 := hcs k hlt
        obtain ⟨z, hz2⟩ : ∃ z, z = num ks k := ⟨_, rfl⟩
        rw [← hz2] at hc1
        have HZ := Lib.hid hz2
        have hcall := isAddr_any z wr
        obtain ⟨r, hr⟩ : ∃ r, r = decide (1 ≤ z ∧ z ≤ 65535) := ⟨_, rfl⟩
        rw [← hr] at hcall
        have HR := Lib.hid hr
        clear hcs hz2 hr
        have hk828 : k < 828 := by have := H1.out; omega
        cases r with
        | true =>
          have hzr := of_decide_eq_true HR.out.symm
          obtain ⟨w2, hst, hnm, htn⟩ := HM.out.ma.store uA hk828 (elA_mk ⟨by omega, hzr.2⟩)
          rw [fA_upd _ _ (by omega)] at hnm
          have c0 := HM.out.c0
          have hM2 := HM.out.setA (turn_map htn) hnm (HM.out.ok.setA ⟨by omega, hzr.2⟩ rfl)
          rw [HZ.out, nwA_upd] at hM2
          have HM2 := Lib.hid hM2
          have HB2 := Lib.hid (HB.out.trans ((turn_map htn).below HB.out.size (fun j hj => by rw [hj]; exact Nat.le_refl _)))
          have HZR := Lib.hid hzr
          clear hnm htn hM2 hzr
          go_wp2_with (fail)
          refine hcall.mono ?_
          rintro e w3 ⟨rfl, rfl⟩
          go_wp2_with (fail)
          go_roundw
          case rel =>
            refine ⟨k + 1, by omega, by go_num, (fun i hi => ?_), HM2.out, HB2.out⟩
            by_cases hik : i = k
            · rw [hik, ← HZ.out]; exact decide_eq_true ⟨by have := HZR.out; omega, HZR.out.2⟩
            · exact HP.out i (by omega)
          case measure => simp [RowKit.intOf]; omega
        | false =>
          have hzr := of_decide_eq_false HR.out.symm
          by_cases hz0 : z = 0
          · have d1 : (z != 0) = false := by simp [hz0]
            have HZ0 := Lib.hid hz0
            have HM2 := Lib.hid (show nwA ks k = nwA ks (k + 1) by
              rw [← nwA_upd, ← HZ.out, hz0]
              funext i
              by_cases e : i = k
              · subst e; simp [upd, nwA]
              · simp [upd, nwA, e])
            clear hz0 hzr
            go_wp2_with (fail)
            refine hcall.mono ?_
            rintro e w3 ⟨rfl, rfl⟩
            go_wp2_with (fail)
            go_roundw
            case rel =>
              refine ⟨k + 1, by omega, by go_num, (fun i hi => ?_), by rw [← HM2.out]; exact HM.out, HB.out⟩
              by_cases hik : i = k
              · rw [hik, ← HZ.out, HZ0.out]; rfl
              · exact HP.out i (by omega)
            case measure => simp [RowKit.intOf]; omega
          · have d1 : (z != 0) = true := by simp [hz0]
            have hno := Lib.hid (show nwO ks = false from nwO_no hlt (by rw [← HZ.out]; exact decide_eq_false (by omega)))
            clear hz0 hzr
            go_wp2_with (fail)
            refine hcall.mono ?_
            rintro e w3 ⟨rfl, rfl⟩
            go_wp2_with (fail)
            go_ret2
            exact ⟨(fun h => by rw [hno.out] at h; cases h), (fun _ => rfl), HB.out⟩
      · obtain rfl : k = ks.length := by omega
        have hok := Lib.hid (show nwO ks = true by rw [nwO, decide_eq_true (by have := H1.out; omega), all_pt.2 HP.out]; rfl)
        go_wp2_with (fail)
        go_ret2
        exact ⟨(fun _ => ⟨_, _, _, rfl, by rw [← nwA_all]; exact HM.out, by omega, Nat.le_refl _, by omega⟩), (fun h => by rw [hok.out] at h; cases h), HB.out⟩
end Go.Proofs.Ytegcjpocdfmpfaa
namespace Go.Proofs.Ytegcjpocdfmpfaa
open Go.RowKit Go.Maps Go.ChangeMaps Go.MapKept Go.Shelf

theorem cloneA_any {w : World} {R : El} {b : Nat} {f : Nat → Option (DataW Unit)} (h : Nm w R b f) :
    Calls Try.prog 124 #[.map (some b)] w fun e w' => e = .returned (.map (some w.heap.size)) ∧ Nm w' R w.heap.size f ∧ Below w.heap.size w w' := by
  obtain ⟨D, h⟩ := h
  refine (AnyW.maps_Clone_owns cloneA 3 R b 828 D w h.own).mono ?_
  rintro e w' ⟨rfl, h1, _, hb⟩
  exact ⟨rfl, ⟨D, h1, h.val, h.has, h.keys⟩, hb⟩
theorem cloneX_any {w : World} {R : El} {b : Nat} {f : Nat → Option (DataW Unit)} (h : Nm w R b f) :
    Calls Try.prog 125 #[.map (some b)] w fun e w' => e = .returned (.map (some w.heap.size)) ∧ Nm w' R w.heap.size f ∧ Below w.heap.size w w' := by
  obtain ⟨D, h⟩ := h
  refine (AnyW.maps_Clone_owns cloneX 3 R b 828 D w h.own).mono ?_
  rintro e w' ⟨rfl, h1, _, hb⟩
  exact ⟨rfl, ⟨D, h1, h.val, h.has, h.keys⟩, hb⟩
theorem pmp_box {w : World} {b c : Nat} {A : Nat → Int} {X : Nat → List Int} (hA : Nm w elA b (fA A)) (hX : Nm w elX c (fX X)) (hne : b ≠ c) (ok : Fits A X) :
    PmpAt (w.alloc (.cells #[.map (some b), .map (some c)] 142 (0, 0))) w.heap.size b c A X := by
  have hr := heap_alloc_new w (.cells #[.map (some b), .map (some c)] 142 (0, 0))
  have hb : Below w.heap.size w (w.alloc (.cells #[.map (some b), .map (some c)] 142 (0, 0))) := (Below.refl _ _).alloc (Nat.le_refl _) _
  refine ⟨?_, ?_, by simp, ?_, ?_, hne, hA.next hb, hX.next hb, ok⟩
  · rw [cell_of_row _ _ 0 _ _ (0, 0) hr]; rfl
  · rw [cell_of_row _ _ 1 _ _ (0, 0) hr]; rfl
  · have := hA.lt; omega
  · have := hX.lt; omega
theorem pclone_any {w : World} {p b c : Nat} {A : Nat → Int} {X : Nat → List Int} (h : PmpAt w p b c A X) :
    Calls Try.prog 81 #[.pointer (some ⟨p, 0, none⟩)] w fun e w' => ∃ q d g, e = .returned (.pointer (some ⟨q, 0, none⟩)) ∧ PmpAt w' q d g A X ∧ w.heap.size ≤ q ∧ w.heap.size ≤ d ∧ w.heap.size ≤ g ∧ Below w.heap.size w w' := by
  have HP := Lib.hid h
  have h0 := h.next (below_drewN (Below.refl _ _) 1)
  have HD := Lib.hid (show PmpAt w.drew p b c A X from h0)
  clear h h0
  go_enter Try.func81, Try.ntmps81
  go_upto_region 1 with fail
  refine wp_region_held_drew (S := (fun w' => w'.cell? ⟨p, 0, none⟩ = some (.map (some b)) ∧ w'.cell? ⟨p, 1, none⟩ = some (.map (some c)))) (by kernel_rfl) ?_ (fun hHeld => ?_)
  · exact ⟨HD.out.c0, HD.out.c1⟩
  refine wpAnyH_take (i := 0) (v := ?_) rfl (by kernel_rfl) (by kernel_rfl) (by kernel_rfl) (fun _ _ _ h => h) (Or.inl ⟨by rfl, fun w hSw => ?_⟩) (by assumption) ?_
  rotate_left
  · (try dsimp only at hSw); go_simp; try with_reducible rfl
  simp only [Act.put, List.setIfInBounds_toArray, List.set_cons_zero, List.set_cons_succ, List.getElem_toArray, List.getElem_cons_zero]
  refine wpAnyH_take (i := 1) (v := ?_) rfl (by kernel_rfl) (by kernel_rfl) (by kernel_rfl) (fun _ _ _ h => h) (Or.inl ⟨by rfl, fun w hSw => ?_⟩) (by assumption) ?_
  rotate_left
  · (try dsimp only at hSw); go_simp; try with_reducible rfl
  simp only [Act.put, List.setIfInBounds_toArray, List.set_cons_zero, List.set_cons_succ, List.getElem_toArray, List.getElem_cons_succ, List.getElem_cons_zero]
  refine wpAnyH_take (i := 2) (v := ?_) rfl (by kernel_rfl) (by kernel_rfl) (by kernel_rfl) (fun _ _ _ h => h) (Or.inl ⟨by rfl, fun w hSw => ?_⟩) (by assumption) ?_
  rotate_left
  · (try dsimp only at hSw); go_simp; try with_reducible rfl
  simp only [Act.put, List.setIfInBounds_toArray, List.set_cons_zero, List.set_cons_succ, List.getElem_toArray, List.getElem_cons_succ, List.getElem_cons_zero]
  refine wpAnyH_take (i := 3) (v := ?_) rfl (by kernel_rfl) (by kernel_rfl) (by kernel_rfl) (fun _ _ _ h => h) (Or.inl ⟨by rfl, fun w hSw => ?_⟩) (by assumption) ?_
  rotate_left
  · (try dsimp only at hSw); go_simp; try with_reducible rfl
  simp only [Act.put, List.setIfInBounds_toArray, List.set_cons_zero, List.set_cons_succ, List.getElem_toArray, List.getElem_cons_succ, List.getElem_cons_zero]
  refine wpAnyH_take (i := 5) (v := ?_) rfl (by kernel_rfl) (by kernel_rfl) (by kernel_rfl) (fun _ _ _ h => h) (Or.inl ⟨by rfl, fun w hSw => ?_⟩) (by assumption) ?_
  rotate_left
  · (try dsimp only at hSw); go_simp; try with_reducible rfl
  simp only [Act.put, List.setIfInBounds_toArray, List.set_cons_zero, List.set_cons_succ, List.getElem_toArray, List.getElem_cons_succ, List.getElem_cons_zero]
  refine wpAnyH_take (i := 6) (v := ?_) rfl (by kernel_rfl) (by kernel_rfl) (by kernel_rfl) (fun _ _ _ h => h) (Or.inl ⟨by rfl, fun w hSw => ?_⟩) (by assumption) ?_
  rotate_left
  · (try dsimp only at hSw); go_simp; try with_reducible rfl
  simp only [Act.put, List.setIfInBounds_toArray, List.set_cons_zero, List.set_cons_succ, List.getElem_toArray, List.getElem_cons_succ, List.getElem_cons_zero]
  refine wpAnyH_take (i := 7) (v := ?_) rfl (by kernel_rfl) (by kernel_rfl) (by kernel_rfl) (fun _ _ _ h => h) (Or.inl ⟨by rfl, fun w hSw => ?_⟩) (by assumption) ?_
  rotate_left
  · (try dsimp only at hSw); go_simp; try with_reducible rfl
  simp only [Act.put, List.setIfInBounds_toArray, List.set_cons_zero, List.set_cons_succ, List.getElem_toArray, List.getElem_cons_succ, List.getElem_cons_zero]
  refine wpAnyH_take (i := 8) (v := ?_) rfl (by kernel_rfl) (by kernel_rfl) (by kernel_rfl) (fun _ _ _ h => h) (Or.inl ⟨by rfl, fun w hSw => ?_⟩) (by assumption) ?_
  rotate_left
  · (try dsimp only at hSw); go_simp; try with_reducible rfl
  simp only [Act.put, List.setIfInBounds_toArray, List.set_cons_zero, List.set_cons_succ, List.getElem_toArray, List.getElem_cons_succ, List.getElem_cons_zero]
  refine wpAnyH_ready (rs := [4]) (by kernel_rfl) (by simp) ?_
  refine AllReadyH.cons rfl (fun K hK => ?_) AllReadyH.nil
  simp only [List.getElem_toArray, List.getElem_cons_succ, List.getElem_cons_zero]
  go_simp
  refine (cloneA_any HD.out.ma).mono ?_
  rintro e w2 ⟨rfl, hA2, hb2⟩
  have HA2 := Lib.hid hA2
  have HP2 := Lib.hid (HD.out.next hb2)
  have HB2 := Lib.hid ((below_drewN (Below.refl w.heap.size w) 1).trans hb2)
  clear hA2 hb2
  go_wp2_with (fail)
  refine hK.out _ _ ⟨HP2.out.c0, HP2.out.c1⟩ (fun hHeld => ?_)
  clear hK K
  refine wpAnyH_ready (rs := [9]) (by kernel_rfl) (by simp) ?_
  refine AllReadyH.cons rfl (fun K hK => ?_) AllReadyH.nil
  simp only [List.getElem_toArray, List.getElem_cons_succ, List.getElem_cons_zero]
  go_simp
  refine (cloneX_any HP2.out.mx).mono ?_
  rintro e w3 ⟨rfl, hX3, hb3⟩
  have HX3 := Lib.hid hX3
  have HP3 := Lib.hid (HP2.out.next hb3)
  have HA3 := Lib.hid (HA2.out.next hb3)
  have HB3 := Lib.hid (HB2.out.trans (hb3.mono HB2.out.size))
  have HS := Lib.hid (show w.drew.heap.size < w2.heap.size from HA2.out.lt)
  clear hX3 hb3
  go_wp2_with (fail)
  refine hK.out _ _ ⟨HP3.out.c0, HP3.out.c1⟩ (fun hHeld => ?_)
  clear hK K
  refine wpAnyH_take (i := 10) (v := ?_) rfl (by kernel_rfl) (by kernel_rfl) (by kernel_rfl) (fun _ _ _ h => h) (Or.inl ⟨by rfl, fun w hSw => ?_⟩) (by assumption) ?_
  rotate_left
  · (try dsimp only at hSw); go_simp; try with_reducible rfl
  simp only [Act.put, List.setIfInBounds_toArray, List.set_cons_zero, List.set_cons_succ, List.getElem_toArray, List.getElem_cons_succ, List.getElem_cons_zero]
  refine wpAnyH_ready (rs := [11]) (by kernel_rfl) (by simp) ?_
  refine AllReadyH.cons rfl (fun K hK => ?_) AllReadyH.nil
  simp only [List.getElem_toArray, List.getElem_cons_succ, List.getElem_cons_zero]
  go_simp
  have HP4 := Lib.hid (pmp_box HA3.out HX3.out (by have := HS.out; omega) HP3.out.ok)
  have HP5 := Lib.hid (HP3.out.next ((Below.refl w3.heap.size w3).alloc (Nat.le_refl _) (.cells #[.map (some w.drew.heap.size), .map (some w2.heap.size)] 142 (0, 0))))
  go_wp2_with (fail)
  refine hK.out _ _ ⟨HP5.out.c0, HP5.out.c1⟩ (fun hHeld => ?_)
  clear hK K
  refine wpAnyH_take (i := 12) (v := ?_) rfl (by kernel_rfl) (by kernel_rfl) (by kernel_rfl) (fun _ _ _ h => h) (Or.inl ⟨by rfl, fun w hSw => ?_⟩) (by assumption) ?_
  rotate_left
  · (try dsimp only at hSw); go_simp; try with_reducible rfl
  simp only [Act.put, List.setIfInBounds_toArray, List.set_cons_zero, List.set_cons_succ, List.getElem_toArray, List.getElem_cons_succ, List.getElem_cons_zero]
  refine wpAnyH_done (by kernel_rfl) ?_ _
  go_wp2_with (fail)
  go_ret
  exact ⟨_, _, _, rfl, HP4.out, HB3.out.size, Nat.le_refl _, HB2.out.size, HB3.out.alloc HB3.out.size _⟩
end Go.Proofs.Ytegcjpocdfmpfaa
namespace Go.Proofs.Ytegcjpocdfmpfaa
open Go.RowKit Go.Maps Go.ChangeMaps Go.MapKept

theorem uP : Try.prog.underlying 143 = some (.array 56 5) := Try.underlying143
theorem sizeX : (Try.prog.info? 143).map (·.size) = some 56 := by kernel_rfl
/-- 56 bytes that lie anywhere are loaded whole. -/
theorem Pin.load56 {w : World} {b off c : Nat} {zs : List Int} (h : Pin w (some ⟨b, off, none⟩) 56 c zs) : (Instr.loadAt 143 (.pointer (some ⟨b, off, none⟩))).run Try.prog w = .ok (payV zs) w := by
  simp only [Instr.loadAt, Instr.sureAddr, Sem.run_bind, Sem.run_pure, Result.andThen]
  obtain ⟨b', off', e, _, hc⟩ := h.at (by omega)
  cases e
  refine run_loadVar_mid w b off 143 (zs.map (Value.int .u8)) _ (fun j v hv => ?_) uP rfl (by rw [sizeX, List.length_map, h.len])
  have hj : j < zs.length := by
    rcases Nat.lt_or_ge j zs.length with h1 | h1
    · exact h1
    · rw [List.getElem?_eq_none (by simpa using h1)] at hv; cases hv
  rw [hc j (by rw [← h.len]; exact hj)]
  rw [List.getElem?_map, List.getElem?_eq_getElem hj] at hv
  simp at hv
  simp [byt, List.getD, hj, hv]
theorem exec_load {P : Program} {ρ : Operand → Value} {o : Oper} {t : TypeId} {x : Operand} {p v : Value} {w : World} (ho : o.op = .load t x) (hx : ρ x = p) (h : (Instr.loadAt t p).run P w = .ok v w) : (execOp ρ o).run P w = .ok (.value v) w := by
  unfold execOp
  simp only [ho, hx, Sem.run_bind, h, Result.andThen_ok, Sem.run_pure]
theorem Pmp.off {b c g : Nat} {T : Nat → Prop} (hT : ∀ j, T j ↔ j = b ∨ j = c) (h : ¬ T g) : g ≠ b ∧ g ≠ c := ⟨fun e => h ((hT g).2 (.inl e)), fun e => h ((hT g).2 (.inr e))⟩
/-- What Put leaves. -/
def PutP (w : World) (p b c : Nat) (A : Nat → Int) (X : Nat → List Int) (k : Int) (x : List Int) (e : Ending) (w' : World) : Prop :=
  e = .returned (.int .i64 (if puO k x then 0 else 28)) ∧ Turn (fun j => j = b ∨ j = c) w w' ∧ PmpAt w' p b c (if puO k x then upd A k.toNat 0 else A) (if puO k x then upd X k.toNat (bnO x) else X)
theorem putP_no {w : World} {p b c : Nat} {A : Nat → Int} {X : Nat → List Int} {k : Int} {x : List Int} (h : PmpAt w p b c A X) (hk : ¬ (0 ≤ k ∧ k < 828) ∨ x.length ≠ 56) : PutP w p b c A X k x (.returned (.int .i64 28)) w := by
  have e : puO k x = false := by
    unfold puO
    rcases hk with h | h
    · rw [show inK k = false by cases hh : inK k with | false => rfl | true => exact absurd (inK_iff.1 hh) h]; rfl
    · rw [decide_eq_false h, Bool.and_false]
  unfold PutP
  rw [e]
  exact ⟨rfl, Turn.refl _ _, h⟩
theorem put_any {w : World} {p b c : Nat} {A : Nat → Int} {X : Nat → List Int} (h : PmpAt w p b c A X) (k : Int) (a : Option Addr) (n m : Nat) (x : List Int) (hx : Pin w a n m x) (hb : 0 < n → ∀ y, a = some y → y.block ≠ b ∧ y.block ≠ c) :
    Calls Try.prog 75 #[.pointer (some ⟨p, 0, none⟩), .int .i64 k, .slice a n m] w (PutP w p b c A X k x) := by
  have hl := hx.len
  subst hl
  have hc0 := isBlock_any k w
  by_cases h0 : ¬ (0 ≤ k ∧ k < 828)
  · have hno := Lib.hid (putP_no (x := x) h (.inl h0))
    rw [show inK k = false by cases hh : inK k with | false => rfl | true => exact absurd (inK_iff.1 hh) h0] at hc0
    clear h h0 hb hx
    go_enter Try.func75, Try.ntmps75
    go_wp2_with (fail)
    refine hc0.mono ?_
    rintro e w2 ⟨rfl, rfl⟩
    go_wp2_with (fail)
    go_ret
    exact hno.out
  · have h00 : 0 ≤ k ∧ k < 828 := by omega
    rw [inK_iff.2 h00] at hc0
    by_cases h2 : x.length = 56
    · obtain ⟨j, rfl⟩ := Int.eq_ofNat_of_zero_le (show 0 ≤ k by omega)
      have hj : j < 828 := by omega
      have hok := Lib.hid (show puO (j : Int) x = true by rw [puO, inK_iff.2 (by omega), decide_eq_true h2]; rfl)
      obtain ⟨w1, hd1, hn1, ht1⟩ := h.ma.drop uA hj
      rw [fA_off] at hn1
      have c0 := h.c0
      have h1 := h.setA (turn_map ht1) hn1 (h.ok.offA j)
      have hx1 : Pin w1 a x.length m x := pin_turn hx (turn_map ht1) fun h0 y e => (hb h0 y e).1
      have c1 := h1.c1
      have hno := nought_any a x.length m x w1 hx1.bys (by omega)
      obtain ⟨by0, off, rfl, _, _⟩ := hx1.at (by omega)
      have HBC := Lib.hid (show by0 ≠ c from (hb (by omega) _ rfl).2)
      have HX := Lib.hid hx1
      have HM := Lib.hid h1
      have HT := Lib.hid (turn_map ht1)
      obtain ⟨q, hq⟩ : ∃ q, q = x.length := ⟨_, rfl⟩
      rw [← hq] at hno h2 ⊢
      have HMM := Lib.hid hq
      subst h2
      clear h h1 ht1 hx1 hx hb h0 h00 hn1 hq
      cases hz : noughtB x with
      | true =>
        rw [hz] at hno
        obtain ⟨w2, hd2, hn2, ht2⟩ := HM.out.mx.drop uX hj
        rw [fX_off] at hn2
        have HM2 := Lib.hid (HM.out.setX (turn_map ht2) hn2 (HM.out.ok.offX j))
        have HT2 := Lib.hid ((HT.out.mono (M' := fun j => j = b ∨ j = c) fun j e => .inl e).trans ((turn_map ht2).mono fun j e => .inr e))
        have HZ := Lib.hid hz
        clear hz hn2 ht2
        go_enter Try.func75, Try.ntmps75
        go_wp2_with (fail)
        refine hc0.mono ?_
        rintro e w4 ⟨rfl, rfl⟩
        go_wp2_with (fail)
        refine hno.mono ?_
        rintro e w5 ⟨rfl, rfl⟩
        go_wp2_with (fail)
        go_ret
        unfold PutP
        rw [hok.out, if_pos rfl, if_pos rfl, if_pos rfl, bnO, HZ.out]
        exact ⟨rfl, HT2.out, HM2.out⟩
      | false =>
        rw [hz] at hno
        have HZ := Lib.hid hz
        have hne : x ≠ [] := fun e => by have := HMM.out; rw [e] at this; cases this
        have hmd : PmpAt w1.drew p b c (upd A j 0) X := HM.out.next (below_drewN (Below.refl _ _) 1)
        have cd := hmd.c1
        obtain ⟨w2, hst, hn2, ht2⟩ := hmd.mx.store uX hj (elX_mk HMM.out.symm)
        rw [fX_upd _ _ hne] at hn2
        have HM2 := Lib.hid (hmd.setX (turn_map ht2) hn2 (hmd.ok.setX (.inr ⟨HMM.out.symm, HX.out.bys.small⟩) (upd_at _ _ _)))
        have HT2 := Lib.hid (((HT.out.mono (M' := fun j => j = b ∨ j = c) fun j e => .inl e).trans (Turn.of_below (below_drewN (Below.refl _ _) 1))).trans ((turn_map ht2).mono fun j e => .inr e))
        have hld : (Instr.loadAt 143 (.pointer (some ⟨by0, off, none⟩))).run Try.prog w1.drew = .ok (payV x) w1.drew := by
          have h5 : Pin w1.drew (some ⟨by0, off, none⟩) x.length m x := HX.out.drewN 1
          rw [← HMM.out] at h5
          exact h5.load56
        have har : ∀ w, (Instr.arrayAt 143 (.slice (some ⟨by0, off, none⟩) 56 m)).run Try.prog w = .ok (.pointer (some ⟨by0, off, none⟩)) w := fun w => by
          simp [Instr.arrayAt, run_underlying uP, Result.andThen]
        have HL2 := Lib.hid (show (Instr.loadAt 143 (.pointer (some ⟨by0, off, none⟩))).run Try.prog w2 = .ok (payV x) w2 by
          have h5 : Pin w2 (some ⟨by0, off, none⟩) x.length m x := pin_turn (HX.out.drewN 1) (turn_map ht2) fun _ y e => by cases e; exact HBC.out
          rw [← HMM.out] at h5
          exact h5.load56)
        clear hz hn2 ht2 hne hmd
        go_enter Try.func75, Try.ntmps75
        go_wp2_with (fail)
        refine hc0.mono ?_
        rintro e w4 ⟨rfl, rfl⟩
        go_wp2_with (fail)
        refine hno.mono ?_
        rintro e w5 ⟨rfl, rfl⟩
        go_upto_region 6 with fail
        refine wp_region_held_drew (S := (fun w' => w'.cell? ⟨p, 1, none⟩ = some (.map (some c)) ∧ (Instr.loadAt 143 (.pointer (some ⟨by0, off, none⟩))).run Try.prog w' = .ok (payV x) w')) (by kernel_rfl) ?_ (fun hHeld => ?_)
        · exact ⟨cd, hld⟩
        refine wpAnyH_take (i := 0) (v := ?_) rfl (by kernel_rfl) (by kernel_rfl) (by kernel_rfl) (fun _ _ _ h => h) (Or.inl ⟨by rfl, fun w hSw => ?_⟩) (by assumption) ?_
        rotate_left
        · (try dsimp only at hSw); go_simp; try with_reducible rfl
        simp only [Act.put, List.setIfInBounds_toArray, List.set_cons_zero, List.set_cons_succ, List.getElem_toArray, List.getElem_cons_zero]
        refine wpAnyH_take (i := 1) (v := ?_) rfl (by kernel_rfl) (by kernel_rfl) (by kernel_rfl) (fun _ _ _ h => h) (Or.inl ⟨by rfl, fun w hSw => ?_⟩) (by assumption) ?_
        rotate_left
        · (try dsimp only at hSw); go_simp; try with_reducible rfl
        simp only [Act.put, List.setIfInBounds_toArray, List.set_cons_zero, List.set_cons_succ, List.getElem_toArray, List.getElem_cons_succ, List.getElem_cons_zero]
        refine wpAnyH_take (i := 2) (v := ?_) rfl (by kernel_rfl) (by kernel_rfl) (by kernel_rfl) (fun _ _ _ h => h) (Or.inl ⟨by rfl, fun w hSw => ?_⟩) (by assumption) ?_
        rotate_left
        · (try dsimp only at hSw); go_simp; try with_reducible rfl
        simp only [Act.put, List.setIfInBounds_toArray, List.set_cons_zero, List.set_cons_succ, List.getElem_toArray, List.getElem_cons_succ, List.getElem_cons_zero]
        refine wpAnyH_take (i := 3) (v := ?_) rfl (by kernel_rfl) (by kernel_rfl) (by kernel_rfl) (fun _ _ _ h => h) (Or.inl ⟨by rfl, fun w hSw => ?_⟩) (by assumption) ?_
        rotate_left
        · (try dsimp only at hSw); go_simp; try with_reducible rfl
        simp only [Act.put, List.setIfInBounds_toArray, List.set_cons_zero, List.set_cons_succ, List.getElem_toArray, List.getElem_cons_succ, List.getElem_cons_zero]
        refine wpAnyH_take (i := 4) (v := ?_) rfl (by kernel_rfl) (by kernel_rfl) (by kernel_rfl) (fun _ _ _ h => h) (Or.inl ⟨by rfl, fun w hSw => ?_⟩) (by assumption) ?_
        rotate_left
        · (try dsimp only at hSw); go_simp; try with_reducible rfl
        simp only [Act.put, List.setIfInBounds_toArray, List.set_cons_zero, List.set_cons_succ, List.getElem_toArray, List.getElem_cons_succ, List.getElem_cons_zero]
        refine wpAnyH_take (i := 5) (v := ?_) rfl (by kernel_rfl) (by kernel_rfl) (by kernel_rfl) (fun _ _ _ h => h) (Or.inl ⟨by rfl, fun w hSw => ?_⟩) (by assumption) ?_
        rotate_left
        · (try dsimp only at hSw); go_simp; try with_reducible rfl
        simp only [Act.put, List.setIfInBounds_toArray, List.set_cons_zero, List.set_cons_succ, List.getElem_toArray, List.getElem_cons_succ, List.getElem_cons_zero]
        refine wpAnyH_take (i := 6) (v := ?_) rfl (by kernel_rfl) (by kernel_rfl) (by kernel_rfl) (fun _ _ _ h => h) (Or.inl ⟨by rfl, fun w hSw => ?_⟩) (by assumption) ?_
        rotate_left
        · (try dsimp only at hSw); go_simp; try with_reducible rfl
        simp only [Act.put, List.setIfInBounds_toArray, List.set_cons_zero, List.set_cons_succ, List.getElem_toArray, List.getElem_cons_succ, List.getElem_cons_zero]
        refine wpAnyH_take (i := 7) (v := payV x) rfl (by kernel_rfl) (by kernel_rfl) (by kernel_rfl) (fun _ _ _ h => h) (Or.inl ⟨by rfl, fun w hSw => ?_⟩) (by assumption) ?_
        · exact exec_load (x := .tmp 33) (by rfl) (by rfl) hSw.2
        simp only [Act.put, List.setIfInBounds_toArray, List.set_cons_zero, List.set_cons_succ, List.getElem_toArray, List.getElem_cons_succ, List.getElem_cons_zero]
        refine wpAnyH_ready (rs := [8]) (by kernel_rfl) (by simp) ?_
        refine AllReadyH.cons rfl (fun K hK => ?_) AllReadyH.nil
        simp only [List.getElem_toArray, List.getElem_cons_succ, List.getElem_cons_zero]
        go_simp
        refine hK.out _ _ ⟨(HM2.out).c1, HL2.out⟩ (fun hHeld => ?_)
        clear hK K
        refine wpAnyH_done (by kernel_rfl) ?_ _
        go_wp2_with (fail)
        go_ret
        unfold PutP
        rw [hok.out, if_pos rfl, if_pos rfl, if_pos rfl, bnO, HZ.out]
        exact ⟨rfl, HT2.out, HM2.out⟩
    · have hno := Lib.hid (putP_no (k := k) (x := x) h (.inr h2))
      have k1 : ((x.length : Int) != 56) = true := by simp; omega
      clear h h0 hb hx h2 h00
      go_enter Try.func75, Try.ntmps75
      go_wp2_with (fail)
      refine hc0.mono ?_
      rintro e w2 ⟨rfl, rfl⟩
      go_wp2_with (fail)
      go_ret
      exact hno.out

theorem payC_cells {zs : List Int} : (payV zs).cells = payC zs := rfl
theorem no56_len : no56.length = 56 := rfl
theorem storeG (w : World) {cs : Array Value} (h : cs.size = 56) (h1 : cs.all (·.oneCell') = true) : (Instr.storeAt 143 (.pointer (some ⟨w.heap.size, 0, none⟩)) (.agg cs)).run Try.prog (w.alloc (.cells (payC no56) 143)) = .ok () (w.alloc (.cells cs 143)) :=
  run_storeAt_new w _ _ _ (by rw [sizeX, h]) (by rw [h, payC_size no56_len]) h1
theorem storeGC (w : World) {cs : Array Value} (h : cs.size = 56) (h1 : cs.all (·.oneCell') = true) : (storeCells ⟨w.heap.size, 0, none⟩ cs.toList 0).run Try.prog (w.alloc (.cells (payC no56) 143)) = .ok () (w.alloc (.cells cs 143)) :=
  run_storeCells_new w _ _ _ (by rw [sizeX, h]) (by rw [h, payC_size no56_len]) h1
theorem loadG (w : World) {cs : Array Value} (h : cs.size = 56) : (Instr.loadAt 143 (.pointer (some ⟨w.heap.size, 0, none⟩))).run Try.prog (w.alloc (.cells cs 143)) = .ok (.agg cs) (w.alloc (.cells cs 143)) :=
  run_loadAt_new w _ cs 56 5 uP (by rw [sizeX, h])
theorem loadGC (w : World) {cs : Array Value} (h : cs.size = 56) : (loadCellsFrom ⟨w.heap.size, 0, none⟩ 0 56 #[]).run Try.prog (w.alloc (.cells cs 143)) = .ok cs (w.alloc (.cells cs 143)) :=
  run_loadCellsFrom_new w _ cs 56 h
theorem store56 (w : World) {zs : List Int} (h : zs.length = 56) : (Instr.storeAt 143 (.pointer (some ⟨w.heap.size, 0, none⟩)) (payV zs)).run Try.prog (w.alloc (.cells (payC no56) 143)) = .ok () (w.alloc (.cells (payC zs) 143)) :=
  storeG w (payC_size h) (payC_all zs)
theorem storeC56 (w : World) {zs : List Int} (h : zs.length = 56) : (storeCells ⟨w.heap.size, 0, none⟩ (payC zs).toList 0).run Try.prog (w.alloc (.cells (payC no56) 143)) = .ok () (w.alloc (.cells (payC zs) 143)) :=
  storeGC w (payC_size h) (payC_all zs)
theorem pin56 (w : World) {zs : List Int} (h : zs.length = 56) (hs : AllB zs) : Pin (w.alloc (.cells (payC zs) 143)) (some ⟨w.heap.size, 0, none⟩) 56 56 zs := by
  refine ⟨⟨h, hs, .inr ⟨_, 0, rfl, by simp, fun i hi => ?_⟩⟩, (fun e => by cases e), Nat.le_refl _, by omega⟩
  rw [Nat.zero_add, cell_of_row _ _ i _ _ (0, 0) (heap_alloc_new w _)]
  simp [payC, byt, List.getD, show i < zs.length by omega]
theorem clone_any (p : Addr) (n c : Nat) (x : List Int) (w : World) (hx : Pin w (some p) n c x) (hn : n ≤ 1000000000000) :
    Calls Try.prog 145 #[.slice (some p) n c] w (ConPost w x) := by
  have hq : ∀ (w : World) (a : Option Addr) (n c : Nat), (binOp .eql 50 (.slice a n c) (.slice none 0 0)).run Try.prog w = .ok (.bool a.isNone) w := fun w a n c => Lib.run_eql_slice_nil w _ _ a n c 0 0 Try.underlying50
  go_enter Try.func145, Try.ntmps145
  go_wp2_with (at_builtin; go_must (refine wpList_ap rfl (.tmp 5) (.tmp 6) rfl w.heap.size _ 0 [] rfl (own_none w w.heap.size (Nat.le_refl _)) (some p) n c x rfl (hx.bys.below (Nat.le_refl _) ((Below.refl _ _).alloc (Nat.le_refl _) _)) (fun h => by cases h) (by omega) (by simp) w ((Below.refl _ _).alloc (Nat.le_refl _) _) ?_); intro v w1 hown1 hb1)
  go_ret
  exact ⟨_, rfl, by rw [hx.len]; simpa using hown1, hb1⟩
theorem byX_no {X : Nat → List Int} {k : Int} (h : byO X k = false) : byX X k = [] := by
  unfold byO at h
  unfold byX
  cases hk : inK k with
  | false => rfl
  | true =>
    rw [hk] at h
    rw [if_pos rfl]
    simpa using h
theorem byX_yes {X : Nat → List Int} {k : Int} (h : byO X k = true) : ∃ j : Nat, k = j ∧ j < 828 ∧ byX X k = X j ∧ X j ≠ [] := by
  have hk : inK k = true := by
    cases hk : inK k with
    | false => rw [byO, hk] at h; cases h
    | true => rfl
  obtain ⟨h0, h1⟩ := inK_iff.1 hk
  obtain ⟨j, rfl⟩ := Int.eq_ofNat_of_zero_le h0
  have hj : j < 828 := by omega
  obtain ⟨e1, e2⟩ := by_yes X hj
  refine ⟨j, rfl, hj, e2, fun e => ?_⟩
  rw [e1, e] at h
  cases h
theorem bytes_any {w : World} {p b c : Nat} {A : Nat → Int} {X : Nat → List Int} (h : PmpAt w p b c A X) (k : Int) :
    Calls Try.prog 116 #[.pointer (some ⟨p, 0, none⟩), .int .i64 k] w (RetT w (byX X k) (byO X k)) := by
  have hq := h.lookX k
  have c1 := h.c1
  have hz := zX
  cases ho : byO X k with
  | false =>
    rw [ho] at hq
    have HX := Lib.hid (byX_no ho)
    have hst := store56 w no56_len
    have hst2 := storeC56 w no56_len
    have hs := payC_size no56_len
    clear h ho
    go_enter Try.func116, Try.ntmps116
    go_wp2_with (fail)
    go_ret2
    rw [HX.out]
    exact ⟨_, _, _, rfl, Pin.zero _, (Below.refl _ _).alloc (Nat.le_refl _) _⟩
  | true =>
    rw [ho] at hq
    obtain ⟨j, rfl, hj, e2, hne⟩ := byX_yes ho
    rw [e2] at hq ⊢
    obtain ⟨hl, hs8⟩ : (X j).length = 56 ∧ AllB (X j) := by
      rcases h.ok.sz j with h1 | h1
      · exact absurd h1 hne
      · exact h1
    obtain ⟨zs, hzs⟩ : ∃ zs, zs = X j := ⟨_, rfl⟩
    rw [← hzs] at hl hs8 hq ⊢
    have hst := store56 w hl
    have hst2 := storeC56 w hl
    have hs := payC_size hl
    have hc := clone_any ⟨w.heap.size, 0, none⟩ 56 56 zs _ (pin56 w hl hs8) (by omega)
    clear h ho hzs hne e2 hl hs8
    go_enter Try.func116, Try.ntmps116
    go_wp2_with (fail)
    refine hc.mono ?_
    rintro e w3 ⟨v, rfl, hO, hb3⟩
    obtain ⟨a, m, rfl, hp, hn⟩ := hO.pin
    have HP := Lib.hid hp
    have HB := Lib.hid hb3
    clear hO hp hn hb3
    go_wp2_with (fail)
    go_ret2
    exact ⟨_, _, _, rfl, HP.out, ((Below.refl w.heap.size w).alloc (Nat.le_refl _) _).trans (HB.out.mono (by simp))⟩
end Go.Proofs.Ytegcjpocdfmpfaa
