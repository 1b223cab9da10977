/-
  The program's map in memory: two maps by the numbers of blocks, one of addresses, one of bytes.
-/
import Derived.Test.YtgedgkdnjnbijaaKm
import Derived.Laws.CopyRow
import Derived.Laws.Tables
namespace Go.Proofs.Ytgedgkdnjnbijaa
open Go.RowKit Go.Maps Go.ChangeMaps Go.MapKept
set_option linter.unusedVariables false
set_option linter.unusedSimpArgs false

/-- How an address reads, and the bytes of a new block. -/
def elA : El
  | .int .i64 a => if (Lit.int .i64 a).wf = true then some (.lit (.int .i64 a), []) else none
  | _ => none
def byD : Value → DataW Unit
  | .int .u8 x => .lit (.int .u8 x)
  | _ => .nil
def elX : El
  | .agg cs => if cs.size = 56 ∧ cs.all (·.oneCell') = true then some (.agg (cs.toList.map byD), []) else none
  | _ => none
def payC (zs : List Int) : Array Value := (zs.map (Value.int .u8)).toArray
abbrev payV (zs : List Int) : Value := .agg (payC zs)
def payD (zs : List Int) : DataW Unit := .agg (zs.map fun x => .lit (.int .u8 x))
theorem payC_size {zs : List Int} (h : zs.length = 56) : (payC zs).size = 56 := by simp [payC, h]
theorem payC_all (zs : List Int) : (payC zs).all (·.oneCell') = true := by simp [payC, Value.oneCell']
theorem elX_mk {zs : List Int} (h : zs.length = 56) : elX (payV zs) = some (payD zs, []) := by
  show (if (payC zs).size = 56 ∧ (payC zs).all (·.oneCell') = true then some (DataW.agg ((payC zs).toList.map byD), []) else none) = _
  rw [if_pos ⟨payC_size h, payC_all zs⟩]
  unfold payC payD
  simp only [List.map_map]
  rfl
theorem byD_inv {cs : List Value} {zs : List Int} (h : cs.map byD = zs.map fun x => .lit (.int .u8 x)) : cs = zs.map (Value.int .u8) := by
  induction cs generalizing zs with
  | nil => cases zs with
    | nil => rfl
    | cons z zs => cases h
  | cons c cs ih => cases zs with
    | nil => cases h
    | cons z zs =>
      simp only [List.map_cons, List.cons.injEq] at h ⊢
      refine ⟨?_, ih h.2⟩
      have h1 := h.1
      unfold byD at h1
      split at h1
      · cases h1; rfl
      · cases h1
theorem elX_inv {v : Value} {zs : List Int} {ps : List MemPlace} (h : elX v = some (payD zs, ps)) : v = payV zs := by
  unfold elX at h
  split at h
  · rename_i cs
    split at h
    · simp only [payD, Option.some.injEq, Prod.mk.injEq, DataW.agg.injEq] at h
      unfold payV payC
      rw [← byD_inv h.1]
    · cases h
  · cases h
theorem elX_agg {v : Value} {y : DataW Unit × List MemPlace} (h : elX v = some y) : ∃ cs, v = .agg cs ∧ cs.size = 56 ∧ cs.all (·.oneCell') = true := by
  unfold elX at h
  split at h
  · split at h
    · rename_i h1
      exact ⟨_, rfl, h1.1, h1.2⟩
    · cases h
  · cases h
theorem elA_mk {a : Int} (h : 0 ≤ a ∧ a ≤ 65535) : elA (.int .i64 a) = some (.lit (.int .i64 a), []) := by
  show (if (Lit.int .i64 a).wf = true then some (DataW.lit (Lit.int .i64 a), []) else none) = _
  rw [if_pos (WalkArith.wf_i64 (by omega))]
theorem elA_inv {v : Value} {a : Int} {ps : List MemPlace} (h : elA v = some (.lit (.int .i64 a), ps)) : v = .int .i64 a := by
  unfold elA at h
  split at h
  · split at h
    · simp only [Option.some.injEq, Prod.mk.injEq, DataW.lit.injEq, Lit.int.injEq] at h
      rw [h.1.2]
    · cases h
  · cases h
theorem uA : Try.prog.underlying 57 = some (.map 3 3) := Try.underlying57
theorem uX : Try.prog.underlying 59 = some (.map 3 70) := Try.underlying59
theorem zA (w : World) : (zeroValue 3).run Try.prog w = .ok (.int .i64 0) w := by kernel_rfl
def no56 : List Int := List.replicate 56 0
theorem infoX : (Try.prog.info? 70).map (fun i => (i.zero, i.size, i.bytes)) = some (some (payV no56), 56, 56) := by kernel_rfl
theorem zX (w : World) : (zeroValue 70).run Try.prog w = .ok (payV no56) w := by
  obtain ⟨i0, hi, hz0, hz1, hz2⟩ := info_parts infoX
  simp [zeroValue, typeInfo, hi, hz0, Result.andThen]

/-- What the maps have. -/
def fA (A : Nat → Int) (s : Nat) : Option (DataW Unit) := if A s = 0 then none else some (.lit (.int .i64 (A s)))
def fX (X : Nat → List Int) (s : Nat) : Option (DataW Unit) := if X s = [] then none else some (payD (X s))
theorem fA_upd (A : Nat → Int) (k : Nat) {z : Int} (h : z ≠ 0) : upd (fA A) k (some (.lit (.int .i64 z))) = fA (upd A k z) := by
  funext s
  by_cases e : s = k
  · subst e; simp [upd, fA, h]
  · simp [upd, fA, e]
theorem fA_off (A : Nat → Int) (k : Nat) : upd (fA A) k none = fA (upd A k 0) := by
  funext s
  by_cases e : s = k
  · subst e; simp [upd, fA]
  · simp [upd, fA, e]
theorem fX_upd (X : Nat → List Int) (k : Nat) {z : List Int} (h : z ≠ []) : upd (fX X) k (some (payD z)) = fX (upd X k z) := by
  funext s
  by_cases e : s = k
  · subst e; simp [upd, fX, h]
  · simp [upd, fX, e]
theorem fX_off (X : Nat → List Int) (k : Nat) : upd (fX X) k none = fX (upd X k []) := by
  funext s
  by_cases e : s = k
  · subst e; simp [upd, fX]
  · simp [upd, fX, e]
theorem fA_none : fA (fun _ => 0) = fun _ => none := by funext s; rfl
theorem fX_none : fX (fun _ => []) = fun _ => none := by funext s; rfl
theorem fA_zero {A : Nat → Int} {s : Nat} (h : fA A s = none) : A s = 0 := by
  unfold fA at h
  split at h
  · assumption
  · cases h
theorem fX_zero {X : Nat → List Int} {s : Nat} (h : fX X s = none) : X s = [] := by
  unfold fX at h
  split at h
  · assumption
  · cases h
theorem fA_yes {A : Nat → Int} {s : Nat} (h : A s ≠ 0) : fA A s = some (.lit (.int .i64 (A s))) := if_neg h
theorem fA_no {A : Nat → Int} {s : Nat} (h : A s = 0) : fA A s = none := if_pos h
theorem fX_yes {X : Nat → List Int} {s : Nat} (h : X s ≠ []) : fX X s = some (payD (X s)) := if_neg h
theorem fX_no {X : Nat → List Int} {s : Nat} (h : X s = []) : fX X s = none := if_pos h

/-- What the two maps tell goes together. -/
structure Fits (A : Nat → Int) (X : Nat → List Int) : Prop where
  rg : ∀ k, 0 ≤ A k ∧ A k ≤ 65535
  sz : ∀ k, X k = [] ∨ ((X k).length = 56 ∧ AllB (X k))
  dj : ∀ k, X k = [] ∨ A k = 0
/-- The program's map at p: its maps in blocks b and c. -/
structure PmpAt (w : World) (p b c : Nat) (A : Nat → Int) (X : Nat → List Int) : Prop where
  c0 : w.cell? ⟨p, 0, none⟩ = some (.map (some b))
  c1 : w.cell? ⟨p, 1, none⟩ = some (.map (some c))
  lt : p < w.heap.size
  nb : p ≠ b
  nc : p ≠ c
  ne : b ≠ c
  ma : Nm w elA b (fA A)
  mx : Nm w elX c (fX X)
  ok : Fits A X
def Pmp (w : World) (p : Nat) (T D : Nat → Prop) (A : Nat → Int) (X : Nat → List Int) : Prop :=
  ∃ b c, PmpAt w p b c A X ∧ (∀ j, T j ↔ j = b ∨ j = c) ∧ (∀ j, D j ↔ j = p ∨ j = b ∨ j = c)
theorem PmpAt.pmp {w : World} {p b c : Nat} {A : Nat → Int} {X : Nat → List Int} (h : PmpAt w p b c A X) : Pmp w p (fun j => j = b ∨ j = c) (fun j => j = p ∨ j = b ∨ j = c) A X := ⟨b, c, h, fun _ => Iff.rfl, fun _ => Iff.rfl⟩
theorem PmpAt.turn {w w' : World} {p b c : Nat} {A : Nat → Int} {X : Nat → List Int} {M : Nat → Prop} (h : PmpAt w p b c A X) (ht : Turn M w w') (hp : ¬ M p) (hb : ¬ M b) (hc : ¬ M c) : PmpAt w' p b c A X :=
  ⟨(ht.cell (a := ⟨p, 0, none⟩) h.lt hp).trans h.c0, (ht.cell (a := ⟨p, 1, none⟩) h.lt hp).trans h.c1, Nat.lt_of_lt_of_le h.lt ht.size, h.nb, h.nc, h.ne, h.ma.turn ht hb, h.mx.turn ht hc, h.ok⟩
theorem PmpAt.next {w w' : World} {p b c : Nat} {A : Nat → Int} {X : Nat → List Int} (h : PmpAt w p b c A X) (hb : Below w.heap.size w w') : PmpAt w' p b c A X :=
  h.turn (M := fun _ => False) (Turn.of_below hb) id id id
/-- The addresses' map has turned; the bytes' map has. -/
theorem PmpAt.setA {w w' : World} {p b c : Nat} {A A' : Nat → Int} {X : Nat → List Int} (h : PmpAt w p b c A X) (ht : Turn (· = b) w w') (hm : Nm w' elA b (fA A')) (ho : Fits A' X) : PmpAt w' p b c A' X :=
  ⟨(ht.cell (a := ⟨p, 0, none⟩) h.lt h.nb).trans h.c0, (ht.cell (a := ⟨p, 1, none⟩) h.lt h.nb).trans h.c1, Nat.lt_of_lt_of_le h.lt ht.size, h.nb, h.nc, h.ne, hm, h.mx.turn ht (fun e => h.ne e.symm), ho⟩
theorem PmpAt.setX {w w' : World} {p b c : Nat} {A : Nat → Int} {X X' : Nat → List Int} (h : PmpAt w p b c A X) (ht : Turn (· = c) w w') (hm : Nm w' elX c (fX X')) (ho : Fits A X') : PmpAt w' p b c A X' :=
  ⟨(ht.cell (a := ⟨p, 0, none⟩) h.lt h.nc).trans h.c0, (ht.cell (a := ⟨p, 1, none⟩) h.lt h.nc).trans h.c1, Nat.lt_of_lt_of_le h.lt ht.size, h.nb, h.nc, h.ne, h.ma.turn ht h.ne, hm, ho⟩
/-- A call is over: at most the two maps have turned. -/
theorem PmpAt.left {w w' : World} {p b c : Nat} {T D : Nat → Prop} {A' : Nat → Int} {X' : Nat → List Int} (h : PmpAt w' p b c A' X') (hT : ∀ j, T j ↔ j = b ∨ j = c) (hD : ∀ j, D j ↔ j = p ∨ j = b ∨ j = c) (ht : Turn (fun j => j = b ∨ j = c) w w') : Left Pmp w p T D A' X' w' :=
  ⟨ht.mono fun j hj => (hT j).2 hj, T, D, ⟨b, c, h, hT, hD⟩, (fun j hj => .inl hj), fun j hj => .inl hj⟩
theorem Fits.setA {A : Nat → Int} {X : Nat → List Int} (h : Fits A X) {k : Nat} {z : Int} (hz : 0 ≤ z ∧ z ≤ 65535) (hx : X k = []) : Fits (upd A k z) X :=
  ⟨fun j => by unfold upd; split; exact hz; exact h.rg j, h.sz, fun j => by
    unfold upd
    split
    · subst_vars; exact .inl hx
    · exact h.dj j⟩
theorem Fits.offA {A : Nat → Int} {X : Nat → List Int} (h : Fits A X) (k : Nat) : Fits (upd A k 0) X :=
  ⟨fun j => by unfold upd; split; omega; exact h.rg j, h.sz, fun j => by
    unfold upd
    split
    · exact .inr rfl
    · exact h.dj j⟩
theorem Fits.setX {A : Nat → Int} {X : Nat → List Int} (h : Fits A X) {k : Nat} {z : List Int} (hz : z = [] ∨ (z.length = 56 ∧ AllB z)) (ha : A k = 0) : Fits A (upd X k z) :=
  ⟨h.rg, fun j => by unfold upd; split; exact hz; exact h.sz j, fun j => by
    unfold upd
    split
    · subst_vars; exact .inr ha
    · exact h.dj j⟩
theorem Fits.offX {A : Nat → Int} {X : Nat → List Int} (h : Fits A X) (k : Nat) : Fits A (upd X k []) :=
  ⟨h.rg, fun j => by unfold upd; split; exact .inl rfl; exact h.sz j, fun j => by
    unfold upd
    split
    · exact .inl rfl
    · exact h.dj j⟩
theorem Fits.cut {A : Nat → Int} {X : Nat → List Int} (h : Fits A X) (n m : Nat) : Fits (cutF 0 A n m) (cutF [] X n m) :=
  ⟨fun j => by unfold cutF; split; omega; exact h.rg j, fun j => by unfold cutF; split; exact .inl rfl; exact h.sz j, fun j => by
    unfold cutF
    split
    · exact .inl rfl
    · exact h.dj j⟩

theorem isAddr_any (z : Int) (w : World) : Calls Try.prog 26 #[.int .i64 z] w fun e w' => e = .returned (.bool (decide (1 ≤ z ∧ z ≤ 65535))) ∧ w' = w := by
  obtain ⟨r, hr⟩ : ∃ r, r = decide (1 ≤ z ∧ z ≤ 65535) := ⟨_, rfl⟩
  rw [← hr]
  have e := Lib.hid hr
  clear hr
  by_cases h1 : 1 ≤ z
  · by_cases h2 : z ≤ 65535
    · have e2 := Lib.hid (e.out.trans (decide_eq_true ⟨h1, h2⟩))
      go_enter Try.func26, Try.ntmps26
      go_wp2
      go_ret
      exact ⟨by rw [e2.out]; rfl, rfl⟩
    · have e2 := Lib.hid (e.out.trans (decide_eq_false (by omega)))
      go_enter Try.func26, Try.ntmps26
      go_wp2
      go_ret
      exact ⟨by rw [e2.out]; rfl, rfl⟩
  · have e2 := Lib.hid (e.out.trans (decide_eq_false (by omega)))
    go_enter Try.func26, Try.ntmps26
    go_wp2
    go_ret
    exact ⟨by rw [e2.out]; rfl, rfl⟩
theorem isBlock_any (z : Int) (w : World) : Calls Try.prog 38 #[.int .i64 z] w fun e w' => e = .returned (.bool (inK z)) ∧ w' = w := by
  by_cases h1 : 0 ≤ z
  · by_cases h2 : z < 828
    · have e := Lib.hid (inK_iff.2 ⟨h1, h2⟩)
      go_enter Try.func38, Try.ntmps38
      go_wp2
      go_ret
      exact ⟨by rw [e.out]; rfl, rfl⟩
    · have e := Lib.hid (show inK z = false from decide_eq_false (by omega))
      go_enter Try.func38, Try.ntmps38
      go_wp2
      go_ret
      exact ⟨by rw [e.out]; rfl, rfl⟩
  · have e := Lib.hid (show inK z = false from decide_eq_false (by omega))
    go_enter Try.func38, Try.ntmps38
    go_wp2
    go_ret
    exact ⟨by rw [e.out]; rfl, rfl⟩
end Go.Proofs.Ytgedgkdnjnbijaa
