import Derived.Test.YtinholnidchblaaGreatDoorQab
import Derived.Maps.OwnSet
import Derived.Maps.OwnOps
import Derived.Maps.Ext
import Derived.Maps.RangeWalk
import Derived.Recover
import Derived.WalkLawsBesides
import Derived.Lib.Hide
import Derived.Test.YtinholnidchblaaGreatDoorQae
import Derived.Deep.RegionHeld
import Derived.Test.YtinholnidchblaaGreatDoorQac
import Derived.Test.YtinholnidchblaaGreatDoorQaa
import Derived.Lib.SliceRun
import Derived.Laws.Rows
set_option linter.unusedVariables false
set_option linter.unusedSimpArgs false
set_option maxRecDepth 100000
set_option maxHeartbeats 16000000
namespace Go.Proofs.YtinholnidchblaaGreatDoor
open Go.RowKit Go.Maps
theorem lawN : Keyed Tryz.prog 3 := int_keyed Tryz.underlying3
theorem zeroN (w : World) : (zeroValue 3).run Tryz.prog w = .ok (.int .i64 0) w := by kernel_rfl
def kI (k : Nat) : Lit := .int .i64 (k : Int)
theorem kI_inj {a b : Nat} (h : kI a = kI b) : a = b := by
 simp only [kI, Lit.int.injEq] at h
 omega
theorem kI_wf {k : Nat} (h : k ≤ 9223372036854775807) : (Lit.int .i64 (k : Int)).wf = true := WalkArith.wf_i64 (by omega)
theorem kI_of {k : Nat} (h : k ≤ 9223372036854775807) : keyOf Tryz.prog 3 (.int .i64 (k : Int)) = some (kI k) := keyOf_int_mk Tryz.underlying3 (kI_wf h)
theorem kI_key {k : Nat} (h : k ≤ 9223372036854775807) : WideAt.IsKeyLit (kI k) := lawN.key (kI_of h)
def nI (x : Int) : DataW Unit := .lit (.int .i64 x)
theorem nI_inj {x y : Int} (h : nI x = nI y) : x = y := by simpa [nI] using h
structure PlM (D : DataW Unit) (m : List Nat) : Prop where
 tidy : Tidy D
 has : ∀ k : Nat, Maps.has D (kI k) = decide (k ∈ m)
 keys : ∀ kl, Maps.has D kl = true → ∃ k, k ∈ m ∧ kl = kI k
 at_ : ∀ k, k ∈ m → ∀ z, D.atKey (kI k) z = nI (m.idxOf k : Nat)
 size : Maps.size D = m.length
theorem PlM.none : PlM (.map []) [] := ⟨tidy_empty, fun k => rfl, fun kl (h : false = true) => (by cases h), fun k (h : k ∈ []) => (by cases h), rfl⟩
theorem PlM.snoc {D : DataW Unit} {m : List Nat} (h : PlM D m) {a : Nat} (ha : a ∉ m) (hb : a ≤ 9223372036854775807) : PlM (D.put (kI a) (nI (m.length : Nat))) (m ++ [a]) := by
 have hk := kI_key hb
 have hm := h.tidy.isMap
 refine ⟨h.tidy.put hk _, fun k => ?_, fun kl hl => ?_, fun k hkm z => ?_, ?_⟩
 ·by_cases e : k = a
  ·subst e
   rw [has_put_same hm hk]; simp
  ·rw [has_put_other (fun x => e (kI_inj x)), h.has]
   simp [e]
 ·by_cases e : kl = kI a
  ·exact ⟨a, by simp, e⟩
  ·rw [has_put_other e] at hl
   obtain ⟨k, hk, e⟩ := h.keys kl hl
   exact ⟨k, by simp [hk], e⟩
 ·by_cases e : k = a
  ·subst e
   rw [atKey_put_same hm hk, List.idxOf_append, if_neg ha]; simp [List.idxOf_cons]
  ·have hkm' : k ∈ m := by simpa [e] using hkm
   rw [atKey_put_other (fun x => e (kI_inj x)), h.at_ k hkm', List.idxOf_append, if_pos hkm']
 ·rw [size_put h.tidy, h.has, decide_eq_false ha, h.size]; simp
structure EnM (D : DataW Unit) (E : Nat → Nat) : Prop where
 isMap : IsMap D
 at_ : ∀ k : Nat, D.atKey (kI k) (nI 0) = nI (E k : Nat)
theorem EnM.none : EnM (.map []) (fun _ => 0) := ⟨isMap_empty, fun k => rfl⟩
theorem EnM.inc {D : DataW Unit} {E F : Nat → Nat} (h : EnM D E) {a : Nat} (hb : a ≤ 9223372036854775807) {c : Int} (hc : c = (E a : Int) + 1) (hF : ∀ i, F i = E i + if a = i then 1 else 0) : EnM (D.put (kI a) (nI c)) F := by
 have hk := kI_key hb
 refine ⟨h.isMap.put _ _, fun k => ?_⟩
 by_cases e : k = a
 ·subst e
  rw [atKey_put_same h.isMap hk, hF, if_pos rfl, hc]
  rfl
 ·rw [atKey_put_other (fun x => e (kI_inj x)), h.at_ k, hF, if_neg (fun x => e x.symm)]
  rfl
def PlAt (w : World) (b : Nat) (m : List Nat) : Prop := ∃ D, w.ownsMap Tryz.prog 3 (plainElem Tryz.prog 3) b m.length D ∧ PlM D m
def EnAt (w : World) (b : Nat) (E : Nat → Nat) (N : Nat) : Prop := ∃ D, w.ownsMap Tryz.prog 3 (plainElem Tryz.prog 3) b N D ∧ EnM D E
theorem ownsMap_block {P : Program} {k : TypeId} {R : Value → Option (DataW Unit × List MemPlace)} {w w' : World} {b n : Nat} {D : DataW Unit} (h : w.ownsMap P k R b n D) (hb : w'.heap[b]? = w.heap[b]?) : w'.ownsMap P k R b n D := by
 obtain ⟨es, clock, h1, h2⟩ := h
 exact ⟨es, clock, hb.trans h1, h2⟩
theorem PlAt.block {w w' : World} {b : Nat} {m : List Nat} (h : PlAt w b m) (hb : w'.heap[b]? = w.heap[b]?) : PlAt w' b m := by
 obtain ⟨D, h1, h2⟩ := h
 exact ⟨D, ownsMap_block h1 hb, h2⟩
theorem EnAt.block {w w' : World} {b N : Nat} {E : Nat → Nat} (h : EnAt w b E N) (hb : w'.heap[b]? = w.heap[b]?) : EnAt w' b E N := by
 obtain ⟨D, h1, h2⟩ := h
 exact ⟨D, ownsMap_block h1 hb, h2⟩
theorem PlAt.lt {w : World} {b : Nat} {m : List Nat} (h : PlAt w b m) : b < w.heap.size := by
 obtain ⟨D, h1, h2⟩ := h
 exact h1.lt
theorem EnAt.lt {w : World} {b N : Nat} {E : Nat → Nat} (h : EnAt w b E N) : b < w.heap.size := by
 obtain ⟨D, h1, h2⟩ := h
 exact h1.lt
theorem EnAt.mono {w : World} {b N M : Nat} {E : Nat → Nat} (h : EnAt w b E N) (hN : N ≤ M) : EnAt w b E M := by
 obtain ⟨D, h1, h2⟩ := h
 exact ⟨D, h1.mono hN, h2⟩
theorem EnAt.congr {w : World} {b N : Nat} {E F : Nat → Nat} (h : EnAt w b E N) (hF : ∀ i, F i = E i) : EnAt w b F N := by
 obtain ⟨D, h1, h2⟩ := h
 exact ⟨D, h1, h2.isMap, fun k => by rw [h2.at_, hF]⟩
theorem PlAt.len {w : World} {b : Nat} {m : List Nat} (h : PlAt w b m) (ty : TypeId) (q : Nat) : (Builtin.len_ #[79] ty #[.map (some b)]).run Tryz.prog (w.drewN q) = .ok (.int .i64 (m.length : Nat)) (w.drewN q) := by
 obtain ⟨D, h1, h2⟩ := h
 have h1' : (w.drewN q).ownsMap Tryz.prog 3 (plainElem Tryz.prog 3) b m.length D := h1
 have := h1'.len Tryz.underlying79 ty
 rw [h2.size] at this
 exact this
theorem PlAt.put {w : World} {b : Nat} {m : List Nat} (h : PlAt w b m) {a : Nat} (ha : a ∉ m) (hb : a ≤ 9223372036854775807) (hm : m.length ≤ 1000000) :
  ∃ w', (Instr.mapUpdate 79 (.map (some b)) (.int .i64 (a : Int)) (.int .i64 (m.length : Nat))).run Tryz.prog w = .ok () w' ∧ PlAt w' b (m ++ [a]) ∧ w.mapTurned w' b := by
 obtain ⟨D, h1, h2⟩ := h
 obtain ⟨w', hrun, hown, ht⟩ := h1.store lawN Tryz.underlying79 (by unfold maxLen; omega) (kI_of hb) (plainElem_int Tryz.underlying3 (kI_wf (k := m.length) (by omega)))
 refine ⟨w', hrun, ⟨_, ?_, h2.snoc ha hb⟩, ht⟩
 have e : (m ++ [a]).length = m.length + 1 := by simp
 rw [e]
 exact hown
theorem PlAt.drew {w : World} {b : Nat} {m : List Nat} (h : PlAt w b m) (q : Nat) : PlAt (w.drewN q) b m := h.block rfl
theorem EnAt.drew {w : World} {b N : Nat} {E : Nat → Nat} (h : EnAt w b E N) (q : Nat) : EnAt (w.drewN q) b E N := h.block rfl
theorem PlAt.ok {w : World} {b : Nat} {m : List Nat} (h : PlAt w b m) {a : Nat} (hb : a ≤ 9223372036854775807) :
  (Instr.lookup 79 (.map (some b)) (.int .i64 (a : Int)) true).run Tryz.prog w = .ok (.tuple #[.int .i64 (if a ∈ m then (m.idxOf a : Nat) else 0 : Int), .bool (decide (a ∈ m))]) w := by
 obtain ⟨D, h1, h2⟩ := h
 obtain ⟨v, ps, hrun, hv⟩ := h1.look_ok lawN Tryz.underlying79 (zeroN w) (plainElem_int Tryz.underlying3 (kI_wf (k := 0) (by omega))) (kI_of hb)
 obtain ⟨x, rfl, hx, _⟩ := plainElem_int_inv Tryz.underlying3 hv
 have hx' : D.atKey (kI a) (nI 0) = nI x := (Prod.mk.inj hx).1
 have he : x = (if a ∈ m then (m.idxOf a : Nat) else 0 : Int) := by
  by_cases e : a ∈ m
  ·rw [h2.at_ a e] at hx'
   rw [if_pos e]
   exact (nI_inj hx').symm
  ·rw [atKey_of_not_has (by rw [h2.has, decide_eq_false e])] at hx'
   rw [if_neg e]
   exact (nI_inj hx').symm
 rw [hrun, h2.has, he]
theorem PlAt.get {w : World} {b : Nat} {m : List Nat} (h : PlAt w b m) {a : Nat} (hb : a ≤ 9223372036854775807) (ha : a ∈ m) :
  (Instr.lookup 79 (.map (some b)) (.int .i64 (a : Int)) false).run Tryz.prog w = .ok (.int .i64 (m.idxOf a : Nat)) w := by
 obtain ⟨D, h1, h2⟩ := h
 obtain ⟨c, hrun, hat, _⟩ := h1.lookup_int lawN Tryz.underlying79 Tryz.underlying3 (zeroN w) (kI_of hb)
 rw [h2.at_ a ha] at hat
 rw [hrun, ← nI_inj hat]
theorem EnAt.get {w : World} {b N : Nat} {E : Nat → Nat} (h : EnAt w b E N) {a : Nat} (hb : a ≤ 9223372036854775807) :
  (Instr.lookup 79 (.map (some b)) (.int .i64 (a : Int)) false).run Tryz.prog w = .ok (.int .i64 (E a : Nat)) w := by
 obtain ⟨D, h1, h2⟩ := h
 obtain ⟨c, hrun, hat, _⟩ := h1.lookup_int lawN Tryz.underlying79 Tryz.underlying3 (zeroN w) (kI_of hb)
 have e := h2.at_ a
 rw [show nI 0 = DataW.lit (.int .i64 0) from rfl, hat] at e
 rw [hrun, nI_inj (x := c) e]
theorem EnAt.put {w : World} {b N : Nat} {E F : Nat → Nat} (h : EnAt w b E N) {a : Nat} (hb : a ≤ 9223372036854775807) (hN : N ≤ 1000000) {c : Int} (hc : c = (E a : Int) + 1) (hE : E a ≤ 1000000) (hF : ∀ i, F i = E i + if a = i then 1 else 0) :
  ∃ w', (Instr.mapUpdate 79 (.map (some b)) (.int .i64 (a : Int)) (.int .i64 c)).run Tryz.prog w = .ok () w' ∧ EnAt w' b F (N + 1) ∧ w.mapTurned w' b := by
 obtain ⟨D, h1, h2⟩ := h
 obtain ⟨w', hrun, hown, ht⟩ := h1.store lawN Tryz.underlying79 (by unfold maxLen; omega) (kI_of hb) (plainElem_int Tryz.underlying3 (e := 3) (a := c) (WalkArith.wf_i64 (by omega)))
 exact ⟨w', hrun, ⟨_, hown, h2.inc hb hc hF⟩, ht⟩
end Go.Proofs.YtinholnidchblaaGreatDoor
namespace Go.Proofs.YtinholnidchblaaGreatDoor
open Go.RowKit
def pe (x : Int) : PanicEntry := { v := .iface 34 (.int .i64 x), recovered := false }
theorem refuse_no (x : Int) (w : World) : Calls Tryz.prog 100 #[.bool false, .int .i64 x] w fun e w' => e = .returned (.tuple #[]) ∧ w' = w := by
 go_enter Tryz.func100, Tryz.ntmps100
 go_wp2_with fail
 go_end0
 exact ⟨rfl, rfl⟩
theorem refuse_yes (x : Int) (w : World) : Calls Tryz.prog 100 #[.bool true, .int .i64 x] w fun e w' => e = .panicked [pe x] ∧ w' = w := by
 go_enter Tryz.func100, Tryz.ntmps100
 go_wp2_with fail
 exact ⟨rfl, rfl, rfl⟩
theorem catch_panicking (p : Addr) (x y : Int) (older : List PanicEntry) (w : World) (hc : w.cell? p = some (.int .i64 y)) (hz : w.frozen? p = false) :
  CallsD Tryz.prog 62 #[.pointer (some p)] (.panicking (pe x :: older)) w fun e u' w' =>
   e = .returned (.tuple #[]) ∧ u' = .panicking ({ pe x with recovered := true } :: older) ∧ w' = w.setCell p (.int .i64 x) := by
 have hta : ∀ w : World, (Instr.typeAssert (.iface 34 (.int .i64 x)) 20 34 false).run Tryz.prog w = .ok (.int .i64 x) w := fun w => by kernel_rfl
 refine callsD_of_wpS Tryz.func62 rfl fun c₀ cs hu => ?_
 apply wpS_seq
 apply wpS_region
 simp [wpOpsS, go_sem, recoverD, hu, pe, Tryz.ntmps62, Exit.thenS]
 apply wpS_seq
 apply wpS_region
 simp [wpOpsS, go_sem, Exit.thenS]
 refine wpS_cond (t := true) (by simp [Act.eval, Array.replicate]) ?_
 simp only [if_true]
 apply wpS_region
 simp [wpOpsS, go_sem, hta, hc, hz, bodyPostS, results, Tryz.results62]
theorem catch_idle (p : Addr) (w : World) :
  CallsD Tryz.prog 62 #[.pointer (some p)] .returning w fun e u' w' => e = .returned (.tuple #[]) ∧ u' = .returning ∧ w' = w := by
 refine callsD_of_wpS Tryz.func62 rfl fun c₀ cs hu => ?_
 apply wpS_seq
 apply wpS_region
 simp [wpOpsS, go_sem, recoverD, hu, Tryz.ntmps62, Exit.thenS]
 apply wpS_seq
 apply wpS_region
 simp [wpOpsS, go_sem, Exit.thenS]
 refine wpS_cond (t := false) (by simp [Act.eval, Array.replicate]) ?_
 simp only [Bool.false_eq_true, if_false]
 refine wpS_of_wp (wp_skip ?_)
 cases c₀
 simp_all [bodyPostS, results, Tryz.results62]
theorem tried_do (p q r : Addr) (w : World) (R : Int → World → Prop)
  (h : Calls Tryz.prog 38 #[.pointer (some p), .pointer (some q), .pointer (some r)] (w.alloc (.cells #[.int .i64 0] 34 (0, 0))) fun e w' => ∃ x, ((e = .returned (.tuple #[]) ∧ x = 0) ∨ e = .panicked [pe x]) ∧
   w'.cell? ⟨w.heap.size, 0, none⟩ = some (.int .i64 0) ∧ w'.frozen? ⟨w.heap.size, 0, none⟩ = false ∧ R x w') :
  Calls Tryz.prog 37 #[.func (.func 38) #[] #[.pointer (some p), .pointer (some q), .pointer (some r)]] w fun e w' =>
   ∃ x w1, e = .returned (.int .i64 x) ∧ R x w1 ∧ w' = w1.setCell ⟨w.heap.size, 0, none⟩ (.int .i64 x) := by
 have hmf : ∀ (fn : Fn) (first cap : Array Value) (w : World), (Instr.makeFunc fn first cap).run Tryz.prog w = .ok (.func fn first cap) w := fun _ _ _ _ => rfl
 go_enter_defers Tryz.func37, Tryz.ntmps37
 go_wp2_with fail
 refine h.mono ?_
 rintro e w1 ⟨x, (⟨rfl, rfl⟩ | rfl), hc, hz, hR⟩
 ·go_wp2_with fail
  refine leaves_cons (f := 62) (args := #[.pointer (some ⟨w.heap.size, 0, none⟩)]) (by simp) (by simp [go_sem]) ?_
  refine (catch_idle ⟨w.heap.size, 0, none⟩ _).mono ?_
  rintro e u' w'' ⟨rfl, rfl, rfl⟩
  have hb := World.block_lt_of_cell? w1 _ hc
  have hcs : (w1.setCell ⟨w.heap.size, 0, none⟩ (.int .i64 0)).cell? ⟨w.heap.size, 0, none⟩ = some (.int .i64 0) := World.cell?_setCell_same _ _ _ hc
  simp [Leaves, settle, results, Tryz.results37, go_sem, hcs]
  exact ⟨_, hR, rfl⟩
 ·go_wp2_with fail
  refine leaves_cons (f := 62) (args := #[.pointer (some ⟨w.heap.size, 0, none⟩)]) (by simp) (by simp [go_sem]) ?_
  refine (catch_panicking ⟨w.heap.size, 0, none⟩ x 0 [] _ hc hz).mono ?_
  rintro e u' w'' ⟨rfl, rfl, rfl⟩
  have hcs : (w1.setCell ⟨w.heap.size, 0, none⟩ (.int .i64 x)).cell? ⟨w.heap.size, 0, none⟩ = some (.int .i64 x) := World.cell?_setCell_same _ _ _ hc
  simp [Leaves, settle, results, Tryz.results37, go_sem, hcs]
  exact ⟨_, hR, rfl⟩
theorem tried_find (p q r : Addr) (w : World) (R : Int → World → Prop)
  (h : Calls Tryz.prog 45 #[.pointer (some p), .pointer (some q), .pointer (some r)] (w.alloc (.cells #[.int .i64 0] 34 (0, 0))) fun e w' => ∃ x, ((e = .returned (.tuple #[]) ∧ x = 0) ∨ e = .panicked [pe x]) ∧
   w'.cell? ⟨w.heap.size, 0, none⟩ = some (.int .i64 0) ∧ w'.frozen? ⟨w.heap.size, 0, none⟩ = false ∧ R x w') :
  Calls Tryz.prog 37 #[.func (.func 45) #[] #[.pointer (some p), .pointer (some q), .pointer (some r)]] w fun e w' =>
   ∃ x w1, e = .returned (.int .i64 x) ∧ R x w1 ∧ w' = w1.setCell ⟨w.heap.size, 0, none⟩ (.int .i64 x) := by
 have hmf : ∀ (fn : Fn) (first cap : Array Value) (w : World), (Instr.makeFunc fn first cap).run Tryz.prog w = .ok (.func fn first cap) w := fun _ _ _ _ => rfl
 go_enter_defers Tryz.func37, Tryz.ntmps37
 go_wp2_with fail
 refine h.mono ?_
 rintro e w1 ⟨x, (⟨rfl, rfl⟩ | rfl), hc, hz, hR⟩
 ·go_wp2_with fail
  refine leaves_cons (f := 62) (args := #[.pointer (some ⟨w.heap.size, 0, none⟩)]) (by simp) (by simp [go_sem]) ?_
  refine (catch_idle ⟨w.heap.size, 0, none⟩ _).mono ?_
  rintro e u' w'' ⟨rfl, rfl, rfl⟩
  have hb := World.block_lt_of_cell? w1 _ hc
  have hcs : (w1.setCell ⟨w.heap.size, 0, none⟩ (.int .i64 0)).cell? ⟨w.heap.size, 0, none⟩ = some (.int .i64 0) := World.cell?_setCell_same _ _ _ hc
  simp [Leaves, settle, results, Tryz.results37, go_sem, hcs]
  exact ⟨_, hR, rfl⟩
 ·go_wp2_with fail
  refine leaves_cons (f := 62) (args := #[.pointer (some ⟨w.heap.size, 0, none⟩)]) (by simp) (by simp [go_sem]) ?_
  refine (catch_panicking ⟨w.heap.size, 0, none⟩ x 0 [] _ hc hz).mono ?_
  rintro e u' w'' ⟨rfl, rfl, rfl⟩
  have hcs : (w1.setCell ⟨w.heap.size, 0, none⟩ (.int .i64 x)).cell? ⟨w.heap.size, 0, none⟩ = some (.int .i64 x) := World.cell?_setCell_same _ _ _ hc
  simp [Leaves, settle, results, Tryz.results37, go_sem, hcs]
  exact ⟨_, hR, rfl⟩
theorem cntE_le {ch : Nat → List Nat} (h : ∀ x, (ch x).length ≤ 64) (l : List Nat) (i : Nat) : cntE ch l i ≤ 64 * l.length := by
 induction l with
 | nil => simp [cntE]
 | cons a l ih =>
  rw [cntE_cons, List.length_cons]
  have h1 := List.count_le_length (a := i) (l := ch a)
  have h2 := h a
  omega
theorem mtE_le {ch : Nat → List Nat} (h : ∀ x, (ch x).length ≤ 64) (d a : Nat) (m : List Nat) {E : Nat → Nat} {N : Nat} (hE : ∀ i, E i ≤ N) (k i : Nat) : mtE ch d a m E k i ≤ N + k + 64 * ((mtK ch d a m k).length - (m.length + 1)) := by
 have h1 := cntE_le h ((mtK ch d a m k).drop (m.length + 1)) i
 rw [List.length_drop] at h1
 have h2 := List.count_le_length (a := i) (l := (ch a).take k)
 rw [List.length_take] at h2
 have h3 := hE i
 unfold mtE
 omega
theorem nodup_lt {n : Nat} {m : List Nat} {a : Nat} (hm : m.Nodup) (h : ∀ x ∈ m, x < n) (ha : a < n) (hn : a ∉ m) : m.length + 1 ≤ n := by
 have h1 : (m ++ [a]).Nodup := by
  rw [List.nodup_append]
  exact ⟨hm, by simp, fun x hx y hy => by rintro rfl; simp at hy; exact hn (hy ▸ hx)⟩
 have := nodup_len h1 (n := n) (fun x hx => by
  rw [List.mem_append, List.mem_singleton] at hx
  rcases hx with hx | rfl
  ·exact h x hx
  ·exact ha)
 simpa using this
def Kp (P : Nat) (w : World) (wb pb eb : Nat) (na : Option Addr) (n c : Nat) (f : Nat → Nc) : Prop := ∀ w', Below P w w' → WkB w' wb na n c (some pb) (some eb) ∧ Nds w' na n f
theorem Kp.next {P : Nat} {w w' : World} {wb pb eb n c : Nat} {na : Option Addr} {f : Nat → Nc} (h : Kp P w wb pb eb na n c f) (hb : Below P w w') : Kp P w' wb pb eb na n c f := fun w2 h2 => h w2 (hb.trans h2)
theorem Kp.now {P : Nat} {w : World} {wb pb eb n c : Nat} {na : Option Addr} {f : Nat → Nc} (h : Kp P w wb pb eb na n c f) : WkB w wb na n c (some pb) (some eb) ∧ Nds w na n f := h w (Below.refl _ _)
def EntOk (n : Nat) (f : Nat → Nc) : Prop := n ≤ 56 ∧ ∀ i, i < n → (f i).e.length ≤ 64 ∧ ∀ y ∈ (f i).e, 0 ≤ y.i ∧ y.i < n
theorem EntOk.chs {n : Nat} {f : Nat → Nc} (h : EntOk n f) : (∀ x, (chs (ndL f n) x).length ≤ 64) ∧ ∀ x, x < n → ∀ k ∈ chs (ndL f n) x, k < n := by
 constructor
 ·intro x
  by_cases hx : x < n
  ·unfold Go.Proofs.YtinholnidchblaaGreatDoor.chs inos
   rw [nat_ndL hx, List.length_map]
   exact (h.2 x hx).1
  ·unfold Go.Proofs.YtinholnidchblaaGreatDoor.chs
   rw [nat_out (by rw [ndL_len]; omega)]
   simp [inos, default]
 ·intro x hx k hk
  unfold Go.Proofs.YtinholnidchblaaGreatDoor.chs inos at hk
  rw [nat_ndL hx] at hk
  obtain ⟨y, hy, rfl⟩ := List.mem_map.1 hk
  have := (h.2 x hx).2 y hy
  unfold inoN
  omega
theorem chs_at {n : Nat} {f : Nat → Nc} {a k : Nat} (ha : a < n) (hk : k < (f a).e.length) : (chs (ndL f n) a).length = (f a).e.length ∧ (chs (ndL f n) a).getD k 0 = inoN (eat (f a).e k) := by
 unfold chs inos
 rw [nat_ndL ha]
 have h : k < (f a).nd.e.length := hk
 refine ⟨by rw [List.length_map]; rfl, ?_⟩
 rw [List.getD_eq_getElem?_getD, List.getElem?_map, List.getElem?_eq_getElem h]
 simp [eat, List.getD, Nc.nd, hk]
theorem chs_len {n : Nat} {f : Nat → Nc} {a : Nat} (ha : a < n) : (chs (ndL f n) a).length = (f a).e.length := by
 unfold chs inos
 rw [nat_ndL ha, List.length_map]; rfl
section
variable {P wb pb eb n c : Nat} {na : Option Addr} {f : Nat → Nc}
def MePost (P pb eb n d a : Nat) (f : Nat → Nc) (m : List Nat) (E : Nat → Nat) (N : Nat) (w : World) (e : Ending) (w' : World) : Prop :=
 e = .returned (.tuple #[]) ∧ Below P w w' ∧ PlAt w' pb (ordS (chs (ndL f n)) d m a) ∧ EnAt w' eb (metE (chs (ndL f n)) d a m E) (N + 64 * ((ordS (chs (ndL f n)) d m a).length - m.length))
theorem meet_old (d a : Nat) (m : List Nat) (E : Nat → Nat) (N : Nat) (w : World) (hk : Kp P w wb pb eb na n c f) (hp : PlAt w pb m) (he : EnAt w eb E N) (ha : a < n) (hn : n ≤ 56) (ham : a ∈ m) :
  Calls Tryz.prog 86 #[.pointer (some ⟨wb, 0, none⟩), .int .i64 a] w (MePost P pb eb n d a f m E N w) := by
 have c1 := hk.now.1.c1
 have hlk := hp.ok (a := a) (by omega)
 rw [decide_eq_true ham] at hlk
 have HP : Hid (MePost P pb eb n d a f m E N w (.returned (.tuple #[])) w) := qH ⟨rfl, Below.refl _ _, by rw [ordS, if_pos ham]; exact hp, (he.congr (metE_old E ham)).mono (by omega)⟩
 clear hk hp he
 go_enter Tryz.func86, Tryz.ntmps86
 go_wp2_with fail
 first | go_end0 | refine bodyPost_ret (results_none rfl _ _ _) rfl ?_
 exact HP.out
theorem meet_any (hP : wb < P) (hne : pb ≠ eb) (hpb : P ≤ pb) (heb : P ≤ eb) (hok : EntOk n f) : ∀ (d a : Nat) (m : List Nat) (E : Nat → Nat) (N : Nat) (w : World), Kp P w wb pb eb na n c f → P ≤ w.heap.size → PlAt w pb m → EnAt w eb E N → (∀ i, E i ≤ N) → a < n → (∀ x ∈ m, x < n) → m.Nodup → n ≤ d + m.length → N + 64 * (n - m.length) ≤ 100000 →
  Calls Tryz.prog 86 #[.pointer (some ⟨wb, 0, none⟩), .int .i64 a] w (MePost P pb eb n d a f m E N w) := by
 intro d
 induction d with
 | zero =>
  intro a m E N w hk hps hp he hE ha hm hnd hd hN
  by_cases ham : a ∈ m
  ·exact meet_old 0 a m E N w hk hp he ha hok.1 ham
  ·have := nodup_lt hnd hm ha ham
   omega
 | succ d ih =>
  intro a m E N w hk hps hp he hE ha hm hnd hd hN
  by_cases ham : a ∈ m
  ·exact meet_old (d + 1) a m E N w hk hp he ha hok.1 ham
  ·have hml := nodup_lt hnd hm ha ham
   obtain ⟨hch1, hch2⟩ := hok.chs; have hn56 := hok.1; have c1 := hk.now.1.c1; have hlk := hp.ok (a := a) (by omega); rw [decide_eq_false ham] at hlk; have hpd : PlAt w.drew pb m := hp.drew 1
   have hlen : ∀ ty, (Builtin.len_ #[79] ty #[.map (some pb)]).run Tryz.prog w.drew = .ok (.int .i64 (m.length : Nat)) w.drew := fun ty => hp.len ty 1
   obtain ⟨w2, hup, hp2, ht2⟩ := hpd.put ham (by omega) (by omega); have hb2 : Below P w w2 := (below_drewN (Below.refl P w) 1).grown ht2.grown hps (fun j hj => by cases hj; exact hpb); have he2 : EnAt w2 eb E N := (he.drew 1).block (ht2.grown.block eb he.lt (fun e => hne (Option.some.inj e).symm)); have HK0 := qH hk; have HK2 := qH (hk.next hb2); have HB2 := qH hb2; have HP2 := qH hp2; have HE2 := qH he2; have HIH := qH ih; have HCH := qH (And.intro hch1 hch2); have HOK := qH hok; have HE := qH hE; have HM := qH (And.intro hm (And.intro hnd (And.intro ham (And.intro hml (And.intro hd hN))))); have HPS := qH (Nat.le_trans hps hb2.size); have HPQ := qH (And.intro hP (And.intro hne (And.intro hpb heb))); have HA := qH ha; have HPW := qH hps; clear hk hps hp he hE hm hnd hd hN hch1 hch2 hb2 he2 hp2 ih hok hml hpd ht2 hP hne hpb heb
   go_enter Tryz.func86, Tryz.ntmps86
   go_wp2_with fail; refine wp_region_held_drew (S := (fun w' => w'.cell? ⟨wb, 1, none⟩ = some (.map (some pb)))) (by kernel_rfl) ?_ (fun hHeld => ?_)
   ·exact c1
   refine rgZ 0 ?_ rfl (.inl ⟨by rfl, fun w hSw => ?_⟩) ?_ (by kernel_rfl) (fun _ _ _ h => h) (by assumption); rotate_left
   ·(try dsimp only at hSw); go_simp; try with_reducible rfl
   simp only [Act.put, rg]; refine rgZ 1 ?_ rfl (.inl ⟨by rfl, fun w hSw => ?_⟩) ?_ (by kernel_rfl) (fun _ _ _ h => h) (by assumption); rotate_left
   ·(try dsimp only at hSw); go_simp; try with_reducible rfl
   simp only [Act.put, rg]; refine rgZ 2 ?_ rfl (.inl ⟨by rfl, fun w hSw => ?_⟩) ?_ (by kernel_rfl) (fun _ _ _ h => h) (by assumption); rotate_left
   ·(try dsimp only at hSw); go_simp; try with_reducible rfl
   simp only [Act.put, rg]; refine rgZ 3 ?_ rfl (.inl ⟨by rfl, fun w hSw => ?_⟩) ?_ (by kernel_rfl) (fun _ _ _ h => h) (by assumption); rotate_left
   ·(try dsimp only at hSw); go_simp; try with_reducible rfl
   simp only [Act.put, rg]; refine rgZ 4 ?_ rfl (.inl ⟨by rfl, fun w hSw => ?_⟩) ?_ (by kernel_rfl) (fun _ _ _ h => h) (by assumption); rotate_left
   ·(try dsimp only at hSw); go_simp; try with_reducible rfl
   simp only [Act.put, rg]; refine rgZ 5 ?_ rfl (.inl ⟨by rfl, fun w hSw => ?_⟩) ?_ (by kernel_rfl) (fun _ _ _ h => h) (by assumption); rotate_left
   ·(try dsimp only at hSw); go_simp; try with_reducible rfl
   simp only [Act.put, rg]; refine rgZ 6 ?_ rfl (.inl ⟨by rfl, fun w hSw => ?_⟩) ?_ (by kernel_rfl) (fun _ _ _ h => h) (by assumption); rotate_left
   ·(try dsimp only at hSw); go_simp; try with_reducible rfl
   simp only [Act.put, rg]; refine rgZ 7 ?_ rfl (.inl ⟨by rfl, fun w hSw => ?_⟩) ?_ (by kernel_rfl) (fun _ _ _ h => h) (by assumption); rotate_left
   ·(try dsimp only at hSw); go_simp; try with_reducible rfl
   simp only [Act.put, rg]; refine rgZ 8 ?_ rfl (.inl ⟨by rfl, fun w hSw => ?_⟩) ?_ (by kernel_rfl) (fun _ _ _ h => h) (by assumption); rotate_left
   ·(try dsimp only at hSw); go_simp; try with_reducible rfl
   simp only [Act.put, rg]; refine rgC 9 rfl (by kernel_rfl) (fun K hK => ?_); simp only [rg4, rg5, rg6]; go_simp; refine hK.out _ _ c1 (fun _ => ?_); clear hK K; refine rgC 10 rfl (by kernel_rfl) (fun K hK => ?_); simp only [rg4, rg5, rg6]; go_simp; refine hK.out _ _ HK2.out.now.1.c1 (fun _ => ?_); clear hK K; refine wpAnyH_done (by kernel_rfl) ?_ _; clear hup hlen hlk c1 hHeld; have hk2 := HK2.out.now; have c0 := hk2.1.c0; obtain ⟨b, off, rfl, hbl, d0, d1, d2, d3⟩ := hk2.2.at ha
   have k0 : (0 : Int) ≤ (a : Int) := by omega
   have k1 : (a : Int) < (n : Int) := by omega
   have hens := (hk2.2.ents a ha).ens; have hel := hens.len; rw [← hel] at d3; clear hk2 hbl d0 d1 d2 hens hel; go_wp2_with fail
   go_loopw [38] (fun v wr => ∃ k : Nat, k ≤ (f a).e.length ∧ v = .int .i64 k ∧ Below P w wr ∧ PlAt wr pb (mtK (chs (ndL f n)) d a m k) ∧ EnAt wr eb (mtE (chs (ndL f n)) d a m E k) (N + k + 64 * ((mtK (chs (ndL f n)) d a m k).length - (m.length + 1)))) (fun v _ => (f a).e.length - (RowKit.intOf v).toNat)
   case atStart => exact ⟨0, Nat.zero_le _, rfl, HB2.out, by rw [mtK_zero]; exact HP2.out, (HE2.out.congr (mtE_zero _ _ _ _ _)).mono (by omega)⟩
   case round =>
    obtain ⟨k, hk, rfl, hB, hP1, hE1⟩ := hrel; have HB := qH hB; have HP1 := qH hP1; have HE1 := qH hE1
    by_cases hlt : k < (f a).e.length
    ·have j0 : (0 : Int) ≤ (k : Int) := by omega
     have j1 : (k : Int) < ((f a).e.length : Int) := by omega
     have hkr := HK0.out wr hB; have c2 := hkr.1.c2; obtain ⟨b2, off2, he2, hbl2, hd1, hd2⟩ := (hkr.2.ents a ha).ens.at (i := k) (by rw [← (hkr.2.ents a ha).ens.len]; exact hlt); rw [he2] at *; have hbnd := (HOK.out.2 a ha).2 _ (eat_mem hlt)
     obtain ⟨kd, hkd⟩ : ∃ kd : Nat, (eat (f a).e k).i = (kd : Int) := ⟨inoN (eat (f a).e k), by unfold inoN; omega⟩
     have hkin : (chs (ndL f n) a).getD k 0 = kd := by
      rw [(chs_at ha hlt).2]; unfold inoN
      omega
     have hkn : kd < n := by omega
     rw [hkd] at hd2
     obtain ⟨s, hs⟩ : ∃ s, s = (eat (f a).e k).s := ⟨_, rfl⟩
     rw [← hs] at hd1
     obtain ⟨q, hq⟩ : ∃ q, q = wr.heap.size := ⟨_, rfl⟩
     obtain ⟨w3, hw3⟩ : ∃ w3, w3 = (wr.alloc (.cells #[.string s, .int .i64 (kd : Int)] 77 (0, 0))).drew := ⟨_, rfl⟩
     have hr3 : w3.heap[q]? = some (.cells #[.string s, .int .i64 (kd : Int)] 77 (0, 0)) := by rw [hw3, hq]; exact heap_alloc_new wr _
     have hb3 : Below wr.heap.size wr w3 := by rw [hw3]; exact below_drewN ((Below.refl _ _).alloc (Nat.le_refl _) _) 1
     have hPs : P ≤ wr.heap.size := Nat.le_trans HPW.out hB.size; have hB3 : Below P w w3 := hB.trans (hb3.mono hPs); have c23 := (HK0.out w3 hB3).1.c2; have hp3 : PlAt w3 pb _ := hP1.block (hb3.block pb hP1.lt); have he3 : EnAt w3 eb _ _ := hE1.block (hb3.block eb hE1.lt); have hxle := mtE_le HCH.out.1 d a m HE.out k
     obtain ⟨x, hx⟩ : ∃ x, x = mtE (chs (ndL f n)) d a m E k kd := ⟨_, rfl⟩
     have hg3 := he3.get (a := kd) (by omega); rw [← hx] at hg3; have hmk := mtK_in HCH.out.2 d ha HM.out.1 k; have hmd := mtK_nodup (chs (ndL f n)) d HM.out.2.1 ham k; have hml2 := nodup_len hmd hmk; have hml1 := mtK_len (chs (ndL f n)) d a m k; have hmm := HM.out.2.2.2; have hel := (HOK.out.2 a ha).1
     have hx8 : x ≤ N + k + 64 * ((mtK (chs (ndL f n)) d a m k).length - (m.length + 1)) := by rw [hx]; exact hxle kd
     have hx9 : x ≤ 200000 := by clear hx hg3; omega
     have ew : IntKind.i64.wrap ((x : Int) + 1) = (x : Int) + 1 := by rw [IntKind.wrap_i64]; omega
     have ew2 : wrap64 ((x : Int) + 1) = (x : Int) + 1 := by unfold wrap64; omega
     have p1 : (x : Int) + 1 = ((mtE (chs (ndL f n)) d a m E k kd : Nat) : Int) + 1 := by rw [← hx]
     have p2 : mtE (chs (ndL f n)) d a m E k kd ≤ 1000000 := by
      rw [hx] at hx9
      exact Nat.le_trans hx9 (by decide)
     have p3 : N + k + 64 * ((mtK (chs (ndL f n)) d a m k).length - (m.length + 1)) ≤ 1000000 := by omega
     have p4 : kd ≤ 9223372036854775807 := by omega
     obtain ⟨F, hF⟩ : ∃ F : Nat → Nat, ∀ i, F i = mtE (chs (ndL f n)) d a m E k i + if kd = i then 1 else 0 := ⟨_, fun i => rfl⟩
     obtain ⟨w4, hup4, he4, ht4⟩ := he3.put p4 p3 p1 p2 hF; have hb4 : Below P w w4 := hB3.grown ht4.grown (Nat.le_trans hPs hb3.size) (fun j hj => by cases hj; exact HPQ.out.2.2.2); have hp4 : PlAt w4 pb _ := hp3.block (ht4.grown.block pb hp3.lt (fun e => HPQ.out.2.1 (Option.some.inj e)))
     have hebq : q ≠ eb := by have := hE1.lt; omega
     have hr4 : w4.heap[q]? = some (.cells #[.string s, .int .i64 (kd : Int)] 77 (0, 0)) := (ht4.grown.block q (lt_of_block hr3) (fun e => hebq (Option.some.inj e))).trans hr3
     have hc := HIH.out kd (mtK (chs (ndL f n)) d a m k) F _ w4 (HK0.out.next hb4) (Nat.le_trans HPW.out hb4.size) hp4 he4 (fun i => by
      have := hxle i; rw [hF]
      split <;> omega) hkn hmk hmd (by omega) (by omega)
     have hnext := mtK_succ (chs (ndL f n)) d a m (k := k) (by rw [chs_len ha]; exact hlt); rw [hkin] at hnext
     have hnE := fun i => mtE_succ (chs (ndL f n)) d a m E (k := k) (by rw [chs_len ha]; exact hlt) i
     have HF := qH hF; have HN := qH hnext; have HNE := qH hnE; have HKI := qH hkin; have HB4 := qH hb4; have HL4 := qH (And.intro hml1 (And.intro hml2 hel))
     have t1 : w3.cell? ⟨q, 1, none⟩ = some (.int .i64 (kd : Int)) := by simp [World.cell?, hr3]
     have t4 : w4.cell? ⟨q, 1, none⟩ = some (.int .i64 (kd : Int)) := by simp [World.cell?, hr4]
     clear hx8 hkr hbl2 hbnd hkd hs hb3 hPs hB3 hp3 he3 hxle hx hmk hmd hml2 hml1 hmm hel hx9 he4 ht4 hb4 hp4 hebq hr4 hr3 hnext hnE hkin hB hP1 hE1 p1 p2 p3 p4 hF; go_wp2_with fail; rw [← hq]; clear hq; refine wp_region_held_drew (S := (fun w' => w'.cell? ⟨wb, 2, none⟩ = some (.map (some eb)) ∧ w'.cell? ⟨q, 1, none⟩ = some (.int .i64 (kd : Int)))) (by kernel_rfl) ?_ (fun hHeld => ?_)
     ·rw [← hw3]
      exact ⟨c23, t1⟩
     rw [← hw3] at hHeld ⊢; clear hw3; refine rgZ 0 ?_ rfl (.inl ⟨by rfl, fun w hSw => ?_⟩) ?_ (by kernel_rfl) (fun _ _ _ h => h) (by assumption); rotate_left
     ·(try dsimp only at hSw); go_simp; try with_reducible rfl
     simp only [Act.put, rg]; refine rgZ 1 ?_ rfl (.inl ⟨by rfl, fun w hSw => ?_⟩) ?_ (by kernel_rfl) (fun _ _ _ h => h) (by assumption); rotate_left
     ·(try dsimp only at hSw); go_simp; try with_reducible rfl
     simp only [Act.put, rg]; refine rgZ 2 ?_ rfl (.inl ⟨by rfl, fun w hSw => ?_⟩) ?_ (by kernel_rfl) (fun _ _ _ h => h) (by assumption); rotate_left
     ·(try dsimp only at hSw); go_simp; try with_reducible rfl
     simp only [Act.put, rg]; refine rgZ 3 ?_ rfl (.inl ⟨by rfl, fun w hSw => ?_⟩) ?_ (by kernel_rfl) (fun _ _ _ h => h) (by assumption); rotate_left
     ·(try dsimp only at hSw); go_simp; try with_reducible rfl
     simp only [Act.put, rg]; refine rgZ 4 ?_ rfl (.inl ⟨by rfl, fun w hSw => ?_⟩) ?_ (by kernel_rfl) (fun _ _ _ h => h) (by assumption); rotate_left
     ·(try dsimp only at hSw); go_simp; try with_reducible rfl
     simp only [Act.put, rg]; refine rgZ 5 ?_ rfl (.inl ⟨by rfl, fun w hSw => ?_⟩) ?_ (by kernel_rfl) (fun _ _ _ h => h) (by assumption); rotate_left
     ·(try dsimp only at hSw); go_simp; try with_reducible rfl
     simp only [Act.put, rg]; refine rgC 6 rfl (by kernel_rfl) (fun K hK => ?_); simp only [rg4, rg5, rg6]; go_simp; refine hK.out _ _ ⟨c23, t1⟩ (fun _ => ?_); clear hK K; refine rgZ 7 ?_ rfl (.inl ⟨by rfl, fun w hSw => ?_⟩) ?_ (by kernel_rfl) (fun _ _ _ h => h) (by assumption); rotate_left
     ·(try dsimp only at hSw); go_simp; try with_reducible rfl
     simp only [Act.put, rg]; refine rgC 8 rfl (by kernel_rfl) (fun K hK => ?_); simp only [rg4, rg5, rg6]; go_simp; refine hK.out _ _ ⟨(HK0.out w4 HB4.out).1.c2, t4⟩ (fun _ => ?_); clear hK K; refine wpAnyH_done (by kernel_rfl) ?_ _; clear hup4 hg3 c23 c2 t1 hHeld ew ew2; go_wp2_with fail; refine hc.mono ?_; rintro e w5 ⟨rfl, hb5, hp5, he5⟩
     have HRL : Hid (∃ k' : Nat, k' ≤ (f a).e.length ∧ Value.int IntKind.i64 ((k : Int) + 1) = .int .i64 k' ∧ Below P w w5 ∧ PlAt w5 pb (mtK (chs (ndL f n)) d a m k') ∧ EnAt w5 eb (mtE (chs (ndL f n)) d a m E k') (N + k' + 64 * ((mtK (chs (ndL f n)) d a m k').length - (m.length + 1)))) := qH (by
      rw [← HN.out] at hp5 he5; refine ⟨k + 1, by omega, rfl, HB4.out.trans hb5, hp5, (he5.congr fun i => ?_).mono ?_⟩
      ·rw [HNE.out i, metE, HF.out i, HKI.out, HN.out]
      ·have h1 := mtK_len (chs (ndL f n)) d a m k
       have h2 := mtK_len (chs (ndL f n)) d a m (k + 1)
       have h3 : (mtK (chs (ndL f n)) d a m k).length ≤ (mtK (chs (ndL f n)) d a m (k + 1)).length := by
        obtain ⟨r, hr⟩ := ordS_ext (chs (ndL f n)) d (mtK (chs (ndL f n)) d a m k) kd; rw [HN.out, hr, List.length_append]
        omega
       omega)
     have hel2 : (f a).e.length ≤ 64 := HL4.out.2.2; clear hc hb5 hp5 he5; go_wp2_with fail
     go_roundw
     case rel => exact HRL.out
     case measure => simp [RowKit.intOf]; omega
    ·obtain rfl : k = (f a).e.length := by omega
     have hEND : Hid (MePost P pb eb n (d + 1) a f m E N w (.returned (.tuple #[])) wr) := qH (by
      have e := chs_len (f := f) ha
      have e1 : mtK (chs (ndL f n)) d a m (f a).e.length = ordS (chs (ndL f n)) (d + 1) m a := by rw [← e, mtK_end, ordS, if_neg ham]
      have e2 : ∀ i, metE (chs (ndL f n)) (d + 1) a m E i = mtE (chs (ndL f n)) d a m E (f a).e.length i := fun i => by rw [metE_new _ ham, e]
      have e3 := (HOK.out.2 a ha).1; have e4 := mtK_len (chs (ndL f n)) d a m (f a).e.length; rw [e1] at hP1 hE1 e4
      exact ⟨rfl, hB, hP1, (hE1.congr e2).mono (by omega)⟩)
     clear hB hP1 hE1; go_wp2_with fail
     go_end0
     exact hEND.out
def MaPost (w : World) (wb n c : Nat) (na : Option Addr) (f : Nat → Nc) (e : Ending) (w' : World) : Prop :=
 e = .returned (.tuple #[]) ∧ Turn (· = wb) w w' ∧ ∃ pb eb, WkB w' wb na n c (some pb) (some eb) ∧ Nds w' na n f ∧ PlAt w' pb (met (chs (ndL f n))) ∧ (∃ N, EnAt w' eb (cntE (chs (ndL f n)) (met (chs (ndL f n)))) N) ∧ w.heap.size ≤ pb ∧ w.heap.size ≤ eb
end
theorem wk_cell {w : World} {wb n c j : Nat} {na : Option Addr} {pm em : Option Nat} {v : Value} (h : WkB w wb na n c pm em) (hc : w.cell? ⟨wb, j, none⟩ = some v) : v = .slice na n c ∨ v = .map pm ∨ v = .map em := by
 have hb : w.heap[wb]? = some (.cells #[.slice na n c, .map pm, .map em] 81 (0, 0)) := h
 rw [cell_of_row w wb j _ _ _ hb] at hc
 have hm := Array.mem_of_getElem? hc
 simpa using hm
theorem Nds.turnW {w w' : World} {wb n c k : Nat} {na nb : Option Addr} {pm em : Option Nat} {f : Nat → Nc} (h : Nds w na n f) (hk : WkB w wb nb k c pm em) (ht : Turn (· = wb) w w') : Nds w' na n f := by
 refine ⟨?_, fun i hi => (h.data i hi).turn ht ?_, fun i hi => (h.ents i hi).turn ht ?_⟩
 ·rcases h.place with h0 | ⟨b, off, ha, hlt, hc⟩
  ·exact .inl h0
  ·by_cases hn : n = 0
   ·exact .inl hn
   have hb : b ≠ wb := by
    rintro rfl
    rcases wk_cell hk (hc 0 (by omega)).1 with e | e | e <;> cases e
   refine .inr ⟨b, off, ha, Nat.lt_of_lt_of_le hlt ht.size, fun i hi => ?_⟩; obtain ⟨c0, c1, c2, c3⟩ := hc i hi
   exact ⟨(ht.cell (a := ⟨b, off + i * 4, none⟩) hlt hb).trans c0, (ht.cell (a := ⟨b, off + i * 4 + 1, none⟩) hlt hb).trans c1, (ht.cell (a := ⟨b, off + i * 4 + 2, none⟩) hlt hb).trans c2, (ht.cell (a := ⟨b, off + i * 4 + 3, none⟩) hlt hb).trans c3⟩
 ·rintro h0 b off ha rfl
  rcases (h.data i hi).bys.place with h1 | ⟨b2, off2, e, _, hc⟩
  ·omega
  ·rw [ha] at e
   cases e
   rcases wk_cell hk (hc 0 h0) with e | e | e <;> cases e
 ·rintro h0 b off ha rfl
  rcases (h.ents i hi).ens.place with h1 | ⟨b2, off2, e, _, hc⟩
  ·omega
  ·rw [ha] at e
   cases e
   rcases wk_cell hk (hc 0 h0).1 with e | e | e <;> cases e
section
variable {w : World} {wb n c : Nat} {na : Option Addr} {f : Nat → Nc}
theorem meetAll_any (h : Wr w wb na n c f) (hok : EntOk n f) (hn : 1 ≤ n) :
  Calls Tryz.prog 50 #[.pointer (some ⟨wb, 0, none⟩)] w (MaPost w wb n c na f) := by
 have hmm := @run_makeMap Tryz.prog
 obtain ⟨⟨pm, em, hk⟩, hnd⟩ := h
 have hwl := hk.lt
 obtain ⟨wS, hwS⟩ : ∃ wS, wS = (w.setCell ⟨wb, 1, none⟩ (.map (some w.heap.size))).setCell ⟨wb, 2, none⟩ (.map (some (w.heap.size + 1))) := ⟨_, rfl⟩
 have hsS : wS.heap.size = w.heap.size := by rw [hwS]; simp [World.setCell]
 have hkS : WkB wS wb na n c (some w.heap.size) (some (w.heap.size + 1)) := by rw [hwS]; exact (hk.set1 _).set2 _
 obtain ⟨w1, hw1⟩ : ∃ w1, w1 = (wS.alloc (.map #[] 0)).alloc (.map #[] 0) := ⟨_, rfl⟩
 have hb1 : Below wS.heap.size wS w1 := by rw [hw1]; exact ((Below.refl _ _).alloc (Nat.le_refl _) _).alloc (by simp) _
 have hs1 : w1.heap.size = w.heap.size + 1 + 1 := by rw [hw1, ← hsS]; simp
 have hk1 := hkS.next hb1
 have hT1 : Turn (· = wb) w w1 := by
  refine Turn.next (w' := wS) ?_ hb1
  rw [hwS]
  exact ((Turn.refl (· = wb) w).setO (p := ⟨wb, 1, none⟩) rfl _).setO (p := ⟨wb, 2, none⟩) rfl _
 have hpl : PlAt w1 w.heap.size [] := by
  have := World.ownsMap_made (H := Unit) wS Tryz.prog 3 (plainElem Tryz.prog 3)
  rw [hsS] at this
  refine PlAt.block (w := wS.alloc (.map #[] 0)) ⟨_, this, PlM.none⟩ ?_
  rw [hw1]
  exact Below.heap_alloc _ _ _ (by simp [hsS])
 have hen : EnAt w1 (w.heap.size + 1) (fun _ => 0) 0 := by
  have := World.ownsMap_made (H := Unit) (wS.alloc (.map #[] 0)) Tryz.prog 3 (plainElem Tryz.prog 3)
  rw [hw1]
  refine ⟨_, ?_, EnM.none⟩
  have e : (wS.alloc (.map #[] 0)).heap.size = w.heap.size + 1 := by simp [hsS]
  rw [e] at this
  exact this
 have hkp : Kp w.heap.size w1 wb w.heap.size (w.heap.size + 1) na n c f := fun w2 h2 => by
  refine ⟨hk1.below hwl h2, hnd.turnW hk ⟨h2.os.trans hT1.os, h2.tape.trans hT1.tape, h2.output.trans hT1.output, Nat.le_trans hT1.size h2.size, fun j hj hm => (h2.block j hj).trans (hT1.block j hj hm)⟩⟩
 have hc := meet_any (P := w.heap.size) hwl (by omega) (Nat.le_refl _) (Nat.le_succ _) hok 60 0 [] (fun _ => 0) 0 w1 hkp (by omega) hpl hen (fun _ => Nat.le_refl _) (by omega) (fun x hx => by cases hx) List.nodup_nil (by have := hok.1; simp; omega) (by have := hok.1; simp; omega)
 have hS : Hid (∀ w2, MePost w.heap.size w.heap.size (w.heap.size + 1) n 60 0 f [] (fun _ => 0) 0 w1 (.returned (.tuple #[])) w2 → MaPost w wb n c na f (.returned (.tuple #[])) w2) := qH (fun w2 h2 => by
  obtain ⟨_, hb, hp, he⟩ := h2
  have e : ordS (chs (ndL f n)) 60 [] 0 = met (chs (ndL f n)) := by rw [ordS, if_neg (by simp)]; rfl
  rw [e] at hp he
  refine ⟨rfl, ⟨hb.os.trans hT1.os, hb.tape.trans hT1.tape, hb.output.trans hT1.output, Nat.le_trans hT1.size hb.size, fun j hj hm => (hb.block j hj).trans (hT1.block j hj hm)⟩, _, _, (hkp w2 hb).1, (hkp w2 hb).2, hp, ⟨_, he.congr fun i => (metE_root _ i).symm⟩, Nat.le_refl _, Nat.le_succ _⟩)
 have f1 := hk.free 1
 have f2 := hk.free 2
 have x1 := hk.c1
 have x2 := hk.c2
 rw [hwS] at hw1
 clear hk hnd hsS hkS hb1 hs1 hk1 hT1 hpl hen hkp hwS hok
 go_enter Tryz.func50, Tryz.ntmps50
 go_wp2_with fail
 rw [← hw1]
 refine hc.mono ?_
 rintro e w2 h2
 obtain rfl : e = .returned (.tuple #[]) := h2.1
 have HG := qH (hS.out w2 h2)
 clear hc h2
 go_wp2_with fail
 go_end0
 exact HG.out
end
theorem ehas_lt' {L : List En} {s : ByteArray} (h : ehas L s = true) : efix L s < L.length := by
 unfold ehas at h
 rw [Bool.and_eq_true, decide_eq_true_eq] at h
 exact h.1
section
variable {w : World} {wb n c : Nat} {na : Option Addr} {f : Nat → Nc}
theorem isDir_any (h : Wr w wb na n c f) {i : Nat} (hi : i < n) (hn : n ≤ 1000000) :
  Calls Tryz.prog 88 #[.pointer (some ⟨wb, 0, none⟩), .int .i64 i] w fun e w' => e = .returned (.bool (isD (f i).nd)) ∧ Below w.heap.size w w' := by
 have c0 := h.c0
 obtain ⟨b, off, rfl, hb, d0, d1, d2, d3⟩ := h.nds.at hi
 have k0 : (0 : Int) ≤ (i : Int) := by omega
 have k1 : (i : Int) < (n : Int) := by omega
 clear h hb d1 d2 d3
 go_enter Tryz.func88, Tryz.ntmps88
 go_wp2_with fail
 go_ret
 exact ⟨rfl, Below.refl _ _⟩
theorem hasEnt_any (h : Wr w wb na n c f) {i : Nat} (hi : i < n) (hn : n ≤ 1000000) :
  Calls Tryz.prog 107 #[.pointer (some ⟨wb, 0, none⟩), .int .i64 i] w fun e w' => e = .returned (.bool (decide (0 < (f i).e.length))) ∧ Below w.heap.size w w' := by
 have c0 := h.c0
 have hl := (h.nds.ents i hi).ens.len
 obtain ⟨b, off, rfl, hb, d0, d1, d2, d3⟩ := h.nds.at hi
 have k0 : (0 : Int) ≤ (i : Int) := by omega
 have k1 : (i : Int) < (n : Int) := by omega
 have HL := qH hl
 clear h hb d1 d2 d0 hl
 go_enter Tryz.func107, Tryz.ntmps107
 go_wp2_with fail
 go_ret
 exact ⟨by rw [HL.out]; congr 2, Below.refl _ _⟩
theorem isFull_any (h : Wr w wb na n c f) {i : Nat} (hi : i < n) (hn : n ≤ 1000000) :
  Calls Tryz.prog 101 #[.pointer (some ⟨wb, 0, none⟩), .int .i64 i] w fun e w' => e = .returned (.bool (decide (64 ≤ (f i).e.length))) ∧ Below w.heap.size w w' := by
 have c0 := h.c0
 have hl := (h.nds.ents i hi).ens.len
 obtain ⟨b, off, rfl, hb, d0, d1, d2, d3⟩ := h.nds.at hi
 have k0 : (0 : Int) ≤ (i : Int) := by omega
 have k1 : (i : Int) < (n : Int) := by omega
 have HL := qH hl
 clear h hb d1 d2 d0 hl
 go_enter Tryz.func101, Tryz.ntmps101
 go_wp2_with fail
 go_ret
 exact ⟨by rw [HL.out]; congr 2; simp; omega, Below.refl _ _⟩
def entV (E : List En) (s : ByteArray) : Value := if ehas E s then .tuple #[.int .i64 (eat E (efix E s)).i, .bool true] else .tuple #[.int .i64 0, .bool false]
theorem entry_any (h : Wr w wb na n c f) {i : Nat} (hi : i < n) (hn : n ≤ 1000000) (s : ByteArray) (hm : (f i).e.length ≤ 1000000) :
  Calls Tryz.prog 109 #[.pointer (some ⟨wb, 0, none⟩), .int .i64 i, .string s] w fun e w' => e = .returned (entV (f i).e s) ∧ Below w.heap.size w w' := by
 have c0 := h.c0
 have hE := (h.nds.ents i hi).ens
 have hl := hE.len
 obtain ⟨b, off, rfl, hb, d0, d1, d2, d3⟩ := h.nds.at hi
 have k0 : (0 : Int) ≤ (i : Int) := by omega
 have k1 : (i : Int) < (n : Int) := by omega
 have hf := find_any (f i).ea (f i).en (f i).ec (f i).e s w hE (by omega)
 have HE := qH hE
 have HL := qH hl
 have HM := qH hm
 clear h hb d1 d2 d0 hE hm
 unfold entV
 cases hh : ehas (f i).e s with
 | false =>
  rw [hh] at hf
  clear HE hl
  go_enter Tryz.func109, Tryz.ntmps109
  go_wp2_with fail
  refine hf.mono ?_
  rintro e w1 ⟨rfl, hb1⟩
  have HB := qH hb1
  clear hb1 hf
  go_wp2_with fail
  go_ret2
  exact ⟨rfl, HB.out⟩
 | true =>
  rw [hh] at hf
  have hlt := ehas_lt' hh
  go_enter Tryz.func109, Tryz.ntmps109
  go_wp2_with fail
  refine hf.mono ?_
  rintro e w1 ⟨rfl, hb1⟩
  have HB := qH hb1
  obtain ⟨eb, eoff, he, hbl, e1, e2⟩ := (HE.out.next hb1).at (i := efix (f i).e s) (by omega)
  rw [he] at *
  have j0 : (0 : Int) ≤ (efix (f i).e s : Int) := by omega
  have j1 : (efix (f i).e s : Int) < ((f i).en : Int) := by omega
  clear hb1 hf hbl e1 HE HL HM hl hlt
  go_wp2_with fail
  go_ret2
  exact ⟨rfl, HB.out⟩
end
structure Mtd (w : World) (wb pb eb : Nat) (na : Option Addr) (n c : Nat) (f : Nat → Nc) : Prop where
 wk : WkB w wb na n c (some pb) (some eb)
 nds : Nds w na n f
 pl : PlAt w pb (met (chs (ndL f n)))
 en : ∃ N, EnAt w eb (cntE (chs (ndL f n)) (met (chs (ndL f n)))) N
theorem Mtd.next {w w' : World} {wb pb eb n c : Nat} {na : Option Addr} {f : Nat → Nc} (h : Mtd w wb pb eb na n c f) (hb : Below w.heap.size w w') : Mtd w' wb pb eb na n c f := by
 obtain ⟨h1, h2, h3, N, h4⟩ := h
 exact ⟨h1.next hb, h2.next hb, h3.block (hb.block pb h3.lt), N, h4.block (hb.block eb h4.lt)⟩
theorem Mtd.wr {w : World} {wb pb eb n c : Nat} {na : Option Addr} {f : Nat → Nc} (h : Mtd w wb pb eb na n c f) : Wr w wb na n c f := ⟨⟨_, _, h.wk⟩, h.nds⟩
def lnkM (L : List Nd) (i : Nat) : Int := if isD (nat L i) then 2 + ((inos (nat L i)).countP fun j => isD (nat L j) : Nat) else (cntE (chs L) (met (chs L)) i : Int)
theorem inos_step {E : List En} {k : Nat} (h : k < E.length) (p : Nat → Bool) : (((E.take (k + 1)).map inoN).countP p) = ((E.take k).map inoN).countP p + if p (inoN (eat E k)) then 1 else 0 := by
 have : E.take (k + 1) = E.take k ++ [eat E k] := by
  rw [List.take_add_one, List.getElem?_eq_getElem h]
  simp [eat, List.getD, h]
 rw [this, List.map_append, List.countP_append]
 simp [List.countP_cons]
section
variable {w : World} {wb pb eb n c : Nat} {na : Option Addr} {f : Nat → Nc}
theorem links_any (h : Mtd w wb pb eb na n c f) (hok : EntOk n f) {a : Nat} (ha : a < n) :
  Calls Tryz.prog 87 #[.pointer (some ⟨wb, 0, none⟩), .int .i64 a] w fun e w' => e = .returned (.int .i64 (lnkM (ndL f n) a)) ∧ Below w.heap.size w w' := by
 have hn := hok.1
 have hi := isDir_any h.wr ha (by omega)
 have H := qH h
 have HOK := qH hok
 unfold lnkM
 rw [nat_ndL ha]
 clear h hok
 cases hd : isD (f a).nd with
 | false =>
  rw [hd] at hi
  simp only [Bool.false_eq_true, if_false]
  go_enter Tryz.func87, Tryz.ntmps87
  go_wp2_with fail
  refine hi.mono ?_
  rintro e w1 ⟨rfl, hb1⟩
  have H1 := qH (H.out.next hb1)
  have c2 := H1.out.wk.c2
  obtain ⟨N, hE⟩ := H1.out.en
  have hg := hE.get (a := a) (by omega)
  have HB1 := qH hb1
  clear hi hb1 hE
  go_wp2_with fail
  go_ret
  exact ⟨rfl, HB1.out⟩
 | true =>
  rw [hd] at hi
  simp only [if_true]
  obtain ⟨G, hG⟩ : ∃ G : Nat → Nat, ∀ k, G k = (((f a).e.take k).map inoN).countP fun j => isD (nat (ndL f n) j) := ⟨_, fun k => rfl⟩
  have hG0 : G 0 = 0 := by rw [hG]; simp
  have hGe : G (f a).e.length = (inos (f a).nd).countP fun j => isD (nat (ndL f n) j) := by rw [hG, List.take_length]; rfl
  rw [← hGe]
  have hel := (HOK.out.2 a ha).1
  have hgs : ∀ k, k < (f a).e.length → G (k + 1) = G k + if isD (f (inoN (eat (f a).e k))).nd then 1 else 0 := fun k hk => by
   have hb := (HOK.out.2 a ha).2 _ (eat_mem hk); rw [hG, hG, inos_step hk, nat_ndL (by unfold inoN; omega)]
  have hgl : ∀ k, G k ≤ k := fun k => by
   rw [hG]; refine Nat.le_trans List.countP_le_length ?_; rw [List.length_map, List.length_take]
   omega
  have HGS := qH hgs
  have HGL := qH hgl
  have HG0 := qH hG0
  clear hG hG0 hGe hgs hgl
  go_enter Tryz.func87, Tryz.ntmps87
  go_wp2_with fail
  refine hi.mono ?_
  rintro e w1 ⟨rfl, hb1⟩
  have H1 := qH (H.out.next hb1)
  have HB1 := qH hb1
  have c0 := H1.out.wk.c0
  have hens := (H1.out.nds.ents a ha).ens
  obtain ⟨b, off, rfl, hbl, d0, d1, d2, d3⟩ := H1.out.nds.at ha
  rw [← hens.len] at d3
  have k0 : (0 : Int) ≤ (a : Int) := by omega
  have k1 : (a : Int) < (n : Int) := by omega
  clear hi hb1 d0 d1 d2 hbl hens
  go_wp2_with fail
  go_loopw [5, 28] (fun v5 v wr => ∃ k : Nat, k ≤ (f a).e.length ∧ v = .int .i64 k ∧ v5 = .int .i64 (2 + (G k : Int)) ∧ Below w1.heap.size w1 wr) (fun _ v _ => (f a).e.length - (RowKit.intOf v).toNat)
  case atStart => exact ⟨0, Nat.zero_le _, rfl, by rw [HG0.out]; rfl, Below.refl _ _⟩
  case round =>
   obtain ⟨k, hk, rfl, rfl, hB⟩ := hrel; have HB := qH hB
   by_cases hlt : k < (f a).e.length
   ·have j0 : (0 : Int) ≤ (k : Int) := by omega
    have j1 : (k : Int) < ((f a).e.length : Int) := by omega
    have hm := H1.out.next hB; obtain ⟨b2, off2, he2, hbl2, hd1, hd2⟩ := (hm.nds.ents a ha).ens.at (i := k) (by rw [← (hm.nds.ents a ha).ens.len]; exact hlt); rw [he2] at *; have hbnd := (HOK.out.2 a ha).2 _ (eat_mem hlt)
    obtain ⟨kd, hkd⟩ : ∃ kd : Nat, (eat (f a).e k).i = (kd : Int) := ⟨inoN (eat (f a).e k), by unfold inoN; omega⟩
    have hki : inoN (eat (f a).e k) = kd := by unfold inoN; omega
    rw [hkd] at hd2
    obtain ⟨s, hs⟩ : ∃ s, s = (eat (f a).e k).s := ⟨_, rfl⟩
    rw [← hs] at hd1; have hb3 : Below wr.heap.size wr (wr.alloc (.cells #[.string s, .int .i64 (kd : Int)] 77 (0, 0))) := (Below.refl _ _).alloc (Nat.le_refl _) _; have hi2 := isDir_any (hm.next hb3).wr (i := kd) (by omega) (by omega); have hgk := HGS.out k hlt; rw [hki] at hgk; have hgl := HGL.out k; have HGK := qH hgk; have HB3 := qH (hB.trans (hb3.mono hB.size)); clear hm hbl2 hbnd hkd hki hs hb3 hgk hB
    cases hdk : isD (f kd).nd with
    | false =>
     rw [hdk] at hi2; have HGN : Hid (G (k + 1) = G k) := qH (by rw [HGK.out, hdk]; rfl); go_wp2_with fail; refine hi2.mono ?_; rintro e w4 ⟨rfl, hb4⟩; have HB4 := qH (HB3.out.trans (hb4.mono HB3.out.size)); clear hi2 hb4; go_wp2_with fail
     go_roundw
     case rel => exact ⟨k + 1, by omega, by go_num, by rw [HGN.out], HB4.out⟩
     case measure => simp [RowKit.intOf]; omega
    | true =>
     rw [hdk] at hi2; have HGN : Hid ((2 : Int) + (G (k + 1) : Int) = 2 + (G k : Int) + 1) := qH (by rw [HGK.out, hdk]; simp; omega); go_wp2_with fail; refine hi2.mono ?_; rintro e w4 ⟨rfl, hb4⟩; have HB4 := qH (HB3.out.trans (hb4.mono HB3.out.size)); clear hi2 hb4; go_wp2_with fail
     go_roundw
     case rel => exact ⟨k + 1, by omega, by go_num, by rw [HGN.out], HB4.out⟩
     case measure => simp [RowKit.intOf]; omega
   ·obtain rfl : k = (f a).e.length := by omega
    clear hB; go_wp2_with fail; go_ret
    exact ⟨rfl, HB1.out.trans (HB.out.mono HB1.out.size)⟩
end
def padL (x : List Int) (n : Nat) : List Int := x ++ List.replicate (n - x.length) 0
theorem padL_len {x : List Int} {n : Nat} (h : x.length ≤ n) : (padL x n).length = n := by simp [padL]; omega
theorem pad_yes (a : Option Addr) (la ca n : Nat) (x : List Int) (w : World) (hx : Bys w a la x) (h : la ≤ n) (hn : n ≤ 65536) :
  Calls Tryz.prog 133 #[.slice a la ca, .int .i64 n] w fun e w' => e = .returned (.tuple #[.slice (some ⟨w.heap.size, 0, none⟩) n n, .bool true]) ∧ Blk w' w.heap.size (padL x n) ∧ Below w.heap.size w w' := by
 have HX : Hid (x.length = la) := hx.len
 go_enter Tryz.func133, Tryz.ntmps133
 go_wp2_with (first
  | (at_make; go_must (refine wpList_mk rfl _ _ rfl _ _ _ _ n rfl rfl rfl rfl (by omega) ?_); intro w1 hb1 hl1)
  | (with_reducible refine wpList_cp rfl (.tmp 17) (.tmp 18) rfl w.heap.size n n la ca a rfl rfl _ x hb1 (hx.below (Nat.le_refl _) hl1) (by simp) h w.heap.size w hl1 (Nat.le_refl _) ?_; intro w2 hb2 hl2))
 go_ret2
 refine ⟨rfl, ?_, hl2⟩
 rwa [List.drop_replicate, ← HX.out] at hb2
theorem bclone_any (a : Option Addr) (n c : Nat) (x : List Int) (w : World) (hx : Pin w a n c x) (hn : n ≤ 1000000000000) :
  Calls Tryz.prog 111 #[.slice a n c] w (ConPost w x) := by
 have hq : ∀ (w : World) (a : Option Addr) (n c : Nat), (binOp .eql 29 (.slice a n c) (.slice none 0 0)).run Tryz.prog w = .ok (.bool a.isNone) w := fun w a n c => Lib.run_eql_slice_nil w _ _ a n c 0 0 Tryz.underlying29
 cases a with
 | none =>
  obtain ⟨rfl, rfl⟩ := hx.nil rfl
  obtain rfl : x = [] := List.eq_nil_of_length_eq_zero hx.len
  clear hx
  go_enter Tryz.func111, Tryz.ntmps111
  go_wp2
  go_ret
  exact ⟨_, rfl, ⟨World.ownsRow_nil _ _ _ _, fun z hz => by cases hz⟩, Below.refl _ _⟩
 | some p =>
  go_enter Tryz.func111, Tryz.ntmps111
  go_wp2_with (at_builtin; go_must (refine wpList_ap rfl (.tmp 5) (.tmp 6) rfl w.heap.size _ 0 [] rfl (own_none w w.heap.size (Nat.le_refl _)) (some p) n c x rfl (hx.bys.below (Nat.le_refl _) ((Below.refl _ _).alloc (Nat.le_refl _) _)) (fun h => by cases h) (by omega) (by simp) w ((Below.refl _ _).alloc (Nat.le_refl _) _) ?_); intro v w1 hown1 hb1)
  go_ret
  exact ⟨_, rfl, by rw [hx.len]; simpa using hown1, hb1⟩
theorem padded_any (a : Option Addr) (la ca n : Nat) (x : List Int) (w : World) (hx : Bys w a la x) (h : la ≤ n) (hn : n ≤ 65536) :
  Calls Tryz.prog 112 #[.slice a la ca, .int .i64 n] w fun e w' => e = .returned (.slice (some ⟨w.heap.size, 0, none⟩) n n) ∧ Blk w' w.heap.size (padL x n) ∧ Below w.heap.size w w' := by
 have hp := pad_yes a la ca n x w hx h hn
 clear hx
 go_enter Tryz.func112, Tryz.ntmps112
 go_wp2_with fail
 refine hp.mono ?_
 rintro e w1 ⟨rfl, h1, h2⟩
 have H1 := qH h1
 have H2 := qH h2
 clear hp h1 h2
 go_wp2_with fail
 go_ret
 exact ⟨rfl, H1.out, H2.out⟩
theorem res_cell {P : Program} {fn : Func} {t : Tmp} {T : TypeId} (h : fn.results = #[.cell t T]) (tmps : Array Value) (w : World) (p : Addr) (v : Value) (hp : tmps.getD t undef = .pointer (some p)) (hv : (loadVar T p).run P w = .ok v w) : (results fn tmps).run P w = .ok v w := by
 have ha : asAddr (tmps.getD t undef) = (pure p : Sem Addr) := by rw [hp]; rfl
 unfold results
 rw [h]
 simp only [List.mapM_toArray, List.mapM_cons, List.mapM_nil, ha, Sem.run_bind, Sem.run_pure, Result.andThen_ok, hv, map_eq_pure_bind]
 rfl
theorem res_cell2 {P : Program} {fn : Func} {t u : Tmp} {T U : TypeId} (h : fn.results = #[.cell t T, .cell u U]) (tmps : Array Value) (w : World) (p q : Addr) (v x : Value) (hp : tmps.getD t undef = .pointer (some p)) (hq : tmps.getD u undef = .pointer (some q)) (hv : (loadVar T p).run P w = .ok v w)
  (hx : (loadVar U q).run P w = .ok x w) : (results fn tmps).run P w = .ok (.tuple #[v, x]) w := by
 have ha : asAddr (tmps.getD t undef) = (pure p : Sem Addr) := by rw [hp]; rfl
 have hb : asAddr (tmps.getD u undef) = (pure q : Sem Addr) := by rw [hq]; rfl
 unfold results
 rw [h]
 simp only [List.mapM_toArray, List.mapM_cons, List.mapM_nil, ha, hb, Sem.run_bind, Sem.run_pure, Result.andThen_ok, hv, hx, map_eq_pure_bind]
 rfl
def RsB (w : World) (b : Nat) (vs : Array Value) : Prop := w.heap[b]? = some (.cells vs 37 (0, 0))
theorem RsB.load {w : World} {b : Nat} {v0 v1 v2 v3 v4 v5 : Value} (h : RsB w b #[v0, v1, v2, v3, v4, v5]) : (loadVar 37 ⟨b, 0, none⟩).run Tryz.prog w = .ok (.agg #[v0, v1, v2, v3, v4, v5]) w :=
 run_loadVar_row w b _ _ _ _ _ h Tryz.underlying37 rfl (by kernel_rfl)
theorem RsB.set {w : World} {b : Nat} {a0 a1 a2 a3 a4 a5 : Value} (h : RsB w b #[a0, a1, a2, a3, a4, a5]) (v0 v1 v2 v3 v4 v5 : Value) :
  RsB ((((((w.setCell ⟨b, 0, none⟩ v0).setCell ⟨b, 1, none⟩ v1).setCell ⟨b, 2, none⟩ v2).setCell ⟨b, 3, none⟩ v3).setCell ⟨b, 4, none⟩ v4).setCell ⟨b, 5, none⟩ v5) b #[v0, v1, v2, v3, v4, v5] :=
 cells_set (cells_set (cells_set (cells_set (cells_set (cells_set h)))))
theorem RsB.cells {w : World} {b : Nat} {v0 v1 v2 v3 v4 v5 : Value} (h : RsB w b #[v0, v1, v2, v3, v4, v5]) :
  w.cell? ⟨b, 0, none⟩ = some v0 ∧ w.cell? ⟨b, 1, none⟩ = some v1 ∧ w.cell? ⟨b, 2, none⟩ = some v2 ∧ w.cell? ⟨b, 3, none⟩ = some v3 ∧ w.cell? ⟨b, 4, none⟩ = some v4 ∧ w.cell? ⟨b, 5, none⟩ = some v5 := by
 unfold RsB at h
 refine ⟨?_, ?_, ?_, ?_, ?_, ?_⟩ <;> simp [World.cell?, h]
theorem RsB.free {w : World} {b : Nat} {vs : Array Value} (h : RsB w b vs) (i : Nat) : w.frozen? ⟨b, i, none⟩ = false := frozen_of_row w b i _ _ h
theorem RsB.lt {w : World} {b : Nat} {vs : Array Value} (h : RsB w b vs) : b < w.heap.size := lt_of_block h
theorem Below.set6 {w0 w : World} {B b : Nat} (h : Below B w0 w) (hB : B ≤ b) (v0 v1 v2 v3 v4 v5 : Value) :
  Below B w0 ((((((w.setCell ⟨b, 0, none⟩ v0).setCell ⟨b, 1, none⟩ v1).setCell ⟨b, 2, none⟩ v2).setCell ⟨b, 3, none⟩ v3).setCell ⟨b, 4, none⟩ v4).setCell ⟨b, 5, none⟩ v5) :=
 (((((h.setCell (p := ⟨b, 0, none⟩) hB _).setCell (p := ⟨b, 1, none⟩) hB _).setCell (p := ⟨b, 2, none⟩) hB _).setCell (p := ⟨b, 3, none⟩) hB _).setCell (p := ⟨b, 4, none⟩) hB _).setCell (p := ⟨b, 5, none⟩) hB _
end Go.Proofs.YtinholnidchblaaGreatDoor
