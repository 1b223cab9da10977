/-
  A map by the numbers of blocks: what it holds, whatever its elements; looked up, written, struck; its keys in rising order.
-/
import Derived.Test.YtgedgkdnjnbijaaPi
import Derived.Maps.OwnSet
import Derived.Maps.Ext
import Derived.Maps.RangeWalk
import Derived.Lib.SlKeysI
import Derived.Lib.SlMapFilter
import Derived.Lib.SliceRun
namespace Go.Proofs.Ytgedgkdnjnbijaa
open Go.RowKit Go.Maps Go.ChangeMaps Go.MapKept Go.Sort
set_option linter.unusedVariables false
set_option linter.unusedSimpArgs false

theorem selL_pair (p : Nat → Bool) (n : Nat) : (selL p n).Pairwise (· < ·) := by
  induction n with
  | zero => exact List.Pairwise.nil
  | succ n ih =>
    rw [selL]
    refine List.pairwise_append.2 ⟨ih, by split <;> simp, fun a ha b hb => ?_⟩
    obtain ⟨k, hk, _, rfl⟩ := selL_mem.1 ha
    split at hb
    · simp at hb; subst hb; omega
    · simp at hb
theorem selL_nodup (p : Nat → Bool) (n : Nat) : (selL p n).Nodup := (selL_pair p n).imp fun h => by omega
theorem selL_le (p : Nat → Bool) (n : Nat) : (selL p n).Pairwise fun x y => decide (x ≤ y) = true := (selL_pair p n).imp fun h => by simp; omega

abbrev El := Value → Option (DataW Unit × List MemPlace)
abbrev keyI (s : Nat) : Lit := .int .i64 (s : Int)
theorem keyI_inj {s t : Nat} (h : keyI s = keyI t) : s = t := by simp [keyI] at h; omega
theorem law3 : Keyed Try.prog 3 := int_keyed Try.underlying3
theorem hkeyI {s : Nat} (h : s < 828) : keyOf Try.prog 3 (.int .i64 (s : Int)) = some (keyI s) := keyOf_int_mk Try.underlying3 (WalkArith.wf_i64 (by omega))
theorem isKeyI {s : Nat} (h : s < 828) : WideAt.IsKeyLit (keyI s) := law3.key (hkeyI h)

/-- Block b is a map that has at s what f tells of s (nothing: none), for s below 828, and nothing else. -/
structure NmD (w : World) (R : El) (b n : Nat) (f : Nat → Option (DataW Unit)) (D : DataW Unit) : Prop where
  own : w.ownsMap Try.prog 3 R b n D
  val : ∀ s d, f s = some d → ∀ z, D.atKey (keyI s) z = d
  has : ∀ s, Maps.has D (keyI s) = (f s).isSome
  keys : ∀ kl, Maps.has D kl = true → ∃ s : Nat, s < 828 ∧ kl = keyI s
def Nm (w : World) (R : El) (b : Nat) (f : Nat → Option (DataW Unit)) : Prop := ∃ D, NmD w R b 828 f D
theorem NmD.far {w : World} {R : El} {b n : Nat} {f : Nat → Option (DataW Unit)} {D : DataW Unit} (h : NmD w R b n f D) {s : Nat} (hs : 828 ≤ s) : f s = none := by
  have := h.has s
  cases hf : f s with
  | none => rfl
  | some d =>
    rw [hf] at this
    obtain ⟨t, ht, e⟩ := h.keys _ this
    have := keyI_inj e
    omega
def pres (f : Nat → Option (DataW Unit)) (k : Nat) : Bool := (f k).isSome
theorem NmD.perm {w : World} {R : El} {b n : Nat} {f : Nat → Option (DataW Unit)} {D : DataW Unit} (h : NmD w R b n f D) {N : Nat} (hN : N = 828) : (selL (pres f) N).Perm (intKeys D) := by
  obtain ⟨es, hD, hpw, _⟩ := h.own.entries law3
  obtain ⟨es', hD', hko⟩ := h.own.keysOf
  obtain rfl : es = es' := by rw [hD] at hD'; simpa using hD'
  subst hD
  refine perm_intKeys hpw (fun p hp => by obtain ⟨v, hv⟩ := hko p hp; obtain ⟨x, _, hx, _⟩ := Maps.keyOf_i64 Try.underlying3 hv; exact ⟨x, hx⟩) (selL_nodup _ _) fun x => ?_
  constructor
  · intro hx
    obtain ⟨s, hs, h1, rfl⟩ := selL_mem.1 hx
    exact (h.has s).trans h1
  · intro hx
    obtain ⟨s, hs, e⟩ := h.keys _ hx
    obtain rfl : x = (s : Int) := by simpa [keyI] using e
    exact selL_mem.2 ⟨s, by omega, (h.has s).symm.trans hx, rfl⟩
theorem NmD.sorted {w : World} {R : El} {b n : Nat} {f : Nat → Option (DataW Unit)} {D : DataW Unit} (h : NmD w R b n f D) {N : Nat} (hN : N = 828) {ss : List Int} (hs : ss.Perm (intKeys D)) : (ss.mergeSort fun x y => decide (x ≤ y)) = selL (pres f) N := by
  have e := mergeSort_of_perm_i (hs.trans (h.perm hN).symm)
  exact e.trans (List.mergeSort_of_pairwise (selL_le _ _))
theorem NmD.size {w : World} {R : El} {b n : Nat} {f : Nat → Option (DataW Unit)} {D : DataW Unit} (h : NmD w R b n f D) : Maps.size D ≤ 828 := by
  have e : Maps.size D = (intKeys D).length := by
    obtain ⟨es, rfl⟩ := h.own.isMap
    simp [Maps.size, intKeys]
  obtain ⟨N, hN⟩ : ∃ N, N = 828 := ⟨_, rfl⟩
  rw [e, ← (h.perm hN).length_eq, ← hN]
  exact selL_len _ _
theorem NmD.tight {w : World} {R : El} {b n : Nat} {f : Nat → Option (DataW Unit)} {D : DataW Unit} (h : NmD w R b n f D) : Nm w R b f := by
  have hs := h.size
  have h' := h
  obtain ⟨es, clock, hb, F, _, hD⟩ := h.own
  refine ⟨D, ⟨es, clock, hb, F, ?_, hD⟩, h'.val, h'.has, h'.keys⟩
  rw [hD] at hs
  simpa [Maps.size, length_sorted] using hs
theorem Nm.lt {w : World} {R : El} {b : Nat} {f : Nat → Option (DataW Unit)} (h : Nm w R b f) : b < w.heap.size := by obtain ⟨D, h⟩ := h; exact h.own.lt
theorem Nm.far {w : World} {R : El} {b : Nat} {f : Nat → Option (DataW Unit)} (h : Nm w R b f) {s : Nat} (hs : 828 ≤ s) : f s = none := by obtain ⟨D, h⟩ := h; exact h.far hs
theorem ownsMap_of_row {R : El} {w w' : World} {b n : Nat} {D : DataW Unit} (h : w.ownsMap Try.prog 3 R b n D) (e : w'.heap[b]? = w.heap[b]?) : w'.ownsMap Try.prog 3 R b n D := by
  obtain ⟨es, clock, hb, r⟩ := h
  exact ⟨es, clock, e.trans hb, r⟩
theorem Nm.row {w w' : World} {R : El} {b : Nat} {f : Nat → Option (DataW Unit)} (h : Nm w R b f) (e : w'.heap[b]? = w.heap[b]?) : Nm w' R b f := by
  obtain ⟨D, h⟩ := h
  exact ⟨D, ownsMap_of_row h.own e, h.val, h.has, h.keys⟩
theorem Nm.turn {w w' : World} {R : El} {b : Nat} {f : Nat → Option (DataW Unit)} {M : Nat → Prop} (h : Nm w R b f) (ht : Turn M w w') (hm : ¬ M b) : Nm w' R b f := h.row (ht.block b h.lt hm)
theorem Nm.next {w w' : World} {R : El} {b : Nat} {f : Nat → Option (DataW Unit)} (h : Nm w R b f) (hb : Below w.heap.size w w') : Nm w' R b f := h.row (hb.block b h.lt)
theorem Nm.grown {w w' : World} {R : El} {b : Nat} {f : Nat → Option (DataW Unit)} {row : Option Nat} (h : Nm w R b f) (hg : w.grownBy w' row) (hne : some b ≠ row) : Nm w' R b f := h.row (hg.block b h.lt hne)
theorem turn_map {w w' : World} {b : Nat} (h : w.mapTurned w' b) : Turn (· = b) w w' := Turn.of_grown h.grown rfl

/-- A new map has nothing. -/
theorem Nm.made (w : World) (R : El) : Nm (w.alloc (.map #[] 0)) R w.heap.size (fun _ => none) :=
  ⟨_, (World.ownsMap_made w _ _ R).mono (Nat.zero_le _), (fun _ _ h => by cases h), (fun _ => rfl), (fun _ h => by cases h)⟩

section
variable {w : World} {R : El} {b : Nat} {f : Nat → Option (DataW Unit)} {T E : TypeId}
/-- The look-up at a number at which there is something, and at one at which there is nothing (whatever number). -/
theorem Nm.yes (h : Nm w R b f) (hT : Try.prog.underlying T = some (.map 3 E)) {z : Value} (hz : (zeroValue E).run Try.prog w = .ok z w) {zd : DataW Unit} {zp : List MemPlace} (hzd : R z = some (zd, zp)) {k : Nat} {d : DataW Unit} (hf : f k = some d) :
    ∃ v ps, R v = some (d, ps) ∧ (Instr.lookup T (.map (some b)) (.int .i64 (k : Int)) true).run Try.prog w = .ok (.tuple #[v, .bool true]) w := by
  obtain ⟨D, h⟩ := h
  have hk : k < 828 := by
    rcases Nat.lt_or_ge k 828 with h1 | h1
    · exact h1
    · rw [h.far h1] at hf; cases hf
  obtain ⟨v, ps, hrun, hv⟩ := h.own.look_ok law3 hT hz hzd (hkeyI hk)
  rw [h.val k d hf] at hv
  rw [h.has k, hf] at hrun
  exact ⟨v, ps, hv, hrun⟩
theorem Nm.yes2 (h : Nm w R b f) (hT : Try.prog.underlying T = some (.map 3 E)) {z : Value} (hz : (zeroValue E).run Try.prog w = .ok z w) {zd : DataW Unit} {zp : List MemPlace} (hzd : R z = some (zd, zp)) {k : Nat} {d : DataW Unit} (hf : f k = some d) :
    ∃ v ps, R v = some (d, ps) ∧ (Instr.lookup T (.map (some b)) (.int .i64 (k : Int)) false).run Try.prog w = .ok v w := by
  obtain ⟨D, h⟩ := h
  have hk : k < 828 := by
    rcases Nat.lt_or_ge k 828 with h1 | h1
    · exact h1
    · rw [h.far h1] at hf; cases hf
  obtain ⟨v, ps, hrun, hv⟩ := h.own.lookup law3 hT hz hzd (hkeyI hk)
  rw [h.val k d hf] at hv
  exact ⟨v, ps, hv, hrun⟩
theorem Nm.no (h : Nm w R b f) (hT : Try.prog.underlying T = some (.map 3 E)) {z : Value} (hz : (zeroValue E).run Try.prog w = .ok z w) {k : Int} (hf : ∀ s : Nat, k = s → f s = none) (c : Bool) :
    (Instr.lookup T (.map (some b)) (.int .i64 k) c).run Try.prog w = .ok (if c then .tuple #[z, .bool false] else z) w := by
  obtain ⟨D, h⟩ := h
  have hh := h.has
  have hkeys := h.keys
  obtain ⟨es, clock, hb, F, _, rfl⟩ := h.own
  have hall : ∀ x ∈ es.toList, IsKey (.int .i64) x.key ∧ x.key ≠ .int .i64 k := by
    intro x hx
    obtain ⟨y, hy⟩ := F.reads x hx
    obtain ⟨x', e1, e2, _⟩ := Maps.keyOf_i64 Try.underlying3 (WideElems.rd_key hy)
    refine ⟨by rw [e1]; exact rfl, fun e => ?_⟩
    rw [e1] at e
    obtain rfl : x' = k := by simpa using e
    have hin : Maps.has (DataW.map ((es.toList.map (WideElems.rg Try.prog 3 R)).foldr DataW.insert [])) y.1 = true :=
      List.any_eq_true.2 ⟨WideElems.rg Try.prog 3 R x, mem_sorted.2 (List.mem_map.2 ⟨x, hx, rfl⟩), by rw [WideElems.rg_of hy]; exact WideAt.sameKey_self (law3.key (WideElems.rd_key hy))⟩
    obtain ⟨s, _, e3⟩ := hkeys _ hin
    rw [e2] at e3
    have e4 : x' = (s : Int) := by simpa [keyI] using e3
    have := hh s
    rw [hf s e4] at this
    rw [e3] at e2
    rw [e2] at hin
    rw [this] at hin
    cases hin
  have hfind : (Instr.findKey 3 (.int .i64 k) es.toList).run Try.prog w = .ok none w := by
    rcases findNow_spec (d := .int .i64) (k := .int .i64 k) rfl es.toList 0 (fun x hx => (hall x hx).1) with ⟨h1, _⟩ | ⟨j, e0, _, h2, h3⟩
    · exact run_findKey Try.underlying3 h1
    · exact absurd h3 (hall e0 (List.mem_of_getElem? h2)).2
  have hchk : (Instr.checkKey es.isEmpty 10000 3 (.int .i64 k)).run Try.prog w = .ok () w := run_checkKey (d := .int .i64) (k := .int .i64 k) Try.underlying3 (show IsKey (.int .i64) (.int .i64 k) from rfl) _ 9999
  cases c <;> simp [Instr.lookup, run_underlying hT, MapKept.run_getObj_map hb, hchk, hfind, hz, Result.andThen]

theorem NmD.put {w' : World} {n n' k : Nat} {D : DataW Unit} (h : NmD w R b n f D) (hk : k < 828) {d : DataW Unit} (ho : w'.ownsMap Try.prog 3 R b n' (D.put (keyI k) d)) : NmD w' R b n' (upd f k (some d)) (D.put (keyI k) d) := by
  have hm := h.own.isMap
  refine ⟨ho, fun t y hy z => ?_, fun t => ?_, fun kl hkl => ?_⟩
  · by_cases e : t = k
    · subst e
      rw [upd_at] at hy
      cases hy
      exact atKey_put_same hm (isKeyI hk) _ _
    · rw [upd_off _ _ e] at hy
      rw [atKey_put_other (fun x => e (keyI_inj x)), h.val t y hy]
  · by_cases e : t = k
    · subst e
      rw [upd_at, has_put_same hm (isKeyI hk)]
      rfl
    · rw [upd_off _ _ e, has_put_other (fun x => e (keyI_inj x)), h.has t]
  · by_cases e : kl = keyI k
    · exact ⟨k, hk, e⟩
    · rw [has_put_other e] at hkl
      exact h.keys kl hkl
theorem NmD.del {w' : World} {n n' k : Nat} {D : DataW Unit} (h : NmD w R b n f D) (ho : w'.ownsMap Try.prog 3 R b n' (D.del (keyI k))) : NmD w' R b n' (upd f k none) (D.del (keyI k)) := by
  refine ⟨ho, fun t y hy z => ?_, fun t => ?_, fun kl hkl => ?_⟩
  · by_cases e : t = k
    · subst e
      rw [upd_at] at hy
      cases hy
    · rw [upd_off _ _ e] at hy
      rw [atKey_del_other (fun x => e (keyI_inj x)), h.val t y hy]
  · by_cases e : t = k
    · subst e
      rw [upd_at, has_del_same]
      rfl
    · rw [upd_off _ _ e, has_del_other (fun x => e (keyI_inj x)), h.has t]
  · by_cases e : kl = keyI k
    · rw [e, has_del_same] at hkl
      cases hkl
    · rw [has_del_other e] at hkl
      exact h.keys kl hkl
theorem Nm.store (h : Nm w R b f) (hT : Try.prog.underlying T = some (.map 3 E)) {k : Nat} (hk : k < 828) {v : Value} {d : DataW Unit} {ps : List MemPlace} (hv : R v = some (d, ps)) :
    ∃ w', (Instr.mapUpdate T (.map (some b)) (.int .i64 (k : Int)) v).run Try.prog w = .ok () w' ∧ Nm w' R b (upd f k (some d)) ∧ w.mapTurned w' b := by
  obtain ⟨D, h⟩ := h
  obtain ⟨w', hrun, hown, ht⟩ := h.own.store law3 hT (by unfold maxLen; omega) (hkeyI hk) hv
  exact ⟨w', hrun, (h.put hk hown).tight, ht⟩
theorem Nm.drop (h : Nm w R b f) (hT : Try.prog.underlying T = some (.map 3 E)) {k : Nat} (hk : k < 828) :
    ∃ w', (∀ ty, (Builtin.delete_ #[T, 3] ty #[.map (some b), .int .i64 (k : Int)]).run Try.prog w = .ok (.tuple #[]) w') ∧ Nm w' R b (upd f k none) ∧ w.mapTurned w' b := by
  obtain ⟨D, h⟩ := h
  obtain ⟨w', hrun, hown, ht⟩ := h.own.drop law3 hT (hkeyI hk) (0 : TypeId)
  exact ⟨w', (fun ty => hrun), (h.del hown).tight, ht⟩
/-- The blocks from c on are struck. -/
theorem NmD.cut {w' : World} {n n' : Nat} {D : DataW Unit} (h : NmD w R b n f D) (c : Int) (ho : w'.ownsMap Try.prog 3 R b n' (Lib.deleteFuncD (fun kl _ => match kl with | .int _ x => decide (c ≤ x) | _ => false) D)) :
    NmD w' R b n' (fun s => if c ≤ (s : Int) then none else f s) (Lib.deleteFuncD (fun kl _ => match kl with | .int _ x => decide (c ≤ x) | _ => false) D) := by
  obtain ⟨es, hD, hpw, hko⟩ := h.own.entries law3
  subst hD
  have hfind : ∀ s : Nat, ¬ c ≤ (s : Int) → ((es.filter fun p => !(match p.1 with | .int _ x => decide (c ≤ x) | _ => false)).find? fun p => p.1.sameKey (keyI s)) = es.find? fun p => p.1.sameKey (keyI s) := fun s hs =>
    find_filter_keep (fun p hp => by
      have := WideAt.sameKey_eq hp
      rw [this]
      simp [keyI, hs]) es
  have hany : ∀ s : Nat, ¬ c ≤ (s : Int) → ((es.filter fun p => !(match p.1 with | .int _ x => decide (c ≤ x) | _ => false)).any fun p => p.1.sameKey (keyI s)) = es.any fun p => p.1.sameKey (keyI s) := fun s hs =>
    any_filter_keep (fun p hp => by
      have := WideAt.sameKey_eq hp
      rw [this]
      simp [keyI, hs]) es
  refine ⟨ho, fun t y hy z => ?_, fun t => ?_, fun kl hkl => ?_⟩
  · split at hy
    · cases hy
    · rename_i hs
      have := h.val t y hy z
      unfold DataW.atKey at this ⊢
      simp only [Lib.deleteFuncD]
      rw [hfind t hs]
      exact this
  · have e1 := h.has t
    simp only [Lib.deleteFuncD, has_eq] at e1 ⊢
    by_cases hs : c ≤ (t : Int)
    · rw [if_pos hs]
      simp only [Option.isSome_none, List.any_eq_false, List.mem_filter]
      rintro p ⟨_, hp⟩ hp2
      have := WideAt.sameKey_eq hp2
      rw [this] at hp
      simp [keyI, hs] at hp
    · rw [if_neg hs, hany t hs]
      exact e1
  · refine h.keys kl ?_
    simp only [Lib.deleteFuncD, has_eq, List.any_eq_true, List.mem_filter] at hkl ⊢
    obtain ⟨p, ⟨hp, _⟩, hp2⟩ := hkl
    exact ⟨p, hp, hp2⟩
end
end Go.Proofs.Ytgedgkdnjnbijaa
