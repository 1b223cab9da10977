/-
  A store at a key that is there, within a range over the map; the program's Move by contract.
-/
import Derived.Test.YtgedgkdnjnbijaaKp
import Derived.Deep.LoopGhost
import Derived.Laws.IdiomRangeMap
namespace Go.Proofs.Ytgedgkdnjnbijaa
open Go.RowKit Go.Maps Go.ChangeMaps Go.MapKept Go.WideShapes
open Go.WideElems (Fit rd rg pl rd_key rd_val rg_of rd_mk other_key)
set_option linter.unusedVariables false
set_option linter.unusedSimpArgs false

theorem left_count (es : Array MapEntry) (seen : Array Nat) : (leftOf es seen).size = (es.toList.map (·.born)).countP fun b => !seen.contains b := by
  unfold leftOf
  rw [← Array.length_toList, Array.toList_filter, List.countP_map, List.countP_eq_length_filter]
  rfl
theorem ranges_stay {w : World} {P : Program} {k t e : TypeId} {R : El} {b r n : Nat} {D : DataW Unit} {left : Lit → Bool} {cnt : Nat} (h : w.ranges P k R b r n D left cnt) (K : Keyed P k) (ht : P.underlying t = some (.map k e)) (hn : n < maxLen) {key val : Value} {kl : Lit} {d : DataW Unit} {ps : List MemPlace} (hkey : keyOf P k key = some kl) (hv : R val = some (d, ps)) (hin : Maps.has D kl = true) :
    ∃ w', (Instr.mapUpdate t (.map (some b)) key val).run P w = .ok () w' ∧ w'.ranges P k R b r n (D.put kl d) left cnt ∧ w.mapTurned w' b := by
  have hne := h.ne
  obtain ⟨es, clock, since, seen, c0, hb, F, hs, rfl, hr, hold, rfl, hl1, hl2, hsc, hsk⟩ := h
  rcases K.find w hkey es.toList F.keys with ⟨h1, h2⟩ | ⟨j, e0, h1, h2, h3⟩
  · obtain ⟨p, hp, hpk⟩ := List.any_eq_true.1 hin
    obtain ⟨x, hx, rfl⟩ := List.mem_map.1 (mem_sorted.1 hp)
    obtain ⟨y, hy⟩ := F.reads x hx
    have e1 := WideAt.sameKey_eq hpk
    have e2 := rd_key hy
    rw [rg_of hy] at e1
    rw [e1] at e2
    exact absurd (K.inj e2 hkey) (h2 x hx)
  · have hj : es[j]? = some e0 := by simpa using h2
    have hjl : j < es.toList.length := (List.getElem?_eq_some_iff.1 h2).1
    have hlist : (es.modify j (fun e' => { e' with key := key, val := val })).toList = es.toList.set j { e0 with key := key, val := val } := by rw [Array.toList_modify, modify_eq_set _ _ _ _ h2]
    have hrun2 : (Instr.mapUpdate t (.map (some b)) key val).run P w = .ok () (setBlock w b (.map (es.modify j (fun e' => { e' with key := key, val := val })) clock)) := by
      simp [Instr.mapUpdate, run_underlying ht, MapKept.run_getObj_map hb, K.check w false hkey, h1, hj, h3, K.stays w hkey, MapKept.run_setObj_map _ hb, Result.andThen, setBlock]
    obtain ⟨es', clock', hrun, F', hput, _⟩ := Maps.fit_store (R' := R) K ht hb F (Nat.lt_of_le_of_lt hs hn) (fun _ _ _ _ hz => hz) hkey hv
    have heq : Obj.map (es.modify j (fun e' => { e' with key := key, val := val })) clock = Obj.map es' clock' := by
      rw [hrun2] at hrun
      have h5 := (Result.ok.inj hrun).2
      have h6 := congrArg (fun w' : World => w'.heap[b]?) h5
      simp only [heap_setBlock_same hb] at h6
      exact Option.some.inj h6
    obtain ⟨he1, he2⟩ := Obj.map.inj heq
    subst he1 he2
    have e0m : e0 ∈ es.toList := List.mem_of_getElem? h2
    obtain ⟨y0, hy0⟩ := F.reads e0 e0m
    have hk0 : (rg P k R e0).1 = kl := by
      rw [rg_of hy0]
      have := rd_key hy0
      rw [h3, hkey] at this
      exact (Option.some.inj this).symm
    have hk1 : (rg P k R { e0 with key := key, val := val }).1 = kl := by
      rw [rg_of (rd_mk hkey hv)]
    have who : ∀ x ∈ (es.modify j (fun e' => { e' with key := key, val := val })).toList, x = { e0 with key := key, val := val } ∨ x ∈ es.toList := by
      intro x hx
      rw [hlist] at hx
      rcases List.mem_or_eq_of_mem_set hx with h5 | h5
      · exact .inr h5
      · exact .inl h5
    refine ⟨_, hrun2, ⟨_, clock, since, seen, c0, heap_setBlock_same hb _, F', by simpa using hs, by rw [DataW.put_eq, hput], (heap_setBlock_other hb _ hne).trans hr, fun x hx => ?_, ?_, fun x hx => ?_, fun kl' hk' => ?_, hsc, hsk⟩, ⟨es, clock, _, clock, hb, rfl⟩⟩
    · rcases who x hx with rfl | hx
      · exact hold e0 e0m
      · exact hold x hx
    · rw [left_count, left_count, hlist, List.map_set]
      congr 1
      apply List.ext_getElem?
      intro i
      rw [List.getElem?_set]
      split
      · rename_i hij
        subst hij
        rw [if_pos (by simpa using hjl), List.getElem?_map, h2]
        rfl
      · rfl
    · rcases who x hx with rfl | hx
      · rw [hk1, ← hk0]
        exact hl1 e0 e0m
      · exact hl1 x hx
    · obtain ⟨x, hx, hxk⟩ := hl2 kl' hk'
      obtain ⟨i, hi, rfl⟩ := List.getElem_of_mem hx
      by_cases hij : j = i
      · subst hij
        have : es.toList[j] = e0 := by
          rw [List.getElem?_eq_getElem hi] at h2
          exact Option.some.inj h2
        refine ⟨{ e0 with key := key, val := val }, ?_, by rw [hk1, ← hk0, ← this, hxk]⟩
        rw [hlist]
        exact List.mem_iff_getElem.2 ⟨j, by simpa using hjl, by simp⟩
      · refine ⟨es.toList[i], ?_, hxk⟩
        rw [hlist]
        exact List.mem_iff_getElem.2 ⟨i, by simpa using hi, by rw [List.getElem_set]; rw [if_neg hij]⟩

/-- How many of the first k meet p. -/
def cq (p : Nat → Bool) : Nat → Int
  | 0 => 0
  | k + 1 => cq p k + (if p k then 1 else 0)
theorem cq_bd (p : Nat → Bool) (k : Nat) : 0 ≤ cq p k ∧ cq p k ≤ k := by
  induction k with
  | zero => simp [cq]
  | succ k ih => rw [cq]; split <;> omega
theorem cq_congr {p q : Nat → Bool} {k : Nat} (h : ∀ i, i < k → p i = q i) : cq p k = cq q k := by
  induction k with
  | zero => rfl
  | succ k ih => rw [cq, cq, ih fun i hi => h i (by omega), h k (by omega)]
theorem cq_one {p q : Nat → Bool} {k s : Nat} (hs : s < k) (h : ∀ i, i ≠ s → p i = q i) (h0 : p s = false) (h1 : q s = true) : cq q k = cq p k + 1 := by
  induction k with
  | zero => omega
  | succ k ih =>
    rw [cq, cq]
    by_cases e : s = k
    · subst e
      rw [h0, h1, cq_congr (q := q) (p := p) fun i hi => h i (by omega)]
      simp
    · rw [ih (by omega), h k (fun e' => e e'.symm)]
      omega
theorem cq_none {p : Nat → Bool} {k : Nat} (h : ∀ i, i < k → p i = false) : cq p k = 0 := by
  induction k with
  | zero => rfl
  | succ k ih => rw [cq, ih fun i hi => h i (by omega), h k (by omega)]; rfl
theorem cq_mv {A : Nat → Int} {f : Int} {p : Nat → Bool} {k : Nat} (h : ∀ i, i < k → p i = decide (A i = f)) : cq p k = mvN A f k := by
  induction k with
  | zero => rfl
  | succ k ih =>
    rw [cq, mvN, ih fun i hi => h i (by omega), h k (by omega)]
    by_cases e : A k = f
    · simp [e]
    · simp [e]
end Go.Proofs.Ytgedgkdnjnbijaa
