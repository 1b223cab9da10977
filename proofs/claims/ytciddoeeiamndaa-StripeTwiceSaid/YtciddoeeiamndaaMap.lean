/-
  What a disk has cached: a map by sectors whose elements are slices of 64 bytes each.
-/
import Derived.Test.YtciddoeeiamndaaSec
import Derived.Maps.OwnSet
import Derived.Maps.Ext
import Derived.Maps.RangeWalk
import Derived.Lib.SlKeysI
import Derived.Lib.SliceRun
namespace Go.Proofs.Ytciddoeeiamndaa
open Go.RowKit Go.Maps Go.ChangeMaps Go.MapKept

/-- How an element reads: by the number of the block that it lies in. -/
def elemR : Value → Option (DataW Unit × List MemPlace)
  | .slice none 0 0 => some (.nil, [])
  | .slice (some ⟨g, 0, none⟩) 64 _ => some (.lit (.int .i64 (g : Int)), [])
  | _ => none
theorem elemR_zero : elemR (.slice none 0 0) = some (.nil, []) := rfl
theorem elemR_mk (g c : Nat) : elemR (.slice (some ⟨g, 0, none⟩) 64 c) = some (.lit (.int .i64 (g : Int)), []) := rfl
theorem elemR_inv {v : Value} {y : DataW Unit × List MemPlace} (h : elemR v = some y) : (v = .slice none 0 0 ∧ y = (.nil, [])) ∨ ∃ g c, v = .slice (some ⟨g, 0, none⟩) 64 c ∧ y = (.lit (.int .i64 (g : Int)), []) := by
  unfold elemR at h
  split at h
  · exact .inl ⟨rfl, by cases h; rfl⟩
  · exact .inr ⟨_, _, rfl, by cases h; rfl⟩
  · cases h
theorem elemR_lit {v : Value} {g : Nat} {ps : List MemPlace} (h : elemR v = some (.lit (.int .i64 (g : Int)), ps)) : ∃ c, v = .slice (some ⟨g, 0, none⟩) 64 c := by
  rcases elemR_inv h with ⟨_, e⟩ | ⟨g', c, rfl, e⟩
  · cases e
  · simp at e
    obtain ⟨e, _⟩ := e
    have : g = g' := by omega
    subst this
    exact ⟨c, rfl⟩
theorem elemR_nil {v : Value} {ps : List MemPlace} (h : elemR v = some (.nil, ps)) : v = .slice none 0 0 := by
  rcases elemR_inv h with ⟨rfl, _⟩ | ⟨g', c, rfl, e⟩
  · rfl
  · cases e

abbrev keyI (s : Nat) : Lit := .int .i64 (s : Int)
theorem keyI_inj {s t : Nat} (h : keyI s = keyI t) : s = t := by simp [keyI] at h; omega
theorem law3 : Keyed Try.prog 3 := int_keyed Try.underlying3
theorem zeroE (w : World) : (zeroValue 37).run Try.prog w = .ok (.slice none 0 0) w := by kernel_rfl
theorem isKeyI {s : Nat} (h : s < 4096) : WideAt.IsKeyLit (keyI s) := law3.key (keyOf_int_mk (P := Try.prog) Try.underlying3 (WalkArith.wf_i64 (by omega)))
theorem hkeyI {s : Nat} (h : s < 4096) : keyOf Try.prog 3 (.int .i64 (s : Int)) = some (keyI s) := keyOf_int_mk Try.underlying3 (WalkArith.wf_i64 (by omega))

/-- 'clear(m)'. -/
theorem run_clear_map {P : Program} {k t e : TypeId} {R : Value → Option (DataW Unit × List MemPlace)} {w : World} {b n : Nat} {D : DataW Unit} (h : w.ownsMap P k R b n D) (ht : P.underlying t = some (.map k e)) :
    ∃ w', (∀ ty, (Builtin.clear_ #[t] ty #[.map (some b)]).run P w = .ok (.tuple #[]) w') ∧ w'.ownsMap P k R b 0 (.map []) ∧ w.mapTurned w' b := by
  obtain ⟨es, clock, hb, F, hs, hD⟩ := h
  refine ⟨setBlock w b (.map #[] clock), fun ty => ?_, ⟨#[], clock, heap_setBlock_same hb _, ⟨by simp, stamped_empty clock, by simp⟩, Nat.le_refl _, rfl⟩, ⟨es, clock, _, _, hb, rfl⟩⟩
  simp [Builtin.clear_, run_underlying ht, MapKept.run_getObj_map hb, MapKept.run_setObj_map _ hb, Result.andThen]
  rfl

/-- What a disk has cached, the map's datum at hand. -/
structure CacheD (w : World) (M : Nat → Prop) (S mb : Nat) (C : Nat → Option (List Int)) (n : Nat) (D : DataW Unit) : Prop where
  own : w.ownsMap Try.prog 3 elemR mb n D
  has : ∀ s, s < S → Maps.has D (keyI s) = (C s).isSome
  lies : ∀ s zs, s < S → C s = some zs → ∃ g : Nat, ¬ M g ∧ D.atKey (keyI s) .nil = .lit (.int .i64 (g : Int)) ∧ Bys w (some ⟨g, 0, none⟩) 64 zs
  keys : ∀ kl, Maps.has D kl = true → ∃ s : Nat, s < S ∧ kl = keyI s
def CacheAt (w : World) (M : Nat → Prop) (S mb : Nat) (C : Nat → Option (List Int)) : Prop := ∃ n D, CacheD w M S mb C n D

theorem turn_map {w w' : World} {b : Nat} (h : w.mapTurned w' b) : Turn (· = b) w w' := Turn.of_grown h.grown rfl

theorem ownsMap_of_row {P : Program} {k : TypeId} {R : Value → Option (DataW Unit × List MemPlace)} {w w' : World} {b n : Nat} {D : DataW Unit} (h : w.ownsMap P k R b n D) (e : w'.heap[b]? = w.heap[b]?) : w'.ownsMap P k R b n D := by
  obtain ⟨es, clock, hb, r⟩ := h
  exact ⟨es, clock, e.trans hb, r⟩

theorem CacheD.turn {w w' : World} {M : Nat → Prop} {S mb : Nat} {C : Nat → Option (List Int)} {n : Nat} {D : DataW Unit} (h : CacheD w M S mb C n D) (ht : Turn M w w') (hb : w'.heap[mb]? = w.heap[mb]?) : CacheD w' M S mb C n D :=
  ⟨ownsMap_of_row h.own hb, h.has, fun s zs hs hc => by
    obtain ⟨g, hg, ha, hy⟩ := h.lies s zs hs hc
    exact ⟨g, hg, ha, bys_turn hy ht (fun b off e => by cases e; exact hg)⟩, h.keys⟩
theorem CacheAt.turn {w w' : World} {M : Nat → Prop} {S mb : Nat} {C : Nat → Option (List Int)} (h : CacheAt w M S mb C) (ht : Turn M w w') (hb : w'.heap[mb]? = w.heap[mb]?) : CacheAt w' M S mb C := by
  obtain ⟨n, D, h⟩ := h
  exact ⟨n, D, h.turn ht hb⟩
theorem CacheAt.lt {w : World} {M : Nat → Prop} {S mb : Nat} {C : Nat → Option (List Int)} (h : CacheAt w M S mb C) : mb < w.heap.size := by
  obtain ⟨n, D, h⟩ := h
  exact h.own.lt

/-- Nothing is cached. -/
def noneC : Nat → Option (List Int) := fun _ => none
theorem CacheAt.empty {w : World} {M : Nat → Prop} {S mb n : Nat} (h : w.ownsMap Try.prog 3 elemR mb n (.map [])) : CacheAt w M S mb noneC :=
  ⟨n, _, ⟨h, fun _ _ => rfl, (fun _ _ _ h => by cases h), (fun _ h => by cases h)⟩⟩

def putC (C : Nat → Option (List Int)) (s : Nat) (zs : List Int) : Nat → Option (List Int) := fun t => if t = s then some zs else C t
theorem CacheD.put {w w' : World} {M : Nat → Prop} {S mb s g : Nat} {C : Nat → Option (List Int)} {n n' : Nat} {D : DataW Unit} {zs : List Int} (h : CacheD w M S mb C n D) (hS : S ≤ 4096) (hs : s < S) (hg : ¬ M g) (hy : Bys w (some ⟨g, 0, none⟩) 64 zs)
    (ht : Turn M w w') (hown : w'.ownsMap Try.prog 3 elemR mb n' (D.put (keyI s) (.lit (.int .i64 (g : Int))))) : CacheAt w' M S mb (putC C s zs) := by
  have hm := h.own.isMap
  refine ⟨n', _, ⟨hown, fun t hts => ?_, fun t ys hts hc => ?_, fun kl hk => ?_⟩⟩
  · by_cases e : t = s
    · subst e
      rw [has_put_same hm (isKeyI (by omega))]
      simp [putC]
    · rw [has_put_other (fun x => e (keyI_inj x)), h.has t hts]
      simp [putC, e]
  · by_cases e : t = s
    · subst e
      refine ⟨g, hg, atKey_put_same hm (isKeyI (by omega)) _ _, ?_⟩
      have : zs = ys := by simpa [putC] using hc
      subst this
      exact bys_turn hy ht (fun b off e => by cases e; exact hg)
    · obtain ⟨g', hg', ha, hy'⟩ := h.lies t ys hts (by simpa [putC, e] using hc)
      exact ⟨g', hg', by rw [atKey_put_other (fun x => e (keyI_inj x)), ha], bys_turn hy' ht (fun b off e => by cases e; exact hg')⟩
  · by_cases e : kl = keyI s
    · exact ⟨s, hs, e⟩
    · rw [has_put_other e] at hk
      exact h.keys kl hk

/-- The look-up of a sector that is cached, and of one that isn't. -/
theorem CacheD.look {w : World} {M : Nat → Prop} {S mb s : Nat} {C : Nat → Option (List Int)} {n : Nat} {D : DataW Unit} {zs : List Int} (h : CacheD w M S mb C n D) (hS : S ≤ 4096) (hs : s < S) (hc : C s = some zs) :
    ∃ g c : Nat, ¬ M g ∧ Bys w (some ⟨g, 0, none⟩) 64 zs ∧ (Instr.lookup 77 (.map (some mb)) (.int .i64 (s : Int)) true).run Try.prog w = .ok (.tuple #[.slice (some ⟨g, 0, none⟩) 64 c, .bool true]) w := by
  obtain ⟨g, hg, ha, hy⟩ := h.lies s zs hs hc
  have hh := h.has s hs
  rw [hc] at hh
  obtain ⟨v, ps, hrun, hv⟩ := h.own.look_ok law3 Try.underlying77 (zeroE w) elemR_zero (hkeyI (by omega : s < 4096))
  rw [ha] at hv
  obtain ⟨c, rfl⟩ := elemR_lit hv
  rw [show Maps.has D (keyI s) = true from hh] at hrun
  exact ⟨g, c, hg, hy, hrun⟩
theorem CacheD.look2 {w : World} {M : Nat → Prop} {S mb s : Nat} {C : Nat → Option (List Int)} {n : Nat} {D : DataW Unit} {zs : List Int} (h : CacheD w M S mb C n D) (hS : S ≤ 4096) (hs : s < S) (hc : C s = some zs) :
    ∃ g c : Nat, ¬ M g ∧ Bys w (some ⟨g, 0, none⟩) 64 zs ∧ (Instr.lookup 77 (.map (some mb)) (.int .i64 (s : Int)) false).run Try.prog w = .ok (.slice (some ⟨g, 0, none⟩) 64 c) w := by
  obtain ⟨g, hg, ha, hy⟩ := h.lies s zs hs hc
  obtain ⟨v2, ps2, hrun2, hv2⟩ := h.own.lookup law3 Try.underlying77 (zeroE w) elemR_zero (hkeyI (by omega : s < 4096))
  rw [ha] at hv2
  obtain ⟨c2, rfl⟩ := elemR_lit hv2
  exact ⟨g, c2, hg, hy, hrun2⟩
theorem CacheD.miss {w : World} {M : Nat → Prop} {S mb s : Nat} {C : Nat → Option (List Int)} {n : Nat} {D : DataW Unit} (h : CacheD w M S mb C n D) (hS : S ≤ 4096) (hs : s < S) (hc : C s = none) :
    (Instr.lookup 77 (.map (some mb)) (.int .i64 (s : Int)) true).run Try.prog w = .ok (.tuple #[.slice none 0 0, .bool false]) w := by
  have hh := h.has s hs
  rw [hc] at hh
  obtain ⟨v, ps, hrun, hv⟩ := h.own.look_ok law3 Try.underlying77 (zeroE w) elemR_zero (hkeyI (by omega : s < 4096))
  rw [atKey_of_not_has (show Maps.has D (keyI s) = false from hh)] at hv
  obtain rfl := elemR_nil hv
  rw [show Maps.has D (keyI s) = false from hh] at hrun
  exact hrun

theorem CacheD.small {w : World} {M : Nat → Prop} {S mb s : Nat} {C : Nat → Option (List Int)} {n : Nat} {D : DataW Unit} {zs : List Int} (h : CacheD w M S mb C n D) (hs : s < S) (hc : C s = some zs) : zs.length = 64 ∧ AllB zs := by
  obtain ⟨g, _, _, hy⟩ := h.lies s zs hs hc
  exact ⟨hy.len, hy.small⟩

/-- The step of a range over what is cached. -/
theorem wpList_next_cache {w : World} {ops : Array Oper} {rest : List Oper} {o : Oper} {a : Act} {Q : Exit → Act → World → Prop} (hg : o.guard = none) (it : Operand) (hop : o.op = Op.next it false)
    (M : Nat → Prop) (S mb r n : Nat) (C : Nat → Option (List Int)) (D : DataW Unit) (left : Lit → Bool) (cnt : Nat) (w0 : World) (hC : CacheD w0 M S mb C n D) (hit : a.eval it = .pointer (some ⟨r, 0, none⟩)) (h : w.ranges Try.prog 3 elemR mb r n D left cnt)
    (hDone : cnt = 0 → (∀ kl, left kl = false) → wpList Try.prog ops Q rest (a.put o.dst (.tuple #[.bool false])) w)
    (hMore : ∀ (s g c : Nat) (zs : List Int) (w' : World) (cnt' : Nat), s < S → C s = some zs → ¬ M g → Bys w0 (some ⟨g, 0, none⟩) 64 zs → left (keyI s) = true → w'.ranges Try.prog 3 elemR mb r n D (fun z => left z && !z.sameKey (keyI s)) cnt' → cnt' < cnt →
      w.grownBy w' (some r) → (Instr.entry (.pointer (some ⟨r, 0, none⟩))).run Try.prog w' = .ok (.tuple #[.int .i64 (s : Int), .slice (some ⟨g, 0, none⟩) 64 c]) w' →
      wpList Try.prog ops Q rest (a.put o.dst (.tuple #[.bool true, .int .i64 (s : Int), .slice (some ⟨g, 0, none⟩) 64 c])) w') :
    wpList Try.prog ops Q (o :: rest) a w :=
  wpList_next_ranges w hg it hop 3 law3 elemR id id (fun key _ _ => ⟨key, rfl⟩) (fun v _ _ => ⟨v, rfl⟩) mb r n D left cnt hit h hDone (fun x v kl y w' cnt' hkey hlk hv hat hrg hlt hgr hsz hen => by
    obtain ⟨s, hs, rfl⟩ := hC.keys kl (has_true_of_atKey hat)
    have hh := hC.has s hs
    rw [has_true_of_atKey hat] at hh
    obtain ⟨zs, hzs⟩ := Option.isSome_iff_exists.1 hh.symm
    obtain ⟨g, hg', ha, hy⟩ := hC.lies s zs hs hzs
    obtain ⟨x', rfl, e2, _⟩ := Maps.keyOf_i64 Try.underlying3 hkey
    obtain rfl : x' = (s : Int) := by simpa [keyI] using e2.symm
    obtain ⟨y1, y2⟩ := y
    rw [hat .nil] at ha
    obtain rfl : y1 = .lit (.int .i64 (g : Int)) := ha
    obtain ⟨c, rfl⟩ := elemR_lit hv
    exact hMore s g c zs w' cnt' hs hzs hg' hy hlk hrg hlt hgr hen)

end Go.Proofs.Ytciddoeeiamndaa
