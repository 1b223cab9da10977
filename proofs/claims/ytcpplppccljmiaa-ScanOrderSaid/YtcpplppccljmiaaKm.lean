/-
  A map of rows of infos, by their kin: how it is written, and what it holds.
-/
import Derived.Test.YtcpplppccljmiaaHas
import Derived.Maps.OwnSet
import Derived.Maps.Ext
import Derived.Maps.RangeWalk
import Derived.DeepKeys4
import Derived.MapViews
import Derived.Lib.SmallJoins
import Derived.Lib.SliceRun
import Derived.WideKeyEntry
import Derived.Deep.AppendLies
namespace Go.Proofs.Ytcpplppccljmiaa
open Go.RowKit Go.Maps Go.ChangeMaps Go.MapKept Go.Joins
set_option linter.unusedVariables false

theorem laidG : laidOutB Try.prog = true := by kernel_rfl
theorem rowG : (59 : TypeId) < Try.prog.types.size := of_decide_eq_true (by kernel_rfl)
theorem cellsG : Try.prog.cellsOf 59 = 2 := by kernel_rfl
theorem deepG : Try.prog.keyTypeAt (Try.prog.types.size + 1) 59 = true := by kernel_rfl
theorem wideG : (match Try.prog.underlying 59 with | some (.array _ _) | some (.struct _) => true | _ => false) = true := by rw [Try.underlying59]
set_option maxRecDepth 100000 in
theorem lawG0 : WideMaps.KeyLaw Try.prog 59 := deep_law_laid laidG (m := 2) (by omega) rowG (by kernel_rfl) wideG
theorem lawG : Keyed Try.prog 59 := Keyed.of_law lawG0
theorem formedG {c0 c1 : Value} : (Value.agg #[c0, c1]).formed Try.prog 59 = true := by simp [Value.formed, Try.underlying59, cellsG]
theorem zeroG (w : World) : (zeroValue 37).run Try.prog w = .ok (.slice none 0 0) w := by kernel_rfl
abbrev Wn (n : Int) : Prop := (Lit.int .i64 n).wf = true

/-- A kin, as a map's key. -/
def keyK (x y : Int) : Lit := (DataW.agg [.lit (.int .i64 x), .lit (.int .i64 y)] : DataW Unit).asKey
set_option maxRecDepth 100000 in
theorem keyK_of {x y : Int} (hx : Wn x) (hy : Wn y) : keyOf Try.prog 59 (.agg #[.int .i64 x, .int .i64 y]) = some (keyK x y) := by
  have h : DataW.Trod (H := Unit) (fun _ => ()) Try.prog (World.settled Try.prog default) 0 (fun _ => true) true 59 (.agg #[.int .i64 x, .int .i64 y]) (.agg [.lit (.int .i64 x), .lit (.int .i64 y)]) [] :=
    shut_agg2 (y0 := (.lit (.int .i64 x), [])) (y1 := (.lit (.int .i64 y), [])) Try.underlying59 (by kernel_rfl) cellsG ⟨1, by simp [DataW.trod, Try.underlying3, hx]⟩ ⟨1, by simp [DataW.trod, Try.underlying3, hy]⟩
  exact (keyOf_asKey deepG wideG formedG h).1
theorem keyK_inj {x y x' y' : Int} (hx : Wn x) (hy : Wn y) (hx' : Wn x') (hy' : Wn y') (h : keyK x y = keyK x' y') : x = x' ∧ y = y' := by
  have a := lawG.inj (keyK_of hx hy) (h ▸ keyK_of hx' hy')
  simpa using a
theorem isKeyK {x y : Int} (hx : Wn x) (hy : Wn y) : WideAt.IsKeyLit (keyK x y) := lawG.key (keyK_of hx hy)

/-- How a row reads: by its block, its length, its room. -/
def ptG (g n c : Nat) : DataW Unit := .agg [.lit (.int .i64 (g : Int)), .lit (.int .i64 (n : Int)), .lit (.int .i64 (c : Int))]
def elemG : Value → Option (DataW Unit × List MemPlace)
  | .slice none 0 0 => some (.nil, [])
  | .slice (some ⟨g, 0, none⟩) n c => some (ptG g n c, [])
  | _ => none
theorem elemG_zero : elemG (.slice none 0 0) = some (.nil, []) := rfl
theorem elemG_mk (g n c : Nat) : elemG (.slice (some ⟨g, 0, none⟩) n c) = some (ptG g n c, []) := rfl
theorem elemG_inv {v : Value} {y : DataW Unit × List MemPlace} (h : elemG v = some y) : (v = .slice none 0 0 ∧ y = (.nil, [])) ∨ ∃ g n c, v = .slice (some ⟨g, 0, none⟩) n c ∧ y = (ptG g n c, []) := by
  unfold elemG at h
  split at h
  · exact .inl ⟨rfl, by cases h; rfl⟩
  · exact .inr ⟨_, _, _, rfl, by cases h; rfl⟩
  · cases h
theorem ptG_inj {g n c g' n' c' : Nat} (h : ptG g n c = ptG g' n' c') : g = g' ∧ n = n' ∧ c = c' := by
  simp [ptG] at h
  omega
theorem elemG_pt {v : Value} {g n c : Nat} {ps : List MemPlace} (h : elemG v = some (ptG g n c, ps)) : v = .slice (some ⟨g, 0, none⟩) n c := by
  rcases elemG_inv h with ⟨_, e⟩ | ⟨g', n', c', rfl, e⟩
  · cases e
  · obtain ⟨rfl, rfl, rfl⟩ := ptG_inj (Prod.mk.inj e).1
    rfl
theorem elemG_nil {v : Value} {ps : List MemPlace} (h : elemG v = some (.nil, ps)) : v = .slice none 0 0 := by
  rcases elemG_inv h with ⟨rfl, _⟩ | ⟨g', n', c', rfl, e⟩
  · rfl
  · cases e

section
variable {H : Type} {P : Program} {w : World} {t k e : TypeId} {R : Value → Option (DataW H × List MemPlace)} {b n : Nat} {D : DataW H}
/-- 'm[k] = append(m[k], ..)': THE ENTRY IS FOUND OR MADE, THEN STORED TO: in between other blocks may turn. -/
theorem owns_entry (h : w.ownsMap P k R b n D) (K : WideMaps.KeyLaw P k) (ht : P.underlying t = some (.map k e)) {z : Value} (hz : ∀ u : World, (zeroValue e).run P u = .ok z u) {zd : DataW H} {zp : List MemPlace} (hzd : R z = some (zd, zp))
    {key : Value} {kl : Lit} (hkey : keyOf P k key = some kl) (hn : n < maxLen) :
    ∃ (v0 : Value) (ps : List MemPlace) (st : Nat) (w1 : World), (Instr.mapEntry t (.map (some b)) key).run P w = .ok (.tuple #[v0, .int .i64 (st : Int)]) w1 ∧ R v0 = some (D.atKey kl zd, ps) ∧ w.mapTurned w1 b ∧
      ∀ (w2 : World) (val : Value) (d : DataW H) (ps' : List MemPlace), w2.heap[b]? = w1.heap[b]? → R val = some (d, ps') →
        ∃ w3, (Instr.entryStore t (.map (some b)) (.int .i64 (st : Int)) val).run P w2 = .ok () w3 ∧ w3.ownsMap P k R b (n + 1) (D.put kl d) ∧ w2.mapTurned w3 b := by
  have KK := Keyed.of_law K
  have h' := h
  obtain ⟨es, clock, hb, F, hs, rfl⟩ := h
  obtain ⟨v0, st, es1, clock1, hrun, hv, hst⟩ := WideElems.entry_then_store K ht hz hb F hkey
  have hR : ∃ ps, R v0 = some ((DataW.map ((es.toList.map (WideElems.rg P k R)).foldr DataW.insert [])).atKey kl zd, ps) := by
    rcases Maps.fit_look (R := R) false KK ht (hz w) hb F hkey with ⟨_, hno, hat⟩ | ⟨e0, y, hm, hk0, _, hRv, hat, _⟩
    · rcases hv with ⟨e1, hm1, hk1, _⟩ | ⟨_, rfl⟩
      · exact absurd hk1 (hno e1 hm1)
      · rw [hat zd]; exact ⟨zp, hzd⟩
    · rcases hv with ⟨e1, hm1, hk1, rfl⟩ | ⟨hno, _⟩
      · obtain rfl := entry_eq_of_key ((stamped_iff es clock).1 F.stamped).2.2 hm hm1 (hk0.trans hk1.symm)
        rw [hat zd]
        exact ⟨y.2, hRv⟩
      · exact absurd hk0 (hno e0 hm)
  obtain ⟨ps, hR⟩ := hR
  refine ⟨v0, ps, st, _, hrun, hR, ⟨es, clock, es1, clock1, hb, rfl⟩, fun w2 val d ps' hw2 hRv => ?_⟩
  have hb1 : w2.heap[b]? = some (.map es1 clock1) := by rw [hw2]; exact heap_setBlock_same hb _
  obtain ⟨es', clock', hs1, hu⟩ := hst w2 val hb1
  obtain ⟨w', hu', hown, ⟨_, _, es2, clock2, _, hw'⟩⟩ := h'.store KK ht hn hkey hRv
  rw [hu] at hu'
  simp only [Result.ok.injEq, true_and] at hu'
  refine ⟨_, hs1, ?_, ⟨es1, clock1, es', clock', hb1, rfl⟩⟩
  rw [← hu'] at hown
  obtain ⟨es3, clock3, hb3, r⟩ := hown
  rw [heap_setBlock_same hb _] at hb3
  exact ⟨es3, clock3, (heap_setBlock_same hb1 _).trans hb3, r⟩
end

/-- A row of infos of the call's own. -/
def OwnF (w : World) (B : Nat) (v : Value) (n : Nat) (L : List Inf) : Prop := w.ownsRow B 39 6 v n (L.flatMap ifc)
theorem flat_len (L : List Inf) : (L.flatMap ifc).length = L.length * 6 := by
  induction L with
  | nil => rfl
  | cons x L ih => simp [ifc, ih]; omega
theorem flat_get : ∀ (L : List Inf) (k j : Nat) (x : Inf) (v : Value), L[k]? = some x → (ifc x)[j]? = some v → (L.flatMap ifc)[k * 6 + j]? = some v
  | [], k, j, x, v, h, _ => by simp at h
  | y :: L, 0, j, x, v, h, hv => by
    simp at h
    subst h
    have hj : j < (ifc y).length := by
      rcases Nat.lt_or_ge j (ifc y).length with h1 | h1
      · exact h1
      · rw [List.getElem?_eq_none h1] at hv; cases hv
    rw [List.flatMap_cons, Nat.zero_mul, Nat.zero_add, List.getElem?_append_left hj]
    exact hv
  | y :: L, k + 1, j, x, v, h, hv => by
    simp at h
    have e : (k + 1) * 6 + j = (ifc y).length + (k * 6 + j) := by simp [ifc]; omega
    rw [List.flatMap_cons, e, List.getElem?_append_right (Nat.le_add_right _ _), Nat.add_sub_cancel_left]
    exact flat_get L k j x v h hv
theorem OwnF.len {w : World} {B : Nat} {v : Value} {n : Nat} {L : List Inf} (h : OwnF w B v n L) : L.length = n := by
  have := h.1
  rw [flat_len] at this
  omega
theorem OwnF.ifs {w : World} {B : Nat} {v : Value} {n : Nat} {L : List Inf} (h : OwnF w B v n L) : ∃ a c, v = .slice a n c ∧ Ifs w a n L ∧ n ≤ c ∧ c ≤ 9223372036854775807 ∧ (∀ x, a = some x → B ≤ x.block ∧ x.block < w.heap.size) := by
  have hl := h.len
  rcases h.2 with ⟨rfl, rfl⟩ | ⟨g, cap, cur, rfl, hb, hg, hnc, hm, hsz, htake⟩
  · exact ⟨none, 0, rfl, ⟨hl, .inl rfl⟩, Nat.le_refl _, by omega, (fun x hx => by cases hx)⟩
  · refine ⟨some ⟨g, 0, none⟩, cap, rfl, ⟨hl, .inr ⟨g, 0, rfl, lt_of_block hg, fun k j x v hk hj => ?_⟩⟩, hnc, by unfold maxLen at hm; omega, fun x hx => by cases hx; exact ⟨hb, lt_of_block hg⟩⟩
    have hc := h.cells (g := g) rfl (k * 6 + j) v (flat_get L k j x v hk hj)
    have e : (⟨g, 0, none⟩ : Addr).add (k * 6 + j) = ⟨g, 0 + k * 6 + j, none⟩ := by
      unfold Addr.add
      split
      · simp
      · simp_all
    rw [← e]
    exact hc

/-- The rows of a map that holds the groups of L. -/
structure GmR (w : World) (B : Nat) (L : List Inf) (D : DataW Unit) : Prop where
  rows : ∀ f c, grp L f c ≠ [] → ∃ g cap, D.atKey (keyK f c) .nil = ptG g (grp L f c).length cap ∧ OwnF w B (.slice (some ⟨g, 0, none⟩) (grp L f c).length cap) (grp L f c).length (grp L f c)
  apart : ∀ f c f' c' g n k n' k', grp L f c ≠ [] → grp L f' c' ≠ [] → D.atKey (keyK f c) .nil = ptG g n k → D.atKey (keyK f' c') .nil = ptG g n' k' → f = f' ∧ c = c'
theorem GmR.block {w : World} {B : Nat} {L : List Inf} {D : DataW Unit} (h : GmR w B L D) {f c : Int} {g n k : Nat} (hne : grp L f c ≠ []) (ha : D.atKey (keyK f c) .nil = ptG g n k) : ∃ cur fr, w.heap[g]? = some (.cells cur 39 fr) ∧ B ≤ g := by
  obtain ⟨g', cap, ha', ho⟩ := h.rows f c hne
  rw [ha] at ha'
  obtain ⟨rfl, _, _⟩ := ptG_inj ha'
  rcases ho.2 with ⟨e, _⟩ | ⟨g2, cap2, cur, e, hb, hg, _⟩
  · cases e
  · cases e
    exact ⟨cur, _, hg, hb⟩
theorem GmR.kept {w w' : World} {B : Nat} {L : List Inf} {D : DataW Unit} {row : Option Nat} (h : GmR w B L D) (hg : w.grownBy w' row) (hr : ∀ f c g n k, grp L f c ≠ [] → D.atKey (keyK f c) .nil = ptG g n k → some g ≠ row) : GmR w' B L D := by
  refine ⟨fun f c hne => ?_, h.apart⟩
  obtain ⟨g, cap, ha, ho⟩ := h.rows f c hne
  exact ⟨g, cap, ha, ho.kept hg (.inr (hr f c g _ _ hne ha))⟩
/-- A map that holds the groups of L. -/
structure GmD (w : World) (B mb n : Nat) (L : List Inf) (D : DataW Unit) : Prop extends GmR w B L D where
  own : w.ownsMap Try.prog 59 elemG mb n D
  keys : ∀ kl, Maps.has D kl = true → ∃ f c, kl = keyK f c ∧ grp L f c ≠ []
  has : ∀ f c, grp L f c ≠ [] → Maps.has D (keyK f c) = true
/-- All are numbers. -/
def AllW (L : List Inf) : Prop := ∀ x ∈ L, x.W
theorem grp_wn {L : List Inf} (hW : AllW L) {f c : Int} (h : grp L f c ≠ []) : Wn f ∧ Wn c := by
  obtain ⟨x, hx⟩ := List.exists_mem_of_ne_nil _ h
  obtain ⟨h1, h2⟩ := hW x (List.mem_filter.1 hx).1
  obtain ⟨e1, e2, e3⟩ := Inf.of_key (grp_mem hx)
  unfold Inf.ok at e3
  rw [decide_eq_true_eq] at e3
  exact ⟨WalkArith.wf_i64 (by omega), WalkArith.wf_i64 (by omega)⟩
theorem GmD.start (w : World) (B : Nat) : GmD (w.alloc (.map #[] 0)) B w.heap.size 0 [] (.map []) :=
  { rows := fun f c h => absurd rfl h, apart := fun f c f' c' g n k n' k' h => absurd rfl h, own := World.ownsMap_made w _ _ _, keys := (fun _ h => by cases h), has := fun f c h => absurd rfl h }
theorem GmD.kept {w w' : World} {B mb n : Nat} {L : List Inf} {D : DataW Unit} (h : GmD w B mb n L D) (hg : w.grownBy w' none) : GmD w' B mb n L D :=
  { h.toGmR.kept hg (fun _ _ _ _ _ _ _ => by simp) with own := h.own.kept hg (by simp), keys := h.keys, has := h.has }
theorem GmD.skip {w : World} {B mb n : Nat} {L : List Inf} {D : DataW Unit} {x : Inf} (h : GmD w B mb n L D) (hx : x.ok = false) : GmD w B mb n (L ++ [x]) D := by
  have e : ∀ f c, grp (L ++ [x]) f c = grp L f c := fun f c => by
    rw [grp_append, grp_none (B := [x]) (fun y hy => by rw [List.mem_singleton.1 hy]; exact Inf.of_not hx f c), List.append_nil]
  have e' : grp (L ++ [x]) = grp L := by funext f c; exact e f c
  refine { rows := ?_, apart := ?_, own := h.own, keys := ?_, has := ?_ }
  · rw [e']; exact h.rows
  · rw [e']; exact h.apart
  · rw [e']; exact h.keys
  · rw [e']; exact h.has
theorem grp_snoc {L : List Inf} {x : Inf} {f c : Int} (hx : x.of f c = true) : grp (L ++ [x]) f c = grp L f c ++ [x] := by
  rw [grp_append, grp_all (B := [x]) (fun y hy => by rw [List.mem_singleton.1 hy]; exact hx)]
theorem grp_snoc_other {L : List Inf} {x : Inf} {f c f' c' : Int} (hx : x.of f c = true) (hne : ¬ (f' = f ∧ c' = c)) : grp (L ++ [x]) f' c' = grp L f' c' := by
  obtain ⟨e1, e2, _⟩ := Inf.of_key hx
  rw [grp_append, grp_none (B := [x]) (fun y hy => by rw [List.mem_singleton.1 hy]; exact Inf.of_other (by rw [e1, e2]; intro h; exact hne ⟨h.1.symm, h.2.symm⟩)), List.append_nil]
/-- What the entry is before the append: the row of those that are there. -/
theorem GmD.entry {w w1 : World} {B mb n : Nat} {L : List Inf} {D : DataW Unit} {f c : Int} {v0 : Value} {ps : List MemPlace} (h : GmD w B mb n L D) (hW : AllW L) (hf : Wn f) (hc : Wn c) (hv : elemG v0 = some (D.atKey (keyK f c) .nil, ps)) (ht : w.mapTurned w1 mb) :
    OwnF w1 B v0 (grp L f c).length (grp L f c) ∧ GmR w1 B L D ∧ (grp L f c = [] → v0 = .slice none 0 0) ∧ (grp L f c ≠ [] → ∃ g k, v0 = .slice (some ⟨g, 0, none⟩) (grp L f c).length k ∧ D.atKey (keyK f c) .nil = ptG g (grp L f c).length k) := by
  have hr1 : GmR w1 B L D := h.toGmR.kept ht.grown (fun f' c' g n' k' hne ha e => by
    obtain ⟨cur, fr, hb, _⟩ := h.toGmR.block hne ha
    obtain ⟨es, clock, hm, _⟩ := h.own
    rw [Option.some.inj e] at hb
    rw [hb] at hm
    cases hm)
  by_cases hne : grp L f c = []
  · have hh : Maps.has D (keyK f c) = false := by
      cases hh : Maps.has D (keyK f c) with
      | false => rfl
      | true =>
        obtain ⟨f', c', e, hne'⟩ := h.keys _ hh
        obtain ⟨wf', wc'⟩ := grp_wn hW hne'
        obtain ⟨rfl, rfl⟩ := keyK_inj hf hc wf' wc' e
        exact absurd hne hne'
    rw [atKey_of_not_has hh] at hv
    obtain rfl := elemG_nil hv
    rw [hne]
    exact ⟨World.ownsRow_nil _ _ _ _, hr1, fun _ => rfl, fun h => absurd rfl h⟩
  · obtain ⟨g, cap, ha, ho⟩ := hr1.rows f c hne
    rw [ha] at hv
    obtain rfl := elemG_pt hv
    exact ⟨ho, hr1, fun h => absurd h hne, fun _ => ⟨g, cap, rfl, ha⟩⟩
/-- One info more. -/
theorem GmD.step {w w1 w2 w3 : World} {B mb n : Nat} {L : List Inf} {D : DataW Unit} {x : Inf} {f c : Int} {v0 : Value} {ps : List MemPlace} {g cap : Nat} (h : GmD w B mb n L D) (hW : AllW L) (hx : x.of f c = true) (hf : Wn f) (hc : Wn c)
    (hv : elemG v0 = some (D.atKey (keyK f c) .nil, ps)) (ht : w.mapTurned w1 mb) (hg : w1.grownBy w2 v0.ownBlock) (hat : v0.ownBlock = some g ∨ g = w1.heap.size)
    (ho : OwnF w2 B (.slice (some ⟨g, 0, none⟩) ((grp L f c).length + 1) cap) ((grp L f c).length + 1) (grp L f c ++ [x]))
    (h3 : w3.ownsMap Try.prog 59 elemG mb (n + 1) (D.put (keyK f c) (ptG g ((grp L f c).length + 1) cap))) (ht3 : w2.mapTurned w3 mb) : GmD w3 B mb (n + 1) (L ++ [x]) (D.put (keyK f c) (ptG g ((grp L f c).length + 1) cap)) := by
  obtain ⟨_, hr1, hv1, hv2⟩ := h.entry hW hf hc hv ht
  have hm := h.own.isMap
  have hk := isKeyK hf hc
  have hmb1 : ∃ es clock, w1.heap[mb]? = some (.map es clock) := by
    obtain ⟨es, clock, es', clock', a, b⟩ := ht
    exact ⟨es', clock', by rw [b]; exact heap_setBlock_same a _⟩
  have hmb2 : ∃ es clock, w2.heap[mb]? = some (.map es clock) := by
    obtain ⟨es, clock, es', clock', a, _⟩ := ht3
    exact ⟨es, clock, a⟩
  have hgs : ∃ cur fr, w2.heap[g]? = some (.cells cur 39 fr) := by
    rcases ho.2 with ⟨e, _⟩ | ⟨g2, cap2, cur, e, hb, hg2, _⟩
    · cases e
    · cases e; exact ⟨cur, _, hg2⟩
  have hgm : ∀ {g'}, (∃ cur fr, w2.heap[g']? = some (.cells cur 39 fr)) → some g' ≠ some mb := fun ⟨cur, fr, hh⟩ e => by
    obtain ⟨es, clock, hmb⟩ := hmb2
    rw [Option.some.inj e, hmb] at hh
    cases hh
  have hs3 : (grp (L ++ [x]) f c) = grp L f c ++ [x] := grp_snoc hx
  have hl3 : (grp (L ++ [x]) f c).length = (grp L f c).length + 1 := by rw [hs3, List.length_append]; rfl
  -- other rows
  have hoth : ∀ f' c', ¬ (f' = f ∧ c' = c) → grp L f' c' ≠ [] → ∃ g' cap', D.atKey (keyK f' c') .nil = ptG g' (grp L f' c').length cap' ∧ OwnF w3 B (.slice (some ⟨g', 0, none⟩) (grp L f' c').length cap') (grp L f' c').length (grp L f' c') ∧ g' ≠ g := by
    intro f' c' hne hng
    obtain ⟨g', cap', ha', ho'⟩ := hr1.rows f' c' hng
    have hb1 : g' < w1.heap.size := (ho'.lt g' rfl).2
    have hne1 : v0.ownBlock ≠ some g' := by
      intro e
      by_cases h0 : grp L f c = []
      · rw [hv1 h0] at e; cases e
      · obtain ⟨g0, k0, rfl, ha0⟩ := hv2 h0
        have : g0 = g' := by simpa [Value.ownBlock] using e
        subst this
        exact hne (h.apart f' c' f c _ _ _ _ _ hng h0 ha' ha0)
    have ho2 : OwnF w2 B (.slice (some ⟨g', 0, none⟩) (grp L f' c').length cap') (grp L f' c').length (grp L f' c') := World.ownsRow.kept ho' hg (.inr (fun e => hne1 e.symm))
    have hc2 : ∃ cur fr, w2.heap[g']? = some (.cells cur 39 fr) := by
      rcases ho2.2 with ⟨e, _⟩ | ⟨g2, cap2, cur, e, hb, hg2, _⟩
      · cases e
      · cases e; exact ⟨cur, _, hg2⟩
    refine ⟨g', cap', ha', World.ownsRow.kept ho2 ht3.grown (.inr (hgm hc2)), fun e => ?_⟩
    rcases hat with h1 | h1
    · exact hne1 (by rw [h1, e])
    · omega
  refine { rows := ?_, apart := ?_, own := h3, keys := ?_, has := ?_ }
  · intro f' c' hne
    by_cases e : f' = f ∧ c' = c
    · obtain ⟨rfl, rfl⟩ := e
      refine ⟨g, cap, ?_, ?_⟩
      · rw [hl3]; exact atKey_put_same hm hk _ _
      · rw [hl3, hs3]; exact World.ownsRow.kept ho ht3.grown (.inr (hgm hgs))
    · have e2 := grp_snoc_other (L := L) hx e
      rw [e2] at hne ⊢
      obtain ⟨g', cap', a, b, _⟩ := hoth f' c' e hne
      obtain ⟨wf', wc'⟩ := grp_wn hW hne
      refine ⟨g', cap', ?_, b⟩
      rw [atKey_put_other (fun x => e (keyK_inj wf' wc' hf hc x))]
      exact a
  · intro f1 c1 f2 c2 g0 n1 k1 n2 k2 hn1 hn2 ha1 ha2
    by_cases e1 : f1 = f ∧ c1 = c
    · obtain ⟨rfl, rfl⟩ := e1
      by_cases e2 : f2 = f1 ∧ c2 = c1
      · exact ⟨e2.1.symm, e2.2.symm⟩
      · exfalso
        rw [grp_snoc_other hx e2] at hn2
        obtain ⟨wf', wc'⟩ := grp_wn hW hn2
        rw [atKey_put_other (fun x => e2 (keyK_inj wf' wc' hf hc x))] at ha2
        rw [atKey_put_same hm hk] at ha1
        obtain ⟨g', cap', a, _, hd⟩ := hoth f2 c2 e2 hn2
        rw [a] at ha2
        exact hd ((ptG_inj ha2).1.trans (ptG_inj ha1).1.symm)
    · rw [grp_snoc_other hx e1] at hn1
      obtain ⟨wf1, wc1⟩ := grp_wn hW hn1
      rw [atKey_put_other (fun x => e1 (keyK_inj wf1 wc1 hf hc x))] at ha1
      by_cases e2 : f2 = f ∧ c2 = c
      · exfalso
        obtain ⟨rfl, rfl⟩ := e2
        rw [atKey_put_same hm hk] at ha2
        obtain ⟨g', cap', a, _, hd⟩ := hoth f1 c1 e1 hn1
        rw [a] at ha1
        exact hd ((ptG_inj ha1).1.trans (ptG_inj ha2).1.symm)
      · rw [grp_snoc_other hx e2] at hn2
        obtain ⟨wf2, wc2⟩ := grp_wn hW hn2
        rw [atKey_put_other (fun x => e2 (keyK_inj wf2 wc2 hf hc x))] at ha2
        exact h.apart f1 c1 f2 c2 g0 n1 k1 n2 k2 hn1 hn2 ha1 ha2
  · intro kl hk'
    by_cases e : kl = keyK f c
    · exact ⟨f, c, e, by rw [hs3]; simp⟩
    · rw [has_put_other e] at hk'
      obtain ⟨f', c', rfl, hne⟩ := h.keys kl hk'
      refine ⟨f', c', rfl, ?_⟩
      rw [grp_snoc_other hx (fun x => e (by rw [x.1, x.2]))]
      exact hne
  · intro f' c' hne
    by_cases e : f' = f ∧ c' = c
    · obtain ⟨rfl, rfl⟩ := e
      exact has_put_same hm hk _
    · rw [grp_snoc_other hx e] at hne
      obtain ⟨wf', wc'⟩ := grp_wn hW hne
      rw [has_put_other (fun x => e (keyK_inj wf' wc' hf hc x))]
      exact h.has f' c' hne
end Go.Proofs.Ytcpplppccljmiaa
