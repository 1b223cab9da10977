/-
  The two comparisons that infos and groups are sorted by.
-/
import Derived.Test.YtegmeoghonolcaaGreatGpa
import Derived.Sort.Grow
import Derived.Maps.OwnSet
import Derived.Maps.Ext
import Derived.Maps.RangeWalk
import Derived.DeepKeys4
import Derived.MapViews
import Derived.Lib.SmallJoins
import Derived.Lib.SliceRun
import Derived.WideKeyEntry
import Derived.Deep.AppendLies
set_option linter.unusedSimpArgs false
set_option linter.unusedVariables false
namespace Go.Proofs.YtegmeoghonolcaaGreat
open Go.RowKit Go.Sort
set_option linter.unusedVariables false

/-- cmp.Or of two numbers. -/
def orI (x y : Int) : Int := if x = 0 then y else x
set_option maxHeartbeats 1000000 in
theorem or_any (b c : Nat) (x y : Int) (w : World) (h0 : w.cell? ⟨b, 0, none⟩ = some (.int .i64 x)) (h1 : w.cell? ⟨b, 1, none⟩ = some (.int .i64 y)) :
    Calls Tryz.prog 64 #[.slice (some ⟨b, 0, none⟩) 2 c] w fun e w' => e = .returned (.int .i64 (orI x y)) ∧ w' = w := by
  unfold orI
  by_cases hx : x = 0
  · subst hx
    by_cases hy : y = 0
    · subst hy
      go_enter Tryz.func64, Tryz.ntmps64
      go_wp2_with (fail)
      refine wp_loop_rounds 3 ?_
      rw [rounds_succ]
      go_wp2_with (fail)
      rw [rounds_succ]
      go_wp2_with (fail)
      rw [rounds_succ]
      go_wp2_with (fail)
      go_ret
      exact ⟨rfl, rfl⟩
    · have d1 : decide (y = 0) = false := decide_eq_false hy
      go_enter Tryz.func64, Tryz.ntmps64
      go_wp2_with (fail)
      refine wp_loop_rounds 2 ?_
      rw [rounds_succ]
      go_wp2_with (fail)
      rw [rounds_succ]
      go_wp2_with (fail)
      go_ret
      exact ⟨rfl, rfl⟩
  · have d1 : decide (x = 0) = false := decide_eq_false hx
    rw [if_neg hx]
    go_enter Tryz.func64, Tryz.ntmps64
    go_wp2_with (fail)
    refine wp_loop_rounds 1 ?_
    rw [rounds_succ]
    go_wp2_with (fail)
    go_ret
    exact ⟨rfl, rfl⟩

/-- By Index. -/
theorem cl1_any (x y : Inf) (W : World) : Calls Tryz.prog 58 #[ifv x, ifv y] W fun e w' => e = .returned (.int .i64 (cmpI x.i y.i)) ∧ ∃ q os', w' = grow (W.drewN q) os' := by
  obtain ⟨g, q, c, i, b, r⟩ := x
  obtain ⟨g', q', c', i', b', r'⟩ := y
  unfold ifv
  simp only
  go_enter Tryz.func58, Tryz.ntmps58
  go_wp2_with (go_at_call 59; refine (cmp_any _ _ _).mono ?_; rintro e w' ⟨rfl, rfl⟩)
  go_ret
  exact ⟨rfl, 0, _, by rw [alloc_eq_grow, alloc_eq_grow, grow_grow]; rfl⟩

/-- By Seq, then by how many segments. -/
def cmpG (q q' : Int) (n n' : Nat) : Int := orI (cmpI q q') (cmpI n n')
set_option maxHeartbeats 1000000 in
theorem cl2_any (q r : Int) (a : Option Addr) (n c : Nat) (q' r' : Int) (a' : Option Addr) (n' c' : Nat) (W : World) :
    Calls Tryz.prog 63 #[.agg #[.int .i64 q, .int .i64 r, .slice a n c], .agg #[.int .i64 q', .int .i64 r', .slice a' n' c']] W fun e w' => e = .returned (.int .i64 (cmpG q q' n n')) ∧ ∃ q os', w' = grow (W.drewN q) os' := by
  obtain ⟨X, hX⟩ : ∃ X, X = (W.alloc (.cells #[.int .i64 q, .int .i64 r, .slice a n c] 63 (0, 0))).alloc (.cells #[.int .i64 q', .int .i64 r', .slice a' n' c'] 63 (0, 0)) := ⟨_, rfl⟩
  have x0 : X.cell? ⟨W.heap.size, 0, none⟩ = some (.int .i64 q) := by rw [hX]; simp
  have x2 : X.cell? ⟨W.heap.size, 2, none⟩ = some (.slice a n c) := by rw [hX]; simp
  have y0 : X.cell? ⟨W.heap.size + 1, 0, none⟩ = some (.int .i64 q') := by rw [hX]; simp
  have y2 : X.cell? ⟨W.heap.size + 1, 2, none⟩ = some (.slice a' n' c') := by rw [hX]; simp
  have HX := Lib.hid hX
  have HG1 : Hid (W.heap.size < X.heap.size) := Lib.hid (by rw [hX]; simp; omega)
  have HG2 : Hid (W.heap.size + 1 < X.heap.size) := Lib.hid (by rw [hX]; simp)
  obtain ⟨g, hg⟩ : ∃ g, g = W.heap.size := ⟨_, rfl⟩
  rw [← hg] at x0 x2 y0 y2 HG1 HG2
  obtain ⟨k, hk⟩ : ∃ k, k = cmpI q q' := ⟨_, rfl⟩
  obtain ⟨l, hl⟩ : ∃ l, l = cmpI n n' := ⟨_, rfl⟩
  have h1 : ∀ w, Calls Tryz.prog 59 #[.int .i64 q, .int .i64 q'] w fun e w' => e = .returned (.int .i64 k) ∧ w' = w := by rw [hk]; exact cmp_any q q'
  have h2 : ∀ w, Calls Tryz.prog 59 #[.int .i64 n, .int .i64 n'] w fun e w' => e = .returned (.int .i64 l) ∧ w' = w := by rw [hl]; exact cmp_any n n'
  unfold cmpG
  rw [← hk, ← hl]
  clear hk hl
  go_enter Tryz.func63, Tryz.ntmps63
  go_wp2_with (fail)
  rw [← hX, ← hg]
  clear hX hg
  refine wp_region_held_drew (S := (fun w' => w'.cell? ⟨g, 0, none⟩ = some (.int .i64 q) ∧ w'.cell? ⟨g, 2, none⟩ = some (.slice a n c) ∧ w'.cell? ⟨g + 1, 0, none⟩ = some (.int .i64 q') ∧ w'.cell? ⟨g + 1, 2, none⟩ = some (.slice a' n' c'))) (by kernel_rfl) ?_ (fun hHeld => ?_)
  · exact ⟨x0, x2, y0, y2⟩
  refine rgY 0 ?_ rfl (by kernel_rfl) (fun _ _ _ h => h) (.inl ⟨by rfl, fun w hSw => ?_⟩) (by assumption) ?_
  rotate_left
  · (try dsimp only at hSw); go_simp; try with_reducible rfl
  simp only [Act.put, rg1, rg2, rg3, rg4, rg6]
  refine rgY 1 ?_ rfl (by kernel_rfl) (fun _ _ _ h => h) (.inl ⟨by rfl, fun w hSw => ?_⟩) (by assumption) ?_
  rotate_left
  · (try dsimp only at hSw); go_simp; try with_reducible rfl
  simp only [Act.put, rg1, rg2, rg3, rg4, rg5, rg6]
  refine rgY 2 ?_ rfl (by kernel_rfl) (fun _ _ _ h => h) (.inl ⟨by rfl, fun w hSw => ?_⟩) (by assumption) ?_
  rotate_left
  · (try dsimp only at hSw); go_simp; try with_reducible rfl
  simp only [Act.put, rg1, rg2, rg3, rg4, rg5, rg6]
  refine rgY 3 ?_ rfl (by kernel_rfl) (fun _ _ _ h => h) (.inl ⟨by rfl, fun w hSw => ?_⟩) (by assumption) ?_
  rotate_left
  · (try dsimp only at hSw); go_simp; try with_reducible rfl
  simp only [Act.put, rg1, rg2, rg3, rg4, rg5, rg6]
  refine rgY 5 ?_ rfl (by kernel_rfl) (fun _ _ _ h => h) (.inl ⟨by rfl, fun w hSw => ?_⟩) (by assumption) ?_
  rotate_left
  · (try dsimp only at hSw); go_simp; try with_reducible rfl
  simp only [Act.put, rg1, rg2, rg3, rg4, rg5, rg6]
  refine rgY 6 ?_ rfl (by kernel_rfl) (fun _ _ _ h => h) (.inl ⟨by rfl, fun w hSw => ?_⟩) (by assumption) ?_
  rotate_left
  · (try dsimp only at hSw); go_simp; try with_reducible rfl
  simp only [Act.put, rg1, rg2, rg3, rg4, rg5, rg6]
  refine rgY 7 ?_ rfl (by kernel_rfl) (fun _ _ _ h => h) (.inl ⟨by rfl, fun w hSw => ?_⟩) (by assumption) ?_
  rotate_left
  · (try dsimp only at hSw); go_simp; try with_reducible rfl
  simp only [Act.put, rg1, rg2, rg3, rg4, rg5, rg6]
  refine rgY 8 ?_ rfl (by kernel_rfl) (fun _ _ _ h => h) (.inl ⟨by rfl, fun w hSw => ?_⟩) (by assumption) ?_
  rotate_left
  · (try dsimp only at hSw); go_simp; try with_reducible rfl
  simp only [Act.put, rg1, rg2, rg3, rg4, rg5, rg6]
  refine rgY 9 ?_ rfl (by kernel_rfl) (fun _ _ _ h => h) (.inl ⟨by rfl, fun w hSw => ?_⟩) (by assumption) ?_
  rotate_left
  · (try dsimp only at hSw); go_simp; try with_reducible rfl
  simp only [Act.put, rg1, rg2, rg3, rg4, rg5, rg6]
  refine rgY 10 ?_ rfl (by kernel_rfl) (fun _ _ _ h => h) (.inl ⟨by rfl, fun w hSw => ?_⟩) (by assumption) ?_
  rotate_left
  · (try dsimp only at hSw); go_simp; try with_reducible rfl
  simp only [Act.put, rg1, rg2, rg3, rg4, rg5, rg6]
  refine wpAnyH_ready (rs := [4]) (by kernel_rfl) (by simp) ?_
  refine AllReadyH.cons rfl (fun K hK => ?_) AllReadyH.nil
  simp only [List.getElem_toArray, List.getElem_cons_succ, List.getElem_cons_zero]
  go_simp
  refine (h1 _).mono ?_
  rintro e w4 ⟨rfl, rfl⟩
  go_wp2_with (fail)
  refine hK.out _ _ ⟨x0, x2, y0, y2⟩ (fun hHeld => ?_)
  clear hK K
  refine wpAnyH_ready (rs := [11]) (by kernel_rfl) (by simp) ?_
  refine AllReadyH.cons rfl (fun K hK => ?_) AllReadyH.nil
  simp only [List.getElem_toArray, List.getElem_cons_succ, List.getElem_cons_zero]
  go_simp
  refine (h2 _).mono ?_
  rintro e w5 ⟨rfl, rfl⟩
  go_wp2_with (fail)
  refine hK.out _ _ ⟨x0, x2, y0, y2⟩ (fun hHeld => ?_)
  clear hK K
  refine wpAnyH_ready (rs := [12]) (by kernel_rfl) (by simp) ?_
  refine AllReadyH.cons rfl (fun K hK => ?_) AllReadyH.nil
  simp only [List.getElem_toArray, List.getElem_cons_succ, List.getElem_cons_zero]
  go_simp
  have hb5 : Below X.heap.size X ((X.alloc (.cells #[.int .i64 k, .int .i64 l] 3 (0, 0))).drew) := below_drewN ((Below.refl _ _).alloc (Nat.le_refl _) _) 1
  have z0 : ((X.alloc (.cells #[.int .i64 k, .int .i64 l] 3 (0, 0))).drew).cell? ⟨X.heap.size, 0, none⟩ = some (.int .i64 k) := by
    show (X.alloc (.cells #[.int .i64 k, .int .i64 l] 3 (0, 0))).cell? ⟨X.heap.size, 0, none⟩ = _
    simp
  have z1 : ((X.alloc (.cells #[.int .i64 k, .int .i64 l] 3 (0, 0))).drew).cell? ⟨X.heap.size, 1, none⟩ = some (.int .i64 l) := by
    show (X.alloc (.cells #[.int .i64 k, .int .i64 l] 3 (0, 0))).cell? ⟨X.heap.size, 1, none⟩ = _
    simp
  have HU := Lib.hid (And.intro ((hb5.cell (p := ⟨g, 0, none⟩) HG1.out).trans x0) (And.intro ((hb5.cell (p := ⟨g, 2, none⟩) HG1.out).trans x2) (And.intro ((hb5.cell (p := ⟨g + 1, 0, none⟩) HG2.out).trans y0) ((hb5.cell (p := ⟨g + 1, 2, none⟩) HG2.out).trans y2))))
  refine hK.out _ _ HU.out (fun hHeld => ?_)
  clear hK K hb5
  have hor := or_any X.heap.size 2 k l _ z0 z1
  clear z0 z1 x0 x2 y0 y2
  refine wpAnyH_ready (rs := [13]) (by kernel_rfl) (by simp) ?_
  refine AllReadyH.cons rfl (fun K hK => ?_) AllReadyH.nil
  simp only [List.getElem_toArray, List.getElem_cons_succ, List.getElem_cons_zero]
  go_simp
  refine hor.mono ?_
  rintro e w6 ⟨rfl, rfl⟩
  go_wp2_with (fail)
  refine hK.out _ _ HU.out (fun hHeld => ?_)
  clear hK K
  refine rgY 14 ?_ rfl (by kernel_rfl) (fun _ _ _ h => h) (.inl ⟨by rfl, fun w hSw => ?_⟩) (by assumption) ?_
  rotate_left
  · (try dsimp only at hSw); go_simp; try with_reducible rfl
  simp only [Act.put, rg1, rg2, rg3, rg4, rg5, rg6]
  refine wpAnyH_done (by kernel_rfl) ?_ _
  go_wp2_with (fail)
  go_ret
  refine ⟨rfl, 1, #[.cells #[.int .i64 q, .int .i64 r, .slice a n c] 63 (0, 0), .cells #[.int .i64 q', .int .i64 r', .slice a' n' c'] 63 (0, 0), .cells #[.int .i64 k, .int .i64 l] 3 (0, 0)], ?_⟩
  rw [HX.out]
  rw [alloc_eq_grow, alloc_eq_grow, alloc_eq_grow, grow_grow, grow_grow]
  rfl
end Go.Proofs.YtegmeoghonolcaaGreat

/-
  A map of rows of infos, by their kin: how it is written, and what it holds.
-/
namespace Go.Proofs.YtegmeoghonolcaaGreat
open Go.RowKit Go.Maps Go.ChangeMaps Go.MapKept Go.Joins
set_option linter.unusedVariables false

theorem laidG : laidOutB Tryz.prog = true := by kernel_rfl
theorem rowG : (123 : TypeId) < Tryz.prog.types.size := of_decide_eq_true (by kernel_rfl)
theorem cellsG : Tryz.prog.cellsOf 123 = 2 := by kernel_rfl
theorem deepG : Tryz.prog.keyTypeAt (Tryz.prog.types.size + 1) 123 = true := by kernel_rfl
theorem wideG : (match Tryz.prog.underlying 123 with | some (.array _ _) | some (.struct _) => true | _ => false) = true := by rw [Tryz.underlying123]
set_option maxRecDepth 100000 in
theorem lawG0 : WideMaps.KeyLaw Tryz.prog 123 := deep_law_laid laidG (m := 2) (by omega) rowG (by kernel_rfl) wideG
theorem lawG : Keyed Tryz.prog 123 := Keyed.of_law lawG0
theorem formedG {c0 c1 : Value} : (Value.agg #[c0, c1]).formed Tryz.prog 123 = true := by simp [Value.formed, Tryz.underlying123, cellsG]
theorem zeroG (w : World) : (zeroValue 52).run Tryz.prog w = .ok (.slice none 0 0) w := by kernel_rfl
abbrev Wn (n : Int) : Prop := (Lit.int .i64 n).wf = true

/-- A kin, as a map's key. -/
def keyK (x y : Int) : Lit := (DataW.agg [.lit (.int .i64 x), .lit (.int .i64 y)] : DataW Unit).asKey
set_option maxRecDepth 100000 in
theorem keyK_of {x y : Int} (hx : Wn x) (hy : Wn y) : keyOf Tryz.prog 123 (.agg #[.int .i64 x, .int .i64 y]) = some (keyK x y) := by
  have h : DataW.Trod (H := Unit) (fun _ => ()) Tryz.prog (World.settled Tryz.prog default) 0 (fun _ => true) true 123 (.agg #[.int .i64 x, .int .i64 y]) (.agg [.lit (.int .i64 x), .lit (.int .i64 y)]) [] :=
    shut_agg2 (y0 := (.lit (.int .i64 x), [])) (y1 := (.lit (.int .i64 y), [])) Tryz.underlying123 (by kernel_rfl) cellsG ⟨1, by simp [DataW.trod, Tryz.underlying3, hx]⟩ ⟨1, by simp [DataW.trod, Tryz.underlying3, hy]⟩
  exact (keyOf_asKey deepG wideG formedG h).1
theorem keyK_inj {x y x' y' : Int} (hx : Wn x) (hy : Wn y) (hx' : Wn x') (hy' : Wn y') (h : keyK x y = keyK x' y') : x = x' ∧ y = y' := by
  have a := lawG.inj (keyK_of hx hy) (h ▸ keyK_of hx' hy')
  simpa using a
theorem isKeyK {x y : Int} (hx : Wn x) (hy : Wn y) : WideAt.IsKeyLit (keyK x y) := lawG.key (keyK_of hx hy)

/-- How a row reads: by its block, its length, its room. -/
def ptG (g n c : Nat) : DataW Unit := .agg [.lit (.int .i64 (g : Int)), .lit (.int .i64 (n : Int)), .lit (.int .i64 (c : Int))]
def elemG : Value → Option (DataW Unit × List MemPlace)
  | .slice none 0 0 => some (.nil, [])
  | .slice (some ⟨g, 0, none⟩) n c => some (ptG g n c, [])
  | _ => none
theorem elemG_zero : elemG (.slice none 0 0) = some (.nil, []) := rfl
theorem elemG_mk (g n c : Nat) : elemG (.slice (some ⟨g, 0, none⟩) n c) = some (ptG g n c, []) := rfl
theorem elemG_inv {v : Value} {y : DataW Unit × List MemPlace} (h : elemG v = some y) : (v = .slice none 0 0 ∧ y = (.nil, [])) ∨ ∃ g n c, v = .slice (some ⟨g, 0, none⟩) n c ∧ y = (ptG g n c, []) := by
  unfold elemG at h
  split at h
  · exact .inl ⟨rfl, by cases h; rfl⟩
  · exact .inr ⟨_, _, _, rfl, by cases h; rfl⟩
  · cases h
theorem ptG_inj {g n c g' n' c' : Nat} (h : ptG g n c = ptG g' n' c') : g = g' ∧ n = n' ∧ c = c' := by
  simp [ptG] at h
  omega
theorem elemG_pt {v : Value} {g n c : Nat} {ps : List MemPlace} (h : elemG v = some (ptG g n c, ps)) : v = .slice (some ⟨g, 0, none⟩) n c := by
  rcases elemG_inv h with ⟨_, e⟩ | ⟨g', n', c', rfl, e⟩
  · cases e
  · obtain ⟨rfl, rfl, rfl⟩ := ptG_inj (Prod.mk.inj e).1
    rfl
theorem elemG_nil {v : Value} {ps : List MemPlace} (h : elemG v = some (.nil, ps)) : v = .slice none 0 0 := by
  rcases elemG_inv h with ⟨rfl, _⟩ | ⟨g', n', c', rfl, e⟩
  · rfl
  · cases e

section
variable {H : Type} {P : Program} {w : World} {t k e : TypeId} {R : Value → Option (DataW H × List MemPlace)} {b n : Nat} {D : DataW H}
/-- 'm[k] = append(m[k], ..)': THE ENTRY IS FOUND OR MADE, THEN STORED TO: in between other blocks may turn. -/
theorem owns_entry (h : w.ownsMap P k R b n D) (K : WideMaps.KeyLaw P k) (ht : P.underlying t = some (.map k e)) {z : Value} (hz : ∀ u : World, (zeroValue e).run P u = .ok z u) {zd : DataW H} {zp : List MemPlace} (hzd : R z = some (zd, zp))
    {key : Value} {kl : Lit} (hkey : keyOf P k key = some kl) (hn : n < maxLen) :
    ∃ (v0 : Value) (ps : List MemPlace) (st : Nat) (w1 : World), (Instr.mapEntry t (.map (some b)) key).run P w = .ok (.tuple #[v0, .int .i64 (st : Int)]) w1 ∧ R v0 = some (D.atKey kl zd, ps) ∧ w.mapTurned w1 b ∧
      ∀ (w2 : World) (val : Value) (d : DataW H) (ps' : List MemPlace), w2.heap[b]? = w1.heap[b]? → R val = some (d, ps') →
        ∃ w3, (Instr.entryStore t (.map (some b)) (.int .i64 (st : Int)) val).run P w2 = .ok () w3 ∧ w3.ownsMap P k R b (n + 1) (D.put kl d) ∧ w2.mapTurned w3 b := by
  have KK := Keyed.of_law K
  have h' := h
  obtain ⟨es, clock, hb, F, hs, rfl⟩ := h
  obtain ⟨v0, st, es1, clock1, hrun, hv, hst⟩ := WideElems.entry_then_store K ht hz hb F hkey
  have hR : ∃ ps, R v0 = some ((DataW.map ((es.toList.map (WideElems.rg P k R)).foldr DataW.insert [])).atKey kl zd, ps) := by
    rcases Maps.fit_look (R := R) false KK ht (hz w) hb F hkey with ⟨_, hno, hat⟩ | ⟨e0, y, hm, hk0, _, hRv, hat, _⟩
    · rcases hv with ⟨e1, hm1, hk1, _⟩ | ⟨_, rfl⟩
      · exact absurd hk1 (hno e1 hm1)
      · rw [hat zd]; exact ⟨zp, hzd⟩
    · rcases hv with ⟨e1, hm1, hk1, rfl⟩ | ⟨hno, _⟩
      · obtain rfl := entry_eq_of_key ((stamped_iff es clock).1 F.stamped).2.2 hm hm1 (hk0.trans hk1.symm)
        rw [hat zd]
        exact ⟨y.2, hRv⟩
      · exact absurd hk0 (hno e0 hm)
  obtain ⟨ps, hR⟩ := hR
  refine ⟨v0, ps, st, _, hrun, hR, ⟨es, clock, es1, clock1, hb, rfl⟩, fun w2 val d ps' hw2 hRv => ?_⟩
  have hb1 : w2.heap[b]? = some (.map es1 clock1) := by rw [hw2]; exact heap_setBlock_same hb _
  obtain ⟨es', clock', hs1, hu⟩ := hst w2 val hb1
  obtain ⟨w', hu', hown, ⟨_, _, es2, clock2, _, hw'⟩⟩ := h'.store KK ht hn hkey hRv
  rw [hu] at hu'
  simp only [Result.ok.injEq, true_and] at hu'
  refine ⟨_, hs1, ?_, ⟨es1, clock1, es', clock', hb1, rfl⟩⟩
  rw [← hu'] at hown
  obtain ⟨es3, clock3, hb3, r⟩ := hown
  rw [heap_setBlock_same hb _] at hb3
  exact ⟨es3, clock3, (heap_setBlock_same hb1 _).trans hb3, r⟩
end

/-- A row of infos of the call's own. -/
def OwnF (w : World) (B : Nat) (v : Value) (n : Nat) (L : List Inf) : Prop := w.ownsRow B 59 6 v n (L.flatMap ifc)
theorem flat_len (L : List Inf) : (L.flatMap ifc).length = L.length * 6 := by
  induction L with
  | nil => rfl
  | cons x L ih => simp [ifc, ih]; omega
theorem flat_get : ∀ (L : List Inf) (k j : Nat) (x : Inf) (v : Value), L[k]? = some x → (ifc x)[j]? = some v → (L.flatMap ifc)[k * 6 + j]? = some v
  | [], k, j, x, v, h, _ => by simp at h
  | y :: L, 0, j, x, v, h, hv => by
    simp at h
    subst h
    have hj : j < (ifc y).length := by
      rcases Nat.lt_or_ge j (ifc y).length with h1 | h1
      · exact h1
      · rw [List.getElem?_eq_none h1] at hv; cases hv
    rw [List.flatMap_cons, Nat.zero_mul, Nat.zero_add, List.getElem?_append_left hj]
    exact hv
  | y :: L, k + 1, j, x, v, h, hv => by
    simp at h
    have e : (k + 1) * 6 + j = (ifc y).length + (k * 6 + j) := by simp [ifc]; omega
    rw [List.flatMap_cons, e, List.getElem?_append_right (Nat.le_add_right _ _), Nat.add_sub_cancel_left]
    exact flat_get L k j x v h hv
theorem OwnF.len {w : World} {B : Nat} {v : Value} {n : Nat} {L : List Inf} (h : OwnF w B v n L) : L.length = n := by
  have := h.1
  rw [flat_len] at this
  omega
theorem OwnF.ifs {w : World} {B : Nat} {v : Value} {n : Nat} {L : List Inf} (h : OwnF w B v n L) : ∃ a c, v = .slice a n c ∧ Ifs w a n L ∧ n ≤ c ∧ c ≤ 9223372036854775807 ∧ (∀ x, a = some x → B ≤ x.block ∧ x.block < w.heap.size) := by
  have hl := h.len
  rcases h.2 with ⟨rfl, rfl⟩ | ⟨g, cap, cur, rfl, hb, hg, hnc, hm, hsz, htake⟩
  · exact ⟨none, 0, rfl, ⟨hl, .inl rfl⟩, Nat.le_refl _, by omega, (fun x hx => by cases hx)⟩
  · refine ⟨some ⟨g, 0, none⟩, cap, rfl, ⟨hl, .inr ⟨g, 0, rfl, lt_of_block hg, fun k j x v hk hj => ?_⟩⟩, hnc, by unfold maxLen at hm; omega, fun x hx => by cases hx; exact ⟨hb, lt_of_block hg⟩⟩
    have hc := h.cells (g := g) rfl (k * 6 + j) v (flat_get L k j x v hk hj)
    have e : (⟨g, 0, none⟩ : Addr).add (k * 6 + j) = ⟨g, 0 + k * 6 + j, none⟩ := by
      unfold Addr.add
      split
      · simp
      · simp_all
    rw [← e]
    exact hc

/-- The rows of a map that holds the groups of L. -/
structure GmR (w : World) (B : Nat) (L : List Inf) (D : DataW Unit) : Prop where
  rows : ∀ f c, grp L f c ≠ [] → ∃ g cap, D.atKey (keyK f c) .nil = ptG g (grp L f c).length cap ∧ OwnF w B (.slice (some ⟨g, 0, none⟩) (grp L f c).length cap) (grp L f c).length (grp L f c)
  apart : ∀ f c f' c' g n k n' k', grp L f c ≠ [] → grp L f' c' ≠ [] → D.atKey (keyK f c) .nil = ptG g n k → D.atKey (keyK f' c') .nil = ptG g n' k' → f = f' ∧ c = c'
theorem GmR.block {w : World} {B : Nat} {L : List Inf} {D : DataW Unit} (h : GmR w B L D) {f c : Int} {g n k : Nat} (hne : grp L f c ≠ []) (ha : D.atKey (keyK f c) .nil = ptG g n k) : ∃ cur fr, w.heap[g]? = some (.cells cur 59 fr) ∧ B ≤ g := by
  obtain ⟨g', cap, ha', ho⟩ := h.rows f c hne
  rw [ha] at ha'
  obtain ⟨rfl, _, _⟩ := ptG_inj ha'
  rcases ho.2 with ⟨e, _⟩ | ⟨g2, cap2, cur, e, hb, hg, _⟩
  · cases e
  · cases e
    exact ⟨cur, _, hg, hb⟩
theorem GmR.kept {w w' : World} {B : Nat} {L : List Inf} {D : DataW Unit} {row : Option Nat} (h : GmR w B L D) (hg : w.grownBy w' row) (hr : ∀ f c g n k, grp L f c ≠ [] → D.atKey (keyK f c) .nil = ptG g n k → some g ≠ row) : GmR w' B L D := by
  refine ⟨fun f c hne => ?_, h.apart⟩
  obtain ⟨g, cap, ha, ho⟩ := h.rows f c hne
  exact ⟨g, cap, ha, ho.kept hg (.inr (hr f c g _ _ hne ha))⟩
/-- A map that holds the groups of L. -/
structure GmD (w : World) (B mb n : Nat) (L : List Inf) (D : DataW Unit) : Prop extends GmR w B L D where
  own : w.ownsMap Tryz.prog 123 elemG mb n D
  keys : ∀ kl, Maps.has D kl = true → ∃ f c, kl = keyK f c ∧ grp L f c ≠ []
  has : ∀ f c, grp L f c ≠ [] → Maps.has D (keyK f c) = true
/-- All are numbers. -/
def AllW (L : List Inf) : Prop := ∀ x ∈ L, x.W
theorem grp_wn {L : List Inf} (hW : AllW L) {f c : Int} (h : grp L f c ≠ []) : Wn f ∧ Wn c := by
  obtain ⟨x, hx⟩ := List.exists_mem_of_ne_nil _ h
  obtain ⟨h1, h2⟩ := hW x (List.mem_filter.1 hx).1
  obtain ⟨e1, e2, e3⟩ := Inf.of_key (grp_mem hx)
  unfold Inf.ok at e3
  rw [decide_eq_true_eq] at e3
  exact ⟨WalkArith.wf_i64 (by omega), WalkArith.wf_i64 (by omega)⟩
theorem GmD.start (w : World) (B : Nat) : GmD (w.alloc (.map #[] 0)) B w.heap.size 0 [] (.map []) :=
  { rows := fun f c h => absurd rfl h, apart := fun f c f' c' g n k n' k' h => absurd rfl h, own := World.ownsMap_made w _ _ _, keys := (fun _ h => by cases h), has := fun f c h => absurd rfl h }
theorem GmD.kept {w w' : World} {B mb n : Nat} {L : List Inf} {D : DataW Unit} (h : GmD w B mb n L D) (hg : w.grownBy w' none) : GmD w' B mb n L D :=
  { h.toGmR.kept hg (fun _ _ _ _ _ _ _ => by simp) with own := h.own.kept hg (by simp), keys := h.keys, has := h.has }
theorem GmD.skip {w : World} {B mb n : Nat} {L : List Inf} {D : DataW Unit} {x : Inf} (h : GmD w B mb n L D) (hx : x.ok = false) : GmD w B mb n (L ++ [x]) D := by
  have e : ∀ f c, grp (L ++ [x]) f c = grp L f c := fun f c => by
    rw [grp_append, grp_none (B := [x]) (fun y hy => by rw [List.mem_singleton.1 hy]; exact Inf.of_not hx f c), List.append_nil]
  have e' : grp (L ++ [x]) = grp L := by funext f c; exact e f c
  refine { rows := ?_, apart := ?_, own := h.own, keys := ?_, has := ?_ }
  · rw [e']; exact h.rows
  · rw [e']; exact h.apart
  · rw [e']; exact h.keys
  · rw [e']; exact h.has
theorem grp_snoc {L : List Inf} {x : Inf} {f c : Int} (hx : x.of f c = true) : grp (L ++ [x]) f c = grp L f c ++ [x] := by
  rw [grp_append, grp_all (B := [x]) (fun y hy => by rw [List.mem_singleton.1 hy]; exact hx)]
theorem grp_snoc_other {L : List Inf} {x : Inf} {f c f' c' : Int} (hx : x.of f c = true) (hne : ¬ (f' = f ∧ c' = c)) : grp (L ++ [x]) f' c' = grp L f' c' := by
  obtain ⟨e1, e2, _⟩ := Inf.of_key hx
  rw [grp_append, grp_none (B := [x]) (fun y hy => by rw [List.mem_singleton.1 hy]; exact Inf.of_other (by rw [e1, e2]; intro h; exact hne ⟨h.1.symm, h.2.symm⟩)), List.append_nil]
/-- What the entry is before the append: the row of those that are there. -/
theorem GmD.entry {w w1 : World} {B mb n : Nat} {L : List Inf} {D : DataW Unit} {f c : Int} {v0 : Value} {ps : List MemPlace} (h : GmD w B mb n L D) (hW : AllW L) (hf : Wn f) (hc : Wn c) (hv : elemG v0 = some (D.atKey (keyK f c) .nil, ps)) (ht : w.mapTurned w1 mb) :
    OwnF w1 B v0 (grp L f c).length (grp L f c) ∧ GmR w1 B L D ∧ (grp L f c = [] → v0 = .slice none 0 0) ∧ (grp L f c ≠ [] → ∃ g k, v0 = .slice (some ⟨g, 0, none⟩) (grp L f c).length k ∧ D.atKey (keyK f c) .nil = ptG g (grp L f c).length k) := by
  have hr1 : GmR w1 B L D := h.toGmR.kept ht.grown (fun f' c' g n' k' hne ha e => by
    obtain ⟨cur, fr, hb, _⟩ := h.toGmR.block hne ha
    obtain ⟨es, clock, hm, _⟩ := h.own
    rw [Option.some.inj e] at hb
    rw [hb] at hm
    cases hm)
  by_cases hne : grp L f c = []
  · have hh : Maps.has D (keyK f c) = false := by
      cases hh : Maps.has D (keyK f c) with
      | false => rfl
      | true =>
        obtain ⟨f', c', e, hne'⟩ := h.keys _ hh
        obtain ⟨wf', wc'⟩ := grp_wn hW hne'
        obtain ⟨rfl, rfl⟩ := keyK_inj hf hc wf' wc' e
        exact absurd hne hne'
    rw [atKey_of_not_has hh] at hv
    obtain rfl := elemG_nil hv
    rw [hne]
    exact ⟨World.ownsRow_nil _ _ _ _, hr1, fun _ => rfl, fun h => absurd rfl h⟩
  · obtain ⟨g, cap, ha, ho⟩ := hr1.rows f c hne
    rw [ha] at hv
    obtain rfl := elemG_pt hv
    exact ⟨ho, hr1, fun h => absurd h hne, fun _ => ⟨g, cap, rfl, ha⟩⟩
/-- One info more. -/
theorem GmD.step {w w1 w2 w3 : World} {B mb n : Nat} {L : List Inf} {D : DataW Unit} {x : Inf} {f c : Int} {v0 : Value} {ps : List MemPlace} {g cap : Nat} (h : GmD w B mb n L D) (hW : AllW L) (hx : x.of f c = true) (hf : Wn f) (hc : Wn c)
    (hv : elemG v0 = some (D.atKey (keyK f c) .nil, ps)) (ht : w.mapTurned w1 mb) (hg : w1.grownBy w2 v0.ownBlock) (hat : v0.ownBlock = some g ∨ g = w1.heap.size)
    (ho : OwnF w2 B (.slice (some ⟨g, 0, none⟩) ((grp L f c).length + 1) cap) ((grp L f c).length + 1) (grp L f c ++ [x]))
    (h3 : w3.ownsMap Tryz.prog 123 elemG mb (n + 1) (D.put (keyK f c) (ptG g ((grp L f c).length + 1) cap))) (ht3 : w2.mapTurned w3 mb) : GmD w3 B mb (n + 1) (L ++ [x]) (D.put (keyK f c) (ptG g ((grp L f c).length + 1) cap)) := by
  obtain ⟨_, hr1, hv1, hv2⟩ := h.entry hW hf hc hv ht
  have hm := h.own.isMap
  have hk := isKeyK hf hc
  have hmb1 : ∃ es clock, w1.heap[mb]? = some (.map es clock) := by
    obtain ⟨es, clock, es', clock', a, b⟩ := ht
    exact ⟨es', clock', by rw [b]; exact heap_setBlock_same a _⟩
  have hmb2 : ∃ es clock, w2.heap[mb]? = some (.map es clock) := by
    obtain ⟨es, clock, es', clock', a, _⟩ := ht3
    exact ⟨es, clock, a⟩
  have hgs : ∃ cur fr, w2.heap[g]? = some (.cells cur 59 fr) := by
    rcases ho.2 with ⟨e, _⟩ | ⟨g2, cap2, cur, e, hb, hg2, _⟩
    · cases e
    · cases e; exact ⟨cur, _, hg2⟩
  have hgm : ∀ {g'}, (∃ cur fr, w2.heap[g']? = some (.cells cur 59 fr)) → some g' ≠ some mb := fun ⟨cur, fr, hh⟩ e => by
    obtain ⟨es, clock, hmb⟩ := hmb2
    rw [Option.some.inj e, hmb] at hh
    cases hh
  have hs3 : (grp (L ++ [x]) f c) = grp L f c ++ [x] := grp_snoc hx
  have hl3 : (grp (L ++ [x]) f c).length = (grp L f c).length + 1 := by rw [hs3, List.length_append]; rfl
  -- other rows
  have hoth : ∀ f' c', ¬ (f' = f ∧ c' = c) → grp L f' c' ≠ [] → ∃ g' cap', D.atKey (keyK f' c') .nil = ptG g' (grp L f' c').length cap' ∧ OwnF w3 B (.slice (some ⟨g', 0, none⟩) (grp L f' c').length cap') (grp L f' c').length (grp L f' c') ∧ g' ≠ g := by
    intro f' c' hne hng
    obtain ⟨g', cap', ha', ho'⟩ := hr1.rows f' c' hng
    have hb1 : g' < w1.heap.size := (ho'.lt g' rfl).2
    have hne1 : v0.ownBlock ≠ some g' := by
      intro e
      by_cases h0 : grp L f c = []
      · rw [hv1 h0] at e; cases e
      · obtain ⟨g0, k0, rfl, ha0⟩ := hv2 h0
        have : g0 = g' := by simpa [Value.ownBlock] using e
        subst this
        exact hne (h.apart f' c' f c _ _ _ _ _ hng h0 ha' ha0)
    have ho2 : OwnF w2 B (.slice (some ⟨g', 0, none⟩) (grp L f' c').length cap') (grp L f' c').length (grp L f' c') := World.ownsRow.kept ho' hg (.inr (fun e => hne1 e.symm))
    have hc2 : ∃ cur fr, w2.heap[g']? = some (.cells cur 59 fr) := by
      rcases ho2.2 with ⟨e, _⟩ | ⟨g2, cap2, cur, e, hb, hg2, _⟩
      · cases e
      · cases e; exact ⟨cur, _, hg2⟩
    refine ⟨g', cap', ha', World.ownsRow.kept ho2 ht3.grown (.inr (hgm hc2)), fun e => ?_⟩
    rcases hat with h1 | h1
    · exact hne1 (by rw [h1, e])
    · omega
  refine { rows := ?_, apart := ?_, own := h3, keys := ?_, has := ?_ }
  · intro f' c' hne
    by_cases e : f' = f ∧ c' = c
    · obtain ⟨rfl, rfl⟩ := e
      refine ⟨g, cap, ?_, ?_⟩
      · rw [hl3]; exact atKey_put_same hm hk _ _
      · rw [hl3, hs3]; exact World.ownsRow.kept ho ht3.grown (.inr (hgm hgs))
    · have e2 := grp_snoc_other (L := L) hx e
      rw [e2] at hne ⊢
      obtain ⟨g', cap', a, b, _⟩ := hoth f' c' e hne
      obtain ⟨wf', wc'⟩ := grp_wn hW hne
      refine ⟨g', cap', ?_, b⟩
      rw [atKey_put_other (fun x => e (keyK_inj wf' wc' hf hc x))]
      exact a
  · intro f1 c1 f2 c2 g0 n1 k1 n2 k2 hn1 hn2 ha1 ha2
    by_cases e1 : f1 = f ∧ c1 = c
    · obtain ⟨rfl, rfl⟩ := e1
      by_cases e2 : f2 = f1 ∧ c2 = c1
      · exact ⟨e2.1.symm, e2.2.symm⟩
      · exfalso
        rw [grp_snoc_other hx e2] at hn2
        obtain ⟨wf', wc'⟩ := grp_wn hW hn2
        rw [atKey_put_other (fun x => e2 (keyK_inj wf' wc' hf hc x))] at ha2
        rw [atKey_put_same hm hk] at ha1
        obtain ⟨g', cap', a, _, hd⟩ := hoth f2 c2 e2 hn2
        rw [a] at ha2
        exact hd ((ptG_inj ha2).1.trans (ptG_inj ha1).1.symm)
    · rw [grp_snoc_other hx e1] at hn1
      obtain ⟨wf1, wc1⟩ := grp_wn hW hn1
      rw [atKey_put_other (fun x => e1 (keyK_inj wf1 wc1 hf hc x))] at ha1
      by_cases e2 : f2 = f ∧ c2 = c
      · exfalso
        obtain ⟨rfl, rfl⟩ := e2
        rw [atKey_put_same hm hk] at ha2
        obtain ⟨g', cap', a, _, hd⟩ := hoth f1 c1 e1 hn1
        rw [a] at ha1
        exact hd ((ptG_inj ha1).1.trans (ptG_inj ha2).1.symm)
      · rw [grp_snoc_other hx e2] at hn2
        obtain ⟨wf2, wc2⟩ := grp_wn hW hn2
        rw [atKey_put_other (fun x => e2 (keyK_inj wf2 wc2 hf hc x))] at ha2
        exact h.apart f1 c1 f2 c2 g0 n1 k1 n2 k2 hn1 hn2 ha1 ha2
  · intro kl hk'
    by_cases e : kl = keyK f c
    · exact ⟨f, c, e, by rw [hs3]; simp⟩
    · rw [has_put_other e] at hk'
      obtain ⟨f', c', rfl, hne⟩ := h.keys kl hk'
      refine ⟨f', c', rfl, ?_⟩
      rw [grp_snoc_other hx (fun x => e (by rw [x.1, x.2]))]
      exact hne
  · intro f' c' hne
    by_cases e : f' = f ∧ c' = c
    · obtain ⟨rfl, rfl⟩ := e
      exact has_put_same hm hk _
    · rw [grp_snoc_other hx e] at hne
      obtain ⟨wf', wc'⟩ := grp_wn hW hne
      rw [has_put_other (fun x => e (keyK_inj wf' wc' hf hc x))]
      exact h.has f' c' hne
end Go.Proofs.YtegmeoghonolcaaGreat

/-
  The group that infos make, by contract.
-/
namespace Go.Proofs.YtegmeoghonolcaaGreat
open Go.RowKit
set_option linter.unusedVariables false

theorem OwnI.setLow {w : World} {B : Nat} {v : Value} {n : Nat} {ks : List Int} (h : OwnI w B v n ks) {p : Addr} (hp : p.block < B) (u : Value) : OwnI (w.setCell p u) B v n ks := ownsRow_setCell_below h hp u
/-- A group lies in block b, free to be written. -/
structure Gx (w : World) (b : Nat) (q r : Int) (v : Value) : Prop where
  lt : b < w.heap.size
  c0 : w.cell? ⟨b, 0, none⟩ = some (.int .i64 q)
  c1 : w.cell? ⟨b, 1, none⟩ = some (.int .i64 r)
  c2 : w.cell? ⟨b, 2, none⟩ = some v
  f0 : w.frozen? ⟨b, 0, none⟩ = false
  f1 : w.frozen? ⟨b, 1, none⟩ = false
  f2 : w.frozen? ⟨b, 2, none⟩ = false
theorem Gx.below {w w' : World} {b B : Nat} {q r : Int} {v : Value} (h : Gx w b q r v) (hb : Below B w w') (hB : b < B) : Gx w' b q r v :=
  ⟨Nat.lt_of_lt_of_le h.lt hb.size, (hb.cell (p := ⟨b, 0, none⟩) hB).trans h.c0, (hb.cell (p := ⟨b, 1, none⟩) hB).trans h.c1, (hb.cell (p := ⟨b, 2, none⟩) hB).trans h.c2,
    (hb.frozen (p := ⟨b, 0, none⟩) hB).trans h.f0, (hb.frozen (p := ⟨b, 1, none⟩) hB).trans h.f1, (hb.frozen (p := ⟨b, 2, none⟩) hB).trans h.f2⟩
theorem Gx.next {w w' : World} {b : Nat} {q r : Int} {v : Value} (h : Gx w b q r v) (hb : Below w.heap.size w w') : Gx w' b q r v := h.below hb h.lt
theorem Gx.set {w : World} {b : Nat} {q r : Int} {v : Value} (h : Gx w b q r v) (u : Value) : Gx (w.setCell ⟨b, 2, none⟩ u) b q r u := by
  refine ⟨by simpa using h.lt, ?_, ?_, World.cell?_setCell_same _ _ _ h.c2, by simpa using h.f0, by simpa using h.f1, by simpa using h.f2⟩
  · rw [World.cell?_setCell_other _ _ _ _ (by simp)]; exact h.c0
  · rw [World.cell?_setCell_other _ _ _ _ (by simp)]; exact h.c1
/-- Three cells of a group are stored. -/
def setG (w : World) (b : Nat) (q r : Int) (v : Value) : World := ((w.setCell ⟨b, 0, none⟩ (.int .i64 q)).setCell ⟨b, 1, none⟩ (.int .i64 r)).setCell ⟨b, 2, none⟩ v
theorem set_othG {w : World} {a b : Addr} {v : Value} (h : a ≠ b) : (w.setCell a v).cell? b = w.cell? b := World.cell?_setCell_other _ _ _ _ h
theorem set_sameG {w : World} {a : Addr} {v u : Value} (h : w.cell? a = some u) : (w.setCell a v).cell? a = some v := World.cell?_setCell_same _ _ _ h
theorem Gx.set3 {w : World} {b : Nat} {q r : Int} {v : Value} (h : Gx w b q r v) (p s : Int) (u : Value) : Gx (setG w b p s u) b p s u := by
  refine ⟨by simpa [setG] using h.lt, ?_, ?_, ?_, by simpa [setG] using h.f0, by simpa [setG] using h.f1, by simpa [setG] using h.f2⟩
  · rw [setG, set_othG (by simp), set_othG (by simp), set_sameG h.c0]
  · rw [setG, set_othG (by simp), set_sameG ((set_othG (by simp)).trans h.c1)]
  · rw [setG, set_sameG ((set_othG (by simp)).trans ((set_othG (by simp)).trans h.c2))]
theorem _root_.Go.RowKit.Below.setG {w0 w : World} {B b : Nat} {p q : Int} {r : Value} (h : Below B w0 w) (hb : B ≤ b) : Below B w0 (setG w b p q r) := ((h.setCell (p := ⟨b, 0, none⟩) hb _).setCell (p := ⟨b, 1, none⟩) hb _).setCell (p := ⟨b, 2, none⟩) hb _
theorem OwnI.lower {w : World} {B C : Nat} {v : Value} {n : Nat} {ks : List Int} (h : OwnI w B v n ks) (hC : C ≤ B) : OwnI w C v n ks := by
  refine ⟨h.1, ?_⟩
  rcases h.2 with h0 | ⟨g, cap, cur, a, b, c⟩
  · exact .inl h0
  · exact .inr ⟨g, cap, cur, a, Nat.le_trans hC b, c⟩
theorem OwnI.setG {w : World} {B b : Nat} {p q : Int} {r v : Value} {n : Nat} {ks : List Int} (h : OwnI w B v n ks) (hb : b < B) : OwnI (setG w b p q r) B v n ks := ((h.setLow (p := ⟨b, 0, none⟩) hb _).setLow (p := ⟨b, 1, none⟩) hb _).setLow (p := ⟨b, 2, none⟩) hb _
/-- A group that is answered: its segments are new. -/
def GoPost (w : World) (f r : Int) (ks : List Int) (e : Ending) (w' : World) : Prop := ∃ a c, e = .returned (.agg #[.int .i64 f, .int .i64 r, .slice a ks.length c]) ∧ OwnI w' w.heap.size (.slice a ks.length c) ks.length ks ∧ Below w.heap.size w w'

set_option maxHeartbeats 4000000 in
theorem groupOf_any (f cn : Int) (a : Option Addr) (n c : Nat) (L : List Inf) (w : World) (h : Ifs w a n L) (h0 : 0 < n) (hn : n ≤ 1000000000000) :
    Calls Tryz.prog 61 #[.agg #[.int .i64 f, .int .i64 cn], .slice a n c] w (GoPost w f (L.getLastD default).r (L.map Inf.g)) := by
  obtain ⟨m, hm⟩ : ∃ m, n = m + 1 := ⟨n - 1, by omega⟩
  obtain ⟨b, off, g, q, cc, i, bb, r, rfl, hbl, hx, y0, y1, y2, y3, y4, y5⟩ := h.at (k := m) (by omega)
  have hr : (L.getLastD default).r = r := by
    have hl := h.len
    rw [List.getLastD_eq_getLast?, List.getLast?_eq_getElem?, hl, show n - 1 = m by omega, hx]
    rfl
  rw [hr]
  have HL := Lib.hid h.len
  have w1 : IntKind.i64.wrap ((n : Int) - 1) = (m : Int) := by rw [show (n : Int) - 1 = (m : Int) by omega]; exact IntWalk.i64_in _ (by omega)
  obtain ⟨X, hX⟩ : ∃ X, X = (w.alloc (.cells #[.int .i64 f, .int .i64 cn] 123 (0, 0))).alloc (.cells #[.int .i64 0, .int .i64 0, .slice none 0 0] 63 (0, 0)) := ⟨_, rfl⟩
  have x0 : X.cell? ⟨w.heap.size, 0, none⟩ = some (.int .i64 f) := by rw [hX]; simp
  have hBX : Below w.heap.size w X := by rw [hX]; exact bel2 _ _ _
  have hsX : X.heap.size = w.heap.size + 1 + 1 := by rw [hX]; simp
  have y5' := (hBX.cell (p := ⟨b, off + m * 6 + 5, none⟩) hbl).trans y5
  have HS := Lib.hid hsX
  have HBX := Lib.hid hBX
  have HX := Lib.hid hX
  have HH := Lib.hid h
  clear y0 y1 y2 y3 y4 y5 hx hr hBX hsX h
  have k0 : (0 : Int) ≤ (m : Int) := by omega
  have k1 : (m : Int) < (n : Int) := by omega
  have HM := Lib.hid hm
  clear hm
  go_enter Tryz.func61, Tryz.ntmps61
  go_wp2_with (fail)
  rw [← hX]
  clear hX
  refine wp_region_held_drew (S := (fun w' => w'.cell? ⟨w.heap.size, 0, none⟩ = some (.int .i64 f) ∧ w'.cell? ⟨b, off + m * 6 + 5, none⟩ = some (.int .i64 r))) (by kernel_rfl) ?_ (fun hHeld => ?_)
  · exact ⟨x0, y5'⟩
  refine rgY 0 ?_ rfl (by kernel_rfl) (fun _ _ _ h => h) (.inl ⟨by rfl, fun w hSw => ?_⟩) (by assumption) ?_
  rotate_left
  · (try dsimp only at hSw); go_simp; try with_reducible rfl
  simp only [Act.put, rg1, rg2, rg3, rg4, rg6]
  refine rgY 1 ?_ rfl (by kernel_rfl) (fun _ _ _ h => h) (.inl ⟨by rfl, fun w hSw => ?_⟩) (by assumption) ?_
  rotate_left
  · (try dsimp only at hSw); go_simp; try with_reducible rfl
  simp only [Act.put, rg1, rg2, rg3, rg4, rg5, rg6]
  refine rgY 2 ?_ rfl (by kernel_rfl) (fun _ _ _ h => h) (.inl ⟨by rfl, fun w hSw => ?_⟩) (by assumption) ?_
  rotate_left
  · (try dsimp only at hSw); go_simp; try with_reducible rfl
  simp only [Act.put, rg1, rg2, rg3, rg4, rg5, rg6]
  refine rgY 3 ?_ rfl (by kernel_rfl) (fun _ _ _ h => h) (.inl ⟨by rfl, fun w hSw => ?_⟩) (by assumption) ?_
  rotate_left
  · (try dsimp only at hSw); go_simp; try with_reducible rfl
  simp only [Act.put, rg1, rg2, rg3, rg4, rg5, rg6]
  refine rgY 4 ?_ rfl (by kernel_rfl) (fun _ _ _ h => h) (.inl ⟨by rfl, fun w hSw => ?_⟩) (by assumption) ?_
  rotate_left
  · (try dsimp only at hSw); go_simp; try with_reducible rfl
  simp only [Act.put, rg1, rg2, rg3, rg4, rg5, rg6]
  refine rgY 5 ?_ rfl (by kernel_rfl) (fun _ _ _ h => h) (.inl ⟨by rfl, fun w hSw => ?_⟩) (by assumption) ?_
  rotate_left
  · (try dsimp only at hSw); go_simp; try with_reducible rfl
  simp only [Act.put, rg1, rg2, rg3, rg4, rg5, rg6]
  refine rgY 6 ?_ rfl (by kernel_rfl) (fun _ _ _ h => h) (.inl ⟨by rfl, fun w hSw => ?_⟩) (by assumption) ?_
  rotate_left
  · (try dsimp only at hSw); go_simp; try with_reducible rfl
  simp only [Act.put, rg1, rg2, rg3, rg4, rg5, rg6]
  refine rgY 7 ?_ rfl (by kernel_rfl) (fun _ _ _ h => h) (.inl ⟨by rfl, fun w hSw => ?_⟩) (by assumption) ?_
  rotate_left
  · (try dsimp only at hSw); go_simp; try with_reducible rfl
  simp only [Act.put, rg1, rg2, rg3, rg4, rg5, rg6]
  refine rgY 8 ?_ rfl (by kernel_rfl) (fun _ _ _ h => h) (.inl ⟨by rfl, fun w hSw => ?_⟩) (by assumption) ?_
  rotate_left
  · (try dsimp only at hSw); go_simp; try with_reducible rfl
  simp only [Act.put, rg1, rg2, rg3, rg4, rg5, rg6]
  refine rgY 9 ?_ rfl (by kernel_rfl) (fun _ _ _ h => h) (.inl ⟨by rfl, fun w hSw => ?_⟩) (by assumption) ?_
  rotate_left
  · (try dsimp only at hSw); go_simp; try with_reducible rfl
  simp only [Act.put, rg1, rg2, rg3, rg4, rg5, rg6]
  refine rgY 10 ?_ rfl (by kernel_rfl) (fun _ _ _ h => h) (.inl ⟨by rfl, fun w hSw => ?_⟩) (by assumption) ?_
  rotate_left
  · (try dsimp only at hSw); go_simp; try with_reducible rfl
  simp only [Act.put, rg1, rg2, rg3, rg4, rg5, rg6]
  refine wpAnyH_ready (rs := [11]) (by kernel_rfl) (by simp) ?_
  refine AllReadyH.cons rfl (fun K hK => ?_) AllReadyH.nil
  simp only [List.getElem_toArray, List.getElem_cons_succ, List.getElem_cons_zero]
  go_simp
  obtain ⟨G, hG⟩ : ∃ G, G = X.heap.size := ⟨_, rfl⟩
  have HG := Lib.hid hG
  have hb1 : Below X.heap.size X (X.alloc (.cells #[.int .i64 0, .int .i64 0, .slice none 0 0] 63 (0, 0))).drew := below_drewN ((Below.refl _ _).alloc (Nat.le_refl _) _) 1
  refine hK.out _ _ ⟨(hb1.cell (p := ⟨w.heap.size, 0, none⟩) (by rw [HS.out]; show w.heap.size < _; omega)).trans x0, (hb1.cell (p := ⟨b, off + m * 6 + 5, none⟩) (by rw [HS.out]; show b < _; omega)).trans y5'⟩ (fun hHeld => ?_)
  clear hK K hb1
  refine wpAnyH_ready (rs := [12]) (by kernel_rfl) (by simp) ?_
  refine AllReadyH.cons rfl (fun K hK => ?_) AllReadyH.nil
  simp only [List.getElem_toArray, List.getElem_cons_succ, List.getElem_cons_zero]
  go_simp
  obtain ⟨Y, hY⟩ : ∃ Y, Y = (X.alloc (.cells #[.int .i64 f, .int .i64 r, .slice none 0 0] 63 (0, 0))).drew := ⟨_, rfl⟩
  have hb2 : Below X.heap.size X Y := by rw [hY]; exact below_drewN ((Below.refl _ _).alloc (Nat.le_refl _) _) 1
  have hgx : Gx Y G f r (.slice none 0 0) := by
    rw [hY, hG]
    exact ⟨by show _ < (X.alloc _).heap.size; simp, by show (X.alloc _).cell? _ = _; simp, by show (X.alloc _).cell? _ = _; simp, by show (X.alloc _).cell? _ = _; simp, by show (X.alloc _).frozen? _ = _; simp, by show (X.alloc _).frozen? _ = _; simp, by show (X.alloc _).frozen? _ = _; simp⟩
  have hrx : Gx X (w.heap.size + 1) 0 0 (.slice none 0 0) := by
    rw [HX.out]
    exact ⟨by simp, by simp, by simp, by simp, by simp, by simp, by simp⟩
  rw [← hY, ← hG]
  have HRX := Lib.hid hrx
  have hG1 : G = w.heap.size + 1 + 1 := by rw [hG]; exact HS.out
  have HG1 := Lib.hid hG1
  have hgw : w.heap.size + 1 < G := by omega
  have hGX : X.heap.size ≤ G := by omega
  refine hK.out _ _ ⟨(hb2.cell (p := ⟨w.heap.size, 0, none⟩) (by show w.heap.size < _; omega)).trans x0, (hb2.cell (p := ⟨b, off + m * 6 + 5, none⟩) (by show b < _; omega)).trans y5'⟩ (fun hHeld => ?_)
  have hb3 : Below G X Y := by rw [hG]; exact hb2
  clear hK K hHeld x0 y5' hY hrx hG hG1 hb2
  refine wpAnyH_done (by kernel_rfl) ?_ _
  go_wp2_with (fail)
  go_loopw [7, 21] (fun _p v wr => ∃ (k : Nat) (u : Value), k ≤ n ∧ v = .int .i64 k ∧ Gx wr G f r u ∧ OwnI wr (G + 1) u k ((L.take k).map Inf.g) ∧ Below G X wr) (fun _ v _ => n - (RowKit.intOf v).toNat)
  case atStart => exact ⟨0, _, Nat.zero_le _, rfl, hgx, ownI_nil _ _, hb3⟩
  case round =>
    clear hgx hb3
    obtain ⟨k, u, hk, rfl, hgx, ho, hb⟩ := hrel
    have HB := Lib.hid hb
    have hbw : Below w.heap.size w wr := HBX.out.trans (hb.mono (by omega))
    have HBW := Lib.hid hbw
    have hbs := hb.size
    have hgl := hgx.lt
    by_cases hlt : k < n
    · obtain ⟨b', off', g', q', c', i', m', r', e', hbl', hx, y0, y1, y2, y3, y4, y5⟩ := (HH.out.next hbw).at hlt
      cases e'
      have htk : (L.take (k + 1)).map Inf.g = (L.take k).map Inf.g ++ [g'] := by
        rw [List.take_add_one, hx]
        simp
      have HT := Lib.hid htk
      have z0 := hgx.c0
      have z2 := hgx.c2
      obtain ⟨au, cu, rfl, _, _, _, _⟩ := ho.ins
      obtain ⟨w1, hw1⟩ : ∃ w1, w1 = (wr.alloc (.cells #[.int .i64 g', .int .i64 q', .int .i64 c', .int .i64 i', .int .i64 m', .int .i64 r'] 59 (0, 0))).alloc (.cells #[.int .i64 g'] 3 (0, 0)) := ⟨_, rfl⟩
      have hb1 : Below wr.heap.size wr w1 := by rw [hw1]; exact bel2 _ _ _
      have hs1 : w1.heap.size = wr.heap.size + 1 + 1 := by rw [hw1]; simp
      have hn1 : w1.cell? ⟨wr.heap.size + 1, 0, none⟩ = some (.int .i64 g') := by rw [hw1]; simp
      have ho1 := ho.next hb1
      have HGX1 := Lib.hid (hgx.next hb1)
      have HB1 := Lib.hid (HB.out.trans (hb1.mono (by omega)))
      have HW1 := Lib.hid hw1
      clear hx htk hb hbw hgx hb1 ho
      go_wp2_with (at_builtin; rw [← hw1]; go_must (refine wpList_api rfl (.tmp 26) (.tmp 29) rfl (G + 1) _ k _ rfl ho1 (wr.heap.size + 1) g' rfl hn1 (by omega) (by omega) w1 (Below.refl _ _) ?_); intro v4 w4 ho4 hB4; obtain ⟨a4, c4, rfl, _, _, _, _⟩ := ho4.ins; have hg4 := HGX1.out.below hB4 (Nat.lt_succ_self _); have z5 := hg4.c2; have z6 := hg4.f2; have HG4 := Lib.hid hg4; have HO4 := Lib.hid ho4; have HB4 := Lib.hid (HB1.out.trans (hB4.mono (by omega))); clear hg4 ho4 hB4 hw1 ho1 hn1)
      go_roundw
      case rel =>
        refine ⟨k + 1, _, by omega, by go_num, HG4.out.set _, ?_, HB4.out.setCell (Nat.le_refl _) _⟩
        rw [HT.out]
        exact HO4.out.setLow (Nat.lt_succ_self _) _
      case measure => simp [RowKit.intOf]; omega
    · obtain rfl : k = n := by omega
      have z0 := hgx.c0
      have z1 := hgx.c1
      have z2 := hgx.c2
      have hrx := HRX.out.below hb (by omega)
      have x0 := hrx.c0
      have x1 := hrx.c1
      have x2 := hrx.c2
      have f0 := hrx.f0
      have f1 := hrx.f1
      have f2 := hrx.f2
      have hl : ((L.take k).map Inf.g) = L.map Inf.g := by rw [List.take_of_length_le (by rw [HL.out]; exact Nat.le_refl _)]
      rw [hl] at ho
      obtain ⟨au, cu, rfl, _, _, _, _⟩ := ho.ins
      have HO := Lib.hid ho
      have HR := Lib.hid hrx
      clear hl ho hrx hgx hb
      go_wp2_with (fail)
      have e0 := HR.out.set3 f r (.slice au k cu)
      have k0 := e0.c0
      have k1 := e0.c1
      have k2 := e0.c2
      unfold setG at k0 k1 k2
      have hlen : (L.map Inf.g).length = k := by rw [List.length_map]; exact HL.out
      refine bodyPost_ret (v := .agg #[.int .i64 f, .int .i64 r, .slice au k cu]) (by simp [results, Tryz.results61, go_sem, k0, k1, k2]) rfl ⟨au, cu, by rw [hlen], ?_, ?_⟩
      · rw [hlen]
        exact (HO.out.setG (b := w.heap.size + 1) (by omega)).lower (by omega)
      · exact HBW.out.setG (Nat.le_succ _)
end Go.Proofs.YtegmeoghonolcaaGreat

/-
  The infos of a list, by their kin, by contract.
-/
namespace Go.Proofs.YtegmeoghonolcaaGreat
open Go.RowKit Go.Maps
set_option linter.unusedVariables false

theorem infoF : (Tryz.prog.info? 59).map (fun i => (i.zero, i.size, i.bytes)) = some (some (.agg #[.int .i64 0, .int .i64 0, .int .i64 0, .int .i64 0, .int .i64 0, .int .i64 0]), 6, 48) := by kernel_rfl
/-- 'append(s, x)' of one info, s of the call's own. -/
theorem wpList_apf {w : World} {ops : Array Oper} {rest : List Oper} {o : Oper} {a : Act} {Q : Exit → Act → World → Prop} (hgd : o.guard = none) (s x : Operand)
    (ho : o.op = .call { callee := .builtin .append, args := #[s, x], argTypes := #[52, 52] })
    (B : Nat) (v : Value) (n : Nat) (L : List Inf) (hs : a.eval s = v) (hown : OwnF w B v n L) (g : Nat) (z : Inf) (hx : a.eval x = .slice (some ⟨g, 0, none⟩) 1 1) (hg : ∀ j u, (ifc z)[j]? = some u → w.cell? ⟨g, j, none⟩ = some u)
    (hn : n + 1 ≤ 1000000000000) (hB : B ≤ w.heap.size)
    (h : ∀ g' cap w', OwnF w' B (.slice (some ⟨g', 0, none⟩) (n + 1) cap) (n + 1) (L ++ [z]) → w.grownBy w' v.ownBlock → (v.ownBlock = some g' ∨ g' = w.heap.size) → wpList Tryz.prog ops Q rest (a.put o.dst (.slice (some ⟨g', 0, none⟩) (n + 1) cap)) w') : wpList Tryz.prog ops Q (o :: rest) a w := by
  obtain ⟨i0, hi, hz0, hz1, hz2⟩ := info_parts infoF
  refine wpList_append_lies (P := Tryz.prog) w hgd s x 52 ho B 59 i0 _ 6 48 Tryz.underlying52 hi hz0 hz1 hz2 rfl (by decide) v n _ hs hown ⟨g, 0, none⟩ 1 1 (ifc z) hx rfl ?_ ?_ (by decide) (by unfold maxLen; omega) (by omega) hB _ rfl ?_
  · intro j u hj
    rw [show (⟨g, 0, none⟩ : Addr).add j = ⟨g, j, none⟩ by unfold Addr.add; split <;> simp_all]
    exact hg j u hj
  · intro u hu
    simp only [ifc, List.mem_cons, List.not_mem_nil, or_false] at hu
    rcases hu with rfl | rfl | rfl | rfl | rfl | rfl <;> rfl
  · intro g' cap w' hown' hgrow hat hlt
    refine h g' cap w' ?_ hgrow hat
    unfold OwnF
    rw [List.flatMap_append]
    simpa using hown'
theorem ifc_at {w : World} {g : Nat} {a q c i b r : Int} (h : w.heap[g]? = some (.cells #[.int .i64 a, .int .i64 q, .int .i64 c, .int .i64 i, .int .i64 b, .int .i64 r] 59 (0, 0))) : ∀ j u, (ifc ⟨a, q, c, i, b, r⟩)[j]? = some u → w.cell? ⟨g, j, none⟩ = some u := by
  intro j u hj
  rw [cell_of_row w g j _ _ (0, 0) h]
  simpa [ifc] using hj

theorem below_grown {w w' : World} (h : Below w.heap.size w w') : w.grownBy w' none := ⟨h.os, h.tape, h.output, h.size, fun i hi _ => h.block i hi⟩
theorem OwnF.notMap {w : World} {B mb : Nat} {v : Value} {n : Nat} {L : List Inf} {es : Array MapEntry} {clock : Nat} (h : OwnF w B v n L) (hm : w.heap[mb]? = some (.map es clock)) : some mb ≠ v.ownBlock := by
  intro e
  rcases h.2 with ⟨rfl, _⟩ | ⟨g, cap, cur, rfl, hb, hg, _⟩
  · cases e
  · have : mb = g := by simpa [Value.ownBlock] using e
    rw [this, hg] at hm
    cases hm
/-- The map of a list's infos. -/
def BkPost (L : List Inf) (w0 : World) (e : Ending) (w' : World) : Prop := ∃ mb n D, e = .returned (.map (some mb)) ∧ GmD w' w0.heap.size mb n L D ∧ n ≤ L.length ∧ w0.heap.size ≤ mb ∧ Below w0.heap.size w0 w'
set_option maxHeartbeats 4000000 in
theorem byKin_any (a : Option Addr) (n c : Nat) (L : List Inf) (w : World) (h : Ifs w a n L) (hW : AllW L) (hn : n ≤ 1000000000) :
    Calls Tryz.prog 56 #[.slice a n c] w (BkPost L w) := by
  have HL := Lib.hid h.len
  have HW := Lib.hid hW
  have hmm := @run_makeMap Tryz.prog
  have hst := GmD.start w w.heap.size
  have hB1 : Below w.heap.size w (w.alloc (.map #[] 0)) := (Below.refl _ _).alloc (Nat.le_refl _) _
  clear hW
  go_enter Tryz.func56, Tryz.ntmps56
  go_wp2_with (fail)
  go_loopw [5, 6, 7, 11] (fun _p _q _r v wr => ∃ (k m : Nat) (D : DataW Unit), k ≤ n ∧ m ≤ k ∧ v = .int .i64 k ∧ GmD wr w.heap.size w.heap.size m (L.take k) D ∧ Below w.heap.size w wr) (fun _ _ _ v _ => n - (RowKit.intOf v).toNat)
  case atStart => exact ⟨0, 0, _, Nat.zero_le _, Nat.le_refl _, rfl, hst, hB1⟩
  case round =>
    clear hst hB1
    obtain ⟨k, m, D, hk, hmk, rfl, hgm, hb⟩ := hrel
    have HB := Lib.hid hb
    have HG := Lib.hid hgm
    have hbs := hb.size
    clear hgm
    by_cases hlt : k < n
    · obtain ⟨b, off, g, q, cc, i, mm, r, rfl, hbl, hx, y0, y1, y2, y3, y4, y5⟩ := (h.next hb).at hlt
      have HX := Lib.hid hx
      obtain ⟨X, hX⟩ : ∃ X : Inf, X = ⟨g, q, cc, i, mm, r⟩ := ⟨_, rfl⟩
      have hXW : X.W := HW.out X (by rw [hX]; exact List.mem_of_getElem? hx)
      have hxv : ifv X = .agg #[.int .i64 g, .int .i64 q, .int .i64 cc, .int .i64 i, .int .i64 mm, .int .i64 r] := by rw [hX]; rfl
      have htk : L.take (k + 1) = L.take k ++ [X] := by rw [List.take_add_one, hx, hX]; rfl
      have HT := Lib.hid htk
      have hki := kinOf_any X (wr.alloc (.cells #[.int .i64 g, .int .i64 q, .int .i64 cc, .int .i64 i, .int .i64 mm, .int .i64 r] 59 (0, 0))) hXW
      rw [hxv] at hki
      have HXX := Lib.hid hX
      have HXW := Lib.hid hXW
      obtain ⟨wa, hwa⟩ : ∃ wa, wa = wr.alloc (.cells #[.int .i64 g, .int .i64 q, .int .i64 cc, .int .i64 i, .int .i64 mm, .int .i64 r] 59 (0, 0)) := ⟨_, rfl⟩
      have hba : Below wr.heap.size wr wa := by rw [hwa]; exact (Below.refl _ _).alloc (Nat.le_refl _) _
      have hsa : wr.heap.size < wa.heap.size := by rw [hwa]; simp
      have hga : Hid (wa.heap[wr.heap.size]? = some (.cells #[.int .i64 g, .int .i64 q, .int .i64 cc, .int .i64 i, .int .i64 mm, .int .i64 r] 59 (0, 0))) := Lib.hid (by rw [hwa]; exact (MapKept.heap_alloc wr _).1)
      have HWA := Lib.hid hwa
      clear hx h hb hX hXW hxv htk
      go_wp2_with (fail)
      rw [← hwa] at hki ⊢
      clear hwa
      obtain ⟨f, hf⟩ : ∃ f, f = kinF X := ⟨_, rfl⟩
      obtain ⟨d, hd⟩ : ∃ d, d = kinC X := ⟨_, rfl⟩
      rw [← hf, ← hd] at hki
      have HFD := Lib.hid (And.intro hf hd)
      clear hf hd
      cases hok : X.ok
      · rw [hok] at hki
        refine hki.mono ?_
        rintro e w2 ⟨rfl, hb2⟩
        have HB2 := Lib.hid (hba.trans (hb2.mono (Nat.le_of_lt hsa)))
        have HOK := Lib.hid hok
        clear hki hb2 hok
        go_wp2_with (fail)
        go_roundw
        case rel =>
          refine ⟨k + 1, m, D, by omega, by omega, by go_num, ?_, (HB.out.trans (HB2.out.mono hbs)).alloc (by have := HB2.out.size; omega) _⟩
          rw [HT.out]
          exact ((HG.out.kept (below_grown HB2.out)).kept (World.grownBy_alloc _ _ _)).skip HOK.out
        case measure => simp [RowKit.intOf]; omega
      · rw [hok] at hki
        refine hki.mono ?_
        rintro e w2 ⟨rfl, hb2⟩
        -- the info's row and the kin
        have hB2 := hba.trans (hb2.mono (Nat.le_of_lt hsa))
        have hs2 : wr.heap.size < w2.heap.size := Nat.lt_of_lt_of_le hsa hb2.size
        have hi2 : w2.heap[wr.heap.size]? = some (.cells #[.int .i64 g, .int .i64 q, .int .i64 cc, .int .i64 i, .int .i64 mm, .int .i64 r] 59 (0, 0)) := (hb2.block _ hsa).trans hga.out
        have y0 := cell_of_row w2 wr.heap.size 0 _ _ (0, 0) hi2
        have y1 := cell_of_row w2 wr.heap.size 1 _ _ (0, 0) hi2
        have y2 := cell_of_row w2 wr.heap.size 2 _ _ (0, 0) hi2
        have y3 := cell_of_row w2 wr.heap.size 3 _ _ (0, 0) hi2
        have y4 := cell_of_row w2 wr.heap.size 4 _ _ (0, 0) hi2
        have y5 := cell_of_row w2 wr.heap.size 5 _ _ (0, 0) hi2
        simp only [List.getElem?_toArray, List.getElem?_cons_zero, List.getElem?_cons_succ] at y0 y1 y2 y3 y4 y5
        -- the entry
        obtain ⟨w3, hw3⟩ : ∃ w3, w3 = (w2.alloc (.cells #[.int .i64 f, .int .i64 d] 123 (0, 0))).alloc (.cells #[.int .i64 g, .int .i64 q, .int .i64 cc, .int .i64 i, .int .i64 mm, .int .i64 r] 59 (0, 0)) := ⟨_, rfl⟩
        have hb3 : Below w2.heap.size w2 w3 := by rw [hw3]; exact bel2 _ _ _
        have hs3 : w3.heap.size = w2.heap.size + 1 + 1 := by rw [hw3]; simp
        have hi3 : w3.heap[w2.heap.size + 1]? = some (.cells #[.int .i64 g, .int .i64 q, .int .i64 cc, .int .i64 i, .int .i64 mm, .int .i64 r] 59 (0, 0)) := by
          rw [hw3, show w2.heap.size + 1 = (w2.alloc (.cells #[.int .i64 f, .int .i64 d] 123 (0, 0))).heap.size by simp]
          exact (MapKept.heap_alloc _ _).1
        have hBw3 : Below w.heap.size w w3 := HB.out.trans ((hB2.trans (hb3.mono (Nat.le_of_lt hs2))).mono hbs)
        have hg3 : GmD w3 w.heap.size w.heap.size m (L.take k) D := (HG.out.kept (below_grown hB2)).kept (below_grown hb3)
        have hXo : X.of f d = true := by
          obtain ⟨e1, e2⟩ := HFD.out
          have := Inf.of_self hok
          rw [e1, e2, kinF, kinC, hok]
          exact this
        have hfw : Wn f ∧ Wn d := grp_wn (L := [X]) (fun y hy => by rw [List.mem_singleton.1 hy]; exact HXW.out) (f := f) (c := d) (by rw [grp_all (B := [X]) (fun y hy => by rw [List.mem_singleton.1 hy]; exact hXo)]; simp)
        have hWk : AllW (L.take k) := fun x hx => HW.out x (List.mem_of_mem_take hx)
        obtain ⟨v0, ps, st, w4, hrun, hR, hmt, hst⟩ := owns_entry hg3.own lawG0 Tryz.underlying120 zeroG elemG_zero (keyK_of hfw.1 hfw.2) (by unfold maxLen; omega)
        obtain ⟨hof, _, _, _⟩ := hg3.entry hWk hfw.1 hfw.2 hR hmt
        have hml : w.heap.size < w4.heap.size := by have := hmt.grown.size; omega
        have hmap4 : ∃ es clock, w4.heap[w.heap.size]? = some (.map es clock) := by
          obtain ⟨es, clock, es', clock', a1, b1⟩ := hmt
          exact ⟨es', clock', by rw [b1]; exact ChangeMaps.heap_setBlock_same a1 _⟩
        obtain ⟨es4, clock4, hmap4⟩ := hmap4
        have hnb := hof.notMap hmap4
        have hi4 : w4.heap[w2.heap.size + 1]? = some (.cells #[.int .i64 g, .int .i64 q, .int .i64 cc, .int .i64 i, .int .i64 mm, .int .i64 r] 59 (0, 0)) := by
          rw [hmt.grown.block (w2.heap.size + 1) (by omega) (by have := hbs; simp; omega)]; exact hi3
        have hxc : ∀ j u, (ifc X)[j]? = some u → w4.cell? ⟨w2.heap.size + 1, j, none⟩ = some u := by rw [HXX.out]; exact ifc_at hi4
        have hB4 : Below w.heap.size w w4 := hBw3.grown hmt.grown (by omega) (fun k e => by cases e; exact Nat.le_refl _)
        obtain ⟨M, hM⟩ : ∃ M, M = (grp (L.take k) f d).length := ⟨_, rfl⟩
        have hMk : M ≤ k := by rw [hM]; exact Nat.le_trans (List.length_filter_le _ _) (by rw [List.length_take]; omega)
        obtain ⟨GL, hGL⟩ : ∃ GL, GL = grp (L.take k) f d := ⟨_, rfl⟩
        rw [← hM, ← hGL] at hof
        have HALL := Lib.hid (And.intro hg3 (And.intro hWk (And.intro hXo (And.intro hfw (And.intro hR (And.intro hmt (And.intro hM (And.intro hGL hB4))))))))
        have HST := Lib.hid hst
        have HNB := Lib.hid (And.intro hnb hml)
        rw [hw3] at hrun
        clear hki hb2 hok hi2 hw3 hb3 hi3 hBw3 hg3 hXo hfw hWk hR hmt hst hmap4 hnb hi4 hB4 hM hGL hB2 hga
        go_wp2_with (at_builtin; go_must (refine wpList_apf rfl (.tmp 23) (.tmp 25) rfl w.heap.size v0 M GL rfl hof (w2.heap.size + 1) X rfl hxc (by omega) (Nat.le_of_lt HNB.out.2) ?_); intro g' cap' w5 ho5 hg5 hat5; obtain ⟨w6, hrun6, hown6, hmt6⟩ := HST.out w5 _ _ _ (hg5.block w.heap.size HNB.out.2 HNB.out.1) (elemG_mk g' (M + 1) cap'); have HO5 := Lib.hid (And.intro ho5 (And.intro hg5 (And.intro hat5 (And.intro hown6 hmt6)))); clear ho5 hg5 hat5 hown6 hmt6 hof hxc)
        go_roundw
        case rel =>
          obtain ⟨hg3, hWk, hXo, hfw, hR, hmt, hM, hGL, hB4⟩ := HALL.out
          obtain ⟨ho5, hg5, hat5, hown6, hmt6⟩ := HO5.out
          rw [hM, hGL] at ho5
          rw [hM] at hown6
          refine ⟨k + 1, m + 1, D.put (keyK f d) (ptG g' ((grp (L.take k) f d).length + 1) cap'), by omega, by omega, by go_num, ?_, ?_⟩
          · rw [HT.out]
            exact hg3.step hWk hXo hfw.1 hfw.2 hR hmt hg5 hat5 ho5 hown6 hmt6
          · refine (hB4.grown hg5 (Nat.le_of_lt HNB.out.2) (fun j hj => ?_)).grown hmt6.grown (Nat.le_trans (Nat.le_of_lt HNB.out.2) hg5.size) (fun j hj => by cases hj; exact Nat.le_refl _)
            obtain ⟨hof, _⟩ := hg3.entry hWk hfw.1 hfw.2 hR hmt
            exact (hof.lt j hj).1
        case measure => simp [RowKit.intOf]; omega
    · obtain rfl : k = n := by omega
      clear h hb
      go_wp2_with (fail)
      go_ret
      refine ⟨_, m, D, rfl, ?_, by rw [HL.out]; exact hmk, Nat.le_refl _, HB.out⟩
      have := HG.out
      rw [List.take_of_length_le (by rw [HL.out]; exact Nat.le_refl _)] at this
      exact this
end Go.Proofs.YtegmeoghonolcaaGreat
