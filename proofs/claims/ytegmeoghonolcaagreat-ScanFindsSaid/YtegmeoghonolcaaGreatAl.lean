/-
  The bank's All, by contract.
-/
import Derived.Test.YtegmeoghonolcaaGreatBkb
import Derived.Maps.OwnIn
set_option linter.unusedSimpArgs false
set_option linter.unusedVariables false
namespace Go.Proofs.YtegmeoghonolcaaGreat
open Go.RowKit Go.Maps
attribute [local go_sem] Oper.semAt_some

/-- What is read of the first i disks that tell it. -/
def alL (B : Bn) (k : Int) (R : Rk) : Nat → List (List Int)
  | 0 => []
  | i + 1 => if R.rdE (B.disk (i : Int)) k = 0 then alL B k R i ++ [R.rdV (B.disk (i : Int)) k] else alL B k R i
theorem alL_len (B : Bn) (k : Int) (R : Rk) (i : Nat) : (alL B k R i).length ≤ i := by
  induction i with
  | zero => exact Nat.le_refl _
  | succ i ih =>
    unfold alL
    split
    · simp; omega
    · omega
/-- The pieces hold these bytes. -/
def RowsAre (f : Nat → Pc) (ls : List (List Int)) : Prop := ∀ j, j < ls.length → (f j).zs = ls.getD j []
theorem RowsAre.snoc {f : Nat → Pc} {ls : List (List Int)} (h : RowsAre f ls) (p : Pc) : RowsAre (snoc f ls.length p) (ls ++ [p.zs]) := by
  intro j hj
  rw [List.length_append, List.length_singleton] at hj
  rcases Nat.lt_or_ge j ls.length with h1 | h1
  · rw [snoc_old h1, h j h1]
    simp [List.getD, List.getElem?_append_left h1]
  · obtain rfl : j = ls.length := by omega
    rw [snoc_new]
    simp [List.getD]

theorem Pin.aside {w w' : World} {l : Nat} {a : Option Addr} {n c : Nat} {zs : List Int} (h : Pin w a n c zs) (ha : Aside l w w') : Pin w' a n c zs := ⟨h.bys.aside ha, h.nil, h.cap, h.max⟩
theorem OwnR.aside {w w' : World} {l B : Nat} {v : Value} {n : Nat} {f : Nat → Pc} (h : OwnR w B v n f) (ha : Aside l w w') : OwnR w' B v n f := by
  refine ⟨h.row.kept (row := some l) ⟨ha.turn.os, ha.turn.tape, ha.turn.output, ha.turn.size, fun k hk hne => ha.turn.block k hk (fun e => hne (by rw [e]))⟩ ?_, fun i hi => (h.each i hi).aside ha, h.apart⟩
  rcases h.row.2 with ⟨rfl, _⟩ | ⟨g, cap, cur, rfl, _, hg, _⟩
  · exact .inl rfl
  · refine .inr fun e => ?_
    have e' : g = l := by simpa [Value.ownBlock] using e
    exact ha.no _ _ _ (e' ▸ hg)

/-- 'append(rows, p)' within a fence. -/
theorem wpListIn_apR {F : Fence} {nF : Nat} {w : World} {ops : Array Oper} {rest : List Oper} {o : Oper} {a : Act} {Q : Exit → Act → World → Prop} (hgd : o.guard = none) (s x : Operand)
    (ho : o.op = .call { callee := .builtin .append, args := #[s, x], argTypes := #[24, 24] })
    (B : Nat) (v : Value) (n : Nat) (f : Nat → Pc) (hs : a.eval s = v) (hown : OwnR w B v n f) (g : Nat) (hx : a.eval x = .slice (some ⟨g, 0, none⟩) 1 1)
    (pa : Option Addr) (pn pc : Nat) (pz : List Int) (hg : w.cell? ⟨g, 0, none⟩ = some (.slice pa pn pc)) (hp : Pin w pa pn pc pz) (hap : pn = 0 ∨ ∀ y, pa = some y → some y.block ≠ v.ownBlock)
    (hn : n + 1 ≤ 1000000000000) (hB : B ≤ w.heap.size) (w0 : World) (hb : Below B w0 w)
    (h : ∀ a' c' w', OwnR w' B (.slice a' (n + 1) c') (n + 1) (snoc f n ⟨pa, pn, pc, pz⟩) → Below B w0 w' → w.grownBy w' v.ownBlock → wpListIn F nF Tryz.prog ops Q rest (a.put o.dst (.slice a' (n + 1) c')) w') : wpListIn F nF Tryz.prog ops Q (o :: rest) a w := by
  obtain ⟨i0, hi, hz0, hz1, hz2⟩ := info_parts info24
  refine wpListIn_append_own_at (P := Tryz.prog) w hgd s x 24 ho B 42 i0 (.slice none 0 0) 1 24 Tryz.underlying24 hi hz0 hz1 hz2 rfl (by omega) v n _ hs hown.row ⟨g, 0, none⟩ 1 1 [.slice pa pn pc] hx rfl ?_ ?_ (by unfold maxLen; omega) (by omega) hB ?_
  · intro j u hj
    cases j with
    | zero =>
      simp at hj
      subst hj
      exact hg
    | succ j => simp at hj
  · intro u hu
    rw [List.mem_singleton.1 hu]
    rfl
  · intro v' w' hown' hgrow _ hat
    have hap' : ∀ {pa : Option Addr} {pn pc : Nat} {pz : List Int}, Pin w pa pn pc pz → (pn = 0 ∨ ∀ y, pa = some y → some y.block ≠ v.ownBlock) → (pn = 0 ∨ ∀ y, pa = some y → some y.block ≠ v'.ownBlock) := by
      intro pa pn pc pz hp h
      rcases h with h0 | hne
      · exact .inl h0
      rcases hp.bys.place with h0 | ⟨b, off, e, hb', _⟩
      · exact .inl h0
      right
      intro y hy e2
      rcases hat with h1 | h1
      · exact hne y hy (by rw [e2, h1])
      · rw [e] at hy
        cases hy
        rw [h1] at e2
        have : b = w.heap.size := by simpa using e2
        omega
    have hO : OwnR w' B v' (n + 1) (snoc f n ⟨pa, pn, pc, pz⟩) := by
      refine ⟨by rw [vals_snoc]; exact hown', fun i hi => ?_, fun i hi => ?_⟩
      · rcases Nat.lt_or_ge i n with h1 | h1
        · rw [snoc_old h1]; exact (hown.each i h1).grown hgrow (hown.apart i h1)
        · obtain rfl : i = n := by omega
          rw [snoc_new]; exact hp.grown hgrow hap
      · rcases Nat.lt_or_ge i n with h1 | h1
        · rw [snoc_old h1]; exact hap' (hown.each i h1) (hown.apart i h1)
        · obtain rfl : i = n := by omega
          rw [snoc_new]; exact hap' hp hap
    obtain ⟨a', c', rfl, _⟩ := hO.rws
    exact h a' c' w' hO (hb.grown hgrow hB fun k hk => (hown.row.lt k hk).1) hgrow

theorem keeps_grown {B : Nat} {W W' : World} {v : Value} {n C : Nat} {f : Nat → Pc} (h : OwnR W C v n f) (hg : W.grownBy W' v.ownBlock) : KeepsFrom B W W' := by
  refine ⟨hg.size, fun k o _ hk ho => (hg.block k (Array.getElem?_eq_some_iff.1 hk).1 (fun e => ?_)).trans hk⟩
  rcases h.row.2 with ⟨rfl, _⟩ | ⟨g, cap, cur, rfl, _, hgc, _⟩
  · cases e
  · have e' : k = g := by simpa [Value.ownBlock] using e
    rw [← e', hk] at hgc
    cases hgc
    cases ho
theorem keeps_below {B : Nat} {W W' : World} (h : Below W.heap.size W W') : KeepsFrom B W W' := ⟨h.size, fun k _ _ hk _ => (h.block k (Array.getElem?_eq_some_iff.1 hk).1).trans hk⟩
theorem OwnR.set {w : World} {B : Nat} {v : Value} {n : Nat} {f : Nat → Pc} (h : OwnR w B v n f) {p : Addr} (hp : p.block < B) (u : Value) (hne : ∀ i, i < n → (f i).n = 0 ∨ ∀ x, (f i).a = some x → x.block ≠ p.block) : OwnR (w.setCell p u) B v n f :=
  ⟨ownsRow_setCell_below h.row hp u, fun i hi => ⟨(h.each i hi).bys.setCell u (hne i hi), (h.each i hi).nil, (h.each i hi).cap, (h.each i hi).max⟩, h.apart⟩

theorem grown_keep {w w' : World} {B : Nat} {v : Value} {n : Nat} {f : Nat → Pc} (ho : OwnR w B v n f) (hg : w.grownBy w' v.ownBlock) {q : Nat} (hq : q < B) (hlt : q < w.heap.size) : w'.heap[q]? = w.heap[q]? := by
  refine hg.block q hlt (fun e => ?_)
  have := (ho.row.lt q e.symm).1
  omega

/-- Between two rounds of All. -/
structure AlI (L : Lay) (R : Rk) (w : World) (b p : Nat) (B : Bn) (k : Int) (i : Nat) (X : World) : Prop where
  bel : Below w.heap.size w X
  c0 : X.cell? ⟨p, 0, none⟩ = some (.pointer (some ⟨b, 0, none⟩))
  c1 : X.cell? ⟨p + 1, 0, none⟩ = some (.int .i64 k)
  row : ∃ v f, X.cell? ⟨p + 2, 0, none⟩ = some v ∧ X.frozen? ⟨p + 2, 0, none⟩ = false ∧ OwnR X (p + 3) v (alL B k R i).length f ∧ RowsAre f (alL B k R i) ∧ ∀ j, j < (alL B k R i).length → (f j).n = 0 ∨ ∀ x, (f j).a = some x → p + 3 ≤ x.block
theorem AlI.aside {L : Lay} {R : Rk} {w : World} {b p : Nat} {B : Bn} {k : Int} {i : Nat} {X X' : World} {l : Nat} (h : AlI L R w b p B k i X) (ha : Aside l X X') (hl : w.heap.size ≤ l) : AlI L R w b p B k i X' := by
  obtain ⟨v, f, h1, h2, h3, h4, h5⟩ := h.row
  have ht := (Turn.of_below (M := fun _ => False) h.bel).aside ha hl
  exact ⟨ht.below (Nat.le_refl _) (fun _ x => x.elim), ha.cell h.c0, ha.cell h.c1, v, f, ha.cell h1, (ha.frozen h1).trans h2, h3.aside ha, h4, h5⟩

/-- Rows that a call answers. -/
def RetL (w0 : World) (ls : List (List Int)) (e : Ending) (w' : World) : Prop := ∃ v f, e = .returned v ∧ OwnR w' w0.heap.size v ls.length f ∧ RowsAre f ls ∧ Below w0.heap.size w0 w'
theorem OwnR.low {w : World} {B C : Nat} {v : Value} {n : Nat} {f : Nat → Pc} (h : OwnR w B v n f) (hC : C ≤ B) : OwnR w C v n f := by
  refine ⟨⟨h.row.1, ?_⟩, h.each, h.apart⟩
  rcases h.row.2 with h1 | ⟨g, cap, cur, e, hb, r⟩
  · exact .inl h1
  · exact .inr ⟨g, cap, cur, e, Nat.le_trans hC hb, r⟩

set_option maxRecDepth 100000 in
set_option maxHeartbeats 4000000 in
theorem all_bank (M : Nat → Prop) (L : Lay) (R : Rk) (w : World) (b n : Nat) (B : Bn) (k : Int) (hr : RackAt w M L R) (hb : BnAt w b L.p B) (hd : B.d = (n : Int)) (hn : n ≤ 16) :
    Calls Tryz.prog 82 #[.pointer (some ⟨b, 0, none⟩), .int .i64 k] w (RetL w (alL B k R B.num)) := by
  have HR := Lib.hid hr
  have HBK := Lib.hid hb
  refine (callsIn_wide (n := 3)).1 ?_
  refine callsIn_of_wp_marks Tryz.func82 rfl trivial ?_ rfl
  simp only [Tryz.ntmps82, List.size_toArray, List.length_cons, List.length_nil, Nat.reduceAdd, Nat.reduceSub, Array.replicate_succ, Array.replicate_zero, List.push_toArray, List.append_toArray, List.nil_append, List.cons_append]
  gi_wp2
  obtain ⟨p, hp⟩ : ∃ p, p = w.heap.size := ⟨_, rfl⟩
  obtain ⟨W0, hW0⟩ : ∃ W0, W0 = ((w.alloc (Obj.cells #[Value.pointer (some { block := b, off := 0 })] 44)).alloc (Obj.cells #[Value.int IntKind.i64 k] 3)).alloc (Obj.cells #[Value.slice none 0 0] 24) := ⟨_, rfl⟩
  have hsz : W0.heap.size = p + 3 := by rw [hW0, hp]; simp
  have hbl : Below w.heap.size w W0 := by rw [hW0]; exact (((Below.refl _ _).alloc (Nat.le_refl _) _).alloc (by simp) _).alloc (by simp; omega) _
  have q0 : W0.cell? ⟨p, 0, none⟩ = some (.pointer (some ⟨b, 0, none⟩)) := by rw [hW0]; exact cell_alloc_l _ (cell_alloc_l _ (box_new w _ _ hp.symm).1)
  have q1 : W0.cell? ⟨p + 1, 0, none⟩ = some (.int .i64 k) := by rw [hW0]; exact cell_alloc_l _ (box_new _ _ _ (by simp; omega)).1
  have q2 : W0.cell? ⟨p + 2, 0, none⟩ = some (.slice none 0 0) := by rw [hW0]; exact (box_new _ _ _ (by simp; omega)).1
  have r2 : W0.frozen? ⟨p + 2, 0, none⟩ = false := by rw [hW0]; exact (box_new _ _ _ (by simp; omega)).2
  rw [← hW0, ← hp]
  clear hW0
  have HEQ := Lib.hid hp
  clear hp
  refine wp_over (Kp := KeepsFrom W0.heap.size) rfl (enters_of Tryz.func36 (by kernel_rfl) rfl) (disks_rounds b L.p n B hd hn) rfl
    (fun i X => AlI L R w b p B k i X) (fun _ _ => False)
    (fun i X h => HBK.out.next h.bel)
    (fun i X X' l hl ha h => h.aside ha (by have := HEQ.out; omega))
    (fun c X X' l hl ha h => h)
    (fun X X' h => h)
    ⟨hbl, q0, q1, _, fun _ => ⟨none, 0, 0, []⟩, q2, r2, ⟨World.ownsRow_nil _ _ _ _, (fun i hi => absurd hi (Nat.not_lt_zero _)), (fun i hi => absurd hi (Nat.not_lt_zero _))⟩, (fun j hj => absurd hj (Nat.not_lt_zero _)), fun j hj => absurd hj (Nat.not_lt_zero _)⟩
    (fun i => { tmps := #[.pointer (some ⟨b, 0, none⟩), .int .i64 k, .pointer (some ⟨p, 0, none⟩), .pointer (some ⟨p + 1, 0, none⟩), .slice none 0 0, .pointer (some ⟨p + 1 + 1, 0, none⟩), .int .i64 (B.disk (i : Int)), undef, undef, .pointer (some ⟨b, 0, none⟩), .func (.func 36) #[.pointer (some ⟨b, 0, none⟩)] #[], .int .i64 (B.disk (i : Int)), undef, undef, undef, undef, undef, undef, undef, undef, undef, undef, undef, undef, undef, undef, undef, undef, undef], defers := [] }) ?assign ?body ?done ?stop
  case assign =>
    intro l i X K hi hK
    gi_wp2
    exact hK
  case body =>
    rintro l i X hi hle ⟨hbX, c0, c1, va, f, c2, f2, ho, hz, hlo⟩
    have hrd := readP_all (w := X.drew) (B.disk (i : Int)) k (HR.out.below hbX).drew
    have k0 := (HBK.out.next hbX).c0
    obtain ⟨x, hx⟩ : ∃ x, x = R.rdE (B.disk (i : Int)) k := ⟨_, rfl⟩
    rw [← hx] at hrd
    have HX := Lib.hid hx
    have HRD := Lib.hid hrd
    have HB := Lib.hid hbX
    have HZ := Lib.hid hz
    have HLO := Lib.hid hlo
    have HLE := Lib.hid hle
    have HI := Lib.hid hi
    have hsX : p + 3 ≤ X.heap.size := by omega
    obtain ⟨ra, rc, rfl, _, _, _, hra⟩ := ho.rws
    have HRA := Lib.hid hra
    have hll := alL_len B k R i
    have hll2 : (alL B k R i).length ≤ 17 := by unfold Bn.num at hi; rw [hd] at hi; split at hi <;> omega
    obtain ⟨m, hm⟩ : ∃ m, m = (alL B k R i).length := ⟨_, rfl⟩
    rw [← hm] at c2 ho
    have HM := Lib.hid hm
    have HLL : Hid (m + 1 ≤ 1000000000000) := by unfold Hid; omega
    clear hx hrd hbX hz hlo hle hi hr hb hra hll hll2 hm
    gi_wp2
    rename_i K hK
    have hRest : ∀ (a : Option Addr) (n c : Nat) (W' : World), Own W' X.drew.heap.size (.slice a n c) (R.rdV (B.disk (i : Int)) k).length (R.rdV (B.disk (i : Int)) k) → Below X.drew.heap.size X.drew W' →
        K { tmps := #[.pointer (some ⟨b, 0, none⟩), .int .i64 k, .pointer (some ⟨p, 0, none⟩), .pointer (some ⟨p + 1, 0, none⟩), .slice none 0 0, .pointer (some ⟨p + 1 + 1, 0, none⟩), .int .i64 (B.disk (i : Int)), .slice a n c, .int .i64 x, .pointer (some ⟨b, 0, none⟩), .func (.func 36) #[.pointer (some ⟨b, 0, none⟩)] #[], .int .i64 (B.disk (i : Int)), .tuple #[.slice a n c, .int .i64 x], .pointer (some ⟨b, 0, none⟩), .pointer (some ⟨b, 0, none⟩), .pointer (some ⟨b, 0, none⟩), .pointer (some ⟨L.p, 0, none⟩), .int .i64 (B.disk (i : Int)), .int .i64 k, .tuple #[.slice a n c, .int .i64 x], .slice a n c, .int .i64 x, undef, undef, undef, undef, undef, undef, undef], defers := [] } W' := by
      intro a' n' c' W' hown hbl'
      refine hK _ _ ?_
      have hbd : Below X.heap.size X W' := undrew hbl'
      obtain ⟨a2, c2', e2, hpin, hfr⟩ := hown.pin
      cases e2
      have hbW := HB.out.trans (hbd.mono HB.out.size)
      have d0 := (hbd.cell (p := ⟨p, 0, none⟩) (show p < X.heap.size by omega)).trans c0
      have d1 := (hbd.cell (p := ⟨p + 1, 0, none⟩) (show p + 1 < X.heap.size by omega)).trans c1
      have d2 := (hbd.cell (p := ⟨p + 2, 0, none⟩) (show p + 2 < X.heap.size by omega)).trans c2
      have e2 := (hbd.frozen (p := ⟨p + 2, 0, none⟩) (show p + 2 < X.heap.size by omega)).trans f2
      have ho' := ho.next hbd
      have HPIN := Lib.hid hpin
      have HFR := Lib.hid hfr
      have HBD := Lib.hid hbd
      have HBW := Lib.hid hbW
      clear hown hbl' hpin hfr hbd hbW ho c0 c1 c2 f2 k0
      by_cases h0 : x = 0
      · have HS : Hid (alL B k R (i + 1) = alL B k R i ++ [R.rdV (B.disk (i : Int)) k]) := by
          show (if _ then _ else _) = _
          rw [if_pos (HX.out.symm.trans h0)]
        clear HX HRD
        subst h0
        obtain ⟨zs, hzs⟩ : ∃ zs, zs = R.rdV (B.disk (i : Int)) k := ⟨_, rfl⟩
        rw [← hzs] at HS HPIN ⊢
        clear hzs
        have hsW : X.heap.size ≤ W'.heap.size := HBD.out.size
        have hor := ho'.next ((Below.refl _ _).alloc (Nat.le_refl _) (.cells #[.slice a' zs.length c'] 42))
        have hBA : Below w.heap.size w (W'.alloc (.cells #[.slice a' zs.length c'] 42)) := HBW.out.alloc HBW.out.size _
        have hap : zs.length = 0 ∨ ∀ y, a' = some y → some y.block ≠ (Value.slice ra m rc).ownBlock := .inr fun y hy e2 => by
          cases hra : ra with
          | none => rw [hra] at e2; cases e2
          | some r =>
            rw [hra] at e2
            have h3 := (HRA.out r hra).2
            have h4 : X.heap.size ≤ y.block := (HFR.out y hy).1
            have h5 : y.block = r.block := by simpa [Value.ownBlock] using e2
            omega
        have HAP := Lib.hid hap
        have HOR := Lib.hid hor
        have HBA := Lib.hid hBA
        have d2' := cell_alloc_l (.cells #[.slice a' zs.length c'] 42) d2
        have e2' := frozen_alloc_l (.cells #[.slice a' zs.length c'] 42) d2 e2
        clear hap hor hBA ho'
        gi_wp2_with (gi_at_builtin; go_must (refine wpListIn_apR rfl (.tmp 24) (.tmp 26) rfl (p + 3) _ m f rfl HOR.out W'.heap.size rfl a' zs.length c' zs (by simp) (HPIN.out.alloc _) HAP.out HLL.out (by simp; omega) _ (Below.refl _ _) ?_); intro a2 c2 w2 ho2 hb2 hg2; have d3 := (World.cell?_of_block (a := ⟨p + 2, 0, none⟩) (grown_keep HOR.out hg2 (show p + 2 < p + 3 by omega) (show p + 2 < _ by simp; omega))).trans d2'; have e3 := (World.frozen?_of_block (a := ⟨p + 2, 0, none⟩) (grown_keep HOR.out hg2 (show p + 2 < p + 3 by omega) (show p + 2 < _ by simp; omega))).trans e2')
        have HD0 := cell_alloc_l (.cells #[.slice a' zs.length c'] 42) d0
        have HD1 := cell_alloc_l (.cells #[.slice a' zs.length c'] 42) d1
        have hB2 := HBA.out.trans (hb2.mono (by have := HEQ.out; omega))
        have y0 := (hb2.cell (p := ⟨p, 0, none⟩) (show p < p + 3 by omega)).trans HD0
        have y1 := (hb2.cell (p := ⟨p + 1, 0, none⟩) (show p + 1 < p + 3 by omega)).trans HD1
        have hne : ∀ j, j ≠ p + 2 → (⟨p + 2, 0, none⟩ : Addr) ≠ ⟨j, 0, none⟩ := fun j hj e => hj (by cases e; rfl)
        refine ⟨((keeps_below HBD.out).trans ((KeepsOthers.alloc _ _).from _)).trans ((keeps_grown HOR.out hg2).trans ((KeepsOthers.setCell _ _ _).from _)), hB2.setCell (p := ⟨p + 2, 0, none⟩) (show w.heap.size ≤ p + 2 by have := HEQ.out; omega) _, (World.cell?_setCell_other _ _ _ _ (hne p (by omega))).trans y0, (World.cell?_setCell_other _ _ _ _ (hne (p + 1) (by omega))).trans y1, _, snoc f m ⟨a', zs.length, c', zs⟩, cell_set_same _ _ _ _ _ d3, by simpa using e3, ?_, ?_, ?_⟩
        · rw [HS.out, List.length_append, List.length_singleton, ← HM.out]
          refine ho2.set (show p + 2 < p + 3 by omega) _ (fun j hj => ?_)
          rcases Nat.lt_or_ge j m with h1 | h1
          · rw [snoc_old h1]
            rcases HLO.out j (by rw [← HM.out]; exact h1) with h2 | h2
            · exact .inl h2
            · exact .inr fun y hy => by have := h2 y hy; show y.block ≠ p + 2; omega
          · obtain rfl : j = m := by omega
            rw [snoc_new]
            exact .inr fun y hy => by have h4 : X.heap.size ≤ y.block := (HFR.out y hy).1; show y.block ≠ p + 2; omega
        · rw [HS.out, HM.out]
          exact HZ.out.snoc _
        · intro j hj
          rw [HS.out, List.length_append, List.length_singleton, ← HM.out] at hj
          rcases Nat.lt_or_ge j m with h1 | h1
          · rw [snoc_old h1]
            exact HLO.out j (by rw [← HM.out]; exact h1)
          · obtain rfl : j = m := by omega
            rw [snoc_new]
            exact .inr fun y hy => by have h4 : X.heap.size ≤ y.block := (HFR.out y hy).1; omega
      · have HS : Hid (alL B k R (i + 1) = alL B k R i) := by
          show (if _ then _ else _) = _
          rw [if_neg (fun y => h0 (HX.out.trans y))]
        have hz0 : (x == 0) = false := by simpa using h0
        clear HX HRD h0
        gi_wp2
        refine ⟨keeps_below HBD.out, HBW.out, d0, d1, _, f, d2, e2, ?_, ?_, ?_⟩
        · rw [HS.out, ← HM.out]; exact ho'
        · rw [HS.out]; exact HZ.out
        · rw [HS.out]; exact HLO.out
    have hmx : Tryz.prog.follows .mixedOrders = true := by kernel_rfl
    have hrd := HRD.out
    clear HX HRD HZ HLO HRA HLL HM ho
    gi_region_with_o (refine ⟨trivial, ?_⟩; gi_at_call 122; refine (CallsIn.inRound l (callsIn_wide.2 hrd)).mono ?_; rintro e w' ⟨v, rfl, hown, hbl'⟩; obtain ⟨a1, c1', rfl, _, _⟩ := hown.pin)
    all_goals exact hRest _ _ _ _ (by assumption) (by assumption)
  case done =>
    rintro D X hD h hK
    obtain ⟨v, f, c2, f2, ho, hz, _⟩ := h.row
    have HB := Lib.hid h.bel
    obtain ⟨ra, rc, rfl, _, _, _, hra⟩ := ho.rws
    have HO := Lib.hid ho
    have HZ := Lib.hid hz
    clear h ho hz hra
    gi_wp2
    refine ⟨by simp, .inl ⟨_, _, rfl, run_takeDeferred hK, ?_⟩⟩
    have hA := aside_put hK rfl (.deferred none)
    refine ⟨_, results_tmp rfl _ _ _, _, f, rfl, (HO.out.aside hA).low (by have := HEQ.out; omega), HZ.out, ?_⟩
    exact ((Turn.of_below (M := fun _ => False) HB.out).aside hA (by have := HEQ.out; omega)).below (Nat.le_refl _) (fun _ x => x.elim)
  case stop =>
    rintro D c X hD h hK
    exact h.elim

end Go.Proofs.YtegmeoghonolcaaGreat
