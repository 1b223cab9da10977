/-
  Which blocks of bytes are there: the program's, by contract.
-/
import Derived.Test.YtijhmpdeohbjhaaQae
import Derived.Test.YtijhmpdeohbjhaaQaa
import Derived.Maps.OwnIn
import Derived.Shelf.Abstract
import Derived.Test.YtijhmpdeohbjhaaQac
import Derived.Test.YtijhmpdeohbjhaaQad
import Derived.Lib.SliceRun
set_option linter.unusedVariables false
set_option linter.unusedSimpArgs false
namespace Go.Proofs.Ytijhmpdeohbjhaa
open Go.RowKit Go.Maps
set_option linter.unusedVariables false
attribute [local go_sem] Oper.semAt_some

/-- Places, as numbers. -/
def ofN (l : List Nat) : List Int := l.map fun k : Nat => (k : Int)
theorem ofN_len (l : List Nat) : (ofN l).length = l.length := by simp [ofN]
theorem inu_ofN {l : List Nat} {i : Nat} (h : i < l.length) : inu (ofN l) i = ((l.getD i 0 : Nat) : Int) := by
  simp [inu, ofN, List.getD, h]
theorem ofN_snoc (l : List Nat) (a : Nat) : ofN (l ++ [a]) = ofN l ++ [(a : Int)] := by simp [ofN]
theorem nought_has (l : List Int) : noughtB l = !hasB l := by
  induction l with
  | nil => rfl
  | cons a l ih => simp only [noughtB, hasB, List.all_cons, List.any_cons, Bool.not_or] at ih ⊢; rw [ih]; cases h : a == 0 <;> simp_all

/-- A cell by itself, free to be written. -/
def Cel (p : Nat) (v : Value) (X : World) : Prop := X.cell? ⟨p, 0, none⟩ = some v ∧ X.frozen? ⟨p, 0, none⟩ = false
theorem Cel.lt {p : Nat} {v : Value} {X : World} (h : Cel p v X) : p < X.heap.size := World.block_lt_of_cell? X _ h.1
theorem Cel.next {p : Nat} {v : Value} {X X' : World} (h : Cel p v X) (hb : Below X.heap.size X X') : Cel p v X' := ⟨(hb.cell (p := ⟨p, 0, none⟩) h.lt).trans h.1, (hb.frozen (p := ⟨p, 0, none⟩) h.lt).trans h.2⟩
theorem Cel.aside {l p : Nat} {v : Value} {X X' : World} (h : Cel p v X) (ha : Aside l X X') : Cel p v X' := ⟨ha.cell h.1, (ha.frozen h.1).trans h.2⟩
theorem Cel.abides (K p : Nat) (v : Value) : Abides K (Cel p v) := ⟨fun X X' h hb => h.next hb, fun l X X' hl h ha => h.aside ha⟩
theorem Cel.set {p : Nat} {v : Value} {X : World} (h : Cel p v X) (u : Value) : Cel p u (X.setCell ⟨p, 0, none⟩ u) := ⟨World.cell?_setCell_same _ _ _ h.1, by simpa using h.2⟩
theorem Cel.other {p q : Nat} {v : Value} {X : World} (h : Cel p v X) (hq : p ≠ q) (u : Value) : Cel p v (X.setCell ⟨q, 0, none⟩ u) := ⟨(World.cell?_of_block (a := ⟨p, 0, none⟩) (heap_setCell_other _ _ _ _ hq)).trans h.1, by simpa using h.2⟩
theorem rowOwn_aside {w w' : World} {l B k n : Nat} {ty : TypeId} {v : Value} {xs : List Value} (h : w.ownsRow B ty k v n xs) (ha : Aside l w w') : w'.ownsRow B ty k v n xs := by
  refine h.kept (row := some l) ⟨ha.turn.os, ha.turn.tape, ha.turn.output, ha.turn.size, fun k hk hne => ha.turn.block k hk (fun e => hne (by rw [e]))⟩ ?_
  rcases h.2 with ⟨rfl, _⟩ | ⟨g, cap, cur, rfl, _, hg, _⟩
  · exact .inl rfl
  · refine .inr fun e => ?_
    have e' : g = l := by simpa [Value.ownBlock] using e
    exact ha.no _ _ _ (e' ▸ hg)
theorem rowOwn_next {w w' : World} {B k n : Nat} {ty : TypeId} {v : Value} {xs : List Value} (h : w.ownsRow B ty k v n xs) (hb : Below w.heap.size w w') : w'.ownsRow B ty k v n xs :=
  h.kept (row := none) ⟨hb.os, hb.tape, hb.output, hb.size, fun k hk _ => hb.block k (by omega)⟩ (by cases v.ownBlock <;> simp)
theorem rowOwn_abides (K B k n : Nat) (ty : TypeId) (v : Value) (xs : List Value) : Abides K (fun X => X.ownsRow B ty k v n xs) := ⟨fun X X' h hb => rowOwn_next h hb, fun l X X' _ h ha => rowOwn_aside h ha⟩
theorem keeps_row {w w' : World} {B k n C : Nat} {ty : TypeId} {v : Value} {xs : List Value} (h : w.ownsRow B ty k v n xs) (hg : w.grownBy w' v.ownBlock) : KeepsFrom C w w' := by
  refine ⟨hg.size, fun j o _ hj ho => ?_⟩
  refine (hg.block j (Array.getElem?_eq_some_iff.1 hj).1 fun e => ?_).trans hj
  rcases h.2 with ⟨rfl, _⟩ | ⟨g, cap, cur, rfl, _, hgr, _⟩
  · cases e
  · have e' : g = j := by simpa [Value.ownBlock] using e.symm
    subst e'
    rw [hgr] at hj
    cases hj
    cases ho
theorem keeps_below {C : Nat} {w w' : World} (hb : Below w.heap.size w w') : KeepsFrom C w w' := ⟨hb.size, fun k o _ hk _ => (hb.block k (Array.getElem?_eq_some_iff.1 hk).1).trans hk⟩
theorem below_row {w w' : World} {B k n : Nat} {ty : TypeId} {v : Value} {xs : List Value} (h : w.ownsRow B ty k v n xs) (hg : w.grownBy w' v.ownBlock) (hB : B ≤ w.heap.size) : Below B w w' :=
  (Below.refl B w).grown hg hB fun j hj => (h.lt j hj).1
/-- Of the blocks below C only those from p on have turned. -/
def Only (C p : Nat) (w X : World) : Prop := w.os = X.os ∧ w.tape = X.tape ∧ w.output = X.output ∧ w.heap.size ≤ X.heap.size ∧ ∀ k, k < C → k ≠ p → k ≠ p + 1 → X.heap[k]? = w.heap[k]?
theorem Only.refl (C p : Nat) (w : World) : Only C p w w := ⟨rfl, rfl, rfl, Nat.le_refl _, fun _ _ _ _ => rfl⟩
theorem Only.below {C p : Nat} {w X X' : World} (h : Only C p w X) (hb : Below C X X') : Only C p w X' := ⟨h.1.trans hb.os.symm, h.2.1.trans hb.tape.symm, h.2.2.1.trans hb.output.symm, Nat.le_trans h.2.2.2.1 hb.size, fun k hk hp hq => (hb.block k hk).trans (h.2.2.2.2 k hk hp hq)⟩
theorem Only.set {C p : Nat} {w X : World} (h : Only C p w X) (u : Value) : Only C p w (X.setCell ⟨p, 0, none⟩ u) := ⟨h.1, h.2.1, h.2.2.1, by simpa using h.2.2.2.1, fun k hk hp hq => (heap_setCell_other _ _ _ _ hp).trans (h.2.2.2.2 k hk hp hq)⟩
theorem Only.set1 {C p : Nat} {w X : World} (h : Only C p w X) (u : Value) : Only C p w (X.setCell ⟨p + 1, 0, none⟩ u) := ⟨h.1, h.2.1, h.2.2.1, by simpa using h.2.2.2.1, fun k hk hp hq => (heap_setCell_other _ _ _ _ hq).trans (h.2.2.2.2 k hk hp hq)⟩
theorem Only.abides {C p : Nat} {w : World} (hC : C = w.heap.size) : Abides C (Only C p w) :=
  ⟨fun X X' h hb => h.below (hb.mono (by subst hC; exact h.2.2.2.1)), fun l X X' hl h ha => ⟨h.1.trans ha.turn.os.symm, h.2.1.trans ha.turn.tape.symm, h.2.2.1.trans ha.turn.output.symm, Nat.le_trans h.2.2.2.1 ha.turn.size, fun k hk hp hq => (ha.turn.block k (by subst hC; have := h.2.2.2.1; omega) (by omega)).trans (h.2.2.2.2 k hk hp hq)⟩⟩
theorem Only.cell {C p : Nat} {w X : World} (h : Only C p w X) {b o : Nat} (hb : b < C) (hp : b ≠ p) (hq : b ≠ p + 1) : X.cell? ⟨b, o, none⟩ = w.cell? ⟨b, o, none⟩ := World.cell?_of_block (w := w) (h.2.2.2.2 b hb hp hq)
theorem Only.pin {C p : Nat} {w X : World} (h : Only C p w X) (hC : C = w.heap.size) {a : Option Addr} {n c : Nat} {zs : List Int} (hi : Pin w a n c zs) (hp : ∀ x, a = some x → n = 0 ∨ x.block < p) : Pin X a n c zs := by
  refine ⟨⟨hi.bys.len, hi.bys.small, ?_⟩, hi.nil, hi.cap, hi.max⟩
  rcases hi.bys.place with h0 | ⟨b, off, e, hlt, hc⟩
  · exact .inl h0
  · rcases hp _ e with h0 | h0
    · exact .inl h0
    · exact .inr ⟨b, off, e, Nat.lt_of_lt_of_le hlt h.2.2.2.1, fun i hi => (h.cell (b := b) (by omega) (show b ≠ p from fun x => by simp at h0; omega) (show b ≠ p + 1 from fun x => by simp at h0; omega)).trans (hc i hi)⟩
/-- .. and no panic at all. -/
def calmQ (Q : Exit → Act → World → Prop) : Exit → Act → World → Prop
  | .panic _, _, _ => False
  | .normal, a, w => Q .normal a w
  | .ret, a, w => Q .ret a w
  | .exit id, a, w => Q (.exit id) a w
  | .goto l, a, w => Q (.goto l) a w
  | .outgrown, a, w => Q .outgrown a w
theorem wp_calm {P : Program} {c : Code} {Q : Exit → Act → World → Prop} {a : Act} {w : World} (h : c.wp P (calmQ Q) a w) : c.wp P Q a w :=
  wp_mono h fun e a w h => by cases e <;> first | exact h | exact h.elim
/-- A cell below the rows goes through a box more and an append. -/
theorem cel_through {X w' : World} {p B k n : Nat} {ty : TypeId} {u v : Value} {xs : List Value} {o : Obj} (h : Cel p u X) (hr : (X.alloc o).ownsRow B ty k v n xs) (hg : (X.alloc o).grownBy w' v.ownBlock) (hp : p < B) : Cel p u w' := by
  have h1 := h.next ((Below.refl X.heap.size X).alloc (Nat.le_refl _) o)
  have hb := hg.block p h1.lt (fun e => by have := (hr.lt p e.symm).1; omega)
  exact ⟨(World.cell?_of_block (a := ⟨p, 0, none⟩) hb).trans h1.1, (World.frozen?_of_block (a := ⟨p, 0, none⟩) hb).trans h1.2⟩
/-- 'append(s, x)' of one number within a fence. -/
theorem wpListIn_api {Fc : Fence} {nF : Nat} {w : World} {ops : Array Oper} {rest : List Oper} {o : Oper} {a : Act} {Q : Exit → Act → World → Prop} (hgd : o.guard = none) (s x : Operand)
    (ho : o.op = .call { callee := .builtin .append, args := #[s, x], argTypes := #[24, 24] })
    (B : Nat) (v : Value) (n : Nat) (ks : List Int) (hs : a.eval s = v) (hown : w.ownsRow B 3 1 v n (ks.map (Value.int .i64))) (g : Nat) (z : Int) (hx : a.eval x = .slice (some ⟨g, 0, none⟩) 1 1) (hg : w.cell? ⟨g, 0, none⟩ = some (.int .i64 z))
    (hn : n + 1 ≤ 1000000000000) (hB : B ≤ w.heap.size)
    (h : ∀ g' cap w', w'.ownsRow B 3 1 (.slice (some ⟨g', 0, none⟩) (n + 1) cap) (n + 1) ((ks ++ [z]).map (Value.int .i64)) → w.grownBy w' v.ownBlock → wpListIn Fc nF Try.prog ops Q rest (a.put o.dst (.slice (some ⟨g', 0, none⟩) (n + 1) cap)) w') : wpListIn Fc nF Try.prog ops Q (o :: rest) a w := by
  obtain ⟨i0, hi, hz0, hz1, hz2⟩ := info_parts info3
  refine wpListIn_append_own_at (P := Try.prog) w hgd s x 24 ho B 3 i0 (.int .i64 0) 1 8 Try.underlying24 hi hz0 hz1 hz2 rfl (by decide) v n _ hs hown ⟨g, 0, none⟩ 1 1 [.int .i64 z] hx rfl ?_ ?_ (by unfold maxLen; omega) (by omega) hB ?_
  · intro j u hj
    cases j with
    | zero =>
      simp at hj
      subst hj
      exact hg
    | succ j => simp at hj
  · intro u hu
    rw [List.mem_singleton.1 hu]
    rfl
  · intro v' w' hown' hgrow _ _
    rcases hown'.2 with ⟨_, h0⟩ | ⟨g', cap, cur, rfl, _⟩
    · omega
    · exact h g' cap w' (by rw [List.map_append]; exact hown') hgrow

/-- What There answers. -/
def ThrPost (w : World) (l : List Nat) (e : Ending) (w' : World) : Prop :=
  ∃ a c, e = .returned (.slice a l.length c) ∧ Ins w' a l.length (ofN l) ∧ l.length ≤ c ∧ c ≤ 9223372036854775807 ∧ (∀ x, a = some x → w.heap.size ≤ x.block ∧ x.block < w'.heap.size) ∧ Below w.heap.size w w'

set_option maxRecDepth 100000 in
set_option maxHeartbeats 8000000 in
theorem there_any (a : Option Addr) (n c : Nat) (zs : List Int) (w : World) (hp : Pin w a n c zs) (hn : n ≤ 1000000000) :
    Calls Try.prog 7 #[.slice a n c] w (ThrPost w (thr zs)) := by
  obtain ⟨p, hpe⟩ : ∃ p, p = w.heap.size := ⟨_, rfl⟩
  obtain ⟨X2, hX2⟩ : ∃ X2, X2 = ((w.alloc (.cells #[.slice none 0 0] 24 (0, 0))).alloc (.cells #[.int .i64 0] 3 (0, 0))) := ⟨_, rfl⟩
  have hb2 : Below w.heap.size w X2 := by rw [hX2]; exact ((Below.refl w.heap.size w).alloc (Nat.le_refl _) _).alloc (by simp) _
  have hz2 : X2.heap.size = w.heap.size + 2 := by rw [hX2]; simp
  have hc2 : Cel p (.slice none 0 0) X2 := by rw [hX2, hpe]; exact ⟨by go_simp, by go_simp⟩
  have hc3 : Cel (p + 1) (.int .i64 0) X2 := by rw [hX2, hpe]; exact ⟨by go_simp, by go_simp⟩
  have hsg := chunk_any a n c zs X2 (hp.below (Nat.le_refl _) hb2)
  have HB2 := Lib.hid hb2
  have HC2 := Lib.hid hc2
  have HC3 := Lib.hid hc3
  have HZ2 := Lib.hid hz2
  have hia : Hid (∀ x, a = some x → n = 0 ∨ x.block < p) := Lib.hid fun x hx => by
    rcases hp.bys.place with h0 | ⟨b, off, e, hlt, _⟩
    · exact .inl h0
    · rw [e] at hx; cases hx; exact .inr (by rw [hpe]; exact hlt)
  have HLN := Lib.hid hp.len
  clear hb2 hc2 hc3 hz2 hp
  refine (callsIn_wide (n := 3)).1 ?_
  refine callsIn_of_wp_marks Try.func7 rfl trivial ?_ rfl
  simp only [Try.ntmps7, List.size_toArray, List.length_cons, List.length_nil, Nat.reduceAdd, Nat.reduceSub, Array.replicate_succ, Array.replicate_zero, List.push_toArray, List.append_toArray, List.nil_append, List.cons_append]
  refine wpIn_wide.2 (wp_calm ?_)
  go_wp2_with (fail)
  rw [← hX2]
  clear hX2
  refine hsg.mono ?_
  clear hsg
  rintro e W ⟨ps, pn, rfl, hbs, hps, hpn, hb⟩
  have hB := HB2.out.trans (hb.mono HB2.out.size)
  have hc := HC2.out.next hb
  have hc' := HC3.out.next hb
  have hpl : p + 1 < W.heap.size := hc'.lt
  have hpp : p + 1 < ps ∧ p + 1 < pn := by have := HZ2.out; omega
  have hgw : ps < W.heap.size ∧ pn < W.heap.size := ⟨hbs.ls, hbs.ln⟩
  have HX : Hid (∀ X, Only W.heap.size p W X → Bch ps pn a n c zs X) := Lib.hid fun X ho =>
    ⟨(ho.cell hgw.1 (by omega) (by omega)).trans hbs.cs, (ho.cell hgw.2 (by omega) (by omega)).trans hbs.cn, Nat.lt_of_lt_of_le hgw.1 ho.2.2.2.1, Nat.lt_of_lt_of_le hgw.2 ho.2.2.2.1, ho.pin rfl hbs.pin hia.out⟩
  have HW := Lib.hid hB
  have HC := Lib.hid hc
  have HC' := Lib.hid hc'
  clear hbs hb hB hc hc' hgw hps hpn
  have HLW : Hid (w.heap.size ≤ W.heap.size) := Lib.hid HW.out.size
  go_wp2_with (fail)
  rw [← hpe]
  have HPE := Lib.hid hpe
  clear hpe
  refine (wpIn_wide (n := 3)).1 ?_
  refine wp_over1 (Kp := KeepsFrom W.heap.size) rfl (enters_of Try.func27 (by kernel_rfl) rfl) (chunk_rounds ps pn a n c zs (by omega)) rfl
    (fun k X => Only W.heap.size p W X ∧ Cel (p + 1) (.int .i64 (k : Int)) X ∧ ∃ v, Cel p v X ∧ X.ownsRow W.heap.size 3 1 v (thrK zs k).length ((ofN (thrK zs k)).map (Value.int .i64)))
    (fun c X => False)
    (fun k a' X => ∃ aa m, (a' = { tmps := #[.slice a n c, undef, .slice none 0 0, .pointer (some ⟨p, 0, none⟩), .pointer (some ⟨p + 1, 0, none⟩), .slice aa m m, .slice a n c, .func (.func 27) #[] #[.pointer (some ⟨ps, 0, none⟩), .pointer (some ⟨pn, 0, none⟩)], .slice aa m m, undef, undef, undef, undef, undef, undef, undef, undef, undef, undef], defers := [] } ∧ m ≤ 56) ∧ Pin X aa m m (blkB zs k))
    (fun k X h => HX.out X h.1) ?hI ?hIx ?hAx (fun _ _ h => h) ?h0 ?assign (fun _ _ _ h => by cases h) ?body ?done ?stop
  case hI => exact fun k => (Only.abides rfl).and ((Cel.abides _ _ _).and (Abides.ex fun v => (Cel.abides _ _ _).and (rowOwn_abides _ _ _ _ _ _ _)))
  case hIx => exact fun c => Abides.pure _ _
  case hAx => exact fun k a' => Abides.ex fun aa => Abides.ex fun m => (Abides.pure _ _).and ⟨fun X X' h hb => h.next hb, fun l X X' _ h ha => h.aside ha⟩
  case h0 => exact ⟨Only.refl _ _ _, HC'.out, .slice none 0 0, HC.out, World.ownsRow_nil _ _ _ _⟩
  case assign =>
    rintro l2 k v X K hk hle hI ⟨aa, m, rfl, hm, hp⟩ hK
    gi_wp2
    exact hK _ _ (Below.refl _ _) ⟨aa, m, ⟨rfl, hm⟩, hp⟩
  case body =>
    rintro l2 k a' X hk hs hle ⟨ho, hq, v, hv, hr⟩ ⟨aa, m, ⟨rfl, hm⟩, hp⟩
    have hlen : (thrK zs k).length ≤ k := Nat.le_trans (List.length_filter_le _ _) (Nat.le_of_eq List.length_range)
    have hkb : k ≤ 100000000 := by have : nBl n ≤ 100000000 := by unfold nBl; omega
                                   omega
    have HO := Lib.hid ho
    have HQ := Lib.hid hq
    have HV := Lib.hid hv
    have HR := Lib.hid hr
    have HST := Lib.hid (thrK_step zs k)
    have hno := nought_any aa m m (blkB zs k) X hp.bys (by omega)
    rw [nought_has] at hno
    have hWX : W.heap.size ≤ X.heap.size := ho.2.2.2.1
    have HPL := Lib.hid hpl
    clear ho hr hs hp hle
    obtain ⟨q0, q1⟩ := hv
    obtain ⟨q2, q3⟩ := hq
    cases hz : hasB (blkB zs k) with
    | true =>
      rw [hz] at hno
      have HZ := Lib.hid hz
      clear hz
      have HRA := Lib.hid (rowOwn_next HR.out ((Below.refl X.heap.size X).alloc (Nat.le_refl _) (.cells #[.int .i64 (k : Int)] 3)))
      gi_wp2_with (first | (refine ⟨trivial, ?_⟩; gi_at_call 17; refine (CallsIn.inRound l2 (callsIn_wide.2 hno)).mono ?_; clear hno; rintro e w' ⟨rfl, rfl⟩) | (gi_at_builtin; go_must (refine wpListIn_api rfl (.tmp 12) (.tmp 14) rfl W.heap.size _ (thrK zs k).length (ofN (thrK zs k)) rfl HRA.out X.heap.size (k : Int) rfl (by simp) (by omega) (by simp; omega) ?_); intro g2 k2 w2 ho2 hg2; have c3 := cel_through HV.out HRA.out hg2 (by have := HPL.out; omega); have c4 := cel_through HQ.out HRA.out hg2 (by have := HPL.out; omega); obtain ⟨c3a, c3b⟩ := c3; obtain ⟨c4a, c4b⟩ := c4))
      have HG2 := Lib.hid (below_row HRA.out hg2 (by simp; omega))
      have e1 : ((k : Int) + 1) = ((k + 1 : Nat) : Int) := by omega
      have hst := HST.out
      rw [HZ.out, if_pos rfl] at hst
      rw [hst, ofN_snoc, List.length_append, List.length_singleton]
      rw [e1]
      have hp3 := HPL.out
      refine ⟨(((keeps_below ((Below.refl X.heap.size X).alloc (Nat.le_refl _) _)).trans (keeps_row HRA.out hg2)).trans ((KeepsOthers.setCell _ _ _).from _)).trans ((KeepsOthers.setCell _ _ _).from _), ?_, Cel.set (Cel.other ⟨c4a, c4b⟩ (by omega) _) _, _, Cel.other (Cel.set ⟨c3a, c3b⟩ _) (by omega) _, ?_⟩
      · exact (((HO.out.below ((Below.refl W.heap.size X).alloc hWX _)).below HG2.out).set _).set1 _
      · exact ownsRow_setCell_below (ownsRow_setCell_below ho2 (show p < W.heap.size by omega) _) (show p + 1 < W.heap.size by omega) _
    | false =>
      rw [hz] at hno
      have HZ := Lib.hid hz
      clear hz
      gi_wp2_with (refine ⟨trivial, ?_⟩; gi_at_call 17; refine (CallsIn.inRound l2 (callsIn_wide.2 hno)).mono ?_; clear hno; rintro e w' ⟨rfl, rfl⟩)
      have e1 : ((k : Int) + 1) = ((k + 1 : Nat) : Int) := by omega
      have hst := HST.out
      rw [HZ.out, if_neg (by decide), List.append_nil] at hst
      rw [hst, e1]
      have hp3 := HPL.out
      refine ⟨(KeepsOthers.setCell _ _ _).from _, HO.out.set1 _, Cel.set HQ.out _, _, Cel.other HV.out (by omega) _, ownsRow_setCell_below HR.out (show p + 1 < W.heap.size by omega) _⟩
  case done =>
    rintro D X hD ⟨ho, hq, v, hv, hr⟩ hK
    have hBX : Below w.heap.size w X := by
      have hW := HW.out
      have hP := HPE.out
      exact ⟨ho.1.symm.trans hW.os, ho.2.1.symm.trans hW.tape, ho.2.2.1.symm.trans hW.output, Nat.le_trans hW.size ho.2.2.2.1, fun j hj => (ho.2.2.2.2 j (by have := hW.size; omega) (by omega) (by omega)).trans (hW.block j hj)⟩
    obtain ⟨q0, q1⟩ := hv
    go_wp2_with (fail)
    refine ⟨by simp, .inl ⟨_, _, rfl, run_takeDeferred hK, ?_⟩⟩
    have hA := aside_put hK rfl (.deferred none)
    have hr2 := rowOwn_aside hr hA
    have hB2 : Below w.heap.size w (X.putObj D (.deferred none)) := hBX.trans (hA.turn.below hBX.size (fun j e => by subst e; have := HLW.out; omega))
    obtain ⟨aa, cc, rfl, hi, h1, h2, h3⟩ := OwnI.ins hr2
    have e : thrK zs (nBl n) = thr zs := by rw [← HLN.out]; exact thrK_end zs
    rw [e] at hi h1 ⊢
    refine ⟨.slice aa (thr zs).length cc, ?_, aa, cc, rfl, hi, h1, h2, fun x hx => ⟨by have := (h3 x hx).1; have := HLW.out; omega, (h3 x hx).2⟩, hB2⟩
    simp [results, Try.f7, go_sem]
  case stop => exact fun D c X hD h => h.elim

end Go.Proofs.Ytijhmpdeohbjhaa

/-
  How many pointers' blocks there are: the program's, by contract.
-/
namespace Go.Proofs.Ytijhmpdeohbjhaa
open Go.RowKit Go.Maps
set_option linter.unusedVariables false
set_option linter.unusedSimpArgs false

/-- One more, if it isn't there yet. -/
def insN (m : List Nat) (a : Nat) : List Nat := if a ∈ m then m else m ++ [a]
/-- The pointers' blocks for one block more. -/
def ptS (m : List Nat) (k : Int) : List Nat := if k < 16 ∨ 828 ≤ k then m else if k < 44 then insN m 0 else insN (insN m 1) (2 + ((k - 44) / 28).toNat)
/-- The pointers' blocks for the first i blocks. -/
def ptL (ks : List Int) (i : Nat) : List Nat := (ks.take i).foldl ptS []
theorem ptL_succ {ks : List Int} {i : Nat} (h : i < ks.length) : ptL ks (i + 1) = ptS (ptL ks i) (inu ks i) := by
  unfold ptL
  rw [List.take_add_one, List.foldl_append]
  simp [inu, List.getD, h]
/-- A map that is this set of numbers. -/
structure SetM (D : DataW Unit) (m : List Nat) : Prop where
  tidy : Tidy D
  has : ∀ k : Nat, Maps.has D (kI k) = decide (k ∈ m)
  size : Maps.size D = m.length
theorem SetM.none : SetM (.map []) [] := ⟨tidy_empty, fun k => rfl, rfl⟩
theorem SetM.ins {D : DataW Unit} {m : List Nat} (h : SetM D m) {a : Nat} (hb : a ≤ 9223372036854775807) : SetM (D.put (kI a) (.agg [])) (insN m a) := by
  have hk := kI_key hb
  have hm := h.tidy.isMap
  refine ⟨h.tidy.put hk _, fun k => ?_, ?_⟩
  · by_cases e : k = a
    · subst e
      rw [has_put_same hm hk]
      unfold insN; split <;> simp_all
    · rw [has_put_other (fun x => e (kI_inj x)), h.has]
      unfold insN; split <;> simp [e]
  · rw [size_put h.tidy, h.has, h.size]
    unfold insN; split <;> simp_all
/-- The block of such a map. -/
def StAt (w : World) (b : Nat) (m : List Nat) (N : Nat) : Prop := ∃ D, w.ownsMap Try.prog 3 unitElem b N D ∧ SetM D m
theorem StAt.mono {w : World} {b N M : Nat} {m : List Nat} (h : StAt w b m N) (hN : N ≤ M) : StAt w b m M := by
  obtain ⟨D, h1, h2⟩ := h
  exact ⟨D, h1.mono hN, h2⟩
theorem StAt.len {w : World} {b N : Nat} {m : List Nat} (h : StAt w b m N) (ty : TypeId) : (Builtin.len_ #[52] ty #[.map (some b)]).run Try.prog w = .ok (.int .i64 (m.length : Nat)) w := by
  obtain ⟨D, h1, h2⟩ := h
  have := h1.len Try.underlying52 ty
  rw [h2.size] at this
  exact this
theorem StAt.put {w : World} {b N : Nat} {m : List Nat} (h : StAt w b m N) {a : Nat} (hb : a ≤ 9223372036854775807) (hN : N ≤ 1000000000) {z : Int} (hz : z = (a : Int)) :
    ∃ w', (Instr.mapUpdate 52 (.map (some b)) (.int .i64 z) (.agg #[])).run Try.prog w = .ok () w' ∧ StAt w' b (insN m a) (N + 1) ∧ w.mapTurned w' b := by
  obtain ⟨D, h1, h2⟩ := h
  subst hz
  obtain ⟨w', hrun, hown, ht⟩ := h1.store lawN Try.underlying52 (by unfold maxLen; omega) (kI_of hb) unitElem_mk
  exact ⟨w', hrun, ⟨_, hown, h2.ins hb⟩, ht⟩

set_option maxRecDepth 100000 in
set_option maxHeartbeats 4000000 in
theorem pointing_any (a : Option Addr) (n c : Nat) (ks : List Int) (w : World) (h : Ins w a n ks) (hn : n ≤ 100000000) :
    Calls Try.prog 13 #[.slice a n c] w fun e w' => e = .returned (.int .i64 ((ptL ks n).length : Nat)) ∧ Below w.heap.size w w' := by
  have hmm := @run_makeMap Try.prog
  have HL := Lib.hid h.len
  have hst : StAt (w.alloc (.map #[] 0)) w.heap.size [] 0 := ⟨_, World.ownsMap_made (H := Unit) w Try.prog 3 unitElem, SetM.none⟩
  have hb1 : Below w.heap.size w (w.alloc (.map #[] 0)) := (Below.refl _ _).alloc (Nat.le_refl _) _
  have HST := Lib.hid hst
  have HB1 := Lib.hid hb1
  have HI := Lib.hid h
  obtain ⟨b, hb⟩ : ∃ b, b = w.heap.size := ⟨_, rfl⟩
  have HBE := Lib.hid hb
  clear h hst hb1
  go_enter Try.func13, Try.ntmps13
  go_wp2_with (fail)
  rw [← hb]
  clear hb
  go_loopw [5, 9, 21, 28] (fun _ v _ _ wr => ∃ k : Nat, k ≤ n ∧ v = .int .i64 k ∧ Below w.heap.size w wr ∧ StAt wr b (ptL ks k) (2 * k)) (fun _ v _ _ _ => n - (RowKit.intOf v).toNat)
  case atStart => exact ⟨0, Nat.zero_le _, rfl, HB1.out, by rw [HBE.out]; exact HST.out⟩
  case round =>
    obtain ⟨k, hk, rfl, hB, hS⟩ := hrel
    have HB := Lib.hid hB
    have HS := Lib.hid hS
    by_cases hlt : k < n
    · obtain ⟨g, off, rfl, hgl, hcl⟩ := HI.out.at (by omega)
      have hc := hcl k hlt
      rw [← hB.cell (p := ⟨g, off + k, none⟩) hgl] at hc
      obtain ⟨z, hz⟩ : ∃ z, z = inu ks k := ⟨_, rfl⟩
      rw [← hz] at hc
      have HZ := Lib.hid hz
      have HSU := Lib.hid (ptL_succ (ks := ks) (i := k) (by rw [HL.out]; exact hlt))
      clear hz hgl hcl hB hS
      have k1 : (k : Int) < (n : Int) := by omega
      have k0 : (0 : Int) ≤ (k : Int) := by omega
      have fin : ∀ w2, Below w.heap.size w w2 → StAt w2 b (ptS (ptL ks k) z) (2 * k + 2) → ∃ j : Nat, j ≤ n ∧ Value.int .i64 ((k : Int) + 1) = .int .i64 j ∧ Below w.heap.size w w2 ∧ StAt w2 b (ptL ks j) (2 * j) := fun w2 h1 h2 =>
        ⟨k + 1, by omega, by congr 1, h1, by rw [HSU.out, ← HZ.out]; exact h2⟩
      have HF := Lib.hid fin
      clear fin
      have hbs : w.heap.size ≤ wr.heap.size := HB.out.size
      by_cases z1 : z < 16
      · go_wp2_with (fail)
        go_roundw
        case rel => exact HF.out _ HB.out (by unfold ptS; rw [if_pos (.inl z1)]; exact HS.out.mono (by omega))
        case measure => simp [RowKit.intOf]; omega
      by_cases z2 : 828 ≤ z
      · go_wp2_with (fail)
        go_roundw
        case rel => exact HF.out _ HB.out (by unfold ptS; rw [if_pos (.inr z2)]; exact HS.out.mono (by omega))
        case measure => simp [RowKit.intOf]; omega
      by_cases z3 : z < 44
      · obtain ⟨w2, hup, hs2, ht2⟩ := HS.out.put (a := 0) (by omega) (by omega) (z := 0) rfl
        have hb2 : Below w.heap.size wr w2 := (Below.refl _ _).grown ht2.grown hbs (fun j hj => by cases hj; exact Nat.le_of_eq HBE.out.symm)
        have HB2 := Lib.hid (HB.out.trans hb2)
        have HS2 := Lib.hid hs2
        clear hs2 ht2 hb2
        go_wp2_with (fail)
        go_roundw
        case rel => exact HF.out _ HB2.out (by unfold ptS; rw [if_neg (by omega), if_pos z3]; exact HS2.out.mono (by omega))
        case measure => simp [RowKit.intOf]; omega
      obtain ⟨w2, hup, hs2, ht2⟩ := HS.out.put (a := 1) (by omega) (by omega) (z := 1) rfl
      have hb2 : Below w.heap.size wr w2 := (Below.refl _ _).grown ht2.grown hbs (fun j hj => by cases hj; exact Nat.le_of_eq HBE.out.symm)
      obtain ⟨q, hq⟩ : ∃ q : Nat, (z - 44) / 28 = (q : Int) := ⟨((z - 44) / 28).toNat, by omega⟩
      have hq2 : q ≤ 28 := by omega
      have htd : Int.tdiv (z - 44) 28 = (q : Int) := by rw [Int.tdiv_eq_ediv_of_nonneg (by omega)]; exact hq
      obtain ⟨w3, hup3, hs3, ht3⟩ := hs2.put (a := 2 + q) (by omega) (by omega) (z := 2 + (q : Int)) (by omega)
      have hb3 : Below w.heap.size w2 w3 := (Below.refl _ _).grown ht3.grown (Nat.le_trans hbs hb2.size) (fun j hj => by cases hj; exact Nat.le_of_eq HBE.out.symm)
      have HB3 := Lib.hid ((HB.out.trans hb2).trans hb3)
      have HS3 := Lib.hid hs3
      have HQ : Hid (((z - 44) / 28).toNat = q) := Lib.hid (by omega)
      have z4 : z ≤ 9223372036854775807 := by omega
      clear hs2 ht2 hb2 hs3 ht3 hb3 hq
      go_wp2_with (fail)
      go_roundw
      case rel => exact HF.out _ HB3.out (by unfold ptS; rw [if_neg (by omega), if_neg z3, HQ.out]; exact HS3.out.mono (by omega))
      case measure => simp [RowKit.intOf]; omega
    · obtain rfl : k = n := by omega
      have hlen := fun ty => hS.len ty
      have k1 : ¬ (k : Int) < (k : Int) := by omega
      clear hS hB
      go_wp2_with (fail)
      go_ret
      exact ⟨rfl, HB.out⟩
end Go.Proofs.Ytijhmpdeohbjhaa

/-
  A tree of a root alone: New, what the root says, by contract.
-/
namespace Go.Proofs.Ytijhmpdeohbjhaa
open Go.RowKit
set_option linter.unusedVariables false
set_option linter.unusedSimpArgs false

/-- A root alone lies in block b. -/
structure Rot (w : World) (b : Nat) : Prop where
  lt : b < w.heap.size
  c0 : w.cell? ⟨b, 0, none⟩ = some (.int .i64 2)
  c1 : w.cell? ⟨b, 1, none⟩ = some (.int .i64 2)
  c2 : w.cell? ⟨b, 2, none⟩ = some (.slice none 0 0)
  c3 : w.cell? ⟨b, 3, none⟩ = some (.slice none 0 0)
theorem Rot.turn {M : Nat → Prop} {w w' : World} {b : Nat} (h : Rot w b) (ht : Turn M w w') (hm : ¬ M b) : Rot w' b :=
  ⟨Nat.lt_of_lt_of_le h.lt ht.size, (ht.cell (a := ⟨b, 0, none⟩) h.lt hm).trans h.c0, (ht.cell (a := ⟨b, 1, none⟩) h.lt hm).trans h.c1, (ht.cell (a := ⟨b, 2, none⟩) h.lt hm).trans h.c2, (ht.cell (a := ⟨b, 3, none⟩) h.lt hm).trans h.c3⟩
theorem Rot.next {w w' : World} {b : Nat} (h : Rot w b) (hb : Below w.heap.size w w') : Rot w' b := h.turn (M := fun _ => False) (Turn.of_below hb) id
theorem res_cell {P : Program} {fn : Func} {t : Tmp} {T : TypeId} (h : fn.results = #[.cell t T]) (tmps : Array Value) (w : World) (p : Addr) (v : Value) (hp : tmps.getD t undef = .pointer (some p)) (hv : (loadVar T p).run P w = .ok v w) : (results fn tmps).run P w = .ok v w := by
  have ha : asAddr (tmps.getD t undef) = (pure p : Sem Addr) := by rw [hp]; rfl
  unfold results
  rw [h]
  simp only [List.mapM_toArray, List.mapM_cons, List.mapM_nil, ha, Sem.run_bind, Sem.run_pure, Result.andThen_ok, hv, map_eq_pure_bind]
  rfl
/-- The block of a tree. -/
def TrB (w : World) (b : Nat) (v : Value) : Prop := w.heap[b]? = some (.cells #[v] 34 (0, 0))
theorem TrB.load {w : World} {b : Nat} {v : Value} (h : TrB w b v) : (loadVar 34 ⟨b, 0, none⟩).run Try.prog w = .ok (.agg #[v]) w :=
  run_loadVar_row w b _ _ _ _ _ h Try.underlying34 rfl (by kernel_rfl)
theorem new_root (w : World) : Calls Try.prog 11 #[] w fun e w' => ∃ b, e = .returned (.agg #[.slice (some ⟨b, 0, none⟩) 1 1]) ∧ Rot w' b ∧ w.heap.size ≤ b ∧ Below w.heap.size w w' := by
  go_enter Try.func11, Try.ntmps11
  go_wp2_with (fail)
  obtain ⟨w1, hw1⟩ : ∃ w1, w1 = (w.alloc (.cells #[.slice (some ⟨w.heap.size + 1, 0, none⟩) 1 1] 34 (0, 0))).alloc (.cells #[.int .i64 2, .int .i64 2, .slice none 0 0, .slice none 0 0] 50 (0, 0)) := ⟨_, rfl⟩
  have hb1 : Below w.heap.size w w1 := by rw [hw1]; exact ((Below.refl _ _).alloc (Nat.le_refl _) _).alloc (by simp) _
  have hz : w1.heap.size = w.heap.size + 2 := by rw [hw1]; simp
  have e : w1.cell? ⟨w.heap.size, 0, none⟩ = some (.slice (some ⟨w.heap.size + 1, 0, none⟩) 1 1) := by rw [hw1]; go_simp
  have e0 : w1.cell? ⟨w.heap.size + 1, 0, none⟩ = some (.int .i64 2) := by rw [hw1]; go_simp
  have e1 : w1.cell? ⟨w.heap.size + 1, 1, none⟩ = some (.int .i64 2) := by rw [hw1]; go_simp
  have e2 : w1.cell? ⟨w.heap.size + 1, 2, none⟩ = some (.slice none 0 0) := by rw [hw1]; go_simp
  have e3 : w1.cell? ⟨w.heap.size + 1, 3, none⟩ = some (.slice none 0 0) := by rw [hw1]; go_simp
  have hr1 : TrB w1 w.heap.size (.slice (some ⟨w.heap.size + 1, 0, none⟩) 1 1) := by
    rw [hw1]
    have := heap_alloc_new w (.cells #[.slice (some ⟨w.heap.size + 1, 0, none⟩) 1 1] 34 (0, 0))
    exact (Below.heap_alloc _ _ _ (by simp)).trans this
  rw [← hw1]
  refine bodyPost_ret (res_cell rfl _ _ ⟨w.heap.size, 0, none⟩ _ rfl hr1.load) rfl ?_
  exact ⟨w.heap.size + 1, rfl, ⟨by omega, e0, e1, e2, e3⟩, by omega, hb1⟩
theorem cloneE_nil (w : World) : Calls Try.prog 46 #[.slice none 0 0] w fun e w' => e = .returned (.slice none 0 0) ∧ w = w' := by
  have hq : ∀ (w : World) (a : Option Addr) (n c : Nat), (binOp .eql 48 (.slice a n c) (.slice none 0 0)).run Try.prog w = .ok (.bool a.isNone) w := fun w a n c => Lib.run_eql_slice_nil w _ _ a n c 0 0 Try.underlying48
  go_enter Try.func46, Try.ntmps46
  go_wp2_with (fail)
  go_ret
  exact ⟨rfl, rfl⟩
theorem numberedE_nil (w : World) : Calls Try.prog 41 #[.slice none 0 0] w fun e w' => e = .returned (.slice none 0 0) ∧ w = w' := by
  go_enter Try.func41, Try.ntmps41
  go_wp2_with (fail)
  refine (cloneE_nil _).mono ?_
  rintro e w2 ⟨rfl, rfl⟩
  go_wp2_with (fail)
  go_loopw [4, 9] (fun _ v wr => v = .int .i64 0 ∧ wr = w) (fun _ _ _ => 0)
  case atStart => exact ⟨rfl, rfl⟩
  case round =>
    obtain ⟨rfl, rfl⟩ := hrel
    go_wp2_with (fail)
    go_ret
    exact ⟨rfl, rfl⟩
theorem says_root (w : World) : Calls Try.prog 33 #[.agg #[.int .i64 2, .int .i64 2, .slice none 0 0, .slice none 0 0]] w fun e w' => ∃ a c, e = .returned (.slice a 0 c) ∧ Pin w' a 0 c [] ∧ Below w.heap.size w w' := by
  go_enter Try.func33, Try.ntmps33
  go_wp2_with (fail)
  refine (numberedE_nil _).mono ?_
  rintro e w2 ⟨rfl, rfl⟩
  go_wp2_with (fail)
  refine (encode_any none 0 0 [] _ (ens_nil _ _) (by omega)).mono ?_
  rintro e w3 ⟨v, rfl, ho, hb⟩
  obtain ⟨a, c, rfl, hp, _⟩ := ho.pin
  have hbb : Below w.heap.size w w3 := ((Below.refl w.heap.size w).alloc (Nat.le_refl _) _).trans (hb.mono (by simp))
  have HP := Lib.hid hp
  have HB := Lib.hid hbb
  clear ho hp hb hbb
  go_wp2_with (fail)
  have he : encO [] = [] := by decide
  go_ret
  exact ⟨a, c, rfl, HP.out, HB.out⟩
end Go.Proofs.Ytijhmpdeohbjhaa

/-
  Right: whether a geometry is right.
-/
namespace Go.Proofs.Ytijhmpdeohbjhaa
open Go.RowKit

set_option maxHeartbeats 400000 in
theorem right_bd (d r s : Int) (w : World) (h : Bd d r s) :
    Calls Try.prog 12 #[gv d r s] w fun e w' => e = .returned (.bool (decide (8 ≤ QC s * PL d r))) ∧ Below w.heap.size w w' := by
  obtain ⟨p1, p2, p3, p4⟩ := PL_bd h.d1 h.d2 h.r1 h.r2
  obtain ⟨q1, q2⟩ := QP_bd h
  obtain ⟨d1, d2, r1, r2, s1, s2⟩ := h
  have ew : IntKind.i64.wrap (QC s * PL d r) = QC s * PL d r := IntWalk.i64_in _ (by omega)
  clear p1 p2 p3 p4 q1 q2
  go_enter Try.func12, Try.ntmps12
  go_wp2_with (fail)
  go_region_held3 (fun w' => w'.cell? ⟨w.heap.size, 0, none⟩ = some (.int .i64 d) ∧ w'.cell? ⟨w.heap.size, 1, none⟩ = some (.int .i64 r) ∧ w'.cell? ⟨w.heap.size, 2, none⟩ = some (.int .i64 s))
    (first | go_keep | fail "keep")
    (first | (go_at_call 21
              refine (within_yes _ _ _ _ (by omega) (by omega)).mono ?_
              rintro e w2 ⟨rfl, rfl⟩)
           | (go_at_call 22
              refine (otherCap_any d r s _ s1 s2).mono ?_
              rintro e w2 ⟨rfl, hb⟩
              have hz : w.heap.size < w2.heap.size := size_box _ hb
              obtain ⟨hc, hf⟩ := bcell hb)
           | (go_at_call 23
              refine (placesS_any d r s _ d1 d2 r1 r2).mono ?_
              rintro e w3 ⟨rfl, hb3⟩
              obtain ⟨hc, hf⟩ := bcell hb3))
  go_wp2_with (fail)
  go_ret
  exact ⟨rfl, (bel_box _ (by simp) hb).trans (hb3.mono (Nat.le_of_lt hz))⟩

theorem not_Bd {d r s : Int} (h : ¬ Bd d r s) : (d < 3 ∨ 16 < d) ∨ ((3 ≤ d ∧ d ≤ 16) ∧ (r < 1 ∨ 4 < r)) ∨ ((3 ≤ d ∧ d ≤ 16) ∧ (1 ≤ r ∧ r ≤ 4) ∧ (s < 12 ∨ 64 < s)) := by
  by_cases h1 : 3 ≤ d ∧ d ≤ 16
  · by_cases h2 : 1 ≤ r ∧ r ≤ 4
    · by_cases h3 : 12 ≤ s ∧ s ≤ 64
      · exact absurd ⟨h1.1, h1.2, h2.1, h2.2, h3.1, h3.2⟩ h
      · exact .inr (.inr ⟨h1, h2, by omega⟩)
    · exact .inr (.inl ⟨h1, by omega⟩)
  · exact .inl (by omega)

/-- Is a number within its bounds? -/
def inB (n a b : Int) : Bool := decide (a ≤ n ∧ n ≤ b)
theorem within_any (n a b : Int) (w : World) : Calls Try.prog 21 #[.int .i64 n, .int .i64 a, .int .i64 b] w fun e w' => e = .returned (.bool (inB n a b)) ∧ w' = w := by
  by_cases h : a ≤ n ∧ n ≤ b
  · rw [show inB n a b = true from decide_eq_true h]
    exact (within_yes n a b w h.1 h.2).mono fun _ _ h => ⟨h.1, h.2.symm⟩
  · rw [show inB n a b = false from decide_eq_false h]
    exact (within_no n a b w (by omega)).mono fun _ _ h => ⟨h.1, h.2.symm⟩
theorem inB_yes {n a b : Int} (h : a ≤ n ∧ n ≤ b) : inB n a b = true := decide_eq_true h
theorem inB_no {n a b : Int} (h : n < a ∨ b < n) : inB n a b = false := decide_eq_false (by omega)

set_option maxHeartbeats 400000 in
theorem right_outD (d r s : Int) (w : World) (e1 : inB d 3 16 = false) :
    Calls Try.prog 12 #[gv d r s] w fun e w' => e = .returned (.bool false) ∧ Below w.heap.size w w' := by
  go_enter Try.func12, Try.ntmps12
  go_wp2_with (fail)
  go_quiet ((go_at_call 21; exact Calls.quiet_of_same (within_any _ _ _ _)))
  go_wp2_with (fail)
  go_ret
  exact ⟨rfl, below_drewN ((Below.refl _ _).alloc (Nat.le_refl _) _) _⟩
set_option maxHeartbeats 400000 in
theorem right_outR (d r s : Int) (w : World) (e1 : inB d 3 16 = true) (e2 : inB r 1 4 = false) :
    Calls Try.prog 12 #[gv d r s] w fun e w' => e = .returned (.bool false) ∧ Below w.heap.size w w' := by
  go_enter Try.func12, Try.ntmps12
  go_wp2_with (fail)
  go_quiet ((go_at_call 21; exact Calls.quiet_of_same (within_any _ _ _ _)))
  go_wp2_with (fail)
  go_ret
  exact ⟨rfl, below_drewN ((Below.refl _ _).alloc (Nat.le_refl _) _) _⟩
set_option maxHeartbeats 400000 in
theorem right_outS (d r s : Int) (w : World) (e1 : inB d 3 16 = true) (e2 : inB r 1 4 = true) (e3 : inB s 12 64 = false) :
    Calls Try.prog 12 #[gv d r s] w fun e w' => e = .returned (.bool false) ∧ Below w.heap.size w w' := by
  go_enter Try.func12, Try.ntmps12
  go_wp2_with (fail)
  go_quiet ((go_at_call 21; exact Calls.quiet_of_same (within_any _ _ _ _)))
  go_wp2_with (fail)
  go_ret
  exact ⟨rfl, below_drewN ((Below.refl _ _).alloc (Nat.le_refl _) _) _⟩
theorem right_out (d r s : Int) (w : World) (h : ¬ Bd d r s) :
    Calls Try.prog 12 #[gv d r s] w fun e w' => e = .returned (.bool false) ∧ Below w.heap.size w w' := by
  rcases not_Bd h with h1 | ⟨h0, h1⟩ | ⟨h0, h00, h1⟩
  · exact right_outD d r s w (inB_no h1)
  · exact right_outR d r s w (inB_yes h0) (inB_no h1)
  · exact right_outS d r s w (inB_yes h0) (inB_yes h00) (inB_no h1)

theorem right_yes (d r s : Int) (w : World) (h : Rt d r s) : Calls Try.prog 12 #[gv d r s] w fun e w' => e = .returned (.bool true) ∧ Below w.heap.size w w' := by
  have := right_bd d r s w h.toBd
  rwa [decide_eq_true h.q] at this
theorem right_no (d r s : Int) (w : World) (h : ¬ Rt d r s) : Calls Try.prog 12 #[gv d r s] w fun e w' => e = .returned (.bool false) ∧ Below w.heap.size w w' := by
  by_cases hb : Bd d r s
  · have := right_bd d r s w hb
    rwa [decide_eq_false (fun q => h ⟨hb, q⟩)] at this
  · exact right_out d r s w hb

theorem bel_box' {w w2 : World} {B : Nat} (o : Obj) (hB : w.heap.size ≤ B) (hb : Below B (w.alloc o) w2) : Below w.heap.size w w2 :=
  ((Below.refl _ _).alloc (Nat.le_refl _) o).trans (hb.mono hB)
theorem size_box' {w w2 : World} {B : Nat} (o : Obj) (hb : Below B (w.alloc o) w2) : w.heap.size < w2.heap.size := by
  have := hb.size; simp at this; omega

set_option maxHeartbeats 1000000 in
theorem places_yes (d r s : Int) (w : World) (h : Rt d r s) : Calls Try.prog 20 #[gv d r s] w fun e w' => e = .returned (.int .i64 (PL d r)) ∧ Below w.heap.size w w' := by
  go_enter Try.func20, Try.ntmps20
  go_wp2_with (fail)
  with_reducible refine (right_yes d r s _ h).mono ?_
  rintro e w2 ⟨rfl, hb⟩
  have hz : w.heap.size < w2.heap.size := size_box' _ hb
  have hB := bel_box' _ (by simp) hb
  obtain ⟨hc, hf⟩ := bcell hb
  clear hb
  go_wp2_with (fail)
  with_reducible refine (placesS_any d r s _ h.d1 h.d2 h.r1 h.r2).mono ?_
  rintro e w3 ⟨rfl, hb3⟩
  go_wp2_with (fail)
  go_ret
  exact ⟨rfl, hB.trans (hb3.mono (Nat.le_of_lt hz))⟩
/-- How many segments there may be for data. -/
def PC (s : Int) : Int := (s - 2 - 2 * QC s) / 3
end Go.Proofs.Ytijhmpdeohbjhaa

/-
  The caps: the program's.
-/
namespace Go.Proofs.Ytijhmpdeohbjhaa
open Go.RowKit

set_option maxHeartbeats 1000000 in
theorem caps_yes (d r s : Int) (w : World) (h : Rt d r s) : Calls Try.prog 19 #[gv d r s] w fun e w' => e = .returned (.tuple #[.int .i64 (PC s), .int .i64 (QC s)]) ∧ Below w.heap.size w w' := by
  obtain ⟨q1, q2⟩ := QC_bd h.s1 h.s2
  have s1 := h.s1
  have s2 := h.s2
  have s3 : 2 * QC s ≤ s - 2 := by unfold QC; omega
  go_enter Try.func19, Try.ntmps19
  go_wp2_with (fail)
  with_reducible refine (right_yes d r s _ h).mono ?_
  rintro e w2 ⟨rfl, hb⟩
  have hz : w.heap.size < w2.heap.size := size_box' _ hb
  have hB := bel_box' _ (by simp) hb
  obtain ⟨hc, hf⟩ := bcell hb
  clear hb
  go_wp2_with (fail)
  with_reducible refine (otherCap_any d r s _ s1 s2).mono ?_
  rintro e w3 ⟨rfl, hb3⟩
  have hz3 : w.heap.size < w3.heap.size := Nat.lt_of_lt_of_le hz hb3.size
  obtain ⟨hc3, hf3⟩ := bcell hb3
  go_wp2_with (fail)
  go_ret2
  exact ⟨rfl, hB.trans (hb3.mono (Nat.le_of_lt hz))⟩
end Go.Proofs.Ytijhmpdeohbjhaa
