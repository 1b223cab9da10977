/-
  The segments that are free: the program's.
-/
import Derived.Test.YtdgjhfghggcfaaaSg
import Derived.Maps.OwnIn
import Derived.Shelf.Abstract
namespace Go.Proofs.Ytdgjhfghggcfaaa
open Go.RowKit Go.Maps
set_option linter.unusedVariables false
attribute [local go_sem] Oper.semAt_some

/-- A cell by itself, free to be written. -/
def Cel (p : Nat) (v : Value) (X : World) : Prop := X.cell? ⟨p, 0, none⟩ = some v ∧ X.frozen? ⟨p, 0, none⟩ = false
theorem Cel.lt {p : Nat} {v : Value} {X : World} (h : Cel p v X) : p < X.heap.size := World.block_lt_of_cell? X _ h.1
theorem Cel.next {p : Nat} {v : Value} {X X' : World} (h : Cel p v X) (hb : Below X.heap.size X X') : Cel p v X' := ⟨(hb.cell (p := ⟨p, 0, none⟩) h.lt).trans h.1, (hb.frozen (p := ⟨p, 0, none⟩) h.lt).trans h.2⟩
theorem Cel.below {p B : Nat} {v : Value} {X X' : World} (h : Cel p v X) (hp : p < B) (hb : Below B X X') : Cel p v X' := ⟨(hb.cell (p := ⟨p, 0, none⟩) hp).trans h.1, (hb.frozen (p := ⟨p, 0, none⟩) hp).trans h.2⟩
theorem Cel.aside {l p : Nat} {v : Value} {X X' : World} (h : Cel p v X) (ha : Aside l X X') : Cel p v X' := ⟨ha.cell h.1, (ha.frozen h.1).trans h.2⟩
theorem Cel.abides (K p : Nat) (v : Value) : Abides K (Cel p v) := ⟨fun X X' h hb => h.next hb, fun l X X' hl h ha => h.aside ha⟩
theorem Cel.set {p : Nat} {v : Value} {X : World} (h : Cel p v X) (u : Value) : Cel p u (X.setCell ⟨p, 0, none⟩ u) := ⟨World.cell?_setCell_same _ _ _ h.1, by simpa using h.2⟩
theorem rowOwn_aside {w w' : World} {l B k n : Nat} {ty : TypeId} {v : Value} {xs : List Value} (h : w.ownsRow B ty k v n xs) (ha : Aside l w w') : w'.ownsRow B ty k v n xs := by
  refine h.kept (row := some l) ⟨ha.turn.os, ha.turn.tape, ha.turn.output, ha.turn.size, fun k hk hne => ha.turn.block k hk (fun e => hne (by rw [e]))⟩ ?_
  rcases h.2 with ⟨rfl, _⟩ | ⟨g, cap, cur, rfl, _, hg, _⟩
  · exact .inl rfl
  · refine .inr fun e => ?_
    have e' : g = l := by simpa [Value.ownBlock] using e
    exact ha.no _ _ _ (e' ▸ hg)
theorem rowOwn_next {w w' : World} {B k n : Nat} {ty : TypeId} {v : Value} {xs : List Value} (h : w.ownsRow B ty k v n xs) (hb : Below w.heap.size w w') : w'.ownsRow B ty k v n xs :=
  h.kept (row := none) ⟨hb.os, hb.tape, hb.output, hb.size, fun k hk _ => hb.block k (by omega)⟩ (by cases v.ownBlock <;> simp)
theorem rowOwn_abides (K B k n : Nat) (ty : TypeId) (v : Value) (xs : List Value) : Abides K (fun X => X.ownsRow B ty k v n xs) := ⟨fun X X' h hb => rowOwn_next h hb, fun l X X' _ h ha => rowOwn_aside h ha⟩
theorem keeps_row {w w' : World} {B k n C : Nat} {ty : TypeId} {v : Value} {xs : List Value} (h : w.ownsRow B ty k v n xs) (hg : w.grownBy w' v.ownBlock) : KeepsFrom C w w' := by
  refine ⟨hg.size, fun j o _ hj ho => ?_⟩
  refine (hg.block j (Array.getElem?_eq_some_iff.1 hj).1 fun e => ?_).trans hj
  rcases h.2 with ⟨rfl, _⟩ | ⟨g, cap, cur, rfl, _, hgr, _⟩
  · cases e
  · have e' : g = j := by simpa [Value.ownBlock] using e.symm
    subst e'
    rw [hgr] at hj
    cases hj
    cases ho
theorem keeps_below {C : Nat} {w w' : World} (hb : Below w.heap.size w w') : KeepsFrom C w w' := ⟨hb.size, fun k o _ hk _ => (hb.block k (Array.getElem?_eq_some_iff.1 hk).1).trans hk⟩
theorem below_row {w w' : World} {B k n : Nat} {ty : TypeId} {v : Value} {xs : List Value} (h : w.ownsRow B ty k v n xs) (hg : w.grownBy w' v.ownBlock) (hB : B ≤ w.heap.size) : Below B w w' :=
  (Below.refl B w).grown hg hB fun j hj => (h.lt j hj).1
/-- Of the blocks below C only p has turned. -/
def Only (C p : Nat) (w X : World) : Prop := w.os = X.os ∧ w.tape = X.tape ∧ w.output = X.output ∧ w.heap.size ≤ X.heap.size ∧ ∀ k, k < C → k ≠ p → X.heap[k]? = w.heap[k]?
theorem Only.refl (C p : Nat) (w : World) : Only C p w w := ⟨rfl, rfl, rfl, Nat.le_refl _, fun _ _ _ => rfl⟩
theorem Only.below {C p : Nat} {w X X' : World} (h : Only C p w X) (hb : Below C X X') : Only C p w X' := ⟨h.1.trans hb.os.symm, h.2.1.trans hb.tape.symm, h.2.2.1.trans hb.output.symm, Nat.le_trans h.2.2.2.1 hb.size, fun k hk hp => (hb.block k hk).trans (h.2.2.2.2 k hk hp)⟩
theorem Only.set {C p : Nat} {w X : World} (h : Only C p w X) (u : Value) : Only C p w (X.setCell ⟨p, 0, none⟩ u) := ⟨h.1, h.2.1, h.2.2.1, by simpa using h.2.2.2.1, fun k hk hp => (heap_setCell_other _ _ _ _ hp).trans (h.2.2.2.2 k hk hp)⟩
theorem Only.abides {C p : Nat} {w : World} (hC : C = w.heap.size) : Abides C (Only C p w) :=
  ⟨fun X X' h hb => h.below (hb.mono (by subst hC; exact h.2.2.2.1)), fun l X X' hl h ha => ⟨h.1.trans ha.turn.os.symm, h.2.1.trans ha.turn.tape.symm, h.2.2.1.trans ha.turn.output.symm, Nat.le_trans h.2.2.2.1 ha.turn.size, fun k hk hp => (ha.turn.block k (by subst hC; have := h.2.2.2.1; omega) (by omega)).trans (h.2.2.2.2 k hk hp)⟩⟩
theorem Only.cell {C p : Nat} {w X : World} (h : Only C p w X) {b o : Nat} (hb : b < C) (hp : b ≠ p) : X.cell? ⟨b, o, none⟩ = w.cell? ⟨b, o, none⟩ := World.cell?_of_block (w := w) (h.2.2.2.2 b hb hp)
theorem Only.ins' {C p : Nat} {w X : World} (h : Only C p w X) (hC : C = w.heap.size) {a : Option Addr} {n : Nat} {ks : List Int} (hi : Ins w a n ks) (hp : ∀ x, a = some x → n = 0 ∨ x.block ≠ p) : Ins X a n ks := by
  refine ⟨hi.len, ?_⟩
  rcases hi.place with h0 | ⟨b, off, e, hlt, hc⟩
  · exact .inl h0
  · rcases hp _ e with h0 | h0
    · exact .inl h0
    · exact .inr ⟨b, off, e, Nat.lt_of_lt_of_le hlt h.2.2.2.1, fun i hi => (h.cell (b := b) (by omega) h0).trans (hc i hi)⟩
/-- .. and no panic at all. -/
def calmQ (Q : Exit → Act → World → Prop) : Exit → Act → World → Prop
  | .panic _, _, _ => False
  | .normal, a, w => Q .normal a w
  | .ret, a, w => Q .ret a w
  | .exit id, a, w => Q (.exit id) a w
  | .goto l, a, w => Q (.goto l) a w
  | .outgrown, a, w => Q .outgrown a w
theorem wp_calm {P : Program} {c : Code} {Q : Exit → Act → World → Prop} {a : Act} {w : World} (h : c.wp P (calmQ Q) a w) : c.wp P Q a w :=
  wp_mono h fun e a w h => by cases e <;> first | exact h | exact h.elim
/-- A cell below the rows goes through a box more and an append. -/
theorem cel_through {X w' : World} {p B k n : Nat} {ty : TypeId} {u v : Value} {xs : List Value} {o : Obj} (h : Cel p u X) (hr : (X.alloc o).ownsRow B ty k v n xs) (hg : (X.alloc o).grownBy w' v.ownBlock) (hp : p < B) : Cel p u w' := by
  have h1 := h.next ((Below.refl X.heap.size X).alloc (Nat.le_refl _) o)
  have hb := hg.block p h1.lt (fun e => by have := (hr.lt p e.symm).1; omega)
  exact ⟨(World.cell?_of_block (a := ⟨p, 0, none⟩) hb).trans h1.1, (World.frozen?_of_block (a := ⟨p, 0, none⟩) hb).trans h1.2⟩
/-- 'append(s, x)' of one number within a fence. -/
theorem wpListIn_api {Fc : Fence} {nF : Nat} {w : World} {ops : Array Oper} {rest : List Oper} {o : Oper} {a : Act} {Q : Exit → Act → World → Prop} (hgd : o.guard = none) (s x : Operand)
    (ho : o.op = .call { callee := .builtin .append, args := #[s, x], argTypes := #[24, 24] })
    (B : Nat) (v : Value) (n : Nat) (ks : List Int) (hs : a.eval s = v) (hown : w.ownsRow B 3 1 v n (ks.map (Value.int .i64))) (g : Nat) (z : Int) (hx : a.eval x = .slice (some ⟨g, 0, none⟩) 1 1) (hg : w.cell? ⟨g, 0, none⟩ = some (.int .i64 z))
    (hn : n + 1 ≤ 1000000000000) (hB : B ≤ w.heap.size)
    (h : ∀ g' cap w', w'.ownsRow B 3 1 (.slice (some ⟨g', 0, none⟩) (n + 1) cap) (n + 1) ((ks ++ [z]).map (Value.int .i64)) → w.grownBy w' v.ownBlock → wpListIn Fc nF Try.prog ops Q rest (a.put o.dst (.slice (some ⟨g', 0, none⟩) (n + 1) cap)) w') : wpListIn Fc nF Try.prog ops Q (o :: rest) a w := by
  obtain ⟨i0, hi, hz0, hz1, hz2⟩ := info_parts info3
  refine wpListIn_append_own_at (P := Try.prog) w hgd s x 24 ho B 3 i0 (.int .i64 0) 1 8 Try.underlying24 hi hz0 hz1 hz2 rfl (by decide) v n _ hs hown ⟨g, 0, none⟩ 1 1 [.int .i64 z] hx rfl ?_ ?_ (by unfold maxLen; omega) (by omega) hB ?_
  · intro j u hj
    cases j with
    | zero =>
      simp at hj
      subst hj
      exact hg
    | succ j => simp at hj
  · intro u hu
    rw [List.mem_singleton.1 hu]
    rfl
  · intro v' w' hown' hgrow _ _
    rcases hown'.2 with ⟨_, h0⟩ | ⟨g', cap, cur, rfl, _⟩
    · omega
    · exact h g' cap w' (by rw [List.map_append]; exact hown') hgrow

set_option maxRecDepth 100000 in
set_option maxHeartbeats 8000000 in
theorem free_in (d r : Int) (S : Nat) (a1 a2 : Option Addr) (n1 c1 n2 c2 : Nat) (ks ts : List Int) (w : World) (h : Rt d r (S : Int)) (hk : Ins w a1 n1 ks) (ht : Ins w a2 n2 ts) (hn1 : n1 ≤ 1000000000000) (hn2 : n2 ≤ 1000000000000) :
    Calls Try.prog 15 #[gv d r (S : Int), .slice a1 n1 c1, .slice a2 n2 c2] w (RetL w (frL S ks ts)) := by
  have x1 := Bx.mk' w d r (S : Int) 23
  have s2 := h.s2
  obtain ⟨X2, hX2⟩ : ∃ X2, X2 = (w.alloc (.cells #[.int .i64 d, .int .i64 r, .int .i64 (S : Int)] 23 (0, 0))).alloc (.cells #[.slice none 0 0] 24 (0, 0)) := ⟨_, rfl⟩
  have hb2 : Below w.heap.size w X2 := by rw [hX2]; exact ((Below.refl w.heap.size w).alloc (Nat.le_refl _) _).alloc (by simp) _
  have hz2 : X2.heap.size = w.heap.size + 2 := by rw [hX2]; simp
  have hc2 : Cel (w.heap.size + 1) (.slice none 0 0) X2 := by rw [hX2]; exact ⟨by go_simp, by go_simp⟩
  have hsg := segments_any d r (S : Int) a1 a2 n1 c1 n2 c2 ks ts X2 (hk.below (Nat.le_refl _) hb2) (ht.below (Nat.le_refl _) hb2)
  have HB2 := Lib.hid hb2
  have HC2 := Lib.hid hc2
  have HZ2 := Lib.hid hz2
  have hia : Hid (∀ x, a1 = some x → n1 = 0 ∨ x.block < w.heap.size) := Lib.hid fun x hx => by
    rcases hk.place with h0 | ⟨b, off, e, hlt, _⟩
    · exact .inl h0
    · rw [e] at hx; cases hx; exact .inr hlt
  have hib : Hid (∀ x, a2 = some x → n2 = 0 ∨ x.block < w.heap.size) := Lib.hid fun x hx => by
    rcases ht.place with h0 | ⟨b, off, e, hlt, _⟩
    · exact .inl h0
    · rw [e] at hx; cases hx; exact .inr hlt

  clear hb2 hc2 hz2
  refine (callsIn_wide (n := 3)).1 ?_
  refine callsIn_of_wp_marks Try.func15 rfl trivial ?_ rfl
  simp only [Try.ntmps15, List.size_toArray, List.length_cons, List.length_nil, Nat.reduceAdd, Nat.reduceSub, Array.replicate_succ, Array.replicate_zero, List.push_toArray, List.append_toArray, List.nil_append, List.cons_append]
  refine wpIn_wide.2 (wp_calm ?_)
  go_wp2_with (fail)
  rw [← hX2]
  clear hX2 x1
  refine hsg.mono ?_
  clear hsg
  rintro e W ⟨pg, pt, pc, rfl, hbs, hpg, hpt, hpc, hb⟩
  have hB := HB2.out.trans (hb.mono HB2.out.size)
  have hc := HC2.out.next hb
  have hp : w.heap.size + 1 < W.heap.size := hc.lt
  have hpp : w.heap.size + 1 < pg ∧ w.heap.size + 1 < pt ∧ w.heap.size + 1 < pc := by have := HZ2.out; omega
  have hgw : pg < W.heap.size ∧ pt < W.heap.size ∧ pc < W.heap.size := ⟨hbs.geo.lt, hbs.lt, hbs.lc⟩
  have HX : Hid (∀ X, Only W.heap.size (w.heap.size + 1) W X → Bsg pg pt pc d r (S : Int) a1 a2 n1 c1 n2 c2 ks ts X) := Lib.hid fun X ho =>
    ⟨⟨Nat.lt_of_lt_of_le hgw.1 ho.2.2.2.1, (ho.cell hgw.1 (by omega)).trans hbs.geo.c0, (ho.cell hgw.1 (by omega)).trans hbs.geo.c1, (ho.cell hgw.1 (by omega)).trans hbs.geo.c2⟩,
     (ho.cell hgw.2.1 (by omega)).trans hbs.ct, (ho.cell hgw.2.2 (by omega)).trans hbs.cc, Nat.lt_of_lt_of_le hgw.2.1 ho.2.2.2.1, Nat.lt_of_lt_of_le hgw.2.2 ho.2.2.2.1,
     ho.ins' rfl hbs.ik (fun x hx => by rcases hia.out x hx with h0 | h0; exact .inl h0; exact .inr (by omega)), ho.ins' rfl hbs.it (fun x hx => by rcases hib.out x hx with h0 | h0; exact .inl h0; exact .inr (by omega))⟩
  have HW := Lib.hid hB
  have HC := Lib.hid hc
  clear hbs hb hB hc hgw hpg hpt hpc
  go_wp2_with (fail)
  refine (wpIn_wide (n := 3)).1 ?_
  refine wp_over3 (Kp := KeepsFrom W.heap.size) rfl (enters_of Try.func36 (by kernel_rfl) rfl) (seg_rounds pg pt pc d r S a1 a2 n1 c1 n2 c2 ks ts h hn1 hn2) rfl
    (fun k X => Only W.heap.size (w.heap.size + 1) W X ∧ ∃ v, Cel (w.heap.size + 1) v X ∧ X.ownsRow W.heap.size 3 1 v (frL k ks ts).length ((frL k ks ts).map (Value.int .i64)))
    (fun c X => False)
    (fun k a' X => a' = { tmps := #[gv d r (S : Int), .slice a1 n1 c1, .slice a2 n2 c2, .pointer (some ⟨w.heap.size, 0, none⟩), undef, undef, .slice none 0 0, .pointer (some ⟨w.heap.size + 1, 0, none⟩), .int .i64 (k : Nat), .int .i64 (num ks k), gv d r (S : Int), .slice a1 n1 c1, .slice a2 n2 c2, .func (.func 36) #[] #[.pointer (some ⟨pg, 0, none⟩), .pointer (some ⟨pt, 0, none⟩), .pointer (some ⟨pc, 0, none⟩)], .int .i64 (k : Nat), .int .i64 (num ks k), undef, undef, undef, undef, undef, undef, undef], defers := [] })
    (fun k X h => HX.out X h.1) ?hI ?hIx ?hAx (fun _ _ h => h) ?h0 ?assign ?skip ?body ?done ?stop
  case hI => exact fun k => (Only.abides rfl).and (Abides.ex fun v => (Cel.abides _ _ _).and (rowOwn_abides _ _ _ _ _ _ _))
  case hIx => exact fun c => Abides.pure _ _
  case hAx => exact fun k a' => Abides.pure _ _
  case h0 => exact ⟨Only.refl _ _ _, .slice none 0 0, HC.out, World.ownsRow_nil _ _ _ _⟩
  case assign =>
    rintro l2 k u v X K hk hle hI ⟨rfl, rfl⟩ hK
    gi_wp2
    exact hK _ _ (Below.refl _ _) rfl
  case skip =>
    rintro k X hk hs ⟨ho, v, hv, hr⟩
    have hin : (k : Int) ∈ ts := of_decide_eq_true hs
    refine ⟨ho, v, hv, ?_⟩
    rw [frL_succ, if_neg (fun x => x.2 hin), List.append_nil]
    exact hr
  case body =>
    rintro l2 k a' X hk hs hle ⟨ho, v, hv, hr⟩ rfl
    have hin : ¬ (k : Int) ∈ ts := of_decide_eq_false hs
    have hlen := frL_len k ks ts
    have HO := Lib.hid ho
    have HV := Lib.hid hv
    have HR := Lib.hid hr
    have HIN := Lib.hid hin
    have HST := Lib.hid (frL_succ k ks ts)
    have hlx : w.heap.size + 1 < X.heap.size := hv.lt
    have HLW : Hid (w.heap.size + 1 < W.heap.size) := Lib.hid hp
    have hWX : W.heap.size ≤ X.heap.size := ho.2.2.2.1
    clear ho hr hs hin
    by_cases hz : num ks k = 0
    · have hz' : (num ks k == 0) = true := by simp [hz]
      obtain ⟨q0, q1⟩ := hv
      have HRA := Lib.hid (rowOwn_next HR.out ((Below.refl X.heap.size X).alloc (Nat.le_refl _) (.cells #[.int .i64 (k : Int)] 3)))
      have HZ := Lib.hid hz
      clear hz
      gi_wp2_with (gi_at_builtin; go_must (refine wpListIn_api rfl (.tmp 18) (.tmp 20) rfl W.heap.size _ (frL k ks ts).length (frL k ks ts) rfl HRA.out X.heap.size (k : Int) rfl (by simp) (by omega) (by simp; omega) ?_); intro g2 k2 w2 ho2 hg2; have c3 := cel_through HV.out HRA.out hg2 HLW.out; obtain ⟨c3a, c3b⟩ := c3)
      have HG2 := Lib.hid (below_row HRA.out hg2 (by simp; omega))
      refine ⟨((keeps_below ((Below.refl X.heap.size X).alloc (Nat.le_refl _) _)).trans (keeps_row HRA.out hg2)).trans ((KeepsOthers.setCell _ _ _).from _), ?_, _, ⟨c3a, c3b⟩ |> fun hh => Cel.set hh _, ?_⟩
      · exact ((HO.out.below ((Below.refl W.heap.size X).alloc hWX _)).below HG2.out).set _
      · rw [HST.out, if_pos ⟨HZ.out, HIN.out⟩, List.length_append, List.length_singleton]
        exact ownsRow_setCell_below ho2 (show w.heap.size + 1 < W.heap.size from HLW.out) _
    · have hz' : (num ks k == 0) = false := by simp [hz]
      have HZ := Lib.hid hz
      clear hz
      gi_wp2
      refine ⟨KeepsFrom.refl _ _, HO.out, v, HV.out, ?_⟩
      rw [HST.out, if_neg (fun x => HZ.out x.1), List.append_nil]
      exact HR.out
  case done =>
    rintro D X hD ⟨ho, v, hv, hr⟩ hK
    have hBX : Below w.heap.size w X := by
      have hW := HW.out
      refine ⟨ho.1.symm.trans hW.os, ho.2.1.symm.trans hW.tape, ho.2.2.1.symm.trans hW.output, Nat.le_trans hW.size ho.2.2.2.1, fun j hj => (ho.2.2.2.2 j (by have := hW.size; omega) (by omega)).trans (hW.block j hj)⟩
    obtain ⟨q0, q1⟩ := hv
    go_wp2_with (fail)
    refine ⟨by simp, .inl ⟨_, _, rfl, run_takeDeferred hK, ?_⟩⟩
    have hA := aside_put hK rfl (.deferred none)
    have hr2 := rowOwn_aside hr hA
    have hB2 : Below w.heap.size w (X.putObj D (.deferred none)) := hBX.trans (hA.turn.below hBX.size (fun j e => by subst e; have := HW.out.size; omega))
    refine ⟨v, ?_, RetL.own hr2 rfl hB2⟩
    simp [results, Try.f15, go_sem]
  case stop => exact fun D c X hD h => h.elim

set_option maxRecDepth 100000 in
set_option maxHeartbeats 8000000 in
theorem free_out (d r s : Int) (a1 a2 : Option Addr) (n1 c1 n2 c2 : Nat) (ks ts : List Int) (w : World) (h : ¬ Rt d r s) (hk : Ins w a1 n1 ks) (ht : Ins w a2 n2 ts) (hn1 : n1 ≤ 1000000000000) (hn2 : n2 ≤ 1000000000000) :
    Calls Try.prog 15 #[gv d r s, .slice a1 n1 c1, .slice a2 n2 c2] w (RetL w (frL 0 ks ts)) := by
  have x1 := Bx.mk' w d r s 23
  obtain ⟨X2, hX2⟩ : ∃ X2, X2 = (w.alloc (.cells #[.int .i64 d, .int .i64 r, .int .i64 s] 23 (0, 0))).alloc (.cells #[.slice none 0 0] 24 (0, 0)) := ⟨_, rfl⟩
  have hb2 : Below w.heap.size w X2 := by rw [hX2]; exact ((Below.refl w.heap.size w).alloc (Nat.le_refl _) _).alloc (by simp) _
  have hz2 : X2.heap.size = w.heap.size + 2 := by rw [hX2]; simp
  have hc2 : Cel (w.heap.size + 1) (.slice none 0 0) X2 := by rw [hX2]; exact ⟨by go_simp, by go_simp⟩
  have hsg := segments_any d r s a1 a2 n1 c1 n2 c2 ks ts X2 (hk.below (Nat.le_refl _) hb2) (ht.below (Nat.le_refl _) hb2)
  have HB2 := Lib.hid hb2
  have HC2 := Lib.hid hc2
  have HZ2 := Lib.hid hz2
  have hia : Hid (∀ x, a1 = some x → n1 = 0 ∨ x.block < w.heap.size) := Lib.hid fun x hx => by
    rcases hk.place with h0 | ⟨b, off, e, hlt, _⟩
    · exact .inl h0
    · rw [e] at hx; cases hx; exact .inr hlt
  have hib : Hid (∀ x, a2 = some x → n2 = 0 ∨ x.block < w.heap.size) := Lib.hid fun x hx => by
    rcases ht.place with h0 | ⟨b, off, e, hlt, _⟩
    · exact .inl h0
    · rw [e] at hx; cases hx; exact .inr hlt

  clear hb2 hc2 hz2
  refine (callsIn_wide (n := 3)).1 ?_
  refine callsIn_of_wp_marks Try.func15 rfl trivial ?_ rfl
  simp only [Try.ntmps15, List.size_toArray, List.length_cons, List.length_nil, Nat.reduceAdd, Nat.reduceSub, Array.replicate_succ, Array.replicate_zero, List.push_toArray, List.append_toArray, List.nil_append, List.cons_append]
  refine wpIn_wide.2 (wp_calm ?_)
  go_wp2_with (fail)
  rw [← hX2]
  clear hX2 x1
  refine hsg.mono ?_
  clear hsg
  rintro e W ⟨pg, pt, pc, rfl, hbs, hpg, hpt, hpc, hb⟩
  have hB := HB2.out.trans (hb.mono HB2.out.size)
  have hc := HC2.out.next hb
  have hp : w.heap.size + 1 < W.heap.size := hc.lt
  have hpp : w.heap.size + 1 < pg ∧ w.heap.size + 1 < pt ∧ w.heap.size + 1 < pc := by have := HZ2.out; omega
  have hgw : pg < W.heap.size ∧ pt < W.heap.size ∧ pc < W.heap.size := ⟨hbs.geo.lt, hbs.lt, hbs.lc⟩
  have HX : Hid (∀ X, Only W.heap.size (w.heap.size + 1) W X → Bsg pg pt pc d r s a1 a2 n1 c1 n2 c2 ks ts X) := Lib.hid fun X ho =>
    ⟨⟨Nat.lt_of_lt_of_le hgw.1 ho.2.2.2.1, (ho.cell hgw.1 (by omega)).trans hbs.geo.c0, (ho.cell hgw.1 (by omega)).trans hbs.geo.c1, (ho.cell hgw.1 (by omega)).trans hbs.geo.c2⟩,
     (ho.cell hgw.2.1 (by omega)).trans hbs.ct, (ho.cell hgw.2.2 (by omega)).trans hbs.cc, Nat.lt_of_lt_of_le hgw.2.1 ho.2.2.2.1, Nat.lt_of_lt_of_le hgw.2.2 ho.2.2.2.1,
     ho.ins' rfl hbs.ik (fun x hx => by rcases hia.out x hx with h0 | h0; exact .inl h0; exact .inr (by omega)), ho.ins' rfl hbs.it (fun x hx => by rcases hib.out x hx with h0 | h0; exact .inl h0; exact .inr (by omega))⟩
  have HW := Lib.hid hB
  have HC := Lib.hid hc
  clear hbs hb hB hc hgw hpg hpt hpc
  go_wp2_with (fail)
  refine (wpIn_wide (n := 3)).1 ?_
  refine wp_over3 (Kp := KeepsFrom W.heap.size) rfl (enters_of Try.func36 (by kernel_rfl) rfl) (seg_rounds0 pg pt pc d r s a1 a2 n1 c1 n2 c2 ks ts h (fun _ => false) (fun _ _ _ _ => False)) rfl
    (fun k X => Only W.heap.size (w.heap.size + 1) W X ∧ ∃ v, Cel (w.heap.size + 1) v X ∧ X.ownsRow W.heap.size 3 1 v (frL k ks ts).length ((frL k ks ts).map (Value.int .i64)))
    (fun c X => False)
    (fun k a' X => a' = { tmps := #[gv d r s, .slice a1 n1 c1, .slice a2 n2 c2, .pointer (some ⟨w.heap.size, 0, none⟩), undef, undef, .slice none 0 0, .pointer (some ⟨w.heap.size + 1, 0, none⟩), .int .i64 (k : Nat), .int .i64 (num ks k), gv d r s, .slice a1 n1 c1, .slice a2 n2 c2, .func (.func 36) #[] #[.pointer (some ⟨pg, 0, none⟩), .pointer (some ⟨pt, 0, none⟩), .pointer (some ⟨pc, 0, none⟩)], .int .i64 (k : Nat), .int .i64 (num ks k), undef, undef, undef, undef, undef, undef, undef], defers := [] })
    (fun k X h => HX.out X h.1) ?hI ?hIx ?hAx (fun _ _ h => h) ?h0 ?assign ?skip ?body ?done ?stop
  case hI => exact fun k => (Only.abides rfl).and (Abides.ex fun v => (Cel.abides _ _ _).and (rowOwn_abides _ _ _ _ _ _ _))
  case hIx => exact fun c => Abides.pure _ _
  case hAx => exact fun k a' => Abides.pure _ _
  case h0 => exact ⟨Only.refl _ _ _, .slice none 0 0, HC.out, World.ownsRow_nil _ _ _ _⟩
  case assign => exact fun l2 k u v X K hk => absurd hk (Nat.not_lt_zero _)
  case skip => exact fun k X hk => absurd hk (Nat.not_lt_zero _)
  case body => exact fun l2 k a' X hk => absurd hk (Nat.not_lt_zero _)
  case done =>
    rintro D X hD ⟨ho, v, hv, hr⟩ hK
    have hBX : Below w.heap.size w X := by
      have hW := HW.out
      refine ⟨ho.1.symm.trans hW.os, ho.2.1.symm.trans hW.tape, ho.2.2.1.symm.trans hW.output, Nat.le_trans hW.size ho.2.2.2.1, fun j hj => (ho.2.2.2.2 j (by have := hW.size; omega) (by omega)).trans (hW.block j hj)⟩
    obtain ⟨q0, q1⟩ := hv
    go_wp2_with (fail)
    refine ⟨by simp, .inl ⟨_, _, rfl, run_takeDeferred hK, ?_⟩⟩
    have hA := aside_put hK rfl (.deferred none)
    have hr2 := rowOwn_aside hr hA
    have hB2 : Below w.heap.size w (X.putObj D (.deferred none)) := hBX.trans (hA.turn.below hBX.size (fun j e => by subst e; have := HW.out.size; omega))
    refine ⟨v, ?_, RetL.own hr2 rfl hB2⟩
    simp [results, Try.f15, go_sem]
  case stop => exact fun D c X hD h => h.elim
theorem free_any (d r s : Int) (a1 a2 : Option Addr) (n1 c1 n2 c2 : Nat) (ks ts : List Int) (w : World) (hk : Ins w a1 n1 ks) (ht : Ins w a2 n2 ts) (hn1 : n1 ≤ 1000000000000) (hn2 : n2 ≤ 1000000000000) :
    Calls Try.prog 15 #[gv d r s, .slice a1 n1 c1, .slice a2 n2 c2] w fun e w' => ∃ l, RetL w l e w' ∧ FreeR d r s ks ts l := by
  by_cases h : Rt d r s
  · have s1 := h.s1
    obtain ⟨S, rfl⟩ := Int.eq_ofNat_of_zero_le (show 0 ≤ s by omega)
    exact (free_in d r S a1 a2 n1 c1 n2 c2 ks ts w h hk ht hn1 hn2).mono fun e w' hr => ⟨_, hr, (fun x => absurd h x), fun _ => by rw [Int.toNat_natCast]⟩
  · exact (free_out d r s a1 a2 n1 c1 n2 c2 ks ts w h hk ht hn1 hn2).mono fun e w' hr => ⟨_, hr, (fun _ => rfl), fun x => absurd x h⟩
end Go.Proofs.Ytdgjhfghggcfaaa
