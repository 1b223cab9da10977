/-
  The segments in use, sorted: the program's.
-/
import Derived.Test.YtdgjhfghggcfaaaSr
namespace Go.Proofs.Ytdgjhfghggcfaaa
open Go.RowKit Go.Maps
set_option linter.unusedVariables false
attribute [local go_sem] Oper.semAt_some

theorem infoU : (Try.prog.info? 51).map (fun i => (i.zero, i.size, i.bytes)) = some (some (.agg #[.int .i64 0, .int .i64 0]), 2, 16) := by kernel_rfl
/-- 'append(s, u)' of one segment in use within a fence. -/
theorem wpListIn_apu {Fc : Fence} {nF : Nat} {w : World} {ops : Array Oper} {rest : List Oper} {o : Oper} {a : Act} {Q : Exit → Act → World → Prop} (hgd : o.guard = none) (s x : Operand)
    (ho : o.op = .call { callee := .builtin .append, args := #[s, x], argTypes := #[48, 48] })
    (B : Nat) (v : Value) (n : Nat) (L : List Usd) (hs : a.eval s = v) (hown : RowU w B v n L) (g : Nat) (z : Usd) (hx : a.eval x = .slice (some ⟨g, 0, none⟩) 1 1) (hg0 : w.cell? ⟨g, 0, none⟩ = some (.int .i64 z.s)) (hg1 : w.cell? ⟨g, 1, none⟩ = some (.int .i64 z.c))
    (hn : n + 1 ≤ 1000000000000) (hB : B ≤ w.heap.size)
    (h : ∀ g' cap w', RowU w' B (.slice (some ⟨g', 0, none⟩) (n + 1) cap) (n + 1) (L ++ [z]) → w.grownBy w' v.ownBlock → wpListIn Fc nF Try.prog ops Q rest (a.put o.dst (.slice (some ⟨g', 0, none⟩) (n + 1) cap)) w') : wpListIn Fc nF Try.prog ops Q (o :: rest) a w := by
  obtain ⟨i0, hi, hz0, hz1, hz2⟩ := info_parts infoU
  refine wpListIn_append_own_at (P := Try.prog) w hgd s x 48 ho B 51 i0 _ 2 16 Try.underlying48 hi hz0 hz1 hz2 rfl (by decide) v n _ hs hown ⟨g, 0, none⟩ 1 1 (usc z) hx rfl ?_ (usc_one z) (by unfold maxLen; omega) (by omega) hB ?_
  · intro j u hj
    rw [show (⟨g, 0, none⟩ : Addr).add j = ⟨g, j, none⟩ by unfold Addr.add; split <;> simp_all]
    match j, hj with
    | 0, hj => cases hj; exact hg0
    | 1, hj => cases hj; exact hg1
  · intro v' w' hown' hgrow _ _
    rcases hown'.2 with ⟨_, h0⟩ | ⟨g', cap, cur, rfl, _⟩
    · omega
    · exact h g' cap w' (by unfold RowU; rw [List.flatMap_append]; simpa using hown') hgrow
theorem rowOwn_lower {w : World} {B C k n : Nat} {ty : TypeId} {v : Value} {xs : List Value} (h : w.ownsRow B ty k v n xs) (hC : C ≤ B) : w.ownsRow C ty k v n xs := by
  refine ⟨h.1, ?_⟩
  rcases h.2 with h0 | ⟨g, cap, cur, e, hb, r⟩
  · exact .inl h0
  · exact .inr ⟨g, cap, cur, e, Nat.le_trans hC hb, r⟩
/-- The segments in use, in order. -/
def UsePost (w : World) (us : List Usd) (e : Ending) (w' : World) : Prop := ∃ v L, e = .returned v ∧ RowU w' w.heap.size v L.length L ∧ L.Perm us ∧ L.Pairwise ltU ∧ Below w.heap.size w w'

set_option maxRecDepth 100000 in
set_option maxHeartbeats 8000000 in
theorem inUse_in (d r : Int) (S : Nat) (a1 a2 : Option Addr) (n1 c1 n2 c2 : Nat) (ks ts : List Int) (w : World) (h : Rt d r (S : Int)) (hk : Ins w a1 n1 ks) (ht : Ins w a2 n2 ts) (hn1 : n1 ≤ 1000000000000) (hn2 : n2 ≤ 1000000000000) :
    Calls Try.prog 29 #[gv d r (S : Int), .slice a1 n1 c1, .slice a2 n2 c2] w (UsePost w (usL S ks ts)) := by
  have x1 := Bx.mk' w d r (S : Int) 23
  have s2 := h.s2
  obtain ⟨X2, hX2⟩ : ∃ X2, X2 = (w.alloc (.cells #[.int .i64 d, .int .i64 r, .int .i64 (S : Int)] 23 (0, 0))).alloc (.cells #[.slice none 0 0] 48 (0, 0)) := ⟨_, rfl⟩
  have hb2 : Below w.heap.size w X2 := by rw [hX2]; exact ((Below.refl w.heap.size w).alloc (Nat.le_refl _) _).alloc (by simp) _
  have hz2 : X2.heap.size = w.heap.size + 2 := by rw [hX2]; simp
  have hc2 : Cel (w.heap.size + 1) (.slice none 0 0) X2 := by rw [hX2]; exact ⟨by go_simp, by go_simp⟩
  have hsg := segments_any d r (S : Int) a1 a2 n1 c1 n2 c2 ks ts X2 (hk.below (Nat.le_refl _) hb2) (ht.below (Nat.le_refl _) hb2)
  have HB2 := Lib.hid hb2
  have HC2 := Lib.hid hc2
  have HZ2 := Lib.hid hz2
  have hia : Hid (∀ x, a1 = some x → n1 = 0 ∨ x.block < w.heap.size) := Lib.hid fun x hx => by
    rcases hk.place with h0 | ⟨b, off, e, hlt, _⟩
    · exact .inl h0
    · rw [e] at hx; cases hx; exact .inr hlt
  have hib : Hid (∀ x, a2 = some x → n2 = 0 ∨ x.block < w.heap.size) := Lib.hid fun x hx => by
    rcases ht.place with h0 | ⟨b, off, e, hlt, _⟩
    · exact .inl h0
    · rw [e] at hx; cases hx; exact .inr hlt

  clear hb2 hc2 hz2
  refine (callsIn_wide (n := 3)).1 ?_
  refine callsIn_of_wp_marks Try.func29 rfl trivial ?_ rfl
  simp only [Try.ntmps29, List.size_toArray, List.length_cons, List.length_nil, Nat.reduceAdd, Nat.reduceSub, Array.replicate_succ, Array.replicate_zero, List.push_toArray, List.append_toArray, List.nil_append, List.cons_append]
  refine wpIn_wide.2 (wp_calm ?_)
  go_wp2_with (fail)
  rw [← hX2]
  clear hX2 x1
  refine hsg.mono ?_
  clear hsg
  rintro e W ⟨pg, pt, pc, rfl, hbs, hpg, hpt, hpc, hb⟩
  have hB := HB2.out.trans (hb.mono HB2.out.size)
  have hc := HC2.out.next hb
  have hp : w.heap.size + 1 < W.heap.size := hc.lt
  have hpp : w.heap.size + 1 < pg ∧ w.heap.size + 1 < pt ∧ w.heap.size + 1 < pc := by have := HZ2.out; omega
  have hgw : pg < W.heap.size ∧ pt < W.heap.size ∧ pc < W.heap.size := ⟨hbs.geo.lt, hbs.lt, hbs.lc⟩
  have HX : Hid (∀ X, Only W.heap.size (w.heap.size + 1) W X → Bsg pg pt pc d r (S : Int) a1 a2 n1 c1 n2 c2 ks ts X) := Lib.hid fun X ho =>
    ⟨⟨Nat.lt_of_lt_of_le hgw.1 ho.2.2.2.1, (ho.cell hgw.1 (by omega)).trans hbs.geo.c0, (ho.cell hgw.1 (by omega)).trans hbs.geo.c1, (ho.cell hgw.1 (by omega)).trans hbs.geo.c2⟩,
     (ho.cell hgw.2.1 (by omega)).trans hbs.ct, (ho.cell hgw.2.2 (by omega)).trans hbs.cc, Nat.lt_of_lt_of_le hgw.2.1 ho.2.2.2.1, Nat.lt_of_lt_of_le hgw.2.2 ho.2.2.2.1,
     ho.ins' rfl hbs.ik (fun x hx => by rcases hia.out x hx with h0 | h0; exact .inl h0; exact .inr (by omega)), ho.ins' rfl hbs.it (fun x hx => by rcases hib.out x hx with h0 | h0; exact .inl h0; exact .inr (by omega))⟩
  have HW := Lib.hid hB
  have HC := Lib.hid hc
  clear hbs hb hB hc hgw hpg hpt hpc
  go_wp2_with (fail)
  refine (wpIn_wide (n := 3)).1 ?_
  refine wp_over3 (Kp := KeepsFrom W.heap.size) rfl (enters_of Try.func36 (by kernel_rfl) rfl) (seg_rounds pg pt pc d r S a1 a2 n1 c1 n2 c2 ks ts h hn1 hn2) rfl
    (fun k X => Only W.heap.size (w.heap.size + 1) W X ∧ ∃ v, Cel (w.heap.size + 1) v X ∧ X.ownsRow W.heap.size 51 2 v (usL k ks ts).length ((usL k ks ts).flatMap usc))
    (fun c X => False)
    (fun k a' X => a' = { tmps := #[gv d r (S : Int), .slice a1 n1 c1, .slice a2 n2 c2, .pointer (some ⟨w.heap.size, 0, none⟩), undef, undef, .slice none 0 0, .pointer (some ⟨w.heap.size + 1, 0, none⟩), .int .i64 (k : Nat), .int .i64 (num ks k), gv d r (S : Int), .slice a1 n1 c1, .slice a2 n2 c2, .func (.func 36) #[] #[.pointer (some ⟨pg, 0, none⟩), .pointer (some ⟨pt, 0, none⟩), .pointer (some ⟨pc, 0, none⟩)], .int .i64 (k : Nat), .int .i64 (num ks k), undef, undef, undef, undef, undef, undef, undef, undef, undef, undef, undef], defers := [] })
    (fun k X h => HX.out X h.1) ?hI ?hIx ?hAx (fun _ _ h => h) ?h0 ?assign ?skip ?body ?done ?stop
  case hI => exact fun k => (Only.abides rfl).and (Abides.ex fun v => (Cel.abides _ _ _).and (rowOwn_abides _ _ _ _ _ _ _))
  case hIx => exact fun c => Abides.pure _ _
  case hAx => exact fun k a' => Abides.pure _ _
  case h0 => exact ⟨Only.refl _ _ _, .slice none 0 0, HC.out, World.ownsRow_nil _ _ _ _⟩
  case assign =>
    rintro l2 k u v X K hk hle hI ⟨rfl, rfl⟩ hK
    gi_wp2
    exact hK _ _ (Below.refl _ _) rfl
  case skip =>
    rintro k X hk hs ⟨ho, v, hv, hr⟩
    have hin : (k : Int) ∈ ts := of_decide_eq_true hs
    refine ⟨ho, v, hv, ?_⟩
    rw [usL_succ, if_neg (fun x => x.2 hin), List.append_nil]
    exact hr
  case body =>
    rintro l2 k a' X hk hs hle ⟨ho, v, hv, hr⟩ rfl
    have hin : ¬ (k : Int) ∈ ts := of_decide_eq_false hs
    have hlen := usL_len k ks ts
    have HO := Lib.hid ho
    have HV := Lib.hid hv
    have HR := Lib.hid hr
    have HIN := Lib.hid hin
    have HST := Lib.hid (usL_succ k ks ts)
    have hlx : w.heap.size + 1 < X.heap.size := hv.lt
    have HLW : Hid (w.heap.size + 1 < W.heap.size) := Lib.hid hp
    have hWX : W.heap.size ≤ X.heap.size := ho.2.2.2.1
    clear ho hr hs hin
    by_cases hz : 0 < num ks k
    · have hz' : decide (0 < num ks k) = true := decide_eq_true hz
      obtain ⟨q0, q1⟩ := hv
      have HRA := Lib.hid (rowOwn_next HR.out ((Below.refl X.heap.size X).alloc (Nat.le_refl _) (.cells #[.int .i64 (k : Int), .int .i64 (num ks k)] 51)))
      have HZ := Lib.hid hz
      clear hz
      gi_wp2_with (gi_at_builtin; go_must (refine wpListIn_apu rfl (.tmp 18) (.tmp 22) rfl W.heap.size _ (usL k ks ts).length (usL k ks ts) rfl HRA.out X.heap.size ⟨(k : Int), num ks k⟩ rfl (by go_simp) (by go_simp) (by omega) (by simp; omega) ?_); intro g2 k2 w2 ho2 hg2; have c3 := cel_through HV.out HRA.out hg2 HLW.out; obtain ⟨c3a, c3b⟩ := c3)
      have HG2 := Lib.hid (below_row HRA.out hg2 (by simp; omega))
      refine ⟨((keeps_below ((Below.refl X.heap.size X).alloc (Nat.le_refl _) _)).trans (keeps_row HRA.out hg2)).trans ((KeepsOthers.setCell _ _ _).from _), ?_, _, ⟨c3a, c3b⟩ |> fun hh => Cel.set hh _, ?_⟩
      · exact ((HO.out.below ((Below.refl W.heap.size X).alloc hWX _)).below HG2.out).set _
      · rw [HST.out, if_pos ⟨HZ.out, HIN.out⟩, List.length_append, List.length_singleton]
        exact ownsRow_setCell_below ho2 (show w.heap.size + 1 < W.heap.size from HLW.out) _
    · have hz' : decide (0 < num ks k) = false := decide_eq_false hz
      have HZ := Lib.hid hz
      clear hz
      gi_wp2
      refine ⟨KeepsFrom.refl _ _, HO.out, v, HV.out, ?_⟩
      rw [HST.out, if_neg (fun x => by have := HZ.out; have := x.1; omega), List.append_nil]
      exact HR.out
  case done =>
    rintro D X hD ⟨ho, v, hv, hr⟩ hK
    have hBX : Below w.heap.size w X := by
      have hW := HW.out
      refine ⟨ho.1.symm.trans hW.os, ho.2.1.symm.trans hW.tape, ho.2.2.1.symm.trans hW.output, Nat.le_trans hW.size ho.2.2.2.1, fun j hj => (ho.2.2.2.2 j (by have := hW.size; omega) (by omega)).trans (hW.block j hj)⟩
    have hso := sortU_any hr (by have := usL_len S ks ts; omega)
    have HCL : Hid (∀ w', X.grownBy w' v.ownBlock → Cel (w.heap.size + 1) v w') := Lib.hid fun w' hg => by
      have hb := hg.block (w.heap.size + 1) hv.lt (fun e => by have := (hr.lt _ e.symm).1; omega)
      exact ⟨(World.cell?_of_block (a := ⟨w.heap.size + 1, 0, none⟩) hb).trans hv.1, (World.frozen?_of_block (a := ⟨w.heap.size + 1, 0, none⟩) hb).trans hv.2⟩
    have HDF : Hid (∀ w', X.grownBy w' v.ownBlock → w'.heap[D]? = some (.deferred (some []))) := Lib.hid fun w' hg => (keeps_row (C := D) hr hg).same D _ (Nat.le_refl _) hK rfl
    have HBG : Hid (∀ w', X.grownBy w' v.ownBlock → Below w.heap.size w w') := Lib.hid fun w' hg => hBX.trans ((below_row hr hg ho.2.2.2.1).mono HW.out.size)
    have HDW : Hid (w.heap.size ≤ D) := Lib.hid (by have := HW.out.size; omega)
    have HWs : Hid (w.heap.size ≤ W.heap.size) := Lib.hid HW.out.size
    obtain ⟨q0, q1⟩ := hv
    clear hK hBX hr ho
    go_wp2_with (fail)
    refine hso.mono ?_
    clear hso q0 q1
    rintro e X5 ⟨rfl, L, hp, hs, hr5, hg5⟩
    have hc5 := HCL.out X5 hg5
    have hK5 := HDF.out X5 hg5
    have hB5 := HBG.out X5 hg5
    have HP := Lib.hid hp
    have HS := Lib.hid (IsVic.of (D := 0) hp hs)
    have HR5 := Lib.hid hr5
    have HB5 := Lib.hid hB5
    have HK5 := Lib.hid hK5
    obtain ⟨q0, q1⟩ := hc5
    clear hp hs hr5 hg5 hK5 hB5 HCL HDF HBG
    go_wp2_with (fail)
    refine ⟨by simp, .inl ⟨_, _, rfl, run_takeDeferred HK5.out, ?_⟩⟩
    have hA := aside_put HK5.out rfl (.deferred none)
    have hr6 := rowOwn_aside HR5.out hA
    have hB6 : Below w.heap.size w (X5.putObj D (.deferred none)) := HB5.out.trans (hA.turn.below HB5.out.size (fun j e => by subst e; exact HDW.out))
    refine ⟨v, ?_, v, L, rfl, ?_, HP.out, HS.out, hB6⟩
    · simp [results, Try.f29, go_sem]
    · rw [HP.out.length_eq]
      exact rowOwn_lower hr6 HWs.out
  case stop => exact fun D c X hD h => h.elim

set_option maxRecDepth 100000 in
set_option maxHeartbeats 8000000 in
theorem inUse_out (d r s : Int) (a1 a2 : Option Addr) (n1 c1 n2 c2 : Nat) (ks ts : List Int) (w : World) (h : ¬ Rt d r s) (hk : Ins w a1 n1 ks) (ht : Ins w a2 n2 ts) (hn1 : n1 ≤ 1000000000000) (hn2 : n2 ≤ 1000000000000) :
    Calls Try.prog 29 #[gv d r s, .slice a1 n1 c1, .slice a2 n2 c2] w (UsePost w (usL 0 ks ts)) := by
  have x1 := Bx.mk' w d r s 23
  obtain ⟨X2, hX2⟩ : ∃ X2, X2 = (w.alloc (.cells #[.int .i64 d, .int .i64 r, .int .i64 s] 23 (0, 0))).alloc (.cells #[.slice none 0 0] 48 (0, 0)) := ⟨_, rfl⟩
  have hb2 : Below w.heap.size w X2 := by rw [hX2]; exact ((Below.refl w.heap.size w).alloc (Nat.le_refl _) _).alloc (by simp) _
  have hz2 : X2.heap.size = w.heap.size + 2 := by rw [hX2]; simp
  have hc2 : Cel (w.heap.size + 1) (.slice none 0 0) X2 := by rw [hX2]; exact ⟨by go_simp, by go_simp⟩
  have hsg := segments_any d r s a1 a2 n1 c1 n2 c2 ks ts X2 (hk.below (Nat.le_refl _) hb2) (ht.below (Nat.le_refl _) hb2)
  have HB2 := Lib.hid hb2
  have HC2 := Lib.hid hc2
  have HZ2 := Lib.hid hz2
  have hia : Hid (∀ x, a1 = some x → n1 = 0 ∨ x.block < w.heap.size) := Lib.hid fun x hx => by
    rcases hk.place with h0 | ⟨b, off, e, hlt, _⟩
    · exact .inl h0
    · rw [e] at hx; cases hx; exact .inr hlt
  have hib : Hid (∀ x, a2 = some x → n2 = 0 ∨ x.block < w.heap.size) := Lib.hid fun x hx => by
    rcases ht.place with h0 | ⟨b, off, e, hlt, _⟩
    · exact .inl h0
    · rw [e] at hx; cases hx; exact .inr hlt

  clear hb2 hc2 hz2
  refine (callsIn_wide (n := 3)).1 ?_
  refine callsIn_of_wp_marks Try.func29 rfl trivial ?_ rfl
  simp only [Try.ntmps29, List.size_toArray, List.length_cons, List.length_nil, Nat.reduceAdd, Nat.reduceSub, Array.replicate_succ, Array.replicate_zero, List.push_toArray, List.append_toArray, List.nil_append, List.cons_append]
  refine wpIn_wide.2 (wp_calm ?_)
  go_wp2_with (fail)
  rw [← hX2]
  clear hX2 x1
  refine hsg.mono ?_
  clear hsg
  rintro e W ⟨pg, pt, pc, rfl, hbs, hpg, hpt, hpc, hb⟩
  have hB := HB2.out.trans (hb.mono HB2.out.size)
  have hc := HC2.out.next hb
  have hp : w.heap.size + 1 < W.heap.size := hc.lt
  have hpp : w.heap.size + 1 < pg ∧ w.heap.size + 1 < pt ∧ w.heap.size + 1 < pc := by have := HZ2.out; omega
  have hgw : pg < W.heap.size ∧ pt < W.heap.size ∧ pc < W.heap.size := ⟨hbs.geo.lt, hbs.lt, hbs.lc⟩
  have HX : Hid (∀ X, Only W.heap.size (w.heap.size + 1) W X → Bsg pg pt pc d r s a1 a2 n1 c1 n2 c2 ks ts X) := Lib.hid fun X ho =>
    ⟨⟨Nat.lt_of_lt_of_le hgw.1 ho.2.2.2.1, (ho.cell hgw.1 (by omega)).trans hbs.geo.c0, (ho.cell hgw.1 (by omega)).trans hbs.geo.c1, (ho.cell hgw.1 (by omega)).trans hbs.geo.c2⟩,
     (ho.cell hgw.2.1 (by omega)).trans hbs.ct, (ho.cell hgw.2.2 (by omega)).trans hbs.cc, Nat.lt_of_lt_of_le hgw.2.1 ho.2.2.2.1, Nat.lt_of_lt_of_le hgw.2.2 ho.2.2.2.1,
     ho.ins' rfl hbs.ik (fun x hx => by rcases hia.out x hx with h0 | h0; exact .inl h0; exact .inr (by omega)), ho.ins' rfl hbs.it (fun x hx => by rcases hib.out x hx with h0 | h0; exact .inl h0; exact .inr (by omega))⟩
  have HW := Lib.hid hB
  have HC := Lib.hid hc
  clear hbs hb hB hc hgw hpg hpt hpc
  go_wp2_with (fail)
  refine (wpIn_wide (n := 3)).1 ?_
  refine wp_over3 (Kp := KeepsFrom W.heap.size) rfl (enters_of Try.func36 (by kernel_rfl) rfl) (seg_rounds0 pg pt pc d r s a1 a2 n1 c1 n2 c2 ks ts h (fun _ => false) (fun _ _ _ _ => False)) rfl
    (fun k X => Only W.heap.size (w.heap.size + 1) W X ∧ ∃ v, Cel (w.heap.size + 1) v X ∧ X.ownsRow W.heap.size 51 2 v (usL k ks ts).length ((usL k ks ts).flatMap usc))
    (fun c X => False)
    (fun k a' X => a' = { tmps := #[gv d r s, .slice a1 n1 c1, .slice a2 n2 c2, .pointer (some ⟨w.heap.size, 0, none⟩), undef, undef, .slice none 0 0, .pointer (some ⟨w.heap.size + 1, 0, none⟩), .int .i64 (k : Nat), .int .i64 (num ks k), gv d r s, .slice a1 n1 c1, .slice a2 n2 c2, .func (.func 36) #[] #[.pointer (some ⟨pg, 0, none⟩), .pointer (some ⟨pt, 0, none⟩), .pointer (some ⟨pc, 0, none⟩)], .int .i64 (k : Nat), .int .i64 (num ks k), undef, undef, undef, undef, undef, undef, undef, undef, undef, undef, undef], defers := [] })
    (fun k X h => HX.out X h.1) ?hI ?hIx ?hAx (fun _ _ h => h) ?h0 ?assign ?skip ?body ?done ?stop
  case hI => exact fun k => (Only.abides rfl).and (Abides.ex fun v => (Cel.abides _ _ _).and (rowOwn_abides _ _ _ _ _ _ _))
  case hIx => exact fun c => Abides.pure _ _
  case hAx => exact fun k a' => Abides.pure _ _
  case h0 => exact ⟨Only.refl _ _ _, .slice none 0 0, HC.out, World.ownsRow_nil _ _ _ _⟩
  case assign => exact fun l2 k u v X K hk => absurd hk (Nat.not_lt_zero _)
  case skip => exact fun k X hk => absurd hk (Nat.not_lt_zero _)
  case body => exact fun l2 k a' X hk => absurd hk (Nat.not_lt_zero _)
  case done =>
    rintro D X hD ⟨ho, v, hv, hr⟩ hK
    have hBX : Below w.heap.size w X := by
      have hW := HW.out
      refine ⟨ho.1.symm.trans hW.os, ho.2.1.symm.trans hW.tape, ho.2.2.1.symm.trans hW.output, Nat.le_trans hW.size ho.2.2.2.1, fun j hj => (ho.2.2.2.2 j (by have := hW.size; omega) (by omega)).trans (hW.block j hj)⟩
    have hso := sortU_any hr (by have := usL_len 0 ks ts; omega)
    have HCL : Hid (∀ w', X.grownBy w' v.ownBlock → Cel (w.heap.size + 1) v w') := Lib.hid fun w' hg => by
      have hb := hg.block (w.heap.size + 1) hv.lt (fun e => by have := (hr.lt _ e.symm).1; omega)
      exact ⟨(World.cell?_of_block (a := ⟨w.heap.size + 1, 0, none⟩) hb).trans hv.1, (World.frozen?_of_block (a := ⟨w.heap.size + 1, 0, none⟩) hb).trans hv.2⟩
    have HDF : Hid (∀ w', X.grownBy w' v.ownBlock → w'.heap[D]? = some (.deferred (some []))) := Lib.hid fun w' hg => (keeps_row (C := D) hr hg).same D _ (Nat.le_refl _) hK rfl
    have HBG : Hid (∀ w', X.grownBy w' v.ownBlock → Below w.heap.size w w') := Lib.hid fun w' hg => hBX.trans ((below_row hr hg ho.2.2.2.1).mono HW.out.size)
    have HDW : Hid (w.heap.size ≤ D) := Lib.hid (by have := HW.out.size; omega)
    have HWs : Hid (w.heap.size ≤ W.heap.size) := Lib.hid HW.out.size
    obtain ⟨q0, q1⟩ := hv
    clear hK hBX hr ho
    go_wp2_with (fail)
    refine hso.mono ?_
    clear hso q0 q1
    rintro e X5 ⟨rfl, L, hp, hs, hr5, hg5⟩
    have hc5 := HCL.out X5 hg5
    have hK5 := HDF.out X5 hg5
    have hB5 := HBG.out X5 hg5
    have HP := Lib.hid hp
    have HS := Lib.hid (IsVic.of (D := 0) hp hs)
    have HR5 := Lib.hid hr5
    have HB5 := Lib.hid hB5
    have HK5 := Lib.hid hK5
    obtain ⟨q0, q1⟩ := hc5
    clear hp hs hr5 hg5 hK5 hB5 HCL HDF HBG
    go_wp2_with (fail)
    refine ⟨by simp, .inl ⟨_, _, rfl, run_takeDeferred HK5.out, ?_⟩⟩
    have hA := aside_put HK5.out rfl (.deferred none)
    have hr6 := rowOwn_aside HR5.out hA
    have hB6 : Below w.heap.size w (X5.putObj D (.deferred none)) := HB5.out.trans (hA.turn.below HB5.out.size (fun j e => by subst e; exact HDW.out))
    refine ⟨v, ?_, v, L, rfl, ?_, HP.out, HS.out, hB6⟩
    · simp [results, Try.f29, go_sem]
    · rw [HP.out.length_eq]
      exact rowOwn_lower hr6 HWs.out
  case stop => exact fun D c X hD h => h.elim
theorem inUse_any (d r s : Int) (a1 a2 : Option Addr) (n1 c1 n2 c2 : Nat) (ks ts : List Int) (w : World) (hk : Ins w a1 n1 ks) (ht : Ins w a2 n2 ts) (hn1 : n1 ≤ 1000000000000) (hn2 : n2 ≤ 1000000000000) :
    Calls Try.prog 29 #[gv d r s, .slice a1 n1 c1, .slice a2 n2 c2] w fun e w' => ∃ us, UsePost w us e w' ∧ (Rt d r s → us = usL s.toNat ks ts) ∧ (¬ Rt d r s → us = []) := by
  by_cases h : Rt d r s
  · have s1 := h.s1
    obtain ⟨S, rfl⟩ := Int.eq_ofNat_of_zero_le (show 0 ≤ s by omega)
    exact (inUse_in d r S a1 a2 n1 c1 n2 c2 ks ts w h hk ht hn1 hn2).mono fun e w' hr => ⟨_, hr, (fun _ => by rw [Int.toNat_natCast]), fun x => absurd h x⟩
  · exact (inUse_out d r s a1 a2 n1 c1 n2 c2 ks ts w h hk ht hn1 hn2).mono fun e w' hr => ⟨_, hr, (fun x => absurd x h), fun _ => rfl⟩
end Go.Proofs.Ytdgjhfghggcfaaa
