import Derived.Test.YtinholnidchblaaGreatDoorQaa
import Derived.Deep.AppendLies
import Derived.Test.YtinholnidchblaaGreatDoorQaf
import Derived.Test.YtinholnidchblaaGreatDoorQam
import Derived.Laws.OwnMore
set_option linter.unusedVariables false
set_option linter.unusedSimpArgs false
set_option maxRecDepth 100000
set_option maxHeartbeats 16000000
namespace Go.Proofs.YtinholnidchblaaGreatDoor
open Go.RowKit
def inu (ks : List Int) (i : Nat) : Int := ks.getD i 0
theorem info3 : (Tryz.prog.info? 3).map (fun i => (i.zero, i.size, i.bytes)) = some (some (.int .i64 0), 1, 8) := by kernel_rfl
def OwnI (w : World) (B : Nat) (v : Value) (n : Nat) (ks : List Int) : Prop := w.ownsRow B 3 1 v n (ks.map (Value.int .i64))
theorem OwnI.below {w w' : World} {B : Nat} {v : Value} {n : Nat} {ks : List Int} (h : OwnI w B v n ks) {C : Nat} (hC : w.heap.size ≤ C) (hb : Below C w w') : OwnI w' B v n ks :=
 h.kept (row := none) ⟨hb.os, hb.tape, hb.output, hb.size, fun k hk _ => hb.block k (by omega)⟩ (by cases v.ownBlock <;> simp)
theorem OwnI.next {w w' : World} {B : Nat} {v : Value} {n : Nat} {ks : List Int} (h : OwnI w B v n ks) (hb : Below w.heap.size w w') : OwnI w' B v n ks := h.below (Nat.le_refl _) hb
theorem ownI_nil (w : World) (B : Nat) : OwnI w B (.slice none 0 0) 0 [] := World.ownsRow_nil _ _ _ _
def ofN (l : List Nat) : List Int := l.map fun k : Nat => (k : Int)
theorem inu_ofN {l : List Nat} {i : Nat} (h : i < l.length) : inu (ofN l) i = ((l.getD i 0 : Nat) : Int) := by
 simp [inu, ofN, List.getD, h]
theorem ofN_snoc (l : List Nat) (a : Nat) : ofN (l ++ [a]) = ofN l ++ [(a : Int)] := by simp [ofN]
section
variable {w w' : World} {B g n c : Nat} {ks : List Int}
theorem OwnI.len {v : Value} (h : OwnI w B v n ks) : ks.length = n := by have := h.1; simpa using this
theorem OwnI.cellN (h : OwnI w B (.slice (some ⟨g, 0, none⟩) n c) n ks) {i : Nat} (hi : i < n) : w.cell? ⟨g, i, none⟩ = some (.int .i64 (inu ks i)) := by
 rw [World.ownsRow.cellAt h i (by omega)]
 have := OwnI.len h
 simp [inu, List.getD, show i < ks.length by omega]
theorem OwnI.freeN (h : OwnI w B (.slice (some ⟨g, 0, none⟩) n c) n ks) (i : Nat) : w.frozen? ⟨g, i, none⟩ = false := World.ownsRow.frozenAt h i
theorem OwnI.setN (h : OwnI w B (.slice (some ⟨g, 0, none⟩) n c) n ks) (i : Nat) (z : Int) : OwnI (w.setCell ⟨g, i, none⟩ (.int .i64 z)) B (.slice (some ⟨g, 0, none⟩) n c) n (ks.set i z) := by
 have := (World.ownsRow.stored h i (.int .i64 z)).1
 unfold OwnI
 rwa [List.map_set]
theorem OwnI.at {v : Value} (h : OwnI w B v n ks) (hn : 0 < n) : ∃ g c, v = .slice (some ⟨g, 0, none⟩) n c ∧ B ≤ g ∧ g < w.heap.size := by
 rcases h.2 with ⟨rfl, e⟩ | ⟨g, cap, cur, rfl, hb, hg, _⟩
 ·omega
 ·exact ⟨g, cap, rfl, hb, lt_of_block hg⟩
theorem OwnI.turn {M : Nat → Prop} {v : Value} (h : OwnI w B v n ks) (ht : Turn M w w') (hm : ∀ j, v.ownBlock = some j → ¬ M j) : OwnI w' B v n ks := by
 refine ⟨h.1, ?_⟩
 rcases h.2 with h0 | ⟨g', cap, cur, hv, h1, h2, h3⟩
 ·exact .inl h0
 ·refine .inr ⟨g', cap, cur, hv, h1, ?_, h3⟩
  rw [← h2]
  exact ht.block g' (lt_of_block h2) (hm g' (by rw [hv]; rfl))
end
theorem wpList_apn {w : World} {ops : Array Oper} {rest : List Oper} {o : Oper} {a : Act} {Q : Exit → Act → World → Prop} (hgd : o.guard = none) (s x : Operand)
  (ho : o.op = .call { callee := .builtin .append, args := #[s, x], argTypes := #[86, 86] })
  (B : Nat) (v : Value) (n : Nat) (ks : List Int) (hs : a.eval s = v) (hown : OwnI w B v n ks) (g : Nat) (z : Int) (hx : a.eval x = .slice (some ⟨g, 0, none⟩) 1 1) (hg : w.cell? ⟨g, 0, none⟩ = some (.int .i64 z))
  (hn : n + 1 ≤ 1000000000000) (hB : B ≤ w.heap.size)
  (h : ∀ v' w', OwnI w' B v' (n + 1) (ks ++ [z]) → Turn (fun j => v.ownBlock = some j) w w' → (∀ j, v'.ownBlock = some j → v.ownBlock = some j ∨ w.heap.size ≤ j) → wpList Tryz.prog ops Q rest (a.put o.dst v') w') : wpList Tryz.prog ops Q (o :: rest) a w := by
 obtain ⟨i0, hi, hz0, hz1, hz2⟩ := info_parts info3
 refine wpList_append_lies (P := Tryz.prog) w hgd s x 86 ho B 3 i0 (.int .i64 0) 1 8 Tryz.underlying86 hi hz0 hz1 hz2 rfl (by decide) v n _ hs hown ⟨g, 0, none⟩ 1 1 [.int .i64 z] hx rfl ?_ ?_ (by decide) (by unfold maxLen; omega) (by omega) hB _ rfl ?_
 ·intro j u hj
  cases j with
  | zero =>
   simp at hj
   subst hj
   exact hg
  | succ j => simp at hj
 ·intro u hu
  rw [List.mem_singleton.1 hu]
  rfl
 ·intro g' cap w' hown' hgrow hat _
  refine h _ w' (by unfold OwnI; rw [List.map_append]; exact hown') ⟨hgrow.os, hgrow.tape, hgrow.output, hgrow.size, fun k hk hn => hgrow.block k hk (fun e => hn e.symm)⟩ fun j e => ?_
  have e' : g' = j := by simpa [Value.ownBlock] using e
  rcases hat with h1 | h1
  ·exact .inl (by rw [h1, e'])
  ·exact .inr (by omega)
theorem wpList_mki {w : World} {ops : Array Oper} {rest : List Oper} {o : Oper} {a : Act} {Q : Exit → Act → World → Prop}
  (hg : o.guard = none) (l c : Operand) (hop : o.op = Op.makeSlice 86 l c) (kl kc : IntKind) (L C : Int) (n : Nat) (hl : a.eval l = .int kl L) (hc : a.eval c = .int kc C) (hL : L = (n : Int)) (hC : C = (n : Int)) (b2 : n ≤ 100000) (B : Nat) (hB : B ≤ w.heap.size)
  (hK : ∀ w', OwnI w' B (.slice (some ⟨w.heap.size, 0, none⟩) n n) n (List.replicate n 0) → Below w.heap.size w w' → wpList Tryz.prog ops Q rest (a.put o.dst (.slice (some ⟨w.heap.size, 0, none⟩) n n)) w') :
  wpList Tryz.prog ops Q (o :: rest) a w := by
 obtain ⟨i0, hi, hz0, hz1, hz2⟩ := info_parts info3
 refine wpList_make_full w hg l c 86 hop B 3 i0 _ 1 Tryz.underlying86 hi hz0 hz1 kl kc L C n hl hc hL hC (by rw [hz2]; omega) (by unfold maxLen; omega) hB fun w' hown hgrow => hK w' ?_ ((Below.refl _ _).grown hgrow (Nat.le_refl _) (fun k h => by cases h))
 unfold OwnI
 rw [List.map_replicate]
 have e : (madeCells (Value.int .i64 0).cells (n * 1)).toList = List.replicate n (.int .i64 0) := by
  rw [Nat.mul_one]
  exact toList_madeCells_one _ _
 rwa [e] at hown
def OrPost (B : Nat) (w : World) (v : Value) (ms : List Nat) (e : Ending) (w' : World) : Prop := ∃ v', e = .returned v' ∧ OwnI w' B v' ms.length (ofN ms) ∧ Turn (fun j => v.ownBlock = some j) w w' ∧ (∀ j, v'.ownBlock = some j → v.ownBlock = some j ∨ w.heap.size ≤ j)
structure OrI (B : Nat) (w0 w : World) (v : Value) (x : Nat) (bx : Value) (ms : List Nat) (v2 : Value) (wr : World) : Prop where
 own : OwnI wr B v2 ms.length (ofN ms)
 bel : Below B w0 wr
 box : TrB wr x bx
 turn : Turn (fun j => v.ownBlock = some j) w wr
 mine : ∀ j, v2.ownBlock = some j → v.ownBlock = some j ∨ w.heap.size ≤ j
 off : v2.ownBlock ≠ some x
 lt : x < wr.heap.size
 ge : B ≤ wr.heap.size
theorem own_ge {w : World} {B n : Nat} {v : Value} {ks : List Int} (h : OwnI w B v n ks) : ∀ j, v.ownBlock = some j → B ≤ j := fun j hj => (World.ownsRow.lt h j hj).1
theorem OrI.step {B : Nat} {w0 w wr w' : World} {v v2 v3 bx : Value} {x : Nat} {ms ms' : List Nat} (h : OrI B w0 w v x bx ms v2 wr) (hO : OwnI w' B v3 ms'.length (ofN ms')) (hT : Turn (fun j => v2.ownBlock = some j) wr w') (hM : ∀ j, v3.ownBlock = some j → v2.ownBlock = some j ∨ wr.heap.size ≤ j) : OrI B w0 w v x bx ms' v3 w' := by
 refine ⟨hO, h.bel.trans (hT.below h.ge fun k hk => own_ge h.own k hk), (hT.block x h.lt h.off).trans h.box, ?_, ?_, ?_, Nat.lt_of_lt_of_le h.lt hT.size, Nat.le_trans h.ge hT.size⟩
 ·refine ⟨hT.os.trans h.turn.os, hT.tape.trans h.turn.tape, hT.output.trans h.turn.output, Nat.le_trans h.turn.size hT.size, fun k hk hn => ?_⟩
  refine (hT.block k (Nat.lt_of_lt_of_le hk h.turn.size) fun e => ?_).trans (h.turn.block k hk hn)
  rcases h.mine k e with h1 | h1
  ·exact hn h1
  ·omega
 ·intro j hj
  rcases hM j hj with h1 | h1
  ·exact h.mine j h1
  ·exact .inr (Nat.le_trans h.turn.size h1)
 ·intro e
  rcases hM x e with h1 | h1
  ·exact h.off h1
  ·have := h.lt; omega
theorem or_start {B : Nat} {w0 w w2 : World} {v bx : Value} {x : Nat} {m : List Nat} {a : Nat} (hb : Below B w0 w) (hBw : B ≤ w.heap.size) (hown : OwnI w B v m.length (ofN m)) (hw2 : w2 = (w.alloc (.cells #[bx] 26 (0, 0))).alloc (.cells #[.int .i64 a] 3 (0, 0))) (hx : x = w.heap.size) :
  OrI B w0 w v x bx m v w2 ∧ w2.cell? ⟨x + 1, 0, none⟩ = some (.int .i64 a) := by
 obtain ⟨w1, hw1⟩ : ∃ w1, w1 = w.alloc (.cells #[bx] 26 (0, 0)) := ⟨_, rfl⟩
 rw [← hw1] at hw2
 have hb1 : Below w.heap.size w w1 := by rw [hw1]; exact (Below.refl _ _).alloc (Nat.le_refl _) _
 have hb2 : Below w.heap.size w w2 := by rw [hw2]; exact hb1.alloc hb1.size _
 have hs2 : w1.heap.size = x + 1 := by rw [hw1, hx]; simp
 have hbox : TrB w2 x bx := by
  unfold TrB
  rw [hw2]
  refine (Below.heap_alloc _ _ _ (by rw [hs2]; omega)).trans ?_
  rw [hw1, hx]
  exact heap_alloc_new w _
 have hg2 : w2.cell? ⟨x + 1, 0, none⟩ = some (.int .i64 a) := by
  rw [← hs2, hw2]
  simp
 exact ⟨⟨hown.next hb2, hb.trans (hb2.mono hBw), hbox, .of_below hb2, fun j hj => .inl hj, fun e => by have := (World.ownsRow.lt hown x e).2; omega, by rw [hw2]; simp; omega, Nat.le_trans hBw hb2.size⟩, hg2⟩
theorem dec_take {m : List Nat} {k j : Nat} (hj : j < m.length) : decide (k ∈ m.take (j + 1)) = (decide (k ∈ m.take j) || (m.getD j 0 == k)) := by
 have e : m.take (j + 1) = m.take j ++ [m.getD j 0] := by
  rw [List.take_succ_eq_append_getElem hj]; simp [List.getD, hj]
 rw [e, Bool.eq_iff_iff]
 simp only [List.mem_append, List.mem_singleton, decide_eq_true_eq, Bool.or_eq_true, beq_iff_eq]
 constructor
 ·rintro (h | h)
  ·exact .inl h
  ·exact .inr h.symm
 ·rintro (h | h)
  ·exact .inl h
  ·exact .inr h.symm
section
variable {w0 : World} {B n c : Nat} {na : Option Addr} {f : Nat → Nc}
theorem order_any (hN : Nds w0 na n f) (hB : w0.heap.size ≤ B) (hok : EntOk n f) : ∀ (d a : Nat) (m : List Nat) (w : World) (vm : Value), d ≤ 1000 → Below B w0 w → B ≤ w.heap.size → OwnI w B vm m.length (ofN m) → a < n → (∀ x ∈ m, x < n) → m.Nodup → a ∉ m →
  Calls Tryz.prog 53 #[.agg #[.slice na n c], .int .i64 a, vm, .int .i64 d] w (OrPost B w vm (ord (chs (ndL f n)) d a m)) := by
 intro d
 induction d with
 | zero =>
  intro a m w vm hd hb hBw hown ha hm hnd hni
  have hml := nodup_lt hnd hm ha hni
  have hn56 := hok.1
  obtain ⟨w2, hw2⟩ : ∃ w2, w2 = (w.alloc (.cells #[.slice na n c] 26 (0, 0))).alloc (.cells #[.int .i64 a] 3 (0, 0)) := ⟨_, rfl⟩
  obtain ⟨x, hx⟩ : ∃ x, x = w.heap.size := ⟨_, rfl⟩
  have h2 : OrI B w0 w vm x (.slice na n c) m vm w2 ∧ w2.cell? ⟨x + 1, 0, none⟩ = some (.int .i64 a) := or_start hb hBw hown hw2 hx
  have H2 := qH h2.1
  have HG := qH h2.2
  have HS := qH (And.intro hml (And.intro hn56 ha))
  have HX := qH hx
  have HW := qH hw2
  have HM := qH (And.intro hm (And.intro hnd hni))
  clear hm hnd hni hml h2 hb hBw hown hw2 hx hn56
  go_enter Tryz.func53, Tryz.ntmps53
  go_wp2_with (at_builtin; go_must (refine wpList_apn rfl (.tmp 13) (.tmp 15) rfl B vm m.length (ofN m) rfl (by rw [← HW.out]; exact H2.out.own) (w.heap.size + 1) a rfl (by rw [← HW.out, ← HX.out]; exact HG.out) (by have := HS.out; omega) (by rw [← HW.out]; exact H2.out.ge) ?_); intro v2 w3 hO3 hT3 hM3; rw [← HW.out] at hT3 hM3; have H3 := qH (H2.out.step (ms' := m ++ [a]) (by rw [ofN_snoc, List.length_append]; exact hO3) hT3 hM3); clear hO3 hT3 hM3)
  rw [← HX.out]
  go_loopw [2, 9, 10, 11, 12] (fun v2' v9 _ _ _ wr => v2' = v2 ∧ v9 = .int .i64 0 ∧ wr = w3) (fun _ _ _ _ _ _ => 0)
  case atStart => exact ⟨rfl, rfl, rfl⟩
  case round =>
   obtain ⟨rfl, rfl, hwr⟩ := hrel; subst hwr; have b1 := H3.out.box.cell; obtain ⟨b, off, rfl, hbl, d0, d1, d2, d3⟩ := (hN.below hB H3.out.bel).at HS.out.2.2
   have k0 : (0 : Int) ≤ (a : Int) := by omega
   have k1 : (a : Int) < (n : Int) := by have := HS.out.2.2; omega
   clear d0 d1 d2 hbl; go_wp2_with fail
   all_goals (go_ret; exact ⟨_, rfl, H3.out.own, H3.out.turn, H3.out.mine⟩)
 | succ d ih =>
  intro a m w vm hd hb hBw hown ha hm hnd hni
  have hml := nodup_lt hnd hm ha hni
  have hn56 := hok.1
  obtain ⟨w2, hw2⟩ : ∃ w2, w2 = (w.alloc (.cells #[.slice na n c] 26 (0, 0))).alloc (.cells #[.int .i64 a] 3 (0, 0)) := ⟨_, rfl⟩
  obtain ⟨x, hx⟩ : ∃ x, x = w.heap.size := ⟨_, rfl⟩
  have h2 : OrI B w0 w vm x (.slice na n c) m vm w2 ∧ w2.cell? ⟨x + 1, 0, none⟩ = some (.int .i64 a) := or_start hb hBw hown hw2 hx
  have H2 := qH h2.1
  have HG := qH h2.2
  have HS := qH (And.intro hml (And.intro hn56 ha))
  have HX := qH hx
  have HW := qH hw2
  have HM := qH (And.intro hm (And.intro hnd hni))
  have HIH := qH ih
  have HD := qH hd
  clear ih hd hm hnd hni hml h2 hb hBw hown hw2 hx hn56
  go_enter Tryz.func53, Tryz.ntmps53
  go_wp2_with (at_builtin; go_must (refine wpList_apn rfl (.tmp 13) (.tmp 15) rfl B vm m.length (ofN m) rfl (by rw [← HW.out]; exact H2.out.own) (w.heap.size + 1) a rfl (by rw [← HW.out, ← HX.out]; exact HG.out) (by have := HS.out; omega) (by rw [← HW.out]; exact H2.out.ge) ?_); intro v2 w3 hO3 hT3 hM3; rw [← HW.out] at hT3 hM3; have H3 := qH (H2.out.step (ms' := m ++ [a]) (by rw [ofN_snoc, List.length_append]; exact hO3) hT3 hM3); clear hO3 hT3 hM3)
  rw [← HX.out]
  obtain ⟨hch1, hch2⟩ := hok.chs
  have HCH := qH (And.intro hch1 hch2)
  clear hch1 hch2
  go_loopw [2, 9, 10, 11, 12] (fun v2' v9 _ _ _ wr => ∃ k : Nat, k ≤ (f a).e.length ∧ v9 = .int .i64 k ∧ OrI B w0 w vm x (.slice na n c) (mtK (chs (ndL f n)) d a m k) v2' wr) (fun _ v9 _ _ _ _ => (f a).e.length - (RowKit.intOf v9).toNat)
  case atStart => exact ⟨0, Nat.zero_le _, rfl, H3.out⟩
  case round =>
   obtain ⟨k, hk, rfl, hI⟩ := hrel; have HI := qH hI; have b1 := hI.box.cell; have hnr := hN.below hB hI.bel; obtain ⟨b, off, rfl, hbl, d0, d1, d2, d3⟩ := hnr.at HS.out.2.2; have hens := (hnr.ents a HS.out.2.2).ens; have hel := hens.len; rw [← hel] at d3
   have k0 : (0 : Int) ≤ (a : Int) := by omega
   have k1 : (a : Int) < (n : Int) := by have := HS.out.2.2; omega
   by_cases hlt : k < (f a).e.length
   ·have j0 : (0 : Int) ≤ (k : Int) := by omega
    have j1 : (k : Int) < ((f a).e.length : Int) := by omega
    have j2 : (0 : Int) < ((d + 1 : Nat) : Int) := by omega
    obtain ⟨b2, off2, he2, hbl2, hd1, hd2⟩ := hens.at (i := k) (by rw [← hel]; exact hlt); rw [he2] at d3; have hbnd := (hok.2 a HS.out.2.2).2 _ (eat_mem hlt)
    obtain ⟨kd, hkd⟩ : ∃ kd : Nat, (eat (f a).e k).i = (kd : Int) := ⟨inoN (eat (f a).e k), by unfold inoN; omega⟩
    have hkin : (chs (ndL f n) a).getD k 0 = kd := by
     rw [(chs_at HS.out.2.2 hlt).2]; unfold inoN
     omega
    have hkn : kd < n := by omega
    rw [hkd] at hd2; have hmk := mtK_in HCH.out.2 d HS.out.2.2 HM.out.1 k; have hmd := mtK_nodup (chs (ndL f n)) d HM.out.2.1 HM.out.2.2 k; have hml2 := nodup_len hmd hmk; have hml1 := mtK_len (chs (ndL f n)) d a m k; have hnext := mtK_succ (chs (ndL f n)) d a m (k := k) (by rw [chs_len HS.out.2.2]; exact hlt); rw [hkin] at hnext
    obtain ⟨ms, hms⟩ : ∃ ms, ms = mtK (chs (ndL f n)) d a m k := ⟨_, rfl⟩
    rw [← hms] at hmk hmd hml2 hml1 hnext hI; obtain ⟨g, cp, hv2, hg1, hg2⟩ := OwnI.at hI.own (by omega); subst hv2; have HI2 := qH hI; have HN := qH hnext; have HLT := qH hlt; have HMM := qH (And.intro hmk (And.intro hmd (And.intro hml2 hkn))); have hel2 := (hok.2 a HS.out.2.2).1; have hm56 : ms.length ≤ 56 := Nat.le_trans hml2 hok.1; clear hens d0 d1 d2 hbl hbl2 hd1 hbnd hkd hkin hkn hmk hmd hml2 hml1 hnext hI hnr hg1 hg2 hel he2 hms; go_wp2_with fail
    go_loopw [11, 12] (fun v11 v12 w' => ∃ j : Nat, j ≤ ms.length ∧ v12 = .int .i64 j ∧ v11 = .bool (decide (kd ∈ ms.take j)) ∧ w' = wr) (fun _ v12 _ => ms.length - (RowKit.intOf v12).toNat)
    case atStart => exact ⟨0, Nat.zero_le _, rfl, by simp, rfl⟩
    case round =>
     obtain ⟨j, hj, rfl, rfl, hw'⟩ := hrel; subst hw'
     by_cases hjl : j < ms.length
     ·have i0 : (0 : Int) ≤ (j : Int) := by omega
      have i1 : (j : Int) < (ms.length : Int) := by omega
      have HJL := qH hjl; have gc := HI2.out.own.cellN hjl; rw [inu_ofN hjl] at gc; have hdt := dec_take (k := kd) hjl
      obtain ⟨mj, hmj⟩ : ∃ mj, mj = ms.getD j 0 := ⟨_, rfl⟩
      rw [← hmj] at gc hdt; clear hmj
      cases hs : decide (kd ∈ ms.take j) with
      | true =>
       rw [hs, Bool.true_or] at hdt; have HDT := qH hdt; clear hdt hs; go_wp2_with fail
       go_roundw
       case rel => exact ⟨j + 1, HJL.out, by go_num, by rw [HDT.out], trivial⟩
       case measure => simp [RowKit.intOf]; omega
      | false =>
       rw [hs, Bool.false_or] at hdt
       by_cases he : mj = kd
       ·have HDT : Hid (decide (kd ∈ ms.take (j + 1)) = true) := qH (by rw [hdt, he]; simp)
        have he2 : ((mj : Int) == (kd : Int)) = true := by rw [he]; simp
        clear hdt he hs; go_wp2_with fail
        go_roundw
        case rel => exact ⟨j + 1, HJL.out, by go_num, by rw [HDT.out], trivial⟩
        case measure => simp [RowKit.intOf]; omega
       ·have HDT : Hid (decide (kd ∈ ms.take (j + 1)) = false) := qH (by rw [hdt]; simpa using he)
        have he2 : ((mj : Int) == (kd : Int)) = false := by
         rw [beq_eq_false_iff_ne]; intro e
         exact he (by omega)
        clear hdt he hs; go_wp2_with fail
        go_roundw
        case rel => exact ⟨j + 1, HJL.out, by go_num, by rw [HDT.out], trivial⟩
        case measure => simp [RowKit.intOf]; omega
     ·obtain rfl : j = ms.length := by omega
      rw [List.take_length]
      cases hs : decide (kd ∈ ms) with
      | true =>
       have HRL : Hid (OrI B w0 w vm x (.slice (some ⟨b, off, none⟩) n c) (mtK (chs (ndL f n)) d a m (k + 1)) (.slice (some ⟨g, 0, none⟩) ms.length cp) wr) := qH (by rw [HN.out, ordS, if_pos (of_decide_eq_true hs)]; exact HI2.out); go_wp2_with fail
       go_roundw
       case rel => exact ⟨k + 1, HLT.out, by go_num, HRL.out⟩
       case measure => simp [RowKit.intOf]; omega
      | false =>
       have hc := HIH.out kd ms wr (.slice (some ⟨g, 0, none⟩) ms.length cp) (by have := HD.out; omega) HI2.out.bel HI2.out.ge HI2.out.own HMM.out.2.2.2 HMM.out.1 HMM.out.2.1 (of_decide_eq_false hs)
       have ew : wrap64 (d : Int) = (d : Int) := by have := HD.out; unfold wrap64; omega
       have HNS := qH (of_decide_eq_false hs); have l1 := HI2.out.box.load; go_wp2_with fail; refine hc.mono ?_; rintro e w5 ⟨v5, rfl, hO, hT, hM⟩
       have HRL : Hid (OrI B w0 w vm x (.slice (some ⟨b, off, none⟩) n c) (mtK (chs (ndL f n)) d a m (k + 1)) v5 w5) := qH (by
        rw [HN.out, ordS, if_neg HNS.out]
        exact HI2.out.step hO hT hM)
       clear hc hO hT hM; go_wp2_with fail
       go_roundw
       case rel => exact ⟨k + 1, HLT.out, by go_num, HRL.out⟩
       case measure => simp [RowKit.intOf]; omega
   ·obtain rfl : k = (f a).e.length := by omega
    clear hens d0 d1 d2 hbl hel; go_wp2_with fail
    all_goals (go_ret; exact ⟨_, rfl, by rw [← mtK_end, chs_len HS.out.2.2]; exact HI.out.own, HI.out.turn, HI.out.mine⟩)
end
end Go.Proofs.YtinholnidchblaaGreatDoor
namespace Go.Proofs.YtinholnidchblaaGreatDoor
theorem sum_oneN (n j c : Nat) : ((List.range n).map fun i => if i = j then c else 0).sum = if j < n then c else 0 := by
 induction n with
 | zero => simp
 | succ n ih =>
  rw [List.range_succ, List.map_append, List.sum_append, ih]
  simp only [List.map_cons, List.map_nil, List.sum_cons, List.sum_nil, Nat.add_zero]
  by_cases h : n = j
  ·subst h; simp
  ·rw [if_neg h]
   by_cases h2 : j < n
   ·rw [if_pos h2, if_pos (by omega)]; rfl
   ·rw [if_neg h2, if_neg (by omega)]
theorem sum_upto (F : Nat → Nat) (n c : Nat) (h : ∀ i, F i ≤ c) : ((List.range n).map F).sum ≤ c * n := by
 induction n with
 | zero => simp
 | succ n ih =>
  rw [List.range_succ, List.map_append, List.sum_append]
  simp only [List.map_cons, List.map_nil, List.sum_cons, List.sum_nil, Nat.add_zero]
  have := h n
  rw [Nat.mul_succ]
  omega
theorem take_more {l : List Nat} {k : Nat} (h : k < l.length) : l.take (k + 1) = l.take k ++ [l.getD k 0] := by
 rw [List.take_succ_eq_append_getElem h]; simp [List.getD, h]
def lkE (L : List Nd) (b j k : Nat) : Nat := if isD (nat L j) then (if b = j then ((chs L b).take k).countP (fun x => isD (nat L x)) else 0) else ((chs L b).take k).count j
def lkT (L : List Nd) (b k j : Nat) : Nat := (if isD (nat L j) then 2 else 0) + ((List.range b).map fun i => lkE L i j (chs L i).length).sum + lkE L b j k
theorem lkE_zero (L : List Nd) (b j : Nat) : lkE L b j 0 = 0 := by
 unfold lkE
 rw [List.take_zero]
 split
 ·split <;> rfl
 ·rfl
theorem lkT_zero (L : List Nd) (j : Nat) : lkT L 0 0 j = if isD (nat L j) then 2 else 0 := by
 simp [lkT, lkE_zero]
theorem lkT_row (L : List Nd) (b j : Nat) : lkT L (b + 1) 0 j = lkT L b (chs L b).length j := by
 unfold lkT
 rw [lkE_zero, List.range_succ, List.map_append, List.sum_append]
 simp only [List.map_cons, List.map_nil, List.sum_cons, List.sum_nil, Nat.add_zero]
 omega
theorem lkE_step {L : List Nd} {b k : Nat} (hk : k < (chs L b).length) (hf : isD (nat L b) = false → chs L b = []) (j : Nat) :
  lkE L b j (k + 1) = lkE L b j k + if (if isD (nat L ((chs L b).getD k 0)) then b else (chs L b).getD k 0) = j then 1 else 0 := by
 have hb : isD (nat L b) = true := by
  cases h : isD (nat L b) with
  | true => rfl
  | false => rw [hf h] at hk; simp at hk
 unfold lkE
 rw [take_more hk]
 generalize hx : (chs L b).getD k 0 = x
 cases hj : isD (nat L j) with
 | true =>
  simp only [if_true]
  by_cases h : b = j
  ·rw [if_pos h, if_pos h, List.countP_append]
   cases hxd : isD (nat L x) with
   | true => simp [h, hxd]
   | false =>
    have : x ≠ j := fun e => by rw [e, hj] at hxd; cases hxd
    simp [hxd, this]
  ·rw [if_neg h, if_neg h]
   cases hxd : isD (nat L x) with
   | true => simp [h]
   | false =>
    have : x ≠ j := fun e => by rw [e, hj] at hxd; cases hxd
    simp [this]
 | false =>
  simp only [Bool.false_eq_true, if_false]
  rw [List.count_append]
  have hbj : b ≠ j := fun e => by rw [e, hj] at hb; cases hb
  cases hxd : isD (nat L x) with
  | true =>
   have : x ≠ j := fun e => by rw [e, hj] at hxd; cases hxd
   simp [hbj, this, List.count_cons]
  | false =>
   by_cases h : x = j
   ·simp [h, List.count_cons]
   ·simp [h, List.count_cons]
theorem lkT_step {L : List Nd} {b k : Nat} (hk : k < (chs L b).length) (hf : isD (nat L b) = false → chs L b = []) (j : Nat) :
  lkT L b (k + 1) j = lkT L b k j + if (if isD (nat L ((chs L b).getD k 0)) then b else (chs L b).getD k 0) = j then 1 else 0 := by
 unfold lkT
 rw [lkE_step hk hf j]
 omega
theorem lkT_end {L : List Nd} {j : Nat} (hj : j < L.length) : ((lkT L L.length 0 j : Nat) : Int) = lnk L j := by
 unfold lkT lnk
 rw [lkE_zero]
 unfold lkE
 cases hd : isD (nat L j) with
 | true =>
  simp only [if_true, Nat.add_zero, List.take_length]
  have e : ∀ i, (if i = j then (chs L i).countP (fun x => isD (nat L x)) else 0) = (if i = j then (chs L j).countP (fun x => isD (nat L x)) else 0) := fun i => by
   split
   ·rename_i h; rw [h]
   ·rfl
  rw [show (fun i => if i = j then (chs L i).countP (fun x => isD (nat L x)) else 0) = fun i => if i = j then (chs L j).countP (fun x => isD (nat L x)) else 0 from funext e, sum_oneN, if_pos hj]
  unfold chs
  omega
 | false =>
  simp only [Bool.false_eq_true, if_false, Nat.add_zero, List.take_length, Nat.zero_add]
  rfl
theorem lkE_le {L : List Nd} (h : ∀ x, (chs L x).length ≤ 64) (b j k : Nat) : lkE L b j k ≤ 64 := by
 have h1 := h b
 unfold lkE
 split
 ·split
  ·have := List.countP_le_length (p := fun x => isD (nat L x)) (l := (chs L b).take k)
   rw [List.length_take] at this
   omega
  ·omega
 ·have := List.count_le_length (a := j) (l := (chs L b).take k)
  rw [List.length_take] at this
  omega
theorem lkT_le {L : List Nd} (h : ∀ x, (chs L x).length ≤ 64) {b : Nat} (hb : b ≤ 56) (k j : Nat) : lkT L b k j ≤ 100000 := by
 have h1 := sum_upto (fun i => lkE L i j (chs L i).length) b 64 (fun i => lkE_le h i j _)
 have h2 := lkE_le h b j k
 have h3 : (if isD (nat L j) then 2 else 0 : Nat) ≤ 2 := by split <;> omega
 unfold lkT
 have : 64 * b ≤ 64 * 56 := Nat.mul_le_mul_left _ hb
 omega
def upT (L : List Nd) (b k j : Nat) : Nat := ((List.range b).map fun i => (chs L i).count j).sum + ((chs L b).take k).count j
theorem upT_zero (L : List Nd) (j : Nat) : upT L 0 0 j = 0 := by simp [upT]
theorem upT_row (L : List Nd) (b j : Nat) : upT L (b + 1) 0 j = upT L b (chs L b).length j := by
 unfold upT
 rw [List.range_succ, List.map_append, List.sum_append]
 simp
theorem upT_step {L : List Nd} {b k : Nat} (hk : k < (chs L b).length) (j : Nat) : upT L b (k + 1) j = upT L b k j + if (chs L b).getD k 0 = j then 1 else 0 := by
 unfold upT
 rw [take_more hk, List.count_append]
 simp only [List.count_cons, List.count_nil, Nat.zero_add, beq_iff_eq]
 omega
theorem upT_end (L : List Nd) (j : Nat) : upT L L.length 0 j = up L j := by
 unfold upT up
 simp
theorem upT_le {L : List Nd} (h : ∀ x, (chs L x).length ≤ 64) {b : Nat} (hb : b ≤ 56) (k j : Nat) : upT L b k j ≤ 100000 := by
 have h1 := sum_upto (fun i => (chs L i).count j) b 64 (fun i => Nat.le_trans List.count_le_length (h i))
 have h2 := List.count_le_length (a := j) (l := (chs L b).take k)
 rw [List.length_take] at h2
 have h3 := h b
 unfold upT
 have : 64 * b ≤ 64 * 56 := Nat.mul_le_mul_left _ hb
 omega
def rng (n : Nat) (F : Nat → Nat) : List Int := (List.range n).map fun j => ((F j : Nat) : Int)
theorem rng_len (n : Nat) (F : Nat → Nat) : (rng n F).length = n := by simp [rng]
theorem inu_rng {n i : Nat} (F : Nat → Nat) (h : i < n) : inu (rng n F) i = ((F i : Nat) : Int) := by
 simp [inu, rng, List.getD, h]
theorem rng_congr {n : Nat} {F G : Nat → Nat} (h : ∀ j, j < n → F j = G j) : rng n F = rng n G := List.map_congr_left fun j hj => by rw [h j (List.mem_range.1 hj)]
theorem rng_set {n i : Nat} {F G : Nat → Nat} {z : Nat} (h : i < n) (hG : ∀ j, j < n → G j = if i = j then z else F j) : (rng n F).set i (z : Int) = rng n G := by
 refine List.ext_getElem? fun j => ?_
 rw [List.getElem?_set]
 by_cases hj : j < n
 ·have hg := hG j hj
  split
  ·rename_i e
   subst e; rw [if_pos rfl] at hg
   simp [rng, h, hg]
  ·rename_i e
   rw [if_neg e] at hg
   simp [rng, hj, hg]
 ·rw [show (rng n F)[j]? = none from List.getElem?_eq_none (by rw [rng_len]; omega), show (rng n G)[j]? = none from List.getElem?_eq_none (by rw [rng_len]; omega)]
  split
  ·omega
  ·rfl
theorem rng_zero (n : Nat) : List.replicate n (0 : Int) = rng n fun _ => 0 := by
 refine List.ext_getElem? fun j => ?_
 by_cases hj : j < n
 ·simp [rng, hj]
 ·simp [rng, hj]
end Go.Proofs.YtinholnidchblaaGreatDoor
namespace Go.Proofs.YtinholnidchblaaGreatDoor
open Go.RowKit
structure LnI (w wr : World) (x g n c : Nat) (bx : Value) (ks : List Int) : Prop where
 own : OwnI wr w.heap.size (.slice (some ⟨g, 0, none⟩) n c) n ks
 bel : Below w.heap.size w wr
 box : TrB wr x bx
 ne : x ≠ g
theorem LnI.set {w wr : World} {x g n c : Nat} {bx : Value} {ks : List Int} (h : LnI w wr x g n c bx ks) (i : Nat) (z : Int) : LnI w (wr.setCell ⟨g, i, none⟩ (.int .i64 z)) x g n c bx (ks.set i z) := by
 have hT : Turn (· = g) wr (wr.setCell ⟨g, i, none⟩ (.int .i64 z)) := turn_set wr g i _
 have hg := World.ownsRow.lt h.own g rfl
 exact ⟨h.own.setN i z, h.bel.trans (hT.below h.bel.size fun k e => by subst e; exact hg.1), (hT.block x (lt_of_block h.box) h.ne).trans h.box, h.ne⟩
theorem LnI.next {w wr w' : World} {x g n c : Nat} {bx : Value} {ks : List Int} (h : LnI w wr x g n c bx ks) (hb : Below wr.heap.size wr w') : LnI w w' x g n c bx ks := ⟨h.own.next hb, h.bel.trans (hb.mono h.bel.size), (hb.block _ (lt_of_block h.box)).trans h.box, h.ne⟩
theorem LnI.lt {w wr : World} {x g n c : Nat} {bx : Value} {ks : List Int} (h : LnI w wr x g n c bx ks) : g < wr.heap.size := (World.ownsRow.lt h.own g rfl).2
section
variable {w : World} {n c : Nat} {na : Option Addr} {f : Nat → Nc}
theorem rlinks_any (hN : Nds w na n f) (hok : EntOk n f) (hfl : ∀ i, i < n → isD (f i).nd = false → (f i).e = []) :
  Calls Tryz.prog 54 #[.agg #[.slice na n c]] w fun e w' => ∃ g cc, e = .returned (.slice (some ⟨g, 0, none⟩) n cc) ∧ OwnI w' w.heap.size (.slice (some ⟨g, 0, none⟩) n cc) n ((List.range n).map fun j => lnk (ndL f n) j) ∧ Below w.heap.size w w' := by
 obtain ⟨w1, hw1⟩ : ∃ w1, w1 = w.alloc (.cells #[.slice na n c] 26 (0, 0)) := ⟨_, rfl⟩
 obtain ⟨x, hx⟩ : ∃ x, x = w.heap.size := ⟨_, rfl⟩
 have hb1 : Below w.heap.size w w1 := by rw [hw1]; exact (Below.refl _ _).alloc (Nat.le_refl _) _
 have hbx : TrB w1 x (.slice na n c) := by rw [hw1, hx]; exact heap_alloc_new w _
 have hs1 : w1.heap.size = x + 1 := by rw [hw1, hx]; simp
 have hn56 := hok.1
 have HB1 := qH hb1
 have HBX := qH hbx
 have HS1 := qH hs1
 have HW1 := qH hw1
 have HX := qH hx
 have hle : ∀ x, (chs (ndL f n) x).length ≤ 64 := hok.chs.1
 have hfl2 : ∀ b, b < n → isD (nat (ndL f n) b) = false → chs (ndL f n) b = [] := fun b hb h => by
  rw [nat_ndL hb] at h
  unfold chs inos
  rw [nat_ndL hb]
  show ((f b).e).map inoN = []
  rw [hfl b hb h]; rfl
 have HFL := qH (And.intro hle hfl2)
 clear hb1 hbx hs1 hw1 hx hle hfl2 hfl
 go_enter Tryz.func54, Tryz.ntmps54
 go_wp2_with (at_make; go_must (refine wpList_mki rfl _ _ rfl .i64 .i64 _ _ n rfl rfl rfl rfl (by omega) w.heap.size (by simp) ?_); intro w2 hO2 hb2; have HO2 := qH hO2; have HB2 := qH hb2; clear hO2 hb2)
 have hI0 : LnI w w2 x (x + 1) n n (.slice na n c) (rng n fun _ => 0) := by
  have ho := HO2.out
  have hb := HB2.out
  rw [← HW1.out] at ho hb
  rw [HS1.out] at ho
  exact ⟨by rw [← rng_zero]; exact ho, HB1.out.trans (hb.mono HB1.out.size), (hb.block x (lt_of_block HBX.out)).trans HBX.out, by omega⟩
 have HI0 := qH hI0
 rw [← HX.out]
 obtain ⟨g, hg⟩ : ∃ g, g = x + 1 := ⟨_, rfl⟩
 rw [← hg] at HI0 ⊢
 clear hI0 hg HO2 HB2 HB1 HBX HS1 HW1
 go_loopw [4] (fun v4 wr => ∃ i : Nat, i ≤ n ∧ v4 = .int .i64 i ∧ LnI w wr x g n n (.slice na n c) (rng n fun j => if j < i then lkT (ndL f n) 0 0 j else 0)) (fun v4 _ => n - (RowKit.intOf v4).toNat)
 case atStart => exact ⟨0, Nat.zero_le _, rfl, by simpa using HI0.out⟩
 case round =>
  obtain ⟨i, hi, rfl, hI⟩ := hrel
  have HI := qH hI
  have b1 := hI.box.cell
  by_cases hlt : i < n
  ·have HLT := qH hlt
   have j0 : (0 : Int) ≤ (i : Int) := by omega
   have j1 : (i : Int) < (n : Int) := by omega
   obtain ⟨b, off, rfl, hbl, d0, d1, d2, d3⟩ := (hN.next hI.bel).at hlt; clear d1 d2 d3 hbl hI
   by_cases hk : (f i).k = 2
   ·have hk2 : ((f i).k == 2) = true := by simpa using hk
    have gc := HI.out.own.cellN hlt; rw [inu_rng _ hlt, if_neg (Nat.lt_irrefl i)] at gc; have gf := HI.out.own.freeN i; have gl := HI.out.lt
    have HST : Hid (LnI w (wr.setCell ⟨g, i, none⟩ (.int .i64 2)) x g n n (.slice (some ⟨b, off, none⟩) n c) (rng n fun j => if j < i + 1 then lkT (ndL f n) 0 0 j else 0)) := qH (by
     have := HI.out.set i ((2 : Nat) : Int)
     rw [rng_set (z := 2) (G := fun j => if j < i + 1 then lkT (ndL f n) 0 0 j else 0) HLT.out (fun j hj => by
      by_cases h : i = j
      ·subst h
       rw [if_pos (by omega), if_pos rfl, lkT_zero, nat_ndL HLT.out]; rw [show isD (f i).nd = true by unfold isD; exact hk2]
       rfl
      ·rw [if_neg h]
       by_cases h2 : j < i
       ·rw [if_pos h2, if_pos (by omega)]
       ·rw [if_neg h2, if_neg (by omega)])] at this
     exact this)
    clear hk; go_wp2_with fail
    go_roundw
    case rel => exact ⟨i + 1, HLT.out, by go_num, HST.out⟩
    case measure => have := HLT.out; simp [RowKit.intOf]; omega
   ·have hk2 : ((f i).k == 2) = false := by simpa using hk
    have HST : Hid (LnI w wr x g n n (.slice (some ⟨b, off, none⟩) n c) (rng n fun j => if j < i + 1 then lkT (ndL f n) 0 0 j else 0)) := qH (by
     have := HI.out
     rwa [rng_congr (G := fun j => if j < i + 1 then lkT (ndL f n) 0 0 j else 0) (fun j hj => by
      by_cases h : i = j
      ·subst h
       rw [if_neg (Nat.lt_irrefl i), if_pos (by omega), lkT_zero, nat_ndL HLT.out]; rw [show isD (f i).nd = false by unfold isD; exact hk2]
       rfl
      ·by_cases h2 : j < i
       ·rw [if_pos h2, if_pos (by omega)]
       ·rw [if_neg h2, if_neg (by omega)])] at this)
    clear hk; go_wp2_with fail
    go_roundw
    case rel => exact ⟨i + 1, HLT.out, by go_num, HST.out⟩
    case measure => have := HLT.out; simp [RowKit.intOf]; omega
  ·obtain rfl : i = n := by omega
   have HI1 : Hid (LnI w wr x g i i (.slice na i c) (rng i fun j => lkT (ndL f i) 0 0 j)) := qH (by
    have := HI.out
    rwa [rng_congr (G := fun j => lkT (ndL f i) 0 0 j) (fun j hj => by rw [if_pos hj])] at this)
   clear hI; go_wp2_with fail; clear b1
   go_loopw [5, 6, 7] (fun v5 _ _ wr => ∃ a : Nat, a ≤ i ∧ v5 = .int .i64 a ∧ LnI w wr x g i i (.slice na i c) (rng i fun j => lkT (ndL f i) a 0 j)) (fun v5 _ _ _ => i - (RowKit.intOf v5).toNat)
   case atStart => exact ⟨0, Nat.zero_le _, rfl, HI1.out⟩
   case round =>
    obtain ⟨a, ha, rfl, hI⟩ := hrel; have HI := qH hI; have b1 := hI.box.cell
    by_cases hlt : a < i
    ·have HLT := qH hlt
     have j0 : (0 : Int) ≤ (a : Int) := by omega
     have j1 : (a : Int) < (i : Int) := by omega
     clear hI; go_wp2_with fail; clear b1; have hll := chs_len (f := f) hlt; have HLL := qH hll; clear hll
     go_loopw [6, 7] (fun v6 _ wr => ∃ k : Nat, k ≤ (f a).e.length ∧ v6 = .int .i64 k ∧ LnI w wr x g i i (.slice na i c) (rng i fun j => lkT (ndL f i) a k j)) (fun v6 _ _ => (f a).e.length - (RowKit.intOf v6).toNat)
     case atStart => exact ⟨0, Nat.zero_le _, rfl, HI.out⟩
     case round =>
      obtain ⟨k, hk, rfl, hI⟩ := hrel; have HI2 := qH hI; have b1 := hI.box.cell; have hnr := hN.next hI.bel; obtain ⟨b, off, rfl, hbl, d0, d1, d2, d3⟩ := hnr.at HLT.out; have hens := (hnr.ents a HLT.out).ens; rw [← hens.len] at d3; clear d0 d1 d2 hbl
      by_cases hk2 : k < (f a).e.length
      ·have HK := qH hk2
       have k0 : (0 : Int) ≤ (k : Int) := by omega
       have k1 : (k : Int) < ((f a).e.length : Int) := by omega
       obtain ⟨b2, off2, he2, hbl2, e1, e2⟩ := hens.at (i := k) (by rw [← hens.len]; exact hk2); rw [he2] at d3; have hbnd := (hok.2 a HLT.out).2 _ (eat_mem hk2)
       obtain ⟨kd, hkd⟩ : ∃ kd : Nat, (eat (f a).e k).i = (kd : Int) := ⟨inoN (eat (f a).e k), by unfold inoN; omega⟩
       have hkin : (chs (ndL f i) a).getD k 0 = kd := by
        rw [(chs_at HLT.out hk2).2]; unfold inoN
        omega
       have hkn : kd < i := by omega
       rw [hkd] at e2; obtain ⟨b3, off3, he3, _, c0, _, _, _⟩ := hnr.at hkn
       cases he3
       have m0 : (0 : Int) ≤ (kd : Int) := by omega
       have m1 : (kd : Int) < (i : Int) := by omega
       have hstep := fun j => lkT_step (L := ndL f i) (b := a) (k := k) (by rw [HLL.out]; exact hk2) (HFL.out.2 a HLT.out) j
       rw [hkin, nat_ndL hkn] at hstep; have HSTEP := qH hstep
       have hle := fun j => lkT_le (L := ndL f i) HFL.out.1 (b := a) (by omega) k j
       have HKN := qH hkn; have hel2 := (hok.2 a HLT.out).1; clear hens hnr hbl2 e1 hbnd hkd hkin hkn he2 hstep hI
       by_cases hd : (f kd).k = 2
       ·have hd2 : ((f kd).k == 2) = true := by simpa using hd
        have gc := HI2.out.own.cellN HLT.out; rw [inu_rng _ HLT.out] at gc
        obtain ⟨u, hu⟩ : ∃ u, u = lkT (ndL f i) a k a := ⟨_, rfl⟩
        have hule : u ≤ 100000 := by rw [hu]; exact hle a
        rw [← hu] at gc; have gf := HI2.out.own.freeN a; have gl := HI2.out.lt
        have HST : Hid (LnI w (wr.setCell ⟨g, a, none⟩ (.int .i64 ((u : Int) + 1))) x g i i (.slice (some ⟨b, off, none⟩) i c) (rng i fun j => lkT (ndL f i) a (k + 1) j)) := qH (by
         have := HI2.out.set a ((u : Int) + 1); rw [show (u : Int) + 1 = ((u + 1 : Nat) : Int) by omega] at this ⊢
         rwa [rng_set (z := u + 1) (G := fun j => lkT (ndL f i) a (k + 1) j) HLT.out (fun j hj => by
          rw [HSTEP.out j, show isD (f kd).nd = true by unfold isD; exact hd2, if_pos rfl]
          by_cases h : a = j
          ·subst h; rw [if_pos rfl, if_pos rfl, hu]
          ·rw [if_neg h, if_neg h]; rfl)] at this)
        clear hd hle hu; go_wp2_with fail
        go_roundw
        case rel => exact ⟨k + 1, HK.out, by go_num, HST.out⟩
        case measure => have := HK.out; simp [RowKit.intOf]; omega
       ·have hd2 : ((f kd).k == 2) = false := by simpa using hd
        have gc := HI2.out.own.cellN HKN.out; rw [inu_rng _ HKN.out] at gc
        obtain ⟨u, hu⟩ : ∃ u, u = lkT (ndL f i) a k kd := ⟨_, rfl⟩
        have hule : u ≤ 100000 := by rw [hu]; exact hle kd
        rw [← hu] at gc; have gf := HI2.out.own.freeN kd; have gl := HI2.out.lt
        have HST : Hid (LnI w (wr.setCell ⟨g, kd, none⟩ (.int .i64 ((u : Int) + 1))) x g i i (.slice (some ⟨b, off, none⟩) i c) (rng i fun j => lkT (ndL f i) a (k + 1) j)) := qH (by
         have := HI2.out.set kd ((u : Int) + 1); rw [show (u : Int) + 1 = ((u + 1 : Nat) : Int) by omega] at this ⊢
         rwa [rng_set (z := u + 1) (G := fun j => lkT (ndL f i) a (k + 1) j) HKN.out (fun j hj => by
          rw [HSTEP.out j, show isD (f kd).nd = false by unfold isD; exact hd2]; simp only [Bool.false_eq_true, if_false]
          by_cases h : kd = j
          ·subst h; rw [if_pos rfl, if_pos rfl, hu]
          ·rw [if_neg h, if_neg h]; rfl)] at this)
        clear hd hle hu; go_wp2_with fail
        go_roundw
        case rel => exact ⟨k + 1, HK.out, by go_num, HST.out⟩
        case measure => have := HK.out; simp [RowKit.intOf]; omega
      ·obtain rfl : k = (f a).e.length := by omega
       have HI3 : Hid (LnI w wr x g i i (.slice (some ⟨b, off, none⟩) i c) (rng i fun j => lkT (ndL f i) (a + 1) 0 j)) := qH (by
        have := HI2.out
        rwa [rng_congr (G := fun j => lkT (ndL f i) (a + 1) 0 j) (fun j hj => by rw [lkT_row, HLL.out])] at this)
       clear hens hnr hI; go_wp2_with fail
       go_roundw
       case rel => exact ⟨a + 1, HLT.out, by go_num, HI3.out⟩
       case measure => have := HLT.out; simp [RowKit.intOf]; omega
    ·obtain rfl : a = i := by omega
     clear hI; go_wp2_with fail; go_ret; refine ⟨_, _, rfl, ?_, HI.out.bel⟩; have := HI.out.own
     rwa [show (rng a fun j => lkT (ndL f a) a 0 j) = (List.range a).map fun j => lnk (ndL f a) j from List.map_congr_left fun j hj => by
      have h9 := lkT_end (L := ndL f a) (j := j) (by rw [ndL_len]; exact List.mem_range.1 hj)
      rwa [ndL_len] at h9] at this
end
end Go.Proofs.YtinholnidchblaaGreatDoor
