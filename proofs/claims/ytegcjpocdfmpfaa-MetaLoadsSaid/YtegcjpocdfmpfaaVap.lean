/-
  The document's Load, by contract.
-/
import Derived.Test.YtegcjpocdfmpfaaVao
import Derived.Test.YtegcjpocdfmpfaaVah
set_option linter.unusedVariables false
set_option linter.unusedSimpArgs false
set_option maxRecDepth 100000
set_option maxHeartbeats 16000000
namespace Go.Proofs.Ytegcjpocdfmpfaa
open Go.RowKit

/-- What Load answers. -/
def LdP (w : World) (R : Except Int (List Nd × List Int)) (e : Ending) (w' : World) : Prop :=
  Below w.heap.size w w' ∧ match R with
    | .error er => e = .returned (.tuple #[.slice none 0 0, .slice none 0 0, .int .i64 er])
    | .ok (L, l) => ∃ a n c a2 c2 f, e = .returned (.tuple #[.slice a n c, .slice a2 l.length c2, .int .i64 0]) ∧ NwsAt w' a n f ∧ (∀ i, i < n → NwOk w' (f i)) ∧ lnL f n = L ∧ Ins w' a2 l.length l
theorem rd_new {w w2 : World} {S : Sv} {g : Nat} (rt : Rt S.d S.r S.s) (hS : Sto w S.p S.A S.nA S.cA S.Dt S.nD S.cD S.ks S.f) (h0 : S.w0 = w) (hb : Below w.heap.size w w2) (hg : w.heap.size ≤ g) {t : TypeId}
    (hr : w2.heap[g]? = some (.cells #[.int .i64 S.d, .int .i64 S.r, .int .i64 S.s, .pointer (some ⟨S.p, 0, none⟩), .slice none 0 0, .int .i64 0] t (0, 0))) : RdS w2 S g (.slice none 0 0) 0 (.ok []) := by
  subst h0
  have c := fun i => cell_of_row w2 g i _ _ (0, 0) hr
  exact ⟨[], 0, ⟨rt, lt_of_block hr, c 0, c 1, c 2, c 3, c 4, c 5, fun i => frozen_of_row w2 g i _ _ hr, ownI_nil _ _, hS, hb, hg, by simp [Value.ownBlock]⟩, Nat.le_refl _, rfl, rfl⟩
/-- Load under way: the reader, the charts, the list. -/
structure LdW (w wr : World) (S : Sv) (g : Nat) (v : Value) (m : Nat) (st : St) (gb bc : Nat) (ch : List Int) (u : Value) (n : Nat) (f : Nat → Nw) : Prop where
  rd : RdS wr S g v m st
  ch : Ins wr (some ⟨bc, 0, none⟩) 56 ch
  bcl : bc < wr.heap.size
  bcv : ¬ Tv g v bc
  ls : OwL wr w.heap.size u n f
  uv : ∀ j, u.ownBlock = some j → ¬ Tv g v j ∧ j ≠ bc ∧ j ≠ gb
  pv : ∀ i, i < n → ∀ y, (f i).a = some y → ¬ Tv g v y.block
  bx : Bx wr gb S.d S.r S.s
  gv : ¬ Tv g v gb
  bel : Below w.heap.size w wr
  low : ∀ j, Tv g v j → w.heap.size ≤ j
  sz : S.w0.heap.size = w.heap.size
section
variable {w wr w' : World} {S : Sv} {g : Nat} {v v' : Value} {m m' : Nat} {st st' : St} {gb bc : Nat} {ch : List Int} {u u' : Value} {n : Nat} {f : Nat → Nw}
theorem LdW.next (h : LdW w wr S g v m st gb bc ch u n f) (hb : Below wr.heap.size wr w') : LdW w w' S g v m st gb bc ch u n f :=
  ⟨h.rd.next hb, h.ch.next hb, Nat.lt_of_lt_of_le h.bcl hb.size, h.bcv, h.ls.next hb, h.uv, h.pv, h.bx.next hb, h.gv, h.bel.trans (hb.mono h.bel.size), h.low, h.sz⟩
theorem LdW.more (h : LdW w wr S g v m st gb bc ch u n f) (hm : m ≤ m') : LdW w wr S g v m' st gb bc ch u n f :=
  ⟨h.rd.more hm, h.ch, h.bcl, h.bcv, h.ls, h.uv, h.pv, h.bx, h.gv, h.bel, h.low, h.sz⟩
theorem Left.lowN {B : Nat} (h : Left wr S g v m' st' w' v') (hl : ∀ j, Tv g v j → B ≤ j) (hB : B ≤ wr.heap.size) : ∀ j, Tv g v' j → B ≤ j := by
  intro j hj
  rcases hj with e | e
  · exact hl j (.inl e)
  · rcases h.2.2 j e with e2 | e2
    · exact hl j (.inr e2)
    · omega
theorem LdW.call (h : LdW w wr S g v m st gb bc ch u n f) (k : Left wr S g v m' st' w' v') : LdW w w' S g v' m' st' gb bc ch u n f := by
  refine ⟨k.2.1, h.ch.turn k.1 (fun y e => by cases e; exact h.bcv), Nat.lt_of_lt_of_le h.bcl k.1.size, k.vnew h.bcl h.bcv, h.ls.turn k.1 (fun j e => (h.uv j e).1) h.pv, fun j e => ⟨k.vnew (World.ownsRow.lt h.ls.row j e).2 (h.uv j e).1, (h.uv j e).2⟩, fun i hi y e => k.vnew (h.ls.apart i hi y e).2 (h.pv i hi y e), ?_, k.vnew h.bx.lt h.gv, h.bel.trans (k.1.below h.bel.size h.low), k.lowN h.low h.bel.size, h.sz⟩
  exact ⟨Nat.lt_of_lt_of_le h.bx.lt k.1.size, (k.1.cell (a := ⟨gb, 0, none⟩) h.bx.lt h.gv).trans h.bx.c0, (k.1.cell (a := ⟨gb, 1, none⟩) h.bx.lt h.gv).trans h.bx.c1, (k.1.cell (a := ⟨gb, 2, none⟩) h.bx.lt h.gv).trans h.bx.c2⟩
theorem LdW.app {x : Nw} (h : LdW w wr S g v m st gb bc ch u n f) (hO : OwL w' w.heap.size u' (n + 1) (snN f n x)) (hG : wr.grownBy w' u.ownBlock) (hu : u'.ownBlock = u.ownBlock ∨ u'.ownBlock = some wr.heap.size) (hx : ∀ y, x.a = some y → ¬ Tv g v y.block) : LdW w w' S g v m st gb bc ch u' (n + 1) (snN f n x) := by
  have ht : Turn (fun j => u.ownBlock = some j) wr w' := Turn.of_grown hG (fun b e => e)
  have hlow : ∀ j, u.ownBlock = some j → w.heap.size ≤ j := fun j e => (World.ownsRow.lt h.ls.row j e).1
  have ngb : ¬ u.ownBlock = some gb := fun e => (h.uv _ e).2.2 rfl
  refine ⟨h.rd.turn ht (fun j e => ⟨(h.uv j e).1, by rw [h.sz]; exact hlow j e⟩), h.ch.turn ht (fun y e h' => by cases e; exact (h.uv _ h').2.1 rfl), Nat.lt_of_lt_of_le h.bcl ht.size, h.bcv, hO, fun j e => ?_, fun i hi y e => ?_, ?_, h.gv, h.bel.trans (ht.below h.bel.size hlow), h.low, h.sz⟩
  · rcases hu with e2 | e2
    · exact h.uv j (by rw [← e2]; exact e)
    · rw [e2] at e
      simp only [Option.some.injEq] at e
      subst e
      exact ⟨h.rd.old (Nat.le_refl _), fun e3 => by have := h.bcl; omega, fun e3 => by have := h.bx.lt; omega⟩
  · by_cases h1 : i = n
    · rw [snN, if_pos h1] at e
      exact hx y e
    · rw [snN, if_neg h1] at e
      exact h.pv i (by omega) y e
  · exact ⟨Nat.lt_of_lt_of_le h.bx.lt ht.size, (ht.cell (a := ⟨gb, 0, none⟩) h.bx.lt ngb).trans h.bx.c0, (ht.cell (a := ⟨gb, 1, none⟩) h.bx.lt ngb).trans h.bx.c1, (ht.cell (a := ⟨gb, 2, none⟩) h.bx.lt ngb).trans h.bx.c2⟩
theorem LdW.start (rd : RdS wr S g v m st) (hch : Ins wr (some ⟨bc, 0, none⟩) 56 ch) (h1 : bc < wr.heap.size) (h2 : ¬ Tv g v bc) (bx : Bx wr gb S.d S.r S.s) (h3 : ¬ Tv g v gb) (hb : Below w.heap.size w wr) (hl : ∀ j, Tv g v j → w.heap.size ≤ j) (hs : S.w0.heap.size = w.heap.size) :
    LdW w (wr.alloc (.cells #[] 83)) S g v m st gb bc ch (.slice (some ⟨wr.heap.size, 0, none⟩) 0 0) 0 (fun _ => noN) := by
  have hx : Below wr.heap.size wr (wr.alloc (.cells #[] 83)) := (Below.refl _ _).alloc (Nat.le_refl _) _
  refine ⟨rd.next hx, hch.next hx, Nat.lt_of_lt_of_le h1 hx.size, h2, ownL_none wr w.heap.size hb.size _, fun j e => ?_, (fun i hi => by omega), bx.next hx, h3, hb.trans (hx.mono hb.size), hl, hs⟩
  simp only [Value.ownBlock, Option.some.injEq] at e
  subst e
  exact ⟨rd.old (Nat.le_refl _), fun e => by omega, fun e => by have := bx.lt; omega⟩
theorem OwnI.atN {B k : Nat} {ks : List Int} (h : OwnI wr B u k ks) (hk : 0 < k) : ∃ b c, u = .slice (some ⟨b, 0, none⟩) k c ∧ Ins wr (some ⟨b, 0, none⟩) k ks ∧ B ≤ b ∧ b < wr.heap.size := by
  rcases h.2 with ⟨rfl, h0⟩ | ⟨g', cap, cur, rfl, h1, h2, _⟩
  · omega
  · obtain ⟨a', c', e, hi, _, _, hx⟩ := h.ins
    cases e
    exact ⟨g', cap, rfl, hi, h1, lt_of_block h2⟩
end
theorem lnL_snoc (f : Nat → Nw) (n : Nat) (x : Nw) : lnL (snN f n x) (n + 1) = lnL f n ++ [x.nd] := by
  unfold lnL
  rw [List.range_succ, List.map_append]
  congr 1
  · apply List.map_congr_left
    intro i hi
    have := List.mem_range.1 hi
    rw [snN, if_neg (by omega)]
  · simp [snN]
/-- The charts from the i-th on. -/
def ldC (N : Int) (blk : Int → Option (List Int)) (CH : List Int) (i : Nat) (st : St) (L : List Nd) (hh : Bool) : Except Int ((List Nd × Bool) × List Int) := match st with
  | .error e => .error e
  | .ok l => run N blk (nsP N CH (56 - i) i L hh) l
section
variable {N : Int} {blk : Int → Option (List Int)} {CH : List Int}
theorem ldC_skip {i : Nat} (hi : i < 56) (h0 : num CH i = 0) (st : St) (L : List Nd) (hh : Bool) : ldC N blk CH (i + 1) st L hh = ldC N blk CH i st L hh := by
  unfold ldC
  cases st with
  | error e => rfl
  | ok l =>
    simp only
    rw [show 56 - i = (56 - (i + 1)) + 1 by omega, nsP, if_pos h0]
theorem ldC_node {i : Nat} (hi : i < 56) (h0 : num CH i ≠ 0) (l : List Int) (L : List Nd) (hh : Bool) : ldC N blk CH i (.ok l) L hh = ldC N blk CH (i + 1) (ndF N blk (.ok l) ((i : Int) + 1) (num CH i)).1 (L ++ [(ndF N blk (.ok l) ((i : Int) + 1) (num CH i)).2.1]) (hh || (ndF N blk (.ok l) ((i : Int) + 1) (num CH i)).2.2) := by
  unfold ldC
  simp only
  rw [show 56 - i = (56 - (i + 1)) + 1 by omega, nsP, if_neg h0, run_bind, run_ndF]
  cases h : ndF N blk (.ok l) ((i : Int) + 1) (num CH i) with
  | mk st r =>
    obtain ⟨nd, h'⟩ := r
    cases st with
    | error e => rfl
    | ok l' => rfl
def endL (N : Int) (R : Except Int ((List Nd × Bool) × List Int)) : Except Int (List Nd × List Int) := match R with
  | .error e => .error e
  | .ok (q, l) => if (q.2 || !lrO N q.1) = true then .error 15 else .ok (q.1, l)
theorem ldR_of {root : Int} {l1 b : List Int} {x1 x2 : Int} {st2 st3 : St} {R : Except Int ((List Nd × Bool) × List Int)} (h1 : stp N blk (.ok []) root = .ok l1) (hb : b = dat N blk (.ok []) root) (hr : rtO b = true) (e1 : x1 = getV 56 b 2 2) (e2 : x2 = getV 56 b 4 2) (h2 : st2 = stp N blk (.ok l1) x1) (h3 : st3 = stp N blk st2 x2)
    (hC : CH = pS N blk (.ok l1) x1 ++ pS N blk st2 x2) (hR : R = ldC N blk CH 0 st3 [] false) : ldR N blk root = endL N R := by
  subst hR
  have hl : b.length = 56 := by rw [hb]; exact dat_len h1
  rw [run_ld, h1]
  simp only
  rw [← hb, if_pos hr, hl, ← e1, ← e2, ← h2]
  cases st2 with
  | error e =>
    rw [h3]
    rfl
  | ok l2 =>
    simp only
    rw [← h3]
    cases st3 with
    | error e => rfl
    | ok l3 =>
      simp only
      rw [← hC]
      rfl
end
theorem rload_any (S : Sv) (root : Int) (w : World) (hS : Sto w S.p S.A S.nA S.cA S.Dt S.nD S.cD S.ks S.f) (h0 : S.w0 = w) :
    Calls Try.prog 26 #[gv S.d S.r S.s, .pointer (some ⟨S.p, 0, none⟩), .int .i64 root] w (LdP w (if geoO S.d S.r S.s = true then ldR S.N S.blk root else .error 15)) := by
  have hx := Bx.mk' w S.d S.r S.s 23
  obtain ⟨w1, hw1⟩ : ∃ w1, w1 = w.alloc (.cells #[.int .i64 S.d, .int .i64 S.r, .int .i64 S.s] 23 (0, 0)) := ⟨_, rfl⟩
  have hB1 : Below w.heap.size w w1 := by rw [hw1]; exact (Below.refl _ _).alloc (Nat.le_refl _) _
  rw [← hw1] at hx
  have z1 : w1.heap.size = w.heap.size + 1 := by rw [hw1]; simp
  obtain ⟨w2, hw2⟩ : ∃ w2, w2 = w1.alloc (.cells #[.int .i64 S.d, .int .i64 S.r, .int .i64 S.s, .pointer (some ⟨S.p, 0, none⟩), .slice none 0 0, .int .i64 0] 114 (0, 0)) := ⟨_, rfl⟩
  have hbx : Below w1.heap.size w1 w2 := by rw [hw2]; exact (Below.refl _ _).alloc (Nat.le_refl _) _
  have hB2 : Below w.heap.size w w2 := hB1.trans (hbx.mono hB1.size)
  have hrow : w2.heap[w.heap.size + 1]? = some (.cells #[.int .i64 S.d, .int .i64 S.r, .int .i64 S.s, .pointer (some ⟨S.p, 0, none⟩), .slice none 0 0, .int .i64 0] 114 (0, 0)) := by rw [hw2, ← z1]; exact heap_alloc_new w1 _
  have HX2 := Lib.hid (hx.next hbx)
  have HB2 := Lib.hid hB2
  have HROW := Lib.hid hrow
  have HW := Lib.hid (show w2 = (w.alloc (.cells #[.int .i64 S.d, .int .i64 S.r, .int .i64 S.s] 23 (0, 0))).alloc (.cells #[.int .i64 S.d, .int .i64 S.r, .int .i64 S.s, .pointer (some ⟨S.p, 0, none⟩), .slice none 0 0, .int .i64 0] 114 (0, 0)) by rw [hw2, hw1])
  have HS := Lib.hid hS
  have H0 := Lib.hid h0
  clear hx hw1 hB1 z1 hw2 hbx hB2 hrow hS h0
  have y1 := HX2.out.c0
  have y2 := HX2.out.c1
  have y3 := HX2.out.c2
  by_cases hrt : Rt S.d S.r S.s
  · have HG := Lib.hid (geoO_iff.2 hrt)
    have HRT := Lib.hid hrt
    have HRD := Lib.hid (rd_new hrt HS.out H0.out HB2.out (by omega) HROW.out)
    rw [HG.out, if_pos rfl]
    clear hrt
    go_enter Try.func26, Try.ntmps26
    go_upto_region 2 with fail
    rw [← HW.out]
    go_wp2_with (fail)
    refine (rright_yes S.d S.r S.s w2 HRT.out).mono ?_
    rintro e w3 ⟨rfl, hb⟩
    have HRD3 := Lib.hid (HRD.out.next hb)
    have HB3 := Lib.hid (HB2.out.trans (hb.mono HB2.out.size))
    have HX3 := Lib.hid (HX2.out.next hb)
    clear hb y1 y2 y3 HX2 HB2 HRD
    go_wp2_with (fail)
    refine (rblock_any S (w.heap.size + 1) _ 0 (.ok []) root w3 HRD3.out (by omega)).mono ?_
    rintro e w4 ⟨a, n, c, v4, rfl, hp, hn, hL⟩
    have HRD4 := Lib.hid hL.2.1
    have HBW := Lib.hid (show ∀ j, Tv (w.heap.size + 1) (Value.slice none 0 0) j → w.heap.size ≤ j from fun j h' => by
      rcases h' with e | e
      · omega
      · cases e)
    have HB4 := Lib.hid (HB3.out.trans (hL.1.below HB3.out.size HBW.out))
    have HX4 := Lib.hid (show Bx w4 w.heap.size S.d S.r S.s by
      have hn : ¬ Tv (w.heap.size + 1) (Value.slice none 0 0) w.heap.size := fun h' => by
        rcases h' with e | e
        · omega
        · cases e
      exact ⟨Nat.lt_of_lt_of_le HX3.out.lt hL.1.size, (hL.1.cell (a := ⟨w.heap.size, 0, none⟩) HX3.out.lt hn).trans HX3.out.c0, (hL.1.cell (a := ⟨w.heap.size, 1, none⟩) HX3.out.lt hn).trans HX3.out.c1, (hL.1.cell (a := ⟨w.heap.size, 2, none⟩) HX3.out.lt hn).trans HX3.out.c2⟩)
    have HV4 := Lib.hid (show ∀ j, v4.ownBlock = some j → w3.heap.size ≤ j from fun j e => by
      rcases hL.2.2 j e with e2 | e2
      · cases e2
      · exact e2)
    have HP4 := Lib.hid hp
    have HN4 := Lib.hid hn
    have HL3 := Lib.hid (show w.heap.size < w3.heap.size from HX3.out.lt)
    clear hp hn hL HRD3 HX3 HW HROW
    obtain ⟨b, hbb⟩ : ∃ b, b = dat S.N S.blk (.ok []) root := ⟨_, rfl⟩
    rw [← hbb] at HP4
    have HBB := Lib.hid hbb
    clear hbb
    cases hs : stp S.N S.blk (.ok []) root with
    | error er =>
      have HR := Lib.hid (show ldR S.N S.blk root = .error er by rw [run_ld, hs])
      obtain ⟨c5, lt5, he⟩ := (show RdS w4 S (w.heap.size + 1) v4 (0 + 1) (.error er) by rw [← hs]; exact HRD4.out).cErr
      have d1 : (er != 0) = true := by simp [he]
      have HE := Lib.hid he
      clear hs he
      go_upto_region 6 with fail
      refine wp_region_held_drew (S := (fun w' => w'.cell? ⟨w.heap.size + 1, 5, none⟩ = some (.int .i64 er))) (by kernel_rfl) ?_ (fun hHeld => ?_)
      · exact c5
      refine wpAnyH_take (i := 0) (v := ?_) rfl (by kernel_rfl) (by kernel_rfl) (by kernel_rfl) (fun _ _ _ h => h) (Or.inl ⟨by rfl, fun w hSw => ?_⟩) (by assumption) ?_
      rotate_left
      · (try dsimp only at hSw); go_simp; try with_reducible rfl
      simp only [Act.put, List.setIfInBounds_toArray, List.set_cons_zero, List.set_cons_succ, List.getElem_toArray, List.getElem_cons_zero]
      refine wpAnyH_take (i := 1) (v := ?_) rfl (by kernel_rfl) (by kernel_rfl) (by kernel_rfl) (fun _ _ _ h => h) (Or.inl ⟨by rfl, fun w hSw => ?_⟩) (by assumption) ?_
      rotate_left
      · (try dsimp only at hSw); go_simp; try with_reducible rfl
      simp only [Act.put, List.setIfInBounds_toArray, List.set_cons_zero, List.set_cons_succ, List.getElem_toArray, List.getElem_cons_succ, List.getElem_cons_zero]
      refine wpAnyH_take (i := 2) (v := ?_) rfl (by kernel_rfl) (by kernel_rfl) (by kernel_rfl) (fun _ _ _ h => h) (Or.inl ⟨by rfl, fun w hSw => ?_⟩) (by assumption) ?_
      rotate_left
      · (try dsimp only at hSw); go_simp; try with_reducible rfl
      simp only [Act.put, List.setIfInBounds_toArray, List.set_cons_zero, List.set_cons_succ, List.getElem_toArray, List.getElem_cons_succ, List.getElem_cons_zero]
      refine wpAnyH_take (i := 3) (v := ?_) rfl (by kernel_rfl) (by kernel_rfl) (by kernel_rfl) (fun _ _ _ h => h) (Or.inl ⟨by rfl, fun w hSw => ?_⟩) (by assumption) ?_
      rotate_left
      · (try dsimp only at hSw); go_simp; try with_reducible rfl
      simp only [Act.put, List.setIfInBounds_toArray, List.set_cons_zero, List.set_cons_succ, List.getElem_toArray, List.getElem_cons_succ, List.getElem_cons_zero]
      refine wpAnyH_take (i := 4) (v := ?_) rfl (by kernel_rfl) (by kernel_rfl) (by kernel_rfl) (fun _ _ _ h => h) (Or.inl ⟨by rfl, fun w hSw => ?_⟩) (by assumption) ?_
      rotate_left
      · (try dsimp only at hSw); go_simp; try with_reducible rfl
      simp only [Act.put, List.setIfInBounds_toArray, List.set_cons_zero, List.set_cons_succ, List.getElem_toArray, List.getElem_cons_succ, List.getElem_cons_zero]
      refine wpAnyH_take (i := 5) (v := ?_) rfl (by kernel_rfl) (by kernel_rfl) (by kernel_rfl) (fun _ _ _ h => h) (Or.inl ⟨by rfl, fun w hSw => ?_⟩) (by assumption) ?_
      rotate_left
      · (try dsimp only at hSw); go_simp; try with_reducible rfl
      simp only [Act.put, List.setIfInBounds_toArray, List.set_cons_zero, List.set_cons_succ, List.getElem_toArray, List.getElem_cons_succ, List.getElem_cons_zero]
      refine wpAnyH_take (i := 6) (v := ?_) rfl (by kernel_rfl) (by kernel_rfl) (by kernel_rfl) (fun _ _ _ h => h) (Or.inl ⟨by rfl, fun w hSw => ?_⟩) (by assumption) ?_
      rotate_left
      · (try dsimp only at hSw); go_simp; try with_reducible rfl
      simp only [Act.put, List.setIfInBounds_toArray, List.set_cons_zero, List.set_cons_succ, List.getElem_toArray, List.getElem_cons_succ, List.getElem_cons_zero]
      refine wpAnyH_done (by kernel_rfl) ?_ _
      clear c5
      go_wp2_with (fail)
      go_ret3
      rw [HR.out]
      exact ⟨below_drewN HB4.out 1, rfl⟩
    | ok l1 =>
      obtain ⟨c5, lt5, fr5⟩ := (show RdS w4 S (w.heap.size + 1) v4 (0 + 1) (.ok l1) by rw [← hs]; exact HRD4.out).cOk
      have HS1 := Lib.hid hs
      have hl56 : b.length = 56 := by rw [HBB.out]; exact dat_len hs
      have hn56 : n = 56 := by rw [← HP4.out.len]; exact hl56
      subst hn56
      have HL56 := Lib.hid hl56
      have g0 := refGet_fun a 56 c 0 2 b w4 HP4.out.bys (by omega)
      have g1 := refGet_fun a 56 c 2 2 b w4 HP4.out.bys (by omega)
      have g2 := refGet_fun a 56 c 4 2 b w4 HP4.out.bys (by omega)
      obtain ⟨x0, hx0⟩ : ∃ x, x = getV 56 b 0 2 := ⟨_, rfl⟩
      obtain ⟨x1, hx1⟩ : ∃ x, x = getV 56 b 2 2 := ⟨_, rfl⟩
      obtain ⟨x2, hx2⟩ : ∃ x, x = getV 56 b 4 2 := ⟨_, rfl⟩
      rw [← hx0] at g0
      rw [← hx1] at g1
      rw [← hx2] at g2
      have HXX := Lib.hid (And.intro hx0 (And.intro hx1 hx2))
      clear hs hl56 hx0 hx1 hx2
      go_wp2_with (fail)
      refine g0.mono ?_
      rintro e w5 ⟨rfl, rfl⟩
      go_wp2_with (fail)
      refine g1.mono ?_
      rintro e w5 ⟨rfl, rfl⟩
      go_wp2_with (fail)
      refine g2.mono ?_
      rintro e w5 ⟨rfl, rfl⟩
      clear g0 g1 g2 c5
      have HGO := Lib.hid (show rtO b = (decide (x0 = 21074) && noughtB (b.drop 6)) by rw [rtO, HL56.out, HXX.out.1])
      obtain ⟨b0, off, rfl, _, _⟩ := HP4.out.at (by omega)
      obtain ⟨y, hy⟩ : ∃ y, y = noughtB (b.drop 6) := ⟨_, rfl⟩
      have HNN := Lib.hid (refNought_any (some ⟨b0, off + 6, none⟩) 50 (c - 6) (b.drop 6) w4 (HP4.out.rest 6).bys (by omega))
      have hc6 := HP4.out.cap
      rw [← hy] at HNN HGO
      clear hy
      by_cases ex : x0 = 21074
      · have d1 : (x0 != 21074) = false := by simp [ex]
        have HG2 := Lib.hid (show rtO b = y by rw [HGO.out, decide_eq_true ex, Bool.true_and])
        clear ex
        cases y with
        | false =>
          go_wp2_with (fail)
          refine HNN.out.mono ?_
          rintro e w5 ⟨rfl, rfl⟩
          go_wp2_with (fail)
          go_ret3
          refine ⟨HB4.out, ?_⟩
          rw [run_ld, HS1.out]
          simp only
          rw [← HBB.out, HG2.out]
          rfl
        | true =>
          go_wp2_with (fail)
          refine HNN.out.mono ?_
          rintro e w5 ⟨rfl, rfl⟩
          have hRD := HRD4.out
          rw [HS1.out] at hRD
          have HRD5 := Lib.hid hRD
          clear hRD HNN hc6
          go_wp2_with (fail)
          refine (rpointed_any S (w.heap.size + 1) v4 1 (.ok l1) x1 w4 HRD5.out (by omega)).mono ?_
          rintro e w6 ⟨b1, c1, v6, rfl, hO6, h61, h62, h63, hL6⟩
          have HL6 := Lib.hid hL6
          have HO6 := Lib.hid hO6
          have HB6 := Lib.hid (And.intro h61 (And.intro h62 h63))
          clear hL6 hO6 h61 h62 h63
          go_wp2_with (fail)
          refine (rpointed_any S (w.heap.size + 1) v6 2 (stp S.N S.blk (.ok l1) x1) x2 w6 HL6.out.2.1 (by omega)).mono ?_
          rintro e w7 ⟨b2, c2, v7, rfl, hO7, h71, h72, h73, hL7⟩
          have HL7 := Lib.hid hL7
          have HO67 := Lib.hid (HO6.out.turn hL7.1 (fun j e => by cases e; exact HB6.out.2.2))
          have HI7 := Lib.hid (show Ins w7 (some ⟨b2, 0, none⟩) 28 _ from by
            obtain ⟨b', c', e', hi, _, _⟩ := hO7.at28
            cases e'
            exact hi)
          have HB67 := Lib.hid (hL7.vnew HB6.out.2.1 HB6.out.2.2)
          have HX7 := Lib.hid (show Bx w7 w.heap.size S.d S.r S.s by
            have n4 : ¬ Tv (w.heap.size + 1) v4 w.heap.size := fun h' => by
              rcases h' with e | e
              · omega
              · have := HV4.out _ e; have := HL3.out; omega
            have n6 := HL6.out.vnew HX4.out.lt n4
            have c6 := fun i => HL6.out.1.cell (a := ⟨w.heap.size, i, none⟩) HX4.out.lt n4
            have l6 := Nat.lt_of_lt_of_le HX4.out.lt HL6.out.1.size
            have c7 := fun i => hL7.1.cell (a := ⟨w.heap.size, i, none⟩) l6 n6
            exact ⟨Nat.lt_of_lt_of_le l6 hL7.1.size, (c7 0).trans ((c6 0).trans HX4.out.c0), (c7 1).trans ((c6 1).trans HX4.out.c1), (c7 2).trans ((c6 2).trans HX4.out.c2)⟩)
          have HN7 := Lib.hid (show ¬ Tv (w.heap.size + 1) v7 w.heap.size by
            have n4 : ¬ Tv (w.heap.size + 1) v4 w.heap.size := fun h' => by
              rcases h' with e | e
              · omega
              · have := HV4.out _ e; have := HL3.out; omega
            exact hL7.vnew (Nat.lt_of_lt_of_le HX4.out.lt HL6.out.1.size) (HL6.out.vnew HX4.out.lt n4))
          have hlow4 : ∀ j, Tv (w.heap.size + 1) v4 j → w.heap.size ≤ j := fun j h' => by
            rcases h' with e | e
            · omega
            · have := HV4.out _ e; have := HB3.out.size; omega
          have hlow6 := HL6.out.lowN hlow4 HB4.out.size
          have HB6B := Lib.hid (HB4.out.trans (HL6.out.1.below HB4.out.size hlow4))
          have HLOW := Lib.hid (hL7.lowN hlow6 HB6B.out.size)
          have HB7 := Lib.hid (HB6B.out.trans (hL7.1.below HB6B.out.size hlow6))
          have hsz : S.w0.heap.size = w.heap.size := by rw [H0.out]
          have HSZ := Lib.hid hsz
          clear hL7 hO7 h71 h72 h73 hlow4 hlow6 hsz
          obtain ⟨st2, hst2⟩ : ∃ s, s = stp S.N S.blk (.ok l1) x1 := ⟨_, rfl⟩
          obtain ⟨st3, hst3⟩ : ∃ s, s = stp S.N S.blk st2 x2 := ⟨_, rfl⟩
          obtain ⟨CH, hCH⟩ : ∃ s, s = pS S.N S.blk (.ok l1) x1 ++ pS S.N S.blk st2 x2 := ⟨_, rfl⟩
          rw [← hst2] at HL7 HI7
          rw [← hst3] at HL7
          go_upto_region 14 with (at_builtin; go_must (refine wpList_apq rfl (.tmp 68) (.tmp 71) rfl w4.heap.size _ 28 _ rfl HO67.out (some ⟨b2, 0, none⟩) 28 c2 _ rfl HI7.out (fun h => by cases h) (by omega) (by have := HL6.out.1.size; have := HL7.out.1.size; omega) ?_); intro u8 w8 hO8 hG8 hu8; have HO8 := Lib.hid hO8; have HG8 := Lib.hid hG8; have HU8 := Lib.hid hu8; clear hO8 hG8 hu8)
          have hO8 : OwnI w8 w4.heap.size u8 56 (pS S.N S.blk (.ok l1) x1 ++ pS S.N S.blk st2 x2) := HO8.out
          rw [← hCH] at hO8
          obtain ⟨bc, cc, rfl, hi8, h81, h82⟩ := hO8.atN (by omega)
          have ht8 : Turn (· = b1) w7 w8 := Turn.of_grown HG8.out (fun b e => by cases e; rfl)
          have hnb1 : w.heap.size ≠ b1 := fun e => by have := HB6.out.1; have := HX4.out.lt; omega
          have hrd8 := HL7.out.2.1.turn ht8 (fun j e => by
            rw [e]
            exact ⟨HB67.out, by rw [HSZ.out]; have := HB6.out.1; have := HB4.out.size; omega⟩)
          have hbc : ¬ Tv (w.heap.size + 1) v7 bc := by
            rcases HU8.out with e | e
            · cases e; exact HB67.out
            · cases e; exact HL7.out.2.1.old (Nat.le_refl _)
          have hbx8 : Bx w8 w.heap.size S.d S.r S.s := ⟨Nat.lt_of_lt_of_le HX7.out.lt ht8.size, (ht8.cell (a := ⟨w.heap.size, 0, none⟩) HX7.out.lt hnb1).trans HX7.out.c0, (ht8.cell (a := ⟨w.heap.size, 1, none⟩) HX7.out.lt hnb1).trans HX7.out.c1, (ht8.cell (a := ⟨w.heap.size, 2, none⟩) HX7.out.lt hnb1).trans HX7.out.c2⟩
          have HW9 := Lib.hid (LdW.start hrd8 hi8 h82 hbc hbx8 HN7.out (HB7.out.trans (ht8.below HB7.out.size (fun j e => by rw [e]; have := HB6.out.1; have := HB4.out.size; omega))) HLOW.out HSZ.out)
          have HL3F := Lib.hid (show CH.length = 56 from by rw [hCH, List.length_append, pS_len, pS_len])
          obtain ⟨RUN, hRUN⟩ : ∃ R, R = ldC S.N S.blk CH 0 st3 [] false := ⟨_, rfl⟩
          have HFIN := Lib.hid (ldR_of (root := root) HS1.out HBB.out HG2.out HXX.out.2.1 HXX.out.2.2 hst2 hst3 hCH hRUN)
          have HRUN := Lib.hid hRUN
          clear hO8 hi8 h81 h82 ht8 hnb1 hrd8 hbc hbx8 hst2 hst3 hCH hRUN HO8 HG8 HU8 HX7 HN7 HB7 HLOW HB6B HB67 HI7 HO67 HL7 HB6 HL6 HO6
          clear HXX HS1 HG2 HGO HBB HL56 HP4 HN4 HRD5 HRD4 HX4 HB4 HV4 HBW HB3 HL3
          go_wp2_with (fail)
          go_loopw [18, 19, 20, 21, 22] (fun s18 s19 s20 _p _q wr => ∃ (i n : Nat) (v' u' : Value) (f : Nat → Nw) (hh : Bool) (st : St), i ≤ 56 ∧ n ≤ i ∧ s20 = .int .i64 i ∧ u' = s18 ∧ s19 = .bool hh ∧ ldC S.N S.blk CH i st (lnL f n) hh = RUN ∧ LdW w wr S (w.heap.size + 1) v' (3 + 31 * i) st w.heap.size bc CH u' n f) (fun _ _ s20 _ _ _ => 56 - (RowKit.intOf s20).toNat)
          case atStart => exact ⟨0, 0, v7, _, _, false, st3, by omega, by omega, rfl, rfl, rfl, HRUN.out.symm, HW9.out⟩
          case round =>
            obtain ⟨i, n, v', u, f, hh, st, hi, hni, rfl, rfl, rfl, hrun, hW⟩ := hrel
            have HRN := Lib.hid hrun
            have HWr := Lib.hid hW
            have HNI := Lib.hid hni
            clear hrun hW hni HW9 HRUN
            cases st with
            | error er =>
              obtain ⟨c5, lt5, he⟩ := HWr.out.rd.cErr
              have d1 : (er != 0) = true := by simp [he]
              have d2 : (er == 0) = false := by simp [he]
              have HE := Lib.hid (show RUN = .error er from HRN.out.symm)
              clear he
              rcases Nat.lt_or_ge i 56 with hlt | hlt
              · have i1 : (i : Int) < 56 := by omega
                go_upto_region 24 with fail
                refine wp_region_held_drew (S := (fun w' => w'.cell? ⟨w.heap.size + 1, 5, none⟩ = some (.int .i64 er))) (by kernel_rfl) ?_ (fun hHeld => ?_)
                · exact c5
                refine wpAnyH_take (i := 0) (v := ?_) rfl (by kernel_rfl) (by kernel_rfl) (by kernel_rfl) (fun _ _ _ h => h) (Or.inl ⟨by rfl, fun w hSw => ?_⟩) (by assumption) ?_
                rotate_left
                · (try dsimp only at hSw); go_simp; try with_reducible rfl
                simp only [Act.put, List.setIfInBounds_toArray, List.set_cons_zero, List.set_cons_succ, List.getElem_toArray, List.getElem_cons_zero]
                refine wpAnyH_take (i := 1) (v := ?_) rfl (by kernel_rfl) (by kernel_rfl) (by kernel_rfl) (fun _ _ _ h => h) (Or.inl ⟨by rfl, fun w hSw => ?_⟩) (by assumption) ?_
                rotate_left
                · (try dsimp only at hSw); go_simp; try with_reducible rfl
                simp only [Act.put, List.setIfInBounds_toArray, List.set_cons_zero, List.set_cons_succ, List.getElem_toArray, List.getElem_cons_succ, List.getElem_cons_zero]
                refine wpAnyH_take (i := 2) (v := ?_) rfl (by kernel_rfl) (by kernel_rfl) (by kernel_rfl) (fun _ _ _ h => h) (Or.inl ⟨by rfl, fun w hSw => ?_⟩) (by assumption) ?_
                rotate_left
                · (try dsimp only at hSw); go_simp; try with_reducible rfl
                simp only [Act.put, List.setIfInBounds_toArray, List.set_cons_zero, List.set_cons_succ, List.getElem_toArray, List.getElem_cons_succ, List.getElem_cons_zero]
                refine wpAnyH_take (i := 3) (v := ?_) rfl (by kernel_rfl) (by kernel_rfl) (by kernel_rfl) (fun _ _ _ h => h) (Or.inl ⟨by rfl, fun w hSw => ?_⟩) (by assumption) ?_
                rotate_left
                · (try dsimp only at hSw); go_simp; try with_reducible rfl
                simp only [Act.put, List.setIfInBounds_toArray, List.set_cons_zero, List.set_cons_succ, List.getElem_toArray, List.getElem_cons_succ, List.getElem_cons_zero]
                refine wpAnyH_take (i := 4) (v := ?_) rfl (by kernel_rfl) (by kernel_rfl) (by kernel_rfl) (fun _ _ _ h => h) (Or.inl ⟨by rfl, fun w hSw => ?_⟩) (by assumption) ?_
                rotate_left
                · (try dsimp only at hSw); go_simp; try with_reducible rfl
                simp only [Act.put, List.setIfInBounds_toArray, List.set_cons_zero, List.set_cons_succ, List.getElem_toArray, List.getElem_cons_succ, List.getElem_cons_zero]
                refine wpAnyH_take (i := 5) (v := ?_) rfl (by kernel_rfl) (by kernel_rfl) (by kernel_rfl) (fun _ _ _ h => h) (Or.inl ⟨by rfl, fun w hSw => ?_⟩) (by assumption) ?_
                rotate_left
                · (try dsimp only at hSw); go_simp; try with_reducible rfl
                simp only [Act.put, List.setIfInBounds_toArray, List.set_cons_zero, List.set_cons_succ, List.getElem_toArray, List.getElem_cons_succ, List.getElem_cons_zero]
                refine wpAnyH_take (i := 6) (v := ?_) rfl (by kernel_rfl) (by kernel_rfl) (by kernel_rfl) (fun _ _ _ h => h) (Or.inl ⟨by rfl, fun w hSw => ?_⟩) (by assumption) ?_
                rotate_left
                · (try dsimp only at hSw); go_simp; try with_reducible rfl
                simp only [Act.put, List.setIfInBounds_toArray, List.set_cons_zero, List.set_cons_succ, List.getElem_toArray, List.getElem_cons_succ, List.getElem_cons_zero]
                refine wpAnyH_done (by kernel_rfl) ?_ _
                clear c5
                go_wp2_with (fail)
                go_ret3
                rw [HFIN.out, HE.out]
                exact ⟨below_drewN HWr.out.bel 1, rfl⟩
              · have i1 : ¬ (i : Int) < 56 := by omega
                go_upto_region 24 with fail
                refine wp_region_held_drew (S := (fun w' => w'.cell? ⟨w.heap.size + 1, 5, none⟩ = some (.int .i64 er))) (by kernel_rfl) ?_ (fun hHeld => ?_)
                · exact c5
                refine wpAnyH_take (i := 0) (v := ?_) rfl (by kernel_rfl) (by kernel_rfl) (by kernel_rfl) (fun _ _ _ h => h) (Or.inl ⟨by rfl, fun w hSw => ?_⟩) (by assumption) ?_
                rotate_left
                · (try dsimp only at hSw); go_simp; try with_reducible rfl
                simp only [Act.put, List.setIfInBounds_toArray, List.set_cons_zero, List.set_cons_succ, List.getElem_toArray, List.getElem_cons_zero]
                refine wpAnyH_take (i := 1) (v := ?_) rfl (by kernel_rfl) (by kernel_rfl) (by kernel_rfl) (fun _ _ _ h => h) (Or.inl ⟨by rfl, fun w hSw => ?_⟩) (by assumption) ?_
                rotate_left
                · (try dsimp only at hSw); go_simp; try with_reducible rfl
                simp only [Act.put, List.setIfInBounds_toArray, List.set_cons_zero, List.set_cons_succ, List.getElem_toArray, List.getElem_cons_succ, List.getElem_cons_zero]
                refine wpAnyH_take (i := 2) (v := ?_) rfl (by kernel_rfl) (by kernel_rfl) (by kernel_rfl) (fun _ _ _ h => h) (Or.inl ⟨by rfl, fun w hSw => ?_⟩) (by assumption) ?_
                rotate_left
                · (try dsimp only at hSw); go_simp; try with_reducible rfl
                simp only [Act.put, List.setIfInBounds_toArray, List.set_cons_zero, List.set_cons_succ, List.getElem_toArray, List.getElem_cons_succ, List.getElem_cons_zero]
                refine wpAnyH_take (i := 3) (v := ?_) rfl (by kernel_rfl) (by kernel_rfl) (by kernel_rfl) (fun _ _ _ h => h) (Or.inl ⟨by rfl, fun w hSw => ?_⟩) (by assumption) ?_
                rotate_left
                · (try dsimp only at hSw); go_simp; try with_reducible rfl
                simp only [Act.put, List.setIfInBounds_toArray, List.set_cons_zero, List.set_cons_succ, List.getElem_toArray, List.getElem_cons_succ, List.getElem_cons_zero]
                refine wpAnyH_take (i := 4) (v := ?_) rfl (by kernel_rfl) (by kernel_rfl) (by kernel_rfl) (fun _ _ _ h => h) (Or.inl ⟨by rfl, fun w hSw => ?_⟩) (by assumption) ?_
                rotate_left
                · (try dsimp only at hSw); go_simp; try with_reducible rfl
                simp only [Act.put, List.setIfInBounds_toArray, List.set_cons_zero, List.set_cons_succ, List.getElem_toArray, List.getElem_cons_succ, List.getElem_cons_zero]
                refine wpAnyH_take (i := 5) (v := ?_) rfl (by kernel_rfl) (by kernel_rfl) (by kernel_rfl) (fun _ _ _ h => h) (Or.inl ⟨by rfl, fun w hSw => ?_⟩) (by assumption) ?_
                rotate_left
                · (try dsimp only at hSw); go_simp; try with_reducible rfl
                simp only [Act.put, List.setIfInBounds_toArray, List.set_cons_zero, List.set_cons_succ, List.getElem_toArray, List.getElem_cons_succ, List.getElem_cons_zero]
                refine wpAnyH_take (i := 6) (v := ?_) rfl (by kernel_rfl) (by kernel_rfl) (by kernel_rfl) (fun _ _ _ h => h) (Or.inl ⟨by rfl, fun w hSw => ?_⟩) (by assumption) ?_
                rotate_left
                · (try dsimp only at hSw); go_simp; try with_reducible rfl
                simp only [Act.put, List.setIfInBounds_toArray, List.set_cons_zero, List.set_cons_succ, List.getElem_toArray, List.getElem_cons_succ, List.getElem_cons_zero]
                refine wpAnyH_done (by kernel_rfl) ?_ _
                clear c5
                go_wp2_with (fail)
                go_ret3
                rw [HFIN.out, HE.out]
                exact ⟨below_drewN HWr.out.bel 1, rfl⟩
            | ok l =>
              obtain ⟨c5, lt5, fr5⟩ := HWr.out.rd.cOk
              by_cases hlt : i < 56
              · have i1 : (i : Int) < 56 := by omega
                have w1 : IntKind.i64.wrap ((i : Int) + 1) = (i : Int) + 1 := IntWalk.i64_in _ (by omega)
                obtain ⟨z, hz⟩ : ∃ z, z = num CH i := ⟨_, rfl⟩
                have cz : wr.cell? ⟨bc, i, none⟩ = some (.int .i64 z) := by
                  obtain ⟨b', off', e, _, hc⟩ := HWr.out.ch.at (by omega)
                  cases e
                  have := hc i hlt
                  rw [Nat.zero_add] at this
                  rw [this, ← hz]
                have ltc := HWr.out.bcl
                have HZ := Lib.hid hz
                clear hz
                by_cases hz0 : z = 0
                · have d1 : (z == 0) = true := by simp [hz0]
                  have HZ0 := Lib.hid (show num CH i = 0 by rw [← HZ.out]; exact hz0)
                  clear hz0
                  go_wp2_with (fail)
                  go_roundw
                  case rel => exact ⟨i + 1, n, v', u, f, hh, .ok l, by omega, by have := HNI.out; omega, by go_num, rfl, rfl, (ldC_skip hlt HZ0.out _ _ _).trans HRN.out, HWr.out.more (by omega)⟩
                  case measure => simp [RowKit.intOf]; omega
                · have d1 : (z == 0) = false := by simp [hz0]
                  have HZ0 := Lib.hid (show num CH i ≠ 0 by rw [← HZ.out]; exact hz0)
                  clear hz0
                  go_wp2_with (fail)
                  refine (rnode_any S (w.heap.size + 1) v' (3 + 31 * i) (.ok l) ((i : Int) + 1) z wr HWr.out.rd (by omega)).mono ?_
                  rintro e w2' ⟨x, h, v2, rfl, hL, hok, hxa, heq⟩
                  have HLd := Lib.hid (HWr.out.call hL)
                  have HOK := Lib.hid hok
                  have HXA := Lib.hid hxa
                  have HEQ := Lib.hid heq
                  have HUL := Lib.hid (World.ownsRow.lt HWr.out.ls.row)
                  have HBA := Lib.hid (heap_alloc_new w2' (.cells (nwC noN) 83 (0, 0)))
                  clear hL hok hxa heq c5 fr5 lt5 cz ltc w1
                  go_upto_region 21 with (refine wpList_stN (by rfl) (.tmp 21) (.tmp 99) rfl w2'.heap.size rfl x noN rfl HBA.out ?_; intro we hBe hTe; have HBE := Lib.hid hBe; have HTE := Lib.hid hTe; clear hBe hTe)
                  have cN := fun i => cell_of_row we w2'.heap.size i (nwC x) _ (0, 0) HBE.out
                  have n0 := cN 0
                  have n1 := cN 1
                  have n2 := cN 2
                  have n3 := cN 3
                  have n4 := cN 4
                  simp only [nwC, List.getElem?_toArray, List.getElem?_cons_zero, List.getElem?_cons_succ] at n0 n1 n2 n3 n4
                  clear cN
                  have HBW := Lib.hid (show Below w2'.heap.size w2' we from ((Below.refl _ _).alloc (Nat.le_refl _) _).trans (HTE.out.below (by simp) (fun j e => by rw [e]; exact Nat.le_refl _)))
                  obtain ⟨wb, hwb⟩ : ∃ wb, wb = we.alloc (.cells (nwC x) 83 (0, 0)) := ⟨_, rfl⟩
                  have hbb : Below w2'.heap.size w2' wb := by rw [hwb]; exact HBW.out.alloc HBW.out.size _
                  have HLb := Lib.hid (HLd.out.next hbb)
                  have HOb := Lib.hid (HOK.out.next hbb)
                  have HGb := Lib.hid (show wb.heap[we.heap.size]? = some (.cells (nwC x) 83 (0, 0)) by rw [hwb]; exact heap_alloc_new we _)
                  have HZB := Lib.hid (show ∀ y, x.a = some y → u.ownBlock ≠ some y.block ∧ y.block < wb.heap.size from fun y e => ⟨fun e2 => by have := (HUL.out _ e2).2; have := (HXA.out y e).1; omega, Nat.lt_of_lt_of_le (HXA.out y e).2.1 hbb.size⟩)
                  have HWB := Lib.hid (show wb = we.alloc (.cells #[.int .i64 x.ino, .int .i64 x.kind, .int .i64 x.links, .int .i64 x.size, .slice x.a x.n x.c] 83 (0, 0)) from hwb)
                  have n56 : n + 1 ≤ 1000000 := by have := HNI.out; omega
                  clear hwb hbb
                  go_upto_region 22 with (at_builtin; go_must (rw [← HWB.out]; refine wpList_apN rfl (.tmp 101) (.tmp 103) rfl w.heap.size u n f rfl HLb.out.ls we.heap.size rfl x HOb.out HZB.out HGb.out n56 HLb.out.bel.size ?_; intro u5 w5 hO5 hG5 hu5; have HA5 := Lib.hid (HLb.out.app hO5 hG5 hu5 (fun y e => (HXA.out y e).2.2)); clear hO5 hG5 hu5))
                  clear n0 n1 n2 n3 n4
                  have HRN2 := Lib.hid (show ldC S.N S.blk CH (i + 1) (ndF S.N S.blk (.ok l) ((i : Int) + 1) z).1 (lnL (snN f n x) (n + 1)) (hh || h) = RUN by
                    rw [← HRN.out, ldC_node hlt HZ0.out, ← HZ.out, lnL_snoc]
                    cases hst : (ndF S.N S.blk (.ok l) ((i : Int) + 1) z).1 with
                    | error e => rfl
                    | ok l' =>
                      obtain ⟨e1, e2⟩ := HEQ.out l' hst
                      rw [e1, e2])
                  cases hh with
                  | true =>
                    go_wp2_with (fail)
                    go_roundw
                    case rel => exact ⟨i + 1, n + 1, v2, u5, _, true, _, by omega, by have := HNI.out; omega, by go_num, rfl, rfl, HRN2.out, HA5.out.more (by omega)⟩
                    case measure => simp [RowKit.intOf]; omega
                  | false =>
                    go_wp2_with (fail)
                    go_roundw
                    case rel => exact ⟨i + 1, n + 1, v2, u5, _, h, _, by omega, by have := HNI.out; omega, by go_num, rfl, rfl, HRN2.out, HA5.out.more (by omega)⟩
                    case measure => simp [RowKit.intOf]; omega
              · have i1 : ¬ (i : Int) < 56 := by omega
                have hi56 : i = 56 := by omega
                have HI := Lib.hid hi56
                have HR := Lib.hid (show RUN = .ok ((lnL f n, hh), l) by rw [← HRN.out, hi56]; rfl)
                clear hi56
                cases hh with
                | true =>
                  go_wp2_with (fail)
                  go_ret3
                  rw [HFIN.out, HR.out]
                  exact ⟨HWr.out.bel, rfl⟩
                | false =>
                  obtain ⟨al, cl, rfl, hnw, hnc, hlo⟩ := HWr.out.ls.nws
                  have HNW := Lib.hid hnw
                  have HEA := Lib.hid HWr.out.ls.each
                  have y1 := HWr.out.bx.c0
                  have y2 := HWr.out.bx.c1
                  have y3 := HWr.out.bx.c2
                  clear hnw hnc hlo
                  go_wp2_with (fail)
                  refine (rmr_any S.d S.r S.s al n cl f wr HNW.out).mono ?_
                  rintro e wq ⟨rfl, hb⟩
                  clear y1 y2 y3
                  have hM : mrO S.d S.r S.s (lnL f n) = lrO S.N (lnL f n) := by rw [mrO, HG.out, Bool.true_and]
                  rw [hM]
                  obtain ⟨yy, hyy⟩ : ∃ y, y = lrO S.N (lnL f n) := ⟨_, rfl⟩
                  rw [← hyy]
                  have HYY := Lib.hid hyy
                  have HW2 := Lib.hid (HWr.out.next hb)
                  have HB := Lib.hid hb
                  clear hyy hM hb
                  cases yy with
                  | false =>
                    go_wp2_with (fail)
                    go_ret3
                    have e : endL S.N (.ok ((lnL f n, false), l)) = .error 15 := by
                      unfold endL
                      simp only [← HYY.out]
                      rfl
                    rw [HFIN.out, HR.out, e]
                    exact ⟨HW2.out.bel, rfl⟩
                  | true =>
                    obtain ⟨l', bad', hR, hlm, rfl, rfl⟩ := HW2.out.rd
                    have c4 := hR.c4
                    have lt4 := hR.lt
                    obtain ⟨a2, c2, e2, hi2, _, _, _⟩ := hR.own.ins
                    subst e2
                    have HI2 := Lib.hid hi2
                    clear hR hi2
                    go_upto_region 27 with fail
                    refine wp_region_held_drew (S := (fun w' => w'.cell? ⟨w.heap.size + 1, 4, none⟩ = some (.slice a2 l'.length c2))) (by kernel_rfl) ?_ (fun hHeld => ?_)
                    · exact c4
                    refine wpAnyH_take (i := 0) (v := ?_) rfl (by kernel_rfl) (by kernel_rfl) (by kernel_rfl) (fun _ _ _ h => h) (Or.inl ⟨by rfl, fun w hSw => ?_⟩) (by assumption) ?_
                    rotate_left
                    · (try dsimp only at hSw); go_simp; try with_reducible rfl
                    simp only [Act.put, List.setIfInBounds_toArray, List.set_cons_zero, List.set_cons_succ, List.getElem_toArray, List.getElem_cons_zero]
                    refine wpAnyH_take (i := 1) (v := ?_) rfl (by kernel_rfl) (by kernel_rfl) (by kernel_rfl) (fun _ _ _ h => h) (Or.inl ⟨by rfl, fun w hSw => ?_⟩) (by assumption) ?_
                    rotate_left
                    · (try dsimp only at hSw); go_simp; try with_reducible rfl
                    simp only [Act.put, List.setIfInBounds_toArray, List.set_cons_zero, List.set_cons_succ, List.getElem_toArray, List.getElem_cons_succ, List.getElem_cons_zero]
                    refine wpAnyH_take (i := 2) (v := ?_) rfl (by kernel_rfl) (by kernel_rfl) (by kernel_rfl) (fun _ _ _ h => h) (Or.inl ⟨by rfl, fun w hSw => ?_⟩) (by assumption) ?_
                    rotate_left
                    · (try dsimp only at hSw); go_simp; try with_reducible rfl
                    simp only [Act.put, List.setIfInBounds_toArray, List.set_cons_zero, List.set_cons_succ, List.getElem_toArray, List.getElem_cons_succ, List.getElem_cons_zero]
                    refine wpAnyH_take (i := 3) (v := ?_) rfl (by kernel_rfl) (by kernel_rfl) (by kernel_rfl) (fun _ _ _ h => h) (Or.inl ⟨by rfl, fun w hSw => ?_⟩) (by assumption) ?_
                    rotate_left
                    · (try dsimp only at hSw); go_simp; try with_reducible rfl
                    simp only [Act.put, List.setIfInBounds_toArray, List.set_cons_zero, List.set_cons_succ, List.getElem_toArray, List.getElem_cons_succ, List.getElem_cons_zero]
                    refine wpAnyH_take (i := 4) (v := ?_) rfl (by kernel_rfl) (by kernel_rfl) (by kernel_rfl) (fun _ _ _ h => h) (Or.inl ⟨by rfl, fun w hSw => ?_⟩) (by assumption) ?_
                    rotate_left
                    · (try dsimp only at hSw); go_simp; try with_reducible rfl
                    simp only [Act.put, List.setIfInBounds_toArray, List.set_cons_zero, List.set_cons_succ, List.getElem_toArray, List.getElem_cons_succ, List.getElem_cons_zero]
                    refine wpAnyH_take (i := 5) (v := ?_) rfl (by kernel_rfl) (by kernel_rfl) (by kernel_rfl) (fun _ _ _ h => h) (Or.inl ⟨by rfl, fun w hSw => ?_⟩) (by assumption) ?_
                    rotate_left
                    · (try dsimp only at hSw); go_simp; try with_reducible rfl
                    simp only [Act.put, List.setIfInBounds_toArray, List.set_cons_zero, List.set_cons_succ, List.getElem_toArray, List.getElem_cons_succ, List.getElem_cons_zero]
                    refine wpAnyH_take (i := 6) (v := ?_) rfl (by kernel_rfl) (by kernel_rfl) (by kernel_rfl) (fun _ _ _ h => h) (Or.inl ⟨by rfl, fun w hSw => ?_⟩) (by assumption) ?_
                    rotate_left
                    · (try dsimp only at hSw); go_simp; try with_reducible rfl
                    simp only [Act.put, List.setIfInBounds_toArray, List.set_cons_zero, List.set_cons_succ, List.getElem_toArray, List.getElem_cons_succ, List.getElem_cons_zero]
                    refine wpAnyH_take (i := 7) (v := ?_) rfl (by kernel_rfl) (by kernel_rfl) (by kernel_rfl) (fun _ _ _ h => h) (Or.inl ⟨by rfl, fun w hSw => ?_⟩) (by assumption) ?_
                    rotate_left
                    · (try dsimp only at hSw); go_simp; try with_reducible rfl
                    simp only [Act.put, List.setIfInBounds_toArray, List.set_cons_zero, List.set_cons_succ, List.getElem_toArray, List.getElem_cons_succ, List.getElem_cons_zero]
                    refine wpAnyH_done (by kernel_rfl) ?_ _
                    clear c4
                    go_wp2_with (fail)
                    go_ret3
                    have e : endL S.N (.ok ((lnL f n, false), l')) = .ok (lnL f n, l') := by
                      unfold endL
                      simp only [← HYY.out]
                      rfl
                    rw [HFIN.out, HR.out, e]
                    have hd := below_drewN (Below.refl wq.heap.size wq) 1
                    exact ⟨below_drewN HW2.out.bel 1, al, n, cl, a2, c2, f, rfl, (HNW.out.next HB.out).next hd, fun i hi => ((HEA.out i hi).next HB.out).next hd, rfl, HI2.out.next hd⟩
      · have d1 : (x0 != 21074) = true := by simp [ex]
        have HG2 := Lib.hid (show rtO b = false by rw [HGO.out, decide_eq_false ex]; rfl)
        clear ex
        go_wp2_with (fail)
        go_ret3
        refine ⟨HB4.out, ?_⟩
        rw [run_ld, HS1.out]
        simp only
        rw [← HBB.out, HG2.out]
        rfl
  · have HG := Lib.hid (geoO_no hrt)
    have HRT := Lib.hid hrt
    rw [HG.out, if_neg (by decide)]
    clear hrt
    go_enter Try.func26, Try.ntmps26
    go_upto_region 2 with fail
    rw [← HW.out]
    go_wp2_with (fail)
    refine (rright_no S.d S.r S.s w2 HRT.out).mono ?_
    rintro e w3 ⟨rfl, hb⟩
    have HB3 := Lib.hid (HB2.out.trans (hb.mono HB2.out.size))
    clear hb y1 y2 y3
    go_wp2_with (fail)
    go_ret3
    exact ⟨HB3.out, rfl⟩
end Go.Proofs.Ytegcjpocdfmpfaa
