/-
  slices.IndexFunc, slices.ContainsFunc of numbers with isNoPointer, by contract.
-/
import Derived.Test.YtegcjpocdfmpfaaVae
import Derived.Shelf.Abstract
import Derived.Test.YtegcjpocdfmpfaaVah
import Derived.Laws.OwnMore
set_option linter.unusedVariables false
set_option linter.unusedSimpArgs false
set_option maxRecDepth 100000
set_option maxHeartbeats 16000000
namespace Go.Proofs.Ytegcjpocdfmpfaa
open Go.RowKit

/-- IndexFunc's answer: the first number that is no pointer, or -1. -/
def IxP (ks : List Int) (r : Int) : Prop := (r = -1 ∧ ∀ i, i < ks.length → ptO (num ks i) = true) ∨ (0 ≤ r ∧ ∃ k : Nat, k < ks.length ∧ ptO (num ks k) = false)
theorem indexP_any (w : World) (a : Option Addr) (n c : Nat) (ks : List Int) (h : Ins w a n ks) (hn : n ≤ 1000000000000) :
    Calls Try.prog 83 #[.slice a n c, .func (.func 130) #[] #[]] w fun e w' => ∃ r : Int, e = .returned (.int .i64 r) ∧ IxP ks r ∧ w = w' := by
  have hl := h.len
  subst hl
  have HI := Lib.hid h
  clear h
  go_enter Try.func83, Try.ntmps83
  go_wp2_with (fail)
  go_loop [5, 8] (fun _ v => ∃ k : Nat, k ≤ ks.length ∧ v = .int .i64 k ∧ ∀ i, i < k → ptO (num ks i) = true) (fun _ v => ks.length - (RowKit.intOf v).toNat)
  case atStart => exact ⟨0, by omega, rfl, fun i hi => by omega⟩
  case round =>
    obtain ⟨k, hk, rfl, hI⟩ := hrel
    have HK := Lib.hid hI
    clear hI
    by_cases hlt : k < ks.length
    · obtain ⟨b, off, rfl, hbl, hc⟩ := HI.out.at (by omega : 0 < ks.length)
      have hc1 := hc k hlt
      obtain ⟨z, hz⟩ : ∃ z, z = num ks k := ⟨_, rfl⟩
      rw [← hz] at hc1
      have hcall := noPtr_any z w
      have HZ := Lib.hid hz
      clear hc hz
      cases hb : ptO z with
      | true =>
        rw [hb] at hcall
        go_wp2_with (fail)
        refine hcall.mono ?_
        rintro e w2 ⟨rfl, rfl⟩
        go_wp2_with (fail)
        go_round
        case rel => exact ⟨k + 1, by omega, by go_num, fun i hi => by
          by_cases hik : i = k
          · rw [hik, ← HZ.out, hb]
          · exact HK.out i (by omega)⟩
        case measure => simp [RowKit.intOf]; omega
      | false =>
        rw [hb] at hcall
        go_wp2_with (fail)
        refine hcall.mono ?_
        rintro e w2 ⟨rfl, rfl⟩
        go_wp2_with (fail)
        go_ret
        exact ⟨_, rfl, .inr ⟨by omega, k, hlt, by rw [← HZ.out, hb]⟩, rfl⟩
    · obtain rfl : k = ks.length := by omega
      go_wp2_with (fail)
      go_ret
      exact ⟨_, rfl, .inl ⟨rfl, HK.out⟩, rfl⟩
theorem all_pt {ks : List Int} : ks.all ptO = true ↔ ∀ i, i < ks.length → ptO (num ks i) = true := by
  rw [List.all_eq_true]
  constructor
  · intro h i hi
    have : num ks i = ks[i] := by simp [num, List.getD, hi]
    rw [this]
    exact h _ (List.getElem_mem hi)
  · intro h z hz
    obtain ⟨i, hi, rfl⟩ := List.getElem_of_mem hz
    have := h i hi
    rwa [show num ks i = ks[i] by simp [num, List.getD, hi]] at this
theorem containsP_any (w : World) (a : Option Addr) (n c : Nat) (ks : List Int) (h : Ins w a n ks) (hn : n ≤ 1000000000000) :
    Calls Try.prog 48 #[.slice a n c, .func (.func 130) #[] #[]] w fun e w' => e = .returned (.bool (!ks.all ptO)) ∧ w = w' := by
  have hc := indexP_any w a n c ks h hn
  obtain ⟨B, hB⟩ : ∃ B, B = !ks.all ptO := ⟨_, rfl⟩
  rw [← hB]
  have HB := Lib.hid hB
  clear hB h
  go_enter Try.func48, Try.ntmps48
  go_wp2_with (fail)
  refine hc.mono ?_
  rintro e w2 ⟨r, rfl, hI, rfl⟩
  have HI := Lib.hid hI
  clear hI hc
  by_cases hr : 0 ≤ r
  · go_wp2_with (fail)
    go_ret
    refine ⟨?_, rfl⟩
    rcases HI.out with ⟨h1, _⟩ | ⟨_, k, hk, hp⟩
    · omega
    · have : ks.all ptO = false := by
        cases hh : ks.all ptO with
        | false => rfl
        | true => rw [all_pt.1 hh k hk] at hp; cases hp
      rw [HB.out, this]; simp [hr]
  · go_wp2_with (fail)
    go_ret
    refine ⟨?_, rfl⟩
    rcases HI.out with ⟨_, h1⟩ | ⟨h1, _⟩
    · rw [HB.out, all_pt.2 h1]; simp [hr]
    · omega

/-- What a Put of pointers answers. -/
def ppF (ks : List Int) : List Int := if ppO ks then ppL ks else []
theorem putP_any (a : Option Addr) (n c : Nat) (ks : List Int) (w : World) (h : Ins w a n ks) (hn : n ≤ 1000000) :
    Calls Try.prog 88 #[.slice a n c] w (RetN w (ppF ks) (ppO ks)) := by
  have hl := h.len
  subst hl
  by_cases h1 : 28 < ks.length
  · have e : ppO ks = false := by rw [ppO, decide_eq_false (by omega)]; rfl
    rw [ppF, e]
    clear e
    go_enter Try.func88, Try.ntmps88
    go_wp2
    go_ret2
    exact ⟨_, _, _, rfl, Pin.zero _, (fun x hx => by cases hx), Below.refl _ _⟩
  · have hc := containsP_any w a ks.length c ks h (by omega)
    have e : ppO ks = ks.all ptO := by rw [ppO, decide_eq_true (by omega), Bool.true_and]
    cases hb : ks.all ptO with
    | false =>
      rw [ppF, e, hb]
      rw [hb] at hc
      clear e
      go_enter Try.func88, Try.ntmps88
      go_wp2_with (fail)
      refine hc.mono ?_
      rintro e w2 ⟨rfl, rfl⟩
      go_wp2_with (fail)
      go_ret2
      exact ⟨_, _, _, rfl, Pin.zero _, (fun x hx => by cases hx), Below.refl _ _⟩
    | true =>
      rw [ppF, e, hb, if_pos rfl]
      rw [hb] at hc
      have hp := fun i (hi : i < ks.length) => ptO_iff.1 (all_pt.1 hb i hi)
      have hpb := ptrBytes_any a ks.length c ks w h hp (by omega)
      have HL := Lib.hid (show ks.length ≤ 28 by omega)
      clear e hb hp h
      go_enter Try.func88, Try.ntmps88
      go_wp2_with (fail)
      refine hc.mono ?_
      rintro e w2 ⟨rfl, rfl⟩
      go_wp2_with (fail)
      refine hpb.mono ?_
      rintro e w2 ⟨v, rfl, hO, hB⟩
      obtain ⟨a2, c2, rfl, hp2, _⟩ := hO.pin
      have HB := Lib.hid hB
      clear hc hpb hO hB
      go_wp2_with (fail)
      refine (pad_yes a2 (2 * ks.length) c2 56 _ w2 hp2.bys (by have := HL.out; omega) (by omega)).mono ?_
      rintro e w3 ⟨rfl, hb3, hl3⟩
      have HB3 := Lib.hid (HB.out.trans (hl3.mono HB.out.size))
      have HS := Lib.hid HB.out.size
      clear hl3 hp2
      go_wp2_with (fail)
      go_ret2
      exact ⟨_, _, _, rfl, hb3.pin (ppL_small ks) (ppL_len HL.out) (Nat.le_refl _) (by omega), (fun x hx => by cases hx; exact HS.out), HB3.out⟩

/-- 'make([]int, n)'. -/
theorem wpList_mki {w : World} {ops : Array Oper} {rest : List Oper} {o : Oper} {a : Act} {Q : Exit → Act → World → Prop}
    (hg : o.guard = none) (l c : Operand) (hop : o.op = Op.makeSlice 25 l c) (kl kc : IntKind) (L C : Int) (n : Nat) (hl : a.eval l = .int kl L) (hc : a.eval c = .int kc C) (hL : L = (n : Int)) (hC : C = (n : Int)) (b2 : n ≤ 100000) (B : Nat) (hB : B ≤ w.heap.size)
    (hK : ∀ w', OwnI w' B (.slice (some ⟨w.heap.size, 0, none⟩) n n) n (List.replicate n 0) → Below w.heap.size w w' → wpList Try.prog ops Q rest (a.put o.dst (.slice (some ⟨w.heap.size, 0, none⟩) n n)) w') :
    wpList Try.prog ops Q (o :: rest) a w := by
  obtain ⟨i0, hi, hz0, hz1, hz2⟩ := info_parts info3
  refine wpList_make_full w hg l c 25 hop B 3 i0 _ 1 Try.underlying25 hi hz0 hz1 kl kc L C n hl hc hL hC (by rw [hz2]; omega) (by unfold maxLen; omega) hB fun w' hown hgrow => hK w' ?_ ((Below.refl _ _).grown hgrow (Nat.le_refl _) (fun k h => by cases h))
  unfold OwnI
  rw [List.map_replicate]
  have e : (madeCells (Value.int .i64 0).cells (n * 1)).toList = List.replicate n (.int .i64 0) := by
    rw [Nat.mul_one]
    exact toList_madeCells_one _ _
  rwa [e] at hown
theorem OwnI.freeN {w : World} {B g n c : Nat} {ks : List Int} (h : OwnI w B (.slice (some ⟨g, 0, none⟩) n c) n ks) (i : Nat) : w.frozen? ⟨g, i, none⟩ = false := World.ownsRow.frozenAt h i
theorem OwnI.cellN {w : World} {B g n c : Nat} {ks : List Int} (h : OwnI w B (.slice (some ⟨g, 0, none⟩) n c) n ks) {i : Nat} (hi : i < n) : ∃ v, w.cell? ⟨g, i, none⟩ = some v := by
  have hl : ks.length = n := by have := h.1; simpa using this
  exact ⟨.int .i64 (ks[i]'(by omega)), by rw [World.ownsRow.cellAt h i (by omega)]; simp [show i < ks.length by omega]⟩
theorem OwnI.setN {w : World} {B g n c : Nat} {ks : List Int} (h : OwnI w B (.slice (some ⟨g, 0, none⟩) n c) n ks) (i : Nat) (z : Int) : OwnI (w.setCell ⟨g, i, none⟩ (.int .i64 z)) B (.slice (some ⟨g, 0, none⟩) n c) n (ks.set i z) := by
  have := (World.ownsRow.stored h i (.int .i64 z)).1
  unfold OwnI
  rwa [List.map_set]
theorem OwnI.lt {w : World} {B g n c : Nat} {ks : List Int} (h : OwnI w B (.slice (some ⟨g, 0, none⟩) n c) n ks) (hn : 0 < n) : g < w.heap.size := by
  obtain ⟨_, hv⟩ := h.cellN hn
  exact World.block_lt_of_cell? w ⟨g, 0, none⟩ hv
/-- The first k pointers of bytes, noughts behind. -/
def gpK (x : List Int) (k : Nat) : List Int := gpL x k ++ List.replicate (28 - k) 0
theorem gpK_set (x : List Int) {k : Nat} (h : k < 28) : (gpK x k).set k (getV x.length x ((2 * k : Nat) : Int) 2) = gpK x (k + 1) := by
  rw [gpK, gpK, gpL, List.set_append, if_neg (by rw [gpL_len]; omega), gpL_len, Nat.sub_self, show 28 - k = (28 - (k + 1)) + 1 by omega, List.replicate_succ, List.set_cons_zero]
  simp
/-- Numbers that are the call's own, and a bool. -/
def RetK (w0 : World) (ks : List Int) (ok : Bool) (e : Ending) (w' : World) : Prop :=
  ∃ a c, e = .returned (.tuple #[.slice a ks.length c, .bool ok]) ∧ Ins w' a ks.length ks ∧ (a = none → ks.length = 0 ∧ c = 0) ∧ ks.length ≤ c ∧ Below w0.heap.size w0 w'
def gpF (x : List Int) : List Int := if x.length = 56 then gpL x 28 else []
theorem getP_any (a : Option Addr) (n c : Nat) (x : List Int) (w : World) (h : Bys w a n x) (hn : n ≤ 1000000) :
    Calls Try.prog 137 #[.slice a n c] w (RetK w (gpF x) (decide (x.length = 56))) := by
  have hl := h.len
  subst hl
  by_cases h1 : x.length = 56
  · rw [gpF, if_pos h1, decide_eq_true h1]
    have HX := Lib.hid h
    have HL := Lib.hid h1
    clear h
    rw [h1]
    clear h1
    go_enter Try.func137, Try.ntmps137
    go_wp2_with (at_make; go_must (refine wpList_mki rfl _ _ rfl _ _ _ _ 28 rfl rfl rfl rfl (by omega) w.heap.size (Nat.le_refl _) ?_); intro w1 o1 b1; have HO1 := Lib.hid o1; have HB1 := Lib.hid b1; clear o1 b1)
    go_loopw [12, 5] (fun v _p wr => ∃ k : Nat, k ≤ 28 ∧ v = .int .i64 k ∧ OwnI wr w.heap.size (.slice (some ⟨w.heap.size, 0, none⟩) 28 28) 28 (gpK x k) ∧ Below w.heap.size w wr) (fun v _ _ => 28 - (RowKit.intOf v).toNat)
    case atStart => exact ⟨0, by omega, rfl, HO1.out, HB1.out⟩
    case round =>
      obtain ⟨k, hk, rfl, hO, hB⟩ := hrel
      have HO := Lib.hid hO
      have HB := Lib.hid hB
      clear hO hB
      by_cases hlt : k < 28
      · have hxr := HX.out.next HB.out
        have hget := get_fun a x.length c ((2 * k : Nat) : Int) 2 x wr hxr (by omega)
        have hlen := HL.out
        rw [HL.out] at hget
        have fr := HO.out.freeN k
        obtain ⟨u, hu⟩ := HO.out.cellN hlt
        have hlt2 := HO.out.lt (by omega : 0 < 28)
        obtain ⟨z, hz⟩ : ∃ z, z = getV x.length x ((2 * k : Nat) : Int) 2 := ⟨_, rfl⟩
        have hz2 := hz
        rw [HL.out] at hz2
        rw [← hz2] at hget
        have HZ := Lib.hid hz
        have w1 : IntKind.i64.wrap ((k : Int) * 2) = ((2 * k : Nat) : Int) := by rw [show (k : Int) * 2 = ((2 * k : Nat) : Int) by omega]; exact IntWalk.i64_in _ (by omega)
        clear hxr hz hz2 hlen
        go_wp2_with (fail)
        refine hget.mono ?_
        rintro e w2 ⟨rfl, rfl⟩
        go_wp2_with (fail)
        go_roundw
        case rel => exact ⟨k + 1, by omega, by go_num, by rw [← gpK_set x hlt, ← HZ.out]; exact HO.out.setN k z, HB.out.setCell (Nat.le_refl _) _⟩
        case measure => simp [RowKit.intOf]; omega
      · obtain rfl : k = 28 := by omega
        go_wp2_with (fail)
        go_ret2
        have e : gpK x 28 = gpL x 28 := by simp [gpK]
        have ho := HO.out
        rw [e] at ho
        obtain ⟨a', c', hv, hi, hc, hm, _⟩ := ho.ins
        cases hv
        refine ⟨some ⟨w.heap.size, 0, none⟩, 28, ?_, ?_, ?_, ?_, HB.out⟩
        · rw [gpL_len]; rfl
        · rw [gpL_len]; exact hi
        · intro h; cases h
        · rw [gpL_len]; exact hc
  · rw [gpF, if_neg h1, decide_eq_false h1]
    have d1 : ((x.length : Int) != 56) = true := by simp; omega
    clear h
    go_enter Try.func137, Try.ntmps137
    go_wp2
    go_ret2
    exact ⟨_, _, rfl, ⟨rfl, .inl rfl⟩, (fun _ => ⟨rfl, rfl⟩), Nat.le_refl _, Below.refl _ _⟩

theorem Pcb.ins {w : World} {b : Nat} {g : Nat → Int} (h : Pcb w b g) : Ins w (some ⟨b, 0, none⟩) 18 ((List.range 18).map g) :=
  ⟨by simp, .inr ⟨b, 0, rfl, h.lt, fun i hi => by
    rw [Nat.zero_add, h.cell hi]
    simp [num, List.getD, hi]⟩⟩
theorem num_range (g : Nat → Int) {i : Nat} (h : i < 18) : num ((List.range 18).map g) i = g i := by simp [num, List.getD, h]
/-- Four pieces, as a row. -/
def row4 (p q r s : Pc) : Nat → Pc := fun i => if i = 0 then p else if i = 1 then q else if i = 2 then r else s
theorem catL_four (p q r s : Pc) : catL (row4 p q r s) 4 = p.zs ++ q.zs ++ r.zs ++ s.zs := by simp [catL, row4]
theorem rws_four {w : World} {t : TypeId} {a0 a1 a2 a3 : Option Addr} {n0 c0 n1 c1 n2 c2 n3 c3 : Nat} {x0 x1 x2 x3 : List Int} (h0 : Pin w a0 n0 c0 x0) (h1 : Pin w a1 n1 c1 x1) (h2 : Pin w a2 n2 c2 x2) (h3 : Pin w a3 n3 c3 x3) :
    Rws (w.alloc (.cells #[.slice a0 n0 c0, .slice a1 n1 c1, .slice a2 n2 c2, .slice a3 n3 c3] t (0, 0))) (some ⟨w.heap.size, 0, none⟩) 4 (row4 ⟨a0, n0, c0, x0⟩ ⟨a1, n1, c1, x1⟩ ⟨a2, n2, c2, x2⟩ ⟨a3, n3, c3, x3⟩) := by
  refine ⟨.inr ⟨w.heap.size, 0, rfl, by simp, fun i hi => ?_⟩, fun i hi => ?_⟩
  · rcases (by omega : i = 0 ∨ i = 1 ∨ i = 2 ∨ i = 3) with rfl | rfl | rfl | rfl <;> simp [row4]
  · rcases (by omega : i = 0 ∨ i = 1 ∨ i = 2 ∨ i = 3) with rfl | rfl | rfl | rfl
    · exact h0.alloc _
    · exact h1.alloc _
    · exact h2.alloc _
    · exact h3.alloc _
theorem Blk.piece {w : World} {g : Nat} {m : Nat} {z : Int} (h : Blk w g (digs m z)) (hm : m ≤ 4) : Pin w (some ⟨g, 0, none⟩) m m (digs m z) := h.pin (digs_small _ _) (digs_len _ _) (Nat.le_refl _) (by omega)
theorem hasW1' {k : Int} (h : 1 ≤ k ∧ k ≤ 2) : hasW k 1 = true := hasW1_of (by omega)
theorem hasW4' {k : Int} (h : 0 ≤ k ∧ k ≤ 46368) : hasW k 4 = true := hasW4_of (by omega)
/-- What Put answers. -/
def ruB (f : Nat → Int) : List Int := if rgO f then recB f else []

theorem put_blkR (f : Nat → Int) (w : World) (hr : RgR f) : Calls Try.prog 87 #[rcv f] w fun e w' =>
    ∃ g, e = .returned (.tuple #[.slice (some ⟨g, 0, none⟩) 56 56, .bool true]) ∧ Blk w' g (recB f) ∧ w.heap.size ≤ g ∧ Below w.heap.size w w' := by
  obtain ⟨wa, hwa⟩ : ∃ wa, wa = w.alloc (.cells (rcs f) 104) := ⟨_, rfl⟩
  have hR : Rcb wa w.heap.size f := by rw [hwa]; exact Rcb.mk' w f
  have hB : Below w.heap.size w wa := by rw [hwa]; exact (Below.refl _ _).alloc (Nat.le_refl _) _
  have hrt := isRight_any f wa
  rw [rgO_iff.2 hr] at hrt
  have HRR := Lib.hid hr
  have HR := Lib.hid hR
  have HB := Lib.hid hB
  have HW := Lib.hid hwa
  clear hr hR hB hwa
  go_enter Try.func87, Try.ntmps87
  go_upto_region 1 with fail
  rw [← HW.out]
  go_wp2_with (refine wpList_ldR (by rfl) (.tmp 1) rfl w.heap.size rfl f HR.out ?_)
  refine hrt.mono ?_
  rintro e wb ⟨rfl, hb⟩
  have HRb := Lib.hid (HR.out.next hb)
  have HBb := Lib.hid (HB.out.trans (hb.mono HB.out.size))
  clear hb hrt HR HB HW
  go_wp2_with (refine wpList_ldR (by rfl) (.tmp 1) rfl w.heap.size rfl f HRb.out ?_)
  refine (pointers_any f wb).mono ?_
  rintro e wc ⟨rfl, hb⟩
  have HRc := Lib.hid (HRb.out.next hb)
  have HBc := Lib.hid (HBb.out.trans (hb.mono HBb.out.size))
  clear hb HRb HBb
  go_wp2_with (refine wpList_stP (by rfl) (.tmp 4) (.tmp 10) rfl wc.heap.size rfl (ptsR f) rfl noR (Pcb.mk' wc noR) ?_; intro wd hPd hOd hBd)
  have hRd : Rcb wd w.heap.size f := ⟨(hOd w.heap.size (by have := HRc.out.lt; omega)).trans (HRc.out.alloc _).row⟩
  have hBd2 : Below w.heap.size w wd := hBd _ _ HBc.out.size (HBc.out.alloc HBc.out.size _)
  clear hOd hBd
  obtain ⟨g, hg⟩ : ∃ g, g = wc.heap.size := ⟨_, rfl⟩
  rw [← hg] at hPd ⊢
  clear hg HRc HBc
  have hRe := hRd.drew
  have hPe := hPd.drew
  have hBe := below_drewN hBd2 1
  obtain ⟨k, hk⟩ : ∃ s, s = f 0 := ⟨_, rfl⟩
  obtain ⟨l, hl⟩ : ∃ s, s = f 1 := ⟨_, rfl⟩
  obtain ⟨s, hs⟩ : ∃ s, s = f 2 := ⟨_, rfl⟩
  have y0 := hRe.cell (i := 0) (by omega)
  have y1 := hRe.cell (i := 1) (by omega)
  have y2 := hRe.cell (i := 2) (by omega)
  rw [← hk] at y0
  rw [← hl] at y1
  rw [← hs] at y2
  have HK := Lib.hid hk
  have HL := Lib.hid hl
  have HS := Lib.hid hs
  have HR1 := Lib.hid hRe
  have HP1 := Lib.hid hPe
  have HB1 := Lib.hid hBe
  clear hRd hPd hBd2 hRe hPe hBe hk hl hs
  refine wp_region_held_drew (S := (fun w' => w'.cell? ⟨w.heap.size, 0, none⟩ = some (.int .i64 k) ∧ w'.cell? ⟨w.heap.size, 1, none⟩ = some (.int .i64 l) ∧ w'.cell? ⟨w.heap.size, 2, none⟩ = some (.int .i64 s))) (by kernel_rfl) ?_ (fun hHeld => ?_)
  · exact ⟨y0, y1, y2⟩
  refine wpAnyH_take (i := 0) (v := ?_) rfl (by kernel_rfl) (by kernel_rfl) (by kernel_rfl) (fun _ _ _ h => h) (Or.inl ⟨by rfl, fun w hSw => ?_⟩) (by assumption) ?_
  rotate_left
  · (try dsimp only at hSw); go_simp; try with_reducible rfl
  simp only [Act.put, List.setIfInBounds_toArray, List.set_cons_zero, List.set_cons_succ, List.getElem_toArray, List.getElem_cons_zero]
  refine wpAnyH_take (i := 1) (v := ?_) rfl (by kernel_rfl) (by kernel_rfl) (by kernel_rfl) (fun _ _ _ h => h) (Or.inl ⟨by rfl, fun w hSw => ?_⟩) (by assumption) ?_
  rotate_left
  · (try dsimp only at hSw); go_simp; try with_reducible rfl
  simp only [Act.put, List.setIfInBounds_toArray, List.set_cons_zero, List.set_cons_succ, List.getElem_toArray, List.getElem_cons_succ, List.getElem_cons_zero]
  refine wpAnyH_take (i := 3) (v := ?_) rfl (by kernel_rfl) (by kernel_rfl) (by kernel_rfl) (fun _ _ _ h => h) (Or.inl ⟨by rfl, fun w hSw => ?_⟩) (by assumption) ?_
  rotate_left
  · (try dsimp only at hSw); go_simp; try with_reducible rfl
  simp only [Act.put, List.setIfInBounds_toArray, List.set_cons_zero, List.set_cons_succ, List.getElem_toArray, List.getElem_cons_succ, List.getElem_cons_zero]
  refine wpAnyH_take (i := 4) (v := ?_) rfl (by kernel_rfl) (by kernel_rfl) (by kernel_rfl) (fun _ _ _ h => h) (Or.inl ⟨by rfl, fun w hSw => ?_⟩) (by assumption) ?_
  rotate_left
  · (try dsimp only at hSw); go_simp; try with_reducible rfl
  simp only [Act.put, List.setIfInBounds_toArray, List.set_cons_zero, List.set_cons_succ, List.getElem_toArray, List.getElem_cons_succ, List.getElem_cons_zero]
  refine wpAnyH_take (i := 6) (v := ?_) rfl (by kernel_rfl) (by kernel_rfl) (by kernel_rfl) (fun _ _ _ h => h) (Or.inl ⟨by rfl, fun w hSw => ?_⟩) (by assumption) ?_
  rotate_left
  · (try dsimp only at hSw); go_simp; try with_reducible rfl
  simp only [Act.put, List.setIfInBounds_toArray, List.set_cons_zero, List.set_cons_succ, List.getElem_toArray, List.getElem_cons_succ, List.getElem_cons_zero]
  refine wpAnyH_take (i := 7) (v := ?_) rfl (by kernel_rfl) (by kernel_rfl) (by kernel_rfl) (fun _ _ _ h => h) (Or.inl ⟨by rfl, fun w hSw => ?_⟩) (by assumption) ?_
  rotate_left
  · (try dsimp only at hSw); go_simp; try with_reducible rfl
  simp only [Act.put, List.setIfInBounds_toArray, List.set_cons_zero, List.set_cons_succ, List.getElem_toArray, List.getElem_cons_succ, List.getElem_cons_zero]
  refine wpAnyH_take (i := 9) (v := ?_) rfl (by kernel_rfl) (by kernel_rfl) (by kernel_rfl) (fun _ _ _ h => h) (Or.inl ⟨by rfl, fun w hSw => ?_⟩) (by assumption) ?_
  rotate_left
  · (try dsimp only at hSw); go_simp; try with_reducible rfl
  simp only [Act.put, List.setIfInBounds_toArray, List.set_cons_zero, List.set_cons_succ, List.getElem_toArray, List.getElem_cons_succ, List.getElem_cons_zero]
  refine wpAnyH_ready (rs := [2]) (by kernel_rfl) (by simp) ?_
  refine AllReadyH.cons rfl (fun K hK => ?_) AllReadyH.nil
  simp only [List.getElem_toArray, List.getElem_cons_succ, List.getElem_cons_zero]
  go_simp
  refine (put_yes 1 k _ (by omega) (by omega) (hasW1' (by rw [HK.out]; have := HRR.out.kind; omega))).mono ?_
  rintro e w2 ⟨rfl, hb, hl⟩
  have HR2 := Lib.hid (HR1.out.next hl)
  have HP2 := Lib.hid (HP1.out.next hl)
  have HB2 := Lib.hid (HB1.out.trans (hl.mono HB1.out.size))
  have HQa := Lib.hid (hb.piece (by omega))
  clear hb hl HR1 HP1 HB1 y0 y1 y2
  have y0 := HR2.out.cell (i := 0) (by omega)
  have y1 := HR2.out.cell (i := 1) (by omega)
  have y2 := HR2.out.cell (i := 2) (by omega)
  rw [← HK.out] at y0
  rw [← HL.out] at y1
  rw [← HS.out] at y2
  go_wp2_with (fail)
  refine hK.out _ _ ⟨y0, y1, y2⟩ (fun hHeld => ?_)
  clear hK K
  refine wpAnyH_ready (rs := [5]) (by kernel_rfl) (by simp) ?_
  refine AllReadyH.cons rfl (fun K hK => ?_) AllReadyH.nil
  simp only [List.getElem_toArray, List.getElem_cons_succ, List.getElem_cons_zero]
  go_simp
  refine (put_yes 2 l _ (by omega) (by omega) (hasW2_of (by rw [HL.out]; have := HRR.out.l1; have := HRR.out.l2; omega))).mono ?_
  rintro e w3 ⟨rfl, hb, hl⟩
  have HR3 := Lib.hid (HR2.out.next hl)
  have HP3 := Lib.hid (HP2.out.next hl)
  have HB3 := Lib.hid (HB2.out.trans (hl.mono HB2.out.size))
  replace HQa := Lib.hid (HQa.out.next hl)
  have HQb := Lib.hid (hb.piece (by omega))
  clear hb hl HR2 HP2 HB2 y0 y1 y2
  have y0 := HR3.out.cell (i := 0) (by omega)
  have y1 := HR3.out.cell (i := 1) (by omega)
  have y2 := HR3.out.cell (i := 2) (by omega)
  rw [← HK.out] at y0
  rw [← HL.out] at y1
  rw [← HS.out] at y2
  go_wp2_with (fail)
  refine hK.out _ _ ⟨y0, y1, y2⟩ (fun hHeld => ?_)
  clear hK K
  refine wpAnyH_ready (rs := [8]) (by kernel_rfl) (by simp) ?_
  refine AllReadyH.cons rfl (fun K hK => ?_) AllReadyH.nil
  simp only [List.getElem_toArray, List.getElem_cons_succ, List.getElem_cons_zero]
  go_simp
  refine (put_yes 4 s _ (by omega) (by omega) (hasW4' (by rw [HS.out]; have := HRR.out.s0; have := HRR.out.s1; omega))).mono ?_
  rintro e w4 ⟨rfl, hb, hl⟩
  have HR4 := Lib.hid (HR3.out.next hl)
  have HP4 := Lib.hid (HP3.out.next hl)
  have HB4 := Lib.hid (HB3.out.trans (hl.mono HB3.out.size))
  replace HQa := Lib.hid (HQa.out.next hl)
  replace HQb := Lib.hid (HQb.out.next hl)
  have HQc := Lib.hid (hb.piece (by omega))
  clear hb hl HR3 HP3 HB3 y0 y1 y2
  have y0 := HR4.out.cell (i := 0) (by omega)
  have y1 := HR4.out.cell (i := 1) (by omega)
  have y2 := HR4.out.cell (i := 2) (by omega)
  rw [← HK.out] at y0
  rw [← HL.out] at y1
  rw [← HS.out] at y2
  go_wp2_with (fail)
  refine hK.out _ _ ⟨y0, y1, y2⟩ (fun hHeld => ?_)
  clear hK K
  refine wpAnyH_ready (rs := [10]) (by kernel_rfl) (by simp) ?_
  refine AllReadyH.cons rfl (fun K hK => ?_) AllReadyH.nil
  simp only [List.getElem_toArray, List.getElem_cons_succ, List.getElem_cons_zero]
  go_simp
  have hpb : ∀ i, i < 18 → 0 ≤ num ((List.range 18).map (ptsR f)) i ∧ num ((List.range 18).map (ptsR f)) i ≤ 65535 := fun i hi => by rw [num_range _ hi]; exact HRR.out.pt hi
  refine (ptrBytes_any _ 18 18 _ _ HP4.out.ins hpb (by omega)).mono ?_
  rintro e w5 ⟨v5, rfl, hO5, hl⟩
  rw [show ptsL (num ((List.range 18).map (ptsR f))) 18 = ptsL (ptsR f) 18 from ptsL_congr fun i hi => num_range _ hi] at hO5
  obtain ⟨a5, c5, rfl, hp5, _⟩ := hO5.pin
  have HR5 := Lib.hid (HR4.out.next hl)
  have HB5 := Lib.hid (HB4.out.trans (hl.mono HB4.out.size))
  replace HQa := Lib.hid (HQa.out.next hl)
  replace HQb := Lib.hid (HQb.out.next hl)
  replace HQc := Lib.hid (HQc.out.next hl)
  have HQd := Lib.hid hp5
  clear hl hO5 hp5 hpb HR4 HB4 HP4 y0 y1 y2
  have y0 := HR5.out.cell (i := 0) (by omega)
  have y1 := HR5.out.cell (i := 1) (by omega)
  have y2 := HR5.out.cell (i := 2) (by omega)
  rw [← HK.out] at y0
  rw [← HL.out] at y1
  rw [← HS.out] at y2
  go_wp2_with (fail)
  refine hK.out _ _ ⟨y0, y1, y2⟩ (fun hHeld => ?_)
  clear hK K
  refine wpAnyH_ready (rs := [11]) (by kernel_rfl) (by simp) ?_
  refine AllReadyH.cons rfl (fun K hK => ?_) AllReadyH.nil
  simp only [List.getElem_toArray, List.getElem_cons_succ, List.getElem_cons_zero]
  go_simp
  have HR6 := Lib.hid (HR5.out.alloc (.cells #[.slice (some ⟨wd.drew.heap.size, 0, none⟩) 1 1, .slice (some ⟨w2.heap.size, 0, none⟩) 2 2, .slice (some ⟨w3.heap.size, 0, none⟩) 4 4, .slice a5 36 c5] 50 (0, 0)))
  clear y0 y1 y2
  have y0 := HR6.out.cell (i := 0) (by omega)
  have y1 := HR6.out.cell (i := 1) (by omega)
  have y2 := HR6.out.cell (i := 2) (by omega)
  rw [← HK.out] at y0
  rw [← HL.out] at y1
  rw [← HS.out] at y2
  refine hK.out _ _ ⟨y0, y1, y2⟩ (fun hHeld => ?_)
  clear hK K
  refine wpAnyH_ready (rs := [12]) (by kernel_rfl) (by simp) ?_
  refine AllReadyH.cons rfl (fun K hK => ?_) AllReadyH.nil
  simp only [List.getElem_toArray, List.getElem_cons_succ, List.getElem_cons_zero]
  go_simp
  have hcl : (catL (row4 ⟨some ⟨wd.drew.heap.size, 0, none⟩, 1, 1, digs 1 k⟩ ⟨some ⟨w2.heap.size, 0, none⟩, 2, 2, digs 2 l⟩ ⟨some ⟨w3.heap.size, 0, none⟩, 4, 4, digs 4 s⟩ ⟨a5, 36, c5, ptsL (ptsR f) 18⟩) 4) = recP f 18 := by
    rw [catL_four, HK.out, HL.out, HS.out]
    rfl
  refine (concat_any _ 4 4 _ _ (rws_four HQa.out HQb.out HQc.out HQd.out) (by omega) (by rw [hcl, recP_len]; omega)).mono ?_
  rintro e w6 ⟨v6, rfl, ho6, hb6⟩
  rw [hcl, recP_len] at ho6
  obtain ⟨a6, c6, rfl, hp6, _⟩ := ho6.pin
  have HB6 := Lib.hid ((HB5.out.alloc HB5.out.size _).trans (hb6.mono (by have := HB5.out.size; simp; omega)))
  have HR7 := Lib.hid (HR6.out.next hb6)
  have HQ := Lib.hid hp6
  clear ho6 hb6 hcl y0 y1 y2 hp6 HQa HQb HQc HQd HB5
  have y0 := HR7.out.cell (i := 0) (by omega)
  have y1 := HR7.out.cell (i := 1) (by omega)
  have y2 := HR7.out.cell (i := 2) (by omega)
  rw [← HK.out] at y0
  rw [← HL.out] at y1
  rw [← HS.out] at y2
  go_wp2_with (fail)
  refine hK.out _ _ ⟨y0, y1, y2⟩ (fun hHeld => ?_)
  clear hK K
  refine wpAnyH_take (i := 13) (v := ?_) rfl (by kernel_rfl) (by kernel_rfl) (by kernel_rfl) (fun _ _ _ h => h) (Or.inl ⟨by rfl, fun w hSw => ?_⟩) (by assumption) ?_
  rotate_left
  · (try dsimp only at hSw); go_simp; try with_reducible rfl
  simp only [Act.put, List.setIfInBounds_toArray, List.set_cons_zero, List.set_cons_succ, List.getElem_toArray, List.getElem_cons_succ, List.getElem_cons_zero]
  refine wpAnyH_done (by kernel_rfl) ?_ _
  go_wp2_with (fail)
  refine (pad_yes a6 43 c6 56 _ w6 HQ.out.bys (by omega) (by omega)).mono ?_
  rintro e w7 ⟨rfl, hb7, hl7⟩
  have HB7 := Lib.hid (HB6.out.trans (hl7.mono HB6.out.size))
  have HS6 := Lib.hid HB6.out.size
  clear hl7
  go_wp2_with (fail)
  go_ret2
  exact ⟨_, rfl, hb7, HS6.out, HB7.out⟩
theorem put_yesR (f : Nat → Int) (w : World) (hr : RgR f) : Calls Try.prog 87 #[rcv f] w (RetN w (recB f) true) :=
  (put_blkR f w hr).mono fun e w' ⟨g, he, hb, hg, hl⟩ => ⟨_, _, _, he, hb.pin (recB_small f) (recB_len f) (Nat.le_refl _) (by omega), (fun x hx => by cases hx; exact hg), hl⟩
theorem put_noR (f : Nat → Int) (w : World) (hr : rgO f = false) : Calls Try.prog 87 #[rcv f] w (RetN w [] false) := by
  obtain ⟨wa, hwa⟩ : ∃ wa, wa = w.alloc (.cells (rcs f) 104) := ⟨_, rfl⟩
  have hR : Rcb wa w.heap.size f := by rw [hwa]; exact Rcb.mk' w f
  have hB : Below w.heap.size w wa := by rw [hwa]; exact (Below.refl _ _).alloc (Nat.le_refl _) _
  have hrt := isRight_any f wa
  rw [hr] at hrt
  have HR := Lib.hid hR
  have HB := Lib.hid hB
  have HW := Lib.hid hwa
  clear hr hR hB hwa
  go_enter Try.func87, Try.ntmps87
  go_upto_region 1 with fail
  rw [← HW.out]
  go_wp2_with (refine wpList_ldR (by rfl) (.tmp 1) rfl w.heap.size rfl f HR.out ?_)
  refine hrt.mono ?_
  rintro e wb ⟨rfl, hb⟩
  have HBb := Lib.hid (HB.out.trans (hb.mono HB.out.size))
  clear hb hrt HR HB HW
  go_wp2_with (fail)
  go_ret2
  exact ⟨_, _, _, rfl, Pin.zero _, (fun x hx => by cases hx), HBb.out⟩
theorem putR_any (f : Nat → Int) (w : World) : Calls Try.prog 87 #[rcv f] w (RetN w (ruB f) (rgO f)) := by
  cases hr : rgO f with
  | true => rw [ruB, hr, if_pos rfl]; exact put_yesR f w (rgO_iff.1 hr)
  | false => rw [ruB, hr]; exact put_noR f w hr

theorem cell_alloc {w : World} {p : Addr} {v : Value} (h : w.cell? p = some v) (o : Obj) : (w.alloc o).cell? p = some v :=
  (((Below.refl w.heap.size w).alloc (Nat.le_refl _) o).cell (World.block_lt_of_cell? w p h)).trans h
theorem row_alloc {w : World} {b : Nat} {x : Array Value} {t : TypeId} {fr : Nat × Nat} (h : w.heap[b]? = some (.cells x t fr)) (o : Obj) : (w.alloc o).heap[b]? = some (.cells x t fr) :=
  (((Below.refl w.heap.size w).alloc (Nat.le_refl _) o).block b (lt_of_block h)).trans h
/-- A number's variable. -/
structure Mi (w : World) (b : Nat) (s : Int) : Prop where
  row : w.heap[b]? = some (.cells #[.int .i64 s] 3 (0, 0))
theorem Mi.lt {w : World} {b : Nat} {s : Int} (h : Mi w b s) : b < w.heap.size := lt_of_block h.row
theorem Mi.cell {w : World} {b : Nat} {s : Int} (h : Mi w b s) : w.cell? ⟨b, 0, none⟩ = some (.int .i64 s) := by
  rw [cell_of_row w b 0 _ _ (0, 0) h.row]; rfl
theorem Mi.free {w : World} {b : Nat} {s : Int} (h : Mi w b s) : w.frozen? ⟨b, 0, none⟩ = false := frozen_of_row w b 0 _ _ h.row
theorem Mi.set {w : World} {b : Nat} {s : Int} (h : Mi w b s) (t : Int) : Mi (w.setCell ⟨b, 0, none⟩ (.int .i64 t)) b t := by
  refine ⟨?_⟩
  rw [heap_setCell_same w b 0 _ _ _ h.row]
  rfl
theorem Mi.setCell {w : World} {b g : Nat} {s : Int} (h : Mi w b s) (hne : b ≠ g) (i : Nat) (v : Value) : Mi (w.setCell ⟨g, i, none⟩ v) b s := ⟨by rw [heap_setCell_other w ⟨g, i, none⟩ b v hne]; exact h.row⟩

theorem next_any (bb ba : Nat) (a : Option Addr) (n c : Nat) (x : List Int) (p k : Int) (w : World) (hb : w.cell? ⟨bb, 0, none⟩ = some (.slice a n c)) (hx : Bys w a n x) (hn : n ≤ 1000000000000) (hm : Mi w ba p) (hp : 0 ≤ p ∧ p ≤ 1000) (hk : 0 ≤ k ∧ k ≤ 4) :
    Calls Try.prog 177 #[.int .i64 k, .pointer (some ⟨bb, 0, none⟩), .pointer (some ⟨ba, 0, none⟩)] w fun e w' => e = .returned (.int .i64 (getV n x p k)) ∧ w' = w.setCell ⟨ba, 0, none⟩ (.int .i64 (p + k)) := by
  have hg := get_fun a n c p k x w hx hn
  obtain ⟨z, hz⟩ : ∃ z, z = getV n x p k := ⟨_, rfl⟩
  rw [← hz] at hg ⊢
  have w1 : IntKind.i64.wrap (p + k) = p + k := IntWalk.i64_in _ (by omega)
  have y0 := hm.cell
  have f0 := hm.free
  have l0 := hm.lt
  clear hz hx hm
  go_enter Try.func177, Try.ntmps177
  go_wp2_with (fail)
  refine hg.mono ?_
  rintro e w2 ⟨rfl, rfl⟩
  go_wp2_with (fail)
  go_ret
  exact ⟨rfl, rfl⟩

/-- told's state: the bytes' variable, the result's, the place's, the record's. -/
structure Tw (w0 w : World) (a : Option Addr) (n c : Nat) (x : List Int) (f : Nat → Int) (p : Int) : Prop where
  sl : w.cell? ⟨w0.heap.size, 0, none⟩ = some (.slice a n c)
  bys : Bys w a n x
  res : Rcb w (w0.heap.size + 1) noR
  pl : Mi w (w0.heap.size + 1 + 1) p
  rc : Rcb w (w0.heap.size + 1 + 1 + 1) f
  bel : Below w0.heap.size w0 w
  old : ∀ b off, a = some ⟨b, off, none⟩ → b < w0.heap.size ∨ n = 0
theorem bys_setCell {w : World} {a : Option Addr} {n : Nat} {x : List Int} (h : Bys w a n x) {g i : Nat} {v : Value} (hne : ∀ b off, a = some ⟨b, off, none⟩ → b ≠ g ∨ n = 0) : Bys (w.setCell ⟨g, i, none⟩ v) a n x := by
  refine ⟨h.len, h.small, ?_⟩
  rcases h.place with h0 | ⟨b, off, e, hlt, hc⟩
  · exact .inl h0
  · rcases hne b off e with h1 | h1
    · exact .inr ⟨b, off, e, by simpa using hlt, fun j hj => (World.cell?_setCell_other _ _ _ _ (fun e => h1 (congrArg Addr.block e).symm)).trans (hc j hj)⟩
    · exact .inl h1
section
variable {w0 w : World} {a : Option Addr} {n c : Nat} {x : List Int} {f : Nat → Int} {p : Int}
theorem Tw.call (h : Tw w0 w a n c x f p) (q : Int) : Tw w0 (w.setCell ⟨w0.heap.size + 1 + 1, 0, none⟩ (.int .i64 q)) a n c x f q :=
  ⟨(World.cell?_setCell_other _ _ _ _ (by simp)).trans h.sl, bys_setCell h.bys (g := w0.heap.size + 1 + 1) fun b off e => (h.old b off e).imp (fun h => by omega) id, h.res.setCell (by omega) _ _, h.pl.set q, h.rc.setCell (by omega) _ _, h.bel.setCell (by show w0.heap.size ≤ w0.heap.size + 1 + 1; omega) _, h.old⟩
theorem Tw.put (h : Tw w0 w a n c x f p) (i : Nat) (z : Int) : Tw w0 (w.setCell ⟨w0.heap.size + 1 + 1 + 1, i, none⟩ (.int .i64 z)) a n c x (upd f i z) p :=
  ⟨(World.cell?_setCell_other _ _ _ _ (by simp)).trans h.sl, bys_setCell h.bys (g := w0.heap.size + 1 + 1 + 1) fun b off e => (h.old b off e).imp (fun h => by omega) id, h.res.setCell (by omega) _ _, h.pl.setCell (by omega) _ _, h.rc.set i z, h.bel.setCell (by show w0.heap.size ≤ w0.heap.size + 1 + 1 + 1; omega) _, h.old⟩
theorem Tw.next (h : Tw w0 w a n c x f p) (hn : n ≤ 1000000000000) (k : Int) (hp : 0 ≤ p ∧ p ≤ 1000) (hk : 0 ≤ k ∧ k ≤ 4) :
    Calls Try.prog 177 #[.int .i64 k, .pointer (some ⟨w0.heap.size, 0, none⟩), .pointer (some ⟨w0.heap.size + 1 + 1, 0, none⟩)] w fun e w' => e = .returned (.int .i64 (getV n x p k)) ∧ Tw w0 w' a n c x f (p + k) :=
  (next_any _ _ a n c x p k w h.sl h.bys hn h.pl hp hk).mono fun e w' ⟨h1, h2⟩ => ⟨h1, by rw [h2]; exact h.call _⟩
end
theorem Tw.told {w0 w : World} {a : Option Addr} {c : Nat} {x : List Int} {f : Nat → Int} {p q : Int} (h : Tw w0 w a x.length c x f p) (hn : x.length ≤ 1000000000000) (k : Int) (i : Nat) (he : getV x.length x p k = tld x i) (hp : 0 ≤ p ∧ p ≤ 1000) (hk : 0 ≤ k ∧ k ≤ 4) (hq : p + k = q) :
    Calls Try.prog 177 #[.int .i64 k, .pointer (some ⟨w0.heap.size, 0, none⟩), .pointer (some ⟨w0.heap.size + 1 + 1, 0, none⟩)] w fun e w' => e = .returned (.int .i64 (tld x i)) ∧ Tw w0 w' a x.length c x f q :=
  (h.next hn k hp hk).mono fun e w' ⟨h1, h2⟩ => ⟨by rw [h1, he], by rw [← hq]; exact h2⟩
theorem Tw.cells {w0 w : World} {a : Option Addr} {n c : Nat} {x : List Int} {f : Nat → Int} {p : Int} (h : Tw w0 w a n c x f p) {i : Nat} (hi : i < 21) :
    w.cell? ⟨w0.heap.size + 1 + 1 + 1, i, none⟩ = some (.int .i64 (f i)) ∧ w.frozen? ⟨w0.heap.size + 1 + 1 + 1, i, none⟩ = false ∧ w0.heap.size + 1 + 1 + 1 < w.heap.size := ⟨h.rc.cell hi, h.rc.free i, h.rc.lt⟩
/-- The record as far as its first k numbers are told. -/
def ftR (x : List Int) (k : Nat) : Nat → Int := fun i => if i < k then tld x i else 0
theorem ftR_upd (x : List Int) (k : Nat) : upd (ftR x k) k (tld x k) = ftR x (k + 1) := by
  funext i
  unfold upd ftR
  by_cases h : i = k
  · subst h; simp
  · by_cases h2 : i < k
    · rw [if_neg h, if_pos h2, if_pos (by omega)]
    · rw [if_neg h, if_neg h2, if_neg (by omega)]
theorem ftR_zero (x : List Int) : ftR x 0 = noR := by
  funext i
  simp [ftR, noR]
theorem tld_ptr (x : List Int) (k : Nat) : tld x (3 + k) = getV x.length x ((7 + 2 * k : Nat) : Int) 2 := by
  have ep : posR (3 + k) = 7 + 2 * k := by unfold posR; rw [if_neg (by omega), if_neg (by omega), if_neg (by omega)]; omega
  have ew : widR (3 + k) = 2 := by unfold widR; rw [if_neg (by omega), if_neg (by omega)]
  rw [tld, ep, ew]
  rfl
theorem rcs_ft (x : List Int) : rcs (ftR x 21) = rcs (tld x) := rcs_congr fun i hi => by unfold ftR; rw [if_pos hi]

theorem told_any (a : Option Addr) (n c : Nat) (x : List Int) (w : World) (hx : Bys w a n x) (hn : n ≤ 1000000000) :
    Calls Try.prog 167 #[.slice a n c] w fun e w' => e = .returned (rcv (tld x)) ∧ Below w.heap.size w w' := by
  have hl := hx.len
  subst hl
  have HX := Lib.hid hx
  clear hx
  go_enter Try.func167, Try.ntmps167
  go_upto_region 4 with fail
  obtain ⟨wa, hwa⟩ : ∃ wa, wa = (((w.alloc (.cells #[.slice a x.length c] 50)).alloc (.cells #[.int .i64 0, .int .i64 0, .int .i64 0, .int .i64 0, .int .i64 0, .int .i64 0, .int .i64 0, .int .i64 0, .int .i64 0, .int .i64 0, .int .i64 0, .int .i64 0, .int .i64 0, .int .i64 0, .int .i64 0, .int .i64 0, .int .i64 0, .int .i64 0, .int .i64 0, .int .i64 0, .int .i64 0] 104)).alloc (.cells #[.int .i64 0] 3)).alloc (.cells #[.int .i64 0, .int .i64 0, .int .i64 0, .int .i64 0, .int .i64 0, .int .i64 0, .int .i64 0, .int .i64 0, .int .i64 0, .int .i64 0, .int .i64 0, .int .i64 0, .int .i64 0, .int .i64 0, .int .i64 0, .int .i64 0, .int .i64 0, .int .i64 0, .int .i64 0, .int .i64 0, .int .i64 0] 104) := ⟨_, rfl⟩
  have hT : Tw w wa a x.length c x (ftR x 0) 0 := by
    rw [hwa, ftR_zero]
    have b1 : Below w.heap.size w (w.alloc (.cells #[.slice a x.length c] 50)) := (Below.refl _ _).alloc (Nat.le_refl _) _
    refine ⟨cell_alloc (cell_alloc (cell_alloc (show (w.alloc (.cells #[.slice a x.length c] 50)).cell? ⟨w.heap.size, 0, none⟩ = some (.slice a x.length c) by simp) _) _) _, (((HX.out.alloc _).alloc _).alloc _).alloc _, ?_, ?_, ?_, ((b1.alloc (by simp) _).alloc (by simp; omega) _).alloc (by simp; omega) _, ?_⟩
    · have := ((Rcb.mk' (w.alloc (.cells #[.slice a x.length c] 50)) noR).alloc (.cells #[.int .i64 0] 3)).alloc (.cells (rcs noR) 104)
      rw [show (w.alloc (.cells #[.slice a x.length c] 50)).heap.size = w.heap.size + 1 by simp] at this
      exact this
    · have := row_alloc (heap_alloc_new (((w.alloc (.cells #[.slice a x.length c] 50)).alloc (.cells (rcs noR) 104))) (.cells #[.int .i64 0] 3 (0, 0))) (.cells (rcs noR) 104)
      rw [show ((w.alloc (.cells #[.slice a x.length c] 50)).alloc (.cells (rcs noR) 104)).heap.size = w.heap.size + 1 + 1 by simp] at this
      exact ⟨this⟩
    · have := Rcb.mk' (((w.alloc (.cells #[.slice a x.length c] 50)).alloc (.cells (rcs noR) 104)).alloc (.cells #[.int .i64 0] 3)) noR
      rw [show (((w.alloc (.cells #[.slice a x.length c] 50)).alloc (.cells (rcs noR) 104)).alloc (.cells #[.int .i64 0] 3)).heap.size = w.heap.size + 1 + 1 + 1 by simp] at this
      exact this
    · intro b off e
      rcases HX.out.place with h0 | ⟨b2, off2, e2, hlt, _⟩
      · exact .inr h0
      · rw [e] at e2
        cases e2
        exact .inl hlt
  rw [← hwa]
  have HT := Lib.hid hT
  clear hwa hT
  go_wp2_with (fail)
  refine (HT.out.told (q := 1) (by omega) 1 0 rfl (by omega) (by omega) (by omega)).mono ?_
  rintro e w2 ⟨rfl, hT⟩
  obtain ⟨c0, f0, l0⟩ := hT.cells (i := 0) (by omega)
  have hT2 := hT.put (0) (tld x (0))
  rw [ftR_upd] at hT2
  have HT2 := Lib.hid hT2
  clear hT hT2
  go_wp2_with (fail)
  clear c0 f0 l0
  refine (HT2.out.told (q := 3) (by omega) 2 1 rfl (by omega) (by omega) (by omega)).mono ?_
  rintro e w3 ⟨rfl, hT⟩
  obtain ⟨c0, f0, l0⟩ := hT.cells (i := 1) (by omega)
  have hT2 := hT.put (1) (tld x (1))
  rw [ftR_upd] at hT2
  have HT3 := Lib.hid hT2
  clear hT hT2
  go_wp2_with (fail)
  clear c0 f0 l0
  refine (HT3.out.told (q := ((7 + 2 * 0 : Nat) : Int)) (by omega) 4 2 rfl (by omega) (by omega) (by omega)).mono ?_
  rintro e w4 ⟨rfl, hT⟩
  obtain ⟨c0, f0, l0⟩ := hT.cells (i := 2) (by omega)
  have hT2 := hT.put (2) (tld x (2))
  rw [ftR_upd] at hT2
  have HT4 := Lib.hid hT2
  clear hT hT2
  go_wp2_with (fail)
  clear c0 f0 l0 HT HT2 HT3
  go_loopw [6, 17] (fun _p v wr => ∃ k : Nat, k ≤ 16 ∧ v = .int .i64 k ∧ Tw w wr a x.length c x (ftR x (3 + k)) ((7 + 2 * k : Nat) : Int)) (fun _ v _ => 16 - (RowKit.intOf v).toNat)
  case atStart => exact ⟨0, by omega, rfl, HT4.out⟩
  case round =>
    obtain ⟨k, hk, rfl, hT5⟩ := hrel
    have HT5 := Lib.hid hT5
    clear hT5
    by_cases hlt : k < 16
    · go_wp2_with (fail)
      refine (HT5.out.told (q := ((7 + 2 * (k + 1) : Nat) : Int)) (by omega) 2 (3 + k) (tld_ptr x k).symm (by omega) (by omega) (by omega)).mono ?_
      rintro e w6 ⟨rfl, hT⟩
      obtain ⟨c0, f0, l0⟩ := hT.cells (i := 3 + k) (by omega)
      have hT2 := hT.put (3 + k) (tld x (3 + k))
      rw [ftR_upd] at hT2
      have HT6 := Lib.hid hT2
      clear hT hT2
      go_wp2_with (fail)
      go_roundw
      case rel => exact ⟨k + 1, by omega, by go_num, HT6.out⟩
      case measure => simp [RowKit.intOf]; omega
    · obtain rfl : k = 16 := by omega
      go_wp2_with (fail)
      refine (HT5.out.told (q := ((7 + 2 * 17 : Nat) : Int)) (by omega) 2 19 (tld_ptr x 16).symm (by omega) (by omega) (by omega)).mono ?_
      rintro e w6 ⟨rfl, hT⟩
      obtain ⟨c0, f0, l0⟩ := hT.cells (i := 19) (by omega)
      have hT2 := hT.put (19) (tld x (19))
      rw [ftR_upd] at hT2
      have HT6 := Lib.hid hT2
      clear hT hT2
      go_wp2_with (fail)
      clear c0 f0 l0
      refine (HT6.out.told (q := ((7 + 2 * 18 : Nat) : Int)) (by omega) 2 20 (tld_ptr x 17).symm (by omega) (by omega) (by omega)).mono ?_
      rintro e w7 ⟨rfl, hT⟩
      obtain ⟨c0, f0, l0⟩ := hT.cells (i := 20) (by omega)
      have hT2 := hT.put (20) (tld x (20))
      rw [ftR_upd] at hT2
      have HT7 := Lib.hid hT2
      clear hT hT2
      go_upto_region 14 with fail
      obtain ⟨wz, hwz⟩ : ∃ wz, wz = w7.setCell ⟨w.heap.size + 1 + 1 + 1, 20, none⟩ (.int .i64 (tld x 20)) := ⟨_, rfl⟩
      have hT8 := HT7.out
      rw [← hwz] at hT8 ⊢
      have HT8 := Lib.hid hT8
      clear hwz hT8 HT7 c0 f0 l0
      go_wp2_with (first
        | (refine wpList_ldR (by rfl) (.tmp 5) rfl (w.heap.size + 1 + 1 + 1) rfl _ HT8.out.rc ?_)
        | (refine wpList_stR (by rfl) (.tmp 2) (.tmp 32) rfl (w.heap.size + 1) rfl (ftR x 21) rfl noR HT8.out.res ?_; intro wd hP7 hO7 hB7))
      refine bodyPost_ret (v := rcv (tld x)) ?_ rfl ?_
      · rw [show rcv (tld x) = rcv (ftR x 21) by unfold rcv; rw [rcs_ft]]
        exact res_c1 rfl _ _ ⟨w.heap.size + 1, 0, none⟩ _ rfl (Rcb.load hP7)
      · exact ⟨rfl, hB7 _ _ (by omega) HT8.out.bel⟩

theorem gR_yes {x : List Int} (h : okG x = true) : rcv (gR x) = rcv (tld x) := by
  unfold rcv
  rw [rcs_congr fun i _ => by unfold gR; rw [if_pos h]]
theorem gR_no {x : List Int} (h : okG x = false) : rcv (gR x) = rcv noR := by
  unfold rcv
  rw [rcs_congr (g := noR) fun i _ => by unfold gR; rw [if_neg (by rw [h]; decide)]; rfl]
/-- What Get answers. -/
def GetPost (w : World) (x : List Int) (e : Ending) (w' : World) : Prop := e = .returned (.tuple #[rcv (gR x), .bool (okG x)]) ∧ Below w.heap.size w w'
theorem getR_any (a : Option Addr) (n c : Nat) (x : List Int) (w : World) (hx : Bys w a n x) (hn : n ≤ 1000000000) :
    Calls Try.prog 138 #[.slice a n c] w (GetPost w x) := by
  obtain ⟨wa, hwa⟩ : ∃ wa, wa = w.alloc (.cells (rcs noR) 104) := ⟨_, rfl⟩
  have hR : Rcb wa w.heap.size noR := by rw [hwa]; exact Rcb.mk' w noR
  have hB : Below w.heap.size w wa := by rw [hwa]; exact (Below.refl _ _).alloc (Nat.le_refl _) _
  have hxa := hx.next hB
  have htd := told_any a n c x wa hxa hn
  have HX := Lib.hid hxa
  have HR := Lib.hid hR
  have HB := Lib.hid hB
  have HW := Lib.hid hwa
  clear hx hxa hR hB hwa
  obtain ⟨f, hf⟩ : ∃ f, f = tld x := ⟨_, rfl⟩
  rw [← hf] at htd
  have HF := Lib.hid hf
  clear hf
  go_enter Try.func138, Try.ntmps138
  go_upto_region 1 with fail
  change Code.wp _ _ _ _ (w.alloc (.cells (rcs noR) 104))
  rw [← HW.out]
  clear HW
  go_wp2_with (fail)
  refine htd.mono ?_
  rintro e wb ⟨rfl, hb⟩
  have HXb := Lib.hid (HX.out.next hb)
  have HRb := Lib.hid (HR.out.next hb)
  have HBb := Lib.hid (HB.out.trans (hb.mono HB.out.size))
  clear hb htd HX HR HB
  go_upto_region 2 with (refine wpList_stR (by rfl) (.tmp 4) (.tmp 8) rfl wb.heap.size rfl f rfl noR (Rcb.mk' wb noR) ?_; intro wd hPd hOd hBd)
  obtain ⟨g, hg⟩ : ∃ g, g = wb.heap.size := ⟨_, rfl⟩
  have hRd : Rcb wd w.heap.size noR := ⟨(hOd w.heap.size (by have := HRb.out.lt; omega)).trans (HRb.out.alloc _).row⟩
  have hBd2 : Below w.heap.size w wd := hBd _ _ HBb.out.size (HBb.out.alloc HBb.out.size _)
  have hBd3 : Below wb.heap.size wb wd := hBd _ _ (Nat.le_refl _) ((Below.refl _ _).alloc (Nat.le_refl _) _)
  have HXd := Lib.hid (HXb.out.next hBd3)
  have hgw : w.heap.size < g := by rw [hg]; exact HRb.out.lt
  rw [← hg] at hPd ⊢
  have HP := Lib.hid hPd
  have HR := Lib.hid hRd
  have HB := Lib.hid hBd2
  have HG := Lib.hid hgw
  clear hOd hBd hg HRb HBb HXb hPd hRd hBd2 hBd3 hgw
  have hput := putR_any f wd
  obtain ⟨ok, hok⟩ : ∃ ok, ok = rgO f := ⟨_, rfl⟩
  obtain ⟨zs, hzs⟩ : ∃ zs, zs = ruB f := ⟨_, rfl⟩
  rw [← hok, ← hzs] at hput
  have HO := Lib.hid hok
  have HZ := Lib.hid hzs
  clear hok hzs
  go_wp2_with (refine wpList_ldR (by rfl) (.tmp 4) rfl g rfl f HP.out ?_)
  refine hput.mono ?_
  rintro e we ⟨a2, n2, c2, rfl, hp2, _, hb2⟩
  have HPe := Lib.hid (HP.out.next hb2)
  have HRe := Lib.hid (HR.out.next hb2)
  have HBe := Lib.hid (HB.out.trans (hb2.mono HB.out.size))
  have HXe := Lib.hid (HXd.out.next hb2)
  have heq := equal_any a2 a n2 c2 n c zs x we hp2.bys HXe.out
  obtain ⟨sm, hsm⟩ : ∃ sm, sm = sameB zs x := ⟨_, rfl⟩
  rw [← hsm] at heq
  have HS := Lib.hid hsm
  clear hsm hb2 hp2 hput HP HR HB HXd
  cases ok with
  | false =>
    have hno : okG x = false := by rw [okG, ← HF.out, ← HO.out]; rfl
    have HN := Lib.hid hno
    clear hno heq
    go_wp2_with (refine wpList_stR (by rfl) (.tmp 2) (.tmp 21) rfl w.heap.size rfl noR rfl noR HRe.out ?_; intro wz hPz hOz hBz)
    refine bodyPost_ret (v := .tuple #[rcv noR, .bool false]) ?_ rfl ?_
    · exact res_ct rfl _ _ ⟨w.heap.size, 0, none⟩ _ _ rfl rfl (Rcb.load hPz)
    · exact ⟨by rw [gR_no HN.out, HN.out], hBz _ _ (Nat.le_refl _) HBe.out⟩
  | true =>
    cases sm with
    | false =>
      have hno : okG x = false := by rw [okG, ← HF.out, ← HO.out, Bool.true_and, HS.out, HZ.out, ruB, ← HO.out, if_pos rfl]
      have HN := Lib.hid hno
      clear hno
      go_wp2_with (fail)
      refine heq.mono ?_
      rintro e wf ⟨rfl, rfl⟩
      go_wp2_with (refine wpList_stR (by rfl) (.tmp 2) (.tmp 21) rfl w.heap.size rfl noR rfl noR HRe.out ?_; intro wz hPz hOz hBz)
      refine bodyPost_ret (v := .tuple #[rcv noR, .bool false]) ?_ rfl ?_
      · exact res_ct rfl _ _ ⟨w.heap.size, 0, none⟩ _ _ rfl rfl (Rcb.load hPz)
      · exact ⟨by rw [gR_no HN.out, HN.out], hBz _ _ (Nat.le_refl _) HBe.out⟩
    | true =>
      have hno : okG x = true := by rw [okG, ← HF.out, ← HO.out, Bool.true_and, HS.out, HZ.out, ruB, ← HO.out, if_pos rfl]
      have HN := Lib.hid hno
      clear hno
      go_wp2_with (fail)
      refine heq.mono ?_
      rintro e wf ⟨rfl, rfl⟩
      go_wp2_with (first
        | (refine wpList_ldR (by rfl) (.tmp 4) rfl g rfl f HPe.out ?_)
        | (refine wpList_stR (by rfl) (.tmp 2) (.tmp 20) rfl w.heap.size rfl f rfl noR HRe.out ?_; intro wz hPz hOz hBz))
      refine bodyPost_ret (v := .tuple #[rcv f, .bool true]) ?_ rfl ?_
      · exact res_ct rfl _ _ ⟨w.heap.size, 0, none⟩ _ _ rfl rfl (Rcb.load hPz)
      · exact ⟨by rw [gR_yes HN.out, HN.out, HF.out], hBz _ _ (Nat.le_refl _) HBe.out⟩
end Go.Proofs.Ytegcjpocdfmpfaa
