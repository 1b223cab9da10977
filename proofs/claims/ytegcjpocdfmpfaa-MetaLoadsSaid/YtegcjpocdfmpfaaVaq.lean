/-
  The program's loader: refuse, block, by contract.
-/
import Derived.Test.YtegcjpocdfmpfaaVaj
import Derived.Test.YtegcjpocdfmpfaaVal
import Derived.Test.YtegcjpocdfmpfaaVap
import Derived.WalkLawsBesides
import Derived.Test.YtegcjpocdfmpfaaVaa
import Derived.Maps.OwnSet
import Derived.Maps.OwnOps
import Derived.Maps.Ext
import Derived.Maps.RangeWalk
import Derived.Test.YtegcjpocdfmpfaaVab
set_option linter.unusedVariables false
set_option linter.unusedSimpArgs false
set_option maxRecDepth 100000
set_option maxHeartbeats 16000000
namespace Go.Proofs.Ytegcjpocdfmpfaa
open Go.RowKit

/-- A panic of an error. -/
abbrev panE (er : Int) : Ending := .panicked [{ v := .iface 44 (.int .i64 er), recovered := false }]
theorem refuse_no (w : World) : Calls Try.prog 106 #[.bool false] w fun e w' => e = .returned (.tuple #[]) ∧ w = w' := by
  go_enter Try.func106, Try.ntmps106
  go_wp2
  go_end0
  exact ⟨rfl, rfl⟩
theorem refuse_yes (w : World) : Calls Try.prog 106 #[.bool true] w fun e w' => e = panE 15 ∧ w = w' := by
  go_enter Try.func106, Try.ntmps106
  go_wp2
  exact ⟨rfl, rfl, rfl⟩
abbrev Sv.M (S : Sv) : Int := adO S.d S.r S.s
/-- A loader that has read l; K: the boxes that are not to be touched. -/
structure LdK (w : World) (K : Nat → Prop) (S : Sv) (g : Nat) (v : Value) (l : List Int) (h : Bool) : Prop where
  row : w.heap[g]? = some (.cells #[.int .i64 S.d, .int .i64 S.r, .int .i64 S.s, .iface 41 (.pointer (some ⟨S.p, 0, none⟩)), v, .bool h] 110 (0, 0))
  own : OwnI w S.w0.heap.size v l.length l
  sto : Sto S.w0 S.p S.A S.nA S.cA S.Dt S.nD S.cD S.ks S.f
  bel : Below S.w0.heap.size S.w0 w
  gB : S.w0.heap.size ≤ g
  vg : v.ownBlock ≠ some g
  kk : ∀ j, K j → j < w.heap.size ∧ j ≠ g ∧ v.ownBlock ≠ some j
section
variable {w w' : World} {K K' : Nat → Prop} {S : Sv} {g : Nat} {v v' : Value} {l l' : List Int} {h h' : Bool}
theorem LdK.turn {M : Nat → Prop} (H : LdK w K S g v l h) (ht : Turn M w w') (hm : ∀ j, M j → ¬ Tv g v j ∧ S.w0.heap.size ≤ j) : LdK w' K S g v l h :=
  ⟨(ht.block _ (lt_of_block H.row) (fun e => (hm g e).1 (.inl rfl))).trans H.row, H.own.turn ht (fun j e h' => (hm j h').1 (.inr e)), H.sto, H.bel.trans (ht.below H.bel.size fun j hj => (hm j hj).2), H.gB, H.vg, fun j e => ⟨Nat.lt_of_lt_of_le (H.kk j e).1 ht.size, (H.kk j e).2⟩⟩
theorem LdK.next (H : LdK w K S g v l h) (hb : Below w.heap.size w w') : LdK w' K S g v l h := H.turn (M := fun _ => False) (Turn.of_below hb) (fun j hj => hj.elim)
theorem LdK.sub (H : LdK w K S g v l h) (hk : ∀ j, K' j → K j) : LdK w K' S g v l h := ⟨H.row, H.own, H.sto, H.bel, H.gB, H.vg, fun j e => H.kk j (hk j e)⟩
/-- A new box. -/
theorem LdK.box (H : LdK w K S g v l h) (hb : Below w.heap.size w w') {b : Nat} (h1 : w.heap.size ≤ b) (h2 : b < w'.heap.size) (hk : ∀ j, K' j → K j ∨ j = b) : LdK w' K' S g v l h := by
  have H' := H.next hb
  refine ⟨H'.row, H'.own, H'.sto, H'.bel, H'.gB, H'.vg, fun j e => ?_⟩
  rcases hk j e with e | e
  · exact H'.kk j e
  · have hg := lt_of_block H.row
    refine ⟨by omega, by omega, fun e2 => ?_⟩
    have := (World.ownsRow.lt H.own j e2).2
    omega
/-- A box of one's own is turned. -/
theorem LdK.set {b : Nat} (H : LdK w K S g v l h) (ht : Turn (· = b) w w') (hb : K b) (hB : S.w0.heap.size ≤ b) : LdK w' K S g v l h :=
  H.turn ht (fun j e => by
    subst e
    exact ⟨fun h' => by
      rcases h' with e | e
      · exact (H.kk j hb).2.1 e
      · exact (H.kk j hb).2.2 e, hB⟩)
theorem LdK.keep (H : LdK w K S g v l h) (ht : Turn (Tv g v) w w') {b : Nat} {o : Obj} (hb : K b) (hr : w.heap[b]? = some o) : w'.heap[b]? = some o :=
  (ht.block b (lt_of_block hr) (fun h' => by
    rcases h' with e | e
    · exact (H.kk b hb).2.1 e
    · exact (H.kk b hb).2.2 e)).trans hr
theorem LdK.cells (H : LdK w K S g v l h) : (w.cell? ⟨g, 0, none⟩ = some (.int .i64 S.d) ∧ w.cell? ⟨g, 1, none⟩ = some (.int .i64 S.r) ∧ w.cell? ⟨g, 2, none⟩ = some (.int .i64 S.s)) ∧ w.cell? ⟨g, 3, none⟩ = some (.iface 41 (.pointer (some ⟨S.p, 0, none⟩))) ∧ w.cell? ⟨g, 4, none⟩ = some v ∧ w.cell? ⟨g, 5, none⟩ = some (.bool h) ∧ g < w.heap.size :=
  have c := fun i => cell_of_row w g i _ _ (0, 0) H.row
  ⟨⟨c 0, c 1, c 2⟩, c 3, c 4, c 5, lt_of_block H.row⟩
theorem LdK.free (H : LdK w K S g v l h) (i : Nat) : w.frozen? ⟨g, i, none⟩ = false := frozen_of_row w g i _ _ H.row
theorem LdK.stoN (H : LdK w K S g v l h) : Sto w S.p S.A S.nA S.cA S.Dt S.nD S.cD S.ks S.f := H.sto.next H.bel
theorem LdK.form (H : LdK w K S g v l h) : ∃ a c, v = .slice a l.length c := H.own.form
/-- One more address is read. -/
theorem LdK.grow {q : Int} (H : LdK w K S g v l h) (hO : OwnI w' S.w0.heap.size v' (l.length + 1) (l ++ [q])) (hG : w.grownBy w' v.ownBlock) (hv : v'.ownBlock = v.ownBlock ∨ v'.ownBlock = some w.heap.size) :
    (w'.cell? ⟨g, 4, none⟩ = some v ∧ w'.frozen? ⟨g, 4, none⟩ = false ∧ g < w'.heap.size) ∧ LdK (w'.setCell ⟨g, 4, none⟩ v') K S g v' (l ++ [q]) h ∧ Turn (Tv g v) w (w'.setCell ⟨g, 4, none⟩ v') := by
  have ht : Turn (fun j => v.ownBlock = some j) w w' := Turn.of_grown hG (fun b e => e)
  have hg : ¬ v.ownBlock = some g := H.vg
  have hrow := (ht.block g (lt_of_block H.row) hg).trans H.row
  have hlow : ∀ j, v.ownBlock = some j → S.w0.heap.size ≤ j := fun j e => (World.ownsRow.lt H.own j e).1
  have ht2 : Turn (· = g) w' (w'.setCell ⟨g, 4, none⟩ v') := Turn.setCell (M := (· = g)) (a := ⟨g, 4, none⟩) w' rfl _
  have hlt := lt_of_block H.row
  have hv2 : v'.ownBlock ≠ some g := by
    rcases hv with e | e
    · rw [e]; exact H.vg
    · rw [e]
      intro e2
      simp only [Option.some.injEq] at e2
      omega
  refine ⟨⟨?_, frozen_of_row w' g 4 _ _ hrow, lt_of_block hrow⟩, ⟨?_, ?_, H.sto, (H.bel.trans (ht.below H.bel.size hlow)).trans (ht2.below (H.bel.trans (ht.below H.bel.size hlow)).size fun j hj => by rw [hj]; exact H.gB), H.gB, hv2, fun j e => ?_⟩, (ht.mono fun j e => .inr e).trans (ht2.mono fun j e => .inl e)⟩
  · rw [cell_of_row w' g 4 _ _ (0, 0) hrow]; rfl
  · rw [heap_setCell_same w' g 4 _ _ _ hrow]; rfl
  · have := hO.turn ht2 (fun j e h' => by subst h'; exact hv2 e)
    simpa using this
  · have h1 := H.kk j e
    refine ⟨Nat.lt_of_lt_of_le h1.1 (Nat.le_trans ht.size ht2.size), h1.2.1, fun e2 => ?_⟩
    rcases hv with e3 | e3
    · exact h1.2.2 (by rw [← e3]; exact e2)
    · rw [e3] at e2
      simp only [Option.some.injEq] at e2
      omega
end
/-- What a call of the loader's leaves. -/
def PrP {α : Type} (w : World) (K : Nat → Prop) (S : Sv) (g : Nat) (v : Value) (R : Except Int (α × List Int)) (hf : α → Bool) (val : α → Value → World → Prop) (e : Ending) (w' : World) : Prop :=
  Turn (Tv g v) w w' ∧ match R with
    | .error er => e = panE er
    | .ok (x, l) => ∃ u v', e = .returned u ∧ val x u w' ∧ LdK w' K S g v' l (hf x) ∧ (∀ j, v'.ownBlock = some j → v.ownBlock = some j ∨ w.heap.size ≤ j)
theorem PrP.err {α : Type} {w : World} {K : Nat → Prop} {S : Sv} {g : Nat} {v : Value} {R : Except Int (α × List Int)} {hf : α → Bool} {val : α → Value → World → Prop} {w' : World} {er : Int} (hR : R = .error er) (ht : Turn (Tv g v) w w') : PrP w K S g v R hf val (panE er) w' := by
  subst hR
  exact ⟨ht, rfl⟩
theorem PrP.ok {α : Type} {w : World} {K : Nat → Prop} {S : Sv} {g : Nat} {v : Value} {R : Except Int (α × List Int)} {hf : α → Bool} {val : α → Value → World → Prop} {w' : World} {x : α} {l : List Int} {u v' : Value} (hR : R = .ok (x, l)) (ht : Turn (Tv g v) w w') (hv : val x u w') (hL : LdK w' K S g v' l (hf x)) (ho : ∀ j, v'.ownBlock = some j → v.ownBlock = some j ∨ w.heap.size ≤ j) : PrP w K S g v R hf val (.returned u) w' := by
  subst hR
  exact ⟨ht, u, v', rfl, hv, hL, ho⟩
def valB (w : World) (z : List Int) (u : Value) (w' : World) : Prop := ∃ a c, u = .slice a 56 c ∧ Pin w' a 56 c z ∧ ∀ y, a = some y → w.heap.size ≤ y.block ∧ y.block < w'.heap.size
theorem run_nilI (p : Addr) (w : World) : (binOp .eql 107 (.iface 41 (.pointer (some p))) .nilIface).run Try.prog w = .ok (.bool false) w := by kernel_rfl
theorem pblock_any {K : Nat → Prop} (S : Sv) (g : Nat) (v : Value) (l : List Int) (hh : Bool) (q : Int) (w : World) (H : LdK w K S g v l hh) (hm : l.length ≤ 1000000) :
    Calls Try.prog 134 #[.pointer (some ⟨g, 0, none⟩), .int .i64 q] w (PrP w K S g v (run S.M S.blk (.rd q .ret) l) (fun _ => hh) (valB w)) := by
  have hnil := run_nilI
  obtain ⟨⟨c0, c1, c2⟩, c3, c4, c5, lt0⟩ := H.cells
  have hA := paddr_any S.d S.r S.s q w
  obtain ⟨t, ht⟩ : ∃ t, t = isA S.M q := ⟨_, rfl⟩
  rw [show isA (adO S.d S.r S.s) q = isA S.M q from rfl, ← ht] at hA
  have HH := Lib.hid H
  have HL := Lib.hid hm
  have HT := Lib.hid ht
  have HA := Lib.hid hA
  clear H hm ht hA c4 c5
  cases t with
  | false =>
    have HE := Lib.hid (show run S.M S.blk (.rd q .ret) l = .error 15 by rw [run, ← HT.out]; rfl)
    go_enter Try.func134, Try.ntmps134
    go_wp2_with (fail)
    refine HA.out.mono ?_
    rintro e w2 ⟨rfl, hb⟩
    have HB2 := Lib.hid hb
    clear hb
    go_wp2_with (fail)
    refine (refuse_yes w2).mono ?_
    rintro e w3 ⟨rfl, rfl⟩
    exact ⟨rfl, PrP.err HE.out (Turn.of_below HB2.out)⟩
  | true =>
    go_enter Try.func134, Try.ntmps134
    go_wp2_with (fail)
    refine HA.out.mono ?_
    rintro e w2 ⟨rfl, hb⟩
    have HB2 := Lib.hid hb
    have HH2 := Lib.hid (HH.out.next hb)
    clear hb c0 c1 c2 c3
    have c3 := HH2.out.cells.2.1
    go_wp2_with (fail)
    refine (refuse_no w2).mono ?_
    rintro e w3 ⟨rfl, rfl⟩
    go_wp2_with (fail)
    refine (rblk_any q HH2.out.stoN).mono ?_
    rintro e w3 ⟨hno, hyes, hb3⟩
    have HH3 := Lib.hid (HH2.out.next hb3)
    have HB3 := Lib.hid (HB2.out.trans (hb3.mono HB2.out.size))
    clear hb3 c3
    cases hbk : blkF S.ks S.f q with
    | none =>
      obtain rfl := hno hbk
      have HE := Lib.hid (show run S.M S.blk (.rd q .ret) l = .error 14 by rw [run, ← HT.out, show S.blk q = none from hbk]; rfl)
      clear hno hyes hbk
      go_wp2_with (fail)
      exact ⟨rfl, PrP.err HE.out (Turn.of_below HB3.out)⟩
    | some z =>
      obtain ⟨a, n, c, rfl, hp, hnew⟩ := hyes z hbk
      by_cases hz : z.length = 56
      · have hn : n = 56 := by rw [← hp.len]; exact hz
        subst hn
        have HE := Lib.hid (show run S.M S.blk (.rd q .ret) l = .ok (z, l ++ [q]) by rw [run, ← HT.out, show S.blk q = some z from hbk]; simp only [hz, if_true]; rfl)
        have HP := Lib.hid hp
        have HNW := Lib.hid (show ∀ y, a = some y → w2.heap.size ≤ y.block ∧ y.block < w3.heap.size from fun y e => ⟨hnew y e, by
          obtain ⟨b', o', e', hlt', _⟩ := hp.at (by omega)
          rw [e'] at e
          cases e
          exact hlt'⟩)
        clear hno hyes hbk hnew hp
        have d2 : ((56 : Int) != 56) = false := rfl
        go_wp2_with (fail)
        refine (refuse_no w3).mono ?_
        rintro e w4 ⟨rfl, rfl⟩
        obtain ⟨va, vc, rfl⟩ := HH3.out.form
        have hbx : Below w3.heap.size w3 (w3.alloc (.cells #[.int .i64 q] 3)) := (Below.refl _ _).alloc (Nat.le_refl _) _
        have HH4 := Lib.hid (HH3.out.next hbx)
        have HP4 := Lib.hid (HP.out.next hbx)
        have HB4 := Lib.hid hbx
        have c4 := HH3.out.cells.2.2.1
        clear hbx d2
        go_wp2_with (at_builtin; go_must (refine wpList_apq rfl (.tmp 43) (.tmp 45) rfl S.w0.heap.size _ l.length l rfl HH4.out.own (some ⟨w3.heap.size, 0, none⟩) 1 1 [q] rfl (ins_one' q rfl) (fun h => by cases h) (by have := HL.out; omega) HH4.out.bel.size ?_); intro v5 w5 hO5 hG5 hv5; obtain ⟨⟨c4n, f4n, ltn⟩, hR6, hT6⟩ := HH4.out.grow hO5 hG5 hv5; obtain ⟨a5, c5n, rfl⟩ := hO5.form; have HR6 := Lib.hid hR6; have HT6 := Lib.hid hT6; have HV := Lib.hid hv5; clear hR6 hT6 hO5 hG5 hv5 c4)
        go_ret
        have hT : Turn (Tv g (.slice va l.length vc)) w (w5.setCell ⟨g, 4, none⟩ (.slice a5 (l.length + 1) c5n)) := (Turn.of_below (HB3.out.trans (HB4.out.mono HB3.out.size))).trans HT6.out
        refine PrP.ok HE.out hT ⟨a, c, rfl, HP4.out.turn HT6.out (fun y e h' => ?_), fun y e => ⟨?_, ?_⟩⟩ HR6.out (fun j hj => ?_)
        · have h1 := (HNW.out y e).1
          rcases h' with h2 | h2
          · have := lt_of_block HH2.out.row; omega
          · have := (World.ownsRow.lt HH2.out.own _ h2).2; omega
        · exact Nat.le_trans HB2.out.size (HNW.out y e).1
        · exact Nat.lt_of_lt_of_le (HNW.out y e).2 (Nat.le_trans HB4.out.size HT6.out.size)
        · rcases HV.out with e | e
          · exact .inl (e.symm.trans hj)
          · refine .inr ?_
            rw [e] at hj
            have h2 := Option.some.inj hj
            rw [← h2]
            exact Nat.le_trans HB3.out.size HB4.out.size
      · have d2 : ((n : Int) != 56) = true := by
          have := hp.len
          simp
          omega
        have HE := Lib.hid (show run S.M S.blk (.rd q .ret) l = .error 15 by rw [run, ← HT.out, show S.blk q = some z from hbk]; simp only [hz, if_false]; rfl)
        clear hno hyes hbk hnew hp hz
        go_wp2_with (fail)
        refine (refuse_yes w3).mono ?_
        rintro e w4 ⟨rfl, rfl⟩
        exact ⟨rfl, PrP.err HE.out (Turn.of_below HB3.out)⟩

theorem enters_node1 (args : Array Value) (w : World) : (callFunc 98 args).run Try.prog w = .ok (.enter 98 args) w := enters_of (P := Try.prog) Try.func98 (by kernel_rfl) rfl args w
theorem all_any (N : Int) (L : List Int) : (L.all fun a => decide (a = 0) || isA N a) = !(L.any fun a => a != 0 && !isA N a) := by
  induction L with
  | nil => rfl
  | cons x L ih =>
    rw [List.all_cons, List.any_cons, ih, Bool.not_or]
    congr 1
    by_cases e : x = 0
    · subst e; rfl
    · rw [decide_eq_false e, show (x != 0) = true by simp [e]]
      cases isA N x <;> rfl
theorem blkN_le (s : Int) : blkN s ≤ 828 := by unfold blkN; split <;> omega
theorem hmf (fn : Fn) (first cap : Array Value) (w : World) : (Instr.makeFunc fn first cap).run Try.prog w = .ok (.func fn first cap) w := rfl
theorem pnode_any (d r s : Int) (x : Nw) (w : World) (h : Ins w x.a x.n x.ks) :
    Calls Try.prog 55 #[gv d r s, nwV x] w fun e w' => e = .returned (.bool (ndO (adO d r s) x.nd)) ∧ Below w.heap.size w w' := by
  have hmf := hmf
  obtain ⟨wa, hwa⟩ : ∃ wa, wa = (w.alloc (.cells #[.int .i64 d, .int .i64 r, .int .i64 s] 23 (0, 0))).alloc (.cells #[.int .i64 x.ino, .int .i64 x.kind, .int .i64 x.links, .int .i64 x.size, .slice x.a x.n x.c] 83 (0, 0)) := ⟨_, rfl⟩
  have hX : Bx wa w.heap.size d r s := by rw [hwa]; exact (Bx.mk' w d r s _).alloc _
  have hN : Nwb wa (w.heap.size + 1) x := by
    rw [hwa]
    have := Nwb.mk' (w.alloc (.cells #[.int .i64 d, .int .i64 r, .int .i64 s] 23 (0, 0))) x 83
    rwa [show (w.alloc (.cells #[.int .i64 d, .int .i64 r, .int .i64 s] 23 (0, 0))).heap.size = w.heap.size + 1 by simp] at this
  have hB : Below w.heap.size w wa := by rw [hwa]; exact ((Below.refl _ _).alloc (Nat.le_refl _) _).alloc (by simp) _
  have HX := Lib.hid hX
  have HN := Lib.hid hN
  have HB := Lib.hid hB
  have HI := Lib.hid (h.next hB)
  have HL := Lib.hid h.len
  have HW := Lib.hid hwa
  clear hX hN hB h hwa
  go_enter Try.func55, Try.ntmps55
  go_wp2_with (fail)
  rw [← HW.out]
  refine (putR_any (rK x.nd) _).mono ?_
  rintro e w2 ⟨a', n', c', rfl, _, _, hb⟩
  have HX2 := Lib.hid (HX.out.next hb)
  have HN2 := Lib.hid (HN.out.next hb)
  have HB2 := Lib.hid (HB.out.trans (hb.mono HB.out.size))
  have HI2 := Lib.hid (HI.out.next hb)
  clear hb HX HN HB HI HW
  obtain ⟨rg, hrg⟩ : ∃ rg, rg = rgO (rK x.nd) := ⟨_, rfl⟩
  rw [← hrg]
  have HRG := Lib.hid hrg
  clear hrg
  cases rg with
  | false =>
    have HZ := Lib.hid (show ndO (adO d r s) x.nd = false by rw [ndO, ← HRG.out]; rfl)
    go_upto_region 2 with fail
    refine wp_region_held_drew (S := (fun _ => True)) (by kernel_rfl) trivial (fun hHeld => ?_)
    refine wpAnyH_take (i := 0) (v := ?_) rfl (by kernel_rfl) (by kernel_rfl) (by kernel_rfl) (fun _ _ _ h => h) (Or.inl ⟨by rfl, fun w hSw => ?_⟩) (by assumption) ?_
    rotate_left
    · (try dsimp only at hSw); go_simp; try with_reducible rfl
    simp only [Act.put, List.setIfInBounds_toArray, List.set_cons_zero, List.set_cons_succ, List.getElem_toArray, List.getElem_cons_zero]
    refine wpAnyH_take (i := 1) (v := ?_) rfl (by kernel_rfl) (by kernel_rfl) (by kernel_rfl) (fun _ _ _ h => h) (Or.inl ⟨by rfl, fun w hSw => ?_⟩) (by assumption) ?_
    rotate_left
    · (try dsimp only at hSw); go_simp; try with_reducible rfl
    simp only [Act.put, List.setIfInBounds_toArray, List.set_cons_zero, List.set_cons_succ, List.getElem_toArray, List.getElem_cons_succ, List.getElem_cons_zero]
    refine wpAnyH_take (i := 2) (v := undef) rfl (by kernel_rfl) (by kernel_rfl) (by kernel_rfl) (fun _ _ _ h => h) (Or.inr ⟨by rfl, rfl⟩) (by assumption) ?_
    simp only [Act.put, List.setIfInBounds_toArray, List.set_cons_zero, List.set_cons_succ, List.getElem_toArray, List.getElem_cons_succ, List.getElem_cons_zero]
    refine wpAnyH_take (i := 3) (v := undef) rfl (by kernel_rfl) (by kernel_rfl) (by kernel_rfl) (fun _ _ _ h => h) (Or.inr ⟨by rfl, rfl⟩) (by assumption) ?_
    simp only [Act.put, List.setIfInBounds_toArray, List.set_cons_zero, List.set_cons_succ, List.getElem_toArray, List.getElem_cons_succ, List.getElem_cons_zero]
    refine wpAnyH_take (i := 4) (v := undef) rfl (by kernel_rfl) (by kernel_rfl) (by kernel_rfl) (fun _ _ _ h => h) (Or.inr ⟨by rfl, rfl⟩) (by assumption) ?_
    simp only [Act.put, List.setIfInBounds_toArray, List.set_cons_zero, List.set_cons_succ, List.getElem_toArray, List.getElem_cons_succ, List.getElem_cons_zero]
    refine wpAnyH_take (i := 5) (v := undef) rfl (by kernel_rfl) (by kernel_rfl) (by kernel_rfl) (fun _ _ _ h => h) (Or.inr ⟨by rfl, rfl⟩) (by assumption) ?_
    simp only [Act.put, List.setIfInBounds_toArray, List.set_cons_zero, List.set_cons_succ, List.getElem_toArray, List.getElem_cons_succ, List.getElem_cons_zero]
    refine wpAnyH_take (i := 6) (v := undef) rfl (by kernel_rfl) (by kernel_rfl) (by kernel_rfl) (fun _ _ _ h => h) (Or.inr ⟨by rfl, rfl⟩) (by assumption) ?_
    simp only [Act.put, List.setIfInBounds_toArray, List.set_cons_zero, List.set_cons_succ, List.getElem_toArray, List.getElem_cons_succ, List.getElem_cons_zero]
    refine wpAnyH_take (i := 7) (v := undef) rfl (by kernel_rfl) (by kernel_rfl) (by kernel_rfl) (fun _ _ _ h => h) (Or.inr ⟨by rfl, rfl⟩) (by assumption) ?_
    simp only [Act.put, List.setIfInBounds_toArray, List.set_cons_zero, List.set_cons_succ, List.getElem_toArray, List.getElem_cons_succ, List.getElem_cons_zero]
    refine wpAnyH_take (i := 8) (v := undef) rfl (by kernel_rfl) (by kernel_rfl) (by kernel_rfl) (fun _ _ _ h => h) (Or.inr ⟨by rfl, rfl⟩) (by assumption) ?_
    simp only [Act.put, List.setIfInBounds_toArray, List.set_cons_zero, List.set_cons_succ, List.getElem_toArray, List.getElem_cons_succ, List.getElem_cons_zero]
    refine wpAnyH_take (i := 9) (v := ?_) rfl (by kernel_rfl) (by kernel_rfl) (by kernel_rfl) (fun _ _ _ h => h) (Or.inl ⟨by rfl, fun w hSw => ?_⟩) (by assumption) ?_
    rotate_left
    · (try dsimp only at hSw); go_simp; try with_reducible rfl
    simp only [Act.put, List.setIfInBounds_toArray, List.set_cons_zero, List.set_cons_succ, List.getElem_toArray, List.getElem_cons_succ, List.getElem_cons_zero]
    refine wpAnyH_take (i := 10) (v := ?_) rfl (by kernel_rfl) (by kernel_rfl) (by kernel_rfl) (fun _ _ _ h => h) (Or.inl ⟨by rfl, fun w hSw => ?_⟩) (by assumption) ?_
    rotate_left
    · (try dsimp only at hSw); go_simp; try with_reducible rfl
    simp only [Act.put, List.setIfInBounds_toArray, List.set_cons_zero, List.set_cons_succ, List.getElem_toArray, List.getElem_cons_succ, List.getElem_cons_zero]
    refine wpAnyH_take (i := 11) (v := undef) rfl (by kernel_rfl) (by kernel_rfl) (by kernel_rfl) (fun _ _ _ h => h) (Or.inr ⟨by rfl, rfl⟩) (by assumption) ?_
    simp only [Act.put, List.setIfInBounds_toArray, List.set_cons_zero, List.set_cons_succ, List.getElem_toArray, List.getElem_cons_succ, List.getElem_cons_zero]
    refine wpAnyH_take (i := 12) (v := undef) rfl (by kernel_rfl) (by kernel_rfl) (by kernel_rfl) (fun _ _ _ h => h) (Or.inr ⟨by rfl, rfl⟩) (by assumption) ?_
    simp only [Act.put, List.setIfInBounds_toArray, List.set_cons_zero, List.set_cons_succ, List.getElem_toArray, List.getElem_cons_succ, List.getElem_cons_zero]
    refine wpAnyH_take (i := 13) (v := undef) rfl (by kernel_rfl) (by kernel_rfl) (by kernel_rfl) (fun _ _ _ h => h) (Or.inr ⟨by rfl, rfl⟩) (by assumption) ?_
    simp only [Act.put, List.setIfInBounds_toArray, List.set_cons_zero, List.set_cons_succ, List.getElem_toArray, List.getElem_cons_succ, List.getElem_cons_zero]
    refine wpAnyH_take (i := 14) (v := undef) rfl (by kernel_rfl) (by kernel_rfl) (by kernel_rfl) (fun _ _ _ h => h) (Or.inr ⟨by rfl, rfl⟩) (by assumption) ?_
    simp only [Act.put, List.setIfInBounds_toArray, List.set_cons_zero, List.set_cons_succ, List.getElem_toArray, List.getElem_cons_succ, List.getElem_cons_zero]
    refine wpAnyH_take (i := 15) (v := undef) rfl (by kernel_rfl) (by kernel_rfl) (by kernel_rfl) (fun _ _ _ h => h) (Or.inr ⟨by rfl, rfl⟩) (by assumption) ?_
    simp only [Act.put, List.setIfInBounds_toArray, List.set_cons_zero, List.set_cons_succ, List.getElem_toArray, List.getElem_cons_succ, List.getElem_cons_zero]
    refine wpAnyH_take (i := 16) (v := ?_) rfl (by kernel_rfl) (by kernel_rfl) (by kernel_rfl) (fun _ _ _ h => h) (Or.inl ⟨by rfl, fun w hSw => ?_⟩) (by assumption) ?_
    rotate_left
    · (try dsimp only at hSw); go_simp; try with_reducible rfl
    simp only [Act.put, List.setIfInBounds_toArray, List.set_cons_zero, List.set_cons_succ, List.getElem_toArray, List.getElem_cons_succ, List.getElem_cons_zero]
    refine wpAnyH_take (i := 17) (v := ?_) rfl (by kernel_rfl) (by kernel_rfl) (by kernel_rfl) (fun _ _ _ h => h) (Or.inl ⟨by rfl, fun w hSw => ?_⟩) (by assumption) ?_
    rotate_left
    · (try dsimp only at hSw); go_simp; try with_reducible rfl
    simp only [Act.put, List.setIfInBounds_toArray, List.set_cons_zero, List.set_cons_succ, List.getElem_toArray, List.getElem_cons_succ, List.getElem_cons_zero]
    refine wpAnyH_done (by kernel_rfl) ?_ _
    go_wp2_with (fail)
    go_ret
    exact ⟨ret_bool (by rw [HZ.out]), below_drewN HB2.out 1⟩
  | true =>
    have y4 := HN2.out.c4
    have y3 := HN2.out.c3
    go_upto_region 2 with fail
    refine wp_region_held_drew (S := (fun w' => w'.cell? ⟨w.heap.size + 1, 4, none⟩ = some (.slice x.a x.n x.c) ∧ w'.cell? ⟨w.heap.size + 1, 3, none⟩ = some (.int .i64 x.size))) (by kernel_rfl) ?_ (fun hHeld => ?_)
    · exact ⟨y4, y3⟩
    generalize hw : w2.drew = w3 at *
    have HX3 := Lib.hid (show Bx w3 w.heap.size d r s by rw [← hw]; exact HX2.out.drew)
    have HN3 := Lib.hid (show Nwb w3 (w.heap.size + 1) x by rw [← hw]; exact HN2.out.next (below_drewN (Below.refl _ _) 1))
    have HB3 := Lib.hid (show Below w.heap.size w w3 by rw [← hw]; exact below_drewN HB2.out 1)
    have HI3 := Lib.hid (show Ins w3 x.a x.n x.ks by rw [← hw]; exact HI2.out.next (below_drewN (Below.refl _ _) 1))
    clear hw HX2 HN2 HB2 HI2
    by_cases hl : (x.n : Int) ≤ blkN x.size
    · have d1 : decide ((x.n : Int) ≤ blkN x.size) = true := decide_eq_true hl
      have hn9 : x.n ≤ 1000000000000 := by have := blkN_le x.size; omega
      have HN9 := Lib.hid hn9
      have HZ := Lib.hid (show ndO (adO d r s) x.nd = !(x.ks.any fun a => a != 0 && !isA (adO d r s) a) by
        rw [ndO, ← HRG.out, ← all_any]
        rw [show decide ((x.nd.ads.length : Int) ≤ blkN x.nd.size) = true from decide_eq_true (by show (x.ks.length : Int) ≤ blkN x.size; rw [HL.out]; exact hl)]
        rfl)
      clear hl hn9
      refine wpAnyH_take (i := 0) (v := ?_) rfl (by kernel_rfl) (by kernel_rfl) (by kernel_rfl) (fun _ _ _ h => h) (Or.inl ⟨by rfl, fun w hSw => ?_⟩) (by assumption) ?_
      rotate_left
      · (try dsimp only at hSw); go_simp; try with_reducible rfl
      simp only [Act.put, List.setIfInBounds_toArray, List.set_cons_zero, List.set_cons_succ, List.getElem_toArray, List.getElem_cons_zero]
      refine wpAnyH_take (i := 1) (v := ?_) rfl (by kernel_rfl) (by kernel_rfl) (by kernel_rfl) (fun _ _ _ h => h) (Or.inl ⟨by rfl, fun w hSw => ?_⟩) (by assumption) ?_
      rotate_left
      · (try dsimp only at hSw); go_simp; try with_reducible rfl
      simp only [Act.put, List.setIfInBounds_toArray, List.set_cons_zero, List.set_cons_succ, List.getElem_toArray, List.getElem_cons_succ, List.getElem_cons_zero]
      refine wpAnyH_take (i := 2) (v := ?_) rfl (by kernel_rfl) (by kernel_rfl) (by kernel_rfl) (fun _ _ _ h => h) (Or.inl ⟨by rfl, fun w hSw => ?_⟩) (by assumption) ?_
      rotate_left
      · (try dsimp only at hSw); go_simp; try with_reducible rfl
      simp only [Act.put, List.setIfInBounds_toArray, List.set_cons_zero, List.set_cons_succ, List.getElem_toArray, List.getElem_cons_succ, List.getElem_cons_zero]
      refine wpAnyH_take (i := 3) (v := ?_) rfl (by kernel_rfl) (by kernel_rfl) (by kernel_rfl) (fun _ _ _ h => h) (Or.inl ⟨by rfl, fun w hSw => ?_⟩) (by assumption) ?_
      rotate_left
      · (try dsimp only at hSw); go_simp; try with_reducible rfl
      simp only [Act.put, List.setIfInBounds_toArray, List.set_cons_zero, List.set_cons_succ, List.getElem_toArray, List.getElem_cons_succ, List.getElem_cons_zero]
      refine wpAnyH_take (i := 4) (v := ?_) rfl (by kernel_rfl) (by kernel_rfl) (by kernel_rfl) (fun _ _ _ h => h) (Or.inl ⟨by rfl, fun w hSw => ?_⟩) (by assumption) ?_
      rotate_left
      · (try dsimp only at hSw); go_simp; try with_reducible rfl
      simp only [Act.put, List.setIfInBounds_toArray, List.set_cons_zero, List.set_cons_succ, List.getElem_toArray, List.getElem_cons_succ, List.getElem_cons_zero]
      refine wpAnyH_take (i := 5) (v := ?_) rfl (by kernel_rfl) (by kernel_rfl) (by kernel_rfl) (fun _ _ _ h => h) (Or.inl ⟨by rfl, fun w hSw => ?_⟩) (by assumption) ?_
      rotate_left
      · (try dsimp only at hSw); go_simp; try with_reducible rfl
      simp only [Act.put, List.setIfInBounds_toArray, List.set_cons_zero, List.set_cons_succ, List.getElem_toArray, List.getElem_cons_succ, List.getElem_cons_zero]
      refine wpAnyH_take (i := 6) (v := ?_) rfl (by kernel_rfl) (by kernel_rfl) (by kernel_rfl) (fun _ _ _ h => h) (Or.inl ⟨by rfl, fun w hSw => ?_⟩) (by assumption) ?_
      rotate_left
      · (try dsimp only at hSw); go_simp; try with_reducible rfl
      simp only [Act.put, List.setIfInBounds_toArray, List.set_cons_zero, List.set_cons_succ, List.getElem_toArray, List.getElem_cons_succ, List.getElem_cons_zero]
      refine wpAnyH_ready (rs := [7]) (by kernel_rfl) (by simp) ?_
      refine AllReadyH.cons rfl (fun K hK => ?_) AllReadyH.nil
      simp only [List.getElem_toArray, List.getElem_cons_succ, List.getElem_cons_zero]
      go_simp
      refine (blocks_any x.size _).mono ?_
      rintro e w4 ⟨rfl, rfl⟩
      go_wp2_with (fail)
      refine hK.out _ _ ⟨HN3.out.c4, HN3.out.c3⟩ (fun hHeld => ?_)
      clear hK K
      refine wpAnyH_take (i := 8) (v := ?_) rfl (by kernel_rfl) (by kernel_rfl) (by kernel_rfl) (fun _ _ _ h => h) (Or.inl ⟨by rfl, fun w hSw => ?_⟩) (by assumption) ?_
      rotate_left
      · (try dsimp only at hSw); go_simp; try with_reducible rfl
      simp only [Act.put, List.setIfInBounds_toArray, List.set_cons_zero, List.set_cons_succ, List.getElem_toArray, List.getElem_cons_succ, List.getElem_cons_zero]
      refine wpAnyH_take (i := 9) (v := ?_) rfl (by kernel_rfl) (by kernel_rfl) (by kernel_rfl) (fun _ _ _ h => h) (Or.inl ⟨by rfl, fun w hSw => ?_⟩) (by assumption) ?_
      rotate_left
      · (try dsimp only at hSw); go_simp; try with_reducible rfl
      simp only [Act.put, List.setIfInBounds_toArray, List.set_cons_zero, List.set_cons_succ, List.getElem_toArray, List.getElem_cons_succ, List.getElem_cons_zero]
      refine wpAnyH_take (i := 10) (v := ?_) rfl (by kernel_rfl) (by kernel_rfl) (by kernel_rfl) (fun _ _ _ h => h) (Or.inl ⟨by rfl, fun w hSw => ?_⟩) (by assumption) ?_
      rotate_left
      · (try dsimp only at hSw); go_simp; try with_reducible rfl
      simp only [Act.put, List.setIfInBounds_toArray, List.set_cons_zero, List.set_cons_succ, List.getElem_toArray, List.getElem_cons_succ, List.getElem_cons_zero]
      refine wpAnyH_take (i := 11) (v := ?_) rfl (by kernel_rfl) (by kernel_rfl) (by kernel_rfl) (fun _ _ _ h => h) (Or.inl ⟨by rfl, fun w hSw => ?_⟩) (by assumption) ?_
      rotate_left
      · (try dsimp only at hSw); go_simp; try with_reducible rfl
      simp only [Act.put, List.setIfInBounds_toArray, List.set_cons_zero, List.set_cons_succ, List.getElem_toArray, List.getElem_cons_succ, List.getElem_cons_zero]
      refine wpAnyH_take (i := 12) (v := ?_) rfl (by kernel_rfl) (by kernel_rfl) (by kernel_rfl) (fun _ _ _ h => h) (Or.inl ⟨by rfl, fun w hSw => ?_⟩) (by assumption) ?_
      rotate_left
      · (try dsimp only at hSw); go_simp; try with_reducible rfl
      simp only [Act.put, List.setIfInBounds_toArray, List.set_cons_zero, List.set_cons_succ, List.getElem_toArray, List.getElem_cons_succ, List.getElem_cons_zero]
      refine wpAnyH_take (i := 13) (v := ?_) rfl (by kernel_rfl) (by kernel_rfl) (by kernel_rfl) (fun _ _ _ h => h) (Or.inl ⟨by rfl, fun w hSw => ?_⟩) (by assumption) ?_
      rotate_left
      · (try dsimp only at hSw); go_simp; try with_reducible rfl
      simp only [Act.put, List.setIfInBounds_toArray, List.set_cons_zero, List.set_cons_succ, List.getElem_toArray, List.getElem_cons_succ, List.getElem_cons_zero]
      refine wpAnyH_ready (rs := [14]) (by kernel_rfl) (by simp) ?_
      refine AllReadyH.cons rfl (fun K hK => ?_) AllReadyH.nil
      simp only [List.getElem_toArray, List.getElem_cons_succ, List.getElem_cons_zero]
      go_simp
      refine (containsI_any 98 _ enters_node1 _ w3 (gives_node d r s w.heap.size w3 HX3.out) x.a x.n x.c x.ks HI3.out HN9.out).mono ?_
      rintro e w5 ⟨rfl, hb⟩
      have HN5 := Lib.hid (HN3.out.next hb)
      have HB5 := Lib.hid (HB3.out.trans (hb.mono HB3.out.size))
      clear hb
      go_wp2_with (fail)
      refine hK.out _ _ ⟨HN5.out.c4, HN5.out.c3⟩ (fun hHeld => ?_)
      clear hK K
      refine wpAnyH_take (i := 15) (v := ?_) rfl (by kernel_rfl) (by kernel_rfl) (by kernel_rfl) (fun _ _ _ h => h) (Or.inl ⟨by rfl, fun w hSw => ?_⟩) (by assumption) ?_
      rotate_left
      · (try dsimp only at hSw); go_simp; try with_reducible rfl
      simp only [Act.put, List.setIfInBounds_toArray, List.set_cons_zero, List.set_cons_succ, List.getElem_toArray, List.getElem_cons_succ, List.getElem_cons_zero]
      refine wpAnyH_take (i := 16) (v := ?_) rfl (by kernel_rfl) (by kernel_rfl) (by kernel_rfl) (fun _ _ _ h => h) (Or.inl ⟨by rfl, fun w hSw => ?_⟩) (by assumption) ?_
      rotate_left
      · (try dsimp only at hSw); go_simp; try with_reducible rfl
      simp only [Act.put, List.setIfInBounds_toArray, List.set_cons_zero, List.set_cons_succ, List.getElem_toArray, List.getElem_cons_succ, List.getElem_cons_zero]
      refine wpAnyH_take (i := 17) (v := ?_) rfl (by kernel_rfl) (by kernel_rfl) (by kernel_rfl) (fun _ _ _ h => h) (Or.inl ⟨by rfl, fun w hSw => ?_⟩) (by assumption) ?_
      rotate_left
      · (try dsimp only at hSw); go_simp; try with_reducible rfl
      simp only [Act.put, List.setIfInBounds_toArray, List.set_cons_zero, List.set_cons_succ, List.getElem_toArray, List.getElem_cons_succ, List.getElem_cons_zero]
      refine wpAnyH_done (by kernel_rfl) ?_ _
      go_wp2_with (fail)
      go_ret
      exact ⟨ret_bool (by rw [HZ.out]), HB5.out⟩
    · have d1 : decide ((x.n : Int) ≤ blkN x.size) = false := decide_eq_false hl
      have HZ := Lib.hid (show ndO (adO d r s) x.nd = false by
        rw [ndO, ← HRG.out]
        rw [show decide ((x.nd.ads.length : Int) ≤ blkN x.nd.size) = false from decide_eq_false (by show ¬ (x.ks.length : Int) ≤ blkN x.size; rw [HL.out]; exact hl)]
        rfl)
      clear hl
      refine wpAnyH_take (i := 0) (v := ?_) rfl (by kernel_rfl) (by kernel_rfl) (by kernel_rfl) (fun _ _ _ h => h) (Or.inl ⟨by rfl, fun w hSw => ?_⟩) (by assumption) ?_
      rotate_left
      · (try dsimp only at hSw); go_simp; try with_reducible rfl
      simp only [Act.put, List.setIfInBounds_toArray, List.set_cons_zero, List.set_cons_succ, List.getElem_toArray, List.getElem_cons_zero]
      refine wpAnyH_take (i := 1) (v := ?_) rfl (by kernel_rfl) (by kernel_rfl) (by kernel_rfl) (fun _ _ _ h => h) (Or.inl ⟨by rfl, fun w hSw => ?_⟩) (by assumption) ?_
      rotate_left
      · (try dsimp only at hSw); go_simp; try with_reducible rfl
      simp only [Act.put, List.setIfInBounds_toArray, List.set_cons_zero, List.set_cons_succ, List.getElem_toArray, List.getElem_cons_succ, List.getElem_cons_zero]
      refine wpAnyH_take (i := 2) (v := ?_) rfl (by kernel_rfl) (by kernel_rfl) (by kernel_rfl) (fun _ _ _ h => h) (Or.inl ⟨by rfl, fun w hSw => ?_⟩) (by assumption) ?_
      rotate_left
      · (try dsimp only at hSw); go_simp; try with_reducible rfl
      simp only [Act.put, List.setIfInBounds_toArray, List.set_cons_zero, List.set_cons_succ, List.getElem_toArray, List.getElem_cons_succ, List.getElem_cons_zero]
      refine wpAnyH_take (i := 3) (v := ?_) rfl (by kernel_rfl) (by kernel_rfl) (by kernel_rfl) (fun _ _ _ h => h) (Or.inl ⟨by rfl, fun w hSw => ?_⟩) (by assumption) ?_
      rotate_left
      · (try dsimp only at hSw); go_simp; try with_reducible rfl
      simp only [Act.put, List.setIfInBounds_toArray, List.set_cons_zero, List.set_cons_succ, List.getElem_toArray, List.getElem_cons_succ, List.getElem_cons_zero]
      refine wpAnyH_take (i := 4) (v := ?_) rfl (by kernel_rfl) (by kernel_rfl) (by kernel_rfl) (fun _ _ _ h => h) (Or.inl ⟨by rfl, fun w hSw => ?_⟩) (by assumption) ?_
      rotate_left
      · (try dsimp only at hSw); go_simp; try with_reducible rfl
      simp only [Act.put, List.setIfInBounds_toArray, List.set_cons_zero, List.set_cons_succ, List.getElem_toArray, List.getElem_cons_succ, List.getElem_cons_zero]
      refine wpAnyH_take (i := 5) (v := ?_) rfl (by kernel_rfl) (by kernel_rfl) (by kernel_rfl) (fun _ _ _ h => h) (Or.inl ⟨by rfl, fun w hSw => ?_⟩) (by assumption) ?_
      rotate_left
      · (try dsimp only at hSw); go_simp; try with_reducible rfl
      simp only [Act.put, List.setIfInBounds_toArray, List.set_cons_zero, List.set_cons_succ, List.getElem_toArray, List.getElem_cons_succ, List.getElem_cons_zero]
      refine wpAnyH_take (i := 6) (v := ?_) rfl (by kernel_rfl) (by kernel_rfl) (by kernel_rfl) (fun _ _ _ h => h) (Or.inl ⟨by rfl, fun w hSw => ?_⟩) (by assumption) ?_
      rotate_left
      · (try dsimp only at hSw); go_simp; try with_reducible rfl
      simp only [Act.put, List.setIfInBounds_toArray, List.set_cons_zero, List.set_cons_succ, List.getElem_toArray, List.getElem_cons_succ, List.getElem_cons_zero]
      refine wpAnyH_ready (rs := [7]) (by kernel_rfl) (by simp) ?_
      refine AllReadyH.cons rfl (fun K hK => ?_) AllReadyH.nil
      simp only [List.getElem_toArray, List.getElem_cons_succ, List.getElem_cons_zero]
      go_simp
      refine (blocks_any x.size _).mono ?_
      rintro e w4 ⟨rfl, rfl⟩
      go_wp2_with (fail)
      refine hK.out _ _ ⟨HN3.out.c4, HN3.out.c3⟩ (fun hHeld => ?_)
      clear hK K
      refine wpAnyH_take (i := 8) (v := ?_) rfl (by kernel_rfl) (by kernel_rfl) (by kernel_rfl) (fun _ _ _ h => h) (Or.inl ⟨by rfl, fun w hSw => ?_⟩) (by assumption) ?_
      rotate_left
      · (try dsimp only at hSw); go_simp; try with_reducible rfl
      simp only [Act.put, List.setIfInBounds_toArray, List.set_cons_zero, List.set_cons_succ, List.getElem_toArray, List.getElem_cons_succ, List.getElem_cons_zero]
      refine wpAnyH_take (i := 9) (v := ?_) rfl (by kernel_rfl) (by kernel_rfl) (by kernel_rfl) (fun _ _ _ h => h) (Or.inl ⟨by rfl, fun w hSw => ?_⟩) (by assumption) ?_
      rotate_left
      · (try dsimp only at hSw); go_simp; try with_reducible rfl
      simp only [Act.put, List.setIfInBounds_toArray, List.set_cons_zero, List.set_cons_succ, List.getElem_toArray, List.getElem_cons_succ, List.getElem_cons_zero]
      refine wpAnyH_take (i := 10) (v := ?_) rfl (by kernel_rfl) (by kernel_rfl) (by kernel_rfl) (fun _ _ _ h => h) (Or.inl ⟨by rfl, fun w hSw => ?_⟩) (by assumption) ?_
      rotate_left
      · (try dsimp only at hSw); go_simp; try with_reducible rfl
      simp only [Act.put, List.setIfInBounds_toArray, List.set_cons_zero, List.set_cons_succ, List.getElem_toArray, List.getElem_cons_succ, List.getElem_cons_zero]
      refine wpAnyH_take (i := 11) (v := undef) rfl (by kernel_rfl) (by kernel_rfl) (by kernel_rfl) (fun _ _ _ h => h) (Or.inr ⟨by rfl, rfl⟩) (by assumption) ?_
      simp only [Act.put, List.setIfInBounds_toArray, List.set_cons_zero, List.set_cons_succ, List.getElem_toArray, List.getElem_cons_succ, List.getElem_cons_zero]
      refine wpAnyH_take (i := 12) (v := undef) rfl (by kernel_rfl) (by kernel_rfl) (by kernel_rfl) (fun _ _ _ h => h) (Or.inr ⟨by rfl, rfl⟩) (by assumption) ?_
      simp only [Act.put, List.setIfInBounds_toArray, List.set_cons_zero, List.set_cons_succ, List.getElem_toArray, List.getElem_cons_succ, List.getElem_cons_zero]
      refine wpAnyH_take (i := 13) (v := undef) rfl (by kernel_rfl) (by kernel_rfl) (by kernel_rfl) (fun _ _ _ h => h) (Or.inr ⟨by rfl, rfl⟩) (by assumption) ?_
      simp only [Act.put, List.setIfInBounds_toArray, List.set_cons_zero, List.set_cons_succ, List.getElem_toArray, List.getElem_cons_succ, List.getElem_cons_zero]
      refine wpAnyH_take (i := 14) (v := undef) rfl (by kernel_rfl) (by kernel_rfl) (by kernel_rfl) (fun _ _ _ h => h) (Or.inr ⟨by rfl, rfl⟩) (by assumption) ?_
      simp only [Act.put, List.setIfInBounds_toArray, List.set_cons_zero, List.set_cons_succ, List.getElem_toArray, List.getElem_cons_succ, List.getElem_cons_zero]
      refine wpAnyH_take (i := 15) (v := undef) rfl (by kernel_rfl) (by kernel_rfl) (by kernel_rfl) (fun _ _ _ h => h) (Or.inr ⟨by rfl, rfl⟩) (by assumption) ?_
      simp only [Act.put, List.setIfInBounds_toArray, List.set_cons_zero, List.set_cons_succ, List.getElem_toArray, List.getElem_cons_succ, List.getElem_cons_zero]
      refine wpAnyH_take (i := 16) (v := ?_) rfl (by kernel_rfl) (by kernel_rfl) (by kernel_rfl) (fun _ _ _ h => h) (Or.inl ⟨by rfl, fun w hSw => ?_⟩) (by assumption) ?_
      rotate_left
      · (try dsimp only at hSw); go_simp; try with_reducible rfl
      simp only [Act.put, List.setIfInBounds_toArray, List.set_cons_zero, List.set_cons_succ, List.getElem_toArray, List.getElem_cons_succ, List.getElem_cons_zero]
      refine wpAnyH_take (i := 17) (v := ?_) rfl (by kernel_rfl) (by kernel_rfl) (by kernel_rfl) (fun _ _ _ h => h) (Or.inl ⟨by rfl, fun w hSw => ?_⟩) (by assumption) ?_
      rotate_left
      · (try dsimp only at hSw); go_simp; try with_reducible rfl
      simp only [Act.put, List.setIfInBounds_toArray, List.set_cons_zero, List.set_cons_succ, List.getElem_toArray, List.getElem_cons_succ, List.getElem_cons_zero]
      refine wpAnyH_done (by kernel_rfl) ?_ _
      go_wp2_with (fail)
      go_ret
      exact ⟨ret_bool (by rw [HZ.out]), HB3.out⟩
theorem lr_noN {N : Int} {f : Nat → Nw} {n i : Nat} (hi : i < n) (h : ndO N (f i).nd = false) : lrO N (lnL f n) = false := by
  cases hh : lrO N (lnL f n) with
  | false => rfl
  | true =>
    rw [lrO_iff, lnL_len] at hh
    have := hh.nd i hi
    rw [lnL_get f hi, ← ndO_iff, h] at this
    cases this
theorem lr_noI {N : Int} {f : Nat → Nw} {n i : Nat} (hi : i < n) (h : 56 < (f i).ino) : lrO N (lnL f n) = false := by
  cases hh : lrO N (lnL f n) with
  | false => rfl
  | true =>
    rw [lrO_iff, lnL_len] at hh
    have := hh.top i hi
    rw [lnL_get f hi] at this
    have : (f i).ino ≤ 56 := this
    omega
theorem lr_noU {N : Int} {f : Nat → Nw} {n i : Nat} (hi : i + 1 < n) (h : (f (i + 1)).ino ≤ (f i).ino) : lrO N (lnL f n) = false := by
  cases hh : lrO N (lnL f n) with
  | false => rfl
  | true =>
    rw [lrO_iff, lnL_len] at hh
    have := hh.up i hi
    rw [lnL_get f hi, lnL_get f (by omega : i < n)] at this
    have : (f i).ino < (f (i + 1)).ino := this
    omega
/-- The first i nodes are right. -/
structure FstR (N : Int) (f : Nat → Nw) (i : Nat) : Prop where
  top : ∀ j, j < i → (f j).ino ≤ 56
  up : ∀ j, j + 1 < i → (f j).ino < (f (j + 1)).ino
  nd : ∀ j, j < i → ndO N (f j).nd = true
theorem FstR.zero (N : Int) (f : Nat → Nw) : FstR N f 0 := ⟨fun j h => by omega, fun j h => by omega, fun j h => by omega⟩
theorem FstR.succ {N : Int} {f : Nat → Nw} {i : Nat} (h : FstR N f i) (h1 : (f i).ino ≤ 56) (h2 : i = 0 ∨ (f (i - 1)).ino < (f i).ino) (h3 : ndO N (f i).nd = true) : FstR N f (i + 1) := by
  refine ⟨fun j hj => ?_, fun j hj => ?_, fun j hj => ?_⟩
  · by_cases e : j = i
    · rw [e]; exact h1
    · exact h.top j (by omega)
  · by_cases e : j + 1 = i
    · rcases h2 with e2 | e2
      · omega
      · rw [e]
        rw [show i - 1 = j by omega] at e2
        exact e2
    · exact h.up j (by omega)
  · by_cases e : j = i
    · rw [e]; exact h3
    · exact h.nd j (by omega)
theorem FstR.ge {N : Int} {f : Nat → Nw} {n : Nat} (h : FstR N f n) (h0 : (f 0).ino = 1) {j : Nat} (hj : j < n) : (j : Int) + 1 ≤ (f j).ino := by
  induction j with
  | zero => omega
  | succ j ih =>
    have := ih (by omega)
    have := h.up j hj
    omega
theorem FstR.all {N : Int} {f : Nat → Nw} {n : Nat} (h : FstR N f n) (hn : 1 ≤ n) (h0 : (f 0).ino = 1) (k0 : (f 0).kind = 2) : lrO N (lnL f n) = true := by
  rw [lrO_iff, lnL_len]
  have h1 := h.ge h0 (j := n - 1) (by omega)
  have h2 := h.top (n - 1) (by omega)
  refine ⟨hn, by omega, ?_, ?_, fun i hi => ?_, fun i hi => ?_, fun i hi => ?_⟩
  · show ((lnL f n).getD 0 default).ino = 1
    rw [lnL_get f (by omega)]; exact h0
  · show ((lnL f n).getD 0 default).kind = 2
    rw [lnL_get f (by omega)]; exact k0
  · show ((lnL f n).getD i default).ino ≤ 56
    rw [lnL_get f hi]; exact h.top i hi
  · show ((lnL f n).getD i default).ino < ((lnL f n).getD (i + 1) default).ino
    rw [lnL_get f (by omega), lnL_get f hi]; exact h.up i hi
  · show NdR N ((lnL f n).getD i default)
    rw [lnL_get f hi]; exact ndO_iff.1 (h.nd i hi)
/-- The Ino of the node ahead. -/
def lasI (f : Nat → Nw) (i : Nat) : Int := if i = 0 then 0 else (f (i - 1)).ino
theorem mr_noN {d r s : Int} {f : Nat → Nw} {n i : Nat} (hi : i < n) (h : ndO (adO d r s) (f i).nd = false) : mrO d r s (lnL f n) = false := by
  by_cases hr : Rt d r s
  · rw [adO_yes hr] at h
    rw [mrO, lr_noN hi h, Bool.and_false]
  · rw [mrO, geoO_no hr]; rfl

theorem pmr_any (d r s : Int) (a : Option Addr) (n c : Nat) (f : Nat → Nw) (w : World) (hl : NwsAt w a n f) (hn6 : n ≤ 1000000) :
    Calls Try.prog 17 #[gv d r s, .slice a n c] w fun e w' => e = .returned (.bool (mrO d r s (lnL f n))) ∧ Below w.heap.size w w' := by
  have hx := Bx.mk' w d r s 23
  have hB : Below w.heap.size w (w.alloc (.cells #[.int .i64 d, .int .i64 r, .int .i64 s] 23 (0, 0))) := (Below.refl _ _).alloc (Nat.le_refl _) _
  obtain ⟨w1, hw1⟩ : ∃ w1, w1 = w.alloc (.cells #[.int .i64 d, .int .i64 r, .int .i64 s] 23 (0, 0)) := ⟨_, rfl⟩
  rw [← hw1] at hx hB
  have HX := Lib.hid hx
  have HB := Lib.hid hB
  have HL := Lib.hid (hl.next hB)
  have HW := Lib.hid hw1
  clear hx hB hl hw1
  by_cases h0 : n = 0
  · have HZ := Lib.hid (show mrO d r s (lnL f n) = false by rw [mrO, lrO_len (by rw [lnL_len]; omega), Bool.and_false])
    have d0 : ((n : Int) == 0) = true := by simp [h0]
    clear h0
    go_enter Try.func17, Try.ntmps17
    go_wp2_with (fail)
    rw [← HW.out]
    go_ret
    exact ⟨ret_bool (by rw [HZ.out]), HB.out⟩
  have d0 : ((n : Int) == 0) = false := by simp [h0]
  have HN := Lib.hid (show 1 ≤ n by omega)
  obtain ⟨b, off, rfl, hlt, hc⟩ : ∃ b off, a = some ⟨b, off, none⟩ ∧ b < w1.heap.size ∧ ∀ i, i < n → NwIn w1 b (off + i * 5) (f i) := by
    rcases HL.out with h | h
    · omega
    · exact h
  have hf := hc 0 (by omega)
  have y0 := hf.c0
  have y1 := hf.c1
  rw [show off + 0 * 5 = off by omega] at y0 y1
  obtain ⟨i0, hi0⟩ : ∃ z, z = (f 0).ino := ⟨_, rfl⟩
  obtain ⟨k0, hk0⟩ : ∃ z, z = (f 0).kind := ⟨_, rfl⟩
  rw [← hi0] at y0
  rw [← hk0] at y1
  have HI0 := Lib.hid hi0
  have HK0 := Lib.hid hk0
  have hn0 : 0 < n := by omega
  have HLT := Lib.hid hlt
  have HC := Lib.hid hc
  rw [HW.out] at y0 y1
  clear hf hc hi0 hk0 h0 hlt
  by_cases e1 : i0 = 1
  case neg =>
    have d1 : (i0 != 1) = true := by simp [e1]
    have HZ := Lib.hid (show mrO d r s (lnL f n) = false by rw [mrO, lrO_ino HN.out (by rw [← HI0.out]; exact e1), Bool.and_false])
    clear e1
    go_enter Try.func17, Try.ntmps17
    go_wp2_with (fail)
    rw [← HW.out]
    go_ret
    exact ⟨ret_bool (by rw [HZ.out]), HB.out⟩
  by_cases e2 : k0 = 2
  case neg =>
    have d1 : (i0 != 1) = false := by simp [e1]
    have d2 : (k0 != 2) = true := by simp [e2]
    have HZ := Lib.hid (show mrO d r s (lnL f n) = false by rw [mrO, lrO_kind HN.out (by rw [← HK0.out]; exact e2), Bool.and_false])
    clear e1 e2
    go_enter Try.func17, Try.ntmps17
    go_wp2_with (fail)
    rw [← HW.out]
    go_ret
    exact ⟨ret_bool (by rw [HZ.out]), HB.out⟩
  have d1 : (i0 != 1) = false := by simp [e1]
  have d2 : (k0 != 2) = false := by simp [e2]
  have HE := Lib.hid (show (f 0).ino = 1 ∧ (f 0).kind = 2 from ⟨by rw [← HI0.out]; exact e1, by rw [← HK0.out]; exact e2⟩)
  clear e1 e2
  go_enter Try.func17, Try.ntmps17
  go_wp2_with (fail)
  rw [← HW.out]
  rw [← HW.out] at y0 y1
  clear y0 y1 d0 d1 d2 HI0 HK0
  go_loopw [5, 7, 27] (fun v5 v7 v27 wr => ∃ i : Nat, i ≤ n ∧ v27 = .int .i64 i ∧ v5 = .int .i64 (lasI f i) ∧ FstR (adO d r s) f i ∧ Below w1.heap.size w1 wr) (fun v5 v7 v27 _ => n - (RowKit.intOf v27).toNat)
  case atStart => exact ⟨0, by omega, rfl, rfl, FstR.zero _ _, Below.refl _ _⟩
  case round =>
    obtain ⟨i, hi, rfl, rfl, hF, hb⟩ := hrel
    have HF := Lib.hid hF
    have HBr := Lib.hid hb
    have HXr := Lib.hid (HX.out.next hb)
    have HBw := Lib.hid (HB.out.trans (hb.mono HB.out.size))
    obtain ⟨las, hlas⟩ : ∃ z, z = lasI f i := ⟨_, rfl⟩
    rw [← hlas]
    have HLA := Lib.hid hlas
    clear hF hb hlas
    by_cases hlt : i < n
    · have k1 : (i : Int) < (n : Int) := by omega
      have hin := (HC.out i hlt).next HLT.out HBr.out
      obtain ⟨x, hx⟩ : ∃ x, x = f i := ⟨_, rfl⟩
      rw [← hx] at hin
      have HXE := Lib.hid hx
      have c0 := hin.c0
      have c1 := hin.c1
      have c2 := hin.c2
      have c3 := hin.c3
      have c4 := hin.c4
      have hbl := Nat.lt_of_lt_of_le HLT.out HBr.out.size
      have HINS := Lib.hid hin.ins
      have HLAs := Lib.hid (show 0 < i → las = (f (i - 1)).ino from fun h => by rw [HLA.out, lasI, if_neg (by omega)])
      have HLAz := Lib.hid (show i = 0 → las = 0 from fun h => by rw [HLA.out, lasI, if_pos h])
      clear hx hin
      by_cases u1 : x.ino ≤ las
      · have HZ := Lib.hid (show mrO d r s (lnL f n) = false by
          by_cases e : i = 0
          · exfalso
            have h1 := HLAz.out e
            have h2 := HE.out.1
            rw [← e, ← HXE.out] at h2
            omega
          · have h1 := HLAs.out (by omega)
            rw [mrO, lr_noU (i := i - 1) (by omega) (by rw [show i - 1 + 1 = i by omega, ← HXE.out, ← h1]; exact u1), Bool.and_false])
        have d1 : decide (x.ino ≤ las) = true := decide_eq_true u1
        clear u1
        go_wp2_with (fail)
        go_ret
        exact ⟨ret_bool (by rw [HZ.out]), HBw.out.trans ((((Below.refl _ _).alloc (Nat.le_refl _) _)).mono HBw.out.size)⟩
      by_cases u2 : 56 < x.ino
      · have HZ := Lib.hid (show mrO d r s (lnL f n) = false by
          rw [mrO, lr_noI hlt (by rw [← HXE.out]; exact u2), Bool.and_false])
        have d1 : decide (x.ino ≤ las) = false := decide_eq_false u1
        have d2 : decide ((56 : Int) < x.ino) = true := decide_eq_true u2
        clear u1 u2
        go_wp2_with (fail)
        go_ret
        exact ⟨ret_bool (by rw [HZ.out]), HBw.out.trans ((((Below.refl _ _).alloc (Nat.le_refl _) _)).mono HBw.out.size)⟩
      have d1 : decide (x.ino ≤ las) = false := decide_eq_false u1
      have d2 : decide ((56 : Int) < x.ino) = false := decide_eq_false u2
      have HU := Lib.hid (And.intro u1 u2)
      have g0 := HXr.out.c0
      have g1 := HXr.out.c1
      have g2 := HXr.out.c2
      have g3 := HXr.out.lt
      obtain ⟨wx, hwx⟩ : ∃ wx, wx = wr.alloc (.cells #[.int .i64 x.ino, .int .i64 x.kind, .int .i64 x.links, .int .i64 x.size, .slice x.a x.n x.c] 83 (0, 0)) := ⟨_, rfl⟩
      have hbx : Below wr.heap.size wr wx := by rw [hwx]; exact (Below.refl _ _).alloc (Nat.le_refl _) _
      have HWX := Lib.hid hwx
      have HBX := Lib.hid hbx
      have hcall := pnode_any d r s x wx (HINS.out.next hbx)
      have hNb := Nwb.mk' wr x 83
      have HNb := Lib.hid hNb
      obtain ⟨nd, hnd⟩ : ∃ z, z = ndO (adO d r s) x.nd := ⟨_, rfl⟩
      rw [← hnd] at hcall
      have HND := Lib.hid hnd
      clear u1 u2 hwx hbx hnd hNb
      cases nd with
      | false =>
        have HZ := Lib.hid (mr_noN hlt (show ndO (adO d r s) (f i).nd = false by rw [← HXE.out, ← HND.out]))
        go_wp2_with (fail)
        rw [← HWX.out]
        refine hcall.mono ?_
        rintro e w2 ⟨rfl, hb⟩
        have HB2 := Lib.hid (HBX.out.trans (hb.mono HBX.out.size))
        clear hb hcall
        go_wp2_with (fail)
        go_ret
        exact ⟨ret_bool (by rw [HZ.out]), HBw.out.trans (HB2.out.mono HBw.out.size)⟩
      | true =>
        go_wp2_with (fail)
        rw [← HWX.out]
        refine hcall.mono ?_
        rintro e w2 ⟨rfl, hb⟩
        have HB2 := Lib.hid (HBX.out.trans (hb.mono HBX.out.size))
        have HN2 := Lib.hid (show Nwb w2 wr.heap.size x from by
          have h1 := HNb.out
          have h2 : w.heap.size = w.heap.size := rfl
          rw [← show wx = wr.alloc (.cells #[.int .i64 x.ino, .int .i64 x.kind, .int .i64 x.links, .int .i64 x.size, .slice x.a x.n x.c] 83) from HWX.out] at h1
          exact h1.next hb)
        have m0 := HN2.out.c0
        clear hb hcall c0 c1 c2 c3 c4
        go_wp2_with (fail)
        go_roundw
        case rel => exact ⟨i + 1, by omega, by go_num, by rw [lasI, if_neg (by omega), Nat.add_sub_cancel, ← HXE.out], HF.out.succ (by rw [← HXE.out]; have := HU.out.2; omega) (by
          by_cases e : i = 0
          · exact .inl e
          · refine .inr ?_
            have h1 := HLAs.out (by omega)
            have h2 := HU.out.1
            rw [← h1, ← HXE.out]
            omega) (by rw [← HXE.out, ← HND.out]), HBr.out.trans (HB2.out.mono HBr.out.size)⟩
        case measure => simp [RowKit.intOf]; omega
    · have hin : i = n := by omega
      have k1 : ¬ (i : Int) < (n : Int) := by omega
      have HIN := Lib.hid hin
      clear hin hlt hi
      have g0 := HXr.out.c0
      have g1 := HXr.out.c1
      have g2 := HXr.out.c2
      have g3 := HXr.out.lt
      by_cases hr : Rt d r s
      · have HR := Lib.hid hr
        clear hr
        go_wp2_with (fail)
        refine (right_yes d r s _ HR.out).mono ?_
        rintro e w2 ⟨rfl, hb⟩
        have HB2 := Lib.hid hb
        clear hb
        go_wp2_with (fail)
        go_ret
        exact ⟨ret_bool (by
          have h1 := HF.out
          rw [HIN.out, adO_yes HR.out] at h1
          rw [mrO, geoO_iff.2 HR.out, h1.all HN.out HE.out.1 HE.out.2]; rfl), HBw.out.trans (HB2.out.mono HBw.out.size)⟩
      · have HR := Lib.hid hr
        clear hr
        go_wp2_with (fail)
        refine (right_no d r s _ HR.out).mono ?_
        rintro e w2 ⟨rfl, hb⟩
        have HB2 := Lib.hid hb
        clear hb
        go_wp2_with (fail)
        go_ret
        exact ⟨ret_bool (by rw [mrO, geoO_no HR.out]; rfl), HBw.out.trans (HB2.out.mono HBw.out.size)⟩
end Go.Proofs.Ytegcjpocdfmpfaa
namespace Go.Proofs.Ytegcjpocdfmpfaa
open Go.RowKit Go.Maps

theorem lawN : Keyed Try.prog 3 := int_keyed Try.underlying3
/-- A place as a key. -/
def kI (k : Nat) : Lit := .int .i64 (k : Int)
theorem kI_inj {a b : Nat} (h : kI a = kI b) : a = b := by
  simp only [kI, Lit.int.injEq] at h
  omega
theorem kI_wf {k : Nat} (h : k ≤ 9223372036854775807) : (Lit.int .i64 (k : Int)).wf = true := WalkArith.wf_i64 (by omega)
theorem kI_of {k : Nat} (h : k ≤ 9223372036854775807) : keyOf Try.prog 3 (.int .i64 (k : Int)) = some (kI k) := keyOf_int_mk Try.underlying3 (kI_wf h)
theorem kI_key {k : Nat} (h : k ≤ 9223372036854775807) : WideAt.IsKeyLit (kI k) := lawN.key (kI_of h)

/-- One more, if it isn't there yet. -/
def insN (m : List Nat) (a : Nat) : List Nat := if a ∈ m then m else m ++ [a]
/-- The pointers' blocks for one block more. -/
def ptgS (m : List Nat) (k : Int) : List Nat := if k < 16 ∨ 828 ≤ k then m else if k < 44 then insN m 0 else insN (insN m 1) (2 + ((k - 44) / 28).toNat)
/-- The pointers' blocks for the first i blocks. -/
def ptL (ks : List Int) (i : Nat) : List Nat := (ks.take i).foldl ptgS []
theorem ptL_succ {ks : List Int} {i : Nat} (h : i < ks.length) : ptL ks (i + 1) = ptgS (ptL ks i) (num ks i) := by
  unfold ptL
  rw [List.take_add_one, List.foldl_append]
  simp [num, List.getD, h]
/-- A map that is this set of numbers. -/
structure SetM (D : DataW Unit) (m : List Nat) : Prop where
  tidy : Tidy D
  has : ∀ k : Nat, Maps.has D (kI k) = decide (k ∈ m)
  size : Maps.size D = m.length
theorem SetM.none : SetM (.map []) [] := ⟨tidy_empty, fun k => rfl, rfl⟩
theorem SetM.ins {D : DataW Unit} {m : List Nat} (h : SetM D m) {a : Nat} (hb : a ≤ 9223372036854775807) : SetM (D.put (kI a) (.agg [])) (insN m a) := by
  have hk := kI_key hb
  have hm := h.tidy.isMap
  refine ⟨h.tidy.put hk _, fun k => ?_, ?_⟩
  · by_cases e : k = a
    · subst e
      rw [has_put_same hm hk]
      unfold insN; split <;> simp_all
    · rw [has_put_other (fun x => e (kI_inj x)), h.has]
      unfold insN; split <;> simp [e]
  · rw [size_put h.tidy, h.has, h.size]
    unfold insN; split <;> simp_all
/-- The block of such a map. -/
def StAt (w : World) (b : Nat) (m : List Nat) (N : Nat) : Prop := ∃ D, w.ownsMap Try.prog 3 unitElem b N D ∧ SetM D m
theorem StAt.mono {w : World} {b N M : Nat} {m : List Nat} (h : StAt w b m N) (hN : N ≤ M) : StAt w b m M := by
  obtain ⟨D, h1, h2⟩ := h
  exact ⟨D, h1.mono hN, h2⟩
theorem StAt.len {w : World} {b N : Nat} {m : List Nat} (h : StAt w b m N) (ty : TypeId) : (Builtin.len_ #[164] ty #[.map (some b)]).run Try.prog w = .ok (.int .i64 (m.length : Nat)) w := by
  obtain ⟨D, h1, h2⟩ := h
  have := h1.len Try.underlying164 ty
  rw [h2.size] at this
  exact this
theorem StAt.put {w : World} {b N : Nat} {m : List Nat} (h : StAt w b m N) {a : Nat} (hb : a ≤ 9223372036854775807) (hN : N ≤ 1000000000) {z : Int} (hz : z = (a : Int)) :
    ∃ w', (Instr.mapUpdate 164 (.map (some b)) (.int .i64 z) (.agg #[])).run Try.prog w = .ok () w' ∧ StAt w' b (insN m a) (N + 1) ∧ w.mapTurned w' b := by
  obtain ⟨D, h1, h2⟩ := h
  subst hz
  obtain ⟨w', hrun, hown, ht⟩ := h1.store lawN Try.underlying164 (by unfold maxLen; omega) (kI_of hb) unitElem_mk
  exact ⟨w', hrun, ⟨_, hown, h2.ins hb⟩, ht⟩

theorem pointing_any (a : Option Addr) (n c : Nat) (ks : List Int) (w : World) (h : Ins w a n ks) (hn : n ≤ 100000000) :
    Calls Try.prog 60 #[.slice a n c] w fun e w' => e = .returned (.int .i64 ((ptL ks n).length : Nat)) ∧ Below w.heap.size w w' := by
  have hmm := @run_makeMap Try.prog
  have HL := Lib.hid h.len
  have hst : StAt (w.alloc (.map #[] 0)) w.heap.size [] 0 := ⟨_, World.ownsMap_made (H := Unit) w Try.prog 3 unitElem, SetM.none⟩
  have hb1 : Below w.heap.size w (w.alloc (.map #[] 0)) := (Below.refl _ _).alloc (Nat.le_refl _) _
  have HST := Lib.hid hst
  have HB1 := Lib.hid hb1
  have HI := Lib.hid h
  obtain ⟨b, hb⟩ : ∃ b, b = w.heap.size := ⟨_, rfl⟩
  have HBE := Lib.hid hb
  clear h hst hb1
  go_enter Try.func60, Try.ntmps60
  go_wp2_with (fail)
  rw [← hb]
  clear hb
  go_loopw [5, 9, 21, 28] (fun _ v _ _ wr => ∃ k : Nat, k ≤ n ∧ v = .int .i64 k ∧ Below w.heap.size w wr ∧ StAt wr b (ptL ks k) (2 * k)) (fun _ v _ _ _ => n - (RowKit.intOf v).toNat)
  case atStart => exact ⟨0, Nat.zero_le _, rfl, HB1.out, by rw [HBE.out]; exact HST.out⟩
  case round =>
    obtain ⟨k, hk, rfl, hB, hS⟩ := hrel
    have HB := Lib.hid hB
    have HS := Lib.hid hS
    by_cases hlt : k < n
    · obtain ⟨g, off, rfl, hgl, hcl⟩ := HI.out.at (by omega)
      have hc := hcl k hlt
      rw [← hB.cell (p := ⟨g, off + k, none⟩) hgl] at hc
      obtain ⟨z, hz⟩ : ∃ z, z = num ks k := ⟨_, rfl⟩
      rw [← hz] at hc
      have HZ := Lib.hid hz
      have HSU := Lib.hid (ptL_succ (ks := ks) (i := k) (by rw [HL.out]; exact hlt))
      clear hz hgl hcl hB hS
      have k1 : (k : Int) < (n : Int) := by omega
      have k0 : (0 : Int) ≤ (k : Int) := by omega
      have fin : ∀ w2, Below w.heap.size w w2 → StAt w2 b (ptgS (ptL ks k) z) (2 * k + 2) → ∃ j : Nat, j ≤ n ∧ Value.int .i64 ((k : Int) + 1) = .int .i64 j ∧ Below w.heap.size w w2 ∧ StAt w2 b (ptL ks j) (2 * j) := fun w2 h1 h2 =>
        ⟨k + 1, by omega, by congr 1, h1, by rw [HSU.out, ← HZ.out]; exact h2⟩
      have HF := Lib.hid fin
      clear fin
      have hbs : w.heap.size ≤ wr.heap.size := HB.out.size
      by_cases z1 : z < 16
      · go_wp2_with (fail)
        go_roundw
        case rel => exact HF.out _ HB.out (by unfold ptgS; rw [if_pos (.inl z1)]; exact HS.out.mono (by omega))
        case measure => simp [RowKit.intOf]; omega
      by_cases z2 : 828 ≤ z
      · go_wp2_with (fail)
        go_roundw
        case rel => exact HF.out _ HB.out (by unfold ptgS; rw [if_pos (.inr z2)]; exact HS.out.mono (by omega))
        case measure => simp [RowKit.intOf]; omega
      by_cases z3 : z < 44
      · obtain ⟨w2, hup, hs2, ht2⟩ := HS.out.put (a := 0) (by omega) (by omega) (z := 0) rfl
        have hb2 : Below w.heap.size wr w2 := (Below.refl _ _).grown ht2.grown hbs (fun j hj => by cases hj; exact Nat.le_of_eq HBE.out.symm)
        have HB2 := Lib.hid (HB.out.trans hb2)
        have HS2 := Lib.hid hs2
        clear hs2 ht2 hb2
        go_wp2_with (fail)
        go_roundw
        case rel => exact HF.out _ HB2.out (by unfold ptgS; rw [if_neg (by omega), if_pos z3]; exact HS2.out.mono (by omega))
        case measure => simp [RowKit.intOf]; omega
      obtain ⟨w2, hup, hs2, ht2⟩ := HS.out.put (a := 1) (by omega) (by omega) (z := 1) rfl
      have hb2 : Below w.heap.size wr w2 := (Below.refl _ _).grown ht2.grown hbs (fun j hj => by cases hj; exact Nat.le_of_eq HBE.out.symm)
      obtain ⟨q, hq⟩ : ∃ q : Nat, (z - 44) / 28 = (q : Int) := ⟨((z - 44) / 28).toNat, by omega⟩
      have hq2 : q ≤ 28 := by omega
      have htd : Int.tdiv (z - 44) 28 = (q : Int) := by rw [Int.tdiv_eq_ediv_of_nonneg (by omega)]; exact hq
      obtain ⟨w3, hup3, hs3, ht3⟩ := hs2.put (a := 2 + q) (by omega) (by omega) (z := 2 + (q : Int)) (by omega)
      have hb3 : Below w.heap.size w2 w3 := (Below.refl _ _).grown ht3.grown (Nat.le_trans hbs hb2.size) (fun j hj => by cases hj; exact Nat.le_of_eq HBE.out.symm)
      have HB3 := Lib.hid ((HB.out.trans hb2).trans hb3)
      have HS3 := Lib.hid hs3
      have HQ : Hid (((z - 44) / 28).toNat = q) := Lib.hid (by omega)
      have z4 : z ≤ 9223372036854775807 := by omega
      clear hs2 ht2 hb2 hs3 ht3 hb3 hq
      go_wp2_with (fail)
      go_roundw
      case rel => exact HF.out _ HB3.out (by unfold ptgS; rw [if_neg (by omega), if_neg z3, HQ.out]; exact HS3.out.mono (by omega))
      case measure => simp [RowKit.intOf]; omega
    · obtain rfl : k = n := by omega
      have hlen := fun ty => hS.len ty
      have k1 : ¬ (k : Int) < (k : Int) := by omega
      clear hS hB
      go_wp2_with (fail)
      go_ret
      exact ⟨rfl, HB.out⟩
end Go.Proofs.Ytegcjpocdfmpfaa
