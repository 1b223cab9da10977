/-
  The strikings of all blocks from a number on, in both maps; the program's Cut by contract.
-/
import Derived.Test.YtgedgkdnjnbijaaKb
import Derived.Test.YtgedgkdnjnbijaaLay
import Derived.Deep.LoopGhost
import Derived.Laws.IdiomRangeMap
namespace Go.Proofs.Ytgedgkdnjnbijaa
open Go.RowKit Go.Maps Go.ChangeMaps Go.MapKept Go.Shelf
set_option linter.unusedVariables false
set_option linter.unusedSimpArgs false

/-- Is a block's number n or a greater one? -/
def cutP (n : Int) : Lit → DataW Unit → Bool := fun kl _ => match kl with | .int _ x => decide (n ≤ x) | _ => false
theorem cutA1_any (x n : Int) (v : Value) (g : Nat) (W : World) (hg : W.cell? ⟨g, 0, none⟩ = some (.int .i64 n)) :
    Calls Try.prog 51 #[.int .i64 x, v, .pointer (some ⟨g, 0, none⟩)] W fun e w' => e = .returned (.bool (decide (n ≤ x))) ∧ w' = W := by
  go_enter Try.func51, Try.ntmps51
  go_wp2
  go_ret
  exact ⟨rfl, rfl⟩
theorem box56 (w : World) (cs : Array Value) : (Instr.box 70 (.agg cs)).run Try.prog w = .ok (.pointer (some ⟨w.heap.size, 0, none⟩)) (w.alloc (.cells cs 70)) := by
  simp [Instr.box, go_sem, Value.cells, Result.andThen]
theorem cutX1_any (x n : Int) (cs : Array Value) (hcs : cs.size = 56) (g : Nat) (W : World) (hg : W.cell? ⟨g, 0, none⟩ = some (.int .i64 n)) (hlt : g < W.heap.size) :
    Calls Try.prog 53 #[.int .i64 x, .agg cs, .pointer (some ⟨g, 0, none⟩)] W fun e w' => e = .returned (.bool (decide (n ≤ x))) ∧ w' = W.alloc (.cells cs 70) := by
  have hbx := box56
  go_enter Try.func53, Try.ntmps53
  go_wp2
  go_ret
  exact ⟨rfl, rfl⟩

def cutN (n : Int) (f : Nat → Option (DataW Unit)) (s : Nat) : Option (DataW Unit) := if n ≤ (s : Int) then none else f s
theorem NmD.cut' {w w' : World} {R : El} {b n m : Nat} {f : Nat → Option (DataW Unit)} {D : DataW Unit} (h : NmD w R b n f D) (c : Int) (ho : w'.ownsMap Try.prog 3 R b m (Lib.deleteFuncD (cutP c) D)) : NmD w' R b m (cutN c f) (Lib.deleteFuncD (cutP c) D) := h.cut c ho
theorem cutA_any {w : World} {b : Nat} {f : Nat → Option (DataW Unit)} (h : Nm w elA b f) (n : Int) :
    Calls Try.prog 42 #[.map (some b), .int .i64 n] w fun e w' => e = .returned (.tuple #[]) ∧ Nm w' elA b (cutN n f) ∧ w.grownBy w' (some b) := by
  obtain ⟨D, h⟩ := h
  obtain ⟨wb, hwb⟩ : ∃ wb, wb = w.alloc (.cells #[.int .i64 n] 3 (0, 0)) := ⟨_, rfl⟩
  have hgr : w.grownBy wb none := by rw [hwb]; exact World.grownBy_alloc _ _ _
  have hgc : wb.cell? ⟨w.heap.size, 0, none⟩ = some (.int .i64 n) := by
    rw [hwb, cell_of_row _ _ 0 _ _ (0, 0) (heap_alloc_new w _)]; rfl
  have hlt : w.heap.size < wb.heap.size := by rw [hwb]; simp
  have hblt := h.own.lt
  have hown : wb.ownsMap Try.prog 3 elA b 828 D := ownsMap_of_row h.own (hgr.block b hblt (by simp))
  have hc := AnyDf.maps_DeleteFunc deleteA law3 elA (cutP n) 51 #[.pointer (some ⟨w.heap.size, 0, none⟩)] b 828 D wb (enters_of Try.func51 (by kernel_rfl) rfl) hown (fun W key val kl yd yp hg hk hv => by
    obtain ⟨x, rfl, rfl, _⟩ := Maps.keyOf_i64 Try.underlying3 hk
    refine (cutA1_any x n val w.heap.size W ?_).mono ?_
    · exact hg.cell hgc (by simp only [ne_eq, Option.some.injEq]; omega)
    · rintro e w' ⟨rfl, rfl⟩
      exact ⟨rfl, World.grownBy.refl _ _⟩)
  have hc2 : Calls Try.prog 50 #[.map (some b), .func (.func 51) #[] #[.pointer (some ⟨w.heap.size, 0, none⟩)]] wb fun e w' => e = .returned (.tuple #[]) ∧ w'.ownsMap Try.prog 3 elA b 828 (Lib.deleteFuncD (cutP n) D) ∧ wb.grownBy w' (some b) := hc
  have HC := Lib.hid hc2
  have HG := Lib.hid hgr
  have H := Lib.hid h
  rw [hwb] at HC
  rw [hwb] at HG
  clear hc hc2 hgr hgc hlt hblt hown hwb h
  go_enter Try.func42, Try.ntmps42
  go_wp2_with (fail)
  refine HC.out.mono ?_
  rintro e w2 ⟨rfl, ho2, hg2⟩
  have HO := Lib.hid (H.out.cut' n ho2)
  have HG2 := Lib.hid hg2
  clear ho2 hg2
  go_wp2_with (fail)
  go_end0
  exact ⟨rfl, HO.out.tight, (HG.out.but (some b)).andThen HG2.out (fun j e => .inr e)⟩
theorem wpList_ld56 {ops : Array Oper} {rest : List Oper} {o : Oper} {a : Act} {w : World} {Q : Exit → Act → World → Prop} (hw : Region.wanted o (yielded ops a.tmps) = true) (x : Operand) (ho : o.op = .load 70 x) (p v : Value) (hx : a.eval x = p) (hl : (Instr.loadAt 70 p).run Try.prog w = .ok v w)
    (h : wpList Try.prog ops Q rest (a.put o.dst v) w) : wpList Try.prog ops Q (o :: rest) a w :=
  wpList_step fun K hK => by
    rw [if_pos hw]
    unfold Oper.wp execOp
    simp only [ho, hx, Sem.run_bind, hl, Result.andThen_ok, Sem.run_pure]
    exact hK _ _ h
set_option maxHeartbeats 4000000 in
set_option maxRecDepth 100000 in
theorem delX_any {w : World} {b g : Nat} {n : Int} {D : DataW Unit} (hown : w.ownsMap Try.prog 3 elX b 828 D) (hg : w.cell? ⟨g, 0, none⟩ = some (.int .i64 n)) (hgl : g < w.heap.size) (hne : g ≠ b) :
    Calls Try.prog 52 #[.map (some b), .func (.func 53) #[] #[.pointer (some ⟨g, 0, none⟩)]] w fun e w' => e = .returned (.tuple #[]) ∧ w'.ownsMap Try.prog 3 elX b 828 (Lib.deleteFuncD (cutP n) D) ∧ w.grownBy w' (some b) := by
  obtain ⟨es0, rfl, hap, hkeys⟩ := hown.entries law3
  have HG := Lib.hid hg
  have HL := Lib.hid hgl
  have hz := zX
  clear hg hgl
  go_enter Try.func52, Try.ntmps52
  go_wp2_with (first
    | (at_range; refine wpList_range_own _ rfl _ 59 rfl 3 70 law3 uX elX b 828 _ rfl hown ?_; intro w0 hrg0 hg0 hs0)
    | go_in)
  go_frame
  go_loopw [8] (fun _ wr => ∃ (left : Lit → Bool) (cnt : Nat), wr.ranges Try.prog 3 elX b w.heap.size 828 (Fk (cutP n) es0 left) left cnt ∧ w.grownBy wr (some b))
    (fun _ wr => wr.rangeLeft b w.heap.size)
  case atStart => exact ⟨_, _, by rw [Fk_start hkeys]; exact hrg0, hg0.but _⟩
  case round =>
    obtain ⟨left, cnt, hrg, hgw⟩ := hrel
    go_wp2_with (first
      | (at_next; refine wpList_next_ranges _ rfl _ rfl 3 law3 elX id id (fun key _ _ => ⟨key, rfl⟩) (fun v _ _ => ⟨v, rfl⟩) b w.heap.size 828 _ _ _ rfl hrg ?_ ?_)
      | go_in)
    · -- nothing is left
      intro _ hl0
      go_wp2
      go_end0
      exact ⟨rfl, by rw [← Fk_end hl0]; exact hrg.owns, hgw⟩
    · -- an entry has come
      intro x v kl yd yp w1 cnt1 hkey hlx hv hat hrg1 hlt hg1 hs1 hen
      obtain ⟨xi, rfl, rfl, _⟩ := Maps.keyOf_i64 Try.underlying3 hkey
      obtain ⟨cs, rfl, hc1, hc2⟩ := elX_agg hv
      have hgw1 := hgw.andThen hg1 (fun j hj => by cases hj; exact Or.inl (Nat.le_refl _))
      have hst := storeG w1 hc1 hc2
      have hst2 := storeGC w1 hc1 hc2
      have hld := loadG w1 hc1
      have hld2 := loadGC w1 hc1
      have hga : w1.grownBy (w1.alloc (.cells cs 70)) none := World.grownBy_alloc _ _ _
      have hcell : (w1.alloc (.cells cs 70)).cell? ⟨g, 0, none⟩ = some (.int .i64 n) := by
        have h1 := hgw1.cell HG.out (by simp only [ne_eq, Option.some.injEq]; omega)
        exact hga.cell h1 (by simp)
      have hgl2 : g < (w1.alloc (.cells cs 70)).heap.size := Nat.lt_of_lt_of_le (Nat.lt_of_lt_of_le HL.out hgw1.size) hga.size
      have hc := cutX1_any xi n cs hc1 g _ hcell hgl2
      have hpd : cutP n (.int .i64 xi) yd = decide (n ≤ xi) := rfl
      have hbl := hrg1.owns.lt
      have hrl := hrg1.lt
      obtain ⟨W2, hW2⟩ : ∃ W2, W2 = (w1.alloc (.cells cs 70)).alloc (.cells cs 70) := ⟨_, rfl⟩
      have hrg2 : W2.ranges Try.prog 3 elX b w.heap.size 828 (Fk (cutP n) es0 left) (fun z => left z && !z.sameKey (.int .i64 xi)) cnt1 := by rw [hW2]; exact (hrg1.alloc _).alloc _
      have hg2 : w.grownBy W2 (some b) := by rw [hW2]; exact (hgw1.andThen hga (fun j hj => by cases hj)).andThen (World.grownBy_alloc _ _ _ : _) (fun j (hj : none = some j) => by cases hj)
      rw [← hW2] at hc
      have HR := Lib.hid hrg2
      have HG2 := Lib.hid hg2
      have HRo := Lib.hid hrg
      clear hg2 hrg1 hcell hgl2 hga hgw1 hs1 hgw hrg hg1 hW2
      cases hp : decide (n ≤ xi) with
      | false =>
        rw [hp] at hc hpd
        go_wp2_with (refine wpList_ld56 rfl (.tmp 5) rfl _ _ rfl hld ?_)
        refine hc.mono ?_
        rintro e w3 ⟨rfl, rfl⟩
        go_wp2_with (fail)
        go_roundw
        case rel => exact ⟨_, cnt1, by rw [← Fk_stays hap (law3.key hkey) hlx hpd hat]; exact HR.out, HG2.out⟩
        case measure => rw [HR.out.left_eq, HRo.out.left_eq]; exact hlt
      | true =>
        rw [hp] at hc hpd
        go_wp2_with (refine wpList_ld56 rfl (.tmp 5) rfl _ _ rfl hld ?_)
        refine hc.mono ?_
        rintro e w3 ⟨rfl, rfl⟩
        go_wp2_with (first
          | (at_delete; refine wpList_delete_ranges _ rfl _ _ 59 3 rfl 70 law3 uX elX b w.heap.size 828 _ _ _ rfl hrg2 _ _ rfl hkey ?_; intro w3 cnt3 hrg3 hle hturn; go_frame)
          | go_in)
        rw [strike_twice] at hrg3
        go_roundw
        case rel => exact ⟨_, cnt3, by rw [← Fk_struck hap (law3.key hkey) hlx hpd hat]; exact hrg3, HG2.out.andThen hturn.grown (fun j hj => by cases hj; exact Or.inr rfl)⟩
        case measure => rw [hrg3.left_eq, HRo.out.left_eq]; omega
theorem cutX_any {w : World} {b : Nat} {f : Nat → Option (DataW Unit)} (h : Nm w elX b f) (n : Int) :
    Calls Try.prog 43 #[.map (some b), .int .i64 n] w fun e w' => e = .returned (.tuple #[]) ∧ Nm w' elX b (cutN n f) ∧ w.grownBy w' (some b) := by
  obtain ⟨D, h⟩ := h
  obtain ⟨wb, hwb⟩ : ∃ wb, wb = w.alloc (.cells #[.int .i64 n] 3 (0, 0)) := ⟨_, rfl⟩
  have hgr : w.grownBy wb none := by rw [hwb]; exact World.grownBy_alloc _ _ _
  have hgc : wb.cell? ⟨w.heap.size, 0, none⟩ = some (.int .i64 n) := by
    rw [hwb, cell_of_row _ _ 0 _ _ (0, 0) (heap_alloc_new w _)]; rfl
  have hlt : w.heap.size < wb.heap.size := by rw [hwb]; simp
  have hblt := h.own.lt
  have hown : wb.ownsMap Try.prog 3 elX b 828 D := ownsMap_of_row h.own (hgr.block b hblt (by simp))
  have HC := Lib.hid (delX_any hown hgc hlt (by omega))
  have HG := Lib.hid hgr
  have H := Lib.hid h
  rw [hwb] at HC
  rw [hwb] at HG
  clear hgr hgc hlt hblt hown hwb h
  go_enter Try.func43, Try.ntmps43
  go_wp2_with (fail)
  refine HC.out.mono ?_
  rintro e w2 ⟨rfl, ho2, hg2⟩
  have HO := Lib.hid (H.out.cut' n ho2)
  have HG2 := Lib.hid hg2
  clear ho2 hg2
  go_wp2_with (fail)
  go_end0
  exact ⟨rfl, HO.out.tight, (HG.out.but (some b)).andThen HG2.out (fun j e => .inr e)⟩
theorem cutN_A {A : Nat → Int} {n : Int} (h : ∀ s, 828 ≤ s → A s = 0) : cutN n (fA A) = fA (cutF 0 A (ctN n) 828) := by
  funext s
  have e : cutF 0 A (ctN n) 828 s = if n ≤ (s : Int) then 0 else A s := by
    unfold cutF ctN
    by_cases h1 : n ≤ (s : Int)
    · rw [if_pos h1]
      split
      · rfl
      · exact h s (by omega)
    · rw [if_neg h1, if_neg (by omega)]
  unfold cutN fA
  rw [e]
  split
  · rw [if_pos rfl]
  · rfl
theorem cutN_X {X : Nat → List Int} {n : Int} (h : ∀ s, 828 ≤ s → X s = []) : cutN n (fX X) = fX (cutF [] X (ctN n) 828) := by
  funext s
  have e : cutF [] X (ctN n) 828 s = if n ≤ (s : Int) then [] else X s := by
    unfold cutF ctN
    by_cases h1 : n ≤ (s : Int)
    · rw [if_pos h1]
      split
      · rfl
      · exact h s (by omega)
    · rw [if_neg h1, if_neg (by omega)]
  unfold cutN fX
  rw [e]
  split
  · rw [if_pos rfl]
  · rfl
theorem Turn.of_grown' {w w' : World} {b : Nat} (h : w.grownBy w' (some b)) : Turn (· = b) w w' := Turn.of_grown h rfl
set_option maxHeartbeats 4000000 in
theorem pcut_any {w : World} {p b c : Nat} {A : Nat → Int} {X : Nat → List Int} (h : PmpAt w p b c A X) (n : Int) :
    Calls Try.prog 22 #[.pointer (some ⟨p, 0, none⟩), .int .i64 n] w fun e w' => e = .returned (.tuple #[]) ∧ Turn (fun j => j = b ∨ j = c) w w' ∧ PmpAt w' p b c (cutF 0 A (ctN n) 828) (cutF [] X (ctN n) 828) := by
  have HP := Lib.hid h
  have c0 := h.c0
  clear h
  go_enter Try.func22, Try.ntmps22
  go_wp2_with (fail)
  refine (cutA_any HP.out.ma n).mono ?_
  rintro e w2 ⟨rfl, hA2, hg2⟩
  have hX2 := HP.out.mx.turn (Turn.of_grown' hg2) (fun e => HP.out.ne e.symm)
  have c1 : w2.cell? ⟨p, 1, none⟩ = some (.map (some c)) := ((Turn.of_grown' hg2).cell (a := ⟨p, 1, none⟩) HP.out.lt HP.out.nb).trans HP.out.c1
  have HX2 := Lib.hid hX2
  have HA2 := Lib.hid hA2
  have HG2 := Lib.hid (Turn.of_grown' hg2)
  clear hX2 hA2 hg2 c0
  go_wp2_with (fail)
  refine (cutX_any HX2.out n).mono ?_
  rintro e w3 ⟨rfl, hX3, hg3⟩
  have HX3 := Lib.hid hX3
  have HG3 := Lib.hid (Turn.of_grown' hg3)
  clear hX3 hg3 c1
  go_wp2_with (fail)
  go_end0
  have ht : Turn (fun j => j = b ∨ j = c) w w3 := (HG2.out.mono fun j e => .inl e).trans (HG3.out.mono fun j e => .inr e)
  have hA3 := HA2.out.turn HG3.out HP.out.ne
  have hX3 := HX3.out
  rw [cutN_A (fun s hs => fA_zero (HP.out.ma.far hs))] at hA3
  rw [cutN_X (fun s hs => fX_zero (HP.out.mx.far hs))] at hX3
  have hp : ¬ (p = b ∨ p = c) := fun e => e.elim HP.out.nb HP.out.nc
  exact ⟨rfl, ht, (ht.cell (a := ⟨p, 0, none⟩) HP.out.lt hp).trans HP.out.c0, (ht.cell (a := ⟨p, 1, none⟩) HP.out.lt hp).trans HP.out.c1, Nat.lt_of_lt_of_le HP.out.lt ht.size, HP.out.nb, HP.out.nc, HP.out.ne, hA3, hX3, HP.out.ok.cut _ _⟩
end Go.Proofs.Ytgedgkdnjnbijaa
