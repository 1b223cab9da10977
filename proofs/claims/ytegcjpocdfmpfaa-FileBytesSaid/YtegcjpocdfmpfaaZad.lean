/-
  The strikings of all blocks from a number on, in both maps; the program's Cut by contract.
-/
import Derived.Test.YtegcjpocdfmpfaaZac
import Derived.Test.YtegcjpocdfmpfaaFLay
import Derived.Deep.LoopGhost
import Derived.Laws.IdiomRangeMap
import Derived.Maps.AppendAt
import Derived.Laws.OwnMore
import Derived.Deep.DeepCutAuto
import Derived.Deep.RegionHeld3
set_option linter.unusedVariables false
set_option linter.unusedSimpArgs false
set_option maxRecDepth 100000
set_option maxHeartbeats 16000000
namespace Go.Proofs.Ytegcjpocdfmpfaa
open Go.RowKit Go.Maps Go.ChangeMaps Go.MapKept Go.Shelf

/-- Is a block's number n or a greater one? -/
def cutP (n : Int) : Lit → DataW Unit → Bool := fun kl _ => match kl with | .int _ x => decide (n ≤ x) | _ => false
theorem cutA1_any (x n : Int) (v : Value) (g : Nat) (W : World) (hg : W.cell? ⟨g, 0, none⟩ = some (.int .i64 n)) :
    Calls Try.prog 147 #[.int .i64 x, v, .pointer (some ⟨g, 0, none⟩)] W fun e w' => e = .returned (.bool (decide (n ≤ x))) ∧ w' = W := by
  go_enter Try.func147, Try.ntmps147
  go_wp2
  go_ret
  exact ⟨rfl, rfl⟩
theorem box56 (w : World) (cs : Array Value) : (Instr.box 143 (.agg cs)).run Try.prog w = .ok (.pointer (some ⟨w.heap.size, 0, none⟩)) (w.alloc (.cells cs 143)) := by
  simp [Instr.box, go_sem, Value.cells, Result.andThen]
theorem cutX1_any (x n : Int) (cs : Array Value) (hcs : cs.size = 56) (g : Nat) (W : World) (hg : W.cell? ⟨g, 0, none⟩ = some (.int .i64 n)) (hlt : g < W.heap.size) :
    Calls Try.prog 149 #[.int .i64 x, .agg cs, .pointer (some ⟨g, 0, none⟩)] W fun e w' => e = .returned (.bool (decide (n ≤ x))) ∧ w' = W.alloc (.cells cs 143) := by
  have hbx := box56
  go_enter Try.func149, Try.ntmps149
  go_wp2
  go_ret
  exact ⟨rfl, rfl⟩

def cutN (n : Int) (f : Nat → Option (DataW Unit)) (s : Nat) : Option (DataW Unit) := if n ≤ (s : Int) then none else f s
theorem NmD.cut' {w w' : World} {R : El} {b n m : Nat} {f : Nat → Option (DataW Unit)} {D : DataW Unit} (h : NmD w R b n f D) (c : Int) (ho : w'.ownsMap Try.prog 3 R b m (Lib.deleteFuncD (cutP c) D)) : NmD w' R b m (cutN c f) (Lib.deleteFuncD (cutP c) D) := h.cut c ho
theorem cutA_any {w : World} {b : Nat} {f : Nat → Option (DataW Unit)} (h : Nm w elA b f) (n : Int) :
    Calls Try.prog 117 #[.map (some b), .int .i64 n] w fun e w' => e = .returned (.tuple #[]) ∧ Nm w' elA b (cutN n f) ∧ w.grownBy w' (some b) := by
  obtain ⟨D, h⟩ := h
  obtain ⟨wb, hwb⟩ : ∃ wb, wb = w.alloc (.cells #[.int .i64 n] 3 (0, 0)) := ⟨_, rfl⟩
  have hgr : w.grownBy wb none := by rw [hwb]; exact World.grownBy_alloc _ _ _
  have hgc : wb.cell? ⟨w.heap.size, 0, none⟩ = some (.int .i64 n) := by
    rw [hwb, cell_of_row _ _ 0 _ _ (0, 0) (heap_alloc_new w _)]; rfl
  have hlt : w.heap.size < wb.heap.size := by rw [hwb]; simp
  have hblt := h.own.lt
  have hown : wb.ownsMap Try.prog 3 elA b 828 D := ownsMap_of_row h.own (hgr.block b hblt (by simp))
  have hc := AnyDf.maps_DeleteFunc deleteA law3 elA (cutP n) 147 #[.pointer (some ⟨w.heap.size, 0, none⟩)] b 828 D wb (enters_of Try.func147 (by kernel_rfl) rfl) hown (fun W key val kl yd yp hg hk hv => by
    obtain ⟨x, rfl, rfl, _⟩ := Maps.keyOf_i64 Try.underlying3 hk
    refine (cutA1_any x n val w.heap.size W ?_).mono ?_
    · exact hg.cell hgc (by simp only [ne_eq, Option.some.injEq]; omega)
    · rintro e w' ⟨rfl, rfl⟩
      exact ⟨rfl, World.grownBy.refl _ _⟩)
  have hc2 : Calls Try.prog 146 #[.map (some b), .func (.func 147) #[] #[.pointer (some ⟨w.heap.size, 0, none⟩)]] wb fun e w' => e = .returned (.tuple #[]) ∧ w'.ownsMap Try.prog 3 elA b 828 (Lib.deleteFuncD (cutP n) D) ∧ wb.grownBy w' (some b) := hc
  have HC := Lib.hid hc2
  have HG := Lib.hid hgr
  have H := Lib.hid h
  rw [hwb] at HC
  rw [hwb] at HG
  clear hc hc2 hgr hgc hlt hblt hown hwb h
  go_enter Try.func117, Try.ntmps117
  go_wp2_with (fail)
  refine HC.out.mono ?_
  rintro e w2 ⟨rfl, ho2, hg2⟩
  have HO := Lib.hid (H.out.cut' n ho2)
  have HG2 := Lib.hid hg2
  clear ho2 hg2
  go_wp2_with (fail)
  go_end0
  exact ⟨rfl, HO.out.tight, (HG.out.but (some b)).andThen HG2.out (fun j e => .inr e)⟩
theorem wpList_ld56 {ops : Array Oper} {rest : List Oper} {o : Oper} {a : Act} {w : World} {Q : Exit → Act → World → Prop} (hw : Region.wanted o (yielded ops a.tmps) = true) (x : Operand) (ho : o.op = .load 143 x) (p v : Value) (hx : a.eval x = p) (hl : (Instr.loadAt 143 p).run Try.prog w = .ok v w)
    (h : wpList Try.prog ops Q rest (a.put o.dst v) w) : wpList Try.prog ops Q (o :: rest) a w :=
  wpList_step fun K hK => by
    rw [if_pos hw]
    unfold Oper.wp execOp
    simp only [ho, hx, Sem.run_bind, hl, Result.andThen_ok, Sem.run_pure]
    exact hK _ _ h
theorem delX_any {w : World} {b g : Nat} {n : Int} {D : DataW Unit} (hown : w.ownsMap Try.prog 3 elX b 828 D) (hg : w.cell? ⟨g, 0, none⟩ = some (.int .i64 n)) (hgl : g < w.heap.size) (hne : g ≠ b) :
    Calls Try.prog 148 #[.map (some b), .func (.func 149) #[] #[.pointer (some ⟨g, 0, none⟩)]] w fun e w' => e = .returned (.tuple #[]) ∧ w'.ownsMap Try.prog 3 elX b 828 (Lib.deleteFuncD (cutP n) D) ∧ w.grownBy w' (some b) := by
  obtain ⟨es0, rfl, hap, hkeys⟩ := hown.entries law3
  have HG := Lib.hid hg
  have HL := Lib.hid hgl
  have hz := zX
  clear hg hgl
  go_enter Try.func148, Try.ntmps148
  go_wp2_with (first
    | (at_range; refine wpList_range_own _ rfl _ 140 rfl 3 143 law3 uX elX b 828 _ rfl hown ?_; intro w0 hrg0 hg0 hs0)
    | go_in)
  go_frame
  go_loopw [8] (fun _ wr => ∃ (left : Lit → Bool) (cnt : Nat), wr.ranges Try.prog 3 elX b w.heap.size 828 (Fk (cutP n) es0 left) left cnt ∧ w.grownBy wr (some b))
    (fun _ wr => wr.rangeLeft b w.heap.size)
  case atStart => exact ⟨_, _, by rw [Fk_start hkeys]; exact hrg0, hg0.but _⟩
  case round =>
    obtain ⟨left, cnt, hrg, hgw⟩ := hrel
    go_wp2_with (first
      | (at_next; refine wpList_next_ranges _ rfl _ rfl 3 law3 elX id id (fun key _ _ => ⟨key, rfl⟩) (fun v _ _ => ⟨v, rfl⟩) b w.heap.size 828 _ _ _ rfl hrg ?_ ?_)
      | go_in)
    · -- nothing is left
      intro _ hl0
      go_wp2
      go_end0
      exact ⟨rfl, by rw [← Fk_end hl0]; exact hrg.owns, hgw⟩
    · -- an entry has come
      intro x v kl yd yp w1 cnt1 hkey hlx hv hat hrg1 hlt hg1 hs1 hen
      obtain ⟨xi, rfl, rfl, _⟩ := Maps.keyOf_i64 Try.underlying3 hkey
      obtain ⟨cs, rfl, hc1, hc2⟩ := elX_agg hv
      have hgw1 := hgw.andThen hg1 (fun j hj => by cases hj; exact Or.inl (Nat.le_refl _))
      have hst := storeG w1 hc1 hc2
      have hst2 := storeGC w1 hc1 hc2
      have hld := loadG w1 hc1
      have hld2 := loadGC w1 hc1
      have hga : w1.grownBy (w1.alloc (.cells cs 143)) none := World.grownBy_alloc _ _ _
      have hcell : (w1.alloc (.cells cs 143)).cell? ⟨g, 0, none⟩ = some (.int .i64 n) := by
        have h1 := hgw1.cell HG.out (by simp only [ne_eq, Option.some.injEq]; omega)
        exact hga.cell h1 (by simp)
      have hgl2 : g < (w1.alloc (.cells cs 143)).heap.size := Nat.lt_of_lt_of_le (Nat.lt_of_lt_of_le HL.out hgw1.size) hga.size
      have hc := cutX1_any xi n cs hc1 g _ hcell hgl2
      have hpd : cutP n (.int .i64 xi) yd = decide (n ≤ xi) := rfl
      have hbl := hrg1.owns.lt
      have hrl := hrg1.lt
      obtain ⟨W2, hW2⟩ : ∃ W2, W2 = (w1.alloc (.cells cs 143)).alloc (.cells cs 143) := ⟨_, rfl⟩
      have hrg2 : W2.ranges Try.prog 3 elX b w.heap.size 828 (Fk (cutP n) es0 left) (fun z => left z && !z.sameKey (.int .i64 xi)) cnt1 := by rw [hW2]; exact (hrg1.alloc _).alloc _
      have hg2 : w.grownBy W2 (some b) := by rw [hW2]; exact (hgw1.andThen hga (fun j hj => by cases hj)).andThen (World.grownBy_alloc _ _ _ : _) (fun j (hj : none = some j) => by cases hj)
      rw [← hW2] at hc
      have HR := Lib.hid hrg2
      have HG2 := Lib.hid hg2
      have HRo := Lib.hid hrg
      clear hg2 hrg1 hcell hgl2 hga hgw1 hs1 hgw hrg hg1 hW2
      cases hp : decide (n ≤ xi) with
      | false =>
        rw [hp] at hc hpd
        go_wp2_with (refine wpList_ld56 rfl (.tmp 5) rfl _ _ rfl hld ?_)
        refine hc.mono ?_
        rintro e w3 ⟨rfl, rfl⟩
        go_wp2_with (fail)
        go_roundw
        case rel => exact ⟨_, cnt1, by rw [← Fk_stays hap (law3.key hkey) hlx hpd hat]; exact HR.out, HG2.out⟩
        case measure => rw [HR.out.left_eq, HRo.out.left_eq]; exact hlt
      | true =>
        rw [hp] at hc hpd
        go_wp2_with (refine wpList_ld56 rfl (.tmp 5) rfl _ _ rfl hld ?_)
        refine hc.mono ?_
        rintro e w3 ⟨rfl, rfl⟩
        go_wp2_with (first
          | (at_delete; refine wpList_delete_ranges _ rfl _ _ 140 3 rfl 143 law3 uX elX b w.heap.size 828 _ _ _ rfl hrg2 _ _ rfl hkey ?_; intro w3 cnt3 hrg3 hle hturn; go_frame)
          | go_in)
        rw [strike_twice] at hrg3
        go_roundw
        case rel => exact ⟨_, cnt3, by rw [← Fk_struck hap (law3.key hkey) hlx hpd hat]; exact hrg3, HG2.out.andThen hturn.grown (fun j hj => by cases hj; exact Or.inr rfl)⟩
        case measure => rw [hrg3.left_eq, HRo.out.left_eq]; omega
theorem cutX_any {w : World} {b : Nat} {f : Nat → Option (DataW Unit)} (h : Nm w elX b f) (n : Int) :
    Calls Try.prog 118 #[.map (some b), .int .i64 n] w fun e w' => e = .returned (.tuple #[]) ∧ Nm w' elX b (cutN n f) ∧ w.grownBy w' (some b) := by
  obtain ⟨D, h⟩ := h
  obtain ⟨wb, hwb⟩ : ∃ wb, wb = w.alloc (.cells #[.int .i64 n] 3 (0, 0)) := ⟨_, rfl⟩
  have hgr : w.grownBy wb none := by rw [hwb]; exact World.grownBy_alloc _ _ _
  have hgc : wb.cell? ⟨w.heap.size, 0, none⟩ = some (.int .i64 n) := by
    rw [hwb, cell_of_row _ _ 0 _ _ (0, 0) (heap_alloc_new w _)]; rfl
  have hlt : w.heap.size < wb.heap.size := by rw [hwb]; simp
  have hblt := h.own.lt
  have hown : wb.ownsMap Try.prog 3 elX b 828 D := ownsMap_of_row h.own (hgr.block b hblt (by simp))
  have HC := Lib.hid (delX_any hown hgc hlt (by omega))
  have HG := Lib.hid hgr
  have H := Lib.hid h
  rw [hwb] at HC
  rw [hwb] at HG
  clear hgr hgc hlt hblt hown hwb h
  go_enter Try.func118, Try.ntmps118
  go_wp2_with (fail)
  refine HC.out.mono ?_
  rintro e w2 ⟨rfl, ho2, hg2⟩
  have HO := Lib.hid (H.out.cut' n ho2)
  have HG2 := Lib.hid hg2
  clear ho2 hg2
  go_wp2_with (fail)
  go_end0
  exact ⟨rfl, HO.out.tight, (HG.out.but (some b)).andThen HG2.out (fun j e => .inr e)⟩
theorem cutN_A {A : Nat → Int} {n : Int} (h : ∀ s, 828 ≤ s → A s = 0) : cutN n (fA A) = fA (cutF 0 A (ctN n) 828) := by
  funext s
  have e : cutF 0 A (ctN n) 828 s = if n ≤ (s : Int) then 0 else A s := by
    unfold cutF ctN
    by_cases h1 : n ≤ (s : Int)
    · rw [if_pos h1]
      split
      · rfl
      · exact h s (by omega)
    · rw [if_neg h1, if_neg (by omega)]
  unfold cutN fA
  rw [e]
  split
  · rw [if_pos rfl]
  · rfl
theorem cutN_X {X : Nat → List Int} {n : Int} (h : ∀ s, 828 ≤ s → X s = []) : cutN n (fX X) = fX (cutF [] X (ctN n) 828) := by
  funext s
  have e : cutF [] X (ctN n) 828 s = if n ≤ (s : Int) then [] else X s := by
    unfold cutF ctN
    by_cases h1 : n ≤ (s : Int)
    · rw [if_pos h1]
      split
      · rfl
      · exact h s (by omega)
    · rw [if_neg h1, if_neg (by omega)]
  unfold cutN fX
  rw [e]
  split
  · rw [if_pos rfl]
  · rfl
theorem Turn.of_grown' {w w' : World} {b : Nat} (h : w.grownBy w' (some b)) : Turn (· = b) w w' := Turn.of_grown h rfl
theorem pcut_any {w : World} {p b c : Nat} {A : Nat → Int} {X : Nat → List Int} (h : PmpAt w p b c A X) (n : Int) :
    Calls Try.prog 77 #[.pointer (some ⟨p, 0, none⟩), .int .i64 n] w fun e w' => e = .returned (.tuple #[]) ∧ Turn (fun j => j = b ∨ j = c) w w' ∧ PmpAt w' p b c (cutF 0 A (ctN n) 828) (cutF [] X (ctN n) 828) := by
  have HP := Lib.hid h
  have c0 := h.c0
  clear h
  go_enter Try.func77, Try.ntmps77
  go_wp2_with (fail)
  refine (cutA_any HP.out.ma n).mono ?_
  rintro e w2 ⟨rfl, hA2, hg2⟩
  have hX2 := HP.out.mx.turn (Turn.of_grown' hg2) (fun e => HP.out.ne e.symm)
  have c1 : w2.cell? ⟨p, 1, none⟩ = some (.map (some c)) := ((Turn.of_grown' hg2).cell (a := ⟨p, 1, none⟩) HP.out.lt HP.out.nb).trans HP.out.c1
  have HX2 := Lib.hid hX2
  have HA2 := Lib.hid hA2
  have HG2 := Lib.hid (Turn.of_grown' hg2)
  clear hX2 hA2 hg2 c0
  go_wp2_with (fail)
  refine (cutX_any HX2.out n).mono ?_
  rintro e w3 ⟨rfl, hX3, hg3⟩
  have HX3 := Lib.hid hX3
  have HG3 := Lib.hid (Turn.of_grown' hg3)
  clear hX3 hg3 c1
  go_wp2_with (fail)
  go_end0
  have ht : Turn (fun j => j = b ∨ j = c) w w3 := (HG2.out.mono fun j e => .inl e).trans (HG3.out.mono fun j e => .inr e)
  have hA3 := HA2.out.turn HG3.out HP.out.ne
  have hX3 := HX3.out
  rw [cutN_A (fun s hs => fA_zero (HP.out.ma.far hs))] at hA3
  rw [cutN_X (fun s hs => fX_zero (HP.out.mx.far hs))] at hX3
  have hp : ¬ (p = b ∨ p = c) := fun e => e.elim HP.out.nb HP.out.nc
  exact ⟨rfl, ht, (ht.cell (a := ⟨p, 0, none⟩) HP.out.lt hp).trans HP.out.c0, (ht.cell (a := ⟨p, 1, none⟩) HP.out.lt hp).trans HP.out.c1, Nat.lt_of_lt_of_le HP.out.lt ht.size, HP.out.nb, HP.out.nc, HP.out.ne, hA3, hX3, HP.out.ok.cut _ _⟩
end Go.Proofs.Ytegcjpocdfmpfaa
namespace Go.Proofs.Ytegcjpocdfmpfaa
open Go.RowKit Go.Maps Go.ChangeMaps Go.MapKept Go.Sort Go.Shelf

theorem sortsA (m : Nat) : AnyZI.SortsIn Try.prog sortedA_ren Fence.wide m :=
  ⟨fun blk off cap ss W hH hblk hsz => callsIn_wide.2 (AnyM.slices_Sort_int sortA blk off cap ss W hH hblk hsz),
   fun p cap W => callsIn_wide.2 (AnyM.slices_Sort_int_none sortA p cap W)⟩
/-- A slice of numbers of the call's own. -/
def NumP (w : World) (ks : List Int) (e : Ending) (w' : World) : Prop := ∃ v, e = .returned v ∧ OwnI w' w.heap.size v ks.length ks ∧ Below w.heap.size w w'
theorem keysA_any (mb : Option Nat) (w : World) : Calls Try.prog 120 #[.map mb] w fun e w' => e = .returned (.func (.func 151) #[] #[.pointer (some ⟨w.heap.size, 0, none⟩)]) ∧ w' = w.alloc (.cells #[.map mb] 138) :=
  (callsIn_wide (n := 5)).1 (AnyZI.keys_in keysA Fence.wide 5 trivial rfl mb w)
theorem keysX_any (mb : Option Nat) (w : World) : Calls Try.prog 121 #[.map mb] w fun e w' => e = .returned (.func (.func 152) #[] #[.pointer (some ⟨w.heap.size, 0, none⟩)]) ∧ w' = w.alloc (.cells #[.map mb] 140) :=
  (callsIn_wide (n := 5)).1 (AnyZI.keys_in keysX Fence.wide 5 trivial rfl mb w)
theorem sortedA_any {w : World} {R : El} {b Bm N : Nat} {f : Nat → Option (DataW Unit)} (h : Nm w R b f) (hN : N = 828) (hBm : Bm < w.heap.size) (hm : w.cell? ⟨Bm, 0, none⟩ = some (.map (some b))) :
    Calls Try.prog 119 #[.func (.func 151) #[] #[.pointer (some ⟨Bm, 0, none⟩)]] w (NumP w (selL (pres f) N)) := by
  obtain ⟨D, h⟩ := h
  have hsz := h.size
  have hseq : SeqGives Fence.wide 2 Try.prog 151 #[.pointer (some ⟨Bm, 0, none⟩)] encZ (fun ss => ss.Perm (intKeys D)) (Maps.size D) w :=
    AnyZI.keys_gives (ρ := keysA_ren) { keysA with } Fence.wide _ trivial rfl (by omega) Bm b 828 D w hBm hm h.own
  have cS := AnyZI.sorted_in sortedA Fence.wide 5 trivial trivial trivial trivial rfl (by omega) (sortsA _) (enters_of Try.func80 (by kernel_rfl) rfl) 151 #[.pointer (some ⟨Bm, 0, none⟩)] trivial (enters_of Try.func151 (by kernel_rfl) rfl) _ _ (by unfold maxLen; omega) (by omega) w hseq
  refine ((callsIn_wide (n := 5)).1 cS).mono ?_
  rintro e w' ⟨v, ss, rfl, hperm, hrow, hnil, hb⟩
  rw [h.sorted hN hperm] at hrow
  have hl : ss.length = (selL (pres f) N).length := by rw [← h.sorted hN hperm, List.length_mergeSort]
  rw [hl] at hrow
  exact ⟨v, rfl, hrow, hb⟩
theorem sortedX_any {w : World} {R : El} {b Bm N : Nat} {f : Nat → Option (DataW Unit)} (h : Nm w R b f) (hN : N = 828) (hBm : Bm < w.heap.size) (hm : w.cell? ⟨Bm, 0, none⟩ = some (.map (some b))) :
    Calls Try.prog 119 #[.func (.func 152) #[] #[.pointer (some ⟨Bm, 0, none⟩)]] w (NumP w (selL (pres f) N)) := by
  obtain ⟨D, h⟩ := h
  have hsz := h.size
  have hseq : SeqGives Fence.wide 2 Try.prog 152 #[.pointer (some ⟨Bm, 0, none⟩)] encZ (fun ss => ss.Perm (intKeys D)) (Maps.size D) w :=
    AnyZI.keys_gives (ρ := keysX_ren) { keysX with } Fence.wide _ trivial rfl (by omega) Bm b 828 D w hBm hm h.own
  have cS := AnyZI.sorted_in sortedA Fence.wide 5 trivial trivial trivial trivial rfl (by omega) (sortsA _) (enters_of Try.func80 (by kernel_rfl) rfl) 152 #[.pointer (some ⟨Bm, 0, none⟩)] trivial (enters_of Try.func152 (by kernel_rfl) rfl) _ _ (by unfold maxLen; omega) (by omega) w hseq
  refine ((callsIn_wide (n := 5)).1 cS).mono ?_
  rintro e w' ⟨v, ss, rfl, hperm, hrow, hnil, hb⟩
  rw [h.sorted hN hperm] at hrow
  have hl : ss.length = (selL (pres f) N).length := by rw [← h.sorted hN hperm, List.length_mergeSort]
  rw [hl] at hrow
  exact ⟨v, rfl, hrow, hb⟩
theorem numbersA_any {w : World} {R : El} {b N : Nat} {f : Nat → Option (DataW Unit)} (h : Nm w R b f) (hN : N = 828) :
    Calls Try.prog 78 #[.map (some b)] w (NumP w (selL (pres f) N)) := by
  obtain ⟨wb, hwb⟩ : ∃ wb, wb = w.alloc (.cells #[.map (some b)] 138) := ⟨_, rfl⟩
  have hb : Below w.heap.size w wb := by rw [hwb]; exact (Below.refl _ _).alloc (Nat.le_refl _) _
  have hS := sortedA_any (h.next hb) hN (Bm := w.heap.size) (by rw [hwb]; simp) (by rw [hwb, cell_of_row _ _ 0 _ _ (0, 0) (heap_alloc_new w _)]; rfl)
  obtain ⟨L, hL⟩ : ∃ L, L = selL (pres f) N := ⟨_, rfl⟩
  rw [← hL] at hS ⊢
  have hK := keysA_any (some b) w
  rw [← hwb] at hK
  have HS := Lib.hid hS
  have HB := Lib.hid hb
  clear hS hwb hb h hN hL
  go_enter Try.func78, Try.ntmps78
  go_wp2_with (fail)
  refine hK.mono ?_
  rintro e w2 ⟨rfl, rfl⟩
  go_wp2_with (fail)
  refine HS.out.mono ?_
  rintro e w3 ⟨v, rfl, hO, hb3⟩
  have HO := Lib.hid hO
  have HB3 := Lib.hid (HB.out.trans (hb3.mono HB.out.size))
  have HH := Lib.hid HB.out.size
  clear hO hb3
  go_wp2_with (fail)
  go_ret
  exact ⟨_, rfl, ⟨HO.out.1, by
    rcases HO.out.2 with h1 | ⟨g, cap, cur, h1, h2, h3⟩
    · exact .inl h1
    · exact .inr ⟨g, cap, cur, h1, Nat.le_trans HH.out h2, h3⟩⟩, HB3.out⟩
theorem numbersX_any {w : World} {R : El} {b N : Nat} {f : Nat → Option (DataW Unit)} (h : Nm w R b f) (hN : N = 828) :
    Calls Try.prog 79 #[.map (some b)] w (NumP w (selL (pres f) N)) := by
  obtain ⟨wb, hwb⟩ : ∃ wb, wb = w.alloc (.cells #[.map (some b)] 140) := ⟨_, rfl⟩
  have hb : Below w.heap.size w wb := by rw [hwb]; exact (Below.refl _ _).alloc (Nat.le_refl _) _
  have hS := sortedX_any (h.next hb) hN (Bm := w.heap.size) (by rw [hwb]; simp) (by rw [hwb, cell_of_row _ _ 0 _ _ (0, 0) (heap_alloc_new w _)]; rfl)
  obtain ⟨L, hL⟩ : ∃ L, L = selL (pres f) N := ⟨_, rfl⟩
  rw [← hL] at hS ⊢
  have hK := keysX_any (some b) w
  rw [← hwb] at hK
  have HS := Lib.hid hS
  have HB := Lib.hid hb
  clear hS hwb hb h hN hL
  go_enter Try.func79, Try.ntmps79
  go_wp2_with (fail)
  refine hK.mono ?_
  rintro e w2 ⟨rfl, rfl⟩
  go_wp2_with (fail)
  refine HS.out.mono ?_
  rintro e w3 ⟨v, rfl, hO, hb3⟩
  have HO := Lib.hid hO
  have HB3 := Lib.hid (HB.out.trans (hb3.mono HB.out.size))
  have HH := Lib.hid HB.out.size
  clear hO hb3
  go_wp2_with (fail)
  go_ret
  exact ⟨_, rfl, ⟨HO.out.1, by
    rcases HO.out.2 with h1 | ⟨g, cap, cur, h1, h2, h3⟩
    · exact .inl h1
    · exact .inr ⟨g, cap, cur, h1, Nat.le_trans HH.out h2, h3⟩⟩, HB3.out⟩

theorem pres_X (X : Nat → List Int) : pres (fX X) = freP X := by
  funext k
  unfold pres fX freP
  cases X k with
  | nil => rfl
  | cons y l => simp
theorem pres_A {A : Nat → Int} {X : Nat → List Int} (h : Fits A X) (k : Nat) : pres (fA A) k = decide (0 < A k) := by
  unfold pres fA
  have := h.rg k
  by_cases h0 : A k = 0
  · rw [if_pos h0, h0]; rfl
  · rw [if_neg h0, decide_eq_true (by omega)]; rfl
theorem there_sort {A : Nat → Int} {X : Nat → List Int} (h : Fits A X) (N : Nat) : ((selL (pres (fA A)) N ++ selL (pres (fX X)) N).mergeSort fun x y => decide (x ≤ y)) = selL (theP A X) N := by
  have hp : (selL (pres (fA A)) N ++ selL (pres (fX X)) N).Perm (selL (theP A X) N) := by
    refine (List.perm_ext_iff_of_nodup ?_ (selL_nodup _ _)).2 fun x => ?_
    · refine List.nodup_append.2 ⟨selL_nodup _ _, selL_nodup _ _, fun a ha b hb e => ?_⟩
      subst e
      obtain ⟨k, _, h1, rfl⟩ := selL_mem.1 ha
      obtain ⟨k', _, h2, e⟩ := selL_mem.1 hb
      obtain rfl : k = k' := by omega
      rw [pres_A h] at h1
      rw [pres_X] at h2
      have h3 := of_decide_eq_true h1
      rcases h.dj k with h4 | h4
      · unfold freP at h2; rw [h4] at h2; cases h2
      · omega
    · rw [List.mem_append, selL_mem, selL_mem, selL_mem, pres_X]
      constructor
      · rintro (⟨k, hk, h1, rfl⟩ | ⟨k, hk, h1, rfl⟩)
        · rw [pres_A h] at h1
          exact ⟨k, hk, by unfold theP; rw [h1, Bool.or_true], rfl⟩
        · unfold freP at h1
          exact ⟨k, hk, by unfold theP; rw [h1, Bool.true_or], rfl⟩
      · rintro ⟨k, hk, h1, rfl⟩
        unfold theP at h1
        rw [Bool.or_eq_true] at h1
        rcases h1 with h1 | h1
        · exact .inr ⟨k, hk, h1, rfl⟩
        · exact .inl ⟨k, hk, by rw [pres_A h]; exact h1, rfl⟩
  have e := mergeSort_of_perm_i hp
  exact e.trans (List.mergeSort_of_pairwise (selL_le _ _))
theorem pfresh_any {w : World} {p b c N : Nat} {A : Nat → Int} {X : Nat → List Int} (h : PmpAt w p b c A X) (hN : N = 828) :
    Calls Try.prog 40 #[.pointer (some ⟨p, 0, none⟩)] w (NumP w (selL (freP X) N)) := by
  have c1 := h.c1
  have HS := Lib.hid (numbersX_any h.mx hN)
  rw [pres_X] at HS
  obtain ⟨L, hL⟩ : ∃ L, L = selL (freP X) N := ⟨_, rfl⟩
  rw [← hL] at HS ⊢
  clear h hN hL
  go_enter Try.func40, Try.ntmps40
  go_wp2_with (fail)
  refine HS.out.mono ?_
  rintro e w3 ⟨v, rfl, hO, hb3⟩
  have HO := Lib.hid hO
  have HB3 := Lib.hid hb3
  clear hO hb3
  go_wp2_with (fail)
  go_ret
  exact ⟨_, rfl, HO.out, HB3.out⟩
/-- 'append(s, l...)' of numbers. -/
theorem app_run {w : World} {B : Nat} {v : Value} {n : Nat} {ks : List Int} (hown : OwnI w B v n ks) {u : Value} {m : Nat} {ys : List Int} {B' : Nat} (hu : OwnI w B' u m ys) (hnm : n + m ≤ 1000000000000) (hB : B ≤ w.heap.size) (ty : TypeId) {w0 : World} (hb : Below B w0 w) :
    ∃ v' w', (Builtin.append_ #[25, 25] ty #[v, u]).run Try.prog w = .ok v' w' ∧ OwnI w' B v' (n + m) (ks ++ ys) ∧ Below B w0 w' := by
  obtain ⟨i0, hi, hz0, hz1, hz2⟩ := info_parts info3
  rcases hu.2 with ⟨rfl, hm0⟩ | ⟨g, cap, cur, rfl, hbase, hg, hnc, hcm, hsz, htake⟩
  · have hy : ys = [] := by
      have := hu.1
      rw [hm0] at this
      simpa using this
    subst hm0 hy
    refine ⟨v, w, run_append_owned_none (P := Try.prog) (w := w) B 25 ty 3 i0 1 Try.underlying25 hi v n _ hown, by rw [List.append_nil]; exact hown, hb⟩
  · obtain ⟨v', w', hr, h2, h3, _, _⟩ := run_append_own_at (P := Try.prog) w B 25 ty 3 i0 (.int .i64 0) 1 8 Try.underlying25 hi hz0 hz1 hz2 rfl (by decide) v n _ hown ⟨g, 0, none⟩ m cap (ys.map (Value.int .i64)) (by simpa using hu.1)
      (fun j x hj => by
        have hj' : j < (ys.map (Value.int .i64)).length := by
          rcases Nat.lt_or_ge j (ys.map (Value.int .i64)).length with h | h
          · exact h
          · rw [List.getElem?_eq_none h] at hj; cases hj
        have := hu.cellAt j (by have := hu.1; omega)
        rw [show (⟨g, 0, none⟩ : Addr).add j = ⟨g, j, none⟩ by unfold Addr.add; split <;> simp_all, this]
        exact hj)
      (fun x hx => by obtain ⟨z, _, rfl⟩ := List.mem_map.1 hx; rfl) (by unfold maxLen; omega) (by omega) hB
    exact ⟨v', w', hr, by unfold OwnI; rw [List.map_append]; exact h2, hb.grown h3 hB fun k hk => (hown.lt k hk).1⟩
theorem wp_app {o : Oper} {a : Act} {w w' : World} {K : Act → World → Prop} {Q : Exit → Act → World → Prop} (s x : Operand) (t : TypeId)
    (ho : o.op = .call { callee := .builtin .append, args := #[s, x], argTypes := #[t, t] }) (v u v' : Value) (hs : a.eval s = v) (hx : a.eval x = u)
    (hr : (Builtin.append_ #[t, t] o.type #[v, u]).run Try.prog w = .ok v' w') (h : K (a.put o.dst v') w') : o.wp Try.prog a w K Q := by
  unfold Oper.wp execOp
  simp only [ho, resolve, invoke, builtin, Sem.run_bind, Sem.run_pure, Result.andThen_ok, List.map_toArray, List.map_cons, List.map_nil, hs, hx, hr]
  exact h
/-- 'slices.Sort' of numbers of the call's own. -/
theorem sort_any {w : World} {B : Nat} {v : Value} {n : Nat} {ks : List Int} (h : OwnI w B v n ks) (hn : n ≤ 1000000000000) :
    Calls Try.prog 80 #[v] w fun e w' => e = .returned (.tuple #[]) ∧ OwnI w' B v n (ks.mergeSort fun x y => decide (x ≤ y)) ∧ w.grownBy w' v.ownBlock := by
  rcases h.2 with ⟨rfl, hz⟩ | ⟨g, cap, cur, rfl, hbase, hgb, r1, r2, r3, r4⟩
  · have hks : ks = [] := by
      have := h.1
      rw [hz] at this
      simpa using this
    subst hz hks
    refine (AnyM.slices_Sort_int_none sortA none 0 w).mono ?_
    rintro e w' ⟨rfl, rfl⟩
    exact ⟨rfl, by simpa using h, World.grownBy.refl _ _⟩
  · have hl : ks.length = n := by simpa using h.1
    subst hl
    have hH : Holds encZ w g 0 ks.toArray := holds_of_block_i hgb (by simpa using r4)
    refine (AnyM.slices_Sort_int sortA g 0 cap ks w hH (Array.getElem?_eq_some_iff.1 hgb).1 (by omega)).mono ?_
    rintro e w' ⟨rfl, m, os, rfl⟩
    exact ⟨rfl, ownsRow_sorted_i (by simp) hbase hgb r1 r2 r3, grownBy_sorted_i _⟩
theorem pthere_any {w : World} {p b c N : Nat} {A : Nat → Int} {X : Nat → List Int} (h : PmpAt w p b c A X) (hN : N = 828) :
    Calls Try.prog 38 #[.pointer (some ⟨p, 0, none⟩)] w (NumP w (selL (theP A X) N)) := by
  have HP := Lib.hid h
  have h0 := h.next (below_drewN (Below.refl _ _) 1)
  have HD := Lib.hid (show PmpAt w.drew p b c A X from h0)
  have HE := Lib.hid (there_sort h.ok N)
  have HN := Lib.hid hN
  obtain ⟨L1, hL1⟩ : ∃ L, L = selL (pres (fA A)) N := ⟨_, rfl⟩
  obtain ⟨L2, hL2⟩ : ∃ L, L = selL (pres (fX X)) N := ⟨_, rfl⟩
  obtain ⟨L3, hL3⟩ : ∃ L, L = selL (theP A X) N := ⟨_, rfl⟩
  have HLe := Lib.hid (show L1.length ≤ 828 ∧ L2.length ≤ 828 by rw [hL1, hL2, ← hN]; exact ⟨selL_len _ _, selL_len _ _⟩)
  rw [← hL1, ← hL2, ← hL3] at HE
  rw [← hL3]
  have HL1 := Lib.hid hL1
  have HL2 := Lib.hid hL2
  clear h h0 hN hL1 hL2 hL3
  go_enter Try.func38, Try.ntmps38
  go_upto_region 1 with fail
  refine wp_region_held_drew (S := (fun w' => w'.cell? ⟨p, 0, none⟩ = some (.map (some b)) ∧ w'.cell? ⟨p, 1, none⟩ = some (.map (some c)))) (by kernel_rfl) ?_ (fun hHeld => ?_)
  · exact ⟨HD.out.c0, HD.out.c1⟩
  refine wpAnyH_take (i := 0) (v := ?_) rfl (by kernel_rfl) (by kernel_rfl) (by kernel_rfl) (fun _ _ _ h => h) (Or.inl ⟨by rfl, fun w hSw => ?_⟩) (by assumption) ?_
  rotate_left
  · (try dsimp only at hSw); go_simp; try with_reducible rfl
  simp only [Act.put, List.setIfInBounds_toArray, List.set_cons_zero, List.set_cons_succ, List.getElem_toArray, List.getElem_cons_zero]
  refine wpAnyH_take (i := 1) (v := ?_) rfl (by kernel_rfl) (by kernel_rfl) (by kernel_rfl) (fun _ _ _ h => h) (Or.inl ⟨by rfl, fun w hSw => ?_⟩) (by assumption) ?_
  rotate_left
  · (try dsimp only at hSw); go_simp; try with_reducible rfl
  simp only [Act.put, List.setIfInBounds_toArray, List.set_cons_zero, List.set_cons_succ, List.getElem_toArray, List.getElem_cons_succ, List.getElem_cons_zero]
  refine wpAnyH_take (i := 2) (v := ?_) rfl (by kernel_rfl) (by kernel_rfl) (by kernel_rfl) (fun _ _ _ h => h) (Or.inl ⟨by rfl, fun w hSw => ?_⟩) (by assumption) ?_
  rotate_left
  · (try dsimp only at hSw); go_simp; try with_reducible rfl
  simp only [Act.put, List.setIfInBounds_toArray, List.set_cons_zero, List.set_cons_succ, List.getElem_toArray, List.getElem_cons_succ, List.getElem_cons_zero]
  refine wpAnyH_take (i := 3) (v := ?_) rfl (by kernel_rfl) (by kernel_rfl) (by kernel_rfl) (fun _ _ _ h => h) (Or.inl ⟨by rfl, fun w hSw => ?_⟩) (by assumption) ?_
  rotate_left
  · (try dsimp only at hSw); go_simp; try with_reducible rfl
  simp only [Act.put, List.setIfInBounds_toArray, List.set_cons_zero, List.set_cons_succ, List.getElem_toArray, List.getElem_cons_succ, List.getElem_cons_zero]
  refine wpAnyH_take (i := 5) (v := ?_) rfl (by kernel_rfl) (by kernel_rfl) (by kernel_rfl) (fun _ _ _ h => h) (Or.inl ⟨by rfl, fun w hSw => ?_⟩) (by assumption) ?_
  rotate_left
  · (try dsimp only at hSw); go_simp; try with_reducible rfl
  simp only [Act.put, List.setIfInBounds_toArray, List.set_cons_zero, List.set_cons_succ, List.getElem_toArray, List.getElem_cons_succ, List.getElem_cons_zero]
  refine wpAnyH_take (i := 6) (v := ?_) rfl (by kernel_rfl) (by kernel_rfl) (by kernel_rfl) (fun _ _ _ h => h) (Or.inl ⟨by rfl, fun w hSw => ?_⟩) (by assumption) ?_
  rotate_left
  · (try dsimp only at hSw); go_simp; try with_reducible rfl
  simp only [Act.put, List.setIfInBounds_toArray, List.set_cons_zero, List.set_cons_succ, List.getElem_toArray, List.getElem_cons_succ, List.getElem_cons_zero]
  refine wpAnyH_take (i := 7) (v := ?_) rfl (by kernel_rfl) (by kernel_rfl) (by kernel_rfl) (fun _ _ _ h => h) (Or.inl ⟨by rfl, fun w hSw => ?_⟩) (by assumption) ?_
  rotate_left
  · (try dsimp only at hSw); go_simp; try with_reducible rfl
  simp only [Act.put, List.setIfInBounds_toArray, List.set_cons_zero, List.set_cons_succ, List.getElem_toArray, List.getElem_cons_succ, List.getElem_cons_zero]
  refine wpAnyH_take (i := 8) (v := ?_) rfl (by kernel_rfl) (by kernel_rfl) (by kernel_rfl) (fun _ _ _ h => h) (Or.inl ⟨by rfl, fun w hSw => ?_⟩) (by assumption) ?_
  rotate_left
  · (try dsimp only at hSw); go_simp; try with_reducible rfl
  simp only [Act.put, List.setIfInBounds_toArray, List.set_cons_zero, List.set_cons_succ, List.getElem_toArray, List.getElem_cons_succ, List.getElem_cons_zero]
  refine wpAnyH_ready (rs := [4]) (by kernel_rfl) (by simp) ?_
  refine AllReadyH.cons rfl (fun K hK => ?_) AllReadyH.nil
  simp only [List.getElem_toArray, List.getElem_cons_succ, List.getElem_cons_zero]
  go_simp
  refine (numbersA_any HD.out.ma HN.out).mono ?_
  rintro e w2 ⟨v1, rfl, hO1, hb2⟩
  rw [← HL1.out] at hO1
  have HO1 := Lib.hid hO1
  have HP2 := Lib.hid (HD.out.next hb2)
  have HB2 := Lib.hid ((below_drewN (Below.refl w.heap.size w) 1).trans hb2)
  clear hO1 hb2
  go_wp2_with (fail)
  refine hK.out _ _ ⟨HP2.out.c0, HP2.out.c1⟩ (fun hHeld => ?_)
  clear hK K
  refine wpAnyH_ready (rs := [9]) (by kernel_rfl) (by simp) ?_
  refine AllReadyH.cons rfl (fun K hK => ?_) AllReadyH.nil
  simp only [List.getElem_toArray, List.getElem_cons_succ, List.getElem_cons_zero]
  go_simp
  refine (numbersX_any HP2.out.mx HN.out).mono ?_
  rintro e w3 ⟨v2, rfl, hO2, hb3⟩
  rw [← HL2.out] at hO2
  have HO2 := Lib.hid hO2
  have HO1b := Lib.hid (HO1.out.next hb3)
  have HP3 := Lib.hid (HP2.out.next hb3)
  have HB3 := Lib.hid (HB2.out.trans (hb3.mono HB2.out.size))
  clear hO2 hb3
  go_wp2_with (fail)
  refine hK.out _ _ ⟨HP3.out.c0, HP3.out.c1⟩ (fun hHeld => ?_)
  clear hK K
  obtain ⟨v4, w4, hr4, hO4, hb4⟩ := app_run HO1b.out HO2.out (by have := HLe.out; omega) HB3.out.size 25 HB3.out
  have HO4 := Lib.hid hO4
  have HB4 := Lib.hid hb4
  clear hO4 hb4
  refine wpAnyH_ready (rs := [10]) (by kernel_rfl) (by simp) ?_
  refine AllReadyH.cons rfl (fun K hK => ?_) AllReadyH.nil
  simp only [List.getElem_toArray, List.getElem_cons_succ, List.getElem_cons_zero]
  rw [if_pos (by rfl)]
  refine wp_app (.tmp 8) (.tmp 13) 25 rfl v1 v2 v4 rfl rfl hr4 ?_
  simp only [Act.put, List.setIfInBounds_toArray, List.set_cons_zero, List.set_cons_succ, List.getElem_toArray, List.getElem_cons_succ, List.getElem_cons_zero]
  have HP4 := Lib.hid (HP.out.next HB4.out)
  refine hK.out _ _ ⟨HP4.out.c0, HP4.out.c1⟩ (fun hHeld => ?_)
  clear hK K hr4
  refine wpAnyH_take (i := 11) (v := ?_) rfl (by kernel_rfl) (by kernel_rfl) (by kernel_rfl) (fun _ _ _ h => h) (Or.inl ⟨by rfl, fun w hSw => ?_⟩) (by assumption) ?_
  rotate_left
  · (try dsimp only at hSw); go_simp; try with_reducible rfl
  simp only [Act.put, List.setIfInBounds_toArray, List.set_cons_zero, List.set_cons_succ, List.getElem_toArray, List.getElem_cons_succ, List.getElem_cons_zero]
  refine wpAnyH_done (by kernel_rfl) ?_ _
  have HC := Lib.hid (sort_any HO4.out (by have := HLe.out; omega))
  go_wp2_with (fail)
  refine HC.out.mono ?_
  rintro e w5 ⟨rfl, hO5, hg5⟩
  rw [HE.out] at hO5
  have HO5 := Lib.hid hO5
  have HB5 := Lib.hid (HB4.out.grown hg5 HB4.out.size fun k hk => (HO4.out.lt k hk).1)
  clear hO5 hg5
  go_wp2_with (fail)
  go_ret
  refine ⟨_, rfl, ?_, HB5.out⟩
  have hl : L3.length = L1.length + L2.length := by simpa using HO5.out.1
  rw [hl]
  exact HO5.out
end Go.Proofs.Ytegcjpocdfmpfaa
namespace Go.Proofs.Ytegcjpocdfmpfaa
open Go.RowKit Go.Maps Go.ChangeMaps Go.MapKept

theorem NumP.sel {w w' : World} {ks : List Int} {e : Ending} (h : NumP w ks e w') : SelPost w ks e w' := by
  obtain ⟨v, rfl, hO, hb⟩ := h
  exact SelPost.own hO hb
theorem pmp_ok : MapOk Pmp where
  td h j hj := by
    obtain ⟨b, c, _, hT, hD⟩ := h
    rcases (hT j).1 hj with e | e
    · exact (hD j).2 (.inr (.inl e))
    · exact (hD j).2 (.inr (.inr e))
  lt h j hj := by
    obtain ⟨b, c, h, hT, hD⟩ := h
    rcases (hD j).1 hj with rfl | rfl | rfl
    · exact h.lt
    · exact h.ma.lt
    · exact h.mx.lt
  turn h ht hN := by
    obtain ⟨b, c, h, hT, hD⟩ := h
    exact ⟨b, c, h.turn ht (hN _ ((hD _).2 (.inl rfl))) (hN _ ((hD _).2 (.inr (.inl rfl)))) (hN _ ((hD _).2 (.inr (.inr rfl)))), hT, hD⟩
  new a n c ks w h _ hn := by
    refine (new_any a n c ks w h (by omega)).mono ?_
    rintro e w' ⟨h1, h2, h3⟩
    refine ⟨fun hy => ?_, h2, h3⟩
    obtain ⟨p, b, c, he, hP, hp, hb, hc⟩ := h1 hy
    refine ⟨p, _, _, he, hP.pmp, fun j hj => ?_⟩
    rcases hj with rfl | rfl | rfl <;> assumption
  put h k a n m x hx hb := by
    obtain ⟨b, c, h, hT, hD⟩ := h
    refine (put_any h k a n m x hx (fun h0 y e => Pmp.off hT (hb h0 y e))).mono ?_
    rintro e w' ⟨he, ht, hP⟩
    exact ⟨he, hP.left hT hD ht⟩
  ad h k := by
    obtain ⟨b, c, h, hT, hD⟩ := h
    exact at_any h k
  bytes h k := by
    obtain ⟨b, c, h, hT, hD⟩ := h
    exact bytes_any h k
  cut h n _ := by
    obtain ⟨b, c, h, hT, hD⟩ := h
    refine (pcut_any h n).mono ?_
    rintro e w' ⟨he, ht, hP⟩
    exact ⟨he, hP.left hT hD ht⟩
  fresh h := by
    obtain ⟨b, c, h, hT, hD⟩ := h
    exact (pfresh_any h rfl).mono fun e w' h => h.sel
  there h := by
    obtain ⟨b, c, h, hT, hD⟩ := h
    exact (pthere_any h rfl).mono fun e w' h => h.sel
  clone h := by
    obtain ⟨b, c, h, hT, hD⟩ := h
    refine (pclone_any h).mono ?_
    rintro e w' ⟨q, d, g, he, hP, h1, h2, h3, hb⟩
    refine ⟨q, _, _, he, hP.pmp, fun j hj => ?_, fun j hj => .inr ?_, hb⟩
    · rcases hj with rfl | rfl <;> assumption
    · rcases hj with rfl | rfl | rfl <;> assumption
end Go.Proofs.Ytegcjpocdfmpfaa
