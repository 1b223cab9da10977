/-
  The program's Bytes and Place by contract.
-/
import Derived.Test.YtgedgkdnjnbijaaKu
import Derived.Deep.WholeRow
import Derived.Lib.SliceRun
namespace Go.Proofs.Ytgedgkdnjnbijaa
open Go.RowKit Go.Maps Go.ChangeMaps Go.MapKept
set_option linter.unusedVariables false
set_option linter.unusedSimpArgs false

theorem payC_cells {zs : List Int} : (payV zs).cells = payC zs := rfl
theorem no56_len : no56.length = 56 := rfl
theorem storeG (w : World) {cs : Array Value} (h : cs.size = 56) (h1 : cs.all (·.oneCell') = true) : (Instr.storeAt 70 (.pointer (some ⟨w.heap.size, 0, none⟩)) (.agg cs)).run Try.prog (w.alloc (.cells (payC no56) 70)) = .ok () (w.alloc (.cells cs 70)) :=
  run_storeAt_new w _ _ _ (by rw [sizeX, h]) (by rw [h, payC_size no56_len]) h1
theorem storeGC (w : World) {cs : Array Value} (h : cs.size = 56) (h1 : cs.all (·.oneCell') = true) : (storeCells ⟨w.heap.size, 0, none⟩ cs.toList 0).run Try.prog (w.alloc (.cells (payC no56) 70)) = .ok () (w.alloc (.cells cs 70)) :=
  run_storeCells_new w _ _ _ (by rw [sizeX, h]) (by rw [h, payC_size no56_len]) h1
theorem loadG (w : World) {cs : Array Value} (h : cs.size = 56) : (Instr.loadAt 70 (.pointer (some ⟨w.heap.size, 0, none⟩))).run Try.prog (w.alloc (.cells cs 70)) = .ok (.agg cs) (w.alloc (.cells cs 70)) :=
  run_loadAt_new w _ cs 56 5 uP (by rw [sizeX, h])
theorem loadGC (w : World) {cs : Array Value} (h : cs.size = 56) : (loadCellsFrom ⟨w.heap.size, 0, none⟩ 0 56 #[]).run Try.prog (w.alloc (.cells cs 70)) = .ok cs (w.alloc (.cells cs 70)) :=
  run_loadCellsFrom_new w _ cs 56 h
theorem store56 (w : World) {zs : List Int} (h : zs.length = 56) : (Instr.storeAt 70 (.pointer (some ⟨w.heap.size, 0, none⟩)) (payV zs)).run Try.prog (w.alloc (.cells (payC no56) 70)) = .ok () (w.alloc (.cells (payC zs) 70)) :=
  storeG w (payC_size h) (payC_all zs)
theorem storeC56 (w : World) {zs : List Int} (h : zs.length = 56) : (storeCells ⟨w.heap.size, 0, none⟩ (payC zs).toList 0).run Try.prog (w.alloc (.cells (payC no56) 70)) = .ok () (w.alloc (.cells (payC zs) 70)) :=
  storeGC w (payC_size h) (payC_all zs)
theorem pin56 (w : World) {zs : List Int} (h : zs.length = 56) (hs : AllB zs) : Pin (w.alloc (.cells (payC zs) 70)) (some ⟨w.heap.size, 0, none⟩) 56 56 zs := by
  refine ⟨⟨h, hs, .inr ⟨_, 0, rfl, by simp, fun i hi => ?_⟩⟩, (fun e => by cases e), Nat.le_refl _, by omega⟩
  rw [Nat.zero_add, cell_of_row _ _ i _ _ (0, 0) (heap_alloc_new w _)]
  simp [payC, byt, List.getD, show i < zs.length by omega]
theorem clone_any (p : Addr) (n c : Nat) (x : List Int) (w : World) (hx : Pin w (some p) n c x) (hn : n ≤ 1000000000000) :
    Calls Try.prog 40 #[.slice (some p) n c] w (ConPost w x) := by
  have hq : ∀ (w : World) (a : Option Addr) (n c : Nat), (binOp .eql 36 (.slice a n c) (.slice none 0 0)).run Try.prog w = .ok (.bool a.isNone) w := fun w a n c => Lib.run_eql_slice_nil w _ _ a n c 0 0 Try.underlying36
  go_enter Try.func40, Try.ntmps40
  go_wp2_with (at_builtin; go_must (refine wpList_ap rfl (.tmp 5) (.tmp 6) rfl w.heap.size _ 0 [] rfl (own_none w w.heap.size (Nat.le_refl _)) (some p) n c x rfl (hx.bys.below (Nat.le_refl _) ((Below.refl _ _).alloc (Nat.le_refl _) _)) (fun h => by cases h) (by omega) (by simp) w ((Below.refl _ _).alloc (Nat.le_refl _) _) ?_); intro v w1 hown1 hb1)
  go_ret
  exact ⟨_, rfl, by rw [hx.len]; simpa using hown1, hb1⟩
theorem byX_no {X : Nat → List Int} {k : Int} (h : byO X k = false) : byX X k = [] := by
  unfold byO at h
  unfold byX
  cases hk : inK k with
  | false => rfl
  | true =>
    rw [hk] at h
    rw [if_pos rfl]
    simpa using h
theorem byX_yes {X : Nat → List Int} {k : Int} (h : byO X k = true) : ∃ j : Nat, k = j ∧ j < 828 ∧ byX X k = X j ∧ X j ≠ [] := by
  have hk : inK k = true := by
    cases hk : inK k with
    | false => rw [byO, hk] at h; cases h
    | true => rfl
  obtain ⟨h0, h1⟩ := inK_iff.1 hk
  obtain ⟨j, rfl⟩ := Int.eq_ofNat_of_zero_le h0
  have hj : j < 828 := by omega
  obtain ⟨e1, e2⟩ := by_yes X hj
  refine ⟨j, rfl, hj, e2, fun e => ?_⟩
  rw [e1, e] at h
  cases h
set_option maxRecDepth 10000 in
set_option maxHeartbeats 4000000 in
theorem bytes_any {w : World} {p b c : Nat} {A : Nat → Int} {X : Nat → List Int} (h : PmpAt w p b c A X) (k : Int) :
    Calls Try.prog 17 #[.pointer (some ⟨p, 0, none⟩), .int .i64 k] w (RetT w (byX X k) (byO X k)) := by
  have hq := h.lookX k
  have c1 := h.c1
  have hz := zX
  cases ho : byO X k with
  | false =>
    rw [ho] at hq
    have HX := Lib.hid (byX_no ho)
    have hst := store56 w no56_len
    have hst2 := storeC56 w no56_len
    have hs := payC_size no56_len
    clear h ho
    go_enter Try.func17, Try.ntmps17
    go_wp2_with (fail)
    go_ret2
    rw [HX.out]
    exact ⟨_, _, _, rfl, Pin.zero _, (Below.refl _ _).alloc (Nat.le_refl _) _⟩
  | true =>
    rw [ho] at hq
    obtain ⟨j, rfl, hj, e2, hne⟩ := byX_yes ho
    rw [e2] at hq ⊢
    obtain ⟨hl, hs8⟩ : (X j).length = 56 ∧ AllB (X j) := by
      rcases h.ok.sz j with h1 | h1
      · exact absurd h1 hne
      · exact h1
    obtain ⟨zs, hzs⟩ : ∃ zs, zs = X j := ⟨_, rfl⟩
    rw [← hzs] at hl hs8 hq ⊢
    have hst := store56 w hl
    have hst2 := storeC56 w hl
    have hs := payC_size hl
    have hc := clone_any ⟨w.heap.size, 0, none⟩ 56 56 zs _ (pin56 w hl hs8) (by omega)
    clear h ho hzs hne e2 hl hs8
    go_enter Try.func17, Try.ntmps17
    go_wp2_with (fail)
    refine hc.mono ?_
    rintro e w3 ⟨v, rfl, hO, hb3⟩
    obtain ⟨a, m, rfl, hp, hn⟩ := hO.pin
    have HP := Lib.hid hp
    have HB := Lib.hid hb3
    clear hO hp hn hb3
    go_wp2_with (fail)
    go_ret2
    exact ⟨_, _, _, rfl, HP.out, ((Below.refl w.heap.size w).alloc (Nat.le_refl _) _).trans (HB.out.mono (by simp))⟩
end Go.Proofs.Ytgedgkdnjnbijaa
