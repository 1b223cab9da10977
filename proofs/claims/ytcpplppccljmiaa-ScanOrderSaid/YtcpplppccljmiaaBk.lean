/-
  The infos of a list, by their kin, by contract.
-/
import Derived.Test.YtcpplppccljmiaaKm
namespace Go.Proofs.Ytcpplppccljmiaa
open Go.RowKit Go.Maps
set_option linter.unusedVariables false

theorem infoF : (Try.prog.info? 39).map (fun i => (i.zero, i.size, i.bytes)) = some (some (.agg #[.int .i64 0, .int .i64 0, .int .i64 0, .int .i64 0, .int .i64 0, .int .i64 0]), 6, 48) := by kernel_rfl
/-- 'append(s, x)' of one info, s of the call's own. -/
theorem wpList_apf {w : World} {ops : Array Oper} {rest : List Oper} {o : Oper} {a : Act} {Q : Exit → Act → World → Prop} (hgd : o.guard = none) (s x : Operand)
    (ho : o.op = .call { callee := .builtin .append, args := #[s, x], argTypes := #[37, 37] })
    (B : Nat) (v : Value) (n : Nat) (L : List Inf) (hs : a.eval s = v) (hown : OwnF w B v n L) (g : Nat) (z : Inf) (hx : a.eval x = .slice (some ⟨g, 0, none⟩) 1 1) (hg : ∀ j u, (ifc z)[j]? = some u → w.cell? ⟨g, j, none⟩ = some u)
    (hn : n + 1 ≤ 1000000000000) (hB : B ≤ w.heap.size)
    (h : ∀ g' cap w', OwnF w' B (.slice (some ⟨g', 0, none⟩) (n + 1) cap) (n + 1) (L ++ [z]) → w.grownBy w' v.ownBlock → (v.ownBlock = some g' ∨ g' = w.heap.size) → wpList Try.prog ops Q rest (a.put o.dst (.slice (some ⟨g', 0, none⟩) (n + 1) cap)) w') : wpList Try.prog ops Q (o :: rest) a w := by
  obtain ⟨i0, hi, hz0, hz1, hz2⟩ := info_parts infoF
  refine wpList_append_lies (P := Try.prog) w hgd s x 37 ho B 39 i0 _ 6 48 Try.underlying37 hi hz0 hz1 hz2 rfl (by decide) v n _ hs hown ⟨g, 0, none⟩ 1 1 (ifc z) hx rfl ?_ ?_ (by decide) (by unfold maxLen; omega) (by omega) hB _ rfl ?_
  · intro j u hj
    rw [show (⟨g, 0, none⟩ : Addr).add j = ⟨g, j, none⟩ by unfold Addr.add; split <;> simp_all]
    exact hg j u hj
  · intro u hu
    simp only [ifc, List.mem_cons, List.not_mem_nil, or_false] at hu
    rcases hu with rfl | rfl | rfl | rfl | rfl | rfl <;> rfl
  · intro g' cap w' hown' hgrow hat hlt
    refine h g' cap w' ?_ hgrow hat
    unfold OwnF
    rw [List.flatMap_append]
    simpa using hown'
theorem ifc_at {w : World} {g : Nat} {a q c i b r : Int} (h : w.heap[g]? = some (.cells #[.int .i64 a, .int .i64 q, .int .i64 c, .int .i64 i, .int .i64 b, .int .i64 r] 39 (0, 0))) : ∀ j u, (ifc ⟨a, q, c, i, b, r⟩)[j]? = some u → w.cell? ⟨g, j, none⟩ = some u := by
  intro j u hj
  rw [cell_of_row w g j _ _ (0, 0) h]
  simpa [ifc] using hj

theorem below_grown {w w' : World} (h : Below w.heap.size w w') : w.grownBy w' none := ⟨h.os, h.tape, h.output, h.size, fun i hi _ => h.block i hi⟩
theorem OwnF.notMap {w : World} {B mb : Nat} {v : Value} {n : Nat} {L : List Inf} {es : Array MapEntry} {clock : Nat} (h : OwnF w B v n L) (hm : w.heap[mb]? = some (.map es clock)) : some mb ≠ v.ownBlock := by
  intro e
  rcases h.2 with ⟨rfl, _⟩ | ⟨g, cap, cur, rfl, hb, hg, _⟩
  · cases e
  · have : mb = g := by simpa [Value.ownBlock] using e
    rw [this, hg] at hm
    cases hm
/-- The map of a list's infos. -/
def BkPost (L : List Inf) (w0 : World) (e : Ending) (w' : World) : Prop := ∃ mb n D, e = .returned (.map (some mb)) ∧ GmD w' w0.heap.size mb n L D ∧ n ≤ L.length ∧ w0.heap.size ≤ mb ∧ Below w0.heap.size w0 w'
set_option maxHeartbeats 4000000 in
theorem byKin_any (a : Option Addr) (n c : Nat) (L : List Inf) (w : World) (h : Ifs w a n L) (hW : AllW L) (hn : n ≤ 1000000000) :
    Calls Try.prog 23 #[.slice a n c] w (BkPost L w) := by
  have HL := Lib.hid h.len
  have HW := Lib.hid hW
  have hmm := @run_makeMap Try.prog
  have hst := GmD.start w w.heap.size
  have hB1 : Below w.heap.size w (w.alloc (.map #[] 0)) := (Below.refl _ _).alloc (Nat.le_refl _) _
  clear hW
  go_enter Try.func23, Try.ntmps23
  go_wp2_with (fail)
  go_loopw [5, 6, 7, 11] (fun _p _q _r v wr => ∃ (k m : Nat) (D : DataW Unit), k ≤ n ∧ m ≤ k ∧ v = .int .i64 k ∧ GmD wr w.heap.size w.heap.size m (L.take k) D ∧ Below w.heap.size w wr) (fun _ _ _ v _ => n - (intOf v).toNat)
  case atStart => exact ⟨0, 0, _, Nat.zero_le _, Nat.le_refl _, rfl, hst, hB1⟩
  case round =>
    clear hst hB1
    obtain ⟨k, m, D, hk, hmk, rfl, hgm, hb⟩ := hrel
    have HB := Lib.hid hb
    have HG := Lib.hid hgm
    have hbs := hb.size
    clear hgm
    by_cases hlt : k < n
    · obtain ⟨b, off, g, q, cc, i, mm, r, rfl, hbl, hx, y0, y1, y2, y3, y4, y5⟩ := (h.next hb).at hlt
      have HX := Lib.hid hx
      obtain ⟨X, hX⟩ : ∃ X : Inf, X = ⟨g, q, cc, i, mm, r⟩ := ⟨_, rfl⟩
      have hXW : X.W := HW.out X (by rw [hX]; exact List.mem_of_getElem? hx)
      have hxv : ifv X = .agg #[.int .i64 g, .int .i64 q, .int .i64 cc, .int .i64 i, .int .i64 mm, .int .i64 r] := by rw [hX]; rfl
      have htk : L.take (k + 1) = L.take k ++ [X] := by rw [List.take_add_one, hx, hX]; rfl
      have HT := Lib.hid htk
      have hki := kinOf_any X (wr.alloc (.cells #[.int .i64 g, .int .i64 q, .int .i64 cc, .int .i64 i, .int .i64 mm, .int .i64 r] 39 (0, 0))) hXW
      rw [hxv] at hki
      have HXX := Lib.hid hX
      have HXW := Lib.hid hXW
      obtain ⟨wa, hwa⟩ : ∃ wa, wa = wr.alloc (.cells #[.int .i64 g, .int .i64 q, .int .i64 cc, .int .i64 i, .int .i64 mm, .int .i64 r] 39 (0, 0)) := ⟨_, rfl⟩
      have hba : Below wr.heap.size wr wa := by rw [hwa]; exact (Below.refl _ _).alloc (Nat.le_refl _) _
      have hsa : wr.heap.size < wa.heap.size := by rw [hwa]; simp
      have hga : Hid (wa.heap[wr.heap.size]? = some (.cells #[.int .i64 g, .int .i64 q, .int .i64 cc, .int .i64 i, .int .i64 mm, .int .i64 r] 39 (0, 0))) := Lib.hid (by rw [hwa]; exact (MapKept.heap_alloc wr _).1)
      have HWA := Lib.hid hwa
      clear hx h hb hX hXW hxv htk
      go_wp2_with (fail)
      rw [← hwa] at hki ⊢
      clear hwa
      obtain ⟨f, hf⟩ : ∃ f, f = kinF X := ⟨_, rfl⟩
      obtain ⟨d, hd⟩ : ∃ d, d = kinC X := ⟨_, rfl⟩
      rw [← hf, ← hd] at hki
      have HFD := Lib.hid (And.intro hf hd)
      clear hf hd
      cases hok : X.ok
      · rw [hok] at hki
        refine hki.mono ?_
        rintro e w2 ⟨rfl, hb2⟩
        have HB2 := Lib.hid (hba.trans (hb2.mono (Nat.le_of_lt hsa)))
        have HOK := Lib.hid hok
        clear hki hb2 hok
        go_wp2_with (fail)
        go_roundw
        case rel =>
          refine ⟨k + 1, m, D, by omega, by omega, by go_num, ?_, (HB.out.trans (HB2.out.mono hbs)).alloc (by have := HB2.out.size; omega) _⟩
          rw [HT.out]
          exact ((HG.out.kept (below_grown HB2.out)).kept (World.grownBy_alloc _ _ _)).skip HOK.out
        case measure => simp [intOf]; omega
      · rw [hok] at hki
        refine hki.mono ?_
        rintro e w2 ⟨rfl, hb2⟩
        -- the info's row and the kin
        have hB2 := hba.trans (hb2.mono (Nat.le_of_lt hsa))
        have hs2 : wr.heap.size < w2.heap.size := Nat.lt_of_lt_of_le hsa hb2.size
        have hi2 : w2.heap[wr.heap.size]? = some (.cells #[.int .i64 g, .int .i64 q, .int .i64 cc, .int .i64 i, .int .i64 mm, .int .i64 r] 39 (0, 0)) := (hb2.block _ hsa).trans hga.out
        have y0 := cell_of_row w2 wr.heap.size 0 _ _ (0, 0) hi2
        have y1 := cell_of_row w2 wr.heap.size 1 _ _ (0, 0) hi2
        have y2 := cell_of_row w2 wr.heap.size 2 _ _ (0, 0) hi2
        have y3 := cell_of_row w2 wr.heap.size 3 _ _ (0, 0) hi2
        have y4 := cell_of_row w2 wr.heap.size 4 _ _ (0, 0) hi2
        have y5 := cell_of_row w2 wr.heap.size 5 _ _ (0, 0) hi2
        simp only [List.getElem?_toArray, List.getElem?_cons_zero, List.getElem?_cons_succ] at y0 y1 y2 y3 y4 y5
        -- the entry
        obtain ⟨w3, hw3⟩ : ∃ w3, w3 = (w2.alloc (.cells #[.int .i64 f, .int .i64 d] 59 (0, 0))).alloc (.cells #[.int .i64 g, .int .i64 q, .int .i64 cc, .int .i64 i, .int .i64 mm, .int .i64 r] 39 (0, 0)) := ⟨_, rfl⟩
        have hb3 : Below w2.heap.size w2 w3 := by rw [hw3]; exact bel2 _ _ _
        have hs3 : w3.heap.size = w2.heap.size + 1 + 1 := by rw [hw3]; simp
        have hi3 : w3.heap[w2.heap.size + 1]? = some (.cells #[.int .i64 g, .int .i64 q, .int .i64 cc, .int .i64 i, .int .i64 mm, .int .i64 r] 39 (0, 0)) := by
          rw [hw3, show w2.heap.size + 1 = (w2.alloc (.cells #[.int .i64 f, .int .i64 d] 59 (0, 0))).heap.size by simp]
          exact (MapKept.heap_alloc _ _).1
        have hBw3 : Below w.heap.size w w3 := HB.out.trans ((hB2.trans (hb3.mono (Nat.le_of_lt hs2))).mono hbs)
        have hg3 : GmD w3 w.heap.size w.heap.size m (L.take k) D := (HG.out.kept (below_grown hB2)).kept (below_grown hb3)
        have hXo : X.of f d = true := by
          obtain ⟨e1, e2⟩ := HFD.out
          have := Inf.of_self hok
          rw [e1, e2, kinF, kinC, hok]
          exact this
        have hfw : Wn f ∧ Wn d := grp_wn (L := [X]) (fun y hy => by rw [List.mem_singleton.1 hy]; exact HXW.out) (f := f) (c := d) (by rw [grp_all (B := [X]) (fun y hy => by rw [List.mem_singleton.1 hy]; exact hXo)]; simp)
        have hWk : AllW (L.take k) := fun x hx => HW.out x (List.mem_of_mem_take hx)
        obtain ⟨v0, ps, st, w4, hrun, hR, hmt, hst⟩ := owns_entry hg3.own lawG0 Try.underlying56 zeroG elemG_zero (keyK_of hfw.1 hfw.2) (by unfold maxLen; omega)
        obtain ⟨hof, _, _, _⟩ := hg3.entry hWk hfw.1 hfw.2 hR hmt
        have hml : w.heap.size < w4.heap.size := by have := hmt.grown.size; omega
        have hmap4 : ∃ es clock, w4.heap[w.heap.size]? = some (.map es clock) := by
          obtain ⟨es, clock, es', clock', a1, b1⟩ := hmt
          exact ⟨es', clock', by rw [b1]; exact ChangeMaps.heap_setBlock_same a1 _⟩
        obtain ⟨es4, clock4, hmap4⟩ := hmap4
        have hnb := hof.notMap hmap4
        have hi4 : w4.heap[w2.heap.size + 1]? = some (.cells #[.int .i64 g, .int .i64 q, .int .i64 cc, .int .i64 i, .int .i64 mm, .int .i64 r] 39 (0, 0)) := by
          rw [hmt.grown.block (w2.heap.size + 1) (by omega) (by have := hbs; simp; omega)]; exact hi3
        have hxc : ∀ j u, (ifc X)[j]? = some u → w4.cell? ⟨w2.heap.size + 1, j, none⟩ = some u := by rw [HXX.out]; exact ifc_at hi4
        have hB4 : Below w.heap.size w w4 := hBw3.grown hmt.grown (by omega) (fun k e => by cases e; exact Nat.le_refl _)
        obtain ⟨M, hM⟩ : ∃ M, M = (grp (L.take k) f d).length := ⟨_, rfl⟩
        have hMk : M ≤ k := by rw [hM]; exact Nat.le_trans (List.length_filter_le _ _) (by rw [List.length_take]; omega)
        obtain ⟨GL, hGL⟩ : ∃ GL, GL = grp (L.take k) f d := ⟨_, rfl⟩
        rw [← hM, ← hGL] at hof
        have HALL := Lib.hid (And.intro hg3 (And.intro hWk (And.intro hXo (And.intro hfw (And.intro hR (And.intro hmt (And.intro hM (And.intro hGL hB4))))))))
        have HST := Lib.hid hst
        have HNB := Lib.hid (And.intro hnb hml)
        rw [hw3] at hrun
        clear hki hb2 hok hi2 hw3 hb3 hi3 hBw3 hg3 hXo hfw hWk hR hmt hst hmap4 hnb hi4 hB4 hM hGL hB2 hga
        go_wp2_with (at_builtin; go_must (refine wpList_apf rfl (.tmp 23) (.tmp 25) rfl w.heap.size v0 M GL rfl hof (w2.heap.size + 1) X rfl hxc (by omega) (Nat.le_of_lt HNB.out.2) ?_); intro g' cap' w5 ho5 hg5 hat5; obtain ⟨w6, hrun6, hown6, hmt6⟩ := HST.out w5 _ _ _ (hg5.block w.heap.size HNB.out.2 HNB.out.1) (elemG_mk g' (M + 1) cap'); have HO5 := Lib.hid (And.intro ho5 (And.intro hg5 (And.intro hat5 (And.intro hown6 hmt6)))); clear ho5 hg5 hat5 hown6 hmt6 hof hxc)
        go_roundw
        case rel =>
          obtain ⟨hg3, hWk, hXo, hfw, hR, hmt, hM, hGL, hB4⟩ := HALL.out
          obtain ⟨ho5, hg5, hat5, hown6, hmt6⟩ := HO5.out
          rw [hM, hGL] at ho5
          rw [hM] at hown6
          refine ⟨k + 1, m + 1, D.put (keyK f d) (ptG g' ((grp (L.take k) f d).length + 1) cap'), by omega, by omega, by go_num, ?_, ?_⟩
          · rw [HT.out]
            exact hg3.step hWk hXo hfw.1 hfw.2 hR hmt hg5 hat5 ho5 hown6 hmt6
          · refine (hB4.grown hg5 (Nat.le_of_lt HNB.out.2) (fun j hj => ?_)).grown hmt6.grown (Nat.le_trans (Nat.le_of_lt HNB.out.2) hg5.size) (fun j hj => by cases hj; exact Nat.le_refl _)
            obtain ⟨hof, _⟩ := hg3.entry hWk hfw.1 hfw.2 hR hmt
            exact (hof.lt j hj).1
        case measure => simp [intOf]; omega
    · obtain rfl : k = n := by omega
      clear h hb
      go_wp2_with (fail)
      go_ret
      refine ⟨_, m, D, rfl, ?_, by rw [HL.out]; exact hmk, Nat.le_refl _, HB.out⟩
      have := HG.out
      rw [List.take_of_length_le (by rw [HL.out]; exact Nat.le_refl _)] at this
      exact this
end Go.Proofs.Ytcpplppccljmiaa
