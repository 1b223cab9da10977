/-
  Summaries: the document's PutSummary, by contract.
-/
import Derived.Test.YtcpplppccljmiaaSuB
import Derived.Test.YtcpplppccljmiaaSu3
namespace Go.Proofs.Ytcpplppccljmiaa
open Go.RowKit
set_option linter.unusedVariables false

theorem rRight_any (d r s c i n t : Int) (w : World) :
    Calls Try.prog 17 #[gv d r s, umv c i n t] w fun e w' => e = .returned (.bool (sumO d r s c i n t)) ∧ Below w.heap.size w w' := by
  by_cases h0 : Rt d r s
  · by_cases h1 : 1 ≤ c
    · by_cases h2 : c ≤ s
      · by_cases h3 : 0 ≤ i
        · by_cases h4 : i < c
          · by_cases h5 : 0 ≤ n
            · by_cases h6 : n ≤ PL d r
              · have e : sumO d r s c i n t = rootO d r s c i t := by
                  cases hr : rootO d r s c i t with
                  | true => exact sumO_yes ⟨h0, h1, h2, h3, h4, h5, h6, hr⟩
                  | false => exact sumO_no fun h => by have h' := h.root; rw [hr] at h'; cases h'
                rw [e]
                by_cases e1 : i < c - 1
                · have er : rootO d r s c i t = (t == 0) := by
                    unfold rootO
                    rw [if_neg (by omega)]
                    rfl
                  rw [er]
                  exact rRight_7 d r s c i n t w h0 h1 h2 h3 h4 h5 h6 e1
                · by_cases e2 : t < 1
                  · have er : rootO d r s c i t = false := by
                      unfold rootO
                      rw [if_pos (by omega)]
                      exact decide_eq_false (by omega)
                    rw [er]
                    exact rRight_8 d r s c i n t w h0 h1 h2 h3 h4 h5 h6 e1 e2
                  · have er : rootO d r s c i t = decide (t ≤ s * PL d r) := by
                      unfold rootO
                      rw [if_pos (by omega)]
                      by_cases e3 : t ≤ s * PL d r
                      · rw [decide_eq_true e3, decide_eq_true ⟨by omega, e3⟩]
                      · rw [decide_eq_false e3, decide_eq_false (fun h => e3 h.2)]
                    rw [er]
                    exact rRight_9 d r s c i n t w h0 h1 h2 h3 h4 h5 h6 e1 (by omega)
              · rw [sumO_no fun h => h6 h.n1]; exact rRight_6 d r s c i n t w h0 h1 h2 h3 h4 h5 h6
            · rw [sumO_no fun h => h5 h.n0]; exact rRight_5 d r s c i n t w h0 h1 h2 h3 h4 h5
          · rw [sumO_no fun h => h4 h.i1]; exact rRight_4 d r s c i n t w h0 h1 h2 h3 h4
        · rw [sumO_no fun h => h3 h.i0]; exact rRight_3 d r s c i n t w h0 h1 h2 h3
      · rw [sumO_no fun h => h2 h.c2]; exact rRight_2 d r s c i n t w h0 h1 h2
    · rw [sumO_no fun h => h1 h.c1]; exact rRight_1 d r s c i n t w h0 h1
  · rw [sumO_no fun h => h0 h.rt]; exact rRight_0 d r s c i n t w h0

/-- What the document's PutSummary answers. -/
def RsPost (w : World) (ok : Bool) (zs : List Int) (e : Ending) (w' : World) : Prop :=
  if ok then ∃ a c, e = .returned (.tuple #[.agg #[.int .i64 65535, .int .i64 0, .slice a 56 c], .bool true]) ∧ Pin w' a 56 c zs ∧ Below w.heap.size w w'
  else e = .returned (.tuple #[.agg #[.int .i64 0, .int .i64 0, .slice none 0 0], .bool false]) ∧ Below w.heap.size w w'
theorem rput2 {n : Int} (hn : 0 ≤ n ∧ n < 65536) (w : World) : Calls Try.prog 18 #[.int .i64 2, .int .i64 n] w fun e w' => ∃ a c, e = .returned (.slice a 2 c) ∧ Bys w' a 2 (digs 2 n) ∧ (a = none → (2 : Nat) = 0 ∧ c = 0) ∧ Below w.heap.size w w' := by
  have h := refPut_fun 2 n w (by omega)
  have e : putL 2 n = digs 2 n := putL_yes (m := 2) (by omega) (by omega) (hasW2 hn)
  rw [e] at h
  refine h.mono ?_
  rintro e w' ⟨a, c, rfl, h1⟩
  have hl : (digs 2 n).length = 2 := digs_len 2 n
  rw [hl] at h1 ⊢
  exact ⟨a, c, rfl, h1.bys, h1.nil, h1.bel⟩
theorem Pin.setG {w : World} {a : Option Addr} {n c b : Nat} {zs : List Int} {p q : Int} {r : Value} (h : Pin w a n c zs) (hb : ∀ x, a = some x → b < x.block) : Pin (setG w b p q r) a n c zs := by
  refine ⟨⟨h.bys.len, h.bys.small, ?_⟩, h.nil, h.cap, h.max⟩
  rcases h.bys.place with h0 | ⟨g, off, e, hlt, hc⟩
  · exact .inl h0
  · refine .inr ⟨g, off, e, by simpa [Go.Proofs.Ytcpplppccljmiaa.setG] using hlt, fun i hi => ?_⟩
    have := hb _ e
    have hne : ∀ k, (⟨b, k, none⟩ : Addr) ≠ ⟨g, off + i, none⟩ := fun k e => by
      have : b = g := congrArg Addr.block e
      simp at *
      omega
    rw [Go.Proofs.Ytcpplppccljmiaa.setG, set_othG (hne 2), set_othG (hne 1), set_othG (hne 0)]
    exact hc i hi

set_option maxRecDepth 100000 in
set_option maxHeartbeats 8000000 in
theorem rputSum_any (d r s c i n t : Int) (w : World) :
    Calls Try.prog 7 #[gv d r s, umv c i n t] w (RsPost w (sumO d r s c i n t) (sumL c i n t)) := by
  obtain ⟨X, hX⟩ : ∃ X, X = ((w.alloc (.cells #[.int .i64 d, .int .i64 r, .int .i64 s] 23 (0, 0))).alloc (.cells #[.int .i64 c, .int .i64 i, .int .i64 n, .int .i64 t] 25 (0, 0))).alloc (.cells #[.int .i64 0, .int .i64 0, .slice none 0 0] 28 (0, 0)) := ⟨_, rfl⟩
  have hB : Below w.heap.size w X := by rw [hX]; exact bel3 _ _ _ _
  have hu : Gu X w.heap.size d r s c i n t := by
    rw [hX]
    exact (Gu.mk' w d r s c i n t).next ((Below.refl _ _).alloc (Nat.le_refl _) _)
  have hgx : Gx X (w.heap.size + 1 + 1) 0 0 (.slice none 0 0) := by
    rw [hX, show w.heap.size + 1 + 1 = ((w.alloc (.cells #[.int .i64 d, .int .i64 r, .int .i64 s] 23 (0, 0))).alloc (.cells #[.int .i64 c, .int .i64 i, .int .i64 n, .int .i64 t] 25 (0, 0))).heap.size by simp]
    exact Gx.mk' _ 0 0 _ _
  have hri := rRight_any d r s c i n t X
  unfold umv at hri ⊢
  obtain ⟨g, hg⟩ : ∃ g, g = w.heap.size := ⟨_, rfl⟩
  obtain ⟨k, hk⟩ : ∃ k, k = w.heap.size + 1 + 1 := ⟨_, rfl⟩
  have hlk : w.heap.size ≤ k := by omega
  rw [← hk] at hgx
  have HX := Lib.hid (And.intro hB (And.intro hu (And.intro hgx hlk)))
  clear hB hu hgx hlk
  cases hok : sumO d r s c i n t
  · rw [hok] at hri
    clear hok
    go_enter Try.func7, Try.ntmps7
    go_wp2_with (fail)
    rw [← hX, ← hk]
    clear hX hk
    refine hri.mono ?_
    rintro e w2 ⟨rfl, hb2⟩
    have HG := Lib.hid (HX.out.2.2.1.next hb2)
    have HB2 := Lib.hid (HX.out.1.trans (hb2.mono HX.out.1.size))
    have y0 := HG.out.c0
    have y1 := HG.out.c1
    have y2 := HG.out.c2
    have f0 := HG.out.f0
    have f1 := HG.out.f1
    have f2 := HG.out.f2
    clear hb2 hri
    go_wp2_with (fail)
    have e0 := HG.out.set3 0 0 (.slice none 0 0)
    have k0 := e0.c0
    have k1 := e0.c1
    have k2 := e0.c2
    unfold setG at k0 k1 k2
    exact bodyPost_ret (v := .tuple #[.agg #[.int .i64 0, .int .i64 0, .slice none 0 0], .bool false]) (by simp [results, Try.results7, go_sem, k0, k1, k2]) rfl ⟨rfl, HB2.out.setG HX.out.2.2.2⟩
  · rw [hok] at hri
    have hsm := (sumO_of hok).small
    have p0 := fun W => rput2 (n := 21331) (by omega) W
    have p1 := fun W => rput2 hsm.1 W
    have p2 := fun W => rput2 hsm.2.1 W
    have p3 := fun W => rput2 hsm.2.2.1 W
    have p4 := fun W => rput2 hsm.2.2.2 W
    have HP := Lib.hid (And.intro p0 (And.intro p1 (And.intro p2 (And.intro p3 p4))))
    clear hok p0 p1 p2 p3 p4 hsm
    have hg2 : Hid (g = w.heap.size) := hg
    go_enter Try.func7, Try.ntmps7
    go_wp2_with (fail)
    rw [← hX, ← hk, ← hg]
    clear hX hk hg
    refine hri.mono ?_
    rintro e w2 ⟨rfl, hb2⟩
    have HG := Lib.hid (HX.out.2.2.1.next hb2)
    have HB2 := Lib.hid (HX.out.1.trans (hb2.mono HX.out.1.size))
    have hu2 := HX.out.2.1.next hb2
    rw [← hg2.out] at hu2
    have z0 := hu2.u0
    have z1 := hu2.u1
    have z2 := hu2.u2
    have z3 := hu2.u3
    have zl := hu2.lt
    clear hb2 hri hu2
    go_wp2_with (fail)
    -- the numbers, and the first empty row
    obtain ⟨W0, hW0⟩ : ∃ W0, W0 = (w2.alloc (.cells #[.int .i64 21331, .int .i64 c, .int .i64 i, .int .i64 n, .int .i64 t] 50 (0, 0))).alloc (.cells #[] 5 (0, 0)) := ⟨_, rfl⟩
    obtain ⟨A, hA⟩ : ∃ A, A = w2.heap.size := ⟨_, rfl⟩
    have ha0 : W0.heap[A]? = some (.cells #[.int .i64 21331, .int .i64 c, .int .i64 i, .int .i64 n, .int .i64 t] 50 (0, 0)) := by
      rw [hW0, hA, (MapKept.heap_alloc _ _).2 _ (by simp)]
      exact (MapKept.heap_alloc _ _).1
    have hown : Own W0 (A + 1) (.slice (some ⟨A + 1, 0, none⟩) 0 0) 0 [] := by
      have := own_none (w2.alloc (.cells #[.int .i64 21331, .int .i64 c, .int .i64 i, .int .i64 n, .int .i64 t] 50 (0, 0))) (w2.heap.size + 1) (by simp)
      rw [hW0, hA]
      simpa using this
    have HBW : Hid (Below w.heap.size w W0) := by rw [hW0]; exact (HB2.out.alloc HB2.out.size _).alloc (by have := HB2.out.size; simp; omega) _
    have HGW : Hid (Gx W0 k 0 0 (.slice none 0 0)) := by rw [hW0]; exact HG.out.next (bel2 _ _ _)
    have hAs : A + 1 ≤ W0.heap.size := by rw [hW0, hA]; simp
    have HKA : Hid (k < A + 1) := by have := HG.out.lt; rw [← hA] at this; show _ < _; omega
    rw [← hW0, ← hA]
    clear hW0 hA z0 z1 z2 z3 zl HB2 HG
    have HO := Lib.hid hown
    have HC := Lib.hid (Below.refl (A + 1) W0)
    have HA0 := Lib.hid ha0
    clear hown
    refine wp_loop_rounds 6 ?_
    have a0x := cell_of_row W0 A 0 _ _ (0, 0) ha0
    simp only [List.getElem?_toArray, List.getElem?_cons_zero, List.getElem?_cons_succ] at a0x
    have lt0 := lt_of_block ha0
    rw [rounds_succ]
    go_wp2_with (fail)
    refine (HP.out.1 _).mono ?_
    rintro e w0a ⟨q0, d0, rfl, hy0, hn0, hl0⟩
    have ho0 := HO.out.below (Nat.le_refl _) hl0
    have hs0 : A + 1 ≤ w0a.heap.size := by have := HC.out.size; have := hl0.size; omega
    have hm0 := HC.out.trans (hl0.mono (by have := HC.out.size; omega))
    clear HO HC hl0 a0x lt0 ha0
    go_wp2_with (at_builtin; go_must (refine wpList_ap rfl (.tmp 28) (.tmp 32) rfl (A + 1) _ 0 _ rfl ho0 q0 2 d0 _ rfl hy0 hn0 (by omega) hs0 W0 hm0 ?_); intro v0 w0 o0 b0; obtain ⟨c0, e0, rfl, _⟩ := o0.form; have HO := Lib.hid o0; have HC := Lib.hid b0; clear o0 b0 ho0 hy0 hs0 hm0 hn0)
    have ha1 : w0.heap[A]? = some (.cells #[.int .i64 21331, .int .i64 c, .int .i64 i, .int .i64 n, .int .i64 t] 50 (0, 0)) := (HC.out.block A (Nat.lt_succ_self _)).trans HA0.out
    have a1x := cell_of_row w0 A 1 _ _ (0, 0) ha1
    simp only [List.getElem?_toArray, List.getElem?_cons_zero, List.getElem?_cons_succ] at a1x
    have lt1 := lt_of_block ha1
    rw [rounds_succ]
    go_wp2_with (fail)
    refine (HP.out.2.1 _).mono ?_
    rintro e w1a ⟨q1, d1, rfl, hy1, hn1, hl1⟩
    have ho1 := HO.out.below (Nat.le_refl _) hl1
    have hs1 : A + 1 ≤ w1a.heap.size := by have := HC.out.size; have := hl1.size; omega
    have hm1 := HC.out.trans (hl1.mono (by have := HC.out.size; omega))
    clear HO HC hl1 a1x lt1 ha1
    go_wp2_with (at_builtin; go_must (refine wpList_ap rfl (.tmp 28) (.tmp 32) rfl (A + 1) _ 2 _ rfl ho1 q1 2 d1 _ rfl hy1 hn1 (by omega) hs1 W0 hm1 ?_); intro v1 w1 o1 b1; obtain ⟨c1, e1, rfl, _⟩ := o1.form; have HO := Lib.hid o1; have HC := Lib.hid b1; clear o1 b1 ho1 hy1 hs1 hm1 hn1)
    have ha2 : w1.heap[A]? = some (.cells #[.int .i64 21331, .int .i64 c, .int .i64 i, .int .i64 n, .int .i64 t] 50 (0, 0)) := (HC.out.block A (Nat.lt_succ_self _)).trans HA0.out
    have a2x := cell_of_row w1 A 2 _ _ (0, 0) ha2
    simp only [List.getElem?_toArray, List.getElem?_cons_zero, List.getElem?_cons_succ] at a2x
    have lt2 := lt_of_block ha2
    rw [rounds_succ]
    go_wp2_with (fail)
    refine (HP.out.2.2.1 _).mono ?_
    rintro e w2a ⟨q2, d2, rfl, hy2, hn2, hl2⟩
    have ho2 := HO.out.below (Nat.le_refl _) hl2
    have hs2 : A + 1 ≤ w2a.heap.size := by have := HC.out.size; have := hl2.size; omega
    have hm2 := HC.out.trans (hl2.mono (by have := HC.out.size; omega))
    clear HO HC hl2 a2x lt2 ha2
    go_wp2_with (at_builtin; go_must (refine wpList_ap rfl (.tmp 28) (.tmp 32) rfl (A + 1) _ 4 _ rfl ho2 q2 2 d2 _ rfl hy2 hn2 (by omega) hs2 W0 hm2 ?_); intro v2 w2 o2 b2; obtain ⟨c2, e2, rfl, _⟩ := o2.form; have HO := Lib.hid o2; have HC := Lib.hid b2; clear o2 b2 ho2 hy2 hs2 hm2 hn2)
    have ha3 : w2.heap[A]? = some (.cells #[.int .i64 21331, .int .i64 c, .int .i64 i, .int .i64 n, .int .i64 t] 50 (0, 0)) := (HC.out.block A (Nat.lt_succ_self _)).trans HA0.out
    have a3x := cell_of_row w2 A 3 _ _ (0, 0) ha3
    simp only [List.getElem?_toArray, List.getElem?_cons_zero, List.getElem?_cons_succ] at a3x
    have lt3 := lt_of_block ha3
    rw [rounds_succ]
    go_wp2_with (fail)
    refine (HP.out.2.2.2.1 _).mono ?_
    rintro e w3a ⟨q3, d3, rfl, hy3, hn3, hl3⟩
    have ho3 := HO.out.below (Nat.le_refl _) hl3
    have hs3 : A + 1 ≤ w3a.heap.size := by have := HC.out.size; have := hl3.size; omega
    have hm3 := HC.out.trans (hl3.mono (by have := HC.out.size; omega))
    clear HO HC hl3 a3x lt3 ha3
    go_wp2_with (at_builtin; go_must (refine wpList_ap rfl (.tmp 28) (.tmp 32) rfl (A + 1) _ 6 _ rfl ho3 q3 2 d3 _ rfl hy3 hn3 (by omega) hs3 W0 hm3 ?_); intro v3 w3 o3 b3; obtain ⟨c3, e3, rfl, _⟩ := o3.form; have HO := Lib.hid o3; have HC := Lib.hid b3; clear o3 b3 ho3 hy3 hs3 hm3 hn3)
    have ha4 : w3.heap[A]? = some (.cells #[.int .i64 21331, .int .i64 c, .int .i64 i, .int .i64 n, .int .i64 t] 50 (0, 0)) := (HC.out.block A (Nat.lt_succ_self _)).trans HA0.out
    have a4x := cell_of_row w3 A 4 _ _ (0, 0) ha4
    simp only [List.getElem?_toArray, List.getElem?_cons_zero, List.getElem?_cons_succ] at a4x
    have lt4 := lt_of_block ha4
    rw [rounds_succ]
    go_wp2_with (fail)
    refine (HP.out.2.2.2.2 _).mono ?_
    rintro e w4a ⟨q4, d4, rfl, hy4, hn4, hl4⟩
    have ho4 := HO.out.below (Nat.le_refl _) hl4
    have hs4 : A + 1 ≤ w4a.heap.size := by have := HC.out.size; have := hl4.size; omega
    have hm4 := HC.out.trans (hl4.mono (by have := HC.out.size; omega))
    clear HO HC hl4 a4x lt4 ha4
    go_wp2_with (at_builtin; go_must (refine wpList_ap rfl (.tmp 28) (.tmp 32) rfl (A + 1) _ 8 _ rfl ho4 q4 2 d4 _ rfl hy4 hn4 (by omega) hs4 W0 hm4 ?_); intro v4 w4 o4 b4; obtain ⟨c4, e4, rfl, _⟩ := o4.form; have HO := Lib.hid o4; have HC := Lib.hid b4; clear o4 b4 ho4 hy4 hs4 hm4 hn4)
    rw [rounds_succ]
    go_wp2_with (fail)
    go_loopw [7] (fun u wr => ∃ m : Nat, 10 ≤ m ∧ m ≤ 56 ∧ Own wr (A + 1) u m (padL (sumN c i n t) m) ∧ Below (A + 1) W0 wr) (fun u _ => match u with | .slice _ m _ => 56 - m | _ => 0)
    case atStart =>
      have := HO.out
      refine ⟨10, by omega, by omega, ?_, HC.out⟩
      have e : padL (sumN c i n t) 10 = sumN c i n t := by unfold padL; rw [sumN_len]; simp
      rw [e]
      exact this
    case round =>
      clear HO HC
      obtain ⟨m, hm1, hm2, ho, hb⟩ := hrel
      obtain ⟨ua, uc, rfl, _⟩ := ho.form
      by_cases hlt : m < 56
      · have hon := ho.below (C := wr.heap.size) (Nat.le_refl _) ((Below.refl _ _).alloc (Nat.le_refl _) (.cells #[.int .u8 0] 5 (0, 0)))
        have hz : Blk (wr.alloc (.cells #[.int .u8 0] 5 (0, 0))) wr.heap.size [0] := blk_lit rfl
        have hzy := hz.bysn (n := 1) (fun z hz => by rw [List.mem_singleton.1 hz]; omega) rfl
        have hbs := hb.size
        have hbn := hb.alloc (by have := hb.size; omega) (.cells #[.int .u8 0] 5 (0, 0))
        have hml : (m : Int) < 56 := by omega
        clear ho hz
        go_wp2_with (at_builtin; go_must (refine wpList_ap rfl (.tmp 37) (.tmp 38) rfl (A + 1) _ m _ rfl hon (some ⟨wr.heap.size, 0, none⟩) 1 1 [0] rfl hzy (fun h => by cases h) (by omega) (by simp; omega) W0 hbn ?_); intro v9 w9 o9 b9; obtain ⟨c9, e9, rfl, _⟩ := o9.form; have HO9 := Lib.hid (And.intro o9 b9); clear o9 b9 hon hzy hbn)
        go_roundw
        case rel =>
          refine ⟨m + 1, by omega, by omega, ?_, HO9.out.2⟩
          have e : padL (sumN c i n t) (m + 1) = padL (sumN c i n t) m ++ [0] := by
            unfold padL
            rw [sumN_len, show m + 1 - 10 = (m - 10) + 1 by omega, List.replicate_succ', List.append_assoc]
          rw [e]
          exact HO9.out.1
        case measure => simp only; omega
      · obtain rfl : m = 56 := by omega
        have hgx := HGW.out.below hb HKA.out
        have y0 := hgx.c0
        have y1 := hgx.c1
        have y2 := hgx.c2
        have f0 := hgx.f0
        have f1 := hgx.f1
        have f2 := hgx.f2
        obtain ⟨pa, pc, pe, hpin, hpl⟩ := ho.pin
        cases pe
        have HF := Lib.hid (And.intro hgx (And.intro hpin (And.intro hpl (HBW.out.trans (hb.mono (by have := HX.out.2.2.2; have := HKA.out; omega))))))
        clear ho hb hgx hpin hpl
        go_wp2_with (fail)
        have e0 := HF.out.1.set3 65535 0 (.slice ua 56 uc)
        have k0 := e0.c0
        have k1 := e0.c1
        have k2 := e0.c2
        unfold setG at k0 k1 k2
        exact bodyPost_ret (v := .tuple #[.agg #[.int .i64 65535, .int .i64 0, .slice ua 56 uc], .bool true]) (by simp [results, Try.results7, go_sem, k0, k1, k2]) rfl ⟨ua, uc, rfl, HF.out.2.1.setG (fun x hx => Nat.lt_of_lt_of_le HKA.out (HF.out.2.2.1 x hx).1), HF.out.2.2.2.setG HX.out.2.2.2⟩
end Go.Proofs.Ytcpplppccljmiaa
