/-
  Summaries: the document's PutSummary, by contract.
-/
import Derived.Test.YtacnhlmhibhlhaaGreatSuB
import Derived.Test.YtacnhlmhibhlhaaGreatSua
import Derived.Test.YtacnhlmhibhlhaaGreatHb
import Derived.Test.YtacnhlmhibhlhaaGreatNa
set_option linter.unusedSimpArgs false
set_option linter.unusedVariables false
namespace Go.Proofs.YtacnhlmhibhlhaaGreat
open Go.RowKit
set_option linter.unusedVariables false

theorem rRight_any (d r s c i n t : Int) (w : World) :
    Calls Tryz.prog 94 #[gv d r s, umv c i n t] w fun e w' => e = .returned (.bool (sumO d r s c i n t)) ∧ Below w.heap.size w w' := by
  by_cases h0 : Rt d r s
  · by_cases h1 : 1 ≤ c
    · by_cases h2 : c ≤ s
      · by_cases h3 : 0 ≤ i
        · by_cases h4 : i < c
          · by_cases h5 : 0 ≤ n
            · by_cases h6 : n ≤ PL d r
              · have e : sumO d r s c i n t = rootO d r s c i t := by
                  cases hr : rootO d r s c i t with
                  | true => exact sumO_yes ⟨h0, h1, h2, h3, h4, h5, h6, hr⟩
                  | false => exact sumO_no fun h => by have h' := h.root; rw [hr] at h'; cases h'
                rw [e]
                by_cases e1 : i < c - 1
                · have er : rootO d r s c i t = (t == 0) := by
                    unfold rootO
                    rw [if_neg (by omega)]
                    rfl
                  rw [er]
                  exact rRight_7 d r s c i n t w h0 h1 h2 h3 h4 h5 h6 e1
                · by_cases e2 : t < 1
                  · have er : rootO d r s c i t = false := by
                      unfold rootO
                      rw [if_pos (by omega)]
                      exact decide_eq_false (by omega)
                    rw [er]
                    exact rRight_8 d r s c i n t w h0 h1 h2 h3 h4 h5 h6 e1 e2
                  · have er : rootO d r s c i t = decide (t ≤ s * PL d r) := by
                      unfold rootO
                      rw [if_pos (by omega)]
                      by_cases e3 : t ≤ s * PL d r
                      · rw [decide_eq_true e3, decide_eq_true ⟨by omega, e3⟩]
                      · rw [decide_eq_false e3, decide_eq_false (fun h => e3 h.2)]
                    rw [er]
                    exact rRight_9 d r s c i n t w h0 h1 h2 h3 h4 h5 h6 e1 (by omega)
              · rw [sumO_no fun h => h6 h.n1]; exact rRight_6 d r s c i n t w h0 h1 h2 h3 h4 h5 h6
            · rw [sumO_no fun h => h5 h.n0]; exact rRight_5 d r s c i n t w h0 h1 h2 h3 h4 h5
          · rw [sumO_no fun h => h4 h.i1]; exact rRight_4 d r s c i n t w h0 h1 h2 h3 h4
        · rw [sumO_no fun h => h3 h.i0]; exact rRight_3 d r s c i n t w h0 h1 h2 h3
      · rw [sumO_no fun h => h2 h.c2]; exact rRight_2 d r s c i n t w h0 h1 h2
    · rw [sumO_no fun h => h1 h.c1]; exact rRight_1 d r s c i n t w h0 h1
  · rw [sumO_no fun h => h0 h.rt]; exact rRight_0 d r s c i n t w h0

end Go.Proofs.YtacnhlmhibhlhaaGreat

/-
  Summaries: the document's GetSummary, by contract.
-/
namespace Go.Proofs.YtacnhlmhibhlhaaGreat
open Go.RowKit
set_option linter.unusedVariables false

set_option maxRecDepth 100000 in
set_option maxHeartbeats 4000000 in
theorem rgetSum_own (d r s o ix : Int) (a : Option Addr) (la ca : Nat) (x : List Int) (w : World) (hx : Pin w a la ca x) (hn : la ≤ 1000000000000) (c i n t : Int) (hc : c = tv la x 1) (hi : i = tv la x 2) (hnn : n = tv la x 3) (ht : t = tv la x 4) (h1 : (o != 65535) = true) :
    Calls Tryz.prog 48 #[gv d r s, .agg #[.int .i64 o, .int .i64 ix, .slice a la ca]] w (GsmPost w false c i n t) := by
  obtain ⟨X, hX⟩ : ∃ X, X = ((w.alloc (.cells #[.int .i64 d, .int .i64 r, .int .i64 s] 33 (0, 0))).alloc (.cells #[.int .i64 o, .int .i64 ix, .slice a la ca] 65 (0, 0))).alloc (.cells #[.int .i64 0, .int .i64 0, .int .i64 0, .int .i64 0] 57 (0, 0)) := ⟨_, rfl⟩
  have hB : Below w.heap.size w X := by rw [hX]; exact bel3 _ _ _ _
  have hbx : Bx X w.heap.size d r s := by rw [hX]; exact ((Bx.mk' w d r s _).alloc _).alloc _
  have hgx : Gx X (w.heap.size + 1) o ix (.slice a la ca) := by
    rw [hX, show w.heap.size + 1 = (w.alloc (.cells #[.int .i64 d, .int .i64 r, .int .i64 s] 33 (0, 0))).heap.size by simp]
    exact (Gx.mk' _ o ix _ _).next ((Below.refl _ _).alloc (Nat.le_refl _) _)
  have hm4 : M4 X (w.heap.size + 1 + 1) 0 0 0 0 := by
    rw [hX, show w.heap.size + 1 + 1 = ((w.alloc (.cells #[.int .i64 d, .int .i64 r, .int .i64 s] 33 (0, 0))).alloc (.cells #[.int .i64 o, .int .i64 ix, .slice a la ca] 65 (0, 0))).heap.size by simp]
    exact M4.mk' _ 0 0 0 0 _
  have hxX := hx.next hB
  have HA := Lib.hid (And.intro hB (And.intro hbx (And.intro hgx hm4)))
  clear hB hbx hgx hm4 hc hi hnn ht hx hxX
  subst hX
  go_enter Tryz.func48, Tryz.ntmps48
  go_wp2_with (fail)
  exact bodyPost_ret (v := .tuple #[.agg #[.int .i64 0, .int .i64 0, .int .i64 0, .int .i64 0], .bool false]) (by simp [results, Tryz.results48, go_sem]) rfl ⟨rfl, bel3 _ _ _ _⟩

set_option maxRecDepth 100000 in
set_option maxHeartbeats 4000000 in
theorem rgetSum_idx (d r s o ix : Int) (a : Option Addr) (la ca : Nat) (x : List Int) (w : World) (hx : Pin w a la ca x) (hn : la ≤ 1000000000000) (c i n t : Int) (hc : c = tv la x 1) (hi : i = tv la x 2) (hnn : n = tv la x 3) (ht : t = tv la x 4) (h1 : (o != 65535) = false) (h2 : (ix != 0) = true) :
    Calls Tryz.prog 48 #[gv d r s, .agg #[.int .i64 o, .int .i64 ix, .slice a la ca]] w (GsmPost w false c i n t) := by
  obtain ⟨X, hX⟩ : ∃ X, X = ((w.alloc (.cells #[.int .i64 d, .int .i64 r, .int .i64 s] 33 (0, 0))).alloc (.cells #[.int .i64 o, .int .i64 ix, .slice a la ca] 65 (0, 0))).alloc (.cells #[.int .i64 0, .int .i64 0, .int .i64 0, .int .i64 0] 57 (0, 0)) := ⟨_, rfl⟩
  have hB : Below w.heap.size w X := by rw [hX]; exact bel3 _ _ _ _
  have hbx : Bx X w.heap.size d r s := by rw [hX]; exact ((Bx.mk' w d r s _).alloc _).alloc _
  have hgx : Gx X (w.heap.size + 1) o ix (.slice a la ca) := by
    rw [hX, show w.heap.size + 1 = (w.alloc (.cells #[.int .i64 d, .int .i64 r, .int .i64 s] 33 (0, 0))).heap.size by simp]
    exact (Gx.mk' _ o ix _ _).next ((Below.refl _ _).alloc (Nat.le_refl _) _)
  have hm4 : M4 X (w.heap.size + 1 + 1) 0 0 0 0 := by
    rw [hX, show w.heap.size + 1 + 1 = ((w.alloc (.cells #[.int .i64 d, .int .i64 r, .int .i64 s] 33 (0, 0))).alloc (.cells #[.int .i64 o, .int .i64 ix, .slice a la ca] 65 (0, 0))).heap.size by simp]
    exact M4.mk' _ 0 0 0 0 _
  have hxX := hx.next hB
  have HA := Lib.hid (And.intro hB (And.intro hbx (And.intro hgx hm4)))
  clear hB hbx hgx hm4 hc hi hnn ht hx hxX
  subst hX
  go_enter Tryz.func48, Tryz.ntmps48
  go_wp2_with (fail)
  exact bodyPost_ret (v := .tuple #[.agg #[.int .i64 0, .int .i64 0, .int .i64 0, .int .i64 0], .bool false]) (by simp [results, Tryz.results48, go_sem]) rfl ⟨rfl, bel3 _ _ _ _⟩

set_option maxRecDepth 100000 in
set_option maxHeartbeats 4000000 in
theorem rgetSum_len (d r s o ix : Int) (a : Option Addr) (la ca : Nat) (x : List Int) (w : World) (hx : Pin w a la ca x) (hn : la ≤ 1000000000000) (c i n t : Int) (hc : c = tv la x 1) (hi : i = tv la x 2) (hnn : n = tv la x 3) (ht : t = tv la x 4) (h1 : (o != 65535) = false) (h2 : (ix != 0) = false) (h3 : ((la : Int) != 56) = true) :
    Calls Tryz.prog 48 #[gv d r s, .agg #[.int .i64 o, .int .i64 ix, .slice a la ca]] w (GsmPost w false c i n t) := by
  obtain ⟨X, hX⟩ : ∃ X, X = ((w.alloc (.cells #[.int .i64 d, .int .i64 r, .int .i64 s] 33 (0, 0))).alloc (.cells #[.int .i64 o, .int .i64 ix, .slice a la ca] 65 (0, 0))).alloc (.cells #[.int .i64 0, .int .i64 0, .int .i64 0, .int .i64 0] 57 (0, 0)) := ⟨_, rfl⟩
  have hB : Below w.heap.size w X := by rw [hX]; exact bel3 _ _ _ _
  have hbx : Bx X w.heap.size d r s := by rw [hX]; exact ((Bx.mk' w d r s _).alloc _).alloc _
  have hgx : Gx X (w.heap.size + 1) o ix (.slice a la ca) := by
    rw [hX, show w.heap.size + 1 = (w.alloc (.cells #[.int .i64 d, .int .i64 r, .int .i64 s] 33 (0, 0))).heap.size by simp]
    exact (Gx.mk' _ o ix _ _).next ((Below.refl _ _).alloc (Nat.le_refl _) _)
  have hm4 : M4 X (w.heap.size + 1 + 1) 0 0 0 0 := by
    rw [hX, show w.heap.size + 1 + 1 = ((w.alloc (.cells #[.int .i64 d, .int .i64 r, .int .i64 s] 33 (0, 0))).alloc (.cells #[.int .i64 o, .int .i64 ix, .slice a la ca] 65 (0, 0))).heap.size by simp]
    exact M4.mk' _ 0 0 0 0 _
  have hxX := hx.next hB
  have HA := Lib.hid (And.intro hB (And.intro hbx (And.intro hgx hm4)))
  clear hB hbx hgx hm4 hc hi hnn ht hx hxX
  subst hX
  go_enter Tryz.func48, Tryz.ntmps48
  go_wp2_with (fail)
  exact bodyPost_ret (v := .tuple #[.agg #[.int .i64 0, .int .i64 0, .int .i64 0, .int .i64 0], .bool false]) (by simp [results, Tryz.results48, go_sem]) rfl ⟨rfl, bel3 _ _ _ _⟩

set_option maxRecDepth 100000 in
set_option maxHeartbeats 4000000 in
theorem rgetSum_not (d r s o ix : Int) (a : Option Addr) (la ca : Nat) (x : List Int) (w : World) (hx : Pin w a la ca x) (hn : la ≤ 1000000000000) (c i n t : Int) (hc : c = tv la x 1) (hi : i = tv la x 2) (hnn : n = tv la x 3) (ht : t = tv la x 4) (h1 : (o != 65535) = false) (h2 : (ix != 0) = false) (hlen : la = 56) (hno0 : noughtB (x.drop 10) = false) :
    Calls Tryz.prog 48 #[gv d r s, .agg #[.int .i64 o, .int .i64 ix, .slice a la ca]] w (GsmPost w false c i n t) := by
  obtain ⟨X, hX⟩ : ∃ X, X = ((w.alloc (.cells #[.int .i64 d, .int .i64 r, .int .i64 s] 33 (0, 0))).alloc (.cells #[.int .i64 o, .int .i64 ix, .slice a la ca] 65 (0, 0))).alloc (.cells #[.int .i64 0, .int .i64 0, .int .i64 0, .int .i64 0] 57 (0, 0)) := ⟨_, rfl⟩
  have hB : Below w.heap.size w X := by rw [hX]; exact bel3 _ _ _ _
  have hbx : Bx X w.heap.size d r s := by rw [hX]; exact ((Bx.mk' w d r s _).alloc _).alloc _
  have hgx : Gx X (w.heap.size + 1) o ix (.slice a la ca) := by
    rw [hX, show w.heap.size + 1 = (w.alloc (.cells #[.int .i64 d, .int .i64 r, .int .i64 s] 33 (0, 0))).heap.size by simp]
    exact (Gx.mk' _ o ix _ _).next ((Below.refl _ _).alloc (Nat.le_refl _) _)
  have hm4 : M4 X (w.heap.size + 1 + 1) 0 0 0 0 := by
    rw [hX, show w.heap.size + 1 + 1 = ((w.alloc (.cells #[.int .i64 d, .int .i64 r, .int .i64 s] 33 (0, 0))).alloc (.cells #[.int .i64 o, .int .i64 ix, .slice a la ca] 65 (0, 0))).heap.size by simp]
    exact M4.mk' _ 0 0 0 0 _
  have hxX := hx.next hB
  obtain ⟨b, off, rfl, hlb, hcells⟩ := hxX.at (by omega)
  have hrest := hxX.rest 10
  rw [hlen] at hrest
  have hno := refNought_any (some ⟨b, off + 10, none⟩) 46 (ca - 10) (x.drop 10) X hrest.bys (by omega)
  have hcap : 56 ≤ ca := by have := hxX.cap; omega
  have hmax := hxX.max
  rw [hno0] at hno
  have HNO := Lib.hid hno
  clear hno hcells hrest hno0
  subst hlen
  have HA := Lib.hid (And.intro hB (And.intro hbx (And.intro hgx hm4)))
  clear hB hbx hgx hm4 hc hi hnn ht hx hxX
  subst hX
  go_enter Tryz.func48, Tryz.ntmps48
  go_wp2_with (fail)
  refine HNO.out.mono ?_
  rintro e w' ⟨rfl, rfl⟩
  go_wp2_with (fail)
  exact bodyPost_ret (v := .tuple #[.agg #[.int .i64 0, .int .i64 0, .int .i64 0, .int .i64 0], .bool false]) (by simp [results, Tryz.results48, go_sem]) rfl ⟨rfl, bel3 _ _ _ _⟩

set_option maxRecDepth 100000 in
set_option maxHeartbeats 4000000 in
theorem rgetSum_num (d r s o ix : Int) (a : Option Addr) (la ca : Nat) (x : List Int) (w : World) (hx : Pin w a la ca x) (hn : la ≤ 1000000000000) (c i n t : Int) (hc : c = tv la x 1) (hi : i = tv la x 2) (hnn : n = tv la x 3) (ht : t = tv la x 4) (h1 : (o != 65535) = false) (h2 : (ix != 0) = false) (hlen : la = 56) (hno0 : noughtB (x.drop 10) = true) (t0 : Int) (ht0 : t0 = tv la x 0) (h5 : (t0 != 21331) = true) :
    Calls Tryz.prog 48 #[gv d r s, .agg #[.int .i64 o, .int .i64 ix, .slice a la ca]] w (GsmPost w false c i n t) := by
  obtain ⟨X, hX⟩ : ∃ X, X = ((w.alloc (.cells #[.int .i64 d, .int .i64 r, .int .i64 s] 33 (0, 0))).alloc (.cells #[.int .i64 o, .int .i64 ix, .slice a la ca] 65 (0, 0))).alloc (.cells #[.int .i64 0, .int .i64 0, .int .i64 0, .int .i64 0] 57 (0, 0)) := ⟨_, rfl⟩
  have hB : Below w.heap.size w X := by rw [hX]; exact bel3 _ _ _ _
  have hbx : Bx X w.heap.size d r s := by rw [hX]; exact ((Bx.mk' w d r s _).alloc _).alloc _
  have hgx : Gx X (w.heap.size + 1) o ix (.slice a la ca) := by
    rw [hX, show w.heap.size + 1 = (w.alloc (.cells #[.int .i64 d, .int .i64 r, .int .i64 s] 33 (0, 0))).heap.size by simp]
    exact (Gx.mk' _ o ix _ _).next ((Below.refl _ _).alloc (Nat.le_refl _) _)
  have hm4 : M4 X (w.heap.size + 1 + 1) 0 0 0 0 := by
    rw [hX, show w.heap.size + 1 + 1 = ((w.alloc (.cells #[.int .i64 d, .int .i64 r, .int .i64 s] 33 (0, 0))).alloc (.cells #[.int .i64 o, .int .i64 ix, .slice a la ca] 65 (0, 0))).heap.size by simp]
    exact M4.mk' _ 0 0 0 0 _
  have hxX := hx.next hB
  obtain ⟨b, off, rfl, hlb, hcells⟩ := hxX.at (by omega)
  have hrest := hxX.rest 10
  rw [hlen] at hrest
  have hno := refNought_any (some ⟨b, off + 10, none⟩) 46 (ca - 10) (x.drop 10) X hrest.bys (by omega)
  have hcap : 56 ≤ ca := by have := hxX.cap; omega
  have hmax := hxX.max
  rw [hno0] at hno
  have HNO := Lib.hid hno
  clear hno hcells hrest hno0
  subst hlen
  have hgt := fun W hB p => refGet_fun (some ⟨b, off, none⟩) 56 ca p 2 x W (hxX.bys.next (w' := W) hB) (by omega)
  have g0 := fun W hB => hgt W hB 0
  have g1' := fun W hB => hgt W hB 2
  have g2' := fun W hB => hgt W hB 4
  have g3 := fun W hB => hgt W hB 6
  have g4 := fun W hB => hgt W hB 8
  unfold tv at hc hi hnn ht ht0
  rw [show (2 : Int) * 1 = 2 from rfl] at hc
  rw [show (2 : Int) * 2 = 4 from rfl] at hi
  rw [show (2 : Int) * 3 = 6 from rfl] at hnn
  rw [show (2 : Int) * 4 = 8 from rfl] at ht
  rw [show (2 : Int) * 0 = 0 from rfl] at ht0
  rw [← ht0] at g0
  rw [← hc] at g1'
  rw [← hi] at g2'
  rw [← hnn] at g3
  rw [← ht] at g4
  have HG := Lib.hid (And.intro g0 (And.intro g1' (And.intro g2' (And.intro g3 g4))))
  have HBA := Lib.hid (fun z0 z1 z2 z3 z4 => (Below.refl X.heap.size X).alloc (Nat.le_refl _) (.cells #[.int .i64 z0, .int .i64 z1, .int .i64 z2, .int .i64 z3, .int .i64 z4] 158 (0, 0)))
  clear hgt g0 g1' g2' g3 g4 ht0
  have HA := Lib.hid (And.intro hB (And.intro hbx (And.intro hgx hm4)))
  clear hB hbx hgx hm4 hc hi hnn ht hx hxX
  subst hX
  go_enter Tryz.func48, Tryz.ntmps48
  go_wp2_with (fail)
  refine HNO.out.mono ?_
  rintro e w' ⟨rfl, rfl⟩
  go_wp2_with (fail)
  refine wp_loop_rounds 6 ?_
  rw [rounds_succ]
  go_wp2_with (fail)
  refine (HG.out.1 _ (HBA.out _ _ _ _ _)).mono ?_
  rintro e w' ⟨rfl, rfl⟩
  go_wp2_with (fail)
  rw [rounds_succ]
  go_wp2_with (fail)
  refine (HG.out.2.1 _ (HBA.out _ _ _ _ _)).mono ?_
  rintro e w' ⟨rfl, rfl⟩
  go_wp2_with (fail)
  rw [rounds_succ]
  go_wp2_with (fail)
  refine (HG.out.2.2.1 _ (HBA.out _ _ _ _ _)).mono ?_
  rintro e w' ⟨rfl, rfl⟩
  go_wp2_with (fail)
  rw [rounds_succ]
  go_wp2_with (fail)
  refine (HG.out.2.2.2.1 _ (HBA.out _ _ _ _ _)).mono ?_
  rintro e w' ⟨rfl, rfl⟩
  go_wp2_with (fail)
  rw [rounds_succ]
  go_wp2_with (fail)
  refine (HG.out.2.2.2.2 _ (HBA.out _ _ _ _ _)).mono ?_
  rintro e w' ⟨rfl, rfl⟩
  go_wp2_with (fail)
  rw [rounds_succ]
  go_wp2_with (fail)
  exact bodyPost_ret (v := .tuple #[.agg #[.int .i64 0, .int .i64 0, .int .i64 0, .int .i64 0], .bool false]) (by simp [results, Tryz.results48, go_sem]) rfl ⟨rfl, ((bel3 _ _ _ _).alloc (by simp; omega) _).alloc (by simp; omega) _⟩

set_option maxRecDepth 100000 in
set_option maxHeartbeats 4000000 in
theorem rgetSum_right (d r s o ix : Int) (a : Option Addr) (la ca : Nat) (x : List Int) (w : World) (hx : Pin w a la ca x) (hn : la ≤ 1000000000000) (c i n t : Int) (hc : c = tv la x 1) (hi : i = tv la x 2) (hnn : n = tv la x 3) (ht : t = tv la x 4) (h1 : (o != 65535) = false) (h2 : (ix != 0) = false) (hlen : la = 56) (hno0 : noughtB (x.drop 10) = true) (t0 : Int) (ht0 : t0 = tv la x 0) (h5 : (t0 != 21331) = false) (hok : sumO d r s c i n t = false) :
    Calls Tryz.prog 48 #[gv d r s, .agg #[.int .i64 o, .int .i64 ix, .slice a la ca]] w (GsmPost w false c i n t) := by
  obtain ⟨X, hX⟩ : ∃ X, X = ((w.alloc (.cells #[.int .i64 d, .int .i64 r, .int .i64 s] 33 (0, 0))).alloc (.cells #[.int .i64 o, .int .i64 ix, .slice a la ca] 65 (0, 0))).alloc (.cells #[.int .i64 0, .int .i64 0, .int .i64 0, .int .i64 0] 57 (0, 0)) := ⟨_, rfl⟩
  have hB : Below w.heap.size w X := by rw [hX]; exact bel3 _ _ _ _
  have hbx : Bx X w.heap.size d r s := by rw [hX]; exact ((Bx.mk' w d r s _).alloc _).alloc _
  have hgx : Gx X (w.heap.size + 1) o ix (.slice a la ca) := by
    rw [hX, show w.heap.size + 1 = (w.alloc (.cells #[.int .i64 d, .int .i64 r, .int .i64 s] 33 (0, 0))).heap.size by simp]
    exact (Gx.mk' _ o ix _ _).next ((Below.refl _ _).alloc (Nat.le_refl _) _)
  have hm4 : M4 X (w.heap.size + 1 + 1) 0 0 0 0 := by
    rw [hX, show w.heap.size + 1 + 1 = ((w.alloc (.cells #[.int .i64 d, .int .i64 r, .int .i64 s] 33 (0, 0))).alloc (.cells #[.int .i64 o, .int .i64 ix, .slice a la ca] 65 (0, 0))).heap.size by simp]
    exact M4.mk' _ 0 0 0 0 _
  have hxX := hx.next hB
  obtain ⟨b, off, rfl, hlb, hcells⟩ := hxX.at (by omega)
  have hrest := hxX.rest 10
  rw [hlen] at hrest
  have hno := refNought_any (some ⟨b, off + 10, none⟩) 46 (ca - 10) (x.drop 10) X hrest.bys (by omega)
  have hcap : 56 ≤ ca := by have := hxX.cap; omega
  have hmax := hxX.max
  rw [hno0] at hno
  have HNO := Lib.hid hno
  clear hno hcells hrest hno0
  subst hlen
  have hgt := fun W hB p => refGet_fun (some ⟨b, off, none⟩) 56 ca p 2 x W (hxX.bys.next (w' := W) hB) (by omega)
  have g0 := fun W hB => hgt W hB 0
  have g1' := fun W hB => hgt W hB 2
  have g2' := fun W hB => hgt W hB 4
  have g3 := fun W hB => hgt W hB 6
  have g4 := fun W hB => hgt W hB 8
  unfold tv at hc hi hnn ht ht0
  rw [show (2 : Int) * 1 = 2 from rfl] at hc
  rw [show (2 : Int) * 2 = 4 from rfl] at hi
  rw [show (2 : Int) * 3 = 6 from rfl] at hnn
  rw [show (2 : Int) * 4 = 8 from rfl] at ht
  rw [show (2 : Int) * 0 = 0 from rfl] at ht0
  rw [← ht0] at g0
  rw [← hc] at g1'
  rw [← hi] at g2'
  rw [← hnn] at g3
  rw [← ht] at g4
  have HG := Lib.hid (And.intro g0 (And.intro g1' (And.intro g2' (And.intro g3 g4))))
  have HBA := Lib.hid (fun z0 z1 z2 z3 z4 => (Below.refl X.heap.size X).alloc (Nat.le_refl _) (.cells #[.int .i64 z0, .int .i64 z1, .int .i64 z2, .int .i64 z3, .int .i64 z4] 158 (0, 0)))
  clear hgt g0 g1' g2' g3 g4 ht0
  have HA := Lib.hid (And.intro hB (And.intro hbx (And.intro hgx hm4)))
  have hri := rRight_any d r s c i n t ((X.alloc (.cells #[.int .i64 t0, .int .i64 c, .int .i64 i, .int .i64 n, .int .i64 t] 158 (0, 0))).alloc (.cells #[.int .i64 c, .int .i64 i, .int .i64 n, .int .i64 t] 57 (0, 0)))
  rw [hok] at hri
  unfold umv at hri
  have HRI := Lib.hid hri
  clear hri hok
  clear hB hbx hgx hm4 hc hi hnn ht hx hxX
  subst hX
  go_enter Tryz.func48, Tryz.ntmps48
  go_wp2_with (fail)
  refine HNO.out.mono ?_
  rintro e w' ⟨rfl, rfl⟩
  go_wp2_with (fail)
  refine wp_loop_rounds 6 ?_
  rw [rounds_succ]
  go_wp2_with (fail)
  refine (HG.out.1 _ (HBA.out _ _ _ _ _)).mono ?_
  rintro e w' ⟨rfl, rfl⟩
  go_wp2_with (fail)
  rw [rounds_succ]
  go_wp2_with (fail)
  refine (HG.out.2.1 _ (HBA.out _ _ _ _ _)).mono ?_
  rintro e w' ⟨rfl, rfl⟩
  go_wp2_with (fail)
  rw [rounds_succ]
  go_wp2_with (fail)
  refine (HG.out.2.2.1 _ (HBA.out _ _ _ _ _)).mono ?_
  rintro e w' ⟨rfl, rfl⟩
  go_wp2_with (fail)
  rw [rounds_succ]
  go_wp2_with (fail)
  refine (HG.out.2.2.2.1 _ (HBA.out _ _ _ _ _)).mono ?_
  rintro e w' ⟨rfl, rfl⟩
  go_wp2_with (fail)
  rw [rounds_succ]
  go_wp2_with (fail)
  refine (HG.out.2.2.2.2 _ (HBA.out _ _ _ _ _)).mono ?_
  rintro e w' ⟨rfl, rfl⟩
  go_wp2_with (fail)
  rw [rounds_succ]
  go_wp2_with (fail)
  refine HRI.out.mono ?_
  rintro e w5 ⟨rfl, hb5⟩
  have hb5' := (bel2 (((w.alloc (.cells #[.int .i64 d, .int .i64 r, .int .i64 s] 33 (0, 0))).alloc (.cells #[.int .i64 o, .int .i64 ix, .slice (some ⟨b, off, none⟩) 56 ca] 65 (0, 0))).alloc (.cells #[.int .i64 0, .int .i64 0, .int .i64 0, .int .i64 0] 57 (0, 0))) (.cells #[.int .i64 t0, .int .i64 c, .int .i64 i, .int .i64 n, .int .i64 t] 158 (0, 0)) (.cells #[.int .i64 c, .int .i64 i, .int .i64 n, .int .i64 t] 57 (0, 0))).trans (hb5.mono (by simp))
  have hm5 := HA.out.2.2.2.next hb5'
  have hms : M4 w5 (w.heap.size + 1 + 1 + 1 + 1) c i n t := by
    have := (M4.mk' ((((w.alloc (.cells #[.int .i64 d, .int .i64 r, .int .i64 s] 33 (0, 0))).alloc (.cells #[.int .i64 o, .int .i64 ix, .slice (some ⟨b, off, none⟩) 56 ca] 65 (0, 0))).alloc (.cells #[.int .i64 0, .int .i64 0, .int .i64 0, .int .i64 0] 57 (0, 0))).alloc (.cells #[.int .i64 t0, .int .i64 c, .int .i64 i, .int .i64 n, .int .i64 t] 158 (0, 0))) c i n t 57).next hb5
    simpa using this
  have HB5 := Lib.hid (HA.out.1.trans (hb5'.mono HA.out.1.size))
  have HM5 := Lib.hid hm5
  have r0 := hm5.c0
  have r1 := hm5.c1
  have r2 := hm5.c2
  have r3 := hm5.c3
  have q0 := hm5.f0
  have q1 := hm5.f1
  have q2 := hm5.f2
  have q3 := hm5.f3
  have rl := hm5.lt
  have v0 := hms.c0
  have v1 := hms.c1
  have v2 := hms.c2
  have v3 := hms.c3
  have vl := hms.lt
  clear hb5 hb5' hm5 hms HRI
  go_wp2_with (fail)
  have e0 := HM5.out.set 0 0 0 0
  have e1 := HB5.out.set4 (p := 0) (q := 0) (r := 0) (s := 0) (show w.heap.size ≤ w.heap.size + 1 + 1 by omega)
  have k0 := e0.c0
  have k1 := e0.c1
  have k2 := e0.c2
  have k3 := e0.c3
  unfold set4 at k0 k1 k2 k3
  exact bodyPost_ret (v := .tuple #[.agg #[.int .i64 0, .int .i64 0, .int .i64 0, .int .i64 0], .bool false]) (by simp [results, Tryz.results48, go_sem, k0, k1, k2, k3]) rfl ⟨rfl, e1⟩

set_option maxRecDepth 100000 in
set_option maxHeartbeats 4000000 in
theorem rgetSum_yes (d r s o ix : Int) (a : Option Addr) (la ca : Nat) (x : List Int) (w : World) (hx : Pin w a la ca x) (hn : la ≤ 1000000000000) (c i n t : Int) (hc : c = tv la x 1) (hi : i = tv la x 2) (hnn : n = tv la x 3) (ht : t = tv la x 4) (h1 : (o != 65535) = false) (h2 : (ix != 0) = false) (hlen : la = 56) (hno0 : noughtB (x.drop 10) = true) (t0 : Int) (ht0 : t0 = tv la x 0) (h5 : (t0 != 21331) = false) (hok : sumO d r s c i n t = true) :
    Calls Tryz.prog 48 #[gv d r s, .agg #[.int .i64 o, .int .i64 ix, .slice a la ca]] w (GsmPost w true c i n t) := by
  obtain ⟨X, hX⟩ : ∃ X, X = ((w.alloc (.cells #[.int .i64 d, .int .i64 r, .int .i64 s] 33 (0, 0))).alloc (.cells #[.int .i64 o, .int .i64 ix, .slice a la ca] 65 (0, 0))).alloc (.cells #[.int .i64 0, .int .i64 0, .int .i64 0, .int .i64 0] 57 (0, 0)) := ⟨_, rfl⟩
  have hB : Below w.heap.size w X := by rw [hX]; exact bel3 _ _ _ _
  have hbx : Bx X w.heap.size d r s := by rw [hX]; exact ((Bx.mk' w d r s _).alloc _).alloc _
  have hgx : Gx X (w.heap.size + 1) o ix (.slice a la ca) := by
    rw [hX, show w.heap.size + 1 = (w.alloc (.cells #[.int .i64 d, .int .i64 r, .int .i64 s] 33 (0, 0))).heap.size by simp]
    exact (Gx.mk' _ o ix _ _).next ((Below.refl _ _).alloc (Nat.le_refl _) _)
  have hm4 : M4 X (w.heap.size + 1 + 1) 0 0 0 0 := by
    rw [hX, show w.heap.size + 1 + 1 = ((w.alloc (.cells #[.int .i64 d, .int .i64 r, .int .i64 s] 33 (0, 0))).alloc (.cells #[.int .i64 o, .int .i64 ix, .slice a la ca] 65 (0, 0))).heap.size by simp]
    exact M4.mk' _ 0 0 0 0 _
  have hxX := hx.next hB
  obtain ⟨b, off, rfl, hlb, hcells⟩ := hxX.at (by omega)
  have hrest := hxX.rest 10
  rw [hlen] at hrest
  have hno := refNought_any (some ⟨b, off + 10, none⟩) 46 (ca - 10) (x.drop 10) X hrest.bys (by omega)
  have hcap : 56 ≤ ca := by have := hxX.cap; omega
  have hmax := hxX.max
  rw [hno0] at hno
  have HNO := Lib.hid hno
  clear hno hcells hrest hno0
  subst hlen
  have hgt := fun W hB p => refGet_fun (some ⟨b, off, none⟩) 56 ca p 2 x W (hxX.bys.next (w' := W) hB) (by omega)
  have g0 := fun W hB => hgt W hB 0
  have g1' := fun W hB => hgt W hB 2
  have g2' := fun W hB => hgt W hB 4
  have g3 := fun W hB => hgt W hB 6
  have g4 := fun W hB => hgt W hB 8
  unfold tv at hc hi hnn ht ht0
  rw [show (2 : Int) * 1 = 2 from rfl] at hc
  rw [show (2 : Int) * 2 = 4 from rfl] at hi
  rw [show (2 : Int) * 3 = 6 from rfl] at hnn
  rw [show (2 : Int) * 4 = 8 from rfl] at ht
  rw [show (2 : Int) * 0 = 0 from rfl] at ht0
  rw [← ht0] at g0
  rw [← hc] at g1'
  rw [← hi] at g2'
  rw [← hnn] at g3
  rw [← ht] at g4
  have HG := Lib.hid (And.intro g0 (And.intro g1' (And.intro g2' (And.intro g3 g4))))
  have HBA := Lib.hid (fun z0 z1 z2 z3 z4 => (Below.refl X.heap.size X).alloc (Nat.le_refl _) (.cells #[.int .i64 z0, .int .i64 z1, .int .i64 z2, .int .i64 z3, .int .i64 z4] 158 (0, 0)))
  clear hgt g0 g1' g2' g3 g4 ht0
  have HA := Lib.hid (And.intro hB (And.intro hbx (And.intro hgx hm4)))
  have hri := rRight_any d r s c i n t ((X.alloc (.cells #[.int .i64 t0, .int .i64 c, .int .i64 i, .int .i64 n, .int .i64 t] 158 (0, 0))).alloc (.cells #[.int .i64 c, .int .i64 i, .int .i64 n, .int .i64 t] 57 (0, 0)))
  rw [hok] at hri
  unfold umv at hri
  have HRI := Lib.hid hri
  clear hri hok
  clear hB hbx hgx hm4 hc hi hnn ht hx hxX
  subst hX
  go_enter Tryz.func48, Tryz.ntmps48
  go_wp2_with (fail)
  refine HNO.out.mono ?_
  rintro e w' ⟨rfl, rfl⟩
  go_wp2_with (fail)
  refine wp_loop_rounds 6 ?_
  rw [rounds_succ]
  go_wp2_with (fail)
  refine (HG.out.1 _ (HBA.out _ _ _ _ _)).mono ?_
  rintro e w' ⟨rfl, rfl⟩
  go_wp2_with (fail)
  rw [rounds_succ]
  go_wp2_with (fail)
  refine (HG.out.2.1 _ (HBA.out _ _ _ _ _)).mono ?_
  rintro e w' ⟨rfl, rfl⟩
  go_wp2_with (fail)
  rw [rounds_succ]
  go_wp2_with (fail)
  refine (HG.out.2.2.1 _ (HBA.out _ _ _ _ _)).mono ?_
  rintro e w' ⟨rfl, rfl⟩
  go_wp2_with (fail)
  rw [rounds_succ]
  go_wp2_with (fail)
  refine (HG.out.2.2.2.1 _ (HBA.out _ _ _ _ _)).mono ?_
  rintro e w' ⟨rfl, rfl⟩
  go_wp2_with (fail)
  rw [rounds_succ]
  go_wp2_with (fail)
  refine (HG.out.2.2.2.2 _ (HBA.out _ _ _ _ _)).mono ?_
  rintro e w' ⟨rfl, rfl⟩
  go_wp2_with (fail)
  rw [rounds_succ]
  go_wp2_with (fail)
  refine HRI.out.mono ?_
  rintro e w5 ⟨rfl, hb5⟩
  have hb5' := (bel2 (((w.alloc (.cells #[.int .i64 d, .int .i64 r, .int .i64 s] 33 (0, 0))).alloc (.cells #[.int .i64 o, .int .i64 ix, .slice (some ⟨b, off, none⟩) 56 ca] 65 (0, 0))).alloc (.cells #[.int .i64 0, .int .i64 0, .int .i64 0, .int .i64 0] 57 (0, 0))) (.cells #[.int .i64 t0, .int .i64 c, .int .i64 i, .int .i64 n, .int .i64 t] 158 (0, 0)) (.cells #[.int .i64 c, .int .i64 i, .int .i64 n, .int .i64 t] 57 (0, 0))).trans (hb5.mono (by simp))
  have hm5 := HA.out.2.2.2.next hb5'
  have hms : M4 w5 (w.heap.size + 1 + 1 + 1 + 1) c i n t := by
    have := (M4.mk' ((((w.alloc (.cells #[.int .i64 d, .int .i64 r, .int .i64 s] 33 (0, 0))).alloc (.cells #[.int .i64 o, .int .i64 ix, .slice (some ⟨b, off, none⟩) 56 ca] 65 (0, 0))).alloc (.cells #[.int .i64 0, .int .i64 0, .int .i64 0, .int .i64 0] 57 (0, 0))).alloc (.cells #[.int .i64 t0, .int .i64 c, .int .i64 i, .int .i64 n, .int .i64 t] 158 (0, 0))) c i n t 57).next hb5
    simpa using this
  have HB5 := Lib.hid (HA.out.1.trans (hb5'.mono HA.out.1.size))
  have HM5 := Lib.hid hm5
  have r0 := hm5.c0
  have r1 := hm5.c1
  have r2 := hm5.c2
  have r3 := hm5.c3
  have q0 := hm5.f0
  have q1 := hm5.f1
  have q2 := hm5.f2
  have q3 := hm5.f3
  have rl := hm5.lt
  have v0 := hms.c0
  have v1 := hms.c1
  have v2 := hms.c2
  have v3 := hms.c3
  have vl := hms.lt
  clear hb5 hb5' hm5 hms HRI
  go_wp2_with (fail)
  have e0 := HM5.out.set c i n t
  have e1 := HB5.out.set4 (p := c) (q := i) (r := n) (s := t) (show w.heap.size ≤ w.heap.size + 1 + 1 by omega)
  have k0 := e0.c0
  have k1 := e0.c1
  have k2 := e0.c2
  have k3 := e0.c3
  unfold set4 at k0 k1 k2 k3
  exact bodyPost_ret (v := .tuple #[.agg #[.int .i64 c, .int .i64 i, .int .i64 n, .int .i64 t], .bool true]) (by simp [results, Tryz.results48, go_sem, k0, k1, k2, k3]) rfl ⟨rfl, e1⟩

end Go.Proofs.YtacnhlmhibhlhaaGreat
