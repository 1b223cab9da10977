/-
  Summaries: the program's told, PutSummary and GetSummary, by contract.
-/
import Derived.Test.YtcpplppccljmiaaSu1
import Derived.Test.YtcpplppccljmiaaGrp
namespace Go.Proofs.Ytcpplppccljmiaa
open Go.RowKit
set_option linter.unusedVariables false

/-- The number at a place of a payload. -/
def tv (la : Nat) (x : List Int) (k : Int) : Int := getV la x (2 * k) 2
set_option maxRecDepth 100000 in
set_option maxHeartbeats 4000000 in
theorem told_any (a : Option Addr) (la ca : Nat) (x : List Int) (w : World) (hx : Bys w a la x) (hn : la ≤ 1000000000000) :
    Calls Try.prog 19 #[.slice a la ca] w fun e w' => e = .returned (umv (tv la x 1) (tv la x 2) (tv la x 3) (tv la x 4)) ∧ Below w.heap.size w w' := by
  have g0 := fun W hB => get_fun a la ca 0 2 x W (hx.next hB) hn
  have g1 := fun W hB => get_fun a la ca 2 2 x W (hx.next hB) hn
  have g2 := fun W hB => get_fun a la ca 4 2 x W (hx.next hB) hn
  have g3 := fun W hB => get_fun a la ca 6 2 x W (hx.next hB) hn
  have g4 := fun W hB => get_fun a la ca 8 2 x W (hx.next hB) hn
  unfold tv umv
  obtain ⟨t0, ht0⟩ : ∃ v, v = getV la x 0 2 := ⟨_, rfl⟩
  obtain ⟨t1, ht1⟩ : ∃ v, v = getV la x 2 2 := ⟨_, rfl⟩
  obtain ⟨t2, ht2⟩ : ∃ v, v = getV la x 4 2 := ⟨_, rfl⟩
  obtain ⟨t3, ht3⟩ : ∃ v, v = getV la x 6 2 := ⟨_, rfl⟩
  obtain ⟨t4, ht4⟩ : ∃ v, v = getV la x 8 2 := ⟨_, rfl⟩
  rw [show (2 : Int) * 1 = 2 from rfl, show (2 : Int) * 2 = 4 from rfl, show (2 : Int) * 3 = 6 from rfl, show (2 : Int) * 4 = 8 from rfl]
  rw [← ht0] at g0
  rw [← ht1] at g1 ⊢
  rw [← ht2] at g2 ⊢
  rw [← ht3] at g3 ⊢
  rw [← ht4] at g4 ⊢
  have HG := Lib.hid (And.intro g0 (And.intro g1 (And.intro g2 (And.intro g3 g4))))
  have hb := fun z0 z1 z2 z3 z4 => bel2 w (.cells #[.int .i64 0, .int .i64 0, .int .i64 0, .int .i64 0] 25 (0, 0)) (.cells #[.int .i64 z0, .int .i64 z1, .int .i64 z2, .int .i64 z3, .int .i64 z4] 70 (0, 0))
  have HB := Lib.hid hb
  clear g0 g1 g2 g3 g4 ht0 ht1 ht2 ht3 ht4 hx hb
  go_enter Try.func19, Try.ntmps19
  go_wp2_with (fail)
  refine wp_loop_rounds 6 ?_
  rw [rounds_succ]
  go_wp2_with (fail)
  refine (HG.out.1 _ (HB.out _ _ _ _ _)).mono ?_
  rintro e w' ⟨rfl, rfl⟩
  go_wp2_with (fail)
  rw [rounds_succ]
  go_wp2_with (fail)
  refine (HG.out.2.1 _ (HB.out _ _ _ _ _)).mono ?_
  rintro e w' ⟨rfl, rfl⟩
  go_wp2_with (fail)
  rw [rounds_succ]
  go_wp2_with (fail)
  refine (HG.out.2.2.1 _ (HB.out _ _ _ _ _)).mono ?_
  rintro e w' ⟨rfl, rfl⟩
  go_wp2_with (fail)
  rw [rounds_succ]
  go_wp2_with (fail)
  refine (HG.out.2.2.2.1 _ (HB.out _ _ _ _ _)).mono ?_
  rintro e w' ⟨rfl, rfl⟩
  go_wp2_with (fail)
  rw [rounds_succ]
  go_wp2_with (fail)
  refine (HG.out.2.2.2.2 _ (HB.out _ _ _ _ _)).mono ?_
  rintro e w' ⟨rfl, rfl⟩
  go_wp2_with (fail)
  rw [rounds_succ]
  go_wp2_with (fail)
  exact bodyPost_ret (v := .agg #[.int .i64 t1, .int .i64 t2, .int .i64 t3, .int .i64 t4]) (by simp [results, Try.results19, go_sem]) rfl ⟨rfl, bel2 _ _ _⟩

theorem Blk.setG {w : World} {g b : Nat} {zs : List Int} {p q : Int} {r : Value} (h : Blk w g zs) (hb : b ≠ g) : Blk (setG w b p q r) g zs := by
  have e : ∀ (w : World) (k : Nat) (u : Value), (w.setCell ⟨b, k, none⟩ u).heap[g]? = w.heap[g]? := fun w k u => Below.heap_setCell _ _ _ _ (by simpa using hb.symm)
  refine ⟨?_⟩
  unfold Go.Proofs.Ytcpplppccljmiaa.setG
  rw [e, e, e]
  exact h.row
theorem Gx.mk' (w : World) (q r : Int) (v : Value) (t : TypeId) : Gx (w.alloc (.cells #[.int .i64 q, .int .i64 r, v] t (0, 0))) w.heap.size q r v := ⟨by simp, by simp, by simp, by simp, by simp, by simp, by simp⟩
/-- What PutSummary answers. -/
def PsPost (w : World) (ok : Bool) (zs : List Int) (e : Ending) (w' : World) : Prop :=
  if ok then ∃ g, e = .returned (.tuple #[.agg #[.int .i64 65535, .int .i64 0, .slice (some ⟨g, 0, none⟩) 56 56], .bool true]) ∧ Blk w' g zs ∧ w.heap.size ≤ g ∧ Below w.heap.size w w'
  else e = .returned (.tuple #[.agg #[.int .i64 0, .int .i64 0, .slice none 0 0], .bool false]) ∧ Below w.heap.size w w'
theorem bel3 (w : World) (o p q : Obj) : Below w.heap.size w (((w.alloc o).alloc p).alloc q) := (bel2 w o p).alloc (by simp; omega) _
set_option maxHeartbeats 2000000 in
theorem putSum_any (d r s c i n t : Int) (w : World) :
    Calls Try.prog 6 #[gv d r s, umv c i n t] w (PsPost w (sumO d r s c i n t) (sumL c i n t)) := by
  obtain ⟨X, hX⟩ : ∃ X, X = ((w.alloc (.cells #[.int .i64 d, .int .i64 r, .int .i64 s] 23 (0, 0))).alloc (.cells #[.int .i64 c, .int .i64 i, .int .i64 n, .int .i64 t] 25 (0, 0))).alloc (.cells #[.int .i64 0, .int .i64 0, .slice none 0 0] 28 (0, 0)) := ⟨_, rfl⟩
  have hB : Below w.heap.size w X := by rw [hX]; exact bel3 _ _ _ _
  have hu : Gu X w.heap.size d r s c i n t := by
    rw [hX]
    exact (Gu.mk' w d r s c i n t).next ((Below.refl _ _).alloc (Nat.le_refl _) _)
  have hgx : Gx X (w.heap.size + 1 + 1) 0 0 (.slice none 0 0) := by
    rw [hX, show w.heap.size + 1 + 1 = ((w.alloc (.cells #[.int .i64 d, .int .i64 r, .int .i64 s] 23 (0, 0))).alloc (.cells #[.int .i64 c, .int .i64 i, .int .i64 n, .int .i64 t] 25 (0, 0))).heap.size by simp]
    exact Gx.mk' _ 0 0 _ _
  have hri := isRight_any d r s c i n t X
  have hpy := fun h : SumR d r s c i n t => fun W => payload_any c i n t W h.small.1 h.small.2.1 h.small.2.2.1 h.small.2.2.2
  unfold umv at hri hpy ⊢
  obtain ⟨g, hg⟩ : ∃ g, g = w.heap.size := ⟨_, rfl⟩
  obtain ⟨k, hk⟩ : ∃ k, k = w.heap.size + 1 + 1 := ⟨_, rfl⟩
  have hlk : w.heap.size ≤ k := by omega
  rw [← hk] at hgx
  have HX := Lib.hid (And.intro hB (And.intro hu (And.intro hgx hlk)))
  have HY := Lib.hid hpy
  clear hB hu hgx hlk hpy
  cases hok : sumO d r s c i n t
  · rw [hok] at hri
    clear hok
    go_enter Try.func6, Try.ntmps6
    go_wp2_with (fail)
    rw [← hX, ← hk]
    clear hX hk
    refine hri.mono ?_
    rintro e w2 ⟨rfl, hb2⟩
    have HG := Lib.hid (HX.out.2.2.1.next hb2)
    have HB2 := Lib.hid (HX.out.1.trans (hb2.mono HX.out.1.size))
    have y0 := HG.out.c0
    have y1 := HG.out.c1
    have y2 := HG.out.c2
    have f0 := HG.out.f0
    have f1 := HG.out.f1
    have f2 := HG.out.f2
    clear hb2 hri
    go_wp2_with (fail)
    have e0 := HG.out.set3 0 0 (.slice none 0 0)
    have k0 := e0.c0
    have k1 := e0.c1
    have k2 := e0.c2
    unfold setG at k0 k1 k2
    exact bodyPost_ret (v := .tuple #[.agg #[.int .i64 0, .int .i64 0, .slice none 0 0], .bool false]) (by simp [results, Try.results6, go_sem, k0, k1, k2]) rfl ⟨rfl, HB2.out.setG HX.out.2.2.2⟩
  · rw [hok] at hri
    have HOK := Lib.hid (sumO_of hok)
    clear hok
    have hg2 : Hid (g = w.heap.size) := hg
    go_enter Try.func6, Try.ntmps6
    go_wp2_with (fail)
    rw [← hX, ← hk, ← hg]
    clear hX hk hg
    refine hri.mono ?_
    rintro e w2 ⟨rfl, hb2⟩
    have HG := Lib.hid (HX.out.2.2.1.next hb2)
    have HB2 := Lib.hid (HX.out.1.trans (hb2.mono HX.out.1.size))
    have hu2 := HX.out.2.1.next hb2
    rw [← hg2.out] at hu2
    have z0 := hu2.u0
    have z1 := hu2.u1
    have z2 := hu2.u2
    have z3 := hu2.u3
    clear hb2 hri hu2
    go_wp2_with (fail)
    refine (HY.out HOK.out _).mono ?_
    rintro e w3 ⟨q, rfl, hq, hql, hb3⟩
    have HG3 := Lib.hid (HG.out.next hb3)
    have HB3 := Lib.hid (HB2.out.trans (hb3.mono HB2.out.size))
    have HQ := Lib.hid (And.intro hq (show w.heap.size ≤ q from Nat.le_trans HB2.out.size hql))
    have hkq : Hid (k < q) := Nat.lt_of_lt_of_le HG.out.lt hql
    have y0 := HG3.out.c0
    have y1 := HG3.out.c1
    have y2 := HG3.out.c2
    have f0 := HG3.out.f0
    have f1 := HG3.out.f1
    have f2 := HG3.out.f2
    clear hb3 hq hql z0 z1 z2 z3
    go_wp2_with (fail)
    have e0 := HG3.out.set3 65535 0 (.slice (some ⟨q, 0, none⟩) 56 56)
    have k0 := e0.c0
    have k1 := e0.c1
    have k2 := e0.c2
    unfold setG at k0 k1 k2
    exact bodyPost_ret (v := .tuple #[.agg #[.int .i64 65535, .int .i64 0, .slice (some ⟨q, 0, none⟩) 56 56], .bool true]) (by simp [results, Try.results6, go_sem, k0, k1, k2]) rfl ⟨q, rfl, HQ.out.1.setG (by have := hkq.out; omega), HQ.out.2, HB3.out.setG HX.out.2.2.2⟩
end Go.Proofs.Ytcpplppccljmiaa
