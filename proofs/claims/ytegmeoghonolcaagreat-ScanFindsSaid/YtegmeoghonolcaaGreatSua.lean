/-
  Summaries: the program's payload, PutSummary, told and GetSummary, by contract.
-/
import Derived.Test.YtegmeoghonolcaaGreatSuA
import Derived.Test.YtegmeoghonolcaaGreatHb
import Derived.Test.YtegmeoghonolcaaGreatCs
import Derived.Test.YtegmeoghonolcaaGreatKma
set_option linter.unusedSimpArgs false
set_option linter.unusedVariables false
namespace Go.Proofs.YtegmeoghonolcaaGreat
open Go.RowKit
set_option linter.unusedVariables false

/-- What the numbers of a right summary are. -/
structure SumR (d r s c i n t : Int) : Prop where
  rt : Rt d r s
  c1 : 1 ≤ c
  c2 : c ≤ s
  i0 : 0 ≤ i
  i1 : i < c
  n0 : 0 ≤ n
  n1 : n ≤ PL d r
  root : rootO d r s c i t = true
/-- Is a summary right? -/
noncomputable def sumO (d r s c i n t : Int) : Bool := @decide (SumR d r s c i n t) (Classical.propDecidable _)
theorem sumO_yes {d r s c i n t : Int} (h : SumR d r s c i n t) : sumO d r s c i n t = true := by
  unfold sumO
  exact @decide_eq_true _ (Classical.propDecidable _) h
theorem sumO_no {d r s c i n t : Int} (h : ¬ SumR d r s c i n t) : sumO d r s c i n t = false := by
  unfold sumO
  exact @decide_eq_false _ (Classical.propDecidable _) h
theorem sumO_of {d r s c i n t : Int} (h : sumO d r s c i n t = true) : SumR d r s c i n t := by
  unfold sumO at h
  exact @of_decide_eq_true _ (Classical.propDecidable _) h
theorem SumR.small {d r s c i n t : Int} (h : SumR d r s c i n t) : (0 ≤ c ∧ c < 65536) ∧ (0 ≤ i ∧ i < 65536) ∧ (0 ≤ n ∧ n < 65536) ∧ (0 ≤ t ∧ t < 65536) := by
  obtain ⟨h1, h2, h3, h4, h5, h6, h7, h8⟩ := h
  obtain ⟨p1, p2, _⟩ := PL_bd h1.d1 h1.d2 h1.r1 h1.r2
  obtain ⟨m1, m2⟩ := sp_bd h1
  have s2 := h1.s2
  unfold rootO at h8
  split at h8
  · have := of_decide_eq_true h8; omega
  · have := of_decide_eq_true h8; omega

theorem isRight_any (d r s c i n t : Int) (w : World) :
    Calls Tryz.prog 49 #[gv d r s, umv c i n t] w fun e w' => e = .returned (.bool (sumO d r s c i n t)) ∧ Below w.heap.size w w' := by
  by_cases h0 : Rt d r s
  · by_cases h1 : 1 ≤ c
    · by_cases h2 : c ≤ s
      · by_cases h3 : 0 ≤ i
        · by_cases h4 : i < c
          · by_cases h5 : 0 ≤ n
            · by_cases h6 : n ≤ PL d r
              · have e : sumO d r s c i n t = rootO d r s c i t := by
                  cases hr : rootO d r s c i t with
                  | true => exact sumO_yes ⟨h0, h1, h2, h3, h4, h5, h6, hr⟩
                  | false => exact sumO_no fun h => by have h' := h.root; rw [hr] at h'; cases h'
                rw [e]
                exact isRight_7 d r s c i n t w h0 h1 h2 h3 h4 h5 h6 _ (fun w => isRoot_any d r s c i n t w h0 h1 h2)
              · rw [sumO_no fun h => h6 h.n1]; exact isRight_6 d r s c i n t w h0 h1 h2 h3 h4 h5 h6
            · rw [sumO_no fun h => h5 h.n0]; exact isRight_5 d r s c i n t w h0 h1 h2 h3 h4 h5
          · rw [sumO_no fun h => h4 h.i1]; exact isRight_4 d r s c i n t w h0 h1 h2 h3 h4
        · rw [sumO_no fun h => h3 h.i0]; exact isRight_3 d r s c i n t w h0 h1 h2 h3
      · rw [sumO_no fun h => h2 h.c2]; exact isRight_2 d r s c i n t w h0 h1 h2
    · rw [sumO_no fun h => h1 h.c1]; exact isRight_1 d r s c i n t w h0 h1
  · rw [sumO_no fun h => h0 h.rt]; exact isRight_0 d r s c i n t w h0

/-- A summary's numbers, as bytes; with noughts behind. -/
def sumN (c i n t : Int) : List Int := digs 2 21331 ++ digs 2 c ++ digs 2 i ++ digs 2 n ++ digs 2 t
def sumL (c i n t : Int) : List Int := padL (sumN c i n t) 56
theorem sumN_len (c i n t : Int) : (sumN c i n t).length = 10 := by simp [sumN, digs_len]
theorem sumN_small (c i n t : Int) : AllB (sumN c i n t) := ((((digs_small _ _).app (digs_small _ _)).app (digs_small _ _)).app (digs_small _ _)).app (digs_small _ _)
theorem sumL_len (c i n t : Int) : (sumL c i n t).length = 56 := padL_len (by rw [sumN_len]; omega)
theorem sumL_small (c i n t : Int) : AllB (sumL c i n t) := padL_small (sumN_small _ _ _ _) _
theorem hasWS2 {n : Int} (h : 0 ≤ n ∧ n < 65536) : hasW n 2 = true := by unfold hasW; rw [decide_eq_true_eq]; exact h
/-- A whole payload that is new. -/
def PyPost (w : World) (zs : List Int) (e : Ending) (w' : World) : Prop := ∃ g, e = .returned (.slice (some ⟨g, 0, none⟩) 56 56) ∧ Blk w' g zs ∧ w.heap.size ≤ g ∧ Below w.heap.size w w'

set_option maxRecDepth 100000 in
set_option maxHeartbeats 4000000 in
theorem payload_any (c i n t : Int) (w : World) (hc : 0 ≤ c ∧ c < 65536) (hi : 0 ≤ i ∧ i < 65536) (hn : 0 ≤ n ∧ n < 65536) (ht : 0 ≤ t ∧ t < 65536) :
    Calls Tryz.prog 50 #[umv c i n t] w (PyPost w (sumL c i n t)) := by
  have p0 := fun W => put_yes 2 21331 W (by omega) (by omega) (hasWS2 (by omega))
  have p1 := fun W => put_yes 2 c W (by omega) (by omega) (hasWS2 hc)
  have p2 := fun W => put_yes 2 i W (by omega) (by omega) (hasWS2 hi)
  have p3 := fun W => put_yes 2 n W (by omega) (by omega) (hasWS2 hn)
  have p4 := fun W => put_yes 2 t W (by omega) (by omega) (hasWS2 ht)
  have HP := Lib.hid (And.intro p0 (And.intro p1 (And.intro p2 (And.intro p3 p4))))
  have hb0 : Below w.heap.size w (w.alloc (.cells #[.int .i64 c, .int .i64 i, .int .i64 n, .int .i64 t] 57 (0, 0))) := (Below.refl _ _).alloc (Nat.le_refl _) _
  have HB0 := Lib.hid hb0
  clear p0 p1 p2 p3 p4 hc hi hn ht hb0
  unfold umv
  go_enter Tryz.func50, Tryz.ntmps50
  go_wp2_with (fail)
  obtain ⟨W0, hW0⟩ : ∃ W0, W0 = w.alloc (.cells #[.int .i64 c, .int .i64 i, .int .i64 n, .int .i64 t] 57 (0, 0)) := ⟨_, rfl⟩
  rw [← hW0] at HB0 ⊢
  clear hW0
  have hix : ∀ (w : World) (c i n t : Int), (Instr.index 159 (.agg #[.int .i64 21331, .int .i64 c, .int .i64 i, .int .i64 n, .int .i64 t]) (.int .i64 0)).run Tryz.prog w = .ok (.int .i64 21331) w := fun _ _ _ _ _ => by kernel_rfl
  have hix1 : ∀ (w : World) (c i n t : Int), (Instr.index 159 (.agg #[.int .i64 21331, .int .i64 c, .int .i64 i, .int .i64 n, .int .i64 t]) (.int .i64 1)).run Tryz.prog w = .ok (.int .i64 c) w := fun _ _ _ _ _ => by kernel_rfl
  have hix2 : ∀ (w : World) (c i n t : Int), (Instr.index 159 (.agg #[.int .i64 21331, .int .i64 c, .int .i64 i, .int .i64 n, .int .i64 t]) (.int .i64 2)).run Tryz.prog w = .ok (.int .i64 i) w := fun _ _ _ _ _ => by kernel_rfl
  have hix3 : ∀ (w : World) (c i n t : Int), (Instr.index 159 (.agg #[.int .i64 21331, .int .i64 c, .int .i64 i, .int .i64 n, .int .i64 t]) (.int .i64 3)).run Tryz.prog w = .ok (.int .i64 n) w := fun _ _ _ _ _ => by kernel_rfl
  have hix4 : ∀ (w : World) (c i n t : Int), (Instr.index 159 (.agg #[.int .i64 21331, .int .i64 c, .int .i64 i, .int .i64 n, .int .i64 t]) (.int .i64 4)).run Tryz.prog w = .ok (.int .i64 t) w := fun _ _ _ _ _ => by kernel_rfl
  have hown : Own W0 W0.heap.size (.slice none 0 0) 0 [] := ⟨World.ownsRow_nil _ _ _ _, fun z hz => by cases hz⟩
  have HO := Lib.hid hown
  have HC := Lib.hid (Below.refl W0.heap.size W0)
  clear hown
  refine wp_loop_rounds 6 ?_
  rw [rounds_succ]
  go_wp2_with (fail)
  refine (HP.out.1 _).mono ?_
  rintro e w0a ⟨rfl, hb0a, hl0a⟩
  have ho0 := HO.out.below (Nat.le_refl _) hl0a
  have hy0 := hb0a.bysn (digs_small _ _) (digs_len 2 21331)
  have hs0 : W0.heap.size ≤ w0a.heap.size := Nat.le_trans HC.out.size hl0a.size
  have hm0 := HC.out.trans (hl0a.mono HC.out.size)
  clear HO HC hl0a hb0a
  go_wp2_with (at_builtin; go_must (refine wpList_ap rfl (.tmp 18) (.tmp 20) rfl W0.heap.size _ 0 _ rfl ho0 (some ⟨W0.heap.size, 0, none⟩) 2 2 _ rfl hy0 (fun h => by cases h) (by omega) hs0 W0 hm0 ?_); intro v0 w0 o0 b0; obtain ⟨a0, c0, rfl, _⟩ := o0.form; have HO := Lib.hid o0; have HC := Lib.hid b0; clear o0 b0 ho0 hy0 hs0 hm0)
  rw [rounds_succ]
  go_wp2_with (fail)
  refine (HP.out.2.1 _).mono ?_
  rintro e w1a ⟨rfl, hb1a, hl1a⟩
  have ho1 := HO.out.below (Nat.le_refl _) hl1a
  have hy1 := hb1a.bysn (digs_small _ _) (digs_len 2 c)
  have hs1 : W0.heap.size ≤ w1a.heap.size := Nat.le_trans HC.out.size hl1a.size
  have hm1 := HC.out.trans (hl1a.mono HC.out.size)
  clear HO HC hl1a hb1a
  go_wp2_with (at_builtin; go_must (refine wpList_ap rfl (.tmp 18) (.tmp 20) rfl W0.heap.size _ 2 _ rfl ho1 (some ⟨w0.heap.size, 0, none⟩) 2 2 _ rfl hy1 (fun h => by cases h) (by omega) hs1 W0 hm1 ?_); intro v1 w1 o1 b1; obtain ⟨a1, c1, rfl, _⟩ := o1.form; have HO := Lib.hid o1; have HC := Lib.hid b1; clear o1 b1 ho1 hy1 hs1 hm1)
  rw [rounds_succ]
  go_wp2_with (fail)
  refine (HP.out.2.2.1 _).mono ?_
  rintro e w2a ⟨rfl, hb2a, hl2a⟩
  have ho2 := HO.out.below (Nat.le_refl _) hl2a
  have hy2 := hb2a.bysn (digs_small _ _) (digs_len 2 i)
  have hs2 : W0.heap.size ≤ w2a.heap.size := Nat.le_trans HC.out.size hl2a.size
  have hm2 := HC.out.trans (hl2a.mono HC.out.size)
  clear HO HC hl2a hb2a
  go_wp2_with (at_builtin; go_must (refine wpList_ap rfl (.tmp 18) (.tmp 20) rfl W0.heap.size _ 4 _ rfl ho2 (some ⟨w1.heap.size, 0, none⟩) 2 2 _ rfl hy2 (fun h => by cases h) (by omega) hs2 W0 hm2 ?_); intro v2 w2 o2 b2; obtain ⟨a2, c2, rfl, _⟩ := o2.form; have HO := Lib.hid o2; have HC := Lib.hid b2; clear o2 b2 ho2 hy2 hs2 hm2)
  rw [rounds_succ]
  go_wp2_with (fail)
  refine (HP.out.2.2.2.1 _).mono ?_
  rintro e w3a ⟨rfl, hb3a, hl3a⟩
  have ho3 := HO.out.below (Nat.le_refl _) hl3a
  have hy3 := hb3a.bysn (digs_small _ _) (digs_len 2 n)
  have hs3 : W0.heap.size ≤ w3a.heap.size := Nat.le_trans HC.out.size hl3a.size
  have hm3 := HC.out.trans (hl3a.mono HC.out.size)
  clear HO HC hl3a hb3a
  go_wp2_with (at_builtin; go_must (refine wpList_ap rfl (.tmp 18) (.tmp 20) rfl W0.heap.size _ 6 _ rfl ho3 (some ⟨w2.heap.size, 0, none⟩) 2 2 _ rfl hy3 (fun h => by cases h) (by omega) hs3 W0 hm3 ?_); intro v3 w3 o3 b3; obtain ⟨a3, c3, rfl, _⟩ := o3.form; have HO := Lib.hid o3; have HC := Lib.hid b3; clear o3 b3 ho3 hy3 hs3 hm3)
  rw [rounds_succ]
  go_wp2_with (fail)
  refine (HP.out.2.2.2.2 _).mono ?_
  rintro e w4a ⟨rfl, hb4a, hl4a⟩
  have ho4 := HO.out.below (Nat.le_refl _) hl4a
  have hy4 := hb4a.bysn (digs_small _ _) (digs_len 2 t)
  have hs4 : W0.heap.size ≤ w4a.heap.size := Nat.le_trans HC.out.size hl4a.size
  have hm4 := HC.out.trans (hl4a.mono HC.out.size)
  clear HO HC hl4a hb4a
  go_wp2_with (at_builtin; go_must (refine wpList_ap rfl (.tmp 18) (.tmp 20) rfl W0.heap.size _ 8 _ rfl ho4 (some ⟨w3.heap.size, 0, none⟩) 2 2 _ rfl hy4 (fun h => by cases h) (by omega) hs4 W0 hm4 ?_); intro v4 w4 o4 b4; obtain ⟨a4, c4, rfl, _⟩ := o4.form; have HO := Lib.hid o4; have HC := Lib.hid b4; clear o4 b4 ho4 hy4 hs4 hm4)
  rw [rounds_succ]
  go_wp2_with (fail)
  have hz := (HO.out.pin)
  obtain ⟨a9, c9, e9, hp9, _⟩ := hz
  cases e9
  have hpad := pad_yes a4 10 c4 56 (sumN c i n t) w4 hp9.bys (by omega) (by omega)
  have HS4 : Hid (w.heap.size ≤ w4.heap.size) := Nat.le_trans HB0.out.size HC.out.size
  have HB4 := Lib.hid (HB0.out.trans (HC.out.mono HB0.out.size))
  clear hp9 HO HC
  refine hpad.mono ?_
  rintro e w5 ⟨rfl, hb5, hl5⟩
  have HF := Lib.hid (And.intro hb5 (HB4.out.trans (hl5.mono HB4.out.size)))
  clear hb5 hl5 hpad
  go_wp2_with (fail)
  go_ret
  exact ⟨_, rfl, HF.out.1, HS4.out, HF.out.2⟩
end Go.Proofs.YtegmeoghonolcaaGreat

/-
  Summaries: the program's told, PutSummary and GetSummary, by contract.
-/
namespace Go.Proofs.YtegmeoghonolcaaGreat
open Go.RowKit
set_option linter.unusedVariables false

/-- The number at a place of a payload. -/
def tv (la : Nat) (x : List Int) (k : Int) : Int := getV la x (2 * k) 2
set_option maxRecDepth 100000 in
set_option maxHeartbeats 4000000 in
theorem told_any (a : Option Addr) (la ca : Nat) (x : List Int) (w : World) (hx : Bys w a la x) (hn : la ≤ 1000000000000) :
    Calls Tryz.prog 65 #[.slice a la ca] w fun e w' => e = .returned (umv (tv la x 1) (tv la x 2) (tv la x 3) (tv la x 4)) ∧ Below w.heap.size w w' := by
  have g0 := fun W hB => get_fun a la ca 0 2 x W (hx.next hB) hn
  have g1 := fun W hB => get_fun a la ca 2 2 x W (hx.next hB) hn
  have g2 := fun W hB => get_fun a la ca 4 2 x W (hx.next hB) hn
  have g3 := fun W hB => get_fun a la ca 6 2 x W (hx.next hB) hn
  have g4 := fun W hB => get_fun a la ca 8 2 x W (hx.next hB) hn
  unfold tv umv
  obtain ⟨t0, ht0⟩ : ∃ v, v = getV la x 0 2 := ⟨_, rfl⟩
  obtain ⟨t1, ht1⟩ : ∃ v, v = getV la x 2 2 := ⟨_, rfl⟩
  obtain ⟨t2, ht2⟩ : ∃ v, v = getV la x 4 2 := ⟨_, rfl⟩
  obtain ⟨t3, ht3⟩ : ∃ v, v = getV la x 6 2 := ⟨_, rfl⟩
  obtain ⟨t4, ht4⟩ : ∃ v, v = getV la x 8 2 := ⟨_, rfl⟩
  rw [show (2 : Int) * 1 = 2 from rfl, show (2 : Int) * 2 = 4 from rfl, show (2 : Int) * 3 = 6 from rfl, show (2 : Int) * 4 = 8 from rfl]
  rw [← ht0] at g0
  rw [← ht1] at g1 ⊢
  rw [← ht2] at g2 ⊢
  rw [← ht3] at g3 ⊢
  rw [← ht4] at g4 ⊢
  have HG := Lib.hid (And.intro g0 (And.intro g1 (And.intro g2 (And.intro g3 g4))))
  have hb := fun z0 z1 z2 z3 z4 => bel2 w (.cells #[.int .i64 0, .int .i64 0, .int .i64 0, .int .i64 0] 57 (0, 0)) (.cells #[.int .i64 z0, .int .i64 z1, .int .i64 z2, .int .i64 z3, .int .i64 z4] 159 (0, 0))
  have HB := Lib.hid hb
  clear g0 g1 g2 g3 g4 ht0 ht1 ht2 ht3 ht4 hx hb
  go_enter Tryz.func65, Tryz.ntmps65
  go_wp2_with (fail)
  refine wp_loop_rounds 6 ?_
  rw [rounds_succ]
  go_wp2_with (fail)
  refine (HG.out.1 _ (HB.out _ _ _ _ _)).mono ?_
  rintro e w' ⟨rfl, rfl⟩
  go_wp2_with (fail)
  rw [rounds_succ]
  go_wp2_with (fail)
  refine (HG.out.2.1 _ (HB.out _ _ _ _ _)).mono ?_
  rintro e w' ⟨rfl, rfl⟩
  go_wp2_with (fail)
  rw [rounds_succ]
  go_wp2_with (fail)
  refine (HG.out.2.2.1 _ (HB.out _ _ _ _ _)).mono ?_
  rintro e w' ⟨rfl, rfl⟩
  go_wp2_with (fail)
  rw [rounds_succ]
  go_wp2_with (fail)
  refine (HG.out.2.2.2.1 _ (HB.out _ _ _ _ _)).mono ?_
  rintro e w' ⟨rfl, rfl⟩
  go_wp2_with (fail)
  rw [rounds_succ]
  go_wp2_with (fail)
  refine (HG.out.2.2.2.2 _ (HB.out _ _ _ _ _)).mono ?_
  rintro e w' ⟨rfl, rfl⟩
  go_wp2_with (fail)
  rw [rounds_succ]
  go_wp2_with (fail)
  exact bodyPost_ret (v := .agg #[.int .i64 t1, .int .i64 t2, .int .i64 t3, .int .i64 t4]) (by simp [results, Tryz.results65, go_sem]) rfl ⟨rfl, bel2 _ _ _⟩

theorem Blk.setG {w : World} {g b : Nat} {zs : List Int} {p q : Int} {r : Value} (h : Blk w g zs) (hb : b ≠ g) : Blk (setG w b p q r) g zs := by
  have e : ∀ (w : World) (k : Nat) (u : Value), (w.setCell ⟨b, k, none⟩ u).heap[g]? = w.heap[g]? := fun w k u => Below.heap_setCell _ _ _ _ (by simpa using hb.symm)
  refine ⟨?_⟩
  unfold Go.Proofs.YtegmeoghonolcaaGreat.setG
  rw [e, e, e]
  exact h.row
theorem Gx.mk' (w : World) (q r : Int) (v : Value) (t : TypeId) : Gx (w.alloc (.cells #[.int .i64 q, .int .i64 r, v] t (0, 0))) w.heap.size q r v := ⟨by simp, by simp, by simp, by simp, by simp, by simp, by simp⟩
/-- What PutSummary answers. -/
def PsPost (w : World) (ok : Bool) (zs : List Int) (e : Ending) (w' : World) : Prop :=
  if ok then ∃ g, e = .returned (.tuple #[.agg #[.int .i64 65535, .int .i64 0, .slice (some ⟨g, 0, none⟩) 56 56], .bool true]) ∧ Blk w' g zs ∧ w.heap.size ≤ g ∧ Below w.heap.size w w'
  else e = .returned (.tuple #[.agg #[.int .i64 0, .int .i64 0, .slice none 0 0], .bool false]) ∧ Below w.heap.size w w'
theorem bel3 (w : World) (o p q : Obj) : Below w.heap.size w (((w.alloc o).alloc p).alloc q) := (bel2 w o p).alloc (by simp; omega) _
set_option maxHeartbeats 2000000 in
theorem putSum_any (d r s c i n t : Int) (w : World) :
    Calls Tryz.prog 21 #[gv d r s, umv c i n t] w (PsPost w (sumO d r s c i n t) (sumL c i n t)) := by
  obtain ⟨X, hX⟩ : ∃ X, X = ((w.alloc (.cells #[.int .i64 d, .int .i64 r, .int .i64 s] 33 (0, 0))).alloc (.cells #[.int .i64 c, .int .i64 i, .int .i64 n, .int .i64 t] 57 (0, 0))).alloc (.cells #[.int .i64 0, .int .i64 0, .slice none 0 0] 65 (0, 0)) := ⟨_, rfl⟩
  have hB : Below w.heap.size w X := by rw [hX]; exact bel3 _ _ _ _
  have hu : Gu X w.heap.size d r s c i n t := by
    rw [hX]
    exact (Gu.mk' w d r s c i n t).next ((Below.refl _ _).alloc (Nat.le_refl _) _)
  have hgx : Gx X (w.heap.size + 1 + 1) 0 0 (.slice none 0 0) := by
    rw [hX, show w.heap.size + 1 + 1 = ((w.alloc (.cells #[.int .i64 d, .int .i64 r, .int .i64 s] 33 (0, 0))).alloc (.cells #[.int .i64 c, .int .i64 i, .int .i64 n, .int .i64 t] 57 (0, 0))).heap.size by simp]
    exact Gx.mk' _ 0 0 _ _
  have hri := isRight_any d r s c i n t X
  have hpy := fun h : SumR d r s c i n t => fun W => payload_any c i n t W h.small.1 h.small.2.1 h.small.2.2.1 h.small.2.2.2
  unfold umv at hri hpy ⊢
  obtain ⟨g, hg⟩ : ∃ g, g = w.heap.size := ⟨_, rfl⟩
  obtain ⟨k, hk⟩ : ∃ k, k = w.heap.size + 1 + 1 := ⟨_, rfl⟩
  have hlk : w.heap.size ≤ k := by omega
  rw [← hk] at hgx
  have HX := Lib.hid (And.intro hB (And.intro hu (And.intro hgx hlk)))
  have HY := Lib.hid hpy
  clear hB hu hgx hlk hpy
  cases hok : sumO d r s c i n t
  · rw [hok] at hri
    clear hok
    go_enter Tryz.func21, Tryz.ntmps21
    go_wp2_with (fail)
    rw [← hX, ← hk]
    clear hX hk
    refine hri.mono ?_
    rintro e w2 ⟨rfl, hb2⟩
    have HG := Lib.hid (HX.out.2.2.1.next hb2)
    have HB2 := Lib.hid (HX.out.1.trans (hb2.mono HX.out.1.size))
    have y0 := HG.out.c0
    have y1 := HG.out.c1
    have y2 := HG.out.c2
    have f0 := HG.out.f0
    have f1 := HG.out.f1
    have f2 := HG.out.f2
    clear hb2 hri
    go_wp2_with (fail)
    have e0 := HG.out.set3 0 0 (.slice none 0 0)
    have k0 := e0.c0
    have k1 := e0.c1
    have k2 := e0.c2
    unfold setG at k0 k1 k2
    exact bodyPost_ret (v := .tuple #[.agg #[.int .i64 0, .int .i64 0, .slice none 0 0], .bool false]) (by simp [results, Tryz.results21, go_sem, k0, k1, k2]) rfl ⟨rfl, HB2.out.setG HX.out.2.2.2⟩
  · rw [hok] at hri
    have HOK := Lib.hid (sumO_of hok)
    clear hok
    have hg2 : Hid (g = w.heap.size) := hg
    go_enter Tryz.func21, Tryz.ntmps21
    go_wp2_with (fail)
    rw [← hX, ← hk, ← hg]
    clear hX hk hg
    refine hri.mono ?_
    rintro e w2 ⟨rfl, hb2⟩
    have HG := Lib.hid (HX.out.2.2.1.next hb2)
    have HB2 := Lib.hid (HX.out.1.trans (hb2.mono HX.out.1.size))
    have hu2 := HX.out.2.1.next hb2
    rw [← hg2.out] at hu2
    have z0 := hu2.u0
    have z1 := hu2.u1
    have z2 := hu2.u2
    have z3 := hu2.u3
    clear hb2 hri hu2
    go_wp2_with (fail)
    refine (HY.out HOK.out _).mono ?_
    rintro e w3 ⟨q, rfl, hq, hql, hb3⟩
    have HG3 := Lib.hid (HG.out.next hb3)
    have HB3 := Lib.hid (HB2.out.trans (hb3.mono HB2.out.size))
    have HQ := Lib.hid (And.intro hq (show w.heap.size ≤ q from Nat.le_trans HB2.out.size hql))
    have hkq : Hid (k < q) := Nat.lt_of_lt_of_le HG.out.lt hql
    have y0 := HG3.out.c0
    have y1 := HG3.out.c1
    have y2 := HG3.out.c2
    have f0 := HG3.out.f0
    have f1 := HG3.out.f1
    have f2 := HG3.out.f2
    clear hb3 hq hql z0 z1 z2 z3
    go_wp2_with (fail)
    have e0 := HG3.out.set3 65535 0 (.slice (some ⟨q, 0, none⟩) 56 56)
    have k0 := e0.c0
    have k1 := e0.c1
    have k2 := e0.c2
    unfold setG at k0 k1 k2
    exact bodyPost_ret (v := .tuple #[.agg #[.int .i64 65535, .int .i64 0, .slice (some ⟨q, 0, none⟩) 56 56], .bool true]) (by simp [results, Tryz.results21, go_sem, k0, k1, k2]) rfl ⟨q, rfl, HQ.out.1.setG (by have := hkq.out; omega), HQ.out.2, HB3.out.setG HX.out.2.2.2⟩
end Go.Proofs.YtegmeoghonolcaaGreat

/-
  Summaries: the program's GetSummary, by contract.
-/
namespace Go.Proofs.YtegmeoghonolcaaGreat
open Go.RowKit
set_option linter.unusedVariables false

/-- Four numbers in a block, free to be written. -/
structure M4 (w : World) (b : Nat) (c i n t : Int) : Prop where
  lt : b < w.heap.size
  c0 : w.cell? ⟨b, 0, none⟩ = some (.int .i64 c)
  c1 : w.cell? ⟨b, 1, none⟩ = some (.int .i64 i)
  c2 : w.cell? ⟨b, 2, none⟩ = some (.int .i64 n)
  c3 : w.cell? ⟨b, 3, none⟩ = some (.int .i64 t)
  f0 : w.frozen? ⟨b, 0, none⟩ = false
  f1 : w.frozen? ⟨b, 1, none⟩ = false
  f2 : w.frozen? ⟨b, 2, none⟩ = false
  f3 : w.frozen? ⟨b, 3, none⟩ = false
theorem M4.next {w w' : World} {b : Nat} {c i n t : Int} (h : M4 w b c i n t) (hb : Below w.heap.size w w') : M4 w' b c i n t :=
  ⟨Nat.lt_of_lt_of_le h.lt hb.size, (hb.cell (p := ⟨b, 0, none⟩) h.lt).trans h.c0, (hb.cell (p := ⟨b, 1, none⟩) h.lt).trans h.c1, (hb.cell (p := ⟨b, 2, none⟩) h.lt).trans h.c2, (hb.cell (p := ⟨b, 3, none⟩) h.lt).trans h.c3,
    (hb.frozen (p := ⟨b, 0, none⟩) h.lt).trans h.f0, (hb.frozen (p := ⟨b, 1, none⟩) h.lt).trans h.f1, (hb.frozen (p := ⟨b, 2, none⟩) h.lt).trans h.f2, (hb.frozen (p := ⟨b, 3, none⟩) h.lt).trans h.f3⟩
theorem M4.mk' (w : World) (c i n t : Int) (ty : TypeId) : M4 (w.alloc (.cells #[.int .i64 c, .int .i64 i, .int .i64 n, .int .i64 t] ty (0, 0))) w.heap.size c i n t := ⟨by simp, by simp, by simp, by simp, by simp, by simp, by simp, by simp, by simp⟩
def set4 (w : World) (b : Nat) (c i n t : Int) : World := (((w.setCell ⟨b, 0, none⟩ (.int .i64 c)).setCell ⟨b, 1, none⟩ (.int .i64 i)).setCell ⟨b, 2, none⟩ (.int .i64 n)).setCell ⟨b, 3, none⟩ (.int .i64 t)
theorem M4.set {w : World} {b : Nat} {c i n t : Int} (h : M4 w b c i n t) (p q r s : Int) : M4 (set4 w b p q r s) b p q r s := by
  refine ⟨by simpa [set4] using h.lt, ?_, ?_, ?_, ?_, by simpa [set4] using h.f0, by simpa [set4] using h.f1, by simpa [set4] using h.f2, by simpa [set4] using h.f3⟩
  · rw [set4, set_othG (by simp), set_othG (by simp), set_othG (by simp), set_sameG h.c0]
  · rw [set4, set_othG (by simp), set_othG (by simp), set_sameG ((set_othG (by simp)).trans h.c1)]
  · rw [set4, set_othG (by simp), set_sameG ((set_othG (by simp)).trans ((set_othG (by simp)).trans h.c2))]
  · rw [set4, set_sameG ((set_othG (by simp)).trans ((set_othG (by simp)).trans ((set_othG (by simp)).trans h.c3)))]
theorem _root_.Go.RowKit.Below.set4 {w0 w : World} {B b : Nat} {p q r s : Int} (h : Below B w0 w) (hb : B ≤ b) : Below B w0 (set4 w b p q r s) := (((h.setCell (p := ⟨b, 0, none⟩) hb _).setCell (p := ⟨b, 1, none⟩) hb _).setCell (p := ⟨b, 2, none⟩) hb _).setCell (p := ⟨b, 3, none⟩) hb _
/-- What GetSummary answers. -/
def gmS (ok : Bool) (c i n t : Int) : Value := if ok then umv c i n t else umv 0 0 0 0
def GsmPost (w : World) (ok : Bool) (c i n t : Int) (e : Ending) (w' : World) : Prop := e = .returned (.tuple #[gmS ok c i n t, .bool ok]) ∧ Below w.heap.size w w'
set_option maxRecDepth 100000 in
set_option maxHeartbeats 4000000 in
theorem getSum_no (d r s o ix : Int) (a : Option Addr) (la ca : Nat) (x : List Int) (w : World) (hx : Bys w a la x) (hn : la ≤ 1000000000000) (c i n t : Int) (hc : c = tv la x 1) (hi : i = tv la x 2) (hnn : n = tv la x 3) (ht : t = tv la x 4) (hok : sumO d r s c i n t = false) :
    Calls Tryz.prog 25 #[gv d r s, .agg #[.int .i64 o, .int .i64 ix, .slice a la ca]] w (GsmPost w false c i n t) := by
  have htd := fun W hB => told_any a la ca x W (hx.next (w' := W) hB) hn
  rw [← hc, ← hi, ← hnn, ← ht] at htd
  have hps := putSum_any d r s c i n t
  rw [hok] at hps
  obtain ⟨X, hX⟩ : ∃ X, X = ((w.alloc (.cells #[.int .i64 d, .int .i64 r, .int .i64 s] 33 (0, 0))).alloc (.cells #[.int .i64 o, .int .i64 ix, .slice a la ca] 65 (0, 0))).alloc (.cells #[.int .i64 0, .int .i64 0, .int .i64 0, .int .i64 0] 57 (0, 0)) := ⟨_, rfl⟩
  have hB : Below w.heap.size w X := by rw [hX]; exact bel3 _ _ _ _
  have hbx : Bx X w.heap.size d r s := by rw [hX]; exact ((Bx.mk' w d r s _).alloc _).alloc _
  have hgx : Gx X (w.heap.size + 1) o ix (.slice a la ca) := by
    rw [hX, show w.heap.size + 1 = (w.alloc (.cells #[.int .i64 d, .int .i64 r, .int .i64 s] 33 (0, 0))).heap.size by simp]
    exact (Gx.mk' _ o ix _ _).next ((Below.refl _ _).alloc (Nat.le_refl _) _)
  have hm4 : M4 X (w.heap.size + 1 + 1) 0 0 0 0 := by
    rw [hX, show w.heap.size + 1 + 1 = ((w.alloc (.cells #[.int .i64 d, .int .i64 r, .int .i64 s] 33 (0, 0))).alloc (.cells #[.int .i64 o, .int .i64 ix, .slice a la ca] 65 (0, 0))).heap.size by simp]
    exact M4.mk' _ 0 0 0 0 _
  have HT := Lib.hid (htd X hB)
  have HX := Lib.hid hx
  obtain ⟨g, hg⟩ : ∃ g, g = w.heap.size := ⟨_, rfl⟩
  obtain ⟨g1, hg1⟩ : ∃ k, k = w.heap.size + 1 := ⟨_, rfl⟩
  obtain ⟨g2, hg2⟩ : ∃ k, k = w.heap.size + 1 + 1 := ⟨_, rfl⟩
  have HL : Hid (w.heap.size ≤ g2) := Lib.hid (by omega)
  rw [← hg] at hbx
  rw [← hg1] at hgx
  rw [← hg2] at hm4
  have HA := Lib.hid (And.intro hB (And.intro hbx (And.intro hgx hm4)))
  have y0 := hgx.c0
  have y1 := hgx.c1
  have y2 := hgx.c2
  have HPS := Lib.hid hps
  unfold umv at HT HPS
  clear htd hps hB hbx hgx hm4 hc hi hnn ht hx hok
  go_enter Tryz.func25, Tryz.ntmps25
  go_wp2_with (fail)
  rw [← hX, ← hg2, ← hg1, ← hg]
  clear hX hg hg1 hg2
  refine HT.out.mono ?_
  rintro e w2 ⟨rfl, hb2⟩
  have hb2a := hb2.alloc hb2.size (.cells #[.int .i64 c, .int .i64 i, .int .i64 n, .int .i64 t] 57 (0, 0))
  have HA3 := Lib.hid (And.intro (HA.out.1.trans (hb2a.mono HA.out.1.size)) (And.intro (HA.out.2.1.next hb2a) (And.intro (HA.out.2.2.1.next hb2a) (HA.out.2.2.2.next hb2a))))
  have hbx2 := HA.out.2.1.next hb2
  have z0 := hbx2.c0
  have z1 := hbx2.c1
  have z2 := hbx2.c2
  have zl := hbx2.lt
  have HM := Lib.hid (M4.mk' w2 c i n t 57)
  clear hb2 hb2a hbx2 HA HT y0 y1 y2
  go_wp2_with (fail)
  refine (HPS.out _).mono ?_
  rintro e w4 ⟨rfl, hb4⟩
  have hb4' := HA3.out.1.trans (hb4.mono HA3.out.1.size)
  have hgx := HA3.out.2.2.1.next hb4
  have hm4 := HA3.out.2.2.2.next hb4
  have hms := HM.out.next hb4
  have HA4 := Lib.hid (And.intro hb4' (And.intro hgx (And.intro hm4 hms)))
  have y0 := hgx.c0
  have y1 := hgx.c1
  have y2 := hgx.c2
  have yl := hgx.lt
  have r0 := hm4.c0
  have r1 := hm4.c1
  have r2 := hm4.c2
  have r3 := hm4.c3
  have q0 := hm4.f0
  have q1 := hm4.f1
  have q2 := hm4.f2
  have q3 := hm4.f3
  have rl := hm4.lt
  clear hb4 hb4' hgx hm4 hms HA3 HM z0 z1 z2 zl HPS
  go_wp2_with (fail)
  have e0 := (HA4.out.2.2.1.set 0 0 0 0).next ((Below.refl _ _).alloc (Nat.le_refl _) (.cells #[.int .i64 0, .int .i64 0, .slice none 0 0] 65 (0, 0)))
  have e1 := HA4.out.1.set4 (p := 0) (q := 0) (r := 0) (s := 0) HL.out
  have e2 := e1.alloc e1.size (.cells #[.int .i64 0, .int .i64 0, .slice none 0 0] 65 (0, 0))
  have k0 := e0.c0
  have k1 := e0.c1
  have k2 := e0.c2
  have k3 := e0.c3
  unfold set4 at k0 k1 k2 k3
  exact bodyPost_ret (v := .tuple #[.agg #[.int .i64 0, .int .i64 0, .int .i64 0, .int .i64 0], .bool false]) (by simp [results, Tryz.results25, go_sem, k0, k1, k2, k3]) rfl ⟨rfl, e2⟩
set_option maxRecDepth 100000 in
set_option maxHeartbeats 4000000 in
theorem getSum_own (d r s o ix : Int) (a : Option Addr) (la ca : Nat) (x : List Int) (w : World) (hx : Bys w a la x) (hn : la ≤ 1000000000000) (c i n t : Int) (hc : c = tv la x 1) (hi : i = tv la x 2) (hnn : n = tv la x 3) (ht : t = tv la x 4) (hok : sumO d r s c i n t = true) (h1 : (o != 65535) = true) :
    Calls Tryz.prog 25 #[gv d r s, .agg #[.int .i64 o, .int .i64 ix, .slice a la ca]] w (GsmPost w false c i n t) := by
  have htd := fun W hB => told_any a la ca x W (hx.next (w' := W) hB) hn
  rw [← hc, ← hi, ← hnn, ← ht] at htd
  have hps := putSum_any d r s c i n t
  rw [hok] at hps
  obtain ⟨X, hX⟩ : ∃ X, X = ((w.alloc (.cells #[.int .i64 d, .int .i64 r, .int .i64 s] 33 (0, 0))).alloc (.cells #[.int .i64 o, .int .i64 ix, .slice a la ca] 65 (0, 0))).alloc (.cells #[.int .i64 0, .int .i64 0, .int .i64 0, .int .i64 0] 57 (0, 0)) := ⟨_, rfl⟩
  have hB : Below w.heap.size w X := by rw [hX]; exact bel3 _ _ _ _
  have hbx : Bx X w.heap.size d r s := by rw [hX]; exact ((Bx.mk' w d r s _).alloc _).alloc _
  have hgx : Gx X (w.heap.size + 1) o ix (.slice a la ca) := by
    rw [hX, show w.heap.size + 1 = (w.alloc (.cells #[.int .i64 d, .int .i64 r, .int .i64 s] 33 (0, 0))).heap.size by simp]
    exact (Gx.mk' _ o ix _ _).next ((Below.refl _ _).alloc (Nat.le_refl _) _)
  have hm4 : M4 X (w.heap.size + 1 + 1) 0 0 0 0 := by
    rw [hX, show w.heap.size + 1 + 1 = ((w.alloc (.cells #[.int .i64 d, .int .i64 r, .int .i64 s] 33 (0, 0))).alloc (.cells #[.int .i64 o, .int .i64 ix, .slice a la ca] 65 (0, 0))).heap.size by simp]
    exact M4.mk' _ 0 0 0 0 _
  have HT := Lib.hid (htd X hB)
  have HX := Lib.hid hx
  obtain ⟨g, hg⟩ : ∃ g, g = w.heap.size := ⟨_, rfl⟩
  obtain ⟨g1, hg1⟩ : ∃ k, k = w.heap.size + 1 := ⟨_, rfl⟩
  obtain ⟨g2, hg2⟩ : ∃ k, k = w.heap.size + 1 + 1 := ⟨_, rfl⟩
  have HL : Hid (w.heap.size ≤ g2) := Lib.hid (by omega)
  rw [← hg] at hbx
  rw [← hg1] at hgx
  rw [← hg2] at hm4
  have HA := Lib.hid (And.intro hB (And.intro hbx (And.intro hgx hm4)))
  have y0 := hgx.c0
  have y1 := hgx.c1
  have y2 := hgx.c2
  have HPS := Lib.hid hps
  unfold umv at HT HPS
  clear htd hps hB hbx hgx hm4 hc hi hnn ht hx hok
  go_enter Tryz.func25, Tryz.ntmps25
  go_wp2_with (fail)
  rw [← hX, ← hg2, ← hg1, ← hg]
  clear hX hg hg1 hg2
  refine HT.out.mono ?_
  rintro e w2 ⟨rfl, hb2⟩
  have hb2a := hb2.alloc hb2.size (.cells #[.int .i64 c, .int .i64 i, .int .i64 n, .int .i64 t] 57 (0, 0))
  have HA3 := Lib.hid (And.intro (HA.out.1.trans (hb2a.mono HA.out.1.size)) (And.intro (HA.out.2.1.next hb2a) (And.intro (HA.out.2.2.1.next hb2a) (HA.out.2.2.2.next hb2a))))
  have hbx2 := HA.out.2.1.next hb2
  have z0 := hbx2.c0
  have z1 := hbx2.c1
  have z2 := hbx2.c2
  have zl := hbx2.lt
  have HM := Lib.hid (M4.mk' w2 c i n t 57)
  clear hb2 hb2a hbx2 HA HT y0 y1 y2
  go_wp2_with (fail)
  refine (HPS.out _).mono ?_
  rintro e w4 ⟨q, rfl, hq, hql, hb4⟩
  have hb4' := HA3.out.1.trans (hb4.mono HA3.out.1.size)
  have hgx := HA3.out.2.2.1.next hb4
  have hm4 := HA3.out.2.2.2.next hb4
  have hms := HM.out.next hb4
  have HA4 := Lib.hid (And.intro hb4' (And.intro hgx (And.intro hm4 hms)))
  have y0 := hgx.c0
  have y1 := hgx.c1
  have y2 := hgx.c2
  have yl := hgx.lt
  have r0 := hm4.c0
  have r1 := hm4.c1
  have r2 := hm4.c2
  have r3 := hm4.c3
  have q0 := hm4.f0
  have q1 := hm4.f1
  have q2 := hm4.f2
  have q3 := hm4.f3
  have rl := hm4.lt
  clear hb4 hb4' hgx hm4 hms HA3 HM z0 z1 z2 zl HPS hq hql
  go_wp2_with (fail)
  have e0 := (HA4.out.2.2.1.set 0 0 0 0).next ((Below.refl _ _).alloc (Nat.le_refl _) (.cells #[.int .i64 65535, .int .i64 0, .slice (some ⟨q, 0, none⟩) 56 56] 65 (0, 0)))
  have e1 := HA4.out.1.set4 (p := 0) (q := 0) (r := 0) (s := 0) HL.out
  have e2 := e1.alloc e1.size (.cells #[.int .i64 65535, .int .i64 0, .slice (some ⟨q, 0, none⟩) 56 56] 65 (0, 0))
  have k0 := e0.c0
  have k1 := e0.c1
  have k2 := e0.c2
  have k3 := e0.c3
  unfold set4 at k0 k1 k2 k3
  exact bodyPost_ret (v := .tuple #[.agg #[.int .i64 0, .int .i64 0, .int .i64 0, .int .i64 0], .bool false]) (by simp [results, Tryz.results25, go_sem, k0, k1, k2, k3]) rfl ⟨rfl, e2⟩
set_option maxRecDepth 100000 in
set_option maxHeartbeats 4000000 in
theorem getSum_idx (d r s o ix : Int) (a : Option Addr) (la ca : Nat) (x : List Int) (w : World) (hx : Bys w a la x) (hn : la ≤ 1000000000000) (c i n t : Int) (hc : c = tv la x 1) (hi : i = tv la x 2) (hnn : n = tv la x 3) (ht : t = tv la x 4) (hok : sumO d r s c i n t = true) (h1 : (o != 65535) = false) (h2 : (ix != 0) = true) :
    Calls Tryz.prog 25 #[gv d r s, .agg #[.int .i64 o, .int .i64 ix, .slice a la ca]] w (GsmPost w false c i n t) := by
  have htd := fun W hB => told_any a la ca x W (hx.next (w' := W) hB) hn
  rw [← hc, ← hi, ← hnn, ← ht] at htd
  have hps := putSum_any d r s c i n t
  rw [hok] at hps
  obtain ⟨X, hX⟩ : ∃ X, X = ((w.alloc (.cells #[.int .i64 d, .int .i64 r, .int .i64 s] 33 (0, 0))).alloc (.cells #[.int .i64 o, .int .i64 ix, .slice a la ca] 65 (0, 0))).alloc (.cells #[.int .i64 0, .int .i64 0, .int .i64 0, .int .i64 0] 57 (0, 0)) := ⟨_, rfl⟩
  have hB : Below w.heap.size w X := by rw [hX]; exact bel3 _ _ _ _
  have hbx : Bx X w.heap.size d r s := by rw [hX]; exact ((Bx.mk' w d r s _).alloc _).alloc _
  have hgx : Gx X (w.heap.size + 1) o ix (.slice a la ca) := by
    rw [hX, show w.heap.size + 1 = (w.alloc (.cells #[.int .i64 d, .int .i64 r, .int .i64 s] 33 (0, 0))).heap.size by simp]
    exact (Gx.mk' _ o ix _ _).next ((Below.refl _ _).alloc (Nat.le_refl _) _)
  have hm4 : M4 X (w.heap.size + 1 + 1) 0 0 0 0 := by
    rw [hX, show w.heap.size + 1 + 1 = ((w.alloc (.cells #[.int .i64 d, .int .i64 r, .int .i64 s] 33 (0, 0))).alloc (.cells #[.int .i64 o, .int .i64 ix, .slice a la ca] 65 (0, 0))).heap.size by simp]
    exact M4.mk' _ 0 0 0 0 _
  have HT := Lib.hid (htd X hB)
  have HX := Lib.hid hx
  obtain ⟨g, hg⟩ : ∃ g, g = w.heap.size := ⟨_, rfl⟩
  obtain ⟨g1, hg1⟩ : ∃ k, k = w.heap.size + 1 := ⟨_, rfl⟩
  obtain ⟨g2, hg2⟩ : ∃ k, k = w.heap.size + 1 + 1 := ⟨_, rfl⟩
  have HL : Hid (w.heap.size ≤ g2) := Lib.hid (by omega)
  rw [← hg] at hbx
  rw [← hg1] at hgx
  rw [← hg2] at hm4
  have HA := Lib.hid (And.intro hB (And.intro hbx (And.intro hgx hm4)))
  have y0 := hgx.c0
  have y1 := hgx.c1
  have y2 := hgx.c2
  have HPS := Lib.hid hps
  unfold umv at HT HPS
  clear htd hps hB hbx hgx hm4 hc hi hnn ht hx hok
  go_enter Tryz.func25, Tryz.ntmps25
  go_wp2_with (fail)
  rw [← hX, ← hg2, ← hg1, ← hg]
  clear hX hg hg1 hg2
  refine HT.out.mono ?_
  rintro e w2 ⟨rfl, hb2⟩
  have hb2a := hb2.alloc hb2.size (.cells #[.int .i64 c, .int .i64 i, .int .i64 n, .int .i64 t] 57 (0, 0))
  have HA3 := Lib.hid (And.intro (HA.out.1.trans (hb2a.mono HA.out.1.size)) (And.intro (HA.out.2.1.next hb2a) (And.intro (HA.out.2.2.1.next hb2a) (HA.out.2.2.2.next hb2a))))
  have hbx2 := HA.out.2.1.next hb2
  have z0 := hbx2.c0
  have z1 := hbx2.c1
  have z2 := hbx2.c2
  have zl := hbx2.lt
  have HM := Lib.hid (M4.mk' w2 c i n t 57)
  clear hb2 hb2a hbx2 HA HT y0 y1 y2
  go_wp2_with (fail)
  refine (HPS.out _).mono ?_
  rintro e w4 ⟨q, rfl, hq, hql, hb4⟩
  have hb4' := HA3.out.1.trans (hb4.mono HA3.out.1.size)
  have hgx := HA3.out.2.2.1.next hb4
  have hm4 := HA3.out.2.2.2.next hb4
  have hms := HM.out.next hb4
  have HA4 := Lib.hid (And.intro hb4' (And.intro hgx (And.intro hm4 hms)))
  have y0 := hgx.c0
  have y1 := hgx.c1
  have y2 := hgx.c2
  have yl := hgx.lt
  have r0 := hm4.c0
  have r1 := hm4.c1
  have r2 := hm4.c2
  have r3 := hm4.c3
  have q0 := hm4.f0
  have q1 := hm4.f1
  have q2 := hm4.f2
  have q3 := hm4.f3
  have rl := hm4.lt
  clear hb4 hb4' hgx hm4 hms HA3 HM z0 z1 z2 zl HPS hq hql
  go_wp2_with (fail)
  have e0 := (HA4.out.2.2.1.set 0 0 0 0).next ((Below.refl _ _).alloc (Nat.le_refl _) (.cells #[.int .i64 65535, .int .i64 0, .slice (some ⟨q, 0, none⟩) 56 56] 65 (0, 0)))
  have e1 := HA4.out.1.set4 (p := 0) (q := 0) (r := 0) (s := 0) HL.out
  have e2 := e1.alloc e1.size (.cells #[.int .i64 65535, .int .i64 0, .slice (some ⟨q, 0, none⟩) 56 56] 65 (0, 0))
  have k0 := e0.c0
  have k1 := e0.c1
  have k2 := e0.c2
  have k3 := e0.c3
  unfold set4 at k0 k1 k2 k3
  exact bodyPost_ret (v := .tuple #[.agg #[.int .i64 0, .int .i64 0, .int .i64 0, .int .i64 0], .bool false]) (by simp [results, Tryz.results25, go_sem, k0, k1, k2, k3]) rfl ⟨rfl, e2⟩
set_option maxRecDepth 100000 in
set_option maxHeartbeats 4000000 in
theorem getSum_diff (d r s o ix : Int) (a : Option Addr) (la ca : Nat) (x : List Int) (w : World) (hx : Bys w a la x) (hn : la ≤ 1000000000000) (c i n t : Int) (hc : c = tv la x 1) (hi : i = tv la x 2) (hnn : n = tv la x 3) (ht : t = tv la x 4) (hok : sumO d r s c i n t = true) (h1 : (o != 65535) = false) (h2 : (ix != 0) = false) (hsame : sameB x (sumL c i n t) = false) :
    Calls Tryz.prog 25 #[gv d r s, .agg #[.int .i64 o, .int .i64 ix, .slice a la ca]] w (GsmPost w false c i n t) := by
  have htd := fun W hB => told_any a la ca x W (hx.next (w' := W) hB) hn
  rw [← hc, ← hi, ← hnn, ← ht] at htd
  have hps := putSum_any d r s c i n t
  rw [hok] at hps
  obtain ⟨X, hX⟩ : ∃ X, X = ((w.alloc (.cells #[.int .i64 d, .int .i64 r, .int .i64 s] 33 (0, 0))).alloc (.cells #[.int .i64 o, .int .i64 ix, .slice a la ca] 65 (0, 0))).alloc (.cells #[.int .i64 0, .int .i64 0, .int .i64 0, .int .i64 0] 57 (0, 0)) := ⟨_, rfl⟩
  have hB : Below w.heap.size w X := by rw [hX]; exact bel3 _ _ _ _
  have hbx : Bx X w.heap.size d r s := by rw [hX]; exact ((Bx.mk' w d r s _).alloc _).alloc _
  have hgx : Gx X (w.heap.size + 1) o ix (.slice a la ca) := by
    rw [hX, show w.heap.size + 1 = (w.alloc (.cells #[.int .i64 d, .int .i64 r, .int .i64 s] 33 (0, 0))).heap.size by simp]
    exact (Gx.mk' _ o ix _ _).next ((Below.refl _ _).alloc (Nat.le_refl _) _)
  have hm4 : M4 X (w.heap.size + 1 + 1) 0 0 0 0 := by
    rw [hX, show w.heap.size + 1 + 1 = ((w.alloc (.cells #[.int .i64 d, .int .i64 r, .int .i64 s] 33 (0, 0))).alloc (.cells #[.int .i64 o, .int .i64 ix, .slice a la ca] 65 (0, 0))).heap.size by simp]
    exact M4.mk' _ 0 0 0 0 _
  have HT := Lib.hid (htd X hB)
  have HX := Lib.hid hx
  obtain ⟨g, hg⟩ : ∃ g, g = w.heap.size := ⟨_, rfl⟩
  obtain ⟨g1, hg1⟩ : ∃ k, k = w.heap.size + 1 := ⟨_, rfl⟩
  obtain ⟨g2, hg2⟩ : ∃ k, k = w.heap.size + 1 + 1 := ⟨_, rfl⟩
  have HL : Hid (w.heap.size ≤ g2) := Lib.hid (by omega)
  rw [← hg] at hbx
  rw [← hg1] at hgx
  rw [← hg2] at hm4
  have HA := Lib.hid (And.intro hB (And.intro hbx (And.intro hgx hm4)))
  have y0 := hgx.c0
  have y1 := hgx.c1
  have y2 := hgx.c2
  have HPS := Lib.hid hps
  unfold umv at HT HPS
  clear htd hps hB hbx hgx hm4 hc hi hnn ht hx hok
  go_enter Tryz.func25, Tryz.ntmps25
  go_wp2_with (fail)
  rw [← hX, ← hg2, ← hg1, ← hg]
  clear hX hg hg1 hg2
  refine HT.out.mono ?_
  rintro e w2 ⟨rfl, hb2⟩
  have hb2a := hb2.alloc hb2.size (.cells #[.int .i64 c, .int .i64 i, .int .i64 n, .int .i64 t] 57 (0, 0))
  have HA3 := Lib.hid (And.intro (HA.out.1.trans (hb2a.mono HA.out.1.size)) (And.intro (HA.out.2.1.next hb2a) (And.intro (HA.out.2.2.1.next hb2a) (HA.out.2.2.2.next hb2a))))
  have hbx2 := HA.out.2.1.next hb2
  have z0 := hbx2.c0
  have z1 := hbx2.c1
  have z2 := hbx2.c2
  have zl := hbx2.lt
  have HM := Lib.hid (M4.mk' w2 c i n t 57)
  clear hb2 hb2a hbx2 HA HT y0 y1 y2
  go_wp2_with (fail)
  refine (HPS.out _).mono ?_
  rintro e w4 ⟨q, rfl, hq, hql, hb4⟩
  have hb4' := HA3.out.1.trans (hb4.mono HA3.out.1.size)
  have hgx := HA3.out.2.2.1.next hb4
  have hm4 := HA3.out.2.2.2.next hb4
  have hms := HM.out.next hb4
  have HA4 := Lib.hid (And.intro hb4' (And.intro hgx (And.intro hm4 hms)))
  have y0 := hgx.c0
  have y1 := hgx.c1
  have y2 := hgx.c2
  have yl := hgx.lt
  have r0 := hm4.c0
  have r1 := hm4.c1
  have r2 := hm4.c2
  have r3 := hm4.c3
  have q0 := hm4.f0
  have q1 := hm4.f1
  have q2 := hm4.f2
  have q3 := hm4.f3
  have rl := hm4.lt
  have heq := equal_any a (some ⟨q, 0, none⟩) la ca 56 56 x (sumL c i n t) (w4.alloc (.cells #[.int .i64 65535, .int .i64 0, .slice (some ⟨q, 0, none⟩) 56 56] 65 (0, 0))) ((HX.out.next hb4').alloc _) ((hq.bysn (sumL_small _ _ _ _) (sumL_len _ _ _ _)).alloc _)
  rw [hsame] at heq
  have HEQ := Lib.hid heq
  clear heq hsame
  clear hb4 hb4' hgx hm4 hms HA3 HM z0 z1 z2 zl HPS hq hql
  go_wp2_with (fail)
  refine HEQ.out.mono ?_
  rintro e w5 ⟨rfl, rfl⟩
  go_wp2_with (fail)
  have e0 := (HA4.out.2.2.1.set 0 0 0 0).next ((Below.refl _ _).alloc (Nat.le_refl _) (.cells #[.int .i64 65535, .int .i64 0, .slice (some ⟨q, 0, none⟩) 56 56] 65 (0, 0)))
  have e1 := HA4.out.1.set4 (p := 0) (q := 0) (r := 0) (s := 0) HL.out
  have e2 := e1.alloc e1.size (.cells #[.int .i64 65535, .int .i64 0, .slice (some ⟨q, 0, none⟩) 56 56] 65 (0, 0))
  have k0 := e0.c0
  have k1 := e0.c1
  have k2 := e0.c2
  have k3 := e0.c3
  unfold set4 at k0 k1 k2 k3
  exact bodyPost_ret (v := .tuple #[.agg #[.int .i64 0, .int .i64 0, .int .i64 0, .int .i64 0], .bool false]) (by simp [results, Tryz.results25, go_sem, k0, k1, k2, k3]) rfl ⟨rfl, e2⟩
set_option maxRecDepth 100000 in
set_option maxHeartbeats 4000000 in
theorem getSum_yes (d r s o ix : Int) (a : Option Addr) (la ca : Nat) (x : List Int) (w : World) (hx : Bys w a la x) (hn : la ≤ 1000000000000) (c i n t : Int) (hc : c = tv la x 1) (hi : i = tv la x 2) (hnn : n = tv la x 3) (ht : t = tv la x 4) (hok : sumO d r s c i n t = true) (h1 : (o != 65535) = false) (h2 : (ix != 0) = false) (hsame : sameB x (sumL c i n t) = true) :
    Calls Tryz.prog 25 #[gv d r s, .agg #[.int .i64 o, .int .i64 ix, .slice a la ca]] w (GsmPost w true c i n t) := by
  have htd := fun W hB => told_any a la ca x W (hx.next (w' := W) hB) hn
  rw [← hc, ← hi, ← hnn, ← ht] at htd
  have hps := putSum_any d r s c i n t
  rw [hok] at hps
  obtain ⟨X, hX⟩ : ∃ X, X = ((w.alloc (.cells #[.int .i64 d, .int .i64 r, .int .i64 s] 33 (0, 0))).alloc (.cells #[.int .i64 o, .int .i64 ix, .slice a la ca] 65 (0, 0))).alloc (.cells #[.int .i64 0, .int .i64 0, .int .i64 0, .int .i64 0] 57 (0, 0)) := ⟨_, rfl⟩
  have hB : Below w.heap.size w X := by rw [hX]; exact bel3 _ _ _ _
  have hbx : Bx X w.heap.size d r s := by rw [hX]; exact ((Bx.mk' w d r s _).alloc _).alloc _
  have hgx : Gx X (w.heap.size + 1) o ix (.slice a la ca) := by
    rw [hX, show w.heap.size + 1 = (w.alloc (.cells #[.int .i64 d, .int .i64 r, .int .i64 s] 33 (0, 0))).heap.size by simp]
    exact (Gx.mk' _ o ix _ _).next ((Below.refl _ _).alloc (Nat.le_refl _) _)
  have hm4 : M4 X (w.heap.size + 1 + 1) 0 0 0 0 := by
    rw [hX, show w.heap.size + 1 + 1 = ((w.alloc (.cells #[.int .i64 d, .int .i64 r, .int .i64 s] 33 (0, 0))).alloc (.cells #[.int .i64 o, .int .i64 ix, .slice a la ca] 65 (0, 0))).heap.size by simp]
    exact M4.mk' _ 0 0 0 0 _
  have HT := Lib.hid (htd X hB)
  have HX := Lib.hid hx
  obtain ⟨g, hg⟩ : ∃ g, g = w.heap.size := ⟨_, rfl⟩
  obtain ⟨g1, hg1⟩ : ∃ k, k = w.heap.size + 1 := ⟨_, rfl⟩
  obtain ⟨g2, hg2⟩ : ∃ k, k = w.heap.size + 1 + 1 := ⟨_, rfl⟩
  have HL : Hid (w.heap.size ≤ g2) := Lib.hid (by omega)
  rw [← hg] at hbx
  rw [← hg1] at hgx
  rw [← hg2] at hm4
  have HA := Lib.hid (And.intro hB (And.intro hbx (And.intro hgx hm4)))
  have y0 := hgx.c0
  have y1 := hgx.c1
  have y2 := hgx.c2
  have HPS := Lib.hid hps
  unfold umv at HT HPS
  clear htd hps hB hbx hgx hm4 hc hi hnn ht hx hok
  go_enter Tryz.func25, Tryz.ntmps25
  go_wp2_with (fail)
  rw [← hX, ← hg2, ← hg1, ← hg]
  clear hX hg hg1 hg2
  refine HT.out.mono ?_
  rintro e w2 ⟨rfl, hb2⟩
  have hb2a := hb2.alloc hb2.size (.cells #[.int .i64 c, .int .i64 i, .int .i64 n, .int .i64 t] 57 (0, 0))
  have HA3 := Lib.hid (And.intro (HA.out.1.trans (hb2a.mono HA.out.1.size)) (And.intro (HA.out.2.1.next hb2a) (And.intro (HA.out.2.2.1.next hb2a) (HA.out.2.2.2.next hb2a))))
  have hbx2 := HA.out.2.1.next hb2
  have z0 := hbx2.c0
  have z1 := hbx2.c1
  have z2 := hbx2.c2
  have zl := hbx2.lt
  have HM := Lib.hid (M4.mk' w2 c i n t 57)
  clear hb2 hb2a hbx2 HA HT y0 y1 y2
  go_wp2_with (fail)
  refine (HPS.out _).mono ?_
  rintro e w4 ⟨q, rfl, hq, hql, hb4⟩
  have hb4' := HA3.out.1.trans (hb4.mono HA3.out.1.size)
  have hgx := HA3.out.2.2.1.next hb4
  have hm4 := HA3.out.2.2.2.next hb4
  have hms := HM.out.next hb4
  have HA4 := Lib.hid (And.intro hb4' (And.intro hgx (And.intro hm4 hms)))
  have y0 := hgx.c0
  have y1 := hgx.c1
  have y2 := hgx.c2
  have yl := hgx.lt
  have r0 := hm4.c0
  have r1 := hm4.c1
  have r2 := hm4.c2
  have r3 := hm4.c3
  have q0 := hm4.f0
  have q1 := hm4.f1
  have q2 := hm4.f2
  have q3 := hm4.f3
  have rl := hm4.lt
  have s0 := hms.c0
  have s1 := hms.c1
  have s2 := hms.c2
  have s3 := hms.c3
  have sl := hms.lt
  have heq := equal_any a (some ⟨q, 0, none⟩) la ca 56 56 x (sumL c i n t) (w4.alloc (.cells #[.int .i64 65535, .int .i64 0, .slice (some ⟨q, 0, none⟩) 56 56] 65 (0, 0))) ((HX.out.next hb4').alloc _) ((hq.bysn (sumL_small _ _ _ _) (sumL_len _ _ _ _)).alloc _)
  rw [hsame] at heq
  have HEQ := Lib.hid heq
  clear heq hsame
  clear hb4 hb4' hgx hm4 hms HA3 HM z0 z1 z2 zl HPS hq hql
  go_wp2_with (fail)
  refine HEQ.out.mono ?_
  rintro e w5 ⟨rfl, rfl⟩
  go_wp2_with (fail)
  have e0 := (HA4.out.2.2.1.set c i n t).next ((Below.refl _ _).alloc (Nat.le_refl _) (.cells #[.int .i64 65535, .int .i64 0, .slice (some ⟨q, 0, none⟩) 56 56] 65 (0, 0)))
  have e1 := HA4.out.1.set4 (p := c) (q := i) (r := n) (s := t) HL.out
  have e2 := e1.alloc e1.size (.cells #[.int .i64 65535, .int .i64 0, .slice (some ⟨q, 0, none⟩) 56 56] 65 (0, 0))
  have k0 := e0.c0
  have k1 := e0.c1
  have k2 := e0.c2
  have k3 := e0.c3
  unfold set4 at k0 k1 k2 k3
  exact bodyPost_ret (v := .tuple #[.agg #[.int .i64 c, .int .i64 i, .int .i64 n, .int .i64 t], .bool true]) (by simp [results, Tryz.results25, go_sem, k0, k1, k2, k3]) rfl ⟨rfl, e2⟩
end Go.Proofs.YtegmeoghonolcaaGreat
