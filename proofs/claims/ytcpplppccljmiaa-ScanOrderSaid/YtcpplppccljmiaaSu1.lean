/-
  Summaries: the program's payload, PutSummary, told and GetSummary, by contract.
-/
import Derived.Test.YtcpplppccljmiaaSuA
import Derived.Test.YtcpplppccljmiaaFun
import Derived.Test.YtcpplppccljmiaaLib
import Derived.Test.YtcpplppccljmiaaPc
namespace Go.Proofs.Ytcpplppccljmiaa
open Go.RowKit
set_option linter.unusedVariables false

/-- What the numbers of a right summary are. -/
structure SumR (d r s c i n t : Int) : Prop where
  rt : Rt d r s
  c1 : 1 ≤ c
  c2 : c ≤ s
  i0 : 0 ≤ i
  i1 : i < c
  n0 : 0 ≤ n
  n1 : n ≤ PL d r
  root : rootO d r s c i t = true
/-- Is a summary right? -/
noncomputable def sumO (d r s c i n t : Int) : Bool := @decide (SumR d r s c i n t) (Classical.propDecidable _)
theorem sumO_yes {d r s c i n t : Int} (h : SumR d r s c i n t) : sumO d r s c i n t = true := by
  unfold sumO
  exact @decide_eq_true _ (Classical.propDecidable _) h
theorem sumO_no {d r s c i n t : Int} (h : ¬ SumR d r s c i n t) : sumO d r s c i n t = false := by
  unfold sumO
  exact @decide_eq_false _ (Classical.propDecidable _) h
theorem sumO_of {d r s c i n t : Int} (h : sumO d r s c i n t = true) : SumR d r s c i n t := by
  unfold sumO at h
  exact @of_decide_eq_true _ (Classical.propDecidable _) h
theorem SumR.small {d r s c i n t : Int} (h : SumR d r s c i n t) : (0 ≤ c ∧ c < 65536) ∧ (0 ≤ i ∧ i < 65536) ∧ (0 ≤ n ∧ n < 65536) ∧ (0 ≤ t ∧ t < 65536) := by
  obtain ⟨h1, h2, h3, h4, h5, h6, h7, h8⟩ := h
  obtain ⟨p1, p2, _⟩ := PL_bd h1.d1 h1.d2 h1.r1 h1.r2
  obtain ⟨m1, m2⟩ := sp_bd h1
  have s2 := h1.s2
  unfold rootO at h8
  split at h8
  · have := of_decide_eq_true h8; omega
  · have := of_decide_eq_true h8; omega

theorem isRight_any (d r s c i n t : Int) (w : World) :
    Calls Try.prog 15 #[gv d r s, umv c i n t] w fun e w' => e = .returned (.bool (sumO d r s c i n t)) ∧ Below w.heap.size w w' := by
  by_cases h0 : Rt d r s
  · by_cases h1 : 1 ≤ c
    · by_cases h2 : c ≤ s
      · by_cases h3 : 0 ≤ i
        · by_cases h4 : i < c
          · by_cases h5 : 0 ≤ n
            · by_cases h6 : n ≤ PL d r
              · have e : sumO d r s c i n t = rootO d r s c i t := by
                  cases hr : rootO d r s c i t with
                  | true => exact sumO_yes ⟨h0, h1, h2, h3, h4, h5, h6, hr⟩
                  | false => exact sumO_no fun h => by have h' := h.root; rw [hr] at h'; cases h'
                rw [e]
                exact isRight_7 d r s c i n t w h0 h1 h2 h3 h4 h5 h6 _ (fun w => isRoot_any d r s c i n t w h0 h1 h2)
              · rw [sumO_no fun h => h6 h.n1]; exact isRight_6 d r s c i n t w h0 h1 h2 h3 h4 h5 h6
            · rw [sumO_no fun h => h5 h.n0]; exact isRight_5 d r s c i n t w h0 h1 h2 h3 h4 h5
          · rw [sumO_no fun h => h4 h.i1]; exact isRight_4 d r s c i n t w h0 h1 h2 h3 h4
        · rw [sumO_no fun h => h3 h.i0]; exact isRight_3 d r s c i n t w h0 h1 h2 h3
      · rw [sumO_no fun h => h2 h.c2]; exact isRight_2 d r s c i n t w h0 h1 h2
    · rw [sumO_no fun h => h1 h.c1]; exact isRight_1 d r s c i n t w h0 h1
  · rw [sumO_no fun h => h0 h.rt]; exact isRight_0 d r s c i n t w h0

/-- A summary's numbers, as bytes; with noughts behind. -/
def sumN (c i n t : Int) : List Int := digs 2 21331 ++ digs 2 c ++ digs 2 i ++ digs 2 n ++ digs 2 t
def sumL (c i n t : Int) : List Int := padL (sumN c i n t) 56
theorem sumN_len (c i n t : Int) : (sumN c i n t).length = 10 := by simp [sumN, digs_len]
theorem sumN_small (c i n t : Int) : AllB (sumN c i n t) := ((((digs_small _ _).app (digs_small _ _)).app (digs_small _ _)).app (digs_small _ _)).app (digs_small _ _)
theorem sumL_len (c i n t : Int) : (sumL c i n t).length = 56 := padL_len (by rw [sumN_len]; omega)
theorem sumL_small (c i n t : Int) : AllB (sumL c i n t) := padL_small (sumN_small _ _ _ _) _
theorem hasW2 {n : Int} (h : 0 ≤ n ∧ n < 65536) : hasW n 2 = true := by unfold hasW; rw [decide_eq_true_eq]; exact h
/-- A whole payload that is new. -/
def PyPost (w : World) (zs : List Int) (e : Ending) (w' : World) : Prop := ∃ g, e = .returned (.slice (some ⟨g, 0, none⟩) 56 56) ∧ Blk w' g zs ∧ w.heap.size ≤ g ∧ Below w.heap.size w w'

set_option maxRecDepth 100000 in
set_option maxHeartbeats 4000000 in
theorem payload_any (c i n t : Int) (w : World) (hc : 0 ≤ c ∧ c < 65536) (hi : 0 ≤ i ∧ i < 65536) (hn : 0 ≤ n ∧ n < 65536) (ht : 0 ≤ t ∧ t < 65536) :
    Calls Try.prog 16 #[umv c i n t] w (PyPost w (sumL c i n t)) := by
  have p0 := fun W => put_yes 2 21331 W (by omega) (by omega) (hasW2 (by omega))
  have p1 := fun W => put_yes 2 c W (by omega) (by omega) (hasW2 hc)
  have p2 := fun W => put_yes 2 i W (by omega) (by omega) (hasW2 hi)
  have p3 := fun W => put_yes 2 n W (by omega) (by omega) (hasW2 hn)
  have p4 := fun W => put_yes 2 t W (by omega) (by omega) (hasW2 ht)
  have HP := Lib.hid (And.intro p0 (And.intro p1 (And.intro p2 (And.intro p3 p4))))
  have hb0 : Below w.heap.size w (w.alloc (.cells #[.int .i64 c, .int .i64 i, .int .i64 n, .int .i64 t] 25 (0, 0))) := (Below.refl _ _).alloc (Nat.le_refl _) _
  have HB0 := Lib.hid hb0
  clear p0 p1 p2 p3 p4 hc hi hn ht hb0
  unfold umv
  go_enter Try.func16, Try.ntmps16
  go_wp2_with (fail)
  obtain ⟨W0, hW0⟩ : ∃ W0, W0 = w.alloc (.cells #[.int .i64 c, .int .i64 i, .int .i64 n, .int .i64 t] 25 (0, 0)) := ⟨_, rfl⟩
  rw [← hW0] at HB0 ⊢
  clear hW0
  have hix : ∀ (w : World) (c i n t : Int), (Instr.index 70 (.agg #[.int .i64 21331, .int .i64 c, .int .i64 i, .int .i64 n, .int .i64 t]) (.int .i64 0)).run Try.prog w = .ok (.int .i64 21331) w := fun _ _ _ _ _ => by kernel_rfl
  have hix1 : ∀ (w : World) (c i n t : Int), (Instr.index 70 (.agg #[.int .i64 21331, .int .i64 c, .int .i64 i, .int .i64 n, .int .i64 t]) (.int .i64 1)).run Try.prog w = .ok (.int .i64 c) w := fun _ _ _ _ _ => by kernel_rfl
  have hix2 : ∀ (w : World) (c i n t : Int), (Instr.index 70 (.agg #[.int .i64 21331, .int .i64 c, .int .i64 i, .int .i64 n, .int .i64 t]) (.int .i64 2)).run Try.prog w = .ok (.int .i64 i) w := fun _ _ _ _ _ => by kernel_rfl
  have hix3 : ∀ (w : World) (c i n t : Int), (Instr.index 70 (.agg #[.int .i64 21331, .int .i64 c, .int .i64 i, .int .i64 n, .int .i64 t]) (.int .i64 3)).run Try.prog w = .ok (.int .i64 n) w := fun _ _ _ _ _ => by kernel_rfl
  have hix4 : ∀ (w : World) (c i n t : Int), (Instr.index 70 (.agg #[.int .i64 21331, .int .i64 c, .int .i64 i, .int .i64 n, .int .i64 t]) (.int .i64 4)).run Try.prog w = .ok (.int .i64 t) w := fun _ _ _ _ _ => by kernel_rfl
  have hown : Own W0 W0.heap.size (.slice none 0 0) 0 [] := ⟨World.ownsRow_nil _ _ _ _, fun z hz => by cases hz⟩
  have HO := Lib.hid hown
  have HC := Lib.hid (Below.refl W0.heap.size W0)
  clear hown
  refine wp_loop_rounds 6 ?_
  rw [rounds_succ]
  go_wp2_with (fail)
  refine (HP.out.1 _).mono ?_
  rintro e w0a ⟨rfl, hb0a, hl0a⟩
  have ho0 := HO.out.below (Nat.le_refl _) hl0a
  have hy0 := hb0a.bysn (digs_small _ _) (digs_len 2 21331)
  have hs0 : W0.heap.size ≤ w0a.heap.size := Nat.le_trans HC.out.size hl0a.size
  have hm0 := HC.out.trans (hl0a.mono HC.out.size)
  clear HO HC hl0a hb0a
  go_wp2_with (at_builtin; go_must (refine wpList_ap rfl (.tmp 18) (.tmp 20) rfl W0.heap.size _ 0 _ rfl ho0 (some ⟨W0.heap.size, 0, none⟩) 2 2 _ rfl hy0 (fun h => by cases h) (by omega) hs0 W0 hm0 ?_); intro v0 w0 o0 b0; obtain ⟨a0, c0, rfl, _⟩ := o0.form; have HO := Lib.hid o0; have HC := Lib.hid b0; clear o0 b0 ho0 hy0 hs0 hm0)
  rw [rounds_succ]
  go_wp2_with (fail)
  refine (HP.out.2.1 _).mono ?_
  rintro e w1a ⟨rfl, hb1a, hl1a⟩
  have ho1 := HO.out.below (Nat.le_refl _) hl1a
  have hy1 := hb1a.bysn (digs_small _ _) (digs_len 2 c)
  have hs1 : W0.heap.size ≤ w1a.heap.size := Nat.le_trans HC.out.size hl1a.size
  have hm1 := HC.out.trans (hl1a.mono HC.out.size)
  clear HO HC hl1a hb1a
  go_wp2_with (at_builtin; go_must (refine wpList_ap rfl (.tmp 18) (.tmp 20) rfl W0.heap.size _ 2 _ rfl ho1 (some ⟨w0.heap.size, 0, none⟩) 2 2 _ rfl hy1 (fun h => by cases h) (by omega) hs1 W0 hm1 ?_); intro v1 w1 o1 b1; obtain ⟨a1, c1, rfl, _⟩ := o1.form; have HO := Lib.hid o1; have HC := Lib.hid b1; clear o1 b1 ho1 hy1 hs1 hm1)
  rw [rounds_succ]
  go_wp2_with (fail)
  refine (HP.out.2.2.1 _).mono ?_
  rintro e w2a ⟨rfl, hb2a, hl2a⟩
  have ho2 := HO.out.below (Nat.le_refl _) hl2a
  have hy2 := hb2a.bysn (digs_small _ _) (digs_len 2 i)
  have hs2 : W0.heap.size ≤ w2a.heap.size := Nat.le_trans HC.out.size hl2a.size
  have hm2 := HC.out.trans (hl2a.mono HC.out.size)
  clear HO HC hl2a hb2a
  go_wp2_with (at_builtin; go_must (refine wpList_ap rfl (.tmp 18) (.tmp 20) rfl W0.heap.size _ 4 _ rfl ho2 (some ⟨w1.heap.size, 0, none⟩) 2 2 _ rfl hy2 (fun h => by cases h) (by omega) hs2 W0 hm2 ?_); intro v2 w2 o2 b2; obtain ⟨a2, c2, rfl, _⟩ := o2.form; have HO := Lib.hid o2; have HC := Lib.hid b2; clear o2 b2 ho2 hy2 hs2 hm2)
  rw [rounds_succ]
  go_wp2_with (fail)
  refine (HP.out.2.2.2.1 _).mono ?_
  rintro e w3a ⟨rfl, hb3a, hl3a⟩
  have ho3 := HO.out.below (Nat.le_refl _) hl3a
  have hy3 := hb3a.bysn (digs_small _ _) (digs_len 2 n)
  have hs3 : W0.heap.size ≤ w3a.heap.size := Nat.le_trans HC.out.size hl3a.size
  have hm3 := HC.out.trans (hl3a.mono HC.out.size)
  clear HO HC hl3a hb3a
  go_wp2_with (at_builtin; go_must (refine wpList_ap rfl (.tmp 18) (.tmp 20) rfl W0.heap.size _ 6 _ rfl ho3 (some ⟨w2.heap.size, 0, none⟩) 2 2 _ rfl hy3 (fun h => by cases h) (by omega) hs3 W0 hm3 ?_); intro v3 w3 o3 b3; obtain ⟨a3, c3, rfl, _⟩ := o3.form; have HO := Lib.hid o3; have HC := Lib.hid b3; clear o3 b3 ho3 hy3 hs3 hm3)
  rw [rounds_succ]
  go_wp2_with (fail)
  refine (HP.out.2.2.2.2 _).mono ?_
  rintro e w4a ⟨rfl, hb4a, hl4a⟩
  have ho4 := HO.out.below (Nat.le_refl _) hl4a
  have hy4 := hb4a.bysn (digs_small _ _) (digs_len 2 t)
  have hs4 : W0.heap.size ≤ w4a.heap.size := Nat.le_trans HC.out.size hl4a.size
  have hm4 := HC.out.trans (hl4a.mono HC.out.size)
  clear HO HC hl4a hb4a
  go_wp2_with (at_builtin; go_must (refine wpList_ap rfl (.tmp 18) (.tmp 20) rfl W0.heap.size _ 8 _ rfl ho4 (some ⟨w3.heap.size, 0, none⟩) 2 2 _ rfl hy4 (fun h => by cases h) (by omega) hs4 W0 hm4 ?_); intro v4 w4 o4 b4; obtain ⟨a4, c4, rfl, _⟩ := o4.form; have HO := Lib.hid o4; have HC := Lib.hid b4; clear o4 b4 ho4 hy4 hs4 hm4)
  rw [rounds_succ]
  go_wp2_with (fail)
  have hz := (HO.out.pin)
  obtain ⟨a9, c9, e9, hp9, _⟩ := hz
  cases e9
  have hpad := pad_yes a4 10 c4 56 (sumN c i n t) w4 hp9.bys (by omega) (by omega)
  have HS4 : Hid (w.heap.size ≤ w4.heap.size) := Nat.le_trans HB0.out.size HC.out.size
  have HB4 := Lib.hid (HB0.out.trans (HC.out.mono HB0.out.size))
  clear hp9 HO HC
  refine hpad.mono ?_
  rintro e w5 ⟨rfl, hb5, hl5⟩
  have HF := Lib.hid (And.intro hb5 (HB4.out.trans (hl5.mono HB4.out.size)))
  clear hb5 hl5 hpad
  go_wp2_with (fail)
  go_ret
  exact ⟨_, rfl, HF.out.1, HS4.out, HF.out.2⟩
end Go.Proofs.Ytcpplppccljmiaa
