import Derived.Test.YtinholnidchblaaGreatDoorQar
import Derived.Deep.Cut
import Derived.BigQuiet
import Derived.Test.YtinholnidchblaaGreatDoorQam
import Derived.Test.YtinholnidchblaaGreatDoorQah
import Derived.Laws.BytesArg
set_option linter.unusedVariables false
set_option linter.unusedSimpArgs false
set_option maxRecDepth 100000
set_option maxHeartbeats 16000000
namespace Go.Proofs.YtinholnidchblaaGreatDoor
open Go.RowKit
def NodeOk (N : Nat) (x : Nd) : Prop := fileOk x ∧ 1 ≤ x.l ∧ x.l ≤ 200 ∨ dirOk N x
def NoB (w : World) (b : Nat) (x : Nc) : Prop := w.heap[b]? = some (.cells #[.int .i64 x.k, .int .i64 x.l, .slice x.da x.dn x.dc, .slice x.ea x.en x.ec] 54 (0, 0))
theorem NoB.cells {w : World} {b : Nat} {x : Nc} (h : NoB w b x) : w.cell? ⟨b, 0, none⟩ = some (.int .i64 x.k) ∧ w.cell? ⟨b, 1, none⟩ = some (.int .i64 x.l) ∧ w.cell? ⟨b, 2, none⟩ = some (.slice x.da x.dn x.dc) ∧ w.cell? ⟨b, 3, none⟩ = some (.slice x.ea x.en x.ec) := by
 unfold NoB at h
 refine ⟨?_, ?_, ?_, ?_⟩ <;> simp [World.cell?, h]
theorem NoB.next {w w' : World} {b : Nat} {x : Nc} (h : NoB w b x) (hb : Below w.heap.size w w') : NoB w' b x := (hb.block _ (lt_of_block h)).trans h
def EnOk (N : Nat) (E : List En) (j : Nat) : Prop := nmB (eat E j).s.data.toList = true ∧ 1 ≤ (eat E j).i ∧ (eat E j).i < N ∧ (0 < j → blt (eat E (j - 1)).s (eat E j).s = true)
theorem dirOk_of {N : Nat} {x : Nd} (h1 : x.k = 2) (h2 : x.d = []) (h3 : x.e.length ≤ 64) (h : ∀ j, j < x.e.length → EnOk N x.e j) : dirOk N x := by
 refine ⟨h1, h2, h3, fun y hy => ?_, (ris_iff _).2 fun j hj => ?_⟩
 ·obtain ⟨j, hj, rfl⟩ := List.getElem_of_mem hy
  have := h j hj
  have e : eat x.e j = x.e[j] := by simp [eat, List.getD, hj]
  unfold EnOk at this
  rw [e] at this
  exact ⟨this.1, this.2.1, this.2.2.1⟩
 ·exact (h (j + 1) hj).2.2.2 (by omega)
theorem enOk_of {N : Nat} {x : Nd} (h : dirOk N x) {j : Nat} (hj : j < x.e.length) : EnOk N x.e j := by
 have e : eat x.e j = x.e[j] := by simp [eat, List.getD, hj]
 have h1 := h.2.2.2.1 x.e[j] (List.getElem_mem hj)
 rw [← e] at h1
 refine ⟨h1.1, h1.2.1, h1.2.2, fun h0 => ?_⟩
 have := (ris_iff _).1 h.2.2.2.2 (j - 1) (by omega)
 rwa [show j - 1 + 1 = j by omega] at this
theorem no_of {N : Nat} {x : Nc} (hk : x.k ≠ 1) {j : Nat} (hj : j < x.e.length) (h : ¬ EnOk N x.e j) : ¬ NodeOk N x.nd := by
 rintro (⟨h1, _, _⟩ | h1)
 ·exact hk h1.1
 ·exact h (enOk_of h1 hj)
section
variable {w : World} {x : Nc} {N : Nat}
def NoPost (w : World) (N : Nat) (x : Nc) (e : Ending) (w' : World) : Prop := ∃ b, e = .returned (.bool b) ∧ (b = true ↔ NodeOk N x.nd) ∧ Below w.heap.size w w'
theorem node_any (hd : Pin w x.da x.dn x.dc x.d) (he : Enz w x.ea x.en x.ec x.e) (hdn : x.dn ≤ 1000000) (hen : x.en ≤ 1000000) (hN : N ≤ 56) :
  Calls Tryz.prog 52 #[.agg #[.int .i64 x.k, .int .i64 x.l, .slice x.da x.dn x.dc, .slice x.ea x.en x.ec], .int .i64 N] w (NoPost w N x) := by
 obtain ⟨k, l, da, dn, dc, d, ea, en, ec, e⟩ := x
 dsimp only at hd he hdn hen ⊢
 have hdl := hd.len
 have hel := he.ens.len
 have HDL := qH hdl
 have HEL := qH hel
 clear hdl hel
 have HB0 : Hid (Below w.heap.size w (w.alloc (.cells #[.int .i64 k, .int .i64 l, .slice da dn dc, .slice ea en ec] 54 (0, 0)))) := qH ((Below.refl _ _).alloc (Nat.le_refl _) _)
 have HE := qH he
 clear hd he
 by_cases hk1 : k = 1
 ·have b1 : (k == 1) = true := by simpa using hk1
  by_cases h1 : en = 0
  ·have c1 : ((en : Int) == 0) = true := by simp [h1]
   have hnil : e = [] := List.eq_nil_of_length_eq_zero (HEL.out.trans h1)
   by_cases h2 : dn ≤ 46368
   ·have c2 : (dn : Int) ≤ 46368 := by omega
    by_cases h3 : 1 ≤ l
    ·have c3 : decide (1 ≤ l) = true := decide_eq_true h3
     by_cases h4 : l ≤ 200
     ·have hok : Hid (NodeOk N (⟨k, l, da, dn, dc, d, ea, en, ec, e⟩ : Nc).nd) := qH (.inl ⟨⟨hk1, hnil, by show d.length ≤ 46368; rw [HDL.out]; exact h2⟩, h3, h4⟩)
      clear hk1 h1 h2 hnil
      go_enter Tryz.func52, Tryz.ntmps52
      go_wp2_with fail; go_ret
      exact ⟨true, rfl, by simp [hok.out], HB0.out⟩
     ·have hno : Hid (¬ NodeOk N (⟨k, l, da, dn, dc, d, ea, en, ec, e⟩ : Nc).nd) := qH (by rintro (⟨_, _, h⟩ | h); exact h4 h; exact absurd h.1 (by show k ≠ 2; omega))
      clear hk1 h1 h2 hnil
      go_enter Tryz.func52, Tryz.ntmps52
      go_wp2_with fail; go_ret
      exact ⟨false, rfl, by simp [hno.out], HB0.out⟩
    ·have hno : Hid (¬ NodeOk N (⟨k, l, da, dn, dc, d, ea, en, ec, e⟩ : Nc).nd) := qH (by rintro (⟨_, h, _⟩ | h); exact h3 h; exact absurd h.1 (by show k ≠ 2; omega))
     clear hk1 h1 h2 hnil
     go_enter Tryz.func52, Tryz.ntmps52
     go_wp2_with fail; go_ret
     exact ⟨false, rfl, by simp [hno.out], HB0.out⟩
   ·have c2 : ¬ (dn : Int) ≤ 46368 := by omega
    have hno : Hid (¬ NodeOk N (⟨k, l, da, dn, dc, d, ea, en, ec, e⟩ : Nc).nd) := qH (by rintro (⟨h, _, _⟩ | h); exact h2 (by have h9 : d.length ≤ 46368 := h.2.2; rw [HDL.out] at h9; exact h9); exact absurd h.1 (by show k ≠ 2; omega)); clear hk1 h1 h2 hnil
    go_enter Tryz.func52, Tryz.ntmps52
    go_wp2_with fail; go_ret
    exact ⟨false, rfl, by simp [hno.out], HB0.out⟩
  ·have c1 : ((en : Int) == 0) = false := by rw [beq_eq_false_iff_ne]; omega
   have hno : Hid (¬ NodeOk N (⟨k, l, da, dn, dc, d, ea, en, ec, e⟩ : Nc).nd) := qH (by rintro (⟨h, _, _⟩ | h); exact h1 (by have h9 : e = [] := h.2.1; rw [← HEL.out, h9]; rfl); exact absurd h.1 (by show k ≠ 2; omega)); clear hk1 h1
   go_enter Tryz.func52, Tryz.ntmps52
   go_wp2_with fail; go_ret
   exact ⟨false, rfl, by simp [hno.out], HB0.out⟩
 ·have b1 : (k == 1) = false := by simpa using hk1
  by_cases hk2 : k = 2
  ·have b2 : (k != 2) = false := by simpa using hk2
   by_cases h1 : dn = 0
   ·have c1 : decide ((0 : Int) < (dn : Int)) = false := decide_eq_false (by omega)
    have c1' : decide (0 < dn) = false := decide_eq_false (by omega); have hnil : d = [] := List.eq_nil_of_length_eq_zero (HDL.out.trans h1)
    by_cases h2 : 64 < en
    ·have c2 : (64 : Int) < (en : Int) := by omega
     have hno : Hid (¬ NodeOk N (⟨k, l, da, dn, dc, d, ea, en, ec, e⟩ : Nc).nd) := qH (by rintro (⟨h, _, _⟩ | h); exact hk1 h.1; exact absurd h.2.2.1 (by show ¬ e.length ≤ 64; rw [HEL.out]; omega)); clear hk1 hk2 h1 h2 hnil
     go_enter Tryz.func52, Tryz.ntmps52
     go_wp2_with fail; go_ret
     exact ⟨false, rfl, by simp [hno.out], HB0.out⟩
    ·have c2 : ¬ (64 : Int) < (en : Int) := by omega
     obtain ⟨w1, hw1⟩ : ∃ w1, w1 = w.alloc (.cells #[.int .i64 k, .int .i64 l, .slice da dn dc, .slice ea en ec] 54 (0, 0)) := ⟨_, rfl⟩
     obtain ⟨q, hq⟩ : ∃ q, q = w.heap.size := ⟨_, rfl⟩
     have hX : NoB w1 q ⟨k, l, da, dn, dc, d, ea, en, ec, e⟩ := by unfold NoB; rw [hw1, hq]; exact heap_alloc_new w _
     have HX := qH hX; have HW := qH hw1; have HQ := qH hq; rw [← hw1] at HB0; have HOK := qH (And.intro hk2 (And.intro hnil (show e.length ≤ 64 by rw [HEL.out]; omega))); have HK1 := qH hk1
     obtain ⟨PX, hPX⟩ : ∃ PX : Prop, PX = NodeOk N (⟨k, l, da, dn, dc, d, ea, en, ec, e⟩ : Nc).nd := ⟨_, rfl⟩
     have HPX := qH hPX; clear hPX; clear hX hw1 hq hk2 hnil h1 h2 hk1
     go_enter Tryz.func52, Tryz.ntmps52
     go_wp2_with fail; rw [← HW.out, ← HQ.out]; clear HW HQ
     go_loopw [5, 6] (fun v5 _ wr => ∃ i : Nat, i ≤ en ∧ v5 = .int .i64 i ∧ Below w1.heap.size w1 wr ∧ ∀ j, j < i → EnOk N e j) (fun v5 _ _ => en - (RowKit.intOf v5).toNat)
     case atStart => exact ⟨0, Nat.zero_le _, rfl, Below.refl _ _, fun j hj => absurd hj (Nat.not_lt_zero j)⟩
     case round =>
      obtain ⟨i, hi, rfl, hB, hall⟩ := hrel; have HB := qH hB; have HALL := qH hall; obtain ⟨n0, n1, n2, n3⟩ := (HX.out.next hB).cells; dsimp only at n0 n1 n2 n3; clear n0 n1 n2 hall
      by_cases hlt : i < en
      ·have HLT := qH hlt
       have i0 : (0 : Int) ≤ (i : Int) := by omega
       have i1 : (i : Int) < (en : Int) := by omega
       have hens := (HE.out.ens.next HB0.out).next hB; obtain ⟨b2, off2, he2, hbl2, e1, e2⟩ := hens.at (i := i) (by exact hlt); subst he2
       obtain ⟨s, hs⟩ : ∃ s, s = (eat e i).s := ⟨_, rfl⟩
       obtain ⟨z, hz⟩ : ∃ z, z = (eat e i).i := ⟨_, rfl⟩
       rw [← hs] at e1; rw [← hz] at e2; have HSZ := qH (And.intro hs hz)
       obtain ⟨q2, hq2⟩ : ∃ q2, q2 = wr.heap.size := ⟨_, rfl⟩
       obtain ⟨w3, hw3⟩ : ∃ w3, w3 = wr.alloc (.cells #[.string s, .int .i64 z] 77 (0, 0)) := ⟨_, rfl⟩
       have hb3 : Below wr.heap.size wr w3 := by rw [hw3]; exact (Below.refl _ _).alloc (Nat.le_refl _) _
       have hr3 : w3.heap[q2]? = some (.cells #[.string s, .int .i64 z] 77 (0, 0)) := by rw [hw3, hq2]; exact heap_alloc_new wr _
       have t0 : w3.cell? ⟨q2, 0, none⟩ = some (.string s) := by simp [World.cell?, hr3]
       have t1 : w3.cell? ⟨q2, 1, none⟩ = some (.int .i64 z) := by simp [World.cell?, hr3]
       have hB3 : Below w1.heap.size w1 w3 := hB.trans (hb3.mono hB.size); have HB3 := qH hB3; obtain ⟨m0, m1, m2, m3⟩ := (HX.out.next hB3).cells; dsimp only at m0 m1 m2 m3; have hbl3 := Nat.lt_of_lt_of_le hbl2 (Nat.le_refl _); have hens3 := hens.next hb3; have HW3 := qH (And.intro hw3 hq2); clear m0 m1 m2 hB hb3 hr3 hB3 hs hz hw3 hq2 hens hbl3 hbl2
       go_upto_region 9 with fail
       rw [← HW3.out.1, ← HW3.out.2]; clear n3 e1 e2 HW3
       have hnm := fun w' : World => rname_any s w'
       by_cases g1 : nmB s.data.toList = true
       ·have HNM : Hid (∀ w', Calls Tryz.prog 89 #[.string s] w' fun e w'' => e = .returned (.bool true) ∧ w'' = w') := qH (by rw [g1] at hnm; exact hnm)
        clear hnm
        by_cases g2 : z < 1
        ·have hno : Hid (¬ PX) := qH (by rw [HPX.out]; exact no_of HK1.out (by show i < e.length; rw [HEL.out]; exact HLT.out) (fun h => by have h9 := h.2.1; rw [← HSZ.out.2] at h9; omega))
         go_quiet ((go_at_call 89; exact Calls.quiet_of_same (HNM.out _)))
         go_wp2_with fail; go_ret
         exact ⟨false, rfl, by rw [← HPX.out]; simp [hno.out], HB0.out.trans ((below_drewN HB3.out nq).mono HB0.out.size)⟩
        ·by_cases g3 : (N : Int) ≤ z
         ·have hno : Hid (¬ PX) := qH (by rw [HPX.out]; exact no_of HK1.out (by show i < e.length; rw [HEL.out]; exact HLT.out) (fun h => by have h9 := h.2.2.1; rw [← HSZ.out.2] at h9; omega))
          go_quiet ((go_at_call 89; exact Calls.quiet_of_same (HNM.out _)))
          go_wp2_with fail; go_ret
          exact ⟨false, rfl, by rw [← HPX.out]; simp [hno.out], HB0.out.trans ((below_drewN HB3.out nq).mono HB0.out.size)⟩
         ·by_cases g4 : 0 < i
          ·have i2 : decide ((0 : Int) < (i : Int)) = true := decide_eq_true (by omega)
           have i3 : decide (0 < i) = true := decide_eq_true (by omega)
           obtain ⟨m, hm⟩ : ∃ m, i = m + 1 := ⟨i - 1, by omega⟩
           have im : (0 : Int) ≤ (m : Int) := by omega
           have im2 : (m : Int) < (en : Int) := by omega
           have hw1 : wrap64 ((i : Int) - 1) = (m : Int) := by rw [show (i : Int) - 1 = (m : Int) by omega]; unfold wrap64; omega
           have hw2 : IntKind.i64.wrap ((i : Int) - 1) = (m : Int) := by rw [show (i : Int) - 1 = (m : Int) by omega]; exact IntWalk.i64_in _ (by omega)
           obtain ⟨b4, off4, he4, _, p1, p2⟩ := hens3.at (i := m) (by omega)
           cases he4
           clear p2
           cases hbt : Op.bytesLess (eat e m).s.toList s.toList with
           | true =>
            have HGO : Hid (∀ j, j < i + 1 → EnOk N e j) := qH (by
             intro j hj
             by_cases h : j = i
             ·subst h
              refine ⟨by rw [← HSZ.out.1]; exact g1, by rw [← HSZ.out.2]; omega, by rw [← HSZ.out.2]; omega, fun _ => ?_⟩; rw [show j - 1 = m by omega, ← HSZ.out.1]
              exact hbt
             ·exact HALL.out j (by omega))
            clear hm g4
            go_quiet ((go_at_call 89; exact Calls.quiet_of_same (HNM.out _)))
            go_wp2_with fail
            go_roundw
            case rel => exact ⟨i + 1, HLT.out, by go_num, below_drewN HB3.out nq, HGO.out⟩
            case measure => have := HLT.out; simp [RowKit.intOf]; omega
           | false =>
            have hno : Hid (¬ PX) := qH (by rw [HPX.out]; exact no_of HK1.out (by show i < e.length; rw [HEL.out]; exact HLT.out) (fun h => by
             have h9 := h.2.2.2 g4; rw [show i - 1 = m by omega, ← HSZ.out.1] at h9; have h8 : Op.bytesLess (eat e m).s.toList s.toList = true := h9
             rw [hbt] at h8; cases h8))
            clear hm g4
            go_quiet ((go_at_call 89; exact Calls.quiet_of_same (HNM.out _)))
            go_wp2_with fail; go_ret
            exact ⟨false, rfl, by rw [← HPX.out]; simp [hno.out], HB0.out.trans ((below_drewN HB3.out nq).mono HB0.out.size)⟩
          ·have i2 : decide ((0 : Int) < (i : Int)) = false := decide_eq_false (by omega)
           have i3 : decide (0 < i) = false := decide_eq_false (by omega)
           have HGO : Hid (∀ j, j < i + 1 → EnOk N e j) := qH (by
            intro j hj
            have h : j = i := by omega
            subst h
            exact ⟨by rw [← HSZ.out.1]; exact g1, by rw [← HSZ.out.2]; omega, by rw [← HSZ.out.2]; omega, fun h => absurd h g4⟩)
           clear g4
           go_quiet ((go_at_call 89; exact Calls.quiet_of_same (HNM.out _)))
           go_wp2_with fail
           go_roundw
           case rel => exact ⟨i + 1, HLT.out, by go_num, below_drewN HB3.out nq, HGO.out⟩
           case measure => have := HLT.out; simp [RowKit.intOf]; omega
       ·have g1' : nmB s.data.toList = false := by simpa using g1
        have HNM : Hid (∀ w', Calls Tryz.prog 89 #[.string s] w' fun e w'' => e = .returned (.bool false) ∧ w'' = w') := qH (by rw [g1'] at hnm; exact hnm); clear hnm; have hno : Hid (¬ PX) := qH (by rw [HPX.out]; exact no_of HK1.out (by show i < e.length; rw [HEL.out]; exact HLT.out) (fun h => by have h9 := h.1; rw [← HSZ.out.1] at h9; exact g1 h9))
        go_quiet ((go_at_call 89; exact Calls.quiet_of_same (HNM.out _)))
        go_wp2_with fail; go_ret
        exact ⟨false, rfl, by rw [← HPX.out]; simp [hno.out], HB0.out.trans ((below_drewN HB3.out nq).mono HB0.out.size)⟩
      ·have hie : i = en := by omega
       have hok : Hid PX := qH (by rw [HPX.out]; exact .inr (dirOk_of HOK.out.1 HOK.out.2.1 HOK.out.2.2 (by show ∀ j, j < e.length → EnOk N e j; rw [HEL.out, ← hie]; exact HALL.out))); clear hB hie; go_wp2_with fail; go_ret
       exact ⟨true, rfl, by rw [← HPX.out]; simp [hok.out], HB0.out.trans (HB.out.mono HB0.out.size)⟩
   ·have c1 : (0 : Int) < (dn : Int) := by omega
    have hno : Hid (¬ NodeOk N (⟨k, l, da, dn, dc, d, ea, en, ec, e⟩ : Nc).nd) := qH (by rintro (⟨h, _, _⟩ | h); exact hk1 h.1; exact h1 (by have h9 : d = [] := h.2.1; rw [← HDL.out, h9]; rfl)); clear hk1 hk2 h1
    go_enter Tryz.func52, Tryz.ntmps52
    go_wp2_with fail; go_ret
    exact ⟨false, rfl, by simp [hno.out], HB0.out⟩
  ·have b2 : (k != 2) = true := by simpa using hk2
   have hno : Hid (¬ NodeOk N (⟨k, l, da, dn, dc, d, ea, en, ec, e⟩ : Nc).nd) := qH (by rintro (⟨h, _, _⟩ | h); exact hk1 h.1; exact hk2 h.1); clear hk1 hk2
   go_enter Tryz.func52, Tryz.ntmps52
   go_wp2_with fail; go_ret
   exact ⟨false, rfl, by simp [hno.out], HB0.out⟩
end
theorem rb_no {L : List Nd} (h : ¬ Rgt L) : rightB L = false := by
 cases hb : rightB L with
 | false => rfl
 | true => exact absurd (rightB_iff.1 hb) h
theorem entOk_of {n : Nat} {f : Nat → Nc} (hn : n ≤ 56) (h : ∀ j, j < n → NodeOk n (f j).nd) : EntOk n f ∧ ∀ i, i < n → isD (f i).nd = false → (f i).e = [] := by
 refine ⟨⟨hn, fun i hi => ?_⟩, fun i hi hd => ?_⟩
 ·rcases h i hi with ⟨h1, _⟩ | h1
  ·have e : (f i).e = [] := h1.2.1
   rw [e]
   exact ⟨by decide, fun y hy => by cases hy⟩
  ·exact ⟨h1.2.2.1, fun y hy => by have := (h1.2.2.2.1 y hy).2; omega⟩
 ·rcases h i hi with ⟨h1, _⟩ | h1
  ·exact h1.2.1
  ·rw [isD_dir h1] at hd; cases hd
theorem rgt_of {n : Nat} {f : Nat → Nc} (h0 : 1 ≤ n) (hn : n ≤ 56) (hr : (f 0).k = 2) (h : ∀ j, j < n → NodeOk n (f j).nd) (hl : (met (chs (ndL f n))).length = n)
  (hg : ∀ j, j < n → (met (chs (ndL f n))).getD j 0 = j ∧ lnk (ndL f n) j = (f j).l ∧ ((f j).k = 2 → 0 < j → up (ndL f n) j = 1)) : Rgt (ndL f n) := by
 refine ⟨by rw [ndL_len]; exact h0, by rw [ndL_len]; exact hn, ?_, fun i hi => ?_, ?_, fun i hi => ?_, fun i h1 hi hd => ?_⟩
 ·rw [nat_ndL (by omega)]; show ((f 0).k == 2) = true; simpa using hr
 ·rw [ndL_len] at hi ⊢
  rw [nat_ndL hi]
  exact h i hi
 ·rw [ndL_len]
  refine List.ext_getElem (by rw [hl, List.length_range]) fun i h1 h2 => ?_
  rw [List.getElem_range]
  have := (hg i (by omega)).1
  simpa [List.getD, h1] using this
 ·rw [ndL_len] at hi
  rw [nat_ndL hi]
  exact (hg i hi).2.1
 ·rw [ndL_len] at hi
  rw [nat_ndL hi] at hd
  have h8 : ((f i).k == 2) = true := hd
  exact (hg i hi).2.2 (by simpa using h8) h1
def RgJ (f : Nat → Nc) (n j : Nat) : Prop := (met (chs (ndL f n))).getD j 0 = j ∧ lnk (ndL f n) j = (f j).l ∧ ((f j).k = 2 → 0 < j → up (ndL f n) j = 1)
theorem rgj_of {f : Nat → Nc} {n j : Nat} (h : Rgt (ndL f n)) (hj : j < n) : RgJ f n j := by
 have hl := ndL_len f n
 refine ⟨?_, ?_, fun hk h0 => ?_⟩
 ·rw [h.met, hl]; simp [List.getD, hj]
 ·have := h.link j (by rw [hl]; exact hj)
  rwa [nat_ndL hj] at this
 ·refine h.one j h0 (by rw [hl]; exact hj) ?_
  rw [nat_ndL hj]
  show ((f j).k == 2) = true
  simpa using hk
section
variable {w : World} {n c : Nat} {na : Option Addr} {f : Nat → Nc}
theorem rright_any (hN : Nds w na n f) (hfew : ∀ i, i < n → (f i).dn ≤ 1000000 ∧ (f i).en ≤ 1000000) :
  Calls Tryz.prog 28 #[.agg #[.slice na n c]] w fun e w' => e = .returned (.bool (rightB (ndL f n))) ∧ Below w.heap.size w w' := by
 obtain ⟨R, hR⟩ : ∃ R, R = rightB (ndL f n) := ⟨_, rfl⟩
 rw [← hR]
 have HR := qH hR
 obtain ⟨w1, hw1⟩ : ∃ w1, w1 = w.alloc (.cells #[.slice na n c] 26 (0, 0)) := ⟨_, rfl⟩
 obtain ⟨x, hx⟩ : ∃ x, x = w.heap.size := ⟨_, rfl⟩
 have hb1 : Below w.heap.size w w1 := by rw [hw1]; exact (Below.refl _ _).alloc (Nat.le_refl _) _
 have hbx : TrB w1 x (.slice na n c) := by rw [hw1, hx]; exact heap_alloc_new w _
 have HB1 := qH hb1
 have HBX := qH hbx
 have HW1 := qH hw1
 have HX := qH hx
 have HF := qH hfew
 clear hb1 hbx hw1 hx hfew hR
 by_cases h0 : n < 1
 ·have c0 : (n : Int) < 1 := by omega
  have hno : Hid (R = false) := qH (by rw [HR.out]; exact rb_no fun h => by have := h.pos; rw [ndL_len] at this; omega)
  clear h0
  go_enter Tryz.func28, Tryz.ntmps28
  go_wp2_with fail
  rw [← HW1.out]
  go_ret
  exact ⟨by rw [hno.out]; rfl, HB1.out⟩
 by_cases h56 : 56 < n
 ·have c0 : ¬ (n : Int) < 1 := by omega
  have c1 : (56 : Int) < (n : Int) := by omega
  have hno : Hid (R = false) := qH (by rw [HR.out]; exact rb_no fun h => by have := h.few; rw [ndL_len] at this; omega)
  clear h0 h56
  go_enter Tryz.func28, Tryz.ntmps28
  go_wp2_with fail
  rw [← HW1.out]
  go_ret
  exact ⟨by rw [hno.out]; rfl, HB1.out⟩
 obtain ⟨b, off, rfl, hbl, d0, d1, d2, d3⟩ := hN.at (i := 0) (by omega)
 have c0 : ¬ (n : Int) < 1 := by omega
 have c1 : ¬ (56 : Int) < (n : Int) := by omega
 have c2 : (0 : Int) < (n : Int) := by omega
 have H56 := qH (And.intro (show 1 ≤ n by omega) (show n ≤ 56 by omega))
 rw [Nat.zero_mul, Nat.add_zero] at d0
 clear d1 d2 d3
 by_cases hk : (f 0).k = 2
 ·have hk2 : ((f 0).k != 2) = false := by simpa using hk
  have HK := qH hk
  clear hk h0 h56
  go_enter Tryz.func28, Tryz.ntmps28
  go_wp2_with fail
  rw [← HW1.out, ← HX.out]
  clear d0 hbl hk2 HW1
  go_loopw [4] (fun v4 wr => ∃ i : Nat, i ≤ n ∧ v4 = .int .i64 i ∧ Below w1.heap.size w1 wr ∧ ∀ j, j < i → NodeOk n (f j).nd) (fun v4 _ => n - (RowKit.intOf v4).toNat)
  case atStart => exact ⟨0, Nat.zero_le _, rfl, Below.refl _ _, fun j hj => absurd hj (Nat.not_lt_zero j)⟩
  case round =>
   obtain ⟨i, hi, rfl, hB, hall⟩ := hrel; have HB := qH hB; have HALL := qH hall; have hnr := (hN.next HB1.out).next hB; have hbxr : TrB wr x (.slice (some ⟨b, off, none⟩) n c) := (hB.block x (lt_of_block HBX.out)).trans HBX.out; have b1 := hbxr.cell; have h56 := H56.out.2; clear hall
   by_cases hlt : i < n
   ·have HLT := qH hlt
    have i0 : (0 : Int) ≤ (i : Int) := by omega
    have i1 : (i : Int) < (n : Int) := by omega
    obtain ⟨b2, off2, he2, _, e0, e1, e2, e3⟩ := hnr.at hlt
    cases he2
    have hc := node_any (N := n) (hnr.data i hlt) (hnr.ents i hlt) (HF.out i hlt).1 (HF.out i hlt).2 h56; clear hB hnr hbxr; go_wp2_with fail; refine hc.mono ?_; rintro e w2 ⟨bo, rfl, hbo, hb⟩; have HB2 := qH (HB.out.trans (hb.mono HB.out.size)); have HBO := qH hbo; clear hc hb hbo e0 e1 e2 e3 b1
    cases bo with
    | false =>
     have hno : Hid (R = false) := qH (by
      rw [HR.out]
      refine rb_no fun h => ?_
      have h7 := h.node i (by rw [ndL_len]; exact HLT.out); rw [ndL_len, nat_ndL HLT.out] at h7
      exact absurd (HBO.out.2 h7) (by decide))
     go_wp2_with fail; go_ret
     exact ⟨by rw [hno.out]; rfl, HB1.out.trans (HB2.out.mono HB1.out.size)⟩
    | true =>
     have HGO : Hid (∀ j, j < i + 1 → NodeOk n (f j).nd) := qH (fun j hj => by
      by_cases h : j = i
      ·subst h; exact HBO.out.1 rfl
      ·exact HALL.out j (by omega))
     go_wp2_with fail
     go_roundw
     case rel => exact ⟨i + 1, HLT.out, by go_num, HB2.out, HGO.out⟩
     case measure => have := HLT.out; simp [RowKit.intOf]; omega
   ·obtain rfl : i = n := by omega
    have hent := entOk_of h56 HALL.out; have HNO : Hid (∀ j, j < i → NodeOk i (f j).nd) := HALL; have HE := qH hent; have HBW : Hid (Below w.heap.size w wr) := qH (HB1.out.trans (hB.mono HB1.out.size)); have HBXR := qH hbxr; clear hB hnr hbxr hent b1
    go_wp2_with (at_make; go_must (refine wpList_mki rfl _ _ rfl .i64 .i64 _ _ i rfl rfl rfl rfl (by omega) w.heap.size HBW.out.size ?_); intro w2 hO2 hb2; obtain ⟨g, hs2⟩ : ∃ g, wr.heap.size = g := ⟨_, rfl⟩; have HO2 := qH hO2; have HB2 := qH hb2; clear hO2 hb2)
    rw [hs2] at HO2; have HI0 : Hid (LnI w w2 x g i i (.slice (some ⟨b, off, none⟩) i c) (rng i fun _ => 0)) := qH ⟨by rw [← rng_zero]; exact HO2.out, HBW.out.trans (HB2.out.mono HBW.out.size), (HB2.out.block x (lt_of_block HBXR.out)).trans HBXR.out, by rw [← hs2]; exact Nat.ne_of_lt (lt_of_block HBXR.out)⟩; clear hs2 HO2 HB2 HBXR HBX HB
    go_loopw [6, 7] (fun v6 _ wr => ∃ a : Nat, a ≤ i ∧ v6 = .int .i64 a ∧ LnI w wr x g i i (.slice (some ⟨b, off, none⟩) i c) (rng i fun j => upT (ndL f i) a 0 j)) (fun v6 _ _ => i - (RowKit.intOf v6).toNat)
    case atStart => exact ⟨0, Nat.zero_le _, rfl, by have := HI0.out; rwa [rng_congr (G := fun j => upT (ndL f i) 0 0 j) (fun j hj => (upT_zero _ _).symm)] at this⟩
    case round =>
     obtain ⟨a, ha, rfl, hI⟩ := hrel; have HI := qH hI
     by_cases hlt : a < i
     ·have HLT := qH hlt
      have j0 : (0 : Int) ≤ (a : Int) := by omega
      have j1 : (a : Int) < (i : Int) := by omega
      clear hI; go_wp2_with fail; have hll := chs_len (f := f) hlt; have HLL := qH hll; clear hll
      go_loopw [7] (fun v7 wr => ∃ k : Nat, k ≤ (f a).e.length ∧ v7 = .int .i64 k ∧ LnI w wr x g i i (.slice (some ⟨b, off, none⟩) i c) (rng i fun j => upT (ndL f i) a k j)) (fun v7 _ => (f a).e.length - (RowKit.intOf v7).toNat)
      case atStart => exact ⟨0, Nat.zero_le _, rfl, HI.out⟩
      case round =>
       obtain ⟨k, hk, rfl, hI⟩ := hrel; have HI2 := qH hI; have b1 := hI.box.cell; have hnr := hN.next hI.bel; obtain ⟨b5, off5, he5, hbl5, d0, d1, d2, d3⟩ := hnr.at HLT.out
       cases he5
       have hens := (hnr.ents a HLT.out).ens; rw [← hens.len] at d3; clear d0 d1 d2 hbl5
       by_cases hk2 : k < (f a).e.length
       ·have HK := qH hk2
        have k0 : (0 : Int) ≤ (k : Int) := by omega
        have k1 : (k : Int) < ((f a).e.length : Int) := by omega
        obtain ⟨b2, off2, he2, hbl2, e1, e2⟩ := hens.at (i := k) (by rw [← hens.len]; exact hk2); rw [he2] at d3; have hbnd := (HE.out.1.2 a HLT.out).2 _ (eat_mem hk2)
        obtain ⟨kd, hkd⟩ : ∃ kd : Nat, (eat (f a).e k).i = (kd : Int) := ⟨inoN (eat (f a).e k), by unfold inoN; omega⟩
        have hkin : (chs (ndL f i) a).getD k 0 = kd := by
         rw [(chs_at HLT.out hk2).2]; unfold inoN
         omega
        have hkn : kd < i := by omega
        rw [hkd] at e2
        have m0 : (0 : Int) ≤ (kd : Int) := by omega
        have m1 : (kd : Int) < (i : Int) := by omega
        have hstep := fun j => upT_step (L := ndL f i) (b := a) (k := k) (by rw [HLL.out]; exact hk2) j
        rw [hkin] at hstep; have HSTEP := qH hstep; have hle := upT_le (L := ndL f i) HE.out.1.chs.1 (b := a) (by omega) k kd; have HKN := qH hkn; have hel2 := (HE.out.1.2 a HLT.out).1; have gc := HI2.out.own.cellN hkn; rw [inu_rng _ hkn] at gc
        obtain ⟨u, hu⟩ : ∃ u, u = upT (ndL f i) a k kd := ⟨_, rfl⟩
        have hule : u ≤ 100000 := by rw [hu]; exact hle
        rw [← hu] at gc; have gf := HI2.out.own.freeN kd; have gl := HI2.out.lt
        have HST : Hid (LnI w (wr.setCell ⟨g, kd, none⟩ (.int .i64 ((u : Int) + 1))) x g i i (.slice (some ⟨b, off, none⟩) i c) (rng i fun j => upT (ndL f i) a (k + 1) j)) := qH (by
         have := HI2.out.set kd ((u : Int) + 1); rw [show (u : Int) + 1 = ((u + 1 : Nat) : Int) by omega] at this ⊢
         rwa [rng_set (z := u + 1) (G := fun j => upT (ndL f i) a (k + 1) j) HKN.out (fun j hj => by
          rw [HSTEP.out j]
          by_cases h : kd = j
          ·subst h; rw [if_pos rfl, if_pos rfl, hu]
          ·rw [if_neg h, if_neg h]; rfl)] at this)
        clear hens hnr hbl2 e1 hbnd hkd hkin hkn he2 hstep hI hle hu; go_wp2_with fail
        go_roundw
        case rel => exact ⟨k + 1, HK.out, by go_num, HST.out⟩
        case measure => have := HK.out; simp [RowKit.intOf]; omega
       ·obtain rfl : k = (f a).e.length := by omega
        have HI3 : Hid (LnI w wr x g i i (.slice (some ⟨b, off, none⟩) i c) (rng i fun j => upT (ndL f i) (a + 1) 0 j)) := qH (by
         have := HI2.out
         rwa [rng_congr (G := fun j => upT (ndL f i) (a + 1) 0 j) (fun j hj => by rw [upT_row, HLL.out])] at this)
        clear hens hnr hI; go_wp2_with fail
        go_roundw
        case rel => exact ⟨a + 1, HLT.out, by go_num, HI3.out⟩
        case measure => have := HLT.out; simp [RowKit.intOf]; omega
     ·obtain rfl : a = i := by omega
      clear hI; have l1 := HI.out.box.load; have b1 := HI.out.box.cell
      have hc : Calls Tryz.prog 53 #[.agg #[.slice (some ⟨b, off, none⟩) a c], .int .i64 0, .slice none 0 0, .int .i64 60] wr (OrPost wr.heap.size wr (.slice none 0 0) (met (chs (ndL f a)))) :=
       order_any (hN.next HI.out.bel) (Nat.le_refl _) HE.out.1 60 0 [] wr (.slice none 0 0) (by decide) (Below.refl _ _) (Nat.le_refl _) (ownI_nil _ _) (by omega) (fun x hx => by cases hx) List.nodup_nil (by simp)
      go_wp2_with fail; refine hc.mono ?_; rintro e w2 ⟨v2, rfl, hO2, hT2, hM2⟩; have hb2 : Below wr.heap.size wr w2 := hT2.below (Nat.le_refl _) (fun k hk => by cases hk)
      have hml : 0 < (met (chs (ndL f a))).length := by
       obtain ⟨r, hr⟩ := met_head (chs (ndL f a)); rw [hr]; simp
      obtain ⟨ms, hms⟩ : ∃ ms, ms = met (chs (ndL f a)) := ⟨_, rfl⟩
      rw [← hms] at hO2 hml; obtain ⟨g2, p2, hv2, hge2, hlt2⟩ := OwnI.at hO2 hml; subst hv2; have HO2 := qH hO2; have HMS := qH hms; have HI2 : Hid (LnI w w2 x g a a (.slice (some ⟨b, off, none⟩) a c) (rng a fun j => upT (ndL f a) a 0 j)) := qH (HI.out.next hb2); clear hc hO2 hT2 hM2 hb2 hml hms hge2 hlt2 l1 b1; have l1 := HI2.out.box.load; have b1 := HI2.out.box.cell; have hc := rlinks_any (c := c) (hN.next HI2.out.bel) HE.out.1 HE.out.2; go_wp2_with fail; refine hc.mono ?_; rintro e w3 ⟨g3, p3, rfl, hO3, hb3⟩; have HO3 := qH hO3; replace HO2 := qH (HO2.out.next hb3); have HI3 : Hid (LnI w w3 x g a a (.slice (some ⟨b, off, none⟩) a c) (rng a fun j => upT (ndL f a) a 0 j)) := qH (HI2.out.next hb3); clear hc hO3 hb3 l1 b1
      by_cases hlen : ms.length = a
      ·have hl2 : ((ms.length : Int) != (a : Int)) = false := by rw [hlen]; simp
       have HLEN := qH hlen; clear hlen; go_wp2_with fail
       go_loopw [10] (fun v10 wr4 => ∃ i q : Nat, i ≤ a ∧ v10 = .int .i64 i ∧ wr4 = w3.drewN q ∧ ∀ j, j < i → RgJ f a j) (fun v10 _ => a - (RowKit.intOf v10).toNat)
       case atStart => exact ⟨0, 0, Nat.zero_le _, rfl, rfl, fun j hj => absurd hj (Nat.not_lt_zero j)⟩
       case round =>
        obtain ⟨i, q, hi, rfl, rfl, hall⟩ := hrel; have HALL := qH hall; clear hall
        by_cases hlt : i < a
        ·have HLT := qH hlt
         have i0 : (0 : Int) ≤ (i : Int) := by omega
         have i1 : (i : Int) < (a : Int) := by omega
         have i2 : (i : Int) < (ms.length : Int) := by have := HLEN.out; omega
         have b1 := HI3.out.box.cell; obtain ⟨b5, off5, he5, _, d0, d1, d2, d3⟩ := (hN.next HI3.out.bel).at hlt
         cases he5
         have gm := HO2.out.cellN (i := i) (by have := HLEN.out; omega); rw [inu_ofN (by have := HLEN.out; omega)] at gm
         obtain ⟨mi, hmi⟩ : ∃ mi, mi = ms.getD i 0 := ⟨_, rfl⟩
         rw [← hmi] at gm; have gl := HO3.out.cellN hlt
         obtain ⟨li, hli⟩ : ∃ li, li = inu ((List.range a).map fun j => lnk (ndL f a) j) i := ⟨_, rfl⟩
         rw [← hli] at gl
         have hli2 : li = lnk (ndL f a) i := by rw [hli]; simp [inu, List.getD, hlt]
         have gu := HI3.out.own.cellN hlt; rw [inu_rng _ hlt] at gu
         obtain ⟨ui, hui⟩ : ∃ ui, ui = upT (ndL f a) a 0 i := ⟨_, rfl⟩
         rw [← hui] at gu
         have hui2 : ui = up (ndL f a) i := by
          have h9 := upT_end (ndL f a) i; rw [ndL_len] at h9; rw [hui, h9]
         obtain ⟨ki, hki⟩ : ∃ ki, ki = (f i).k := ⟨_, rfl⟩
         obtain ⟨si, hsi⟩ : ∃ si, si = (f i).l := ⟨_, rfl⟩
         rw [← hki] at d0; rw [← hsi] at d1; have HQ := qH (And.intro hmi (And.intro hli2 (And.intro hui2 (And.intro hki hsi)))); clear d2 d3 hmi hli hli2 hui hui2 hki hsi
         have hbad : ¬ RgJ f a i → R = false := fun h => by
          rw [HR.out]
          exact rb_no fun hr => h (rgj_of hr HLT.out)
         have HBAD := qH hbad
         have hgood : RgJ f a i → ∀ j, j < i + 1 → RgJ f a j := fun h j hj => by
          by_cases e : j = i
          ·subst e; exact h
          ·exact HALL.out j (by omega)
         have HGOOD := qH hgood; clear hbad hgood
         by_cases e1 : mi = i
         ·have t1 : ((mi : Int) != (i : Int)) = false := by rw [e1]; simp
          by_cases e2 : li = si
          ·have t2 : (li != si) = false := by rw [e2]; simp
           by_cases e3 : ki = 2
           ·have t3 : (ki == 2) = true := by rw [e3]; rfl
            by_cases e4 : 0 < i
            ·have t4 : decide ((0 : Int) < (i : Int)) = true := decide_eq_true (by omega)
             have t5 : decide (0 < i) = true := decide_eq_true e4
             by_cases e5 : ui = 1
             ·have t6 : ((ui : Int) != 1) = false := by rw [e5]; rfl
              have HG : Hid (∀ j, j < i + 1 → RgJ f a j) := qH (HGOOD.out ⟨by rw [← HMS.out, ← HQ.out.1]; exact e1, by rw [← HQ.out.2.1, ← HQ.out.2.2.2.2]; exact e2, fun _ _ => by rw [← HQ.out.2.2.1]; exact e5⟩); clear e1 e2 e3 e4 e5; go_wp2_with fail
              go_quiet (fail)
              go_wp2_with fail
              go_roundw
              case rel => exact ⟨i + 1, q + nq, HLT.out, by go_num, rfl, HG.out⟩
              case measure => have := HLT.out; simp [RowKit.intOf]; omega
             ·have t6 : ((ui : Int) != 1) = true := by rw [bne_iff_ne]; omega
              have hno : Hid (R = false) := qH (HBAD.out fun h => e5 (by rw [HQ.out.2.2.1]; exact h.2.2 (by rw [← HQ.out.2.2.2.1]; exact e3) e4)); clear e1 e2 e3 e4 e5; go_wp2_with fail
              go_quiet (fail)
              go_wp2_with fail; go_ret
              exact ⟨by rw [hno.out]; rfl, below_drewN (below_drewN HI3.out.bel q) nq⟩
            ·have t4 : decide ((0 : Int) < (i : Int)) = false := decide_eq_false (by omega)
             have t5 : decide (0 < i) = false := decide_eq_false e4; have HG : Hid (∀ j, j < i + 1 → RgJ f a j) := qH (HGOOD.out ⟨by rw [← HMS.out, ← HQ.out.1]; exact e1, by rw [← HQ.out.2.1, ← HQ.out.2.2.2.2]; exact e2, fun _ h => absurd h e4⟩); clear e1 e2 e3 e4; go_wp2_with fail
             go_quiet (fail)
             go_wp2_with fail
             go_roundw
             case rel => exact ⟨i + 1, q + nq, HLT.out, by go_num, rfl, HG.out⟩
             case measure => have := HLT.out; simp [RowKit.intOf]; omega
           ·have t3 : (ki == 2) = false := by simpa using e3
            have HG : Hid (∀ j, j < i + 1 → RgJ f a j) := qH (HGOOD.out ⟨by rw [← HMS.out, ← HQ.out.1]; exact e1, by rw [← HQ.out.2.1, ← HQ.out.2.2.2.2]; exact e2, fun h _ => absurd (HQ.out.2.2.2.1.trans h) e3⟩); clear e1 e2 e3; go_wp2_with fail
            go_quiet (fail)
            go_wp2_with fail
            go_roundw
            case rel => exact ⟨i + 1, q + nq, HLT.out, by go_num, rfl, HG.out⟩
            case measure => have := HLT.out; simp [RowKit.intOf]; omega
          ·have t2 : (li != si) = true := by simpa using e2
           have hno : Hid (R = false) := qH (HBAD.out fun h => e2 (by rw [HQ.out.2.1, HQ.out.2.2.2.2]; exact h.2.1)); clear e1 e2; go_wp2_with fail
           go_quiet (fail)
           go_wp2_with fail; go_ret
           exact ⟨by rw [hno.out]; rfl, below_drewN (below_drewN HI3.out.bel q) nq⟩
         ·have t1 : ((mi : Int) != (i : Int)) = true := by rw [bne_iff_ne]; omega
          have hno : Hid (R = false) := qH (HBAD.out fun h => e1 (by rw [HQ.out.1, HMS.out]; exact h.1)); clear e1; go_wp2_with fail
          go_quiet (fail)
          go_wp2_with fail; go_ret
          exact ⟨by rw [hno.out]; rfl, below_drewN (below_drewN HI3.out.bel q) nq⟩
        ·obtain rfl : i = a := by omega
         have hok : Hid (R = true) := qH (by
          rw [HR.out]
          exact rightB_iff.2 (rgt_of H56.out.1 H56.out.2 HK.out HNO.out (by rw [← HMS.out]; exact HLEN.out) HALL.out))
         go_wp2_with fail; go_ret
         exact ⟨by rw [hok.out]; rfl, below_drewN HI3.out.bel q⟩
      ·have hl2 : ((ms.length : Int) != (a : Int)) = true := by rw [bne_iff_ne]; omega
       have hno : Hid (R = false) := qH (by
        rw [HR.out]
        refine rb_no fun h => hlen ?_
        have h7 := h.met
        rw [HMS.out, h7, List.length_range, ndL_len])
       clear hlen; go_wp2_with fail; go_ret
       exact ⟨by rw [hno.out]; rfl, HI3.out.bel⟩
 ·have hk2 : ((f 0).k != 2) = true := by simpa using hk
  have hno : Hid (R = false) := qH (by
   rw [HR.out]
   refine rb_no fun h => ?_
   have h7 := h.root; rw [nat_ndL (by omega)] at h7; have h8 : ((f 0).k == 2) = true := h7
   exact hk (by simpa using h8))
  clear h0 h56 hk
  go_enter Tryz.func28, Tryz.ntmps28
  go_wp2_with fail
  rw [← HW1.out]
  go_ret
  exact ⟨by rw [hno.out]; rfl, HB1.out⟩
end
def bIy (l : List UInt8) : List Int := l.map fun b => ((b.toNat : Nat) : Int)
theorem bIy_len (l : List UInt8) : (bIy l).length = l.length := by simp [bIy]
theorem bIy_all (l : List UInt8) : AllB (bIy l) := fun z hz => by
 obtain ⟨b, _, rfl⟩ := List.mem_map.1 hz
 have := b.toNat_lt
 omega
theorem bIy_snoc (l : List UInt8) (b : UInt8) : bIy (l ++ [b]) = bIy l ++ [((b.toNat : Nat) : Int)] := by simp [bIy]
theorem bIy_text (l : List UInt8) : strOfNums (bIy l) = tx l := by
 unfold strOfNums tx bIy
 rw [List.map_map]
 congr 2
 conv => rhs; rw [← List.map_id l]
 exact List.map_congr_left fun b _ => by simp
theorem conv_own {w : World} {B : Nat} {v : Value} {n : Nat} {l : List UInt8} (h : Own w B v n (bIy l)) : (convert 29 9 v).run Tryz.prog w = .ok (.string (tx l)) w := by
 obtain ⟨a, c, rfl, hz, hb, _⟩ := h.form
 rcases a with _ | p
 ·obtain ⟨rfl, rfl⟩ := hz rfl
  have hl := hb.len
  rw [bIy_len] at hl
  obtain rfl : l = [] := List.length_eq_zero_iff.1 hl
  exact run_convert_bytes_nil w _ _ Tryz.underlying29 Tryz.underlying5 0 0 _ Tryz.underlying9
 ·rcases h.row.2 with ⟨e, _⟩ | ⟨g, cap, cur, e, _, _, _, _, _, _⟩
  ·cases e
  ·cases e
   rw [← bIy_text]; refine run_convert_bytes_arg w _ _ Tryz.underlying29 Tryz.underlying5 g 0 n c (bIy l) hb.len (fun i hi => ?_) _ Tryz.underlying9
   rcases hb.place with h0 | ⟨b, off, e, _, hc⟩
   ·omega
   ·cases e
    exact hc i hi
theorem own_apart {w : World} {B B' : Nat} {v v' : Value} {n m : Nat} {zs : List Int} {L : List (List UInt8)} (h : Own w B v n zs) (h' : OwnT w B' v' m L) : v'.ownBlock = none ∨ v'.ownBlock ≠ v.ownBlock := by
 rcases h'.2 with ⟨rfl, _⟩ | ⟨g', cap', cur', rfl, _, hg', _⟩
 ·exact .inl rfl
 ·rcases h.row.2 with ⟨rfl, _⟩ | ⟨g, cap, cur, rfl, _, hg, _⟩
  ·exact .inr (by simp [Value.ownBlock])
  ·refine .inr fun e => ?_
   simp only [Value.ownBlock, Option.some.injEq] at e; subst e; rw [hg] at hg'
   cases hg'
theorem wpList_apb {w : World} {ops : Array Oper} {rest : List Oper} {o : Oper} {a : Act} {Q : Exit → Act → World → Prop} (hgd : o.guard = none) (s x : Operand)
  (ho : o.op = .call { callee := .builtin .append, args := #[s, x], argTypes := #[29, 29] })
  (B : Nat) (v : Value) (n : Nat) (l : List UInt8) (hs : a.eval s = v) (hown : Own w B v n (bIy l)) (g : Nat) (b : UInt8) (hx : a.eval x = .slice (some ⟨g, 0, none⟩) 1 1) (hg : w.cell? ⟨g, 0, none⟩ = some (.int .u8 ((b.toNat : Nat) : Int)))
  (vt : Value) (m : Nat) (L : List (List UInt8)) (hT : OwnT w B vt m L)
  (hn : n + 1 ≤ 1000000000000) (hB : B ≤ w.heap.size) (w0 : World) (hb : Below B w0 w)
  (h : ∀ v' w', Own w' B v' (n + 1) (bIy (l ++ [b])) → OwnT w' B vt m L → Below B w0 w' → wpList Tryz.prog ops Q rest (a.put o.dst v') w') : wpList Tryz.prog ops Q (o :: rest) a w := by
 obtain ⟨i0, hi, hz0, hz1, hz2⟩ := info_parts info8
 refine wpList_append_own w hgd s x 29 ho B 5 i0 (.int .u8 0) 1 1 Tryz.underlying29 hi hz0 hz1 hz2 rfl (by decide) v n _ hs hown.row ⟨g, 0, none⟩ 1 1 [.int .u8 ((b.toNat : Nat) : Int)] hx rfl ?_ ?_ (by unfold maxLen; omega) (by omega) hB ?_
 ·intro j u hj
  cases j with
  | zero =>
   simp at hj
   subst hj
   exact hg
  | succ j => simp at hj
 ·intro u hu
  rw [List.mem_singleton.1 hu]
  rfl
 ·intro v' w' hown' hgrow _
  refine h v' w' ⟨by rw [bIy_snoc, List.map_append]; exact hown', bIy_all _⟩ (hT.kept hgrow (own_apart hown hT)) (hb.grown hgrow hB fun k hk => (hown.row.lt k hk).1)
theorem own_nil8y (w : World) (B : Nat) : Own w B (.slice none 0 0) 0 (bIy []) := ⟨World.ownsRow_nil _ _ _ _, fun z hz => by cases hz⟩
theorem Own.next {w w' : World} {B : Nat} {v : Value} {n : Nat} {zs : List Int} (h : Own w B v n zs) (hb : Below w.heap.size w w') : Own w' B v n zs := h.below (Nat.le_refl _) hb
theorem Own.alloc {w : World} {B : Nat} {v : Value} {n : Nat} {zs : List Int} (h : Own w B v n zs) (o : Obj) : Own (w.alloc o) B v n zs := h.next ((Below.refl _ _).alloc (Nat.le_refl _) o)
end Go.Proofs.YtinholnidchblaaGreatDoor
