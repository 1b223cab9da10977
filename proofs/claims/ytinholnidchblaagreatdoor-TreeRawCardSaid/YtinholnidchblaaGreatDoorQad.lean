import Derived.Test.YtinholnidchblaaGreatDoorQac
import Derived.Test.YtinholnidchblaaGreatDoorQab
set_option linter.unusedVariables false
set_option linter.unusedSimpArgs false
set_option maxRecDepth 100000
set_option maxHeartbeats 16000000
namespace Go.Proofs.YtinholnidchblaaGreatDoor
open Go.RowKit
theorem sp_len {α : Type} {L : List α} {p : Nat} {cs : List α} (h : p + cs.length ≤ L.length) : (splice L p cs).length = L.length := length_splice L p cs h
theorem sp_take {α : Type} {L : List α} {p : Nat} {cs : List α} (h : p ≤ L.length) : (splice L p cs).take (p + cs.length) = L.take p ++ cs := by
 unfold splice
 rw [← List.append_assoc]
 exact List.take_left' (by rw [List.length_append, List.length_take]; omega)
theorem sp_low {α : Type} {L : List α} {p k : Nat} {cs : List α} (h : p ≤ L.length) (hk : k ≤ p) : (splice L p cs).take k = L.take k := by
 unfold splice
 rw [List.take_append_of_le_length (by rw [List.length_take]; omega), List.take_take, Nat.min_eq_left hk]
theorem sp_mid {α : Type} {L : List α} {p : Nat} {cs : List α} (h : p ≤ L.length) : ((splice L p cs).drop p).take cs.length = cs := by
 unfold splice
 rw [List.drop_left' (by rw [List.length_take]; omega)]
 exact List.take_left' rfl
theorem eflat_take (L : List En) (i : Nat) : (L.flatMap ecl).take (i * 2) = (L.take i).flatMap ecl := by
 rcases Nat.lt_or_ge i L.length with h | h
 ·conv => lhs; rw [← List.take_append_drop i L, List.flatMap_append]
  exact List.take_left' (by rw [eflat_len, List.length_take]; omega)
 ·rw [List.take_of_length_le (l := L) h, List.take_of_length_le (by rw [eflat_len]; omega)]
theorem row_front {cur : List Value} {L : List En} {n i : Nat} (ht : cur.take (n * 2) = L.flatMap ecl) (hi : i ≤ n) : cur.take (i * 2) = (L.take i).flatMap ecl := by
 rw [← eflat_take, ← ht, List.take_take, Nat.min_eq_left (by omega)]
theorem ins_place {cur : List Value} {L : List En} {n i c : Nat} {e : En} (hs : cur.length = c * 2) (hl : L.length = n) (ht : cur.take (n * 2) = L.flatMap ecl) (hi : i < n) (hc : n + 1 ≤ c) :
  (splice (splice cur ((i + 1) * 2) ((L.drop i).flatMap ecl)) (i * 2) (ecl e)).length = c * 2 ∧ (splice (splice cur ((i + 1) * 2) ((L.drop i).flatMap ecl)) (i * 2) (ecl e)).take ((n + 1) * 2) = (L.take i ++ e :: L.drop i).flatMap ecl := by
 have hd : ((L.drop i).flatMap ecl).length = (n - i) * 2 := by rw [eflat_len, List.length_drop, hl]
 have he : (ecl e).length = 2 := rfl
 obtain ⟨D, hD⟩ : ∃ D, D = (L.drop i).flatMap ecl := ⟨_, rfl⟩
 obtain ⟨X, hX⟩ : ∃ X, X = splice cur ((i + 1) * 2) D := ⟨_, rfl⟩
 rw [← hD] at hd ⊢
 rw [← hX]
 have hXl : X.length = c * 2 := by rw [hX, sp_len (by omega), hs]
 refine ⟨by rw [sp_len (by omega), hXl], ?_⟩
 have h1 : (splice X (i * 2) (ecl e)).take ((n + 1) * 2) = X.take (i * 2) ++ ecl e ++ (X.drop ((i + 1) * 2)).take ((n - i) * 2) := by
  unfold splice
  rw [← List.append_assoc, List.take_append, List.take_of_length_le (by rw [List.length_append, List.length_take]; omega)]
  congr 2
  ·rw [List.length_append, List.length_take, he]; omega
  ·rw [he]; congr 1; omega
 rw [h1, List.flatMap_append, List.flatMap_cons, ← hD, ← row_front ht (by omega), ← List.append_assoc]
 congr 1
 ·rw [hX, sp_low (by omega) (by omega)]
 ·have := sp_mid (L := cur) (p := (i + 1) * 2) (cs := D) (by omega)
  rw [hX, ← hd, this]
theorem ins_grow {cur : List Value} {L : List En} {n i C : Nat} {e : En} (hs : cur.length = C * 2) (hl : L.length = n) (ht : cur.take (i * 2) = (L.take i).flatMap ecl) (hi : i < n) (hc : n + 1 ≤ C) :
  (splice (splice cur (i * 2) (ecl e)) ((i + 1) * 2) ((L.drop i).flatMap ecl)).length = C * 2 ∧ (splice (splice cur (i * 2) (ecl e)) ((i + 1) * 2) ((L.drop i).flatMap ecl)).take ((n + 1) * 2) = (L.take i ++ e :: L.drop i).flatMap ecl := by
 have hd : ((L.drop i).flatMap ecl).length = (n - i) * 2 := by rw [eflat_len, List.length_drop, hl]
 have he : (ecl e).length = 2 := rfl
 obtain ⟨D, hD⟩ : ∃ D, D = (L.drop i).flatMap ecl := ⟨_, rfl⟩
 obtain ⟨X, hX⟩ : ∃ X, X = splice cur (i * 2) (ecl e) := ⟨_, rfl⟩
 rw [← hD] at hd ⊢
 rw [← hX]
 have hXl : X.length = C * 2 := by rw [hX, sp_len (by omega), hs]
 refine ⟨by rw [sp_len (by omega), hXl], ?_⟩
 have h1 := sp_take (L := X) (p := (i + 1) * 2) (cs := D) (by omega)
 rw [show (i + 1) * 2 + D.length = (n + 1) * 2 by omega] at h1
 rw [h1, List.flatMap_append, List.flatMap_cons, ← hD, ← ht, ← List.append_assoc]
 congr 1
 have h2 := sp_take (L := cur) (p := i * 2) (cs := ecl e) (by omega)
 rw [hX, show (i + 1) * 2 = i * 2 + (ecl e).length by rw [he]; omega, h2]
def InsPost (B : Nat) (w : World) (n : Nat) (L : List En) (e : Ending) (w' : World) : Prop := ∃ v', e = .returned v' ∧ OwnE w' B v' n L ∧ Below B w w'
theorem take_end {L : List En} {n : Nat} {e : En} (hl : L.length = n) : L.take n ++ e :: L.drop n = L ++ [e] := by
 rw [List.take_of_length_le (by omega), List.drop_of_length_le (by omega)]
theorem ecl_ens {w : World} {vb : Nat} {e : En} (hv : RowE w vb (ecl e)) : Ens w (some ⟨vb, 0, none⟩) 1 [e] :=
 ⟨rfl, .inr ⟨vb, 0, rfl, hv.lt, fun i hi => by
  rcases (by omega : i = 0) with rfl
  exact ⟨hv.cell rfl, hv.cell rfl⟩⟩⟩
theorem insert_end (B : Nat) (v : Value) (n vb : Nat) (L : List En) (e : En) (w : World) (ho : OwnE w B v n L) (hB : B ≤ w.heap.size) (hv : RowE w vb (ecl e)) (hbig : n ≤ 1000000) :
  Calls Tryz.prog 147 #[v, .int .i64 n, .slice (some ⟨vb, 0, none⟩) 1 1] w (InsPost B w (n + 1) (L.take n ++ e :: L.drop n)) := by
 rw [take_end ho.len]
 obtain ⟨a, c, rfl, hE, hnc, hcm, hz, hlo⟩ := ho.ens
 have HO := qH ho
 have HV := qH (ecl_ens hv)
 have HB := qH (Below.refl B w)
 clear ho hv hE hlo
 cases a with
 | none =>
  obtain ⟨rfl, rfl⟩ := hz rfl
  go_enter Tryz.func147, Tryz.ntmps147
  go_wp2_with (at_builtin; go_must (refine wpList_ape rfl (.tmp 23) (.tmp 24) rfl B _ 0 L rfl HO.out (some ⟨vb, 0, none⟩) 1 1 [e] rfl HV.out (fun h => by cases h) (by omega) hB w HB.out ?_); intro v4 w4 ho4 hb4)
  have HO4 := qH ho4
  have HB4 := qH hb4
  clear ho4 hb4
  go_wp2_with fail
  go_ret
  exact ⟨_, rfl, HO4.out, HB4.out⟩
 | some p =>
  have k0 : (0 : Int) ≤ (n : Int) := by omega
  have k1 : (n : Int) ≤ (n : Int) := by omega
  clear hz
  by_cases hcn : c = n
  ·subst hcn
   go_enter Tryz.func147, Tryz.ntmps147
   go_wp2_with (at_builtin; go_must (refine wpList_ape rfl (.tmp 23) (.tmp 24) rfl B _ c L rfl HO.out (some ⟨vb, 0, none⟩) 1 1 [e] rfl HV.out (fun h => by cases h) (by omega) hB w HB.out ?_); intro v4 w4 ho4 hb4)
   have HO4 := qH ho4; have HB4 := qH hb4; clear ho4 hb4; go_wp2_with fail; go_ret
   exact ⟨_, rfl, HO4.out, HB4.out⟩
  ·go_enter Tryz.func147, Tryz.ntmps147
   go_wp2_with (at_builtin; go_must (refine wpList_ape rfl (.tmp 23) (.tmp 24) rfl B _ n L rfl HO.out (some ⟨vb, 0, none⟩) 1 1 [e] rfl HV.out (fun h => by cases h) (by omega) hB w HB.out ?_); intro v4 w4 ho4 hb4)
   have HO4 := qH ho4; have HB4 := qH hb4; clear ho4 hb4; go_wp2_with fail; go_ret
   exact ⟨_, rfl, HO4.out, HB4.out⟩
theorem insert_shift (B g n c i vb : Nat) (cur : List Value) (L : List En) (e : En) (w : World) (hg : RowE w g cur) (hB : B ≤ g) (hnc : n ≤ c) (hcm : c ≤ maxLen) (hs : cur.length = c * 2) (hl : L.length = n) (ht : cur.take (n * 2) = L.flatMap ecl) (hv : RowE w vb (ecl e)) (hne : vb ≠ g) (hi : i < n) (hroom : n + 1 ≤ c) (hbig : n ≤ 1000000) :
  Calls Tryz.prog 147 #[.slice (some ⟨g, 0, none⟩) n c, .int .i64 i, .slice (some ⟨vb, 0, none⟩) 1 1] w (InsPost B w (n + 1) (L.take i ++ e :: L.drop i)) := by
 have hov := fun p => overlaps_no (p := p) hg hv hne (by omega : cur.length ≠ 0)
 have hE := (OwnE.ens (hg.own (B := B) hB hnc hcm hs hl ht))
 obtain ⟨_, _, hq, hE, _⟩ := hE
 cases hq
 have hEd := hE.drop (k := i)
 have hd : ((L.drop i).flatMap ecl).length = (n - i) * 2 := by rw [eflat_len, List.length_drop, hl]
 have HG := qH hg
 have HV := qH hv
 have HP := qH (ins_place (e := e) hs hl ht hi hroom)
 rw [Nat.zero_add] at hEd
 have HE := qH hEd
 have HE2 := qH (show ∀ j v, ((L.drop i).flatMap ecl)[j]? = some v → w.drew.cell? ((⟨g, i * 2, none⟩ : Addr).add j) = some v from fun j v hj => hEd.cells j v hj)
 have HT := qH (And.intro hB (And.intro hl (And.intro hs hd)))
 have HNE := qH hne
 have hcx : c ≤ 9223372036854775807 := by unfold maxLen at hcm; omega
 have v1 : IntKind.i64.wrap ((n : Int) + 1) = (n : Int) + 1 := IntWalk.i64_in _ (by omega)
 have v2 : IntKind.i64.wrap ((i : Int) + 1) = (i : Int) + 1 := IntWalk.i64_in _ (by omega)
 have k1 : ¬ (c : Int) < (n : Int) + 1 := by omega
 have k2 : ((i : Int) == (n : Int)) = false := beq_eq_false_iff_ne.2 (by omega)
 have k3 : (0 : Int) ≤ (i : Int) + 1 := by omega
 have k4 : (i : Int) + 1 ≤ (n : Int) + 1 := by omega
 have k5 : (i : Int) ≤ (n : Int) := by omega
 have k6 : (i : Int) ≤ (n : Int) + 1 := by omega
 have k7 : ¬ (c = i) := by omega
 have k8 : ¬ (c = i + 1) := by omega
 have k9 : (n : Int) + 1 ≤ (c : Int) := by omega
 have t1 : ((i : Int) + 1).toNat = i + 1 := by omega
 have t2 : ((n : Int) + 1).toNat = n + 1 := by omega
 clear hg hv hne ht hs hl hd hE hEd hB
 go_enter Tryz.func147, Tryz.ntmps147
 go_wp2_with (simp only [hov])
 go_region_law (refine step_copyE rfl (.tmp 73) (.tmp 76) rfl g ((i + 1) * 2) (n + 1 - (i + 1)) (c - (i + 1)) ⟨g, i * 2, none⟩ (n + 1 - i) (c - i) (by simp [Act.eval, Act.put]) (by simp [Act.eval, Act.put]) cur ((L.drop i).flatMap ecl) (n - i) HG.out.drew (by simp only [Nat.min_def]; split <;> omega) HT.out.2.2.2 HE2.out (by have := HT.out.2.2; omega) (eflat_one _) ?_; intro w1 hw1)
 have HV1 := qH (show RowE w1 vb (ecl e) from (hw1.oth vb HNE.out).trans HV.out)
 have HS1 := qH (show ∀ j v, (ecl e)[j]? = some v → w1.cell? ((⟨vb, 0, none⟩ : Addr).add j) = some v from fun j v hj => by rw [add_e, Nat.zero_add]; exact HV1.out.cell hj)
 have HW1 := qH hw1
 have hf2 : i * 2 + (ecl e).length ≤ (splice cur ((i + 1) * 2) ((L.drop i).flatMap ecl)).length := by
  have h1 := HT.out.2
  have h2 : (ecl e).length = 2 := rfl
  rw [sp_len (by omega)]
  omega
 have hmn : 1 = Nat.min 1 (n + 1 - i) := by simp only [Nat.min_def]; split <;> omega
 have HF2 := qH (And.intro hf2 hmn)
 clear hw1 hov hf2 hmn
 go_wp2_with ((with_reducible refine wpList_copyE rfl (.tmp 80) (.tmp 81) rfl g (i * 2) (n + 1 - i) (c - i) ⟨vb, 0, none⟩ 1 1 rfl rfl _ (ecl e) 1 HW1.out.row HF2.out.2 rfl HS1.out HF2.out.1 (ecl_one e) ?_; intro w2 hw2))
 have HW2 := qH hw2
 clear hw2
 go_wp2_with fail
 go_ret
 have hd2 : (L.take i ++ e :: L.drop i).length = n + 1 := by rw [List.length_append, List.length_cons, List.length_take, List.length_drop, HT.out.2.1]; omega
 exact ⟨_, rfl, HW2.out.row.own HT.out.1 hroom hcm HP.out.1 hd2 HP.out.2, HW2.out.bel _ _ HT.out.1 (HW1.out.bel _ _ HT.out.1 (below_drewN (Below.refl B w) 1))⟩
theorem row_kept {w w2 : World} {vb : Nat} {cv : List Value} (hv : RowE w vb cv) (ho : ∀ j, j < w.heap.size → w2.heap[j]? = w.heap[j]?) (hl : vb < w.heap.size) : RowE w2 vb cv := (ho vb hl).trans hv
theorem row_src {w : World} {vb : Nat} {cv : List Value} (hv : RowE w vb cv) : ∀ j v, cv[j]? = some v → w.cell? ((⟨vb, 0, none⟩ : Addr).add j) = some v := fun j v hj => by
 rw [add_e, Nat.zero_add]; exact hv.cell hj
theorem grow_facts {i c C : Nat} {cur2 : List Value} {e : En} (hi : i < c) (hC1 : c + 1 ≤ C) (hC2 : C ≤ maxLen) (hl2 : cur2.length = C * 2) :
  i * 2 + (ecl e).length ≤ cur2.length ∧ 1 = Nat.min 1 (c + 1 - i) ∧ ¬ (C = i) ∧ ¬ (C = i + 1) ∧ C ≤ 9223372036854775807 := by
 have he2 : (ecl e).length = 2 := rfl
 refine ⟨by omega, by simp only [Nat.min_def]; split <;> omega, by omega, by omega, by unfold maxLen at hC2; omega⟩
theorem insert_grow (B g n c i vb : Nat) (cur : List Value) (L : List En) (e : En) (w : World) (hg : RowE w g cur) (hB : B ≤ w.heap.size) (hnc : n ≤ c) (hcm : c ≤ maxLen) (hs : cur.length = c * 2) (hl : L.length = n) (ht : cur.take (n * 2) = L.flatMap ecl) (hv : RowE w vb (ecl e)) (hi : i < n) (hroom : ¬ n + 1 ≤ c) (hbig : n ≤ 1000000) :
  Calls Tryz.prog 147 #[.slice (some ⟨g, 0, none⟩) n c, .int .i64 i, .slice (some ⟨vb, 0, none⟩) 1 1] w (InsPost B w (n + 1) (L.take i ++ e :: L.drop i)) := by
 obtain rfl : c = n := by omega
 have hE := (OwnE.ens (hg.own (B := 0) (Nat.zero_le _) hnc hcm hs hl ht))
 obtain ⟨_, _, hq, hE, _⟩ := hE
 cases hq
 have hEd := hE.drop (k := i)
 rw [Nat.zero_add] at hEd
 have hd : ((L.drop i).flatMap ecl).length = (c - i) * 2 := by rw [eflat_len, List.length_drop, hl]
 have hcs : ∀ j v, ((L.take i).flatMap ecl)[j]? = some v → w.cell? ⟨g, j, none⟩ = some v := fun j v hj => by
  refine hg.cell ?_
  rw [← row_front ht (by omega : i ≤ c), List.getElem?_take] at hj
  split at hj
  ·exact hj
  ·cases hj
 have hti : ((L.take i).flatMap ecl).length = i * 2 := by rw [eflat_len, List.length_take]; omega
 have HG := qH hg
 have HV := qH hv
 have HEd := qH hEd
 have HCS := qH (And.intro hcs (And.intro hti (And.intro hl hd)))
 have HB := qH hB
 have hcx : c ≤ 9223372036854775807 := by unfold maxLen at hcm; omega
 have v1 : IntKind.i64.wrap ((c : Int) + 1) = (c : Int) + 1 := IntWalk.i64_in _ (by omega)
 have v2 : IntKind.i64.wrap ((i : Int) + 1) = (i : Int) + 1 := IntWalk.i64_in _ (by omega)
 have v3 : IntKind.i64.wrap ((c : Int) + 1 - (i : Int)) = ((c + 1 - i : Nat) : Int) := (IntWalk.i64_in _ (by omega)).trans (by omega)
 have k1 : (c : Int) < (c : Int) + 1 := by omega
 have k2 : ((i : Int) == (c : Int)) = false := beq_eq_false_iff_ne.2 (by omega)
 have k3 : (0 : Int) ≤ (i : Int) + 1 := by omega
 have k4 : (i : Int) + 1 ≤ (c : Int) + 1 := by omega
 have k5 : (i : Int) ≤ (c : Int) := by omega
 have k6 : (i : Int) ≤ (c : Int) + 1 := by omega
 have k7 : ¬ (c = i) := by omega
 have t1 : ((i : Int) + 1).toNat = i + 1 := by omega
 clear hg hv ht hs hl hd hE hEd hB hcs hti hroom hnc
 go_enter Tryz.func147, Tryz.ntmps147
 go_wp2_with (first
  | (at_builtin
     go_must (refine wpList_apz rfl (.tmp 34) (.tmp 39) rfl g i c (c + 1 - i) rfl rfl ((L.take i).flatMap ecl) HCS.out.2.1 HCS.out.1 (by omega) (c + 1) (by omega) (by omega) (by omega) ?_)
     intro C cur2 w2 hC1 hC2 hr2 hl2 ht2 ho2 hb2; have hgl := HG.out.lt; have hvl := HV.out.lt; have HS2 := qH (row_src (row_kept HV.out ho2 hvl)); have hX := grow_facts (e := e) hi hC1 hC2 hl2; have HX := qH (And.intro hX.1 (And.intro hX.2.1 (And.intro hl2 (And.intro ht2 (And.intro ho2 (And.intro hb2 (And.intro hgl hvl))))))); have hcC := hX.2.2.1; have hcC1 := hX.2.2.2.1; have hCx := hX.2.2.2.2; have HR2 := qH hr2
     clear hgl hvl hl2 ht2 ho2 hb2 hX hr2)
  | (with_reducible refine wpList_copyE rfl (.tmp 43) (.tmp 44) rfl w.heap.size (i * 2) (c + 1 - i) (C - i) ⟨vb, 0, none⟩ 1 1 rfl rfl _ (ecl e) 1 HR2.out HX.out.2.1 rfl HS2.out HX.out.1 (ecl_one e) ?_
     intro w3 hw3))
 have HS3 := qH (show ∀ j v, ((L.drop i).flatMap ecl)[j]? = some v → w3.drew.cell? ((⟨g, i * 2, none⟩ : Addr).add j) = some v from fun j v hj => by
  have h1 := HEd.out.cells j v hj
  have hgl := HX.out.2.2.2.2.2.2.1
  have h2 : w3.heap[g]? = w.heap[g]? := (hw3.oth g (by omega)).trans (HX.out.2.2.2.2.1 g hgl)
  have h3 : w3.cell? ((⟨g, i * 2, none⟩ : Addr).add j) = w.cell? ((⟨g, i * 2, none⟩ : Addr).add j) := World.cell?_of_block (by rw [add_e]; exact h2)
  exact h3.trans h1)
 have hmn3 : c - i = Nat.min (c - i) (c + 1 - (i + 1)) := by simp only [Nat.min_def]; split <;> omega
 have hf3 : (i + 1) * 2 + ((L.drop i).flatMap ecl).length ≤ (splice cur2 (i * 2) (ecl e)).length := by
  have h1 := HCS.out.2.2.2
  have h2 := HX.out.2.2.1
  have h3 : (ecl e).length = 2 := rfl
  rw [sp_len HX.out.1]
  omega
 have HW3 := qH hw3
 have HX3 := qH (And.intro hmn3 hf3)
 clear hw3 hmn3 hf3
 go_wp2_with fail
 go_region_law (refine step_copyE rfl (.tmp 50) (.tmp 53) rfl w.heap.size ((i + 1) * 2) (c + 1 - (i + 1)) (C - (i + 1)) ⟨g, i * 2, none⟩ (c - i) (c - i) (by simp [Act.eval, Act.put]) (by simp [Act.eval, Act.put]) (splice cur2 (i * 2) (ecl e)) ((L.drop i).flatMap ecl) (c - i) HW3.out.row.drew HX3.out.1 HCS.out.2.2.2 HS3.out HX3.out.2 (eflat_one _) ?_; intro w4 hw4)
 have HW4 := qH hw4
 clear hw4
 go_wp2_with fail
 go_ret
 have hd2 : (L.take i ++ e :: L.drop i).length = c + 1 := by rw [List.length_append, List.length_cons, List.length_take, List.length_drop, HCS.out.2.2.1]; omega
 have hP := ins_grow (e := e) HX.out.2.2.1 HCS.out.2.2.1 HX.out.2.2.2.1 hi hC1
 exact ⟨_, rfl, HW4.out.row.own HB.out hC1 hC2 hP.1 hd2 hP.2, HW4.out.bel _ _ HB.out (below_drewN (HW3.out.bel _ _ HB.out (HX.out.2.2.2.2.2.1 _ _ HB.out (Below.refl B w))) 1)⟩
theorem insert_any (B : Nat) (v : Value) (n i vb : Nat) (L : List En) (e : En) (w : World) (ho : OwnE w B v n L) (hB : B ≤ w.heap.size) (hv : RowE w vb (ecl e)) (hne : ∀ g, v.ownBlock = some g → vb ≠ g) (hi : i ≤ n) (hbig : n ≤ 1000000) :
  Calls Tryz.prog 147 #[v, .int .i64 i, .slice (some ⟨vb, 0, none⟩) 1 1] w (InsPost B w (n + 1) (L.take i ++ e :: L.drop i)) := by
 rcases Nat.lt_or_ge i n with h | h
 ·obtain ⟨g, c, cur, rfl, hg, hBg, hnc, hcm, hs, ht⟩ := ho.row (by omega)
  by_cases hr : n + 1 ≤ c
  ·exact insert_shift B g n c i vb cur L e w hg hBg hnc hcm hs ho.len ht hv (hne g rfl) h hr hbig
  ·exact insert_grow B g n c i vb cur L e w hg hB hnc hcm hs ho.len ht hv h hr hbig
 ·obtain rfl : i = n := by omega
  exact insert_end B v i vb L e w ho hB hv hbig
theorem eflat_set (L : List En) (k : Nat) (x : En) (hk : k < L.length) : ((L.flatMap ecl).set (k * 2) (.string x.s)).set (k * 2 + 1) (.int .i64 x.i) = (L.set k x).flatMap ecl := by
 induction L generalizing k with
 | nil => simp at hk
 | cons y L ih =>
  cases k with
  | zero => rfl
  | succ k =>
   have := ih k (by simpa using hk)
   have e : (k + 1) * 2 = k * 2 + 1 + 1 := by omega
   rw [e]
   show _ = ecl y ++ (L.set k x).flatMap ecl
   rw [← this]
   rfl
theorem OwnE.set {w : World} {B g n c k : Nat} {L : List En} (h : OwnE w B (.slice (some ⟨g, 0, none⟩) n c) n L) (hk : k < n) (x : En) :
  OwnE ((w.setCell ⟨g, k * 2, none⟩ (.string x.s)).setCell ⟨g, k * 2 + 1, none⟩ (.int .i64 x.i)) B (.slice (some ⟨g, 0, none⟩) n c) n (L.set k x) := by
 have h1 := (World.ownsRow.stored h (k * 2) (.string x.s)).1
 have h2 := (World.ownsRow.stored h1 (k * 2 + 1) (.int .i64 x.i)).1
 rw [eflat_set L k x (by rw [h.len]; exact hk)] at h2
 exact h2
theorem Below.set2 {w0 w : World} {B g p q : Nat} {u v : Value} (h : Below B w0 w) (hB : B ≤ g) : Below B w0 ((w.setCell ⟨g, p, none⟩ u).setCell ⟨g, q, none⟩ v) := (h.setCell (p := ⟨g, p, none⟩) hB _).setCell (p := ⟨g, q, none⟩) hB _
theorem eput_len_has {L : List En} {x : En} (h : ehas L x.s = true) : (eput L x).length = L.length := by rw [eput_has h, List.length_set]
theorem eput_len_not {L : List En} {x : En} (h : ehas L x.s = false) : (eput L x).length = L.length + 1 := by
 have := efix_le L x.s
 rw [eput_not h, List.length_append, List.length_cons, List.length_take, List.length_drop]
 omega
theorem ehas_lt {L : List En} {s : ByteArray} (h : ehas L s = true) : efix L s < L.length := by
 unfold ehas at h
 rw [Bool.and_eq_true, decide_eq_true_eq] at h
 exact h.1
theorem put_any (a : Option Addr) (n c : Nat) (L : List En) (x : En) (w : World) (h : Ens w a n L) (hn : n ≤ 100000) (hs : Fit L) (hx : x.s.size ≤ 1000000) :
  Calls Tryz.prog 130 #[.slice a n c, env x] w (InsPost w.heap.size w (eput L x).length (eput L x)) := by
 obtain ⟨s, i⟩ := x
 have hb0 : Below w.heap.size w (w.alloc (.cells #[.string s, .int .i64 i] 77 (0, 0))) := (Below.refl _ _).alloc (Nat.le_refl _) _
 have hfi := find_any a n c L s (w.alloc (.cells #[.string s, .int .i64 i] 77 (0, 0))) (h.next hb0) (by omega)
 have HB := qH hb0
 have HH := qH h
 have HS := qH hs
 have HX := qH hx
 have hl := h.len
 clear h hs hb0
 unfold env
 simp only
 go_enter Tryz.func130, Tryz.ntmps130
 go_wp2_with fail
 refine hfi.mono ?_
 rintro e w1 ⟨rfl, hb1⟩
 have hB1 := HB.out.trans (hb1.mono HB.out.size)
 have hcp := copies_any a n c L w1 (HH.out.next hB1) (by omega) HS.out
 have c0 := hb1.cell (p := ⟨w.heap.size, 0, none⟩) (by simp)
 have c1 := hb1.cell (p := ⟨w.heap.size, 1, none⟩) (by simp)
 have f0 := hb1.frozen (p := ⟨w.heap.size, 0, none⟩) (by simp)
 rw [show (w.alloc (.cells #[.string s, .int .i64 i] 77 (0, 0))).cell? ⟨w.heap.size, 0, none⟩ = some (.string s) by simp] at c0
 rw [show (w.alloc (.cells #[.string s, .int .i64 i] 77 (0, 0))).cell? ⟨w.heap.size, 1, none⟩ = some (.int .i64 i) by simp] at c1
 rw [show (w.alloc (.cells #[.string s, .int .i64 i] 77 (0, 0))).frozen? ⟨w.heap.size, 0, none⟩ = false by simp] at f0
 have hwl : w.heap.size < w1.heap.size := Nat.lt_of_lt_of_le (by simp) hb1.size
 have HC := qH (And.intro c0 (And.intro c1 (And.intro f0 hwl)))
 have HB1 := qH hB1
 clear c0 c1 f0 hwl hB1 hb1 hfi
 go_wp2_with fail
 refine hcp.mono ?_
 rintro e w2 ⟨v, rfl, ho2, hb2⟩
 have hcl := clone_any s w2 (Nat.le_trans HX.out (by decide))
 have hwl := HC.out.2.2.2
 have d0 := (hb2.cell (p := ⟨w.heap.size, 0, none⟩) hwl).trans HC.out.1
 have HD := qH (And.intro ((hb2.cell (p := ⟨w.heap.size, 1, none⟩) hwl).trans HC.out.2.1) (And.intro ((hb2.frozen (p := ⟨w.heap.size, 0, none⟩) hwl).trans HC.out.2.2.1) d0))
 have HB2 := qH (HB1.out.trans (hb2.mono HB1.out.size))
 have HO2 := qH ho2
 have hwl2 := Nat.lt_of_lt_of_le hwl hb2.size
 have hw12 := hb2.size
 clear hb2 hcp ho2
 go_wp2_with fail
 refine hcl.mono ?_
 rintro e w3 ⟨rfl, hb3⟩
 have c0 := (hb3.cell (p := ⟨w.heap.size, 0, none⟩) hwl2).trans HD.out.2.2
 have c1 := (hb3.cell (p := ⟨w.heap.size, 1, none⟩) hwl2).trans HD.out.1
 have f0 := (hb3.frozen (p := ⟨w.heap.size, 0, none⟩) hwl2).trans HD.out.2.1
 have ho3 := HO2.out.next hb3
 have hB3 := HB2.out.trans (hb3.mono HB2.out.size)
 have ho4 : OwnE (w3.setCell ⟨w.heap.size, 0, none⟩ (.string s)) w1.heap.size v n L := ho3.setLow (p := ⟨w.heap.size, 0, none⟩) hwl _
 have hB4 : Below w.heap.size w (w3.setCell ⟨w.heap.size, 0, none⟩ (.string s)) := hB3.setCell (p := ⟨w.heap.size, 0, none⟩) (Nat.le_refl _) _
 have HB4 := qH hB4
 have HO4 := qH ho4
 have hww : w.heap.size ≤ w1.heap.size := Nat.le_of_lt hwl
 have hwl3 := Nat.lt_of_lt_of_le hwl2 hb3.size
 have hfl := efix_le L s
 obtain ⟨k, hk⟩ : ∃ k, efix L s = k := ⟨_, rfl⟩
 have HK := qH hk
 clear hb3 ho3 hB3 hB4 ho4 hwl2 hcl
 rw [hk] at hfl ⊢
 cases hh : ehas L s with
 | true =>
  have hlt := ehas_lt hh
  rw [hk] at hlt
  have hres := qH (And.intro (eput_has (L := L) (e := ⟨s, i⟩) hh) (eput_len_has (x := ⟨s, i⟩) hh))
  obtain ⟨g, c2, cur, rfl, hg, hBg, hnc, hcm, hcs, hct⟩ := HO4.out.row (by omega)
  have e1 := hg.cell (j := k * 2) (List.getElem?_eq_getElem (by omega))
  have e2 := hg.cell (j := k * 2 + 1) (List.getElem?_eq_getElem (by omega))
  have g1 := frozen_of_row _ g (k * 2) _ _ hg
  have g2 := frozen_of_row _ g (k * 2 + 1) _ _ hg
  have q0 : (0 : Int) ≤ (k : Int) := by omega
  have q1 : (k : Int) < (n : Int) := by omega
  have hlt2 : k < n := by omega
  have hgw : w.heap.size ≤ g := by omega
  generalize cur[k * 2] = z1 at e1
  generalize cur[k * 2 + 1] = z2 at e2
  clear hg hct hcs hk hh
  go_wp2_with fail
  go_ret
  refine ⟨_, rfl, ?_, Below.set2 HB4.out hgw⟩
  rw [hres.out.1, List.length_set, hl]
  have := (HO4.out.set hlt2 ⟨s, i⟩).lower hww
  rwa [← HK.out] at this ⊢
 | false =>
  have hres := qH (And.intro (eput_not (L := L) (e := ⟨s, i⟩) hh) (eput_len_not (x := ⟨s, i⟩) hh))
  have hlo := HO4.out.lt
  have hins := insert_any w.heap.size v n k w3.heap.size L ⟨s, i⟩ ((w3.setCell ⟨w.heap.size, 0, none⟩ (.string s)).alloc (.cells #[.string s, .int .i64 i] 77 (0, 0))) ((HO4.out.lower hww).alloc _) (by simp; omega)
   (by have := heap_alloc_new (w3.setCell ⟨w.heap.size, 0, none⟩ (.string s)) (.cells #[.string s, .int .i64 i] 77 (0, 0)); simpa [RowE, ecl] using this)
   (fun g hg e => by have := (hlo g hg).2; simp at this; omega) (by omega) (by omega)
  clear hlo hk hh
  go_wp2_with fail
  refine hins.mono ?_
  rintro e w5 ⟨v5, rfl, ho5, hb5⟩
  have HO5 := qH ho5
  have HB5 := qH ((HB4.out.alloc (by simp; omega) _).trans hb5)
  clear ho5 hb5 hins
  go_wp2_with fail
  go_ret
  refine ⟨_, rfl, ?_, HB5.out⟩
  rw [hres.out.2, hres.out.1, hl, show efix L (En.mk s i).s = k from HK.out]
  exact HO5.out
end Go.Proofs.YtinholnidchblaaGreatDoor
namespace Go.Proofs.YtinholnidchblaaGreatDoor
def Rp (L : List En) : Prop := L.Pairwise fun x y => blt x.s y.s = true
theorem ris_rp : ∀ L : List En, ris L = true ↔ Rp L
 | [] => ⟨fun _ => List.Pairwise.nil, fun _ => rfl⟩
 | [x] => ⟨fun _ => by unfold Rp; simp, fun _ => rfl⟩
 | x :: y :: r => by
  rw [ris, Bool.and_eq_true, ris_rp (y :: r)]
  unfold Rp
  rw [List.pairwise_cons (a := x)]
  constructor
  ·rintro ⟨h, k⟩
   refine ⟨fun z hz => ?_, k⟩
   rcases List.mem_cons.1 hz with rfl | hz
   ·exact h
   ·exact blt_trans h ((List.pairwise_cons.1 k).1 z hz)
  ·rintro ⟨h, k⟩
   exact ⟨h y (by simp), k⟩
theorem Rp.at {L : List En} (h : Rp L) {i j : Nat} (hij : i < j) (hj : j < L.length) : blt (eat L i).s (eat L j).s = true := by
 have := List.pairwise_iff_getElem.1 h i j (by omega) hj hij
 simpa [eat, List.getD, hj, show i < L.length by omega] using this
theorem mem_eat {L : List En} {x : En} (h : x ∈ L) : ∃ i, i < L.length ∧ eat L i = x := by
 obtain ⟨i, hi, rfl⟩ := List.getElem_of_mem h
 exact ⟨i, hi, by simp [eat, List.getD, hi]⟩
theorem mem_take_low {L : List En} {s : ByteArray} {x : En} (h : x ∈ L.take (efix L s)) : blt x.s s = true := by
 obtain ⟨i, hi, rfl⟩ := mem_eat h
 rw [List.length_take] at hi
 rw [eat_take (by omega)]
 exact efix_low L s i (by omega)
theorem mem_drop_high {L : List En} (hL : Rp L) {s : ByteArray} {x : En} (h : x ∈ L.drop (efix L s + if ehas L s then 1 else 0)) : blt s x.s = true := by
 obtain ⟨i, hi, rfl⟩ := mem_eat h
 rw [List.length_drop] at hi
 rw [eat_drop]
 have hlt : efix L s < L.length := by split at hi <;> omega
 cases hh : ehas L s with
 | true =>
  rw [hh] at hi
  rw [if_pos rfl] at hi ⊢
  have he := ehas_at hlt
  rw [hh] at he
  have e := beqS_iff.1 he.symm
  rw [← e]
  have := hL.at (i := efix L s) (j := efix L s + 1 + i) (by omega) (by omega)
  rw [e] at this ⊢
  exact this
 | false =>
  rw [hh] at hi
  rw [if_neg (by decide)] at hi ⊢
  have he := ehas_at hlt
  rw [hh] at he
  have hn := efix_not hlt
  have h0 : blt s (eat L (efix L s)).s = true := by
   cases hb : blt s (eat L (efix L s)).s with
   | true => rfl
   | false =>
    have e := blt_total hn hb; have : beqS (eat L (efix L s)).s s = true := beqS_iff.2 e; rw [this] at he
    cases he
  rw [Nat.add_zero]
  by_cases h0i : i = 0
  ·subst h0i
   rw [Nat.add_zero]
   exact h0
  ·exact blt_trans h0 (hL.at (i := efix L s) (j := efix L s + i) (by omega) (by simp at hi; omega))
theorem rp_put {L : List En} (hL : Rp L) (e : En) : Rp (eput L e) := by
 unfold Rp eput
 rw [List.pairwise_append, List.pairwise_cons]
 refine ⟨List.Pairwise.sublist (List.take_sublist _ _) hL, ⟨fun y hy => mem_drop_high hL hy, List.Pairwise.sublist (List.drop_sublist _ _) hL⟩, fun x hx y hy => ?_⟩
 rcases List.mem_cons.1 hy with rfl | hy
 ·exact mem_take_low hx
 ·exact blt_trans (mem_take_low hx) (mem_drop_high hL hy)
theorem rp_cut {M : List En} (hM : Rp M) (s : ByteArray) : Rp (ecut M s) := List.Pairwise.filter _ hM
theorem has_mem {L : List En} (hL : Rp L) {x : En} (h : x ∈ L) : ehas L x.s = true := by
 obtain ⟨i, hi, rfl⟩ := mem_eat h
 have hlow : LowTo L (eat L i).s i := fun j hj => hL.at hj hi
 obtain ⟨_, h2⟩ := ehas_low hlow hi (blt_irrefl _)
 rw [h2]
 exact beqS_refl _
theorem drop_at_e {ls : List En} {i : Nat} (hi : i < ls.length) : ls.drop i = eat ls i :: ls.drop (i + 1) := by
 rw [List.drop_eq_getElem_cons hi]
 simp [eat, List.getD, hi]
def fnd (E : List En) (s : ByteArray) : Option Nat := if ehas E s then some (inoN (eat E (efix E s))) else none
theorem Rp.nodup {E : List En} (h : Rp E) : E.Nodup := List.Pairwise.imp (fun {a b} hab e => by rw [e, blt_irrefl] at hab; cases hab) h
theorem rp_uniq {E : List En} (h : Rp E) {x y : En} (hx : x ∈ E) (hy : y ∈ E) (e : x.s = y.s) : x = y := by
 obtain ⟨i, hi, rfl⟩ := mem_eat hx
 obtain ⟨j, hj, rfl⟩ := mem_eat hy
 rcases Nat.lt_trichotomy i j with k | k | k
 ·exact absurd e (blt_ne (h.at k hj))
 ·rw [k]
 ·exact absurd e.symm (blt_ne (h.at k hi))
theorem fnd_iff {E : List En} (h : Rp E) {s : ByteArray} {k : Nat} : fnd E s = some k ↔ ∃ x ∈ E, x.s = s ∧ inoN x = k := by
 unfold fnd
 constructor
 ·intro hk
  split at hk
  ·rename_i hh
   have hl := ehas_lt hh; have he := ehas_at hl; rw [hh] at he
   exact ⟨_, eat_mem hl, beqS_iff.1 he.symm, Option.some.inj hk⟩
  ·cases hk
 ·rintro ⟨x, hx, rfl, rfl⟩
  have hh := has_mem h hx
  rw [if_pos hh]
  have hl := ehas_lt hh
  have he := ehas_at hl
  rw [hh] at he
  rw [rp_uniq h (eat_mem hl) hx (beqS_iff.1 he.symm)]
theorem fnd_mem {E : List En} {s : ByteArray} {k : Nat} (h : fnd E s = some k) : k ∈ E.map inoN := by
 unfold fnd at h
 split at h
 ·rename_i hh
  rw [← Option.some.inj h]
  exact List.mem_map.2 ⟨_, eat_mem (ehas_lt hh), rfl⟩
 ·cases h
theorem mem_put2 {E : List En} (hE : Rp E) (e x : En) : x ∈ eput E e ↔ x = e ∨ x ∈ E ∧ x.s ≠ e.s := by
 have hsplit : x ∈ E ↔ x ∈ E.take (efix E e.s) ∨ x ∈ E.drop (efix E e.s) := by rw [← List.mem_append, List.take_append_drop]
 unfold eput
 rw [List.mem_append, List.mem_cons]
 constructor
 ·rintro (h | h | h)
  ·exact .inr ⟨List.mem_of_mem_take h, blt_ne (mem_take_low h)⟩
  ·exact .inl h
  ·exact .inr ⟨List.mem_of_mem_drop h, (blt_ne (mem_drop_high hE h)).symm⟩
 ·rintro (h | ⟨h, hne⟩)
  ·exact .inr (.inl h)
  ·rcases hsplit.1 h with h | h
   ·exact .inl h
   ·refine .inr (.inr ?_)
    cases hh : ehas E e.s with
    | false => rw [if_neg (by decide), Nat.add_zero]; exact h
    | true =>
     have hl := ehas_lt hh; have he := ehas_at hl; rw [hh] at he; rw [drop_at_e hl, List.mem_cons] at h; rw [if_pos rfl]
     rcases h with rfl | h
     ·exact absurd (beqS_iff.1 he.symm) hne
     ·exact h
theorem mem_cut {E : List En} {s : ByteArray} {x : En} : x ∈ ecut E s ↔ x ∈ E ∧ x.s ≠ s := by
 unfold ecut
 rw [List.mem_filter]
 constructor
 ·rintro ⟨h, k⟩
  refine ⟨h, fun e => ?_⟩
  rw [beqS_iff.2 e] at k; cases k
 ·rintro ⟨h, k⟩
  refine ⟨h, ?_⟩
  cases hb : beqS x.s s with
  | false => rfl
  | true => exact absurd (beqS_iff.1 hb) k
theorem eput_perm {E : List En} (h : Rp E) (e : En) : (eput E e).Perm (e :: ecut E e.s) := by
 rw [List.perm_ext_iff_of_nodup (rp_put h e).nodup]
 ·intro x
  rw [mem_put2 h, List.mem_cons, mem_cut]
 ·rw [List.nodup_cons]
  exact ⟨fun hm => (mem_cut.1 hm).2 rfl, (rp_cut h _).nodup⟩
theorem ecut_perm {E : List En} (h : Rp E) {x : En} (hx : x ∈ E) : E.Perm (x :: ecut E x.s) := by
 rw [List.perm_ext_iff_of_nodup h.nodup]
 ·intro y
  rw [List.mem_cons, mem_cut]
  constructor
  ·intro hy
   by_cases e : y.s = x.s
   ·exact .inl (rp_uniq h hy hx e)
   ·exact .inr ⟨hy, e⟩
  ·rintro (rfl | h)
   ·exact hx
   ·exact h.1
 ·rw [List.nodup_cons]
  exact ⟨fun hm => (mem_cut.1 hm).2 rfl, (rp_cut h _).nodup⟩
theorem count_put {E : List En} (h : Rp E) (e : En) (i : Nat) : ((eput E e).map inoN).count i = ((ecut E e.s).map inoN).count i + if inoN e = i then 1 else 0 := by
 rw [((eput_perm h e).map inoN).count_eq, List.map_cons, List.count_cons]
 by_cases e : inoN e = i
 ·simp [e]
 ·simp [e]
theorem count_cut {E : List En} (h : Rp E) {s : ByteArray} {k : Nat} (hk : fnd E s = some k) (i : Nat) : (E.map inoN).count i = ((ecut E s).map inoN).count i + if k = i then 1 else 0 := by
 obtain ⟨x, hx, rfl, rfl⟩ := (fnd_iff h).1 hk
 rw [((ecut_perm h hx).map inoN).count_eq, List.map_cons, List.count_cons]
 by_cases e : inoN x = i
 ·simp [e]
 ·simp [e]
theorem count_cut_le {E : List En} (s : ByteArray) (i : Nat) : ((ecut E s).map inoN).count i ≤ (E.map inoN).count i := by
 exact List.Sublist.count_le i (List.filter_sublist.map inoN)
theorem len_put {E : List En} (h : Rp E) (e : En) : (eput E e).length = (ecut E e.s).length + 1 := by rw [(eput_perm h e).length_eq, List.length_cons]
theorem len_cut {E : List En} (h : Rp E) {s : ByteArray} {k : Nat} (hk : fnd E s = some k) : E.length = (ecut E s).length + 1 := by
 obtain ⟨x, hx, rfl, rfl⟩ := (fnd_iff h).1 hk
 rw [(ecut_perm h hx).length_eq, List.length_cons]
theorem len_cut_le (E : List En) (s : ByteArray) : (ecut E s).length ≤ E.length := List.length_filter_le _ _
def setE (L : List Nd) (a : Nat) (E : List En) : List Nd := L.set a { nat L a with e := E }
theorem setE_len (L : List Nd) (a : Nat) (E : List En) : (setE L a E).length = L.length := by simp [setE]
theorem nat_setE {L : List Nd} {a : Nat} (h : a < L.length) (E : List En) (j : Nat) : nat (setE L a E) j = if a = j then { nat L a with e := E } else nat L j := nat_set L a j _ h
theorem isD_setE {L : List Nd} {a : Nat} (h : a < L.length) (E : List En) (j : Nat) : isD (nat (setE L a E) j) = isD (nat L j) := by
 rw [nat_setE h]
 split
 ·rename_i e; rw [← e]; rfl
 ·rfl
theorem chs_setE {L : List Nd} {a : Nat} (h : a < L.length) (E : List En) (j : Nat) : chs (setE L a E) j = if a = j then E.map inoN else chs L j := by
 simp only [chs]
 rw [nat_setE h]
 split
 ·rfl
 ·rfl
theorem sum_one {g g' : Nat → Nat} {a : Nat} (hg : ∀ j, j ≠ a → g j = g' j) : ∀ {n : Nat}, a < n → ((List.range n).map g).sum + g' a = ((List.range n).map g').sum + g a
 | 0, h => by omega
 | n + 1, h => by
  rw [List.range_succ, List.map_append, List.map_append, List.sum_append, List.sum_append]
  simp only [List.map_cons, List.map_nil, List.sum_cons, List.sum_nil]
  by_cases e : a = n
  ·subst e
   have : (List.range a).map g = (List.range a).map g' := List.map_congr_left fun j hj => hg j (by have := List.mem_range.1 hj; omega)
   rw [this]; omega
  ·have := sum_one hg (n := n) (by omega)
   have := hg n (fun e' => e e'.symm)
   omega
theorem up_setE {L : List Nd} {a : Nat} (h : a < L.length) (E : List En) (i : Nat) : up (setE L a E) i + ((nat L a).e.map inoN).count i = up L i + (E.map inoN).count i := by
 have := sum_one (g := fun j => (chs (setE L a E) j).count i) (g' := fun j => (chs L j).count i) (a := a) (fun j hj => by
  rw [chs_setE h, if_neg (fun e => hj e.symm)]) h
 rw [chs_setE h, if_pos rfl] at this
 simp only [up, setE_len]
 exact this
def entOk (n : Nat) (E : List En) : Prop := E.length ≤ 64 ∧ (∀ y ∈ E, nmB y.s.data.toList = true ∧ 1 ≤ y.i ∧ y.i < n) ∧ ris E = true
theorem dirOk.ent {n : Nat} {x : Nd} (h : dirOk n x) : entOk n x.e := ⟨h.2.2.1, h.2.2.2.1, h.2.2.2.2⟩
theorem entOk.rp {n : Nat} {E : List En} (h : entOk n E) : Rp E := (ris_rp E).1 h.2.2
theorem Snd.dir {L : List Nd} (h : Snd L) {a : Nat} (ha : a < L.length) (hd : isD (nat L a) = true) : dirOk L.length (nat L a) := by
 rcases h.node a ha with k | k
 ·rw [isD_file k] at hd; cases hd
 ·exact k
theorem Snd.file {L : List Nd} (h : Snd L) {a : Nat} (ha : a < L.length) (hd : isD (nat L a) = false) : fileOk (nat L a) := by
 rcases h.node a ha with k | k
 ·exact k
 ·rw [isD_dir k] at hd; cases hd
theorem Snd.rp {L : List Nd} (h : Snd L) (a : Nat) : Rp (nat L a).e := by
 by_cases ha : a < L.length
 ·rcases h.node a ha with k | k
  ·rw [k.2.1]; exact List.Pairwise.nil
  ·exact k.ent.rp
 ·rw [nat_out (by omega)]; exact List.Pairwise.nil
theorem entOk.put {n : Nat} {E : List En} (h : entOk n E) {e : En} (hn : nmB e.s.data.toList = true) (h1 : 1 ≤ e.i) (h2 : e.i < n) (hl : (ecut E e.s).length < 64) : entOk n (eput E e) := by
 refine ⟨by rw [len_put h.rp]; omega, fun y hy => ?_, (ris_rp _).2 (rp_put h.rp e)⟩
 rcases (mem_put2 h.rp e y).1 hy with rfl | hy
 ·exact ⟨hn, h1, h2⟩
 ·exact h.2.1 y hy.1
theorem entOk.cut {n : Nat} {E : List En} (h : entOk n E) (s : ByteArray) : entOk n (ecut E s) :=
 ⟨Nat.le_trans (len_cut_le E s) h.1, fun y hy => h.2.1 y (mem_cut.1 hy).1, (ris_rp _).2 (rp_cut h.rp s)⟩
theorem Snd.setE {L : List Nd} (h : Snd L) {a : Nat} (ha : a < L.length) (hd : isD (nat L a) = true) {E : List En} (hE : entOk L.length E)
  (hf : ∀ i, i < L.length → isD (nat L i) = false → up (Go.Proofs.YtinholnidchblaaGreatDoor.setE L a E) i ≤ 200) (ho : ∀ i, 0 < i → i < L.length → isD (nat L i) = true → up (Go.Proofs.YtinholnidchblaaGreatDoor.setE L a E) i ≤ 1) : Snd (Go.Proofs.YtinholnidchblaaGreatDoor.setE L a E) := by
 refine ⟨by rw [setE_len]; exact h.pos, by rw [setE_len]; exact h.few, by rw [isD_setE ha]; exact h.root, fun i hi => ?_, fun i hi hdi => ?_, fun i h0 hi hdi => ?_⟩
 ·rw [setE_len] at hi ⊢
  rw [nat_setE ha]
  split
  ·have := h.dir ha hd
   exact .inr ⟨this.1, this.2.1, hE.1, hE.2.1, hE.2.2⟩
  ·exact h.node i hi
 ·rw [setE_len] at hi
  rw [isD_setE ha] at hdi
  exact hf i hi hdi
 ·rw [setE_len] at hi
  rw [isD_setE ha] at hdi
  exact ho i h0 hi hdi
theorem Snd.cut {L : List Nd} (h : Snd L) {a : Nat} (ha : a < L.length) (hd : isD (nat L a) = true) (s : ByteArray) : Snd (Go.Proofs.YtinholnidchblaaGreatDoor.setE L a (ecut (nat L a).e s)) ∧ ∀ i, up (Go.Proofs.YtinholnidchblaaGreatDoor.setE L a (ecut (nat L a).e s)) i ≤ up L i := by
 have hu : ∀ i, up (Go.Proofs.YtinholnidchblaaGreatDoor.setE L a (ecut (nat L a).e s)) i ≤ up L i := fun i => by
  have h1 := up_setE ha (ecut (nat L a).e s) i
  have h2 := count_cut_le (E := (nat L a).e) s i
  omega
 exact ⟨h.setE ha hd ((h.dir ha hd).ent.cut s) (fun i hi hdi => Nat.le_trans (hu i) (h.many i hi hdi)) (fun i h0 hi hdi => Nat.le_trans (hu i) (h.one i h0 hi hdi)), hu⟩
theorem up_cut {L : List Nd} (h : Snd L) {a : Nat} (ha : a < L.length) {s : ByteArray} {k : Nat} (hk : fnd (nat L a).e s = some k) (i : Nat) : up L i = up (Go.Proofs.YtinholnidchblaaGreatDoor.setE L a (ecut (nat L a).e s)) i + if k = i then 1 else 0 := by
 have h1 := up_setE ha (ecut (nat L a).e s) i
 have h2 := count_cut (h.rp a) hk i
 omega
theorem Snd.put {L : List Nd} (h : Snd L) {a : Nat} (ha : a < L.length) (hd : isD (nat L a) = true) {s : ByteArray} {k : Nat} (hs : nmB s.data.toList = true) (hk : 1 ≤ k) (hkl : k < L.length) (hl : (ecut (nat L a).e s).length < 64)
  (hu : if isD (nat L k) then up L k = 0 else up L k < 200) : Snd (Go.Proofs.YtinholnidchblaaGreatDoor.setE L a (eput (nat L a).e ⟨s, (k : Int)⟩)) := by
 have h0 : ∀ i, up (Go.Proofs.YtinholnidchblaaGreatDoor.setE L a (eput (nat L a).e ⟨s, (k : Int)⟩)) i ≤ up L i + if k = i then 1 else 0 := fun i => by
  have h1 := up_setE ha (eput (nat L a).e ⟨s, (k : Int)⟩) i
  have h2 := count_put (h.rp a) ⟨s, (k : Int)⟩ i
  have h3 := count_cut_le (E := (nat L a).e) s i
  have h4 : inoN ⟨s, (k : Int)⟩ = k := by simp [inoN]
  rw [h4] at h2
  simp only at h2
  omega
 refine h.setE ha hd ((h.dir ha hd).ent.put hs (by simp only; omega) (by simp only; omega) hl) (fun i hi hdi => ?_) (fun i h1 hi hdi => ?_)
 ·refine Nat.le_trans (h0 i) ?_
  split
  ·rename_i e
   subst e; rw [hdi, if_neg (by decide)] at hu
   omega
  ·have := h.many i hi hdi; omega
 ·refine Nat.le_trans (h0 i) ?_
  split
  ·rename_i e
   subst e; rw [hdi, if_pos rfl] at hu
   omega
  ·have := h.one i h1 hi hdi; omega
def setD (L : List Nd) (a : Nat) (b : List Int) : List Nd := L.set a { nat L a with d := b }
theorem setD_len (L : List Nd) (a : Nat) (b : List Int) : (setD L a b).length = L.length := by simp [setD]
theorem nat_setD {L : List Nd} {a : Nat} (h : a < L.length) (b : List Int) (j : Nat) : nat (setD L a b) j = if a = j then { nat L a with d := b } else nat L j := nat_set L a j _ h
theorem isD_setD {L : List Nd} {a : Nat} (h : a < L.length) (b : List Int) (j : Nat) : isD (nat (setD L a b) j) = isD (nat L j) := by
 rw [nat_setD h]
 split
 ·rename_i e; rw [← e]; rfl
 ·rfl
theorem nat_setD_e {L : List Nd} {a : Nat} (h : a < L.length) (b : List Int) (j : Nat) : (nat (setD L a b) j).e = (nat L j).e ∧ (nat (setD L a b) j).l = (nat L j).l := by
 rw [nat_setD h]
 split
 ·rename_i e; rw [← e]; exact ⟨rfl, rfl⟩
 ·exact ⟨rfl, rfl⟩
theorem chs_setD {L : List Nd} {a : Nat} (h : a < L.length) (b : List Int) : chs (setD L a b) = chs L := by
 funext j
 simp only [chs, inos, (nat_setD_e h b j).1]
theorem up_setD {L : List Nd} {a : Nat} (h : a < L.length) (b : List Int) (i : Nat) : up (setD L a b) i = up L i := by simp only [up, setD_len, chs_setD h]
theorem lnk_setD {L : List Nd} {a : Nat} (h : a < L.length) (b : List Int) (i : Nat) : lnk (setD L a b) i = lnk L i := by
 simp only [lnk, isD_setD h, up_setD h, inos, (nat_setD_e h b i).1]
theorem Rgt.setD {L : List Nd} (h : Rgt L) {a : Nat} (ha : a < L.length) (hd : isD (nat L a) = false) {b : List Int} (hb : b.length ≤ 46368) : Rgt (Go.Proofs.YtinholnidchblaaGreatDoor.setD L a b) := by
 refine ⟨by rw [setD_len]; exact h.pos, by rw [setD_len]; exact h.few, by rw [isD_setD ha]; exact h.root, fun i hi => ?_, by rw [chs_setD ha, setD_len]; exact h.met, fun i hi => ?_, fun i h0 hi hdi => ?_⟩
 ·rw [setD_len] at hi ⊢
  rw [nat_setD ha]
  split
  ·rename_i e
   subst e
   rcases h.node a ha with k | k
   ·exact .inl ⟨⟨k.1.1, k.1.2.1, hb⟩, k.2⟩
   ·rw [isD_dir k] at hd; cases hd
  ·exact h.node i hi
 ·rw [setD_len] at hi
  rw [lnk_setD ha, (nat_setD_e ha b i).2]; exact h.link i hi
 ·rw [setD_len] at hi
  rw [isD_setD ha] at hdi
  rw [up_setD ha]; exact h.one i h0 hi hdi
theorem nat_snoc (L : List Nd) (x : Nd) (j : Nat) : nat (L ++ [x]) j = if j = L.length then x else nat L j := by
 simp only [nat, List.getD_eq_getElem?_getD]
 by_cases h : j < L.length
 ·rw [if_neg (by omega), List.getElem?_append_left h]
 ·rw [List.getElem?_append_right (by omega)]
  by_cases e : j = L.length
  ·subst e; simp
  ·rw [if_neg e, List.getElem?_eq_none (by simp; omega), List.getElem?_eq_none (by omega)]
theorem Snd.snoc {L : List Nd} (h : Snd L) (hf : L.length < 56) {x : Nd} (hx : fileOk x ∨ x.k = 2 ∧ x.d = []) (he : x.e = []) : Snd (L ++ [x]) ∧ (∀ i, up (L ++ [x]) i = up L i) ∧ up L L.length = 0 := by
 have hlen : (L ++ [x]).length = L.length + 1 := by simp
 have hch : ∀ j, chs (L ++ [x]) j = chs L j := fun j => by
  simp only [chs]
  rw [nat_snoc]
  split
  ·rename_i e
   rw [nat_out (by omega), inos, he]; rfl
  ·rfl
 have hu : ∀ i, up (L ++ [x]) i = up L i := fun i => by
  simp only [up, hlen, List.range_succ, List.map_append, List.sum_append, List.map_cons, List.map_nil, List.sum_cons, List.sum_nil, hch]
  have : chs L L.length = [] := by simp only [chs]; rw [nat_out (Nat.le_refl _)]; rfl
  rw [this]; simp
 have h0 : up L L.length = 0 := by
  simp only [up]
  have : (List.range L.length).map (fun a => (chs L a).count L.length) = (List.range L.length).map fun _ => 0 := by
   refine List.map_congr_left fun a ha => ?_
   rw [List.count_eq_zero]; intro hm; have := (h.ino (List.mem_range.1 ha) _ hm).2
   omega
  rw [this]
  simp [List.map_const', List.sum_replicate_nat]
 refine ⟨⟨by omega, by omega, ?_, fun i hi => ?_, fun i hi hd => ?_, fun i hp hi hd => ?_⟩, hu, h0⟩
 ·rw [nat_snoc, if_neg (by have := h.pos; omega)]; exact h.root
 ·rw [nat_snoc]
  split
  ·rcases hx with hx | hx
   ·exact .inl hx
   ·exact .inr ⟨hx.1, hx.2, by rw [he]; simp, (fun y hy => by rw [he] at hy; cases hy), by rw [he]; rfl⟩
  ·rcases h.node i (by omega) with k | k
   ·exact .inl k
   ·refine .inr ⟨k.1, k.2.1, k.2.2.1, fun y hy => ?_, k.2.2.2.2⟩
    have := k.2.2.2.1 y hy
    exact ⟨this.1, this.2.1, by omega⟩
 ·rw [hu]
  by_cases e : i = L.length
  ·rw [e, h0]; omega
  ·rw [nat_snoc, if_neg e] at hd
   exact h.many i (by omega) hd
 ·rw [hu]
  by_cases e : i = L.length
  ·rw [e, h0]; omega
  ·rw [nat_snoc, if_neg e] at hd
   exact h.one i hp (by omega) hd
def wlk (L : List Nd) : Nat → List ByteArray → Except Int Nat
 | a, [] => .ok a
 | a, n :: ns => if isD (nat L a) then (match fnd (nat L a).e n with | some k => wlk L k ns | none => .error 21) else .error 22
theorem wlk_nil (L : List Nd) (a : Nat) : wlk L a [] = .ok a := rfl
theorem wlk_yes {L : List Nd} {a : Nat} {n : ByteArray} {ns : List ByteArray} {k : Nat} (hd : isD (nat L a) = true) (hf : fnd (nat L a).e n = some k) : wlk L a (n :: ns) = wlk L k ns := by rw [wlk, if_pos hd, hf]
theorem wlk_none {L : List Nd} {a : Nat} {n : ByteArray} {ns : List ByteArray} (hd : isD (nat L a) = true) (hf : fnd (nat L a).e n = none) : wlk L a (n :: ns) = .error 21 := by rw [wlk, if_pos hd, hf]
theorem wlk_file {L : List Nd} {a : Nat} {n : ByteArray} {ns : List ByteArray} (hd : isD (nat L a) = false) : wlk L a (n :: ns) = .error 22 := by rw [wlk, hd, if_neg (by decide)]
theorem wlk_cons_ok {L : List Nd} {a b : Nat} {n : ByteArray} {ns : List ByteArray} (h : wlk L a (n :: ns) = .ok b) : isD (nat L a) = true ∧ ∃ k, fnd (nat L a).e n = some k ∧ wlk L k ns = .ok b := by
 cases hd : isD (nat L a) with
 | false => rw [wlk_file hd] at h; cases h
 | true =>
  cases hf : fnd (nat L a).e n with
  | none => rw [wlk_none hd hf] at h; cases h
  | some k => rw [wlk_yes hd hf] at h; exact ⟨rfl, k, rfl, h⟩
theorem fnd_ino {L : List Nd} {a k : Nat} {n : ByteArray} (h : fnd (nat L a).e n = some k) : k ∈ chs L a := fnd_mem h
theorem wlk_in {L : List Nd} {S : Nat → Prop} (hc : ∀ x, S x → ∀ k ∈ chs L x, S k) : ∀ {ns : List ByteArray} {a b : Nat}, S a → wlk L a ns = .ok b → S b
 | [], a, b, ha, h => by cases h; exact ha
 | n :: ns, a, b, ha, h => by
  obtain ⟨_, k, hf, h⟩ := wlk_cons_ok h
  exact wlk_in hc (hc a ha k (fnd_ino hf)) h
theorem Snd.wlklt {L : List Nd} (h : Snd L) {ns : List ByteArray} {b : Nat} (hw : wlk L 0 ns = .ok b) : b < L.length :=
 wlk_in (S := (· < L.length)) h.lt (by have := h.pos; omega) hw
theorem wlk_app (L : List Nd) : ∀ (ns ms : List ByteArray) (a : Nat), wlk L a (ns ++ ms) = match wlk L a ns with | .ok b => wlk L b ms | .error e => .error e
 | [], ms, a => rfl
 | n :: ns, ms, a => by
  rw [List.cons_append]
  cases hd : isD (nat L a) with
  | false => rw [wlk_file hd, wlk_file hd]
  | true =>
   cases hf : fnd (nat L a).e n with
   | none => rw [wlk_none hd hf, wlk_none hd hf]
   | some k => rw [wlk_yes hd hf, wlk_yes hd hf]; exact wlk_app L ns ms k
theorem wlk_app_ok {L : List Nd} {ns ms : List ByteArray} {a b : Nat} (h : wlk L a ns = .ok b) : wlk L a (ns ++ ms) = wlk L b ms := by rw [wlk_app, h]
theorem wlk_snoc_ok {L : List Nd} {ns : List ByteArray} {n : ByteArray} {a b : Nat} (h : wlk L a (ns ++ [n]) = .ok b) : ∃ c, wlk L a ns = .ok c ∧ isD (nat L c) = true ∧ fnd (nat L c).e n = some b := by
 rw [wlk_app] at h
 cases hw : wlk L a ns with
 | error e => rw [hw] at h; cases h
 | ok c =>
  rw [hw] at h
  obtain ⟨hd, k, hf, hk⟩ := wlk_cons_ok h
  cases hk
  exact ⟨c, rfl, hd, hf⟩
theorem snoc_of_ne {α : Type} {l : List α} (h : l ≠ []) : ∃ p x, l = p ++ [x] := ⟨l.dropLast, l.getLast h, (List.dropLast_concat_getLast h).symm⟩
end Go.Proofs.YtinholnidchblaaGreatDoor
