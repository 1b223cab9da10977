/-
  slices.Insert of one entry into a row of the call's own, by contract.
-/
import Derived.Test.YtiedapiepklhlaaRw
namespace Go.Proofs.Ytiedapiepklhlaa
open Go.RowKit
set_option linter.unusedVariables false
set_option linter.unusedSimpArgs false

theorem sp_len {α : Type} {L : List α} {p : Nat} {cs : List α} (h : p + cs.length ≤ L.length) : (splice L p cs).length = L.length := length_splice L p cs h
theorem sp_take {α : Type} {L : List α} {p : Nat} {cs : List α} (h : p ≤ L.length) : (splice L p cs).take (p + cs.length) = L.take p ++ cs := by
  unfold splice
  rw [← List.append_assoc]
  exact List.take_left' (by rw [List.length_append, List.length_take]; omega)
theorem sp_low {α : Type} {L : List α} {p k : Nat} {cs : List α} (h : p ≤ L.length) (hk : k ≤ p) : (splice L p cs).take k = L.take k := by
  unfold splice
  rw [List.take_append_of_le_length (by rw [List.length_take]; omega), List.take_take, Nat.min_eq_left hk]
theorem sp_mid {α : Type} {L : List α} {p : Nat} {cs : List α} (h : p ≤ L.length) : ((splice L p cs).drop p).take cs.length = cs := by
  unfold splice
  rw [List.drop_left' (by rw [List.length_take]; omega)]
  exact List.take_left' rfl
theorem eflat_take (L : List En) (i : Nat) : (L.flatMap ecl).take (i * 2) = (L.take i).flatMap ecl := by
  rcases Nat.lt_or_ge i L.length with h | h
  · conv => lhs; rw [← List.take_append_drop i L, List.flatMap_append]
    exact List.take_left' (by rw [eflat_len, List.length_take]; omega)
  · rw [List.take_of_length_le (l := L) h, List.take_of_length_le (by rw [eflat_len]; omega)]
theorem row_front {cur : List Value} {L : List En} {n i : Nat} (ht : cur.take (n * 2) = L.flatMap ecl) (hi : i ≤ n) : cur.take (i * 2) = (L.take i).flatMap ecl := by
  rw [← eflat_take, ← ht, List.take_take, Nat.min_eq_left (by omega)]
/-- In place: first what is behind is moved, then the entry is laid. -/
theorem ins_place {cur : List Value} {L : List En} {n i c : Nat} {e : En} (hs : cur.length = c * 2) (hl : L.length = n) (ht : cur.take (n * 2) = L.flatMap ecl) (hi : i < n) (hc : n + 1 ≤ c) :
    (splice (splice cur ((i + 1) * 2) ((L.drop i).flatMap ecl)) (i * 2) (ecl e)).length = c * 2 ∧ (splice (splice cur ((i + 1) * 2) ((L.drop i).flatMap ecl)) (i * 2) (ecl e)).take ((n + 1) * 2) = (L.take i ++ e :: L.drop i).flatMap ecl := by
  have hd : ((L.drop i).flatMap ecl).length = (n - i) * 2 := by rw [eflat_len, List.length_drop, hl]
  have he : (ecl e).length = 2 := rfl
  obtain ⟨D, hD⟩ : ∃ D, D = (L.drop i).flatMap ecl := ⟨_, rfl⟩
  obtain ⟨X, hX⟩ : ∃ X, X = splice cur ((i + 1) * 2) D := ⟨_, rfl⟩
  rw [← hD] at hd ⊢
  rw [← hX]
  have hXl : X.length = c * 2 := by rw [hX, sp_len (by omega), hs]
  refine ⟨by rw [sp_len (by omega), hXl], ?_⟩
  have h1 : (splice X (i * 2) (ecl e)).take ((n + 1) * 2) = X.take (i * 2) ++ ecl e ++ (X.drop ((i + 1) * 2)).take ((n - i) * 2) := by
    unfold splice
    rw [← List.append_assoc, List.take_append, List.take_of_length_le (by rw [List.length_append, List.length_take]; omega)]
    congr 2
    · rw [List.length_append, List.length_take, he]; omega
    · rw [he]; congr 1; omega
  rw [h1, List.flatMap_append, List.flatMap_cons, ← hD, ← row_front ht (by omega), ← List.append_assoc]
  congr 1
  · rw [hX, sp_low (by omega) (by omega)]
  · have := sp_mid (L := cur) (p := (i + 1) * 2) (cs := D) (by omega)
    rw [hX, ← hd, this]
/-- In a new row: first the entry is laid, then what is behind. -/
theorem ins_grow {cur : List Value} {L : List En} {n i C : Nat} {e : En} (hs : cur.length = C * 2) (hl : L.length = n) (ht : cur.take (i * 2) = (L.take i).flatMap ecl) (hi : i < n) (hc : n + 1 ≤ C) :
    (splice (splice cur (i * 2) (ecl e)) ((i + 1) * 2) ((L.drop i).flatMap ecl)).length = C * 2 ∧ (splice (splice cur (i * 2) (ecl e)) ((i + 1) * 2) ((L.drop i).flatMap ecl)).take ((n + 1) * 2) = (L.take i ++ e :: L.drop i).flatMap ecl := by
  have hd : ((L.drop i).flatMap ecl).length = (n - i) * 2 := by rw [eflat_len, List.length_drop, hl]
  have he : (ecl e).length = 2 := rfl
  obtain ⟨D, hD⟩ : ∃ D, D = (L.drop i).flatMap ecl := ⟨_, rfl⟩
  obtain ⟨X, hX⟩ : ∃ X, X = splice cur (i * 2) (ecl e) := ⟨_, rfl⟩
  rw [← hD] at hd ⊢
  rw [← hX]
  have hXl : X.length = C * 2 := by rw [hX, sp_len (by omega), hs]
  refine ⟨by rw [sp_len (by omega), hXl], ?_⟩
  have h1 := sp_take (L := X) (p := (i + 1) * 2) (cs := D) (by omega)
  rw [show (i + 1) * 2 + D.length = (n + 1) * 2 by omega] at h1
  rw [h1, List.flatMap_append, List.flatMap_cons, ← hD, ← ht, ← List.append_assoc]
  congr 1
  have h2 := sp_take (L := cur) (p := i * 2) (cs := ecl e) (by omega)
  rw [hX, show (i + 1) * 2 = i * 2 + (ecl e).length by rw [he]; omega, h2]
/-- What Insert answers. -/
def InsPost (B : Nat) (w : World) (n : Nat) (L : List En) (e : Ending) (w' : World) : Prop := ∃ v', e = .returned v' ∧ OwnE w' B v' n L ∧ Below B w w'
theorem take_end {L : List En} {n : Nat} {e : En} (hl : L.length = n) : L.take n ++ e :: L.drop n = L ++ [e] := by
  rw [List.take_of_length_le (by omega), List.drop_of_length_le (by omega)]
theorem ecl_ens {w : World} {vb : Nat} {e : En} (hv : RowE w vb (ecl e)) : Ens w (some ⟨vb, 0, none⟩) 1 [e] :=
  ⟨rfl, .inr ⟨vb, 0, rfl, hv.lt, fun i hi => by
    rcases (by omega : i = 0) with rfl
    exact ⟨hv.cell rfl, hv.cell rfl⟩⟩⟩
set_option maxHeartbeats 4000000 in
/-- Behind all others. -/
theorem insert_end (B : Nat) (v : Value) (n vb : Nat) (L : List En) (e : En) (w : World) (ho : OwnE w B v n L) (hB : B ≤ w.heap.size) (hv : RowE w vb (ecl e)) (hbig : n ≤ 1000000) :
    Calls Try.prog 33 #[v, .int .i64 n, .slice (some ⟨vb, 0, none⟩) 1 1] w (InsPost B w (n + 1) (L.take n ++ e :: L.drop n)) := by
  rw [take_end ho.len]
  obtain ⟨a, c, rfl, hE, hnc, hcm, hz, hlo⟩ := ho.ens
  have HO := Lib.hid ho
  have HV := Lib.hid (ecl_ens hv)
  have HB := Lib.hid (Below.refl B w)
  clear ho hv hE hlo
  cases a with
  | none =>
    obtain ⟨rfl, rfl⟩ := hz rfl
    go_enter Try.func33, Try.ntmps33
    go_wp2_with (at_builtin; go_must (refine wpList_ape rfl (.tmp 23) (.tmp 24) rfl B _ 0 L rfl HO.out (some ⟨vb, 0, none⟩) 1 1 [e] rfl HV.out (fun h => by cases h) (by omega) hB w HB.out ?_); intro v4 w4 ho4 hb4)
    have HO4 := Lib.hid ho4
    have HB4 := Lib.hid hb4
    clear ho4 hb4
    go_wp2_with (fail)
    go_ret
    exact ⟨_, rfl, HO4.out, HB4.out⟩
  | some p =>
    have k0 : (0 : Int) ≤ (n : Int) := by omega
    have k1 : (n : Int) ≤ (n : Int) := by omega
    clear hz
    by_cases hcn : c = n
    · subst hcn
      go_enter Try.func33, Try.ntmps33
      go_wp2_with (at_builtin; go_must (refine wpList_ape rfl (.tmp 23) (.tmp 24) rfl B _ c L rfl HO.out (some ⟨vb, 0, none⟩) 1 1 [e] rfl HV.out (fun h => by cases h) (by omega) hB w HB.out ?_); intro v4 w4 ho4 hb4)
      have HO4 := Lib.hid ho4
      have HB4 := Lib.hid hb4
      clear ho4 hb4
      go_wp2_with (fail)
      go_ret
      exact ⟨_, rfl, HO4.out, HB4.out⟩
    · go_enter Try.func33, Try.ntmps33
      go_wp2_with (at_builtin; go_must (refine wpList_ape rfl (.tmp 23) (.tmp 24) rfl B _ n L rfl HO.out (some ⟨vb, 0, none⟩) 1 1 [e] rfl HV.out (fun h => by cases h) (by omega) hB w HB.out ?_); intro v4 w4 ho4 hb4)
      have HO4 := Lib.hid ho4
      have HB4 := Lib.hid hb4
      clear ho4 hb4
      go_wp2_with (fail)
      go_ret
      exact ⟨_, rfl, HO4.out, HB4.out⟩
set_option maxHeartbeats 4000000 in
/-- In the middle, where there is room. -/
theorem insert_shift (B g n c i vb : Nat) (cur : List Value) (L : List En) (e : En) (w : World) (hg : RowE w g cur) (hB : B ≤ g) (hnc : n ≤ c) (hcm : c ≤ maxLen) (hs : cur.length = c * 2) (hl : L.length = n) (ht : cur.take (n * 2) = L.flatMap ecl) (hv : RowE w vb (ecl e)) (hne : vb ≠ g) (hi : i < n) (hroom : n + 1 ≤ c) (hbig : n ≤ 1000000) :
    Calls Try.prog 33 #[.slice (some ⟨g, 0, none⟩) n c, .int .i64 i, .slice (some ⟨vb, 0, none⟩) 1 1] w (InsPost B w (n + 1) (L.take i ++ e :: L.drop i)) := by
  have hov := fun p => overlaps_no (p := p) hg hv hne (by omega : cur.length ≠ 0)
  have hE := (OwnE.ens (hg.own (B := B) hB hnc hcm hs hl ht))
  obtain ⟨_, _, hq, hE, _⟩ := hE
  cases hq
  have hEd := hE.drop (k := i)
  have hd : ((L.drop i).flatMap ecl).length = (n - i) * 2 := by rw [eflat_len, List.length_drop, hl]
  have HG := Lib.hid hg
  have HV := Lib.hid hv
  have HP := Lib.hid (ins_place (e := e) hs hl ht hi hroom)
  rw [Nat.zero_add] at hEd
  have HE := Lib.hid hEd
  have HE2 := Lib.hid (show ∀ j v, ((L.drop i).flatMap ecl)[j]? = some v → w.drew.cell? ((⟨g, i * 2, none⟩ : Addr).add j) = some v from fun j v hj => hEd.cells j v hj)
  have HT := Lib.hid (And.intro hB (And.intro hl (And.intro hs hd)))
  have HNE := Lib.hid hne
  have hcx : c ≤ 9223372036854775807 := by unfold maxLen at hcm; omega
  have v1 : IntKind.i64.wrap ((n : Int) + 1) = (n : Int) + 1 := IntWalk.i64_in _ (by omega)
  have v2 : IntKind.i64.wrap ((i : Int) + 1) = (i : Int) + 1 := IntWalk.i64_in _ (by omega)
  have k1 : ¬ (c : Int) < (n : Int) + 1 := by omega
  have k2 : ((i : Int) == (n : Int)) = false := beq_eq_false_iff_ne.2 (by omega)
  have k3 : (0 : Int) ≤ (i : Int) + 1 := by omega
  have k4 : (i : Int) + 1 ≤ (n : Int) + 1 := by omega
  have k5 : (i : Int) ≤ (n : Int) := by omega
  have k6 : (i : Int) ≤ (n : Int) + 1 := by omega
  have k7 : ¬ (c = i) := by omega
  have k8 : ¬ (c = i + 1) := by omega
  have k9 : (n : Int) + 1 ≤ (c : Int) := by omega
  have t1 : ((i : Int) + 1).toNat = i + 1 := by omega
  have t2 : ((n : Int) + 1).toNat = n + 1 := by omega
  clear hg hv hne ht hs hl hd hE hEd hB
  go_enter Try.func33, Try.ntmps33
  go_wp2_with (simp only [hov])
  go_region_law (refine step_copyE rfl (.tmp 73) (.tmp 76) rfl g ((i + 1) * 2) (n + 1 - (i + 1)) (c - (i + 1)) ⟨g, i * 2, none⟩ (n + 1 - i) (c - i) (by simp [Act.eval, Act.put]) (by simp [Act.eval, Act.put]) cur ((L.drop i).flatMap ecl) (n - i) HG.out.drew (by simp only [Nat.min_def]; split <;> omega) HT.out.2.2.2 HE2.out (by have := HT.out.2.2; omega) (eflat_one _) ?_; intro w1 hw1)
  have HV1 := Lib.hid (show RowE w1 vb (ecl e) from (hw1.oth vb HNE.out).trans HV.out)
  have HS1 := Lib.hid (show ∀ j v, (ecl e)[j]? = some v → w1.cell? ((⟨vb, 0, none⟩ : Addr).add j) = some v from fun j v hj => by rw [add_e, Nat.zero_add]; exact HV1.out.cell hj)
  have HW1 := Lib.hid hw1
  have hf2 : i * 2 + (ecl e).length ≤ (splice cur ((i + 1) * 2) ((L.drop i).flatMap ecl)).length := by
    have h1 := HT.out.2
    have h2 : (ecl e).length = 2 := rfl
    rw [sp_len (by omega)]
    omega
  have hmn : 1 = Nat.min 1 (n + 1 - i) := by simp only [Nat.min_def]; split <;> omega
  have HF2 := Lib.hid (And.intro hf2 hmn)
  clear hw1 hov hf2 hmn
  go_wp2_with ((with_reducible refine wpList_copyE rfl (.tmp 80) (.tmp 81) rfl g (i * 2) (n + 1 - i) (c - i) ⟨vb, 0, none⟩ 1 1 rfl rfl _ (ecl e) 1 HW1.out.row HF2.out.2 rfl HS1.out HF2.out.1 (ecl_one e) ?_; intro w2 hw2))
  have HW2 := Lib.hid hw2
  clear hw2
  go_wp2_with (fail)
  go_ret
  have hd2 : (L.take i ++ e :: L.drop i).length = n + 1 := by rw [List.length_append, List.length_cons, List.length_take, List.length_drop, HT.out.2.1]; omega
  exact ⟨_, rfl, HW2.out.row.own HT.out.1 hroom hcm HP.out.1 hd2 HP.out.2, HW2.out.bel _ _ HT.out.1 (HW1.out.bel _ _ HT.out.1 (below_drewN (Below.refl B w) 1))⟩
theorem row_kept {w w2 : World} {vb : Nat} {cv : List Value} (hv : RowE w vb cv) (ho : ∀ j, j < w.heap.size → w2.heap[j]? = w.heap[j]?) (hl : vb < w.heap.size) : RowE w2 vb cv := (ho vb hl).trans hv
theorem row_src {w : World} {vb : Nat} {cv : List Value} (hv : RowE w vb cv) : ∀ j v, cv[j]? = some v → w.cell? ((⟨vb, 0, none⟩ : Addr).add j) = some v := fun j v hj => by
  rw [add_e, Nat.zero_add]; exact hv.cell hj
theorem grow_facts {i c C : Nat} {cur2 : List Value} {e : En} (hi : i < c) (hC1 : c + 1 ≤ C) (hC2 : C ≤ maxLen) (hl2 : cur2.length = C * 2) :
    i * 2 + (ecl e).length ≤ cur2.length ∧ 1 = Nat.min 1 (c + 1 - i) ∧ ¬ (C = i) ∧ ¬ (C = i + 1) ∧ C ≤ 9223372036854775807 := by
  have he2 : (ecl e).length = 2 := rfl
  refine ⟨by omega, by simp only [Nat.min_def]; split <;> omega, by omega, by omega, by unfold maxLen at hC2; omega⟩
set_option maxHeartbeats 4000000 in
/-- In the middle, where there is no room. -/
theorem insert_grow (B g n c i vb : Nat) (cur : List Value) (L : List En) (e : En) (w : World) (hg : RowE w g cur) (hB : B ≤ w.heap.size) (hnc : n ≤ c) (hcm : c ≤ maxLen) (hs : cur.length = c * 2) (hl : L.length = n) (ht : cur.take (n * 2) = L.flatMap ecl) (hv : RowE w vb (ecl e)) (hi : i < n) (hroom : ¬ n + 1 ≤ c) (hbig : n ≤ 1000000) :
    Calls Try.prog 33 #[.slice (some ⟨g, 0, none⟩) n c, .int .i64 i, .slice (some ⟨vb, 0, none⟩) 1 1] w (InsPost B w (n + 1) (L.take i ++ e :: L.drop i)) := by
  obtain rfl : c = n := by omega
  have hE := (OwnE.ens (hg.own (B := 0) (Nat.zero_le _) hnc hcm hs hl ht))
  obtain ⟨_, _, hq, hE, _⟩ := hE
  cases hq
  have hEd := hE.drop (k := i)
  rw [Nat.zero_add] at hEd
  have hd : ((L.drop i).flatMap ecl).length = (c - i) * 2 := by rw [eflat_len, List.length_drop, hl]
  have hcs : ∀ j v, ((L.take i).flatMap ecl)[j]? = some v → w.cell? ⟨g, j, none⟩ = some v := fun j v hj => by
    refine hg.cell ?_
    rw [← row_front ht (by omega : i ≤ c), List.getElem?_take] at hj
    split at hj
    · exact hj
    · cases hj
  have hti : ((L.take i).flatMap ecl).length = i * 2 := by rw [eflat_len, List.length_take]; omega
  have HG := Lib.hid hg
  have HV := Lib.hid hv
  have HEd := Lib.hid hEd
  have HCS := Lib.hid (And.intro hcs (And.intro hti (And.intro hl hd)))
  have HB := Lib.hid hB
  have hcx : c ≤ 9223372036854775807 := by unfold maxLen at hcm; omega
  have v1 : IntKind.i64.wrap ((c : Int) + 1) = (c : Int) + 1 := IntWalk.i64_in _ (by omega)
  have v2 : IntKind.i64.wrap ((i : Int) + 1) = (i : Int) + 1 := IntWalk.i64_in _ (by omega)
  have v3 : IntKind.i64.wrap ((c : Int) + 1 - (i : Int)) = ((c + 1 - i : Nat) : Int) := (IntWalk.i64_in _ (by omega)).trans (by omega)
  have k1 : (c : Int) < (c : Int) + 1 := by omega
  have k2 : ((i : Int) == (c : Int)) = false := beq_eq_false_iff_ne.2 (by omega)
  have k3 : (0 : Int) ≤ (i : Int) + 1 := by omega
  have k4 : (i : Int) + 1 ≤ (c : Int) + 1 := by omega
  have k5 : (i : Int) ≤ (c : Int) := by omega
  have k6 : (i : Int) ≤ (c : Int) + 1 := by omega
  have k7 : ¬ (c = i) := by omega
  have t1 : ((i : Int) + 1).toNat = i + 1 := by omega
  clear hg hv ht hs hl hd hE hEd hB hcs hti hroom hnc
  go_enter Try.func33, Try.ntmps33
  go_wp2_with (first
    | (at_builtin
       go_must (refine wpList_apz rfl (.tmp 34) (.tmp 39) rfl g i c (c + 1 - i) rfl rfl ((L.take i).flatMap ecl) HCS.out.2.1 HCS.out.1 (by omega) (c + 1) (by omega) (by omega) (by omega) ?_)
       intro C cur2 w2 hC1 hC2 hr2 hl2 ht2 ho2 hb2
       have hgl := HG.out.lt
       have hvl := HV.out.lt
       have HS2 := Lib.hid (row_src (row_kept HV.out ho2 hvl))
       have hX := grow_facts (e := e) hi hC1 hC2 hl2
       have HX := Lib.hid (And.intro hX.1 (And.intro hX.2.1 (And.intro hl2 (And.intro ht2 (And.intro ho2 (And.intro hb2 (And.intro hgl hvl)))))))
       have hcC := hX.2.2.1
       have hcC1 := hX.2.2.2.1
       have hCx := hX.2.2.2.2
       have HR2 := Lib.hid hr2
       clear hgl hvl hl2 ht2 ho2 hb2 hX hr2)
    | (with_reducible refine wpList_copyE rfl (.tmp 43) (.tmp 44) rfl w.heap.size (i * 2) (c + 1 - i) (C - i) ⟨vb, 0, none⟩ 1 1 rfl rfl _ (ecl e) 1 HR2.out HX.out.2.1 rfl HS2.out HX.out.1 (ecl_one e) ?_
       intro w3 hw3))
  have HS3 := Lib.hid (show ∀ j v, ((L.drop i).flatMap ecl)[j]? = some v → w3.drew.cell? ((⟨g, i * 2, none⟩ : Addr).add j) = some v from fun j v hj => by
    have h1 := HEd.out.cells j v hj
    have hgl := HX.out.2.2.2.2.2.2.1
    have h2 : w3.heap[g]? = w.heap[g]? := (hw3.oth g (by omega)).trans (HX.out.2.2.2.2.1 g hgl)
    have h3 : w3.cell? ((⟨g, i * 2, none⟩ : Addr).add j) = w.cell? ((⟨g, i * 2, none⟩ : Addr).add j) := World.cell?_of_block (by rw [add_e]; exact h2)
    exact h3.trans h1)
  have hmn3 : c - i = Nat.min (c - i) (c + 1 - (i + 1)) := by simp only [Nat.min_def]; split <;> omega
  have hf3 : (i + 1) * 2 + ((L.drop i).flatMap ecl).length ≤ (splice cur2 (i * 2) (ecl e)).length := by
    have h1 := HCS.out.2.2.2
    have h2 := HX.out.2.2.1
    have h3 : (ecl e).length = 2 := rfl
    rw [sp_len HX.out.1]
    omega
  have HW3 := Lib.hid hw3
  have HX3 := Lib.hid (And.intro hmn3 hf3)
  clear hw3 hmn3 hf3
  go_wp2_with (fail)
  go_region_law (refine step_copyE rfl (.tmp 50) (.tmp 53) rfl w.heap.size ((i + 1) * 2) (c + 1 - (i + 1)) (C - (i + 1)) ⟨g, i * 2, none⟩ (c - i) (c - i) (by simp [Act.eval, Act.put]) (by simp [Act.eval, Act.put]) (splice cur2 (i * 2) (ecl e)) ((L.drop i).flatMap ecl) (c - i) HW3.out.row.drew HX3.out.1 HCS.out.2.2.2 HS3.out HX3.out.2 (eflat_one _) ?_; intro w4 hw4)
  have HW4 := Lib.hid hw4
  clear hw4
  go_wp2_with (fail)
  go_ret
  have hd2 : (L.take i ++ e :: L.drop i).length = c + 1 := by rw [List.length_append, List.length_cons, List.length_take, List.length_drop, HCS.out.2.2.1]; omega
  have hP := ins_grow (e := e) HX.out.2.2.1 HCS.out.2.2.1 HX.out.2.2.2.1 hi hC1
  exact ⟨_, rfl, HW4.out.row.own HB.out hC1 hC2 hP.1 hd2 hP.2, HW4.out.bel _ _ HB.out (below_drewN (HW3.out.bel _ _ HB.out (HX.out.2.2.2.2.2.1 _ _ HB.out (Below.refl B w))) 1)⟩
end Go.Proofs.Ytiedapiepklhlaa
