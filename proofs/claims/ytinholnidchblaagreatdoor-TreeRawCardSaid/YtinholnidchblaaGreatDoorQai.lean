import Derived.Test.YtinholnidchblaaGreatDoorQah
import Derived.Test.YtinholnidchblaaGreatDoorQad
import Derived.Test.YtinholnidchblaaGreatDoorQag
import Derived.Deep.AppendLies
set_option linter.unusedVariables false
set_option linter.unusedSimpArgs false
set_option maxRecDepth 100000
set_option maxHeartbeats 16000000
namespace Go.Proofs.YtinholnidchblaaGreatDoor
open Go.RowKit
theorem spl_len {s : List UInt8} {L : List (List UInt8)} (h : spl s = some L) : L.length ≤ 8 := by
 have := spl_arP h
 unfold arP at this
 rw [Bool.and_eq_true, decide_eq_true_eq] at this
 exact this.1
theorem ThrE_err (x : Int) : ThrE (.error x) = .panicked [pe x] := rfl
theorem ThrE_ok (k : Nat) : ThrE (.ok k) = .returned (.int .i64 (k : Int)) := rfl
def dirAtO (L : List Nd) (P : Option (List ByteArray)) : Except Int Nat :=
 match findO L P with
 | .error e => .error e
 | .ok k => if isD (nat L k) then .ok k else .error 22
theorem fileAt_find (L : List Nd) (P : Option (List ByteArray)) : fileAt L P = match findO L P with | .error e => .error e | .ok k => if isD (nat L k) then .error 23 else .ok k := by
 cases P with
 | none => rfl
 | some ns => rfl
theorem findO_lt {f : Nat → Nc} {n k : Nat} (h : Rgt (ndL f n)) {P : Option (List ByteArray)} (hf : findO (ndL f n) P = .ok k) : k < n := by
 cases P with
 | none => cases hf
 | some ns =>
  have := h.snd.wlklt hf
  rw [ndL_len] at this
  exact this
section
variable {w : World} {wb n c : Nat} {na : Option Addr} {f : Nat → Nc}
theorem at_any (h : Wr w wb na n c f) (ht : Rgt (ndL f n)) (s : ByteArray) (hs : s.size < 4294967281) :
  Calls Tryz.prog 46 #[.pointer (some ⟨wb, 0, none⟩), .string s] w fun e w' => e = ThrE (findO (ndL f n) (nms s)) ∧ Below w.heap.size w w' := by
 have hc := namesOf_any s w hs
 cases ho : spl s.data.toList with
 | none =>
  rw [ho] at hc
  rw [nms_none ho]
  clear h ht
  go_enter Tryz.func46, Tryz.ntmps46
  go_wp2_with fail
  refine hc.mono ?_
  rintro e w1 ⟨h1, hb⟩
  obtain rfl : e = _ := h1
  clear hc ho
  go_wp2_with fail
  exact ⟨rfl, rfl, hb⟩
 | some L =>
  rw [ho] at hc
  rw [nms_some ho]
  have hm := qH (spl_len ho)
  have H := qH h
  have HT := qH ht
  clear h ht
  go_enter Tryz.func46, Tryz.ntmps46
  go_wp2_with fail
  refine hc.mono ?_
  rintro e w1 ⟨⟨v, rfl, hv⟩, hb⟩
  obtain ⟨a, cc, rfl, hL, _⟩ := hv.sts
  have hT := through_any (H.out.next hb) HT.out a L.length cc L hL (by have := hm.out; omega)
  have HB := qH hb
  clear hc hv hb hL ho
  go_wp2_with fail
  refine hT.mono ?_
  rintro e w2 ⟨rfl, hb2⟩
  have HB2 := qH (HB.out.trans (hb2.mono HB.out.size))
  clear hT hb2
  show _
  cases hr : wlk (ndL f n) 0 (L.map tx) with
  | error x =>
   have HR := qH (show findO (ndL f n) (some (L.map tx)) = .error x from hr); clear hr; rw [ThrE_err]; go_wp2_with fail
   exact ⟨rfl, by rw [HR.out]; rfl, HB2.out⟩
  | ok k =>
   have HR := qH (show findO (ndL f n) (some (L.map tx)) = .ok k from hr); clear hr; rw [ThrE_ok]; go_wp2_with fail; go_ret
   exact ⟨by rw [HR.out]; rfl, HB2.out⟩
theorem fileAt_any (h : Wr w wb na n c f) (ht : Rgt (ndL f n)) (s : ByteArray) (hs : s.size < 4294967281) :
  Calls Tryz.prog 104 #[.pointer (some ⟨wb, 0, none⟩), .string s] w fun e w' => e = ThrE (fileAt (ndL f n) (nms s)) ∧ Below w.heap.size w w' := by
 have hc := at_any h ht s hs
 rw [fileAt_find]
 cases hr : findO (ndL f n) (nms s) with
 | error x =>
  rw [hr, ThrE_err] at hc
  clear h ht
  go_enter Tryz.func104, Tryz.ntmps104
  go_wp2_with fail
  refine hc.mono ?_
  rintro e w1 ⟨rfl, hb⟩
  clear hc hr
  go_wp2_with fail
  exact ⟨rfl, rfl, hb⟩
 | ok k =>
  rw [hr, ThrE_ok] at hc
  have hk := findO_lt ht hr
  have hn := ht.le
  have hi := fun (w' : World) (h' : Wr w' wb na n c f) => isDir_any h' hk (by omega)
  simp only [nat_ndL hk]
  have H := qH h
  clear h ht hr
  cases hd : isD (f k).nd with
  | true =>
   rw [hd] at hi
   go_enter Tryz.func104, Tryz.ntmps104
   go_wp2_with fail; refine hc.mono ?_; rintro e w1 ⟨rfl, hb⟩; have hi1 := hi _ (H.out.next hb); have HB := qH hb; clear hc hi hb; go_wp2_with fail; refine hi1.mono ?_; rintro e w2 ⟨rfl, hb2⟩; have HB2 := qH (HB.out.trans (hb2.mono HB.out.size)); clear hi1 hb2; go_wp2_with fail; refine (refuse_yes 23 _).mono ?_; rintro e w3 ⟨rfl, rfl⟩; go_wp2_with fail
   exact ⟨rfl, rfl, HB2.out⟩
  | false =>
   rw [hd] at hi
   go_enter Tryz.func104, Tryz.ntmps104
   go_wp2_with fail; refine hc.mono ?_; rintro e w1 ⟨rfl, hb⟩; have hi1 := hi _ (H.out.next hb); have HB := qH hb; clear hc hi hb; go_wp2_with fail; refine hi1.mono ?_; rintro e w2 ⟨rfl, hb2⟩; have HB2 := qH (HB.out.trans (hb2.mono HB.out.size)); clear hi1 hb2; go_wp2_with fail; refine (refuse_no 23 _).mono ?_; rintro e w3 ⟨rfl, rfl⟩; go_wp2_with fail; go_ret
   exact ⟨rfl, HB2.out⟩
theorem dirAt_any (h : Wr w wb na n c f) (ht : Rgt (ndL f n)) (s : ByteArray) (hs : s.size < 4294967281) :
  Calls Tryz.prog 106 #[.pointer (some ⟨wb, 0, none⟩), .string s] w fun e w' => e = ThrE (dirAtO (ndL f n) (nms s)) ∧ Below w.heap.size w w' := by
 have hc := at_any h ht s hs
 unfold dirAtO
 cases hr : findO (ndL f n) (nms s) with
 | error x =>
  rw [hr, ThrE_err] at hc
  clear h ht
  go_enter Tryz.func106, Tryz.ntmps106
  go_wp2_with fail
  refine hc.mono ?_
  rintro e w1 ⟨rfl, hb⟩
  clear hc hr
  go_wp2_with fail
  exact ⟨rfl, rfl, hb⟩
 | ok k =>
  rw [hr, ThrE_ok] at hc
  have hk := findO_lt ht hr
  have hn := ht.le
  have hi := fun (w' : World) (h' : Wr w' wb na n c f) => isDir_any h' hk (by omega)
  simp only [nat_ndL hk]
  have H := qH h
  clear h ht hr
  cases hd : isD (f k).nd with
  | true =>
   rw [hd] at hi
   go_enter Tryz.func106, Tryz.ntmps106
   go_wp2_with fail; refine hc.mono ?_; rintro e w1 ⟨rfl, hb⟩; have hi1 := hi _ (H.out.next hb); have HB := qH hb; clear hc hi hb; go_wp2_with fail; refine hi1.mono ?_; rintro e w2 ⟨rfl, hb2⟩; have HB2 := qH (HB.out.trans (hb2.mono HB.out.size)); clear hi1 hb2; go_wp2_with fail; refine (refuse_no 22 _).mono ?_; rintro e w3 ⟨rfl, rfl⟩; go_wp2_with fail; go_ret
   exact ⟨rfl, HB2.out⟩
  | false =>
   rw [hd] at hi
   go_enter Tryz.func106, Tryz.ntmps106
   go_wp2_with fail; refine hc.mono ?_; rintro e w1 ⟨rfl, hb⟩; have hi1 := hi _ (H.out.next hb); have HB := qH hb; clear hc hi hb; go_wp2_with fail; refine hi1.mono ?_; rintro e w2 ⟨rfl, hb2⟩; have HB2 := qH (HB.out.trans (hb2.mono HB.out.size)); clear hi1 hb2; go_wp2_with fail; refine (refuse_yes 22 _).mono ?_; rintro e w3 ⟨rfl, rfl⟩; go_wp2_with fail
   exact ⟨rfl, rfl, HB2.out⟩
def ToV (r : Except Int (Nat × Option Nat)) (s : ByteArray) (e : Ending) : Prop :=
 match r with
 | .error x => e = .panicked [pe x]
 | .ok (a, _) => e = .returned (.tuple #[.int .i64 (a : Int), .string s])
theorem lstN_map (L : List (List UInt8)) (h : L ≠ []) : lstN (L.map tx) = tx (tat L (L.length - 1)) := by
 obtain ⟨p, x, rfl⟩ := snoc_of_ne h
 rw [List.map_append, List.map_cons, List.map_nil, lstN_snoc]
 simp [tat]
theorem drop_map (L : List (List UInt8)) : (L.map tx).dropLast = (L.take (L.length - 1)).map tx := by
 rw [List.dropLast_eq_take, List.length_map, List.map_take]
theorem toBe_any (h : Wr w wb na n c f) (ht : Rgt (ndL f n)) (s : ByteArray) (hs : s.size < 4294967281) (hne : nms s ≠ some []) :
  Calls Tryz.prog 108 #[.pointer (some ⟨wb, 0, none⟩), .string s] w fun e w' =>
   (match nms s with | none => e = .panicked [pe 20] | some ns => ToV (toB (ndL f n) ns) (lstN ns) e) ∧ Below w.heap.size w w' := by
 have hc := namesOf_any s w hs
 cases ho : spl s.data.toList with
 | none =>
  rw [ho] at hc
  rw [nms_none ho]
  clear h ht
  go_enter Tryz.func108, Tryz.ntmps108
  go_wp2_with fail
  refine hc.mono ?_
  rintro e w1 ⟨h1, hb⟩
  obtain rfl : e = _ := h1
  clear hc ho
  go_wp2_with fail
  exact ⟨rfl, rfl, hb⟩
 | some L =>
  rw [ho] at hc
  rw [nms_some ho] at hne ⊢
  have hL0 : L ≠ [] := fun e => hne (by rw [e]; rfl)
  have hpos : 0 < L.length := List.length_pos_iff.2 hL0
  have hm := spl_len ho
  obtain ⟨q, hq⟩ : ∃ q, L.length = q + 1 := ⟨L.length - 1, by omega⟩
  rw [hq] at hm
  have H := qH h
  have HT := qH ht
  have hlst := qH (lstN_map L hL0)
  have HQ := qH hq
  have hdr := qH (drop_map L)
  have q0 : ((q + 1 : Nat) : Int) - 1 = (q : Int) := by omega
  have HTO := qH (show toB (ndL f n) (L.map tx) = match wlk (ndL f n) 0 ((L.take q).map tx) with | .ok a => if isD (nat (ndL f n) a) then .ok (a, fnd (nat (ndL f n) a).e (lstN (L.map tx))) else .error 22 | .error e => .error e by
   rw [toB, hdr.out, hq]; rfl)
  have elst := qH (show lstN (L.map tx) = tx (tat L q) by rw [hlst.out, hq]; rfl)
  clear h ht hne hL0 hpos ho hq
  go_enter Tryz.func108, Tryz.ntmps108
  go_wp2_with fail
  refine hc.mono ?_
  rintro e w1 ⟨⟨v, rfl, hv⟩, hb⟩
  rw [HQ.out] at hv
  obtain ⟨a, cc, rfl, hL, hcap, hmax, _⟩ := hv.sts
  obtain ⟨g, o, rfl, hgl, hgc⟩ := hL.at (by omega)
  have hT := through_any (H.out.next hb) HT.out (some ⟨g, o, none⟩) q cc (L.take q) (hL.front (by omega)) (by omega)
  have HB := qH hb
  have HG := qH (hgc q (by omega))
  have HGL := qH hgl
  have q1 : (0 : Int) ≤ (q : Int) := by omega
  have q2 : (q : Int) ≤ (cc : Int) := by omega
  have q3 : (q : Int) < ((q + 1 : Nat) : Int) := by omega
  clear hc hv hb hL hgl hgc
  go_wp2_with fail
  refine hT.mono ?_
  rintro e w2 ⟨rfl, hb2⟩
  have HB2 := qH (HB.out.trans (hb2.mono HB.out.size))
  have HG2 := qH ((hb2.cell (p := ⟨g, o + q, none⟩) HGL.out).trans HG.out)
  have hwr2 := (H.out.next HB.out).next hb2
  have HGL2 := qH (Nat.lt_of_lt_of_le HGL.out hb2.size)
  clear hT hb2
  cases hr : wlk (ndL f n) 0 ((L.take q).map tx) with
  | error x =>
   rw [ThrE_err]; have HR := qH hr; clear hwr2 hr; go_wp2_with fail
   exact ⟨rfl, (by show ToV (toB (ndL f n) (L.map tx)) _ _; rw [HTO.out, HR.out]; rfl), HB2.out⟩
  | ok k =>
   rw [ThrE_ok]
   have hk : k < n := by
    have := HT.out.snd.wlklt hr; rw [ndL_len] at this
    exact this
   have hi := isDir_any hwr2 hk (by have := HT.out.le; omega); have HR := qH hr; clear hwr2 hr
   cases hd : isD (f k).nd with
   | false =>
    rw [hd] at hi; have HD := qH hd; go_wp2_with fail; refine hi.mono ?_; rintro e w3 ⟨rfl, hb3⟩; have HB3 := qH (HB2.out.trans (hb3.mono HB2.out.size)); clear hi hb3; go_wp2_with fail; refine (refuse_yes 22 _).mono ?_; rintro e w4 ⟨rfl, rfl⟩; go_wp2_with fail
    exact ⟨rfl, (by show ToV (toB (ndL f n) (L.map tx)) _ _; rw [HTO.out, HR.out]; simp only [nat_ndL hk, HD.out]; rfl), HB3.out⟩
   | true =>
    rw [hd] at hi; have HD := qH hd; go_wp2_with fail; refine hi.mono ?_; rintro e w3 ⟨rfl, hb3⟩; have HB3 := qH (HB2.out.trans (hb3.mono HB2.out.size)); have x1 := (hb3.cell (p := ⟨g, o + q, none⟩) HGL2.out).trans HG2.out; clear hi hb3; go_wp2_with fail; refine (refuse_no 22 _).mono ?_; rintro e w4 ⟨rfl, rfl⟩; go_wp2_with fail
    go_quiet (fail)
    go_wp2_with fail
    go_ret2
    exact ⟨(by show ToV (toB (ndL f n) (L.map tx)) _ _; rw [HTO.out, HR.out]; simp only [nat_ndL hk, HD.out, elst.out]; rfl), below_drewN HB3.out _⟩
end
theorem root_data (s : ByteArray) : (s.toList == [47]) = decide (s = tx [47]) := by
 by_cases h : s = tx [47]
 ·rw [decide_eq_true h, h, Lib.toList_data, data_tx]; rfl
 ·rw [decide_eq_false h, beq_eq_false_iff_ne]
  intro e
  rw [Lib.toList_data] at e
  exact h (by rw [← tx_data s, e])
theorem root_yes {s : ByteArray} (h : nms s = some []) : (s.toList == [47]) = true := by rw [root_data, decide_eq_true (nms_root.1 h)]
theorem root_no {s : ByteArray} (h : nms s ≠ some []) : (s.toList == [47]) = false := by rw [root_data, decide_eq_false fun e => h (nms_root.2 e)]
def NewV (L : List Nd) (P : Option (List ByteArray)) (e : Ending) : Prop :=
 match P with
 | none => e = .panicked [pe 20]
 | some ns => if ns = [] then e = .panicked [pe 24] else
  match toB L ns with
  | .error x => e = .panicked [pe x]
  | .ok (a, some _) => e = .panicked [pe 24]
  | .ok (a, none) => e = .returned (.tuple #[.int .i64 (a : Int), .string (lstN ns)])
section
variable {w : World} {wb n c : Nat} {na : Option Addr} {f : Nat → Nc}
theorem toBeNew_any (h : Wr w wb na n c f) (ht : Rgt (ndL f n)) (s : ByteArray) (hs : s.size < 4294967281) :
  Calls Tryz.prog 99 #[.pointer (some ⟨wb, 0, none⟩), .string s] w fun e w' => NewV (ndL f n) (nms s) e ∧ Below w.heap.size w w' := by
 by_cases hr : nms s = some []
 ·have hq := root_yes hr
  rw [hr]
  clear h ht hr
  go_enter Tryz.func99, Tryz.ntmps99
  go_wp2_with fail
  refine (refuse_yes 24 _).mono ?_
  rintro e w1 ⟨rfl, rfl⟩
  go_wp2_with fail
  exact ⟨rfl, rfl, Below.refl _ _⟩
 ·have hq := root_no hr
  have hc := toBe_any h ht s hs hr
  cases hP : nms s with
  | none =>
   rw [hP] at hc; clear h ht hr hP
   go_enter Tryz.func99, Tryz.ntmps99
   go_wp2_with fail; refine (refuse_no 24 _).mono ?_; rintro e w1 ⟨rfl, rfl⟩; go_wp2_with fail; refine hc.mono ?_; rintro e w2 ⟨h1, hb⟩; obtain rfl : e = _ := h1; clear hc; go_wp2_with fail
   exact ⟨rfl, rfl, hb⟩
  | some ns =>
   rw [hP] at hc hr
   have hns : ns ≠ [] := fun e => hr (by rw [e])
   have HN := qH hns; simp only at hc
   cases hto : toB (ndL f n) ns with
   | error x =>
    rw [hto] at hc; have HTO := qH hto; clear h ht hr hP hns hto
    go_enter Tryz.func99, Tryz.ntmps99
    go_wp2_with fail; refine (refuse_no 24 _).mono ?_; rintro e w1 ⟨rfl, rfl⟩; go_wp2_with fail; refine hc.mono ?_; rintro e w2 ⟨h1, hb⟩; obtain rfl : e = _ := h1; clear hc; go_wp2_with fail
    exact ⟨rfl, by simp only [NewV, if_neg HN.out, HTO.out], hb⟩
   | ok x =>
    obtain ⟨a, o⟩ := x; rw [hto] at hc; obtain ⟨t1, t2, t3⟩ := toB_ok hto
    have ha : a < n := by
     have := ht.snd.wlklt t1; rw [ndL_len] at this
     exact this
    replace t3 : o = fnd (f a).e (lstN ns) := by rw [nat_ndL ha] at t3; exact t3
    have HTO := qH hto; have hm2 := (ht.ents ha).1
    have hen := fun (w' : World) (h' : Wr w' wb na n c f) => entry_any h' ha (by have := ht.le; omega) (lstN ns) (by omega)
    have hp1 := fun y hy => ((ht.ents ha).2 y hy).1
    have H := qH h
    cases o with
    | none =>
     rw [entV_none t3.symm] at hen; clear h ht hr hP hns hto t1 t2 t3 hp1 hm2
     go_enter Tryz.func99, Tryz.ntmps99
     go_wp2_with fail; refine (refuse_no 24 _).mono ?_; rintro e w1 ⟨rfl, rfl⟩; go_wp2_with fail; refine hc.mono ?_; rintro e w2 ⟨h1, hb⟩; obtain rfl : e = _ := h1; have hen1 := hen _ (H.out.next hb); have HB := qH hb; clear hc hen hb; go_wp2_with fail; refine hen1.mono ?_; rintro e w3 ⟨rfl, hb3⟩; have HB3 := qH (HB.out.trans (hb3.mono HB.out.size)); clear hen1 hb3; go_wp2_with fail; refine (refuse_no 24 _).mono ?_; rintro e w4 ⟨rfl, rfl⟩; go_wp2_with fail
     go_ret2
     exact ⟨by simp only [NewV, if_neg HN.out, HTO.out]; rfl, HB3.out⟩
    | some j =>
     rw [entV_some t3.symm hp1] at hen; clear h ht hr hP hns hto t1 t2 t3 hp1 hm2
     go_enter Tryz.func99, Tryz.ntmps99
     go_wp2_with fail; refine (refuse_no 24 _).mono ?_; rintro e w1 ⟨rfl, rfl⟩; go_wp2_with fail; refine hc.mono ?_; rintro e w2 ⟨h1, hb⟩; obtain rfl : e = _ := h1; have hen1 := hen _ (H.out.next hb); have HB := qH hb; clear hc hen hb; go_wp2_with fail; refine hen1.mono ?_; rintro e w3 ⟨rfl, hb3⟩; have HB3 := qH (HB.out.trans (hb3.mono HB.out.size)); clear hen1 hb3; go_wp2_with fail; refine (refuse_yes 24 _).mono ?_; rintro e w4 ⟨rfl, rfl⟩; go_wp2_with fail
     exact ⟨rfl, by simp only [NewV, if_neg HN.out, HTO.out], HB3.out⟩
end
def WM (g wb : Nat) (j : Nat) : Prop := j = g ∨ j = wb
theorem Rgt.fit {f : Nat → Nc} {n i : Nat} (h : Rgt (ndL f n)) (hi : i < n) : Fit (f i).e := fun y hy => by
 have := ((h.ents hi).2 y hy).2.2
 unfold nmB at this
 rw [Lib.size_eq]
 simp only [Bool.and_eq_true, decide_eq_true_eq] at this
 omega
def ChE (w : World) (wb g n c i : Nat) (f : Nat → Nc) (E : List En) (w' : World) : Prop :=
 ∃ a m k, Wo w' wb g n c (updN f i { f i with ea := a, en := m, ec := k, e := E }) ∧ Turn (WM g wb) w w'
section
variable {w : World} {wb g n c : Nat} {f : Nat → Nc}
theorem tput_any (h : Wo w wb g n c f) {i : Nat} (hi : i < n) (hn : n ≤ 1000000) (s : ByteArray) (k : Nat) (hm : (f i).e.length ≤ 100000) (hf : Fit (f i).e) (hs : s.size ≤ 1000000) :
  Calls Tryz.prog 102 #[.pointer (some ⟨wb, 0, none⟩), .int .i64 i, .string s, .int .i64 (k : Int)] w fun e w' => e = .returned (.tuple #[]) ∧ ChE w wb g n c i f (eput (f i).e ⟨s, (k : Int)⟩) w' := by
 obtain ⟨z, hz⟩ : ∃ z : Nat, z = 0 := ⟨0, rfl⟩
 have c0 : w.cell? ⟨wb, 0, none⟩ = some (.slice (some ⟨g, z, none⟩) n c) := by rw [hz]; exact h.wr.c0
 have hE := (h.ents i hi).1
 have hl := hE.ens.len
 have d3 : w.cell? ⟨g, z + i * 4 + 3, none⟩ = some (.slice (f i).ea (f i).en (f i).ec) := by rw [hz]; exact (h.cell hi).2.2.2
 have k0 : (0 : Int) ≤ (i : Int) := by omega
 have k1 : (i : Int) < (n : Int) := by omega
 have hp := put_any (f i).ea (f i).en (f i).ec (f i).e ⟨s, (k : Int)⟩ w hE.ens (by omega) hf hs
 unfold env at hp
 have H := qH h
 have HZ := qH hz
 clear h hE hf hz
 go_enter Tryz.func102, Tryz.ntmps102
 go_wp2_with fail
 refine hp.mono ?_
 rintro e w1 ⟨v, rfl, ho, hb⟩
 obtain ⟨a, m, rfl, hz2, hblk⟩ := ho.enz
 have hW := H.out.next hb
 have hfr := hW.free (z + i * 4 + 3)
 have hoff : Off (eput (f i).e ⟨s, (k : Int)⟩).length a g wb := Off.new (B := w.heap.size) (fun p hp => (hblk p hp).1) (row_lt H.out.row) H.out.wr.lt
 have HS := qH (hW.setE hi hz2 hoff)
 have HT := qH ((Turn.of_below (M := WM g wb) hb).setO (p := ⟨g, z + i * 4 + 3, none⟩) (.inl rfl) (.slice a (eput (f i).e ⟨s, (k : Int)⟩).length m))
 have hlt : g < w1.heap.size := row_lt hW.row
 have d3' := (hb.cell (p := ⟨g, z + i * 4 + 3, none⟩) (row_lt H.out.row)).trans d3
 clear hp ho hz2 hblk hW hb hoff d3 c0
 go_wp2_with fail
 go_end0
 exact ⟨rfl, _, _, _, by have := HS.out; rw [HZ.out]; exact this, HT.out⟩
theorem tcut_any (h : Wo w wb g n c f) (ht : Rgt (ndL f n)) (s : ByteArray) (hs : s.size < 4294967281) {ns : List ByteArray} (hP : nms s = some ns) (hns : ns ≠ []) {i : Nat} {o : Option Nat} (hto : toB (ndL f n) ns = .ok (i, o)) :
  Calls Tryz.prog 105 #[.pointer (some ⟨wb, 0, none⟩), .string s] w fun e w' => e = .returned (.tuple #[]) ∧ ChE w wb g n c i f (ecut (f i).e (lstN ns)) w' := by
 have htb := toBe_any h.wr ht s hs (by rw [hP]; intro e; exact hns (Option.some.inj e))
 rw [hP] at htb
 simp only at htb
 rw [hto] at htb
 have hi : i < n := by
  have := ht.snd.wlklt (toB_ok hto).1
  rw [ndL_len] at this
  exact this
 have hm := (ht.ents hi).1
 have hf := ht.fit hi
 have hn := ht.le.2
 obtain ⟨z, hz⟩ : ∃ z : Nat, z = 0 := ⟨0, rfl⟩
 have k0 : (0 : Int) ≤ (i : Int) := by omega
 have k1 : (i : Int) < (n : Int) := by omega
 have H := qH h
 have HZ := qH hz
 clear h ht hP hns hto hz
 go_enter Tryz.func105, Tryz.ntmps105
 go_wp2_with fail
 refine htb.mono ?_
 rintro e w1 ⟨h1, hb0⟩
 obtain rfl : e = _ := h1
 have H1 := qH (H.out.next hb0)
 have HB0 := qH hb0
 have c0 : w1.cell? ⟨wb, 0, none⟩ = some (.slice (some ⟨g, z, none⟩) n c) := by rw [HZ.out]; exact H1.out.wr.c0
 have hE := (H1.out.ents i hi).1
 have hl := hE.ens.len
 have d3 : w1.cell? ⟨g, z + i * 4 + 3, none⟩ = some (.slice (f i).ea (f i).en (f i).ec) := by rw [HZ.out]; exact (H1.out.cell hi).2.2.2
 have hp := cut_any (f i).ea (f i).en (f i).ec (f i).e (lstN ns) w1 hE.ens (by omega) hf
 clear htb hb0 hE
 go_wp2_with fail
 refine hp.mono ?_
 rintro e w2 ⟨v, rfl, ho, hb⟩
 obtain ⟨a, m, rfl, hz2, hblk⟩ := ho.enz
 have hW := H1.out.next hb
 have hfr := hW.free (z + i * 4 + 3)
 have hoff : Off (ecut (f i).e (lstN ns)).length a g wb := Off.new (B := w1.heap.size) (fun p hp => (hblk p hp).1) (row_lt H1.out.row) H1.out.wr.lt
 have HS := qH (hW.setE hi hz2 hoff)
 have HT := qH (((Turn.of_below (M := WM g wb) HB0.out).next hb).setO (p := ⟨g, z + i * 4 + 3, none⟩) (.inl rfl) (.slice a (ecut (f i).e (lstN ns)).length m))
 have hlt : g < w2.heap.size := row_lt hW.row
 have d3' := (hb.cell (p := ⟨g, z + i * 4 + 3, none⟩) (row_lt H1.out.row)).trans d3
 clear hp ho hz2 hblk hW hb hoff d3 c0
 go_wp2_with fail
 go_end0
 exact ⟨rfl, _, _, _, by have := HS.out; rw [HZ.out]; exact this, HT.out⟩
end
def OpU (w : World) (wb g : Nat) (r : List Nd × Rv) (e : Ending) (w' : World) : Prop :=
 if r.2.err = 0 then e = .returned (.tuple #[]) ∧ ∃ g' n' c' f', Wo w' wb g' n' c' f' ∧ ndL f' n' = r.1 ∧ Turn (WM g wb) w w' ∧ (g' = g ∨ w.heap.size ≤ g')
 else e = .panicked [pe r.2.err] ∧ Turn (WM g wb) w w'
theorem OpU.bad {w w' : World} {wb g : Nat} {L : List Nd} {x : Int} {e : Ending} (hx : x ≠ 0) (he : e = .panicked [pe x]) (ht : Turn (WM g wb) w w') : OpU w wb g (L, .bad x) e w' := by
 unfold OpU
 rw [if_neg (show ¬ (Rv.bad x).err = 0 from hx)]
 exact ⟨he, ht⟩
theorem OpU.good {w w' : World} {wb g g' n' c' : Nat} {f' : Nat → Nc} {L : List Nd} {e : Ending} (he : e = .returned (.tuple #[])) (h : Wo w' wb g' n' c' f') (hL : ndL f' n' = L) (ht : Turn (WM g wb) w w') (hg : g' = g ∨ w.heap.size ≤ g') : OpU w wb g (L, .ok) e w' := by
 unfold OpU
 rw [if_pos (show Rv.ok.err = 0 from rfl)]
 exact ⟨he, g', n', c', f', h, hL, ht, hg⟩
theorem Turn.belowW {w w' : World} {wb g : Nat} (h : Below w.heap.size w w') : Turn (WM g wb) w w' := .of_below h
theorem ChE.good {w w' : World} {wb g n c i : Nat} {f : Nat → Nc} {E : List En} (h : ChE w wb g n c i f E w') (hi : i < n) : ∃ f', Wo w' wb g n c f' ∧ ndL f' n = setE (ndL f n) i E ∧ Turn (WM g wb) w w' := by
 obtain ⟨a, m, k, h1, h2⟩ := h
 refine ⟨_, h1, ?_, h2⟩
 rw [ndL_upd, setE, nat_ndL hi]
 rfl
def MbV (L : List (List UInt8)) (e : Ending) : Prop := if L.all (fun x => (spl x).isSome) then e = .returned (.tuple #[]) else e = .panicked [pe 20]
theorem mustBe_any (w : World) (a : Option Addr) (m cc : Nat) (L : List (List UInt8)) (hL : Sts w a m L) (hm : m ≤ 1000000) (hs : ∀ x ∈ L, x.length < 4294967281) :
  Calls Tryz.prog 103 #[.slice a m cc] w fun e w' => MbV L e ∧ Below w.heap.size w w' := by
 have hl := hL.len
 subst hl
 go_enter Tryz.func103, Tryz.ntmps103
 go_wp2_with fail
 go_loopw [3, 6] (fun _ v wr => ∃ k : Nat, k ≤ L.length ∧ v = .int .i64 k ∧ Below w.heap.size w wr ∧ (L.take k).all (fun x => (spl x).isSome) = true) (fun _ v _ => L.length - (RowKit.intOf v).toNat)
 case atStart => exact ⟨0, by omega, rfl, Below.refl _ _, by simp⟩
 case round =>
  obtain ⟨k, hk, rfl, hB, ha⟩ := hrel
  have HB := qH hB
  have HA := qH ha
  clear ha
  by_cases hlt : k < L.length
  ·obtain ⟨g, o, rfl, l1, c1⟩ := hL.at (by omega)
   have k0 : (0 : Int) ≤ (k : Int) := by omega
   have k1 : (k : Int) < (L.length : Int) := by omega
   have x1 := (hB.cell (p := ⟨g, o + k, none⟩) l1).trans (c1 k hlt); have hmem := tat_mem hlt; have hn := namesOf_any (tx (tat L k)) wr (by rw [tx_size]; exact hs _ hmem); rw [data_tx] at hn
   have htk : L.take (k + 1) = L.take k ++ [tat L k] := by
    rw [List.take_add_one, tat, List.getD_eq_getElem?_getD, List.getElem?_eq_getElem hlt]; rfl
   have HTK := qH htk; have HM := qH hmem; clear hL c1 hB l1 hs hmem htk
   cases ho : spl (tat L k) with
   | none =>
    rw [ho] at hn; have HO := qH ho; clear ho; go_wp2_with fail; refine hn.mono ?_; rintro e w1 ⟨h1, hb1⟩; obtain rfl : e = _ := h1; have HB1 := qH (HB.out.trans (hb1.mono HB.out.size)); clear hn hb1; go_wp2_with fail; refine ⟨rfl, ?_, HB1.out⟩; unfold MbV; rw [if_neg]; intro h; have := List.all_eq_true.1 h _ HM.out; rw [HO.out] at this
    cases this
   | some M =>
    rw [ho] at hn; have HO := qH ho; clear ho; go_wp2_with fail; refine hn.mono ?_; rintro e w1 ⟨⟨v, rfl, hv⟩, hb1⟩; have HB1 := qH (HB.out.trans (hb1.mono HB.out.size)); clear hn hb1 hv; go_wp2_with fail
    go_roundw
    case rel => exact ⟨k + 1, by omega, by go_num, HB1.out, by rw [HTK.out, List.all_append, HA.out]; simp [HO.out]⟩
    case measure => simp [RowKit.intOf]; omega
  ·obtain rfl : k = L.length := by omega
   clear hL hB hs; go_wp2_with fail
   go_end0
   refine ⟨?_, HB.out⟩; have := HA.out; rw [List.take_length] at this; unfold MbV; rw [if_pos this]
section
variable {w : World} {wb g n c : Nat} {f : Nat → Nc}
def newN (k : Int) : Nc := ⟨k, 0, none, 0, 0, [], none, 0, 0, []⟩
theorem wpList_apN {ops : Array Oper} {rest : List Oper} {o : Oper} {a : Act} {Q : Exit → Act → World → Prop} (hgd : o.guard = none) (s x : Operand)
  (ho : o.op = .call { callee := .builtin .append, args := #[s, x], argTypes := #[24, 24] }) (h : Wo w wb g n c f) (hn : n ≤ 100000) (k : Int) (H : Nat) (hH : w.heap.size = H)
  (hs : a.eval s = .slice (some ⟨g, 0, none⟩) n c) (hx : a.eval x = .slice (some ⟨H, 0, none⟩) 1 1)
  (hK : ∀ g2 c2 w', Wo (w'.setCell ⟨wb, 0, none⟩ (.slice (some ⟨g2, 0, none⟩) (n + 1) c2)) wb g2 (n + 1) c2 (updN f n (newN k)) → Turn (WM g wb) w (w'.setCell ⟨wb, 0, none⟩ (.slice (some ⟨g2, 0, none⟩) (n + 1) c2)) → (g2 = g ∨ w.heap.size ≤ g2) →
   w'.frozen? ⟨wb, 0, none⟩ = false → w'.cell? ⟨wb, 0, none⟩ = some (.slice (some ⟨g, 0, none⟩) n c) → wb < w'.heap.size → wpList Tryz.prog ops Q rest (a.put o.dst (.slice (some ⟨g2, 0, none⟩) (n + 1) c2)) w') :
  wpList Tryz.prog ops Q (o :: rest) a (w.alloc (.cells #[.int .i64 k, .int .i64 0, .slice none 0 0, .slice none 0 0] 54 (0, 0))) := by
 obtain ⟨i0, hi, hz0, hz1, hz2⟩ := info_parts infoN
 have hb : Below w.heap.size w (w.alloc (.cells #[.int .i64 k, .int .i64 0, .slice none 0 0, .slice none 0 0] 54 (0, 0))) := (Below.refl _ _).alloc (Nat.le_refl _) _
 have h' := h.next hb
 refine wpList_append_lies (w.alloc (.cells #[.int .i64 k, .int .i64 0, .slice none 0 0, .slice none 0 0] 54 (0, 0))) hgd s x 24 ho 0 54 i0 _ 4 64 Tryz.underlying24 hi hz0 hz1 hz2 rfl (by decide) _ n _ hs h'.row ⟨H, 0, none⟩ 1 1 (ncl (newN k)) hx (by simp [ncl]) ?_ (ncl_one _) (by omega) (by unfold maxLen; omega) (by omega) (Nat.zero_le _) _ rfl ?_
 ·subst hH
  exact World.news_of_block (cs := #[.int .i64 k, .int .i64 0, .slice none 0 0, .slice none 0 0]) (t := 54) (fr := (0, 0)) (heap_alloc_new w _)
 ·intro g2 c2 w' hown hgrow hat hlt
  have hg2 : w'.heap[wb]? = (w.alloc (.cells #[.int .i64 k, .int .i64 0, .slice none 0 0, .slice none 0 0] 54 (0, 0))).heap[wb]? := hgrow.block wb h'.wr.lt (fun e => h.ne (Option.some.inj e).symm)
  obtain ⟨p1, p2⟩ := h'.grow (newN k) ⟨rfl, rfl, rfl, rfl, rfl, rfl, rfl, rfl⟩ hgrow hat hown
  obtain ⟨pm, em, hk⟩ := h'.wk
  have hk' := hk.block hg2
  refine hK g2 c2 w' p1 ((Turn.belowW hb).trans p2) ?_ (hk'.free 0) hk'.c0 hk'.lt
  rcases hat with e | e
  ·exact .inl (Option.some.inj e).symm
  ·right
   rw [e]
   exact hb.size
theorem size_ok {s : ByteArray} {ns : List ByteArray} (hP : nms s = some ns) {x : ByteArray} (hx : x ∈ ns) : x.size ≤ 1000000 := by
 have := nms_ok s ns hP x hx
 unfold nmB at this
 rw [Lib.size_eq]
 simp only [Bool.and_eq_true, decide_eq_true_eq] at this
 omega
theorem add_err (s : ByteArray) (k x : Int) (hx : x ≠ 0) (L : List Nd)
  (hc : Calls Tryz.prog 99 #[.pointer (some ⟨wb, 0, none⟩), .string s] w fun e w' => e = .panicked [pe x] ∧ Below w.heap.size w w') :
  Calls Tryz.prog 63 #[.pointer (some ⟨wb, 0, none⟩), .string s, .int .i64 k] w (OpU w wb g (L, .bad x)) := by
 go_enter Tryz.func63, Tryz.ntmps63
 go_wp2_with fail
 refine hc.mono ?_
 rintro e w1 ⟨rfl, hb⟩
 go_wp2_with fail
 exact ⟨rfl, .bad hx rfl (.belowW hb)⟩
theorem add_any (h : Wo w wb g n c f) (ht : Rgt (ndL f n)) (s : ByteArray) (hs : s.size < 4294967281) (dir : Bool) (kd : Int) (hkd : kd = if dir then 2 else 1) :
  Calls Tryz.prog 63 #[.pointer (some ⟨wb, 0, none⟩), .string s, .int .i64 kd] w (OpU w wb g (oNew (ndL f n) dir (nms s))) := by
 have hc := toBeNew_any h.wr ht s hs
 have HKD := qH hkd
 clear hkd
 cases hP : nms s with
 | none =>
  rw [hP] at hc
  exact add_err s _ 20 (by decide) _ hc
 | some ns =>
  rw [hP] at hc
  by_cases hns : ns = []
  ·subst hns
   exact add_err s _ 24 (by decide) _ hc
  ·unfold NewV at hc
   simp only [if_neg hns] at hc; unfold oNew; simp only [if_neg hns]
   cases hto : toB (ndL f n) ns with
   | error x =>
    simp only [hto] at hc
    exact add_err s _ x (toB_err hto) _ hc
   | ok y =>
    obtain ⟨i, o⟩ := y; simp only [hto] at hc
    cases o with
    | some j =>
     exact add_err s _ 24 (by decide) _ hc
    | none =>
     simp only at hc; simp only [Option.isSome_none, Bool.false_eq_true, if_false]
     have hi : i < n := by
      have := ht.snd.wlklt (toB_ok hto).1; rw [ndL_len] at this
      exact this
     have hm := (ht.ents hi).1; have hf := ht.fit hi; have hn := ht.le.2; have hsz := size_ok hP (lst_mem hns); rw [nat_ndL hi, ndL_len]
     have hfl := fun (w' : World) (h' : Wo w' wb g n c f) => isFull_any h'.wr hi (by omega)
     have H := qH h
     by_cases h64 : 64 ≤ (f i).e.length
     ·have e64 : decide (64 ≤ (f i).e.length) = true := decide_eq_true h64
      rw [e64] at hfl; rw [if_pos (show 64 ≤ (f i).nd.e.length ∨ 56 ≤ n from .inl h64)]; clear h ht hP hns hto e64 h64 hm hf
      go_enter Tryz.func63, Tryz.ntmps63
      go_wp2_with fail; refine hc.mono ?_; rintro e w1 ⟨rfl, hb⟩; have hfl1 := hfl _ (H.out.next hb); have HB := qH hb; clear hc hfl hb; go_wp2_with fail; refine hfl1.mono ?_; rintro e w2 ⟨rfl, hb2⟩; have HB2 := qH (HB.out.trans (hb2.mono HB.out.size)); clear hfl1 hb2; go_wp2_with fail; refine (refuse_yes 27 _).mono ?_; rintro e w3 ⟨rfl, rfl⟩; go_wp2_with fail
      exact ⟨rfl, .bad (by decide) rfl (.belowW HB2.out)⟩
     ·have e64 : decide (64 ≤ (f i).e.length) = false := decide_eq_false h64
      rw [e64] at hfl
      by_cases h56 : 56 ≤ n
      ·rw [if_pos (show 64 ≤ (f i).nd.e.length ∨ 56 ≤ n from .inr h56)]
       have k56 : decide ((56 : Int) ≤ (n : Int)) = true := decide_eq_true (by omega); clear h ht hP hns hto e64 h64 hm hf h56
       go_enter Tryz.func63, Tryz.ntmps63
       go_wp2_with fail; refine hc.mono ?_; rintro e w1 ⟨rfl, hb⟩; have hfl1 := hfl _ (H.out.next hb); have HB := qH hb; clear hc hfl hb; go_wp2_with fail; refine hfl1.mono ?_; rintro e w2 ⟨rfl, hb2⟩; have HB2 := qH (HB.out.trans (hb2.mono HB.out.size)); have c0 := ((H.out.next HB.out).next hb2).wr.c0; clear hfl1 hb2; go_wp2_with fail; refine (refuse_yes 27 _).mono ?_; rintro e w3 ⟨rfl, rfl⟩; go_wp2_with fail
       exact ⟨rfl, .bad (by decide) rfl (.belowW HB2.out)⟩
      ·rw [if_neg (show ¬ (64 ≤ (f i).nd.e.length ∨ 56 ≤ n) from fun e => e.elim h64 h56)]
       have k56 : decide ((56 : Int) ≤ (n : Int)) = false := decide_eq_false (by omega); rw [← HKD.out]
       have hput := fun (w' : World) (h' : Wo w' wb g n c f) => tput_any h' hi (by omega) (lstN ns) n (by omega) hf hsz
       have HI := qH hi; have HN := qH hn; clear h ht hP hns hto e64 h64 hm hf h56
       go_enter Tryz.func63, Tryz.ntmps63
       go_wp2_with fail; refine hc.mono ?_; rintro e w1 ⟨rfl, hb⟩; have hfl1 := hfl _ (H.out.next hb); have HB := qH hb; clear hc hfl hb; go_wp2_with fail; refine hfl1.mono ?_; rintro e w2 ⟨rfl, hb2⟩; have HB2 := qH (HB.out.trans (hb2.mono HB.out.size)); have h2 := (H.out.next HB.out).next hb2; have c0 := h2.wr.c0; have hp2 := hput _ h2; clear hfl1 hb2 hput h2; go_wp2_with fail; refine (refuse_no 27 _).mono ?_; rintro e w3 ⟨rfl, rfl⟩; go_wp2_with fail; refine hp2.mono ?_; rintro e w4 ⟨rfl, hch⟩; obtain ⟨f', hW, hL, hT⟩ := hch.good HI.out; have HW := qH hW; have HL := qH hL; have HT := qH ((Turn.belowW HB2.out).trans hT); have c4 := hW.wr.c0; clear hp2 hch hW hL hT c0
       go_wp2_with (at_builtin; go_must (refine wpList_apN rfl (.tmp 42) (.tmp 45) rfl HW.out (by have := HN.out; omega) kd w4.heap.size rfl rfl rfl ?_); intro g2 c2 w5 q1 q2 q3 q4 q5 q6; have Q1 := qH q1; have Q2 := qH q2; have Q3 := qH q3; clear q1 q2 q3 c4)
       go_end0
       refine OpU.good rfl Q1.out ?_ (HT.out.trans Q2.out) (Q3.out.imp id fun e => Nat.le_trans HT.out.size e); rw [ndL_succ, updN_same, ndL_congr (f := updN f' n (newN kd)) (g := f') fun j hj => updN_other f' _ (by omega), HL.out]; unfold putE; rw [nat_ndL HI.out]
       rfl
end
theorem sts_two (w : World) (s t : ByteArray) (H : Nat) (hH : w.heap.size = H) : Sts (w.alloc (.cells #[.string s, .string t] 9 (0, 0))) (some ⟨H, 0, none⟩) 2 [s.data.toList, t.data.toList] := by
 subst hH
 refine ⟨rfl, .inr ⟨w.heap.size, 0, rfl, by simp, fun i hi => ?_⟩⟩
 have : i = 0 ∨ i = 1 := by omega
 rcases this with rfl | rfl
 ·simp [tat, tx_data]
 ·simp [tat, tx_data]
theorem both_paths (s t : ByteArray) : [s.data.toList, t.data.toList].all (fun x => (spl x).isSome) = ((nms s).isSome && (nms t).isSome) := by
 simp [nms, Option.isSome_map]
theorem mbV_no {s t : ByteArray} {e : Ending} (h : MbV [s.data.toList, t.data.toList] e) (hb : ((nms s).isSome && (nms t).isSome) = false) : e = .panicked [pe 20] := by
 unfold MbV at h
 rw [both_paths, hb] at h
 exact h
theorem mbV_yes {s t : ByteArray} {e : Ending} (h : MbV [s.data.toList, t.data.toList] e) (hb : ((nms s).isSome && (nms t).isSome) = true) : e = .returned (.tuple #[]) := by
 unfold MbV at h
 rw [both_paths, hb] at h
 exact h
section
variable {w : World} {wb g n c : Nat} {f : Nat → Nc}
theorem putE_at {f : Nat → Nc} {n i : Nat} (hi : i < n) (s : ByteArray) (k : Nat) : setE (ndL f n) i (eput (f i).e ⟨s, (k : Int)⟩) = putE (ndL f n) i s k := by
 unfold putE
 rw [nat_ndL hi]
 rfl
theorem cutE_at {f : Nat → Nc} {n i : Nat} (hi : i < n) (s : ByteArray) : setE (ndL f n) i (ecut (f i).e s) = cutE (ndL f n) i s := by
 unfold cutE
 rw [nat_ndL hi]
 rfl
theorem OpU.bad' {w w' : World} {g : Nat} {R : List Nd × Rv} {L : List Nd} {x : Int} (hR : R = (L, .bad x)) (hx : x ≠ 0) (ht : Turn (WM g wb) w w') : OpU w wb g R (.panicked [pe x]) w' := by
 rw [hR]
 exact .bad hx rfl ht
theorem link_any (h : Wo w wb g n c f) (ht : Rgt (ndL f n)) (s t : ByteArray) (hs : s.size < 4294967281) (ht' : t.size < 4294967281) :
  Calls Tryz.prog 64 #[.pointer (some ⟨wb, 0, none⟩), .string s, .string t] w (OpU w wb g (oLink (ndL f n) (nms s) (nms t))) := by
 have hw0 : Below w.heap.size w (w.alloc (.cells #[.string s, .string t] 9 (0, 0))) := (Below.refl _ _).alloc (Nat.le_refl _) _
 have hmb := mustBe_any (w.alloc (.cells #[.string s, .string t] 9 (0, 0))) (some ⟨w.heap.size, 0, none⟩) 2 2 _ (sts_two w s t _ rfl) (by omega) (by
  intro x hx
  simp only [List.mem_cons, List.not_mem_nil, or_false] at hx
  rcases hx with rfl | rfl
  ·rw [← Lib.size_eq]; exact hs
  ·rw [← Lib.size_eq]; exact ht')
 have hfa := fun (w' : World) (h' : Wo w' wb g n c f) => fileAt_any h'.wr ht s hs
 have htn := fun (w' : World) (h' : Wo w' wb g n c f) => toBeNew_any h'.wr ht t ht'
 obtain ⟨R, hR⟩ : ∃ R, R = oLink (ndL f n) (nms s) (nms t) := ⟨_, rfl⟩
 rw [← hR]
 have HR := qH hR
 have H := qH h
 have HT := qH ht
 have HB := qH hw0
 clear h ht hw0 hR
 cases hbb : ((nms s).isSome && (nms t).isSome) with
 | false =>
  have HBB := qH hbb
  have HR2 : Hid (R = (ndL f n, .bad 20)) := qH (by
   rw [HR.out]
   cases h1 : nms s with
   | none => rfl
   | some ns =>
    cases h2 : nms t with
    | none => rfl
    | some ms => rw [h1, h2] at hbb; cases hbb)
  clear hbb
  go_enter Tryz.func64, Tryz.ntmps64
  go_wp2_with fail
  refine hmb.mono ?_
  rintro e w1 ⟨h1, hb1⟩
  obtain rfl := mbV_no h1 HBB.out
  have HB1 := qH (HB.out.trans (hb1.mono HB.out.size))
  clear hmb hfa htn h1 hb1
  go_wp2_with fail
  exact ⟨rfl, .bad' HR2.out (by decide) (.belowW HB1.out)⟩
 | true =>
  have HBB := qH hbb
  rw [Bool.and_eq_true] at hbb
  obtain ⟨ns, hns⟩ := Option.isSome_iff_exists.1 hbb.1
  obtain ⟨ms, hms⟩ := Option.isSome_iff_exists.1 hbb.2
  rw [hns] at hfa
  rw [hms] at htn
  have HR2 : Hid (R = oLink (ndL f n) (some ns) (some ms)) := qH (by rw [HR.out, hns, hms])
  have HMS := qH hms
  clear hbb hns hms HR
  go_enter Tryz.func64, Tryz.ntmps64
  go_wp2_with fail
  refine hmb.mono ?_
  rintro e w1 ⟨h1, hb1⟩
  obtain rfl := mbV_yes h1 HBB.out
  have HB1 := qH (HB.out.trans (hb1.mono HB.out.size))
  have hfa1 := hfa _ (H.out.next HB1.out)
  clear hmb hfa h1 hb1
  go_wp2_with fail
  refine hfa1.mono ?_
  rintro e w2 ⟨h2, hb2⟩
  have HB2 := qH (HB1.out.trans (hb2.mono HB1.out.size))
  clear hfa1 hb2
  cases hfo : fileAt (ndL f n) (some ns) with
  | error x =>
   rw [hfo, ThrE_err] at h2; subst h2; have hx := qH (fileAt_err hfo)
   have HR3 : Hid (R = (ndL f n, .bad x)) := qH (by
    rw [HR2.out]; unfold oLink; unfold fileAt at hfo; simp only at hfo ⊢
    cases hw : wlk (ndL f n) 0 ns with
    | error y => rw [hw] at hfo; cases hfo; rfl
    | ok k =>
     rw [hw] at hfo; simp only at hfo ⊢
     split at hfo
     ·rename_i hd
      cases hfo
      simp only [hd, if_true]
     ·cases hfo)
   clear hfo htn; go_wp2_with fail
   exact ⟨rfl, .bad' HR3.out hx.out (.belowW HB2.out)⟩
  | ok k =>
   rw [hfo, ThrE_ok] at h2; subst h2; obtain ⟨hkl, hkd⟩ := fileAt_lt HT.out.snd hfo; rw [ndL_len] at hkl
   have hwk : wlk (ndL f n) 0 ns = .ok k := by
    unfold fileAt at hfo; simp only at hfo
    cases hw : wlk (ndL f n) 0 ns with
    | error y => rw [hw] at hfo; cases hfo
    | ok j =>
     rw [hw] at hfo; simp only at hfo
     split at hfo
     ·cases hfo
     ·cases hfo; rfl
   have HR3 : Hid (R = if ms = [] then (ndL f n, .bad 24) else
     match toB (ndL f n) ms with
     | .error e => (ndL f n, .bad e)
     | .ok (a, o) => if o.isSome then (ndL f n, .bad 24) else if 200 ≤ (nat (ndL f n) k).l then (ndL f n, .bad 26) else if 64 ≤ (nat (ndL f n) a).e.length then (ndL f n, .bad 27) else (putE (ndL f n) a (lstN ms) k, .ok)) := qH (by
    rw [HR2.out]; unfold oLink; simp only; rw [hwk]; simp only [hkd, Bool.false_eq_true, if_false]
    rfl)
   have htn2 := htn _ (H.out.next HB2.out); clear hfo hwk hkd htn HR2; go_wp2_with fail; refine htn2.mono ?_; rintro e w3 ⟨h3, hb3⟩; have HB3 := qH (HB2.out.trans (hb3.mono HB2.out.size)); clear htn2 hb3
   by_cases hm0 : ms = []
   ·have HR4 : Hid (R = (ndL f n, .bad 24)) := qH (by rw [HR3.out, if_pos hm0])
    rw [hm0] at h3; obtain rfl : e = .panicked [pe 24] := h3; clear hm0; go_wp2_with fail
    exact ⟨rfl, .bad' HR4.out (by decide) (.belowW HB3.out)⟩
   ·unfold NewV at h3
    simp only [if_neg hm0] at h3
    cases hto : toB (ndL f n) ms with
    | error x =>
     simp only [hto] at h3; subst h3; have hx := qH (toB_err hto); have HR4 : Hid (R = (ndL f n, .bad x)) := qH (by rw [HR3.out, if_neg hm0, hto]); clear hm0 hto; go_wp2_with fail
     exact ⟨rfl, .bad' HR4.out hx.out (.belowW HB3.out)⟩
    | ok y =>
     obtain ⟨i, o⟩ := y; simp only [hto] at h3
     cases o with
     | some j =>
      simp only at h3; subst h3; have HR4 : Hid (R = (ndL f n, .bad 24)) := qH (by rw [HR3.out, if_neg hm0, hto]; rfl); clear hm0 hto; go_wp2_with fail
      exact ⟨rfl, .bad' HR4.out (by decide) (.belowW HB3.out)⟩
     | none =>
      simp only at h3; subst h3
      have hi : i < n := by
       have := HT.out.snd.wlklt (toB_ok hto).1; rw [ndL_len] at this
       exact this
      have HR4 : Hid (R = if 200 ≤ (f k).l then (ndL f n, .bad 26) else if 64 ≤ (f i).e.length then (ndL f n, .bad 27) else (putE (ndL f n) i (lstN ms) k, .ok)) := qH (by
       rw [HR3.out, if_neg hm0, hto]; simp only [Option.isSome_none, Bool.false_eq_true, if_false, nat_ndL hkl, nat_ndL hi]
       rfl)
      have hm := (HT.out.ents hi).1; have hf := HT.out.fit hi; have hn := HT.out.le.2; have hsz := size_ok HMS.out (lst_mem hm0)
      have hfl := fun (w' : World) (h' : Wo w' wb g n c f) => isFull_any h'.wr hi (by omega)
      have hput := fun (w' : World) (h' : Wo w' wb g n c f) => tput_any h' hi (by omega) (lstN ms) k (by omega) hf hsz
      have h3' := H.out.next HB3.out; have c0 := h3'.wr.c0
      obtain ⟨z, hz⟩ : ∃ z : Nat, z = 0 := ⟨0, rfl⟩
      have d1 := (h3'.cell hkl).2.1; rw [← hz] at d1
      have c0' : w3.cell? ⟨wb, 0, none⟩ = some (.slice (some ⟨g, z, none⟩) n c) := by rw [hz]; exact c0
      have k0 : (0 : Int) ≤ (k : Int) := by omega
      have k1 : (k : Int) < (n : Int) := by omega
      have HW3 := qH h3'; have HI := qH hi; clear hm0 hto hm hf hsz h3' c0 hz
      by_cases hl : 200 ≤ (f k).l
      ·have HR5 : Hid (R = (ndL f n, .bad 26)) := qH (by rw [HR4.out, if_pos hl])
       have el : decide (200 ≤ (f k).l) = true := decide_eq_true hl; clear hl hput hfl; go_wp2_with fail; refine (refuse_yes 26 _).mono ?_; rintro e w4 ⟨rfl, rfl⟩; go_wp2_with fail
       exact ⟨rfl, .bad' HR5.out (by decide) (.belowW HB3.out)⟩
      ·have HR5 : Hid (R = if 64 ≤ (f i).e.length then (ndL f n, .bad 27) else (putE (ndL f n) i (lstN ms) k, .ok)) := qH (by rw [HR4.out, if_neg hl])
       have el : decide (200 ≤ (f k).l) = false := decide_eq_false hl; have hfl3 := hfl _ HW3.out; clear hl hfl; go_wp2_with fail; refine (refuse_no 26 _).mono ?_; rintro e w4 ⟨rfl, rfl⟩; go_wp2_with fail; refine hfl3.mono ?_; rintro e w5 ⟨h5, hb5⟩; have HB5 := qH (HB3.out.trans (hb5.mono HB3.out.size)); have hp5 := hput _ (HW3.out.next hb5); clear hfl3 hb5 hput d1 c0'
       by_cases h64 : 64 ≤ (f i).e.length
       ·rw [decide_eq_true h64] at h5
        subst h5; have HR6 : Hid (R = (ndL f n, .bad 27)) := qH (by rw [HR5.out, if_pos h64]); clear h64 hp5; go_wp2_with fail; refine (refuse_yes 27 _).mono ?_; rintro e w6 ⟨rfl, rfl⟩; go_wp2_with fail
        exact ⟨rfl, .bad' HR6.out (by decide) (.belowW HB5.out)⟩
       ·rw [decide_eq_false h64] at h5
        subst h5; have HR6 : Hid (R = (putE (ndL f n) i (lstN ms) k, .ok)) := qH (by rw [HR5.out, if_neg h64]); clear h64; go_wp2_with fail; refine (refuse_no 27 _).mono ?_; rintro e w6 ⟨rfl, rfl⟩; go_wp2_with fail; refine hp5.mono ?_; rintro e w7 ⟨rfl, hch⟩; obtain ⟨f', hW, hL, hT⟩ := hch.good HI.out
        have HG : Hid (OpU w wb g R (.returned (.tuple #[])) w7) := qH (by
         rw [HR6.out]
         exact .good rfl hW (by rw [hL, putE_at HI.out]) ((Turn.belowW HB5.out).trans hT) (.inl rfl))
        clear hp5 hch hW hL hT; go_wp2_with fail
        go_end0
        exact HG.out
end
end Go.Proofs.YtinholnidchblaaGreatDoor
