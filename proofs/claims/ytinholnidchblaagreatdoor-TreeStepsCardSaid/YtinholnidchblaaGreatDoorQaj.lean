import Derived.Test.YtinholnidchblaaGreatDoorQai
import Derived.Test.YtinholnidchblaaGreatDoorQaf
import Derived.Deep.RegionHeld
set_option linter.unusedVariables false
set_option linter.unusedSimpArgs false
set_option maxRecDepth 100000
set_option maxHeartbeats 16000000
namespace Go.Proofs.YtinholnidchblaaGreatDoor
open Go.RowKit
section
variable {w : World} {wb g n c : Nat} {f : Nat → Nc}
theorem fileAt_none (L : List Nd) : fileAt L none = .error 20 := rfl
theorem fileAt_some (L : List Nd) (ns : List ByteArray) : fileAt L (some ns) = match wlk L 0 ns with | .error e => .error e | .ok k => if isD (nat L k) then .error 23 else .ok k := rfl
theorem dirAt_none (L : List Nd) : dirAtO L none = .error 20 := rfl
theorem dirAt_some (L : List Nd) (ns : List ByteArray) : dirAtO L (some ns) = match wlk L 0 ns with | .error e => .error e | .ok k => if isD (nat L k) then .ok k else .error 22 := rfl
theorem toB_kid {f : Nat → Nc} {n a k : Nat} (h : Rgt (ndL f n)) {ns : List ByteArray} (ht : toB (ndL f n) ns = .ok (a, some k)) : a < n ∧ 1 ≤ k ∧ k < n := by
 obtain ⟨h1, h2, h3⟩ := toB_ok ht
 have ha : a < n := by
  have := h.snd.wlklt h1
  rw [ndL_len] at this
  exact this
 rw [nat_ndL ha] at h3
 exact ⟨ha, h.kid ha h3.symm⟩
theorem oCut_file {L : List Nd} {ns : List ByteArray} {k a : Nat} {o : Option Nat} (hw : wlk L 0 ns = .ok k) (hd : isD (nat L k) = false) (ht : toB L ns = .ok (a, o)) : oCut L false (some ns) = (cutE L a (lstN ns), .ok) := by
 unfold oCut
 simp only
 rw [hw]
 simp only [hd, Bool.false_eq_true, and_false, false_and, if_false, ht]
theorem oCut_dir {L : List Nd} {ns : List ByteArray} {k a : Nat} {o : Option Nat} (hw : wlk L 0 ns = .ok k) (hd : isD (nat L k) = true) (h0 : k ≠ 0) (he : (nat L k).e = []) (ht : toB L ns = .ok (a, o)) : oCut L true (some ns) = (cutE L a (lstN ns), .ok) := by
 unfold oCut
 simp only
 rw [hw]
 simp only [hd, he, h0, Bool.true_eq_false, and_false, false_and, if_false, ht, ne_eq, not_true_eq_false, or_self]
theorem oCut_fill {L : List Nd} {ns : List ByteArray} {k : Nat} (hw : wlk L 0 ns = .ok k) (hd : isD (nat L k) = true) (h0 : k = 0 ∨ (nat L k).e ≠ []) : oCut L true (some ns) = (L, .bad 25) := by
 unfold oCut
 simp only
 rw [hw]
 simp only [hd, Bool.true_eq_false, and_false, false_and, if_false]
 rw [if_pos ⟨trivial, h0⟩]
theorem oCut_err {L : List Nd} {ns : List ByteArray} {x : Int} (rm : Bool) (hw : wlk L 0 ns = .error x) : oCut L rm (some ns) = (L, .bad x) := by
 unfold oCut
 simp only
 rw [hw]
theorem oCut_isD {L : List Nd} {ns : List ByteArray} {k : Nat} (hw : wlk L 0 ns = .ok k) (hd : isD (nat L k) = true) : oCut L false (some ns) = (L, .bad 23) := by
 unfold oCut
 simp only
 rw [hw]
 simp only [hd, and_self, if_true]
theorem oCut_notD {L : List Nd} {ns : List ByteArray} {k : Nat} (hw : wlk L 0 ns = .ok k) (hd : isD (nat L k) = false) : oCut L true (some ns) = (L, .bad 22) := by
 unfold oCut
 simp only
 rw [hw]
 simp only [hd, Bool.true_eq_false, Bool.false_eq_true, false_and, and_self, if_false, if_true]
theorem ne_of_file {L : List Nd} (h : Rgt L) {ns : List ByteArray} {k : Nat} (hw : wlk L 0 ns = .ok k) (hd : isD (nat L k) = false) : ns ≠ [] := by
 rintro rfl
 rw [wlk_nil] at hw
 cases hw
 rw [h.root] at hd
 cases hd
theorem unlink_any (h : Wo w wb g n c f) (ht : Rgt (ndL f n)) (s : ByteArray) (hs : s.size < 4294967281) :
  Calls Tryz.prog 65 #[.pointer (some ⟨wb, 0, none⟩), .string s] w (OpU w wb g (oCut (ndL f n) false (nms s))) := by
 have hfa := fileAt_any h.wr ht s hs
 have hcu := fun (w' : World) (h' : Wo w' wb g n c f) (ns : List ByteArray) (hP : nms s = some ns) (hns : ns ≠ []) (i : Nat) (o : Option Nat) (hto : toB (ndL f n) ns = .ok (i, o)) => tcut_any h' ht s hs hP hns hto
 have H := qH h
 have HT := qH ht
 clear h ht
 cases hP : nms s with
 | none =>
  rw [hP, fileAt_none, ThrE_err] at hfa
  clear hcu
  go_enter Tryz.func65, Tryz.ntmps65
  go_wp2_with fail
  refine hfa.mono ?_
  rintro e w1 ⟨rfl, hb⟩
  go_wp2_with fail
  exact ⟨rfl, .bad (by decide) rfl (.belowW hb)⟩
 | some ns =>
  rw [hP, fileAt_some] at hfa
  cases hw : wlk (ndL f n) 0 ns with
  | error x =>
   rw [hw] at hfa; rw [oCut_err _ hw]; have hx := wlk_err0 hw; clear hcu
   go_enter Tryz.func65, Tryz.ntmps65
   go_wp2_with fail; refine hfa.mono ?_; rintro e w1 ⟨h1, hb⟩; obtain rfl : e = .panicked [pe x] := h1; go_wp2_with fail
   exact ⟨rfl, .bad hx rfl (.belowW hb)⟩
  | ok k =>
   rw [hw] at hfa
   cases hd : isD (nat (ndL f n) k) with
   | true =>
    rw [oCut_isD hw hd]; clear hcu
    go_enter Tryz.func65, Tryz.ntmps65
    go_wp2_with fail; refine hfa.mono ?_; rintro e w1 ⟨h1, hb⟩; simp only [hd, if_true] at h1; obtain rfl : e = .panicked [pe 23] := h1; go_wp2_with fail
    exact ⟨rfl, .bad (by decide) rfl (.belowW hb)⟩
   | false =>
    have hns := ne_of_file HT.out hw hd; obtain ⟨a, hto⟩ := wlk_toB hw hns; rw [oCut_file hw hd hto]; have ha := (toB_kid HT.out hto).1
    have hcu2 := fun (w' : World) (h' : Wo w' wb g n c f) => hcu w' h' ns hP hns a _ hto
    have HA := qH ha; have HD := qH hd; clear hcu hP hw hd hns hto ha
    go_enter Tryz.func65, Tryz.ntmps65
    go_wp2_with fail; refine hfa.mono ?_; rintro e w1 ⟨h1, hb⟩; simp only [HD.out, Bool.false_eq_true, if_false] at h1; obtain rfl : e = .returned (.int .i64 (k : Int)) := h1; have hc1 := hcu2 _ (H.out.next hb); have HB := qH hb; clear hfa hcu2 hb; go_wp2_with fail; refine hc1.mono ?_; rintro e w2 ⟨rfl, hch⟩; obtain ⟨f', hW, hL, hT⟩ := hch.good HA.out; have HG : Hid (OpU w wb g (cutE (ndL f n) a (lstN ns), .ok) (.returned (.tuple #[])) w2) := qH (.good rfl hW (by rw [hL, cutE_at HA.out]) ((Turn.belowW HB.out).trans hT) (.inl rfl)); clear hc1 hch hW hL hT; go_wp2_with fail
    go_end0
    exact HG.out
theorem rmdir_any (h : Wo w wb g n c f) (ht : Rgt (ndL f n)) (s : ByteArray) (hs : s.size < 4294967281) :
  Calls Tryz.prog 66 #[.pointer (some ⟨wb, 0, none⟩), .string s] w (OpU w wb g (oCut (ndL f n) true (nms s))) := by
 have hfa := dirAt_any h.wr ht s hs
 have hcu := fun (w' : World) (h' : Wo w' wb g n c f) (ns : List ByteArray) (hP : nms s = some ns) (hns : ns ≠ []) (i : Nat) (o : Option Nat) (hto : toB (ndL f n) ns = .ok (i, o)) => tcut_any h' ht s hs hP hns hto
 have H := qH h
 have HT := qH ht
 clear h ht
 cases hP : nms s with
 | none =>
  rw [hP, dirAt_none, ThrE_err] at hfa
  clear hcu
  go_enter Tryz.func66, Tryz.ntmps66
  go_wp2_with fail
  refine hfa.mono ?_
  rintro e w1 ⟨rfl, hb⟩
  go_wp2_with fail
  exact ⟨rfl, .bad (by decide) rfl (.belowW hb)⟩
 | some ns =>
  rw [hP, dirAt_some] at hfa
  cases hw : wlk (ndL f n) 0 ns with
  | error x =>
   rw [hw] at hfa; rw [oCut_err _ hw]; have hx := wlk_err0 hw; clear hcu
   go_enter Tryz.func66, Tryz.ntmps66
   go_wp2_with fail; refine hfa.mono ?_; rintro e w1 ⟨h1, hb⟩; obtain rfl : e = .panicked [pe x] := h1; go_wp2_with fail
   exact ⟨rfl, .bad hx rfl (.belowW hb)⟩
  | ok k =>
   rw [hw] at hfa
   have hk : k < n := by
    have := HT.out.snd.wlklt hw; rw [ndL_len] at this
    exact this
   cases hd : isD (nat (ndL f n) k) with
   | false =>
    rw [oCut_notD hw hd]; clear hcu
    go_enter Tryz.func66, Tryz.ntmps66
    go_wp2_with fail; refine hfa.mono ?_; rintro e w1 ⟨h1, hb⟩; simp only [hd, Bool.false_eq_true, if_false] at h1; obtain rfl : e = .panicked [pe 22] := h1; go_wp2_with fail
    exact ⟨rfl, .bad (by decide) rfl (.belowW hb)⟩
   | true =>
    by_cases hns : ns = []
    ·have hq := root_yes (s := s) (by rw [hP, hns])
     have hk0 : k = 0 := by
      rw [hns, wlk_nil] at hw
      cases hw; rfl
     rw [oCut_fill hw hd (.inl hk0)]; have HD := qH hd; clear hcu hP hw hd hns hk0
     go_enter Tryz.func66, Tryz.ntmps66
     go_wp2_with fail; refine hfa.mono ?_; rintro e w1 ⟨h1, hb⟩; simp only [HD.out, if_true] at h1; obtain rfl : e = .returned (.int .i64 (k : Int)) := h1; go_wp2_with fail; refine (refuse_yes 25 _).mono ?_; rintro e w2 ⟨rfl, rfl⟩; go_wp2_with fail
     exact ⟨rfl, .bad (by decide) rfl (.belowW hb)⟩
    ·have hq := root_no (s := s) (by rw [hP]; intro e; exact hns (Option.some.inj e))
     have hhe := fun (w' : World) (h' : Wo w' wb g n c f) => hasEnt_any h'.wr hk (by have := HT.out.le; omega)
     have HD := qH hd
     by_cases he : 0 < (f k).e.length
     ·have e0 : decide (0 < (f k).e.length) = true := decide_eq_true he
      rw [e0] at hhe; rw [oCut_fill hw hd (.inr (by rw [nat_ndL hk]; exact List.ne_nil_of_length_pos he))]; clear hcu hP hw hd hns e0 he
      go_enter Tryz.func66, Tryz.ntmps66
      go_wp2_with fail; refine hfa.mono ?_; rintro e w1 ⟨h1, hb⟩; simp only [HD.out, if_true] at h1; obtain rfl : e = .returned (.int .i64 (k : Int)) := h1; have hh1 := hhe _ (H.out.next hb); have HB := qH hb; clear hfa hhe hb; go_wp2_with fail; refine hh1.mono ?_; rintro e w2 ⟨rfl, hb2⟩; have HB2 := qH (HB.out.trans (hb2.mono HB.out.size)); clear hh1 hb2; go_wp2_with fail; refine (refuse_yes 25 _).mono ?_; rintro e w3 ⟨rfl, rfl⟩; go_wp2_with fail
      exact ⟨rfl, .bad (by decide) rfl (.belowW HB2.out)⟩
     ·have e0 : decide (0 < (f k).e.length) = false := decide_eq_false he
      rw [e0] at hhe; obtain ⟨a, hto⟩ := wlk_toB hw hns; have hak := toB_kid HT.out hto; rw [oCut_dir hw hd (by omega) (by rw [nat_ndL hk]; exact List.eq_nil_of_length_eq_zero (by show (f k).e.length = 0; omega)) hto]
      have hcu2 := fun (w' : World) (h' : Wo w' wb g n c f) => hcu w' h' ns hP hns a _ hto
      have HA := qH hak.1; clear hcu hP hw hd hns e0 he hto hak
      go_enter Tryz.func66, Tryz.ntmps66
      go_wp2_with fail; refine hfa.mono ?_; rintro e w1 ⟨h1, hb⟩; simp only [HD.out, if_true] at h1; obtain rfl : e = .returned (.int .i64 (k : Int)) := h1; have hh1 := hhe _ (H.out.next hb); have HB := qH hb; clear hfa hhe hb; go_wp2_with fail; refine hh1.mono ?_; rintro e w2 ⟨rfl, hb2⟩; have HB2 := qH (HB.out.trans (hb2.mono HB.out.size)); have hc1 := hcu2 _ (H.out.next HB2.out); clear hh1 hb2 hcu2; go_wp2_with fail; refine (refuse_no 25 _).mono ?_; rintro e w3 ⟨rfl, rfl⟩; go_wp2_with fail; refine hc1.mono ?_; rintro e w4 ⟨rfl, hch⟩; obtain ⟨f', hW, hL, hT⟩ := hch.good HA.out; have HG : Hid (OpU w wb g (cutE (ndL f n) a (lstN ns), .ok) (.returned (.tuple #[])) w4) := qH (.good rfl hW (by rw [hL, cutE_at HA.out]) ((Turn.belowW HB2.out).trans hT) (.inl rfl)); clear hc1 hch hW hL hT; go_wp2_with fail
      go_end0
      exact HG.out
end
def OpB (w : World) (r : Rv) (e : Ending) (w' : World) : Prop :=
 (if r.err = 0 then ∃ v, e = .returned v ∧ Own w' w.heap.size v r.d.length r.d else e = .panicked [pe r.err]) ∧ Below w.heap.size w w'
theorem OpB.bad {w w' : World} {x : Int} (hx : x ≠ 0) (hb : Below w.heap.size w w') : OpB w (.bad x) (.panicked [pe x]) w' := by
 refine ⟨?_, hb⟩
 rw [if_neg (show ¬ (Rv.bad x).err = 0 from hx)]
 rfl
theorem file_pin {f : Nat → Nc} {n k : Nat} (ht : Rgt (ndL f n)) {P : Option (List ByteArray)} (h : fileAt (ndL f n) P = .ok k) : k < n ∧ fileOk (f k).nd := by
 obtain ⟨h1, h2⟩ := fileAt_lt ht.snd h
 rw [ndL_len] at h1
 rw [nat_ndL h1] at h2
 refine ⟨h1, ?_⟩
 rcases ht.at h1 with h3 | h3
 ·exact h3.1
 ·rw [isD_dir h3] at h2; cases h2
theorem wrap64_id (n : Int) (h : -9223372036854775808 ≤ n ∧ n ≤ 9223372036854775807) : wrap64 n = n := by unfold wrap64; omega
theorem read_nums {i m : Int} {dn dc : Nat} (h0 : 0 ≤ i) (h1 : 0 ≤ m) (hd : dn ≤ 100000) (hc : dn ≤ dc) :
  ∃ p r : Nat, min i (dn : Int) = (p : Int) ∧ min m ((dn : Int) - (p : Int)) = (r : Int) ∧ wrap64 ((dn : Int) - (p : Int)) = (dn : Int) - (p : Int) ∧ wrap64 ((p : Int) + (r : Int)) = (p : Int) + (r : Int) ∧
   (0 : Int) ≤ (p : Int) ∧ (p : Int) ≤ (p : Int) + (r : Int) ∧ (p : Int) + (r : Int) ≤ (dc : Int) ∧ p = min i.toNat dn ∧ r = min m.toNat (dn - p) := by
 obtain ⟨p, hp⟩ : ∃ p : Nat, min i (dn : Int) = (p : Int) := ⟨(min i (dn : Int)).toNat, by omega⟩
 obtain ⟨r, hr⟩ : ∃ r : Nat, min m ((dn : Int) - (p : Int)) = (r : Int) := ⟨(min m ((dn : Int) - (p : Int))).toNat, by omega⟩
 have hp' : (p : Int) ≤ dn := by omega
 have hr' : (r : Int) ≤ dn - p := by omega
 exact ⟨p, r, hp, hr, wrap64_id _ (by clear hp hr; omega), wrap64_id _ (by clear hp hr; omega), by omega, by omega, by clear hp hr; omega, by clear hr; omega, by omega⟩
theorem read_part {zs : List Int} {dn p r : Nat} {i m : Int} (hl : zs.length = dn) (hp : p = min i.toNat dn) (hr : r = min m.toNat (dn - p)) : (zs.drop p).take r = (zs.drop i.toNat).take m.toNat := by
 by_cases h : i.toNat ≤ dn
 ·obtain rfl : p = i.toNat := by omega
  have e : (zs.drop i.toNat).length = dn - i.toNat := by rw [List.length_drop, hl]
  by_cases h2 : m.toNat ≤ dn - i.toNat
  ·obtain rfl : r = m.toNat := by omega
   rfl
  ·rw [List.take_of_length_le (by rw [e]; omega), List.take_of_length_le (by rw [e]; omega)]
 ·rw [List.drop_eq_nil_of_le (show zs.length ≤ p by omega), List.drop_eq_nil_of_le (show zs.length ≤ i.toNat by omega)]
  simp
theorem Own.lower {w : World} {B C : Nat} {v : Value} {n : Nat} {zs : List Int} (h : Own w B v n zs) (hC : C ≤ B) : Own w C v n zs := ⟨h.row.mono hC, h.small⟩
theorem Pin.sub {w : World} {a : Option Addr} {n c p r : Nat} {zs : List Int} (h : Pin w a n c zs) (hp : p ≤ n) (hr : r ≤ n - p) : Pin w (a.map fun x => x.add p) r (c - p) ((zs.drop p).take r) := by
 have hc := h.cap
 have hm := h.max
 have hl := h.len
 have hlen : ((zs.drop p).take r).length = r := by rw [List.length_take, List.length_drop]; omega
 refine ⟨⟨hlen, (h.bys.small.drop p).take r, ?_⟩, fun e => ?_, by omega, by omega⟩
 ·by_cases h0 : r = 0
  ·exact .inl h0
  ·rcases h.bys.place with h1 | ⟨b, off, rfl, hlt, hcl⟩
   ·omega
   ·have hb : Bys w (some ⟨b, off, none⟩) n zs := h.bys
    have := ((hb.rest p).front hr).place
    rcases this with h1 | ⟨b', off', e, h2⟩
    ·omega
    ·refine .inr ⟨b', off', ?_, h2⟩
     rw [← e]
     simp [add_e]
 ·cases a with
  | none =>
   have := h.nil rfl
   omega
  | some q => cases e
section
variable {w : World} {wb n c : Nat} {na : Option Addr} {f : Nat → Nc}
theorem read_err (h : Wr w wb na n c f) (s : ByteArray) (i m x : Int) (hx : x ≠ 0)
  (hfa : ∀ w', Wr w' wb na n c f → Calls Tryz.prog 104 #[.pointer (some ⟨wb, 0, none⟩), .string s] w' fun e w'' => e = .panicked [pe x] ∧ Below w'.heap.size w' w'') :
  Calls Tryz.prog 68 #[.pointer (some ⟨wb, 0, none⟩), .string s, .int .i64 i, .int .i64 m] w (OpB w (.bad x)) := by
 have c0 := h.c0
 have hfd := hfa _ (h.next (below_drewN (Below.refl _ _) 1))
 have HX := qH hx
 clear h hfa hx
 go_enter Tryz.func68, Tryz.ntmps68
 go_wp2_with fail
 refine wp_region_held_drew (S := (fun w' => w'.cell? ⟨wb, 0, none⟩ = some (.slice na n c))) (by kernel_rfl) ?_ (fun hHeld => ?_)
 ·exact c0
 refine rgZ 0 ?_ rfl (.inl ⟨by rfl, fun w hSw => ?_⟩) ?_ (by kernel_rfl) (fun _ _ _ h => h) (by assumption)
 rotate_left
 ·(try dsimp only at hSw); go_simp; try with_reducible rfl
 simp only [Act.put, rg]
 refine rgZ 1 ?_ rfl (.inl ⟨by rfl, fun w hSw => ?_⟩) ?_ (by kernel_rfl) (fun _ _ _ h => h) (by assumption)
 rotate_left
 ·(try dsimp only at hSw); go_simp; try with_reducible rfl
 simp only [Act.put, rg]
 refine rgZ 2 ?_ rfl (.inl ⟨by rfl, fun w hSw => ?_⟩) ?_ (by kernel_rfl) (fun _ _ _ h => h) (by assumption)
 rotate_left
 ·(try dsimp only at hSw); go_simp; try with_reducible rfl
 simp only [Act.put, rg]
 refine rgZ 3 ?_ rfl (.inl ⟨by rfl, fun w hSw => ?_⟩) ?_ (by kernel_rfl) (fun _ _ _ h => h) (by assumption)
 rotate_left
 ·(try dsimp only at hSw); go_simp; try with_reducible rfl
 simp only [Act.put, rg]
 refine rgZ 4 ?_ rfl (.inl ⟨by rfl, fun w hSw => ?_⟩) ?_ (by kernel_rfl) (fun _ _ _ h => h) (by assumption)
 rotate_left
 ·(try dsimp only at hSw); go_simp; try with_reducible rfl
 simp only [Act.put, rg]
 refine rgZ 5 ?_ rfl (.inl ⟨by rfl, fun w hSw => ?_⟩) ?_ (by kernel_rfl) (fun _ _ _ h => h) (by assumption)
 rotate_left
 ·(try dsimp only at hSw); go_simp; try with_reducible rfl
 simp only [Act.put, rg]
 refine rgZ 6 ?_ rfl (.inl ⟨by rfl, fun w hSw => ?_⟩) ?_ (by kernel_rfl) (fun _ _ _ h => h) (by assumption)
 rotate_left
 ·(try dsimp only at hSw); go_simp; try with_reducible rfl
 simp only [Act.put, rg]
 refine rgC 7 rfl (by kernel_rfl) (fun K hK => ?_)
 simp only [rg4, rg5, rg6]
 go_simp
 refine (hfd).mono ?_
 rintro e w3 ⟨rfl, hb3⟩
 go_wp2_with fail
 exact ⟨rfl, .bad HX.out (below_drewN (Below.refl _ _) 1 |>.trans (hb3.mono (Nat.le_refl _)))⟩
theorem read_ok (h : Wr w wb na n c f) (s : ByteArray) (i m : Int) (h0 : 0 ≤ i) (h1 : 0 ≤ m) (hi9 : i ≤ 9223372036854775807) (hm9 : m ≤ 9223372036854775807) {k : Nat} (hk : k < n) (hn : n ≤ 1000000) (hl : (f k).d.length ≤ 100000)
  (hfa : ∀ w', Wr w' wb na n c f → Calls Tryz.prog 104 #[.pointer (some ⟨wb, 0, none⟩), .string s] w' fun e w'' => e = .returned (.int .i64 (k : Int)) ∧ Below w'.heap.size w' w'') :
  Calls Tryz.prog 68 #[.pointer (some ⟨wb, 0, none⟩), .string s, .int .i64 i, .int .i64 m] w (OpB w ⟨0, ((f k).d.drop i.toNat).take m.toNat, [], 0, 0, 0⟩) := by
 have c0 := h.c0
 have hP := h.nds.data k hk
 obtain ⟨b, off, rfl, hb, d0, d1, d2, d3⟩ := h.nds.at hk
 have hlt := h.lt
 have k0 : (0 : Int) ≤ (k : Int) := by omega
 have k1 : (k : Int) < (n : Int) := by omega
 have hfd := hfa _ (h.next (below_drewN (Below.refl _ _) 1))
 have HP := qH (hP.drewN 1)
 have HLT := qH hlt
 have HBB := qH hb
 have i0 : decide (i < 0) = false := decide_eq_false (by omega)
 have m0 : decide (m < 0) = false := decide_eq_false (by omega)
 clear h hfa d0 d1 d3 hP hlt hb
 obtain ⟨zs, hzs⟩ : ∃ zs, zs = (f k).d := ⟨_, rfl⟩
 rw [← hzs] at HP hl ⊢
 obtain ⟨da, hda⟩ : ∃ x, x = (f k).da := ⟨_, rfl⟩
 obtain ⟨dn, hdn⟩ : ∃ x, x = (f k).dn := ⟨_, rfl⟩
 obtain ⟨dc, hdc⟩ : ∃ x, x = (f k).dc := ⟨_, rfl⟩
 rw [← hda, ← hdn, ← hdc] at HP d2
 clear hzs hda hdn hdc
 obtain ⟨p, r, hp, hr, e2, e4, q0, q1, q2, hpi, hri⟩ := read_nums (dn := dn) (dc := dc) h0 h1 (by have := HP.out.len; omega) HP.out.cap
 have HLEN := qH HP.out.len
 have HBD := qH (show dn ≤ 100000 by have := HP.out.len; omega)
 have HA1 := qH hp
 have HA2 := qH e2
 have HA3 := qH hr
 have HA4 := qH e4
 have HQ := qH (And.intro q0 (And.intro q1 q2))
 have HPI := qH (And.intro hpi hri)
 clear hp e2 hr e4 q0 q1 q2 hpi hri
 go_enter Tryz.func68, Tryz.ntmps68
 go_wp2_with fail
 refine wp_region_held_drew (S := (fun w' => w'.cell? ⟨wb, 0, none⟩ = some (.slice (some ⟨b, off, none⟩) n c) ∧ w'.cell? ⟨b, off + k * 4 + 2, none⟩ = some (.slice da dn dc))) (by kernel_rfl) ?_ (fun hHeld => ?_)
 ·exact ⟨c0, d2⟩
 refine rgZ 0 ?_ rfl (.inl ⟨by rfl, fun w hSw => ?_⟩) ?_ (by kernel_rfl) (fun _ _ _ h => h) (by assumption)
 rotate_left
 ·(try dsimp only at hSw); go_simp; try with_reducible rfl
 simp only [Act.put, rg]
 refine rgZ 1 ?_ rfl (.inl ⟨by rfl, fun w hSw => ?_⟩) ?_ (by kernel_rfl) (fun _ _ _ h => h) (by assumption)
 rotate_left
 ·(try dsimp only at hSw); go_simp; try with_reducible rfl
 simp only [Act.put, rg]
 refine rgZ 2 ?_ rfl (.inl ⟨by rfl, fun w hSw => ?_⟩) ?_ (by kernel_rfl) (fun _ _ _ h => h) (by assumption)
 rotate_left
 ·(try dsimp only at hSw); go_simp; try with_reducible rfl
 simp only [Act.put, rg]
 refine rgZ 3 ?_ rfl (.inl ⟨by rfl, fun w hSw => ?_⟩) ?_ (by kernel_rfl) (fun _ _ _ h => h) (by assumption)
 rotate_left
 ·(try dsimp only at hSw); go_simp; try with_reducible rfl
 simp only [Act.put, rg]
 refine rgZ 4 ?_ rfl (.inl ⟨by rfl, fun w hSw => ?_⟩) ?_ (by kernel_rfl) (fun _ _ _ h => h) (by assumption)
 rotate_left
 ·(try dsimp only at hSw); go_simp; try with_reducible rfl
 simp only [Act.put, rg]
 refine rgZ 5 ?_ rfl (.inl ⟨by rfl, fun w hSw => ?_⟩) ?_ (by kernel_rfl) (fun _ _ _ h => h) (by assumption)
 rotate_left
 ·(try dsimp only at hSw); go_simp; try with_reducible rfl
 simp only [Act.put, rg]
 refine rgZ 6 ?_ rfl (.inl ⟨by rfl, fun w hSw => ?_⟩) ?_ (by kernel_rfl) (fun _ _ _ h => h) (by assumption)
 rotate_left
 ·(try dsimp only at hSw); go_simp; try with_reducible rfl
 simp only [Act.put, rg]
 refine rgC 7 rfl (by kernel_rfl) (fun K hK => ?_)
 simp only [rg4, rg5, rg6]
 go_simp
 refine (hfd).mono ?_
 rintro e w3 ⟨rfl, hb3⟩
 have HP3 := qH (HP.out.next hb3)
 have hS3 : w3.cell? ⟨wb, 0, none⟩ = some (.slice (some ⟨b, off, none⟩) n c) ∧ w3.cell? ⟨b, off + k * 4 + 2, none⟩ = some (.slice da dn dc) := ⟨(hb3.cell (p := ⟨wb, 0, none⟩) HLT.out).trans c0, (hb3.cell (p := ⟨b, off + k * 4 + 2, none⟩) HBB.out).trans d2⟩
 have HB3 := qH ((below_drewN (Below.refl w.heap.size w) 1).trans (hb3.mono (Nat.le_refl _)))
 clear hfd hb3 c0 d2
 go_wp2_with fail
 refine hK.out _ _ hS3 (fun hHeld => ?_)
 clear hK K
 refine rgZ 8 ?_ rfl (.inl ⟨by rfl, fun w hSw => ?_⟩) ?_ (by kernel_rfl) (fun _ _ _ h => h) (by assumption)
 rotate_left
 ·(try dsimp only at hSw); go_simp; try with_reducible rfl
 simp only [Act.put, rg]
 refine rgZ 9 ?_ rfl (.inl ⟨by rfl, fun w hSw => ?_⟩) ?_ (by kernel_rfl) (fun _ _ _ h => h) (by assumption)
 rotate_left
 ·(try dsimp only at hSw); go_simp; try with_reducible rfl
 simp only [Act.put, rg]
 refine rgZ 10 ?_ rfl (.inl ⟨by rfl, fun w hSw => ?_⟩) ?_ (by kernel_rfl) (fun _ _ _ h => h) (by assumption)
 rotate_left
 ·(try dsimp only at hSw); go_simp; try with_reducible rfl
 simp only [Act.put, rg]
 refine rgZ 11 ?_ rfl (.inl ⟨by rfl, fun w hSw => ?_⟩) ?_ (by kernel_rfl) (fun _ _ _ h => h) (by assumption)
 rotate_left
 ·(try dsimp only at hSw); go_simp; try with_reducible rfl
 simp only [Act.put, rg]
 refine wpAnyH_done (by kernel_rfl) ?_ _
 clear hS3
 go_wp2_with fail
 refine (refuse_no 28 _).mono ?_
 rintro e w4 ⟨rfl, rfl⟩
 have hp := HA1.out
 have e2 := HA2.out
 have hr := HA3.out
 have e4 := HA4.out
 obtain ⟨q0, q1, q2⟩ := HQ.out
 clear h0 h1 hi9 hm9 i0 m0 hk hn hl k0 k1
 go_wp2_with fail
 ·have hr0 : r = 0 := by omega
  have hcl := bclone_any da r 0 ((zs.drop p).take r) w4 (by rw [hr0]; exact ⟨Bys.none _, fun _ => ⟨rfl, rfl⟩, Nat.le_refl _, by omega⟩) (by omega)
  have HZ : Hid ((zs.drop p).take r = (zs.drop i.toNat).take m.toNat) := qH (read_part HLEN.out HPI.out.1 HPI.out.2)
  clear hp e2 hr e4 q0 q1 q2 hr0
  refine hcl.mono ?_
  rintro e w5 ⟨v, rfl, hv, hb5⟩
  have HV := qH hv
  have HB5 := qH (HB3.out.trans (hb5.mono HB3.out.size))
  have HB3' := qH HB3.out.size
  clear hcl hv hb5
  go_wp2_with fail
  go_ret
  refine ⟨?_, HB5.out⟩
  rw [if_pos rfl]
  refine ⟨v, rfl, ?_⟩
  simp only
  rw [← HZ.out]
  exact HV.out.lower HB3'.out
 ·have hPs := Pin.sub (p := p) (r := r) HP3.out (by have := HPI.out; omega) (by have := HPI.out; omega)
  have hcl := bclone_any _ _ _ _ _ hPs (by have := HPI.out; have := HBD.out; omega)
  have HZ : Hid ((zs.drop p).take r = (zs.drop i.toNat).take m.toNat) := qH (read_part HLEN.out HPI.out.1 HPI.out.2)
  clear hp e2 hr e4 q0 q1 q2 hPs
  refine hcl.mono ?_
  rintro e w5 ⟨v, rfl, hv, hb5⟩
  have HV := qH hv
  have HB5 := qH (HB3.out.trans (hb5.mono HB3.out.size))
  have HB3' := qH HB3.out.size
  clear hcl hv hb5
  go_wp2_with fail
  go_ret
  refine ⟨?_, HB5.out⟩
  rw [if_pos rfl]
  refine ⟨v, rfl, ?_⟩
  simp only
  rw [← HZ.out]
  exact HV.out.lower HB3'.out
theorem read_rng (h : Wr w wb na n c f) (s : ByteArray) (i m : Int) (him : i < 0 ∨ m < 0) {k : Nat} (hk : k < n) (hn : n ≤ 1000000)
  (hfa : ∀ w', Wr w' wb na n c f → Calls Tryz.prog 104 #[.pointer (some ⟨wb, 0, none⟩), .string s] w' fun e w'' => e = .returned (.int .i64 (k : Int)) ∧ Below w'.heap.size w' w'') :
  Calls Tryz.prog 68 #[.pointer (some ⟨wb, 0, none⟩), .string s, .int .i64 i, .int .i64 m] w (OpB w (.bad 28)) := by
 have c0 := h.c0
 obtain ⟨b, off, rfl, hb, d0, d1, d2, d3⟩ := h.nds.at hk
 have hlt := h.lt
 have k0 : (0 : Int) ≤ (k : Int) := by omega
 have k1 : (k : Int) < (n : Int) := by omega
 have hfd := hfa _ (h.next (below_drewN (Below.refl _ _) 1))
 have HLT := qH hlt
 have HBB := qH hb
 have HIM := qH him
 clear h hfa d0 d1 d3 hlt hb him
 go_enter Tryz.func68, Tryz.ntmps68
 go_wp2_with fail
 refine wp_region_held_drew (S := (fun w' => w'.cell? ⟨wb, 0, none⟩ = some (.slice (some ⟨b, off, none⟩) n c) ∧ w'.cell? ⟨b, off + k * 4 + 2, none⟩ = some (.slice (f k).da (f k).dn (f k).dc))) (by kernel_rfl) ?_ (fun hHeld => ?_)
 ·exact ⟨c0, d2⟩
 refine rgZ 0 ?_ rfl (.inl ⟨by rfl, fun w hSw => ?_⟩) ?_ (by kernel_rfl) (fun _ _ _ h => h) (by assumption)
 rotate_left
 ·(try dsimp only at hSw); go_simp; try with_reducible rfl
 simp only [Act.put, rg]
 refine rgZ 1 ?_ rfl (.inl ⟨by rfl, fun w hSw => ?_⟩) ?_ (by kernel_rfl) (fun _ _ _ h => h) (by assumption)
 rotate_left
 ·(try dsimp only at hSw); go_simp; try with_reducible rfl
 simp only [Act.put, rg]
 refine rgZ 2 ?_ rfl (.inl ⟨by rfl, fun w hSw => ?_⟩) ?_ (by kernel_rfl) (fun _ _ _ h => h) (by assumption)
 rotate_left
 ·(try dsimp only at hSw); go_simp; try with_reducible rfl
 simp only [Act.put, rg]
 refine rgZ 3 ?_ rfl (.inl ⟨by rfl, fun w hSw => ?_⟩) ?_ (by kernel_rfl) (fun _ _ _ h => h) (by assumption)
 rotate_left
 ·(try dsimp only at hSw); go_simp; try with_reducible rfl
 simp only [Act.put, rg]
 refine rgZ 4 ?_ rfl (.inl ⟨by rfl, fun w hSw => ?_⟩) ?_ (by kernel_rfl) (fun _ _ _ h => h) (by assumption)
 rotate_left
 ·(try dsimp only at hSw); go_simp; try with_reducible rfl
 simp only [Act.put, rg]
 refine rgZ 5 ?_ rfl (.inl ⟨by rfl, fun w hSw => ?_⟩) ?_ (by kernel_rfl) (fun _ _ _ h => h) (by assumption)
 rotate_left
 ·(try dsimp only at hSw); go_simp; try with_reducible rfl
 simp only [Act.put, rg]
 refine rgZ 6 ?_ rfl (.inl ⟨by rfl, fun w hSw => ?_⟩) ?_ (by kernel_rfl) (fun _ _ _ h => h) (by assumption)
 rotate_left
 ·(try dsimp only at hSw); go_simp; try with_reducible rfl
 simp only [Act.put, rg]
 refine rgC 7 rfl (by kernel_rfl) (fun K hK => ?_)
 simp only [rg4, rg5, rg6]
 go_simp
 refine (hfd).mono ?_
 rintro e w3 ⟨rfl, hb3⟩
 have hS3 : w3.cell? ⟨wb, 0, none⟩ = some (.slice (some ⟨b, off, none⟩) n c) ∧ w3.cell? ⟨b, off + k * 4 + 2, none⟩ = some (.slice (f k).da (f k).dn (f k).dc) := ⟨(hb3.cell (p := ⟨wb, 0, none⟩) HLT.out).trans c0, (hb3.cell (p := ⟨b, off + k * 4 + 2, none⟩) HBB.out).trans d2⟩
 have HB3 := qH ((below_drewN (Below.refl w.heap.size w) 1).trans (hb3.mono (Nat.le_refl _)))
 clear hfd hb3 c0 d2
 go_wp2_with fail
 refine hK.out _ _ hS3 (fun hHeld => ?_)
 clear hK K
 refine rgZ 8 ?_ rfl (.inl ⟨by rfl, fun w hSw => ?_⟩) ?_ (by kernel_rfl) (fun _ _ _ h => h) (by assumption)
 rotate_left
 ·(try dsimp only at hSw); go_simp; try with_reducible rfl
 simp only [Act.put, rg]
 refine rgZ 9 ?_ rfl (.inl ⟨by rfl, fun w hSw => ?_⟩) ?_ (by kernel_rfl) (fun _ _ _ h => h) (by assumption)
 rotate_left
 ·(try dsimp only at hSw); go_simp; try with_reducible rfl
 simp only [Act.put, rg]
 refine rgZ 10 ?_ rfl (.inl ⟨by rfl, fun w hSw => ?_⟩) ?_ (by kernel_rfl) (fun _ _ _ h => h) (by assumption)
 rotate_left
 ·(try dsimp only at hSw); go_simp; try with_reducible rfl
 simp only [Act.put, rg]
 refine rgZ 11 ?_ rfl (.inl ⟨by rfl, fun w hSw => ?_⟩) ?_ (by kernel_rfl) (fun _ _ _ h => h) (by assumption)
 rotate_left
 ·(try dsimp only at hSw); go_simp; try with_reducible rfl
 simp only [Act.put, rg]
 refine wpAnyH_done (by kernel_rfl) ?_ _
 clear hS3 k0 k1
 by_cases hi : i < 0
 ·have i0 : decide (i < 0) = true := decide_eq_true hi
  clear hi
  go_wp2_with fail
  refine (refuse_yes 28 _).mono ?_
  rintro e w4 ⟨rfl, rfl⟩
  go_wp2_with fail
  exact ⟨rfl, .bad (by decide) HB3.out⟩
 ·have hm : m < 0 := HIM.out.resolve_left hi
  have i0 : decide (i < 0) = false := decide_eq_false hi
  have m0 : decide (m < 0) = true := decide_eq_true hm
  clear hi hm
  go_wp2_with fail
  refine (refuse_yes 28 _).mono ?_
  rintro e w4 ⟨rfl, rfl⟩
  go_wp2_with fail
  exact ⟨rfl, .bad (by decide) HB3.out⟩
theorem read_any (h : Wr w wb na n c f) (ht : Rgt (ndL f n)) (s : ByteArray) (hs : s.size < 4294967281) (i m : Int) (hi9 : i ≤ 9223372036854775807) (hm9 : m ≤ 9223372036854775807) :
  Calls Tryz.prog 68 #[.pointer (some ⟨wb, 0, none⟩), .string s, .int .i64 i, .int .i64 m] w (OpB w (oRead (ndL f n) (nms s) i m).2) := by
 have hfa := fun (w' : World) (h' : Wr w' wb na n c f) => fileAt_any h' ht s hs
 unfold oRead
 cases hfo : fileAt (ndL f n) (nms s) with
 | error x =>
  rw [hfo] at hfa
  exact read_err h s i m x (fileAt_err hfo) hfa
 | ok k =>
  rw [hfo] at hfa
  obtain ⟨hk, hok⟩ := file_pin ht hfo
  simp only
  split
  ·rename_i hr
   exact read_rng h s i m hr hk (by have := ht.le; omega) hfa
  ·rename_i hr
   have hl : (f k).d.length ≤ 46368 := hok.2.2; rw [nat_ndL hk]
   exact read_ok h s i m (by omega) (by omega) hi9 hm9 hk (by have := ht.le; omega) (by omega) hfa
end
theorem Wo.setD2 {w w' : World} {wb g n c i : Nat} {f : Nat → Nc} (h : Wo w wb g n c f) (hi : i < n) {a : Option Addr} {m k : Nat} {zs : List Int} (hT : Turn (· = g) w w')
  (hg : w'.heap[g]? = (w.setCell ⟨g, 0 + i * 4 + 2, none⟩ (.slice a m k)).heap[g]?) (hE : Pin w' a m k zs) (ho : Off m a g wb) :
  Wo w' wb g n c (updN f i { f i with da := a, dn := m, dc := k, d := zs }) := by
 obtain ⟨⟨pm, em, hk⟩, hr, hne, hd, he⟩ := h
 have h1 := (hr.stored (0 + i * 4 + 2) (.slice a m k)).1
 have e0 : 0 + i * 4 + 2 = i * 4 + 2 := by omega
 refine ⟨⟨pm, em, hk.block (hT.block wb hk.lt (fun e => hne e.symm))⟩, ?_, hne, fun j hj => ?_, fun j hj => ?_⟩
 ·rw [e0, nflat_upd f (x := { f i with da := a, dn := m, dc := k, d := zs }) _ hi (by omega) rfl] at h1
  rw [e0] at hg
  exact row_block h1 hg
 ·by_cases e : j = i
  ·subst e
   rw [updN_same]
   exact ⟨hE, ho⟩
  ·rw [updN_other _ _ e]
   exact ⟨(hd j hj).1.turn hT fun h0 b off ha => ((hd j hj).2 h0 b off ha).1, (hd j hj).2⟩
 ·by_cases e : j = i
  ·subst e
   rw [updN_same]
   exact ⟨(he j hj).1.turn hT fun h0 b off ha => ((he j hj).2 h0 b off ha).1, (he j hj).2⟩
  ·rw [updN_other _ _ e]
   exact ⟨(he j hj).1.turn hT fun h0 b off ha => ((he j hj).2 h0 b off ha).1, (he j hj).2⟩
theorem ndL_setD {f : Nat → Nc} {n i : Nat} (hi : i < n) (a : Option Addr) (m k : Nat) (zs : List Int) : ndL (updN f i { f i with da := a, dn := m, dc := k, d := zs }) n = setD (ndL f n) i zs := by
 rw [ndL_upd, setD, nat_ndL hi]
 rfl
theorem setCell_heap {w w' : World} {g j : Nat} (u : Value) (h : w'.heap[g]? = w.heap[g]?) : (w'.setCell ⟨g, j, none⟩ u).heap[g]? = (w.setCell ⟨g, j, none⟩ u).heap[g]? := by
 simp only [World.setCell, Array.getElem?_modify]
 rw [h]
theorem wpList_cpo {w : World} {ops : Array Oper} {rest : List Oper} {o : Oper} {a : Act} {Q : Exit → Act → World → Prop}
  (hgd : o.guard = none) (d s : Operand) (ho : o.op = .call { callee := .builtin .copy, args := #[d, s], argTypes := #[29, 29] })
  (g p dLen dCap n c : Nat) (ad : Option Addr) (hd : a.eval d = .slice (some ⟨g, p, none⟩) dLen dCap) (hs : a.eval s = .slice ad n c) (zs x : List Int) (hg : Blk w g zs) (hx : Bys w ad n x) (hl : p + n ≤ zs.length) (hn : n ≤ dLen)
  (B : Nat) (w0 : World) (hb : Below B w0 w) (hB : B ≤ g)
  (hK : ∀ w', Blk w' g (zs.take p ++ x ++ zs.drop (p + n)) → Below B w0 w' → wpList Tryz.prog ops Q rest (a.put o.dst (goInt n)) w') :
  wpList Tryz.prog ops Q (o :: rest) a w := by
 have hc : (x.map (Value.int .u8)).length = n := by rw [List.length_map]; exact hx.len
 refine wpList_copy_splice hgd d s 29 29 ho 5 Tryz.underlying29 (by kernel_rfl) _ _ _ _ _ _ hd hs g p (zs.map (Value.int .u8)) 5 hg.row (x.map (Value.int .u8)) (by rw [hc]; exact (Nat.min_eq_left hn).symm) ?_ (by rw [hc, List.length_map]; omega) ?_ B w0 hb hB ?_
 ·intro hpos
  refine ⟨rfl, ?_⟩
  rcases hx.place with h0 | ⟨b, off, rfl, _, hcell⟩
  ·omega
  ·refine ⟨_, rfl, fun j v hj => ?_⟩
   have hjn : j < n := by
    rcases Nat.lt_or_ge j n with h | h
    ·exact h
    ·rw [List.getElem?_eq_none (by omega)] at hj; cases hj
   have hv : v = .int .u8 (byt x j) := by
    rw [List.getElem?_map] at hj
    have hjx : j < x.length := by rw [hx.len]; exact hjn
    simp [List.getElem?_eq_getElem hjx] at hj
    simp [byt, List.getD, hjx, hj]
   rw [hv]; rw [show (⟨b, off, none⟩ : Addr).add j = ⟨b, off + j, none⟩ by unfold Addr.add; split <;> simp_all]
   exact hcell j hjn
 ·intro v hv
  obtain ⟨z, _, rfl⟩ := List.mem_map.1 hv
  rfl
 ·intro w' hrow hbel
  rw [hc]
  refine hK w' ⟨?_⟩ hbel
  rw [hrow.out]
  congr 2
  apply Array.ext'
  simp [splice, ints, hx.len]
theorem pad_fit {zs : List Int} {p m : Nat} (hp : p = min m zs.length) : padL (zs.take p) m = fitB zs m := by
 unfold padL fitB
 by_cases h : m ≤ zs.length
 ·obtain rfl : p = m := by omega
  rw [List.length_take, Nat.min_eq_left h, Nat.sub_self, Nat.sub_eq_zero_of_le h]
 ·obtain rfl : p = zs.length := by omega
  rw [List.take_length, List.take_of_length_le (by omega)]
theorem fit_all {zs : List Int} (h : AllB zs) (m : Nat) : AllB (fitB zs m) := (h.take m).app (.zeros _)
section
variable {w : World} {wb g n c : Nat} {f : Nat → Nc}
theorem trunc_err (h : Wr w wb (some ⟨g, 0, none⟩) n c f) (s : ByteArray) (m x : Int) (hx : x ≠ 0) (L : List Nd)
  (hfa : ∀ w', Wr w' wb (some ⟨g, 0, none⟩) n c f → Calls Tryz.prog 104 #[.pointer (some ⟨wb, 0, none⟩), .string s] w' fun e w'' => e = .panicked [pe x] ∧ Below w'.heap.size w' w'') :
  Calls Tryz.prog 70 #[.pointer (some ⟨wb, 0, none⟩), .string s, .int .i64 m] w (OpU w wb g (L, .bad x)) := by
 have c0 := h.c0
 have hfd := hfa _ (h.next (below_drewN (Below.refl _ _) 1))
 have HX := qH hx
 clear h hfa hx
 go_enter Tryz.func70, Tryz.ntmps70
 go_wp2_with fail
 refine wp_region_held_drew (S := (fun w' => w'.cell? ⟨wb, 0, none⟩ = some (.slice (some ⟨g, 0, none⟩) n c))) (by kernel_rfl) ?_ (fun hHeld => ?_)
 ·exact c0
 refine rgZ 0 ?_ rfl (.inl ⟨by rfl, fun w hSw => ?_⟩) ?_ (by kernel_rfl) (fun _ _ _ h => h) (by assumption)
 rotate_left
 ·(try dsimp only at hSw); go_simp; try with_reducible rfl
 simp only [Act.put, rg]
 refine rgZ 1 ?_ rfl (.inl ⟨by rfl, fun w hSw => ?_⟩) ?_ (by kernel_rfl) (fun _ _ _ h => h) (by assumption)
 rotate_left
 ·(try dsimp only at hSw); go_simp; try with_reducible rfl
 simp only [Act.put, rg]
 refine rgZ 2 ?_ rfl (.inl ⟨by rfl, fun w hSw => ?_⟩) ?_ (by kernel_rfl) (fun _ _ _ h => h) (by assumption)
 rotate_left
 ·(try dsimp only at hSw); go_simp; try with_reducible rfl
 simp only [Act.put, rg]
 refine rgZ 3 ?_ rfl (.inl ⟨by rfl, fun w hSw => ?_⟩) ?_ (by kernel_rfl) (fun _ _ _ h => h) (by assumption)
 rotate_left
 ·(try dsimp only at hSw); go_simp; try with_reducible rfl
 simp only [Act.put, rg]
 refine rgZ 4 ?_ rfl (.inl ⟨by rfl, fun w hSw => ?_⟩) ?_ (by kernel_rfl) (fun _ _ _ h => h) (by assumption)
 rotate_left
 ·(try dsimp only at hSw); go_simp; try with_reducible rfl
 simp only [Act.put, rg]
 refine rgZ 5 ?_ rfl (.inl ⟨by rfl, fun w hSw => ?_⟩) ?_ (by kernel_rfl) (fun _ _ _ h => h) (by assumption)
 rotate_left
 ·(try dsimp only at hSw); go_simp; try with_reducible rfl
 simp only [Act.put, rg]
 refine rgZ 6 ?_ rfl (.inl ⟨by rfl, fun w hSw => ?_⟩) ?_ (by kernel_rfl) (fun _ _ _ h => h) (by assumption)
 rotate_left
 ·(try dsimp only at hSw); go_simp; try with_reducible rfl
 simp only [Act.put, rg]
 refine rgC 7 rfl (by kernel_rfl) (fun K hK => ?_)
 simp only [rg4, rg5, rg6]
 go_simp
 refine (hfd).mono ?_
 rintro e w3 ⟨rfl, hb3⟩
 go_wp2_with fail
 exact ⟨rfl, .bad HX.out rfl (.belowW (below_drewN (Below.refl _ _) 1 |>.trans (hb3.mono (Nat.le_refl _))))⟩
theorem trunc_go (h : Wo w wb g n c f) (s : ByteArray) (m : Int) {k : Nat} (hk : k < n) (hn : n ≤ 1000000) (hl : (f k).d.length ≤ 46368) (hm9 : -9223372036854775808 ≤ m ∧ m ≤ 9223372036854775807)
  (hfa : ∀ w', Wr w' wb (some ⟨g, 0, none⟩) n c f → Calls Tryz.prog 104 #[.pointer (some ⟨wb, 0, none⟩), .string s] w' fun e w'' => e = .returned (.int .i64 (k : Int)) ∧ Below w'.heap.size w' w'') :
  Calls Tryz.prog 70 #[.pointer (some ⟨wb, 0, none⟩), .string s, .int .i64 m] w (OpU w wb g (if m < 0 ∨ 46368 < m then (ndL f n, .bad 28) else (setD (ndL f n) k (fitB (f k).d m.toNat), .ok))) := by
 obtain ⟨z, hz⟩ : ∃ z : Nat, z = 0 := ⟨0, rfl⟩
 have c0 : w.cell? ⟨wb, 0, none⟩ = some (.slice (some ⟨g, z, none⟩) n c) := by rw [hz]; exact h.wr.c0
 have hwd := h.drew 1
 have hfd := hfa _ hwd.wr
 obtain ⟨R, hR⟩ : ∃ R, R = (if m < 0 ∨ 46368 < m then (ndL f n, .bad 28) else (setD (ndL f n) k (fitB (f k).d m.toNat), .ok) : List Nd × Rv) := ⟨_, rfl⟩
 rw [← hR]
 have HR := qH hR
 have k0 : (0 : Int) ≤ (k : Int) := by omega
 have k1 : (k : Int) < (n : Int) := by omega
 have H := qH hwd
 have HZ := qH hz
 have HK := qH hk
 have HL := qH hl
 clear h hfa hR hz hwd hl hn
 go_enter Tryz.func70, Tryz.ntmps70
 go_wp2_with fail
 refine wp_region_held_drew (S := (fun w' => w'.cell? ⟨wb, 0, none⟩ = some (.slice (some ⟨g, z, none⟩) n c))) (by kernel_rfl) ?_ (fun hHeld => ?_)
 ·exact c0
 refine rgZ 0 ?_ rfl (.inl ⟨by rfl, fun w hSw => ?_⟩) ?_ (by kernel_rfl) (fun _ _ _ h => h) (by assumption)
 rotate_left
 ·(try dsimp only at hSw); go_simp; try with_reducible rfl
 simp only [Act.put, rg]
 refine rgZ 1 ?_ rfl (.inl ⟨by rfl, fun w hSw => ?_⟩) ?_ (by kernel_rfl) (fun _ _ _ h => h) (by assumption)
 rotate_left
 ·(try dsimp only at hSw); go_simp; try with_reducible rfl
 simp only [Act.put, rg]
 refine rgZ 2 ?_ rfl (.inl ⟨by rfl, fun w hSw => ?_⟩) ?_ (by kernel_rfl) (fun _ _ _ h => h) (by assumption)
 rotate_left
 ·(try dsimp only at hSw); go_simp; try with_reducible rfl
 simp only [Act.put, rg]
 refine rgZ 3 ?_ rfl (.inl ⟨by rfl, fun w hSw => ?_⟩) ?_ (by kernel_rfl) (fun _ _ _ h => h) (by assumption)
 rotate_left
 ·(try dsimp only at hSw); go_simp; try with_reducible rfl
 simp only [Act.put, rg]
 refine rgZ 4 ?_ rfl (.inl ⟨by rfl, fun w hSw => ?_⟩) ?_ (by kernel_rfl) (fun _ _ _ h => h) (by assumption)
 rotate_left
 ·(try dsimp only at hSw); go_simp; try with_reducible rfl
 simp only [Act.put, rg]
 refine rgZ 5 ?_ rfl (.inl ⟨by rfl, fun w hSw => ?_⟩) ?_ (by kernel_rfl) (fun _ _ _ h => h) (by assumption)
 rotate_left
 ·(try dsimp only at hSw); go_simp; try with_reducible rfl
 simp only [Act.put, rg]
 refine rgZ 6 ?_ rfl (.inl ⟨by rfl, fun w hSw => ?_⟩) ?_ (by kernel_rfl) (fun _ _ _ h => h) (by assumption)
 rotate_left
 ·(try dsimp only at hSw); go_simp; try with_reducible rfl
 simp only [Act.put, rg]
 refine rgC 7 rfl (by kernel_rfl) (fun K hK => ?_)
 simp only [rg4, rg5, rg6]
 go_simp
 refine (hfd).mono ?_
 rintro e w3 ⟨rfl, hb3⟩
 have H3 := qH (H.out.next hb3)
 have hS3 : w3.cell? ⟨wb, 0, none⟩ = some (.slice (some ⟨g, z, none⟩) n c) := by rw [HZ.out]; exact H3.out.wr.c0
 have HB3 := qH ((below_drewN (Below.refl w.heap.size w) 1).trans (hb3.mono (Nat.le_refl _)))
 clear hfd hb3 c0
 go_wp2_with fail
 refine hK.out _ _ hS3 (fun hHeld => ?_)
 clear hK K
 refine rgZ 8 ?_ rfl (.inl ⟨by rfl, fun w hSw => ?_⟩) ?_ (by kernel_rfl) (fun _ _ _ h => h) (by assumption)
 rotate_left
 ·(try dsimp only at hSw); go_simp; try with_reducible rfl
 simp only [Act.put, rg]
 refine rgZ 9 ?_ rfl (.inl ⟨by rfl, fun w hSw => ?_⟩) ?_ (by kernel_rfl) (fun _ _ _ h => h) (by assumption)
 rotate_left
 ·(try dsimp only at hSw); go_simp; try with_reducible rfl
 simp only [Act.put, rg]
 refine wpAnyH_done (by kernel_rfl) ?_ _
 clear hS3 hHeld k0 k1
 by_cases hm0 : m < 0
 ·have i0 : decide (m < 0) = true := decide_eq_true hm0
  have HR2 : Hid (R = (ndL f n, .bad 28)) := qH (by rw [HR.out, if_pos (.inl hm0)])
  clear hm0
  go_wp2_with fail
  refine (refuse_yes 28 _).mono ?_
  rintro e w4 ⟨rfl, rfl⟩
  go_wp2_with fail
  exact ⟨rfl, .bad' HR2.out (by decide) (.belowW HB3.out)⟩
 ·by_cases hm1 : 46368 < m
  ·have i0 : decide (m < 0) = false := decide_eq_false hm0
   have i1 : decide (46368 < m) = true := decide_eq_true hm1; have HR2 : Hid (R = (ndL f n, .bad 28)) := qH (by rw [HR.out, if_pos (.inr hm1)]); clear hm0 hm1; go_wp2_with fail; refine (refuse_yes 28 _).mono ?_; rintro e w4 ⟨rfl, rfl⟩; go_wp2_with fail
   exact ⟨rfl, .bad' HR2.out (by decide) (.belowW HB3.out)⟩
  ·have i0 : decide (m < 0) = false := decide_eq_false hm0
   have i1 : decide (46368 < m) = false := decide_eq_false hm1
   obtain ⟨M, rfl⟩ : ∃ M : Nat, m = (M : Int) := ⟨m.toNat, by omega⟩
   have HM := qH (show M ≤ 46368 by omega); have HR2 : Hid (R = (setD (ndL f n) k (fitB (f k).d M), .ok)) := qH (by rw [HR.out, if_neg (by omega)]; rfl); clear hm0 hm1 hm9; go_wp2_with fail; refine (refuse_no 28 _).mono ?_; rintro e w4 ⟨rfl, rfl⟩; clear i0 i1
   obtain ⟨P, hP⟩ : ∃ P : Nat, min (M : Int) ((f k).dn : Int) = (P : Int) := ⟨min M (f k).dn, by omega⟩
   have HP := qH (show P = min M (f k).dn by omega); have hpn := H3.out.data k HK.out; have hlen := hpn.1.len
   have d2 : w4.drew.cell? ⟨g, z + k * 4 + 2, none⟩ = some (.slice (f k).da (f k).dn (f k).dc) := by rw [HZ.out]; exact (H3.out.cell HK.out).2.2.1
   have q1 : (P : Int) ≤ ((f k).dc : Int) := by have := HP.out; have := hpn.1.cap; omega
   have q0 : (0 : Int) ≤ (P : Int) := by omega
   have hpd := padded_any (f k).da P (f k).dc M ((f k).d.take P) w4.drew ((hpn.1.bys.front (by have := HP.out; omega)).drewN 1) (by have := HP.out; omega) (by have := HM.out; omega); have HD := qH (pad_fit (zs := (f k).d) (p := P) (m := M) (by have := HP.out; omega)); have HAL := qH (hpn.1.bys.small); have HGL := qH (row_lt H3.out.row); have H4 : Hid (Wo w4.drew wb g n c f) := qH (H3.out.drew 1); have HB4 : Hid (Below w.heap.size w w4.drew) := qH (below_drewN HB3.out 1); clear hpn hlen; go_wp2_with fail; refine wp_region_held_drew (S := fun _ => True) (by kernel_rfl) trivial (fun _ => ?_)
   generalize hw5 : w4.drew = w5 at *
   clear hw5; refine rgZ 0 ?_ rfl (.inl ⟨by rfl, fun w hSw => ?_⟩) ?_ (by kernel_rfl) (fun _ _ _ h => h) (by assumption); rotate_left
   ·(try dsimp only at hSw); go_simp; try with_reducible rfl
   simp only [Act.put, rg]; refine rgZ 1 ?_ rfl (.inl ⟨by rfl, fun w hSw => ?_⟩) ?_ (by kernel_rfl) (fun _ _ _ h => h) (by assumption); rotate_left
   ·(try dsimp only at hSw); go_simp; try with_reducible rfl
   simp only [Act.put, rg]; refine rgZ 2 ?_ rfl (.inl ⟨by rfl, fun w hSw => ?_⟩) ?_ (by kernel_rfl) (fun _ _ _ h => h) (by assumption); rotate_left
   ·(try dsimp only at hSw); go_simp; try with_reducible rfl
   simp only [Act.put, rg]; refine rgZ 3 ?_ rfl (.inl ⟨by rfl, fun w hSw => ?_⟩) ?_ (by kernel_rfl) (fun _ _ _ h => h) (by assumption); rotate_left
   ·(try dsimp only at hSw); go_simp; try with_reducible rfl
   simp only [Act.put, rg]; refine rgZ 5 ?_ rfl (.inl ⟨by rfl, fun w hSw => ?_⟩) ?_ (by kernel_rfl) (fun _ _ _ h => h) (by assumption); rotate_left
   ·(try dsimp only at hSw); go_simp; try with_reducible rfl
   simp only [Act.put, rg]; refine rgZ 6 ?_ rfl (.inl ⟨by rfl, fun w hSw => ?_⟩) ?_ (by kernel_rfl) (fun _ _ _ h => h) (by assumption); rotate_left
   ·(try dsimp only at hSw); go_simp; try with_reducible rfl
   simp only [Act.put, rg]; refine rgZ 7 ?_ rfl (.inl ⟨by rfl, fun w hSw => ?_⟩) ?_ (by kernel_rfl) (fun _ _ _ h => h) (by assumption); rotate_left
   ·(try dsimp only at hSw); go_simp; try with_reducible rfl
   simp only [Act.put, rg]; refine rgZ 8 ?_ rfl (.inl ⟨by rfl, fun w hSw => ?_⟩) ?_ (by kernel_rfl) (fun _ _ _ h => h) (by assumption); rotate_left
   ·(try dsimp only at hSw); go_simp; try with_reducible rfl
   simp only [Act.put, rg]; refine rgZ 13 ?_ rfl (.inl ⟨by rfl, fun w hSw => ?_⟩) ?_ (by kernel_rfl) (fun _ _ _ h => h) (by assumption); rotate_left
   ·(try dsimp only at hSw); go_simp; try with_reducible rfl
   simp only [Act.put, rg]; refine wpAnyH_ready (rs := [4, 9]) (by kernel_rfl) (by simp) ?_; refine AllReadyH.cons rfl (fun K hK => ?_) (AllReadyH.cons rfl (fun K hK => ?_) AllReadyH.nil)
   ·simp only [rg4, rg5, rg6]
    go_simp; refine hK.out _ _ trivial (fun _ => ?_); clear hK K; refine rgC 9 rfl (by kernel_rfl) (fun K hK => ?_); simp only [rg4, rg5, rg6]; go_simp; refine hK.out _ _ trivial (fun _ => ?_); clear hK K; refine rgZ 10 ?_ rfl (.inl ⟨by rfl, fun w hSw => ?_⟩) ?_ (by kernel_rfl) (fun _ _ _ h => h) (by assumption); rotate_left
    ·(try dsimp only at hSw); go_simp; try with_reducible rfl
    simp only [Act.put, rg]; refine rgZ 11 ?_ rfl (.inl ⟨by rfl, fun w hSw => ?_⟩) ?_ (by kernel_rfl) (fun _ _ _ h => h) (by assumption); rotate_left
    ·(try dsimp only at hSw); go_simp; try with_reducible rfl
    simp only [Act.put, rg]; refine rgZ 12 ?_ rfl (.inl ⟨by rfl, fun w hSw => ?_⟩) ?_ (by kernel_rfl) (fun _ _ _ h => h) (by assumption); rotate_left
    ·(try dsimp only at hSw); go_simp; try with_reducible rfl
    simp only [Act.put, rg]; refine rgC 14 rfl (by kernel_rfl) (fun K hK => ?_); simp only [rg4, rg5, rg6]; go_simp; refine hpd.mono ?_; rintro e w6 ⟨rfl, hblk, hb6⟩; have H6 := H4.out.next hb6; have hfr := H6.free (z + k * 4 + 2); have d6 := (hb6.cell (p := ⟨g, z + k * 4 + 2, none⟩) (row_lt H4.out.row)).trans d2
    have HF : Hid (OpU w wb g R (.returned (.tuple #[])) (w6.setCell ⟨g, z + k * 4 + 2, none⟩ (.slice (some ⟨w5.heap.size, 0, none⟩) M M))) := qH (by
     rw [HR2.out]; have hT : Turn (· = g) w5 (w6.setCell ⟨g, z + k * 4 + 2, none⟩ (.slice (some ⟨w5.heap.size, 0, none⟩) M M)) := (Turn.of_below (M := (· = g)) hb6).setO (p := ⟨g, z + k * 4 + 2, none⟩) rfl _; have hg := row_lt H4.out.row; have hwb := H4.out.wr.lt
     have hpin : Pin (w6.setCell ⟨g, z + k * 4 + 2, none⟩ (.slice (some ⟨w5.heap.size, 0, none⟩) M M)) (some ⟨w5.heap.size, 0, none⟩) M M (fitB (f k).d M) := by
      have h1 : Blk (w6.setCell ⟨g, z + k * 4 + 2, none⟩ (.slice (some ⟨w5.heap.size, 0, none⟩) M M)) w5.heap.size (padL ((f k).d.take P) M) := ⟨(Below.heap_setCell _ _ _ _ (by show w5.heap.size ≠ g; omega)).trans hblk.row⟩
      rw [HD.out] at h1
      exact ⟨h1.bysn (fit_all HAL.out M) (fitB_len _ _), fun e => (by cases e), Nat.le_refl _, by have := HM.out; omega⟩
     have hW := H4.out.setD2 HK.out hT (by rw [HZ.out]; exact setCell_heap _ (hb6.block g hg)) hpin (Off.new (B := w5.heap.size) (fun p hp => by cases hp; exact Nat.le_refl _) hg hwb)
     exact .good rfl hW (ndL_setD HK.out _ _ _ _) ((Turn.belowW HB4.out).trans (hT.mono fun j hj => .inl hj)) (.inl rfl))
    clear hpd hblk hb6 H6 d2; go_wp2_with fail; refine hK.out _ _ trivial (fun _ => ?_); clear hK K; refine rgZ 15 ?_ rfl (.inl ⟨by rfl, fun w hSw => ?_⟩) ?_ (by kernel_rfl) (fun _ _ _ h => h) (by assumption); rotate_left
    ·(try dsimp only at hSw); go_simp; try with_reducible rfl
    simp only [Act.put, rg]; refine rgZ 16 ?_ rfl (.inl ⟨by rfl, fun w hSw => ?_⟩) ?_ (by kernel_rfl) (fun _ _ _ h => h) (by assumption); rotate_left
    ·(try dsimp only at hSw); go_simp; try with_reducible rfl
    simp only [Act.put, rg]; refine rgC 17 rfl (by kernel_rfl) (fun K hK => ?_); simp only [rg4, rg5, rg6]; go_simp; refine hK.out _ _ trivial (fun _ => ?_); clear hK K; refine wpAnyH_done (by kernel_rfl) ?_ _; go_wp2_with fail
    go_end0
    exact HF.out
   ·simp only [rg4, rg5, rg6]
    go_simp; refine hK.out _ _ trivial (fun _ => ?_); clear hK K; refine rgZ 10 ?_ rfl (.inl ⟨by rfl, fun w hSw => ?_⟩) ?_ (by kernel_rfl) (fun _ _ _ h => h) (by assumption); rotate_left
    ·(try dsimp only at hSw); go_simp; try with_reducible rfl
    simp only [Act.put, rg]; refine rgZ 11 ?_ rfl (.inl ⟨by rfl, fun w hSw => ?_⟩) ?_ (by kernel_rfl) (fun _ _ _ h => h) (by assumption); rotate_left
    ·(try dsimp only at hSw); go_simp; try with_reducible rfl
    simp only [Act.put, rg]; refine rgC 4 rfl (by kernel_rfl) (fun K hK => ?_); simp only [rg4, rg5, rg6]; go_simp; refine hK.out _ _ trivial (fun _ => ?_); clear hK K; refine rgZ 12 ?_ rfl (.inl ⟨by rfl, fun w hSw => ?_⟩) ?_ (by kernel_rfl) (fun _ _ _ h => h) (by assumption); rotate_left
    ·(try dsimp only at hSw); go_simp; try with_reducible rfl
    simp only [Act.put, rg]; refine rgC 14 rfl (by kernel_rfl) (fun K hK => ?_); simp only [rg4, rg5, rg6]; go_simp; refine hpd.mono ?_; rintro e w6 ⟨rfl, hblk, hb6⟩; have H6 := H4.out.next hb6; have hfr := H6.free (z + k * 4 + 2); have d6 := (hb6.cell (p := ⟨g, z + k * 4 + 2, none⟩) (row_lt H4.out.row)).trans d2
    have HF : Hid (OpU w wb g R (.returned (.tuple #[])) (w6.setCell ⟨g, z + k * 4 + 2, none⟩ (.slice (some ⟨w5.heap.size, 0, none⟩) M M))) := qH (by
     rw [HR2.out]; have hT : Turn (· = g) w5 (w6.setCell ⟨g, z + k * 4 + 2, none⟩ (.slice (some ⟨w5.heap.size, 0, none⟩) M M)) := (Turn.of_below (M := (· = g)) hb6).setO (p := ⟨g, z + k * 4 + 2, none⟩) rfl _; have hg := row_lt H4.out.row; have hwb := H4.out.wr.lt
     have hpin : Pin (w6.setCell ⟨g, z + k * 4 + 2, none⟩ (.slice (some ⟨w5.heap.size, 0, none⟩) M M)) (some ⟨w5.heap.size, 0, none⟩) M M (fitB (f k).d M) := by
      have h1 : Blk (w6.setCell ⟨g, z + k * 4 + 2, none⟩ (.slice (some ⟨w5.heap.size, 0, none⟩) M M)) w5.heap.size (padL ((f k).d.take P) M) := ⟨(Below.heap_setCell _ _ _ _ (by show w5.heap.size ≠ g; omega)).trans hblk.row⟩
      rw [HD.out] at h1
      exact ⟨h1.bysn (fit_all HAL.out M) (fitB_len _ _), fun e => (by cases e), Nat.le_refl _, by have := HM.out; omega⟩
     have hW := H4.out.setD2 HK.out hT (by rw [HZ.out]; exact setCell_heap _ (hb6.block g hg)) hpin (Off.new (B := w5.heap.size) (fun p hp => by cases hp; exact Nat.le_refl _) hg hwb)
     exact .good rfl hW (ndL_setD HK.out _ _ _ _) ((Turn.belowW HB4.out).trans (hT.mono fun j hj => .inl hj)) (.inl rfl))
    clear hpd hblk hb6 H6 d2; go_wp2_with fail; refine hK.out _ _ trivial (fun _ => ?_); clear hK K; refine rgZ 15 ?_ rfl (.inl ⟨by rfl, fun w hSw => ?_⟩) ?_ (by kernel_rfl) (fun _ _ _ h => h) (by assumption); rotate_left
    ·(try dsimp only at hSw); go_simp; try with_reducible rfl
    simp only [Act.put, rg]; refine rgZ 16 ?_ rfl (.inl ⟨by rfl, fun w hSw => ?_⟩) ?_ (by kernel_rfl) (fun _ _ _ h => h) (by assumption); rotate_left
    ·(try dsimp only at hSw); go_simp; try with_reducible rfl
    simp only [Act.put, rg]; refine rgC 17 rfl (by kernel_rfl) (fun K hK => ?_); simp only [rg4, rg5, rg6]; go_simp; refine hK.out _ _ trivial (fun _ => ?_); clear hK K; refine wpAnyH_done (by kernel_rfl) ?_ _; go_wp2_with fail
    go_end0
    exact HF.out
theorem trunc_any (h : Wo w wb g n c f) (ht : Rgt (ndL f n)) (s : ByteArray) (hs : s.size < 4294967281) (m : Int) (hm9 : -9223372036854775808 ≤ m ∧ m ≤ 9223372036854775807) :
  Calls Tryz.prog 70 #[.pointer (some ⟨wb, 0, none⟩), .string s, .int .i64 m] w (OpU w wb g (oTrunc (ndL f n) (nms s) m)) := by
 have hfa := fun (w' : World) (h' : Wr w' wb (some ⟨g, 0, none⟩) n c f) => fileAt_any h' ht s hs
 unfold oTrunc
 cases hfo : fileAt (ndL f n) (nms s) with
 | error x =>
  rw [hfo] at hfa
  exact trunc_err h.wr s m x (fileAt_err hfo) _ hfa
 | ok k =>
  rw [hfo] at hfa
  obtain ⟨hk, hok⟩ := file_pin ht hfo
  simp only [nat_ndL hk]
  exact trunc_go h s m hk (by have := ht.le; omega) hok.2.2 hm9 hfa
end
end Go.Proofs.YtinholnidchblaaGreatDoor
