import Derived.Test.YtinholnidchblaaGreatDoorQad
import Derived.Test.YtinholnidchblaaGreatDoorQab
import Derived.Deep.Onto
set_option linter.unusedVariables false
set_option linter.unusedSimpArgs false
set_option maxRecDepth 100000
set_option maxHeartbeats 16000000
namespace Go.Proofs.YtinholnidchblaaGreatDoor
structure Rv where
 err : Int
 d : List Int
 ns : List ByteArray
 k : Int
 l : Int
 sz : Int
deriving DecidableEq
def Rv.bad (e : Int) : Rv := ⟨e, [], [], 0, 0, 0⟩
def Rv.ok : Rv := ⟨0, [], [], 0, 0, 0⟩
def lstN (ns : List ByteArray) : ByteArray := ns.getLastD ByteArray.empty
def toB (L : List Nd) (ns : List ByteArray) : Except Int (Nat × Option Nat) :=
 match wlk L 0 ns.dropLast with
 | .ok a => if isD (nat L a) then .ok (a, fnd (nat L a).e (lstN ns)) else .error 22
 | .error e => .error e
def putE (L : List Nd) (a : Nat) (s : ByteArray) (k : Nat) : List Nd := setE L a (eput (nat L a).e ⟨s, (k : Int)⟩)
def cutE (L : List Nd) (a : Nat) (s : ByteArray) : List Nd := setE L a (ecut (nat L a).e s)
def oNew (L : List Nd) (dir : Bool) : Option (List ByteArray) → List Nd × Rv
 | none => (L, .bad 20)
 | some ns =>
  if ns = [] then (L, .bad 24) else
  match toB L ns with
  | .error e => (L, .bad e)
  | .ok (a, o) =>
   if o.isSome then (L, .bad 24) else
   if 64 ≤ (nat L a).e.length ∨ 56 ≤ L.length then (L, .bad 27) else
   (putE L a (lstN ns) L.length ++ [⟨if dir then 2 else 1, 0, [], []⟩], .ok)
def oLink (L : List Nd) : Option (List ByteArray) → Option (List ByteArray) → List Nd × Rv
 | some ns, some ms =>
  match wlk L 0 ns with
  | .error e => (L, .bad e)
  | .ok k =>
   if isD (nat L k) then (L, .bad 23) else
   if ms = [] then (L, .bad 24) else
   match toB L ms with
   | .error e => (L, .bad e)
   | .ok (a, o) =>
    if o.isSome then (L, .bad 24) else
    if 200 ≤ (nat L k).l then (L, .bad 26) else
    if 64 ≤ (nat L a).e.length then (L, .bad 27) else
    (putE L a (lstN ms) k, .ok)
 | _, _ => (L, .bad 20)
def oCut (L : List Nd) (rm : Bool) : Option (List ByteArray) → List Nd × Rv
 | none => (L, .bad 20)
 | some ns =>
  match wlk L 0 ns with
  | .error e => (L, .bad e)
  | .ok k =>
   if rm = false ∧ isD (nat L k) = true then (L, .bad 23) else
   if rm = true ∧ isD (nat L k) = false then (L, .bad 22) else
   if isD (nat L k) = true ∧ (k = 0 ∨ (nat L k).e ≠ []) then (L, .bad 25) else
   match toB L ns with
   | .error e => (L, .bad e)
   | .ok (a, _) => (cutE L a (lstN ns), .ok)
def witN (l m : List ByteArray) : Bool := decide (m.length ≤ l.length) && decide (l.take m.length = m)
def oRen (L : List Nd) : Option (List ByteArray) → Option (List ByteArray) → List Nd × Rv
 | some ns, some ms =>
  if ns = [] ∨ ms = [] then (L, .bad 29) else
  match wlk L 0 ns with
  | .error e => (L, .bad e)
  | .ok k =>
   if isD (nat L k) = true ∧ ms ≠ ns ∧ witN ms ns = true then (L, .bad 29) else
   match toB L ms with
   | .error e => (L, .bad e)
   | .ok (b, o) =>
    match toB L ns with
    | .error e => (L, .bad e)
    | .ok (a, _) =>
     match o with
     | none => if b ≠ a ∧ 64 ≤ (nat L b).e.length then (L, .bad 27) else (putE (cutE L a (lstN ns)) b (lstN ms) k, .ok)
     | some j =>
      if j = k then (L, .ok) else
      if isD (nat L k) = true ∧ isD (nat L j) = false then (L, .bad 22) else
      if isD (nat L k) = false ∧ isD (nat L j) = true then (L, .bad 23) else
      if (nat L j).e ≠ [] then (L, .bad 25) else
      (putE (cutE L a (lstN ns)) b (lstN ms) k, .ok)
 | _, _ => (L, .bad 20)
def fitB (b : List Int) (n : Nat) : List Int := b.take n ++ List.replicate (n - b.length) 0
theorem fitB_len (b : List Int) (n : Nat) : (fitB b n).length = n := by
 simp only [fitB, List.length_append, List.length_take, List.length_replicate]; omega
def wriB (b : List Int) (i : Nat) (z : List Int) : List Int := if z = [] then b else (fitB b (max b.length (i + z.length))).take i ++ z ++ (fitB b (max b.length (i + z.length))).drop (i + z.length)
theorem wriB_len {b : List Int} {i : Nat} {z : List Int} : (wriB b i z).length = if z = [] then b.length else max b.length (i + z.length) := by
 unfold wriB
 split
 ·rfl
 ·rename_i h
  simp only [List.length_append, List.length_take, List.length_drop, fitB_len]
  omega
def fileAt (L : List Nd) : Option (List ByteArray) → Except Int Nat
 | none => .error 20
 | some ns =>
  match wlk L 0 ns with
  | .error e => .error e
  | .ok k => if isD (nat L k) then .error 23 else .ok k
def oRead (L : List Nd) (P : Option (List ByteArray)) (i n : Int) : List Nd × Rv :=
 match fileAt L P with
 | .error e => (L, .bad e)
 | .ok k => if i < 0 ∨ n < 0 then (L, .bad 28) else (L, ⟨0, ((nat L k).d.drop i.toNat).take n.toNat, [], 0, 0, 0⟩)
def oWrite (L : List Nd) (P : Option (List ByteArray)) (i : Int) (z : List Int) : List Nd × Rv :=
 match fileAt L P with
 | .error e => (L, .bad e)
 | .ok k => if i < 0 ∨ 46368 < i + (z.length : Int) then (L, .bad 28) else (setD L k (wriB (nat L k).d i.toNat z), ⟨0, [], [], 0, 0, (z.length : Int)⟩)
def oTrunc (L : List Nd) (P : Option (List ByteArray)) (n : Int) : List Nd × Rv :=
 match fileAt L P with
 | .error e => (L, .bad e)
 | .ok k => if n < 0 ∨ 46368 < n then (L, .bad 28) else (setD L k (fitB (nat L k).d n.toNat), .ok)
def oAsk (L : List Nd) (o : Int) : Option (List ByteArray) → Rv
 | none => .bad 20
 | some ns =>
  match wlk L 0 ns with
  | .error e => .bad e
  | .ok k =>
   if o = 10 then ⟨0, [], [], (nat L k).k, (nat L k).l, (((nat L k).d.length + (nat L k).e.length : Nat) : Int)⟩ else
   if o = 11 then (if isD (nat L k) then ⟨0, [], (nat L k).e.map (·.s), 0, 0, 0⟩ else .bad 22) else .ok
def oAny (L : List Nd) (o : Int) (P Q : Option (List ByteArray)) (i n : Int) (z : List Int) : List Nd × Rv :=
 if o = 1 then oNew L false P else if o = 2 then oNew L true P else if o = 3 then oLink L P Q else if o = 4 then oCut L false P else
 if o = 5 then oCut L true P else if o = 6 then oRen L P Q else if o = 7 then oRead L P i n else if o = 8 then oWrite L P i z else
 if o = 9 then oTrunc L P n else if o = 10 ∨ o = 11 ∨ o = 13 then (L, oAsk L o P) else if o = 12 then (L, .ok) else (L, .bad 30)
theorem lstN_snoc (p : List ByteArray) (x : ByteArray) : lstN (p ++ [x]) = x := by simp [lstN]
theorem toB_snoc (L : List Nd) (p : List ByteArray) (x : ByteArray) : toB L (p ++ [x]) = match wlk L 0 p with
 | .ok a => if isD (nat L a) then .ok (a, fnd (nat L a).e x) else .error 22
 | .error e => .error e := by rw [toB, List.dropLast_concat, lstN_snoc]
theorem toB_ok {L : List Nd} {ns : List ByteArray} {a : Nat} {o : Option Nat} (h : toB L ns = .ok (a, o)) : wlk L 0 ns.dropLast = .ok a ∧ isD (nat L a) = true ∧ o = fnd (nat L a).e (lstN ns) := by
 unfold toB at h
 cases hw : wlk L 0 ns.dropLast with
 | error e => rw [hw] at h; cases h
 | ok b =>
  rw [hw] at h
  simp only at h
  split at h
  ·rename_i hd
   cases h
   exact ⟨rfl, hd, rfl⟩
  ·cases h
def optW : Option Nat → Except Int Nat
 | some k => .ok k
 | none => .error 21
theorem toB_wlk {L : List Nd} {ns : List ByteArray} {a : Nat} {o : Option Nat} (h : toB L ns = .ok (a, o)) (hn : ns ≠ []) : wlk L 0 ns = optW o := by
 obtain ⟨p, x, rfl⟩ := snoc_of_ne hn
 obtain ⟨h1, h2, h3⟩ := toB_ok h
 rw [List.dropLast_concat] at h1
 rw [lstN_snoc] at h3
 rw [wlk_app_ok h1]
 cases ho : o with
 | none => rw [wlk_none h2 (by rw [← h3]; exact ho)]; rfl
 | some k => rw [wlk_yes h2 (by rw [← h3]; exact ho)]; rfl
theorem wlk_toB {L : List Nd} {ns : List ByteArray} {k : Nat} (h : wlk L 0 ns = .ok k) (hn : ns ≠ []) : ∃ a, toB L ns = .ok (a, some k) := by
 obtain ⟨p, x, rfl⟩ := snoc_of_ne hn
 obtain ⟨a, h1, h2, h3⟩ := wlk_snoc_ok h
 refine ⟨a, ?_⟩
 rw [toB_snoc, h1]
 simp only [h2, h3, if_true]
theorem lst_mem {ns : List ByteArray} (h : ns ≠ []) : lstN ns ∈ ns := by
 obtain ⟨p, x, rfl⟩ := snoc_of_ne h
 rw [lstN_snoc]; simp
def NmsOk (P : Option (List ByteArray)) : Prop := ∀ ns, P = some ns → ∀ n ∈ ns, nmB n.data.toList = true
def Keep (L : List Nd) (x : List Nd × Rv) : Prop := Snd x.1 ∧ (x.2.err ≠ 0 → x.1 = L ∧ x.2 = .bad x.2.err)
theorem Keep.same {L : List Nd} (h : Snd L) {r : Rv} (hr : r.err ≠ 0 → r = .bad r.err) : Keep L (L, r) := ⟨h, fun e => ⟨rfl, hr e⟩⟩
theorem Keep.bad {L : List Nd} (h : Snd L) (e : Int) : Keep L (L, .bad e) := Keep.same h fun _ => rfl
theorem Keep.ok {L M : List Nd} (h : Snd M) : Keep L (M, .ok) := ⟨h, fun e => absurd rfl e⟩
theorem Keep.okv {L M : List Nd} (h : Snd M) {r : Rv} (hr : r.err = 0) : Keep L (M, r) := ⟨h, fun e => absurd hr e⟩
theorem link_lt {L : List Nd} (h : Rgt L) {k : Nat} (hk : k < L.length) (hd : isD (nat L k) = false) : (up L k : Int) = (nat L k).l := by
 have := h.link k hk
 rw [lnk, hd, if_neg (by decide)] at this
 exact this
theorem new_keep {L : List Nd} (h : Rgt L) (dir : Bool) {P : Option (List ByteArray)} (hP : NmsOk P) : Keep L (oNew L dir P) := by
 unfold oNew
 split
 ·exact .bad h.snd _
 ·rename_i ns
  split
  ·exact .bad h.snd _
  ·rename_i hne
   split
   ·exact .bad h.snd _
   ·rename_i a o ht
    obtain ⟨h1, h2, h3⟩ := toB_ok ht; have ha := h.snd.wlklt h1
    split
    ·exact .bad h.snd _
    ·rename_i ho
     split
     ·exact .bad h.snd _
     ·rename_i hm
      refine .ok ?_
      have hlt : L.length < 56 := by omega
      let x : Nd := ⟨if dir then 2 else 1, 0, [], []⟩
      obtain ⟨g1, g2, g3⟩ := h.snd.snoc hlt (x := x) (by cases dir; exact .inl ⟨rfl, rfl, by simp [x]⟩; exact .inr ⟨rfl, rfl⟩) rfl
      have hxl : (L ++ [x]).length = L.length + 1 := by simp
      have hna : nat (L ++ [x]) a = nat L a := by rw [nat_snoc, if_neg (by omega)]
      have hn := lst_mem hne
      have he := g1.put (a := a) (s := lstN ns) (k := L.length) (by omega) (by rw [hna]; exact h2) (hP ns rfl _ hn) h.pos (by omega)
       (by rw [hna]; exact Nat.lt_of_le_of_lt (len_cut_le _ _) (by omega)) (by
        rw [g2, g3]; split <;> omega)
      have e : Go.Proofs.YtinholnidchblaaGreatDoor.setE (L ++ [x]) a (eput (nat (L ++ [x]) a).e ⟨lstN ns, (L.length : Int)⟩) = putE L a (lstN ns) L.length ++ [x] := by
       rw [hna]; unfold putE Go.Proofs.YtinholnidchblaaGreatDoor.setE; rw [hna, List.set_append_left _ _ ha]
      rw [e] at he
      exact he
theorem link_keep {L : List Nd} (h : Rgt L) {P Q : Option (List ByteArray)} (hQ : NmsOk Q) : Keep L (oLink L P Q) := by
 unfold oLink
 split
 ·rename_i ns ms
  split
  ·exact .bad h.snd _
  ·rename_i k hk
   split
   ·exact .bad h.snd _
   ·rename_i hd
    split
    ·exact .bad h.snd _
    ·rename_i hne
     split
     ·exact .bad h.snd _
     ·rename_i a o ht
      obtain ⟨h1, h2, h3⟩ := toB_ok ht; have ha := h.snd.wlklt h1; have hkl := h.snd.wlklt hk
      split
      ·exact .bad h.snd _
      ·split
       ·exact .bad h.snd _
       ·rename_i hl
        split
        ·exact .bad h.snd _
        ·rename_i hm
         have hdf : isD (nat L k) = false := by simpa using hd
         have hu := link_lt h hkl hdf
         have hk0 : k ≠ 0 := by
          rintro rfl; rw [h.root] at hdf; cases hdf
         refine .ok (h.snd.put ha h2 (hQ ms rfl _ (lst_mem hne)) (by omega) hkl (Nat.lt_of_le_of_lt (len_cut_le _ _) (by omega)) ?_); rw [hdf, if_neg (by decide)]
         omega
 ·exact .bad h.snd _
theorem cut_keep {L : List Nd} (h : Rgt L) (rm : Bool) {P : Option (List ByteArray)} : Keep L (oCut L rm P) := by
 unfold oCut
 split
 ·exact .bad h.snd _
 ·split
  ·exact .bad h.snd _
  ·split
   ·exact .bad h.snd _
   ·split
    ·exact .bad h.snd _
    ·split
     ·exact .bad h.snd _
     ·split
      ·exact .bad h.snd _
      ·rename_i a o ht
       obtain ⟨h1, h2, h3⟩ := toB_ok ht
       exact .ok (h.snd.cut (h.snd.wlklt h1) h2 _).1
theorem move_snd {L : List Nd} (h : Snd L) {a b k : Nat} {s t : ByteArray} (ha : a < L.length) (hb : b < L.length) (hda : isD (nat L a) = true) (hdb : isD (nat L b) = true) (hs : fnd (nat L a).e s = some k) (ht : nmB t.data.toList = true)
  (hl : b = a ∨ (ecut (nat L b).e t).length < 64) : Snd (putE (cutE L a s) b t k) := by
 obtain ⟨h1, h2⟩ := h.cut ha hda s
 have hk := h.ino ha k (fnd_ino hs)
 have h3 := up_cut h ha hs k
 rw [if_pos rfl] at h3
 have hn : nat (cutE L a s) b = if a = b then { nat L a with e := ecut (nat L a).e s } else nat L b := nat_setE ha _ b
 refine h1.put (by rw [setE_len]; exact hb) (by rw [isD_setE ha]; exact hdb) ht hk.1 (by rw [setE_len]; exact hk.2) ?_ ?_
 ·have e : (nat (Go.Proofs.YtinholnidchblaaGreatDoor.setE L a (ecut (nat L a).e s)) b).e = if a = b then ecut (nat L a).e s else (nat L b).e := by
   rw [nat_setE ha]; split <;> rfl
  rw [e]
  split
  ·have := len_cut (h.rp a) hs
   have := (h.dir ha hda).2.2.1; have := len_cut_le (ecut (nat L a).e s) t
   omega
  ·rename_i hne
   rcases hl with hl | hl
   ·exact absurd hl.symm hne
   ·exact hl
 ·rw [isD_setE ha]
  split
  ·rename_i hd
   have := h.one k (by omega) hk.2 hd
   omega
  ·rename_i hd
   have := h.many k hk.2 (by simpa using hd)
   omega
theorem ren_keep {L : List Nd} (h : Rgt L) {P Q : Option (List ByteArray)} (hQ : NmsOk Q) : Keep L (oRen L P Q) := by
 unfold oRen
 split
 ·rename_i ns ms
  split
  ·exact .bad h.snd _
  ·rename_i hne
   have hns : ns ≠ [] := fun e => hne (.inl e)
   have hms : ms ≠ [] := fun e => hne (.inr e)
   split
   ·exact .bad h.snd _
   ·rename_i k hk
    split
    ·exact .bad h.snd _
    ·split
     ·exact .bad h.snd _
     ·rename_i b o hb
      obtain ⟨b1, b2, b3⟩ := toB_ok hb
      split
      ·exact .bad h.snd _
      ·rename_i a o' ha
       obtain ⟨a1, a2, a3⟩ := toB_ok ha
       have hf : fnd (nat L a).e (lstN ns) = some k := by
        have := toB_wlk ha hns; rw [hk] at this
        cases ho : o' with
        | none => rw [ho] at this; cases this
        | some j =>
         rw [ho] at this
         cases this
         rw [← a3, ho]
       have hbl := h.snd.wlklt b1; have hal := h.snd.wlklt a1; have hnm := hQ ms rfl _ (lst_mem hms)
       split
       ·split
        ·exact .bad h.snd _
        ·rename_i hm
         refine .ok (move_snd h.snd hal hbl a2 b2 hf hnm ?_)
         by_cases e : b = a
         ·exact .inl e
         ·exact .inr (Nat.lt_of_le_of_lt (len_cut_le _ _) (by
           have : ¬ 64 ≤ (nat L b).e.length := fun h' => hm ⟨e, h'⟩
           omega))
       ·rename_i j
        split
        ·exact .ok h.snd
        ·split
         ·exact .bad h.snd _
         ·split
          ·exact .bad h.snd _
          ·split
           ·exact .bad h.snd _
           ·refine .ok (move_snd h.snd hal hbl a2 b2 hf hnm (.inr ?_))
            have := len_cut (h.snd.rp b) b3.symm; have := (h.snd.dir hbl b2).2.2.1
            omega
 ·exact .bad h.snd _
theorem fileAt_ok {L : List Nd} {P : Option (List ByteArray)} {k : Nat} (h : fileAt L P = .ok k) : ∃ ns, P = some ns ∧ wlk L 0 ns = .ok k ∧ isD (nat L k) = false := by
 unfold fileAt at h
 split at h
 ·cases h
 ·split at h
  ·cases h
  ·split at h
   ·cases h
   ·rename_i hd
    cases h
    exact ⟨_, rfl, by assumption, by simpa using hd⟩
theorem read_keep {L : List Nd} (h : Rgt L) (P : Option (List ByteArray)) (i n : Int) : Keep L (oRead L P i n) := by
 unfold oRead
 split
 ·exact .bad h.snd _
 ·split
  ·exact .bad h.snd _
  ·exact .okv h.snd rfl
theorem write_right {L : List Nd} (h : Rgt L) {k : Nat} (hk : k < L.length) (hd : isD (nat L k) = false) {i : Int} {z : List Int} (h0 : ¬ (i < 0 ∨ 46368 < i + (z.length : Int))) : Rgt (setD L k (wriB (nat L k).d i.toNat z)) := by
 refine h.setD hk hd ?_
 have := (h.snd.file hk hd).2.2
 rw [wriB_len]
 split <;> omega
theorem write_keep {L : List Nd} (h : Rgt L) (P : Option (List ByteArray)) (i : Int) (z : List Int) : Keep L (oWrite L P i z) := by
 unfold oWrite
 split
 ·exact .bad h.snd _
 ·rename_i k hk
  obtain ⟨ns, _, hw, hd⟩ := fileAt_ok hk
  split
  ·exact .bad h.snd _
  ·rename_i h0
   exact .okv (write_right h (h.snd.wlklt hw) hd h0).snd rfl
theorem trunc_keep {L : List Nd} (h : Rgt L) (P : Option (List ByteArray)) (n : Int) : Keep L (oTrunc L P n) := by
 unfold oTrunc
 split
 ·exact .bad h.snd _
 ·rename_i k hk
  obtain ⟨ns, _, hw, hd⟩ := fileAt_ok hk
  split
  ·exact .bad h.snd _
  ·refine .ok (h.setD (h.snd.wlklt hw) hd ?_).snd
   rw [fitB_len]; omega
theorem ask_bad {L : List Nd} {o : Int} {P : Option (List ByteArray)} : (oAsk L o P).err ≠ 0 → oAsk L o P = .bad (oAsk L o P).err := by
 unfold oAsk
 split
 ·exact fun _ => rfl
 ·split
  ·exact fun _ => rfl
  ·split
   ·exact fun e => absurd rfl e
   ·split
    ·split
     ·exact fun e => absurd rfl e
     ·exact fun _ => rfl
    ·exact fun e => absurd rfl e
theorem any_keep {L : List Nd} (h : Rgt L) (o : Int) {P Q : Option (List ByteArray)} (hP : NmsOk P) (hQ : NmsOk Q) (i n : Int) (z : List Int) : Keep L (oAny L o P Q i n z) := by
 unfold oAny
 repeat' split
 ·exact new_keep h _ hP
 ·exact new_keep h _ hP
 ·exact link_keep h hQ
 ·exact cut_keep h _
 ·exact cut_keep h _
 ·exact ren_keep h hQ
 ·exact read_keep h _ _ _
 ·exact write_keep h _ _ _
 ·exact trunc_keep h _ _
 ·exact .same h.snd ask_bad
 ·exact .ok h.snd
 ·exact .bad h.snd _
def doO (L : List Nd) (o : Int) (P Q : Option (List ByteArray)) (i n : Int) (z : List Int) : List Nd × Rv := (num (oAny L o P Q i n z).1, (oAny L o P Q i n z).2)
theorem do_right {L : List Nd} (h : Rgt L) (o : Int) {P Q : Option (List ByteArray)} (hP : NmsOk P) (hQ : NmsOk Q) (i n : Int) (z : List Int) : Rgt (doO L o P Q i n z).1 := (any_keep h o hP hQ i n z).1.right
theorem do_bad {L : List Nd} (h : Rgt L) {o : Int} {P Q : Option (List ByteArray)} (hP : NmsOk P) (hQ : NmsOk Q) {i n : Int} {z : List Int} (e : (doO L o P Q i n z).2.err ≠ 0) : (doO L o P Q i n z).1 = L ∧ (doO L o P Q i n z).2 = .bad (doO L o P Q i n z).2.err := by
 obtain ⟨h1, h2⟩ := (any_keep h o hP hQ i n z).2 e
 exact ⟨by rw [doO, h1, h.num], h2⟩
theorem fileAt_lt {L : List Nd} (h : Snd L) {P : Option (List ByteArray)} {k : Nat} (hk : fileAt L P = .ok k) : k < L.length ∧ isD (nat L k) = false := by
 obtain ⟨ns, _, hw, hd⟩ := fileAt_ok hk
 exact ⟨h.wlklt hw, hd⟩
theorem putE_len (L : List Nd) (a : Nat) (s : ByteArray) (k : Nat) : (putE L a s k).length = L.length := setE_len _ _ _
theorem cutE_len (L : List Nd) (a : Nat) (s : ByteArray) : (cutE L a s).length = L.length := setE_len _ _ _
theorem Snd.nat_num {L : List Nd} (h : Snd L) {x : Nat} (hx : x ∈ met (chs L)) : nat (num L) (plc (chs L) x) = { ren (plc (chs L)) (nat L x) with l := lnk (numR L) (plc (chs L) x) } := by
 rw [num, nat_fixL (by rw [numR_len]; exact plc_lt hx), nat_numR hx]
theorem Snd.file_num {L : List Nd} (h : Snd L) {x : Nat} (hx : x ∈ met (chs L)) (hd : isD (nat L x) = false) : (nat (num L) (plc (chs L) x)).l = (up (numR L) (plc (chs L) x) : Int) := by
 rw [h.nat_num hx]
 simp only [lnk]
 rw [nat_numR hx, isD_ren, hd, if_neg (by decide)]
theorem Snd.dir_num {L : List Nd} (h : Snd L) {x : Nat} (hx : x ∈ met (chs L)) (hd : isD (nat L x) = true) : (nat (num L) (plc (chs L) x)).l = 2 + ((chs L x).countP fun j => isD (nat L j) : Nat) := by
 rw [h.nat_num hx]
 simp only [lnk]
 rw [nat_numR hx, isD_ren, hd, if_pos rfl, inos_ren, List.countP_map]
 congr 2
 refine List.countP_congr fun j hj => ?_
 simp only [Function.comp]
 rw [nat_numR (h.closed x hx j hj), isD_ren]
theorem set_self {L : List Nd} {a : Nat} (h : a < L.length) : L.set a (nat L a) = L := by
 rw [nat_get h]; exact List.set_getElem_self h
def entB (n : Nat) (y : En) : Bool := nmB y.s.data.toList && decide (1 ≤ y.i) && decide (y.i < (n : Int))
def nodeB (n : Nat) (x : Nd) : Bool :=
 if x.k = 1 then decide (x.e.length = 0) && decide (x.d.length ≤ 46368) && decide (1 ≤ x.l) && decide (x.l ≤ 200)
 else decide (x.k = 2) && decide (x.d.length = 0) && decide (x.e.length ≤ 64) && x.e.all (entB n) && ris x.e
theorem nodeB_iff {n : Nat} {x : Nd} : nodeB n x = true ↔ fileOk x ∧ 1 ≤ x.l ∧ x.l ≤ 200 ∨ dirOk n x := by
 unfold nodeB
 split
 ·rename_i h
  simp only [Bool.and_eq_true, decide_eq_true_eq]
  constructor
  ·rintro ⟨⟨⟨a, b⟩, c⟩, d⟩
   exact .inl ⟨⟨h, List.length_eq_zero_iff.1 a, b⟩, c, d⟩
  ·rintro (⟨⟨_, a, b⟩, c, d⟩ | h')
   ·exact ⟨⟨⟨by rw [a]; rfl, b⟩, c⟩, d⟩
   ·have := h'.1
    omega
 ·rename_i h
  simp only [Bool.and_eq_true, decide_eq_true_eq, List.all_eq_true, entB]
  constructor
  ·rintro ⟨⟨⟨⟨a, b⟩, c⟩, d⟩, e⟩
   exact .inr ⟨a, List.length_eq_zero_iff.1 b, c, fun y hy => ⟨(d y hy).1.1, (d y hy).1.2, (d y hy).2⟩, e⟩
  ·rintro (h' | h')
   ·exact absurd h'.1.1 h
   ·exact ⟨⟨⟨⟨h'.1, by rw [h'.2.1]; rfl⟩, h'.2.2.1⟩, fun y hy => ⟨⟨(h'.2.2.2.1 y hy).1, (h'.2.2.2.1 y hy).2.1⟩, (h'.2.2.2.1 y hy).2.2⟩⟩, h'.2.2.2.2⟩
def rightB (L : List Nd) : Bool :=
 decide (1 ≤ L.length) && decide (L.length ≤ 56) && isD (nat L 0) && L.all (nodeB L.length) && decide ((met (chs L)).length = L.length) &&
  (List.range L.length).all fun i => decide ((met (chs L)).getD i 0 = i) && decide (lnk L i = (nat L i).l) && (!(isD (nat L i)) || i == 0 || decide (up L i = 1))
theorem all_nat {L : List Nd} {p : Nd → Bool} : L.all p = true ↔ ∀ i, i < L.length → p (nat L i) = true := by
 rw [List.all_eq_true]
 constructor
 ·intro h i hi
  rw [nat_get hi]
  exact h _ (List.getElem_mem hi)
 ·intro h x hx
  obtain ⟨i, hi, rfl⟩ := List.getElem_of_mem hx
  rw [← nat_get hi]
  exact h i hi
theorem rightB_iff {L : List Nd} : rightB L = true ↔ Rgt L := by
 unfold rightB
 simp only [Bool.and_eq_true, decide_eq_true_eq, List.all_eq_true (l := List.range L.length), List.mem_range, all_nat, Bool.or_eq_true, Bool.not_eq_true', beq_iff_eq]
 constructor
 ·rintro ⟨⟨⟨⟨⟨h1, h2⟩, h3⟩, h4⟩, h5⟩, h6⟩
  refine ⟨h1, h2, h3, fun i hi => nodeB_iff.1 (h4 i hi), ?_, fun i hi => (h6 i hi).1.2, fun i h0 hi hd => ?_⟩
  ·refine List.ext_getElem (by rw [h5, List.length_range]) (fun i a b => ?_)
   have := (h6 i (by omega)).1.1; rw [List.getElem_range]; rw [List.getD_eq_getElem?_getD, List.getElem?_eq_getElem a] at this
   exact this
  ·rcases (h6 i hi).2 with (h | h) | h
   ·rw [hd] at h; cases h
   ·omega
   ·exact h
 ·intro h
  refine ⟨⟨⟨⟨⟨h.pos, h.few⟩, h.root⟩, fun i hi => nodeB_iff.2 (h.node i hi)⟩, by rw [h.met, List.length_range]⟩, fun i hi => ⟨⟨?_, h.link i hi⟩, ?_⟩⟩
  ·rw [h.met, List.getD_eq_getElem?_getD, List.getElem?_eq_getElem (by simpa using hi), List.getElem_range]; rfl
  ·by_cases h0 : i = 0
   ·exact .inl (.inr h0)
   ·cases hd : isD (nat L i) with
    | false => exact .inl (.inl rfl)
    | true => exact .inr (h.one i (by omega) hi hd)
instance (L : List Nd) : Decidable (Rgt L) := decidable_of_iff _ rightB_iff
def findO (L : List Nd) : Option (List ByteArray) → Except Int Nat
 | none => .error 20
 | some ns => wlk L 0 ns
theorem read_one (L : List Nd) (P : Option (List ByteArray)) (i n : Int) : (oRead L P i n).1 = L := by
 unfold oRead
 repeat' split
 all_goals rfl
theorem wlk_err {L : List Nd} : ∀ {ps : List ByteArray} {a : Nat} {e : Int}, wlk L a ps = .error e → e = 21 ∨ e = 22 := by
 intro ps
 induction ps with
 | nil => intro a e h; cases h
 | cons n ps ih =>
  intro a e h
  cases hd : isD (nat L a) with
  | false => rw [wlk_file hd] at h; cases h; exact .inr rfl
  | true =>
   cases hf : fnd (nat L a).e n with
   | none => rw [wlk_none hd hf] at h; cases h; exact .inl rfl
   | some k => rw [wlk_yes hd hf] at h; exact ih h
theorem toB_err {L : List Nd} {ps : List ByteArray} {e : Int} (ht : toB L ps = .error e) : e ≠ 0 := by
 intro h0
 unfold toB at ht
 split at ht
 ·split at ht
  ·cases ht
  ·cases ht; omega
 ·rename_i hw'
  cases ht
  rcases wlk_err hw' with h1 | h1 <;> omega
theorem wlk_err0 {L : List Nd} {ps : List ByteArray} {a : Nat} {e : Int} (h : wlk L a ps = .error e) : e ≠ 0 := by
 rcases wlk_err h with h1 | h1 <;> omega
theorem fileAt_err {L : List Nd} {P : Option (List ByteArray)} {e : Int} (h : fileAt L P = .error e) : e ≠ 0 := by
 unfold fileAt at h
 split at h
 ·cases h; omega
 ·split at h
  ·rename_i hw
   cases h
   exact wlk_err0 hw
  ·split at h
   ·cases h; omega
   ·cases h
def cntE (ch : Nat → List Nat) (l : List Nat) (i : Nat) : Nat := (l.map fun a => (ch a).count i).sum
theorem cntE_app (ch : Nat → List Nat) (l r : List Nat) (i : Nat) : cntE ch (l ++ r) i = cntE ch l i + cntE ch r i := by simp [cntE, List.sum_append]
theorem cntE_cons (ch : Nat → List Nat) (a : Nat) (r : List Nat) (i : Nat) : cntE ch (a :: r) i = (ch a).count i + cntE ch r i := by simp [cntE]
theorem drop_more {m m' r : List Nat} {n : Nat} (h : m' = m ++ r) (hn : n ≤ m.length) : m'.drop n = m.drop n ++ m'.drop m.length := by
 subst h
 rw [List.drop_append_of_le_length hn, List.drop_left]
def mtK (ch : Nat → List Nat) (d a : Nat) (m : List Nat) (k : Nat) : List Nat := ((ch a).take k).foldl (ordS ch d) (m ++ [a])
theorem mtK_zero (ch : Nat → List Nat) (d a : Nat) (m : List Nat) : mtK ch d a m 0 = m ++ [a] := rfl
theorem mtK_succ (ch : Nat → List Nat) (d a : Nat) (m : List Nat) {k : Nat} (h : k < (ch a).length) : mtK ch d a m (k + 1) = ordS ch d (mtK ch d a m k) ((ch a).getD k 0) := by
 have e : (ch a).take (k + 1) = (ch a).take k ++ [(ch a).getD k 0] := by
  rw [List.take_add_one, List.getD_eq_getElem?_getD, List.getElem?_eq_getElem h]; rfl
 rw [mtK, mtK, e, List.foldl_append]; rfl
theorem mtK_end (ch : Nat → List Nat) (d a : Nat) (m : List Nat) : mtK ch d a m (ch a).length = ord ch (d + 1) a m := by rw [mtK, List.take_length, ord_succ]
theorem mtK_ext (ch : Nat → List Nat) (d a : Nat) (m : List Nat) (k : Nat) : ∃ r, mtK ch d a m k = m ++ a :: r := by
 obtain ⟨r, hr⟩ := foldS_ext (ord_ext ch d) ((ch a).take k) (m ++ [a])
 exact ⟨r, by rw [mtK, hr]; simp⟩
theorem mtK_len (ch : Nat → List Nat) (d a : Nat) (m : List Nat) (k : Nat) : m.length + 1 ≤ (mtK ch d a m k).length := by
 obtain ⟨r, hr⟩ := mtK_ext ch d a m k
 rw [hr]; simp
def mtE (ch : Nat → List Nat) (d a : Nat) (m : List Nat) (E : Nat → Nat) (k i : Nat) : Nat := E i + ((ch a).take k).count i + cntE ch ((mtK ch d a m k).drop (m.length + 1)) i
theorem mtE_zero (ch : Nat → List Nat) (d a : Nat) (m : List Nat) (E : Nat → Nat) (i : Nat) : mtE ch d a m E 0 i = E i := by
 have e : (m ++ [a]).drop (m.length + 1) = [] := List.drop_eq_nil_of_le (by simp)
 rw [mtE, mtK_zero, e]
 simp [cntE]
theorem mtE_succ (ch : Nat → List Nat) (d a : Nat) (m : List Nat) (E : Nat → Nat) {k : Nat} (h : k < (ch a).length) (i : Nat) :
  mtE ch d a m E (k + 1) i = (mtE ch d a m E k i + if (ch a).getD k 0 = i then 1 else 0) + cntE ch ((mtK ch d a m (k + 1)).drop (mtK ch d a m k).length) i := by
 have e : (ch a).take (k + 1) = (ch a).take k ++ [(ch a).getD k 0] := by
  rw [List.take_add_one, List.getD_eq_getElem?_getD, List.getElem?_eq_getElem h]; rfl
 obtain ⟨r, hr⟩ := ordS_ext ch d (mtK ch d a m k) ((ch a).getD k 0)
 have e2 := drop_more (n := m.length + 1) ((mtK_succ ch d a m h).trans hr) (mtK_len ch d a m k)
 rw [mtE, mtE, e, e2, cntE_app, List.count_append, List.count_singleton]
 have e3 : (if ((ch a).getD k 0 == i) = true then 1 else 0) = (if (ch a).getD k 0 = i then 1 else 0 : Nat) := by
  by_cases h : (ch a).getD k 0 = i <;> simp [h]
 rw [e3]
 omega
theorem mtE_end (ch : Nat → List Nat) (d a : Nat) (m : List Nat) (E : Nat → Nat) (i : Nat) : mtE ch d a m E (ch a).length i = E i + cntE ch ((ord ch (d + 1) a m).drop m.length) i := by
 obtain ⟨r, hr⟩ := ord_ext ch (d + 1) a m
 have e1 : (m ++ a :: r).drop (m.length + 1) = r := by
  have : (m ++ a :: r) = (m ++ [a]) ++ r := by simp
  rw [this]
  exact List.drop_left' (by simp)
 rw [mtE, mtK_end, hr, e1, List.drop_left, cntE_cons, List.take_length]
 omega
def metE (ch : Nat → List Nat) (d a : Nat) (m : List Nat) (E : Nat → Nat) (i : Nat) : Nat := E i + cntE ch ((ordS ch d m a).drop m.length) i
theorem metE_old {ch : Nat → List Nat} {d a : Nat} {m : List Nat} (E : Nat → Nat) (h : a ∈ m) (i : Nat) : metE ch d a m E i = E i := by
 rw [metE, ordS, if_pos h, List.drop_length]
 rfl
theorem metE_new {ch : Nat → List Nat} {d a : Nat} {m : List Nat} (E : Nat → Nat) (h : a ∉ m) (i : Nat) : metE ch (d + 1) a m E i = mtE ch d a m E (ch a).length i := by
 rw [metE, ordS, if_neg h, mtE_end]
theorem metE_root (ch : Nat → List Nat) (i : Nat) : metE ch 60 0 [] (fun _ => 0) i = cntE ch (met ch) i := by
 rw [metE, ordS, if_neg (by simp)]
 simp only [List.length_nil, List.drop_zero, Nat.zero_add]
 rfl
theorem mtK_in {ch : Nat → List Nat} {n : Nat} (hc : ∀ x, x < n → ∀ k ∈ ch x, k < n) (d : Nat) {m : List Nat} {a : Nat} (ha : a < n) (hm : ∀ x ∈ m, x < n) (k : Nat) : ∀ x ∈ mtK ch d a m k, x < n :=
 foldS_ind (P := fun m => ∀ x ∈ m, x < n) (fun j hj m h hn => ord_in (S := (· < n)) hc d j m (hc a ha j (List.mem_of_mem_take hj)) h) (fun x hx => by
  rw [List.mem_append, List.mem_singleton] at hx
  rcases hx with hx | rfl
  ·exact hm x hx
  ·exact ha)
theorem mtK_nodup (ch : Nat → List Nat) (d : Nat) {m : List Nat} {a : Nat} (hm : m.Nodup) (ha : a ∉ m) (k : Nat) : (mtK ch d a m k).Nodup :=
 foldS_ind (P := List.Nodup) (fun j _ m h hn => ord_nodup ch d j m h hn) (by
  rw [List.nodup_append]
  exact ⟨hm, by simp, fun x hx y hy => by rintro rfl; simp at hy; exact ha (hy ▸ hx)⟩)
theorem cnt_up {L : List Nd} (h : met (chs L) = List.range L.length) (i : Nat) : cntE (chs L) (met (chs L)) i = up L i := by rw [cntE, up, h]
end Go.Proofs.YtinholnidchblaaGreatDoor
namespace Go.Proofs.YtinholnidchblaaGreatDoor
open Go.RowKit
theorem bys_turn0 {M : Nat → Prop} {w w' : World} {a : Option Addr} {n : Nat} {zs : List Int} (h : Bys w a n zs) (ht : Turn M w w') (hm : 0 < n → ∀ b off, a = some ⟨b, off, none⟩ → ¬ M b) : Bys w' a n zs := by
 by_cases h0 : n = 0
 ·exact ⟨h.len, h.small, .inl h0⟩
 ·exact bys_turn h ht (hm (by omega))
theorem Pin.turn {M : Nat → Prop} {w w' : World} {a : Option Addr} {n c : Nat} {zs : List Int} (h : Pin w a n c zs) (ht : Turn M w w') (hm : 0 < n → ∀ b off, a = some ⟨b, off, none⟩ → ¬ M b) : Pin w' a n c zs := ⟨bys_turn0 h.bys ht hm, h.nil, h.cap, h.max⟩
theorem Ens.turn {M : Nat → Prop} {w w' : World} {a : Option Addr} {n : Nat} {L : List En} (h : Ens w a n L) (ht : Turn M w w') (hm' : 0 < n → ∀ b off, a = some ⟨b, off, none⟩ → ¬ M b) : Ens w' a n L := by
 refine ⟨h.len, ?_⟩
 rcases h.place with h0 | ⟨b, off, ha, hlt, hc⟩
 ·exact .inl h0
 ·by_cases h0 : n = 0
  ·exact .inl h0
  have hm := hm' (by omega)
  refine .inr ⟨b, off, ha, Nat.lt_of_lt_of_le hlt ht.size, fun i hi => ?_⟩
  obtain ⟨h1, h2⟩ := hc i hi
  exact ⟨(ht.cell (a := ⟨b, off + i * 2, none⟩) hlt (hm b off ha)).trans h1, (ht.cell (a := ⟨b, off + i * 2 + 1, none⟩) hlt (hm b off ha)).trans h2⟩
theorem Enz.turn {M : Nat → Prop} {w w' : World} {a : Option Addr} {n c : Nat} {L : List En} (h : Enz w a n c L) (ht : Turn M w w') (hm : 0 < n → ∀ b off, a = some ⟨b, off, none⟩ → ¬ M b) : Enz w' a n c L := ⟨h.ens.turn ht hm, h.nil, h.cap, h.max⟩
theorem Turn.setO {M : Nat → Prop} {w w' : World} (h : Turn M w w') {p : Addr} (hp : M p.block) (u : Value) : Turn M w (w'.setCell p u) := h.trans (.setCell w' hp u)
theorem Turn.next {M : Nat → Prop} {w w' w2 : World} (h : Turn M w w') (hb : Below w'.heap.size w' w2) : Turn M w w2 := h.trans (.of_below hb)
def WkB (w : World) (wb : Nat) (na : Option Addr) (n c : Nat) (pm em : Option Nat) : Prop := w.heap[wb]? = some (.cells #[.slice na n c, .map pm, .map em] 81 (0, 0))
section
variable {w w' : World} {wb n c : Nat} {na : Option Addr} {pm em : Option Nat}
theorem WkB.lt (h : WkB w wb na n c pm em) : wb < w.heap.size := lt_of_block h
theorem WkB.c0 (h : WkB w wb na n c pm em) : w.cell? ⟨wb, 0, none⟩ = some (.slice na n c) := by simp [World.cell?, show w.heap[wb]? = _ from h]
theorem WkB.c1 (h : WkB w wb na n c pm em) : w.cell? ⟨wb, 1, none⟩ = some (.map pm) := by simp [World.cell?, show w.heap[wb]? = _ from h]
theorem WkB.c2 (h : WkB w wb na n c pm em) : w.cell? ⟨wb, 2, none⟩ = some (.map em) := by simp [World.cell?, show w.heap[wb]? = _ from h]
theorem WkB.free (h : WkB w wb na n c pm em) (i : Nat) : w.frozen? ⟨wb, i, none⟩ = false := frozen_of_row w wb i _ _ h
theorem WkB.block {w' : World} (h : WkB w wb na n c pm em) (hb : w'.heap[wb]? = w.heap[wb]?) : WkB w' wb na n c pm em := hb.trans h
theorem WkB.below {B : Nat} (h : WkB w wb na n c pm em) (hB : wb < B) (hb : Below B w w') : WkB w' wb na n c pm em := h.block (hb.block wb hB)
theorem WkB.next (h : WkB w wb na n c pm em) (hb : Below w.heap.size w w') : WkB w' wb na n c pm em := h.below h.lt hb
theorem WkB.set0 (h : WkB w wb na n c pm em) (a : Option Addr) (m k : Nat) : WkB (w.setCell ⟨wb, 0, none⟩ (.slice a m k)) wb a m k pm em := cells_set h
theorem WkB.set1 (h : WkB w wb na n c pm em) (b : Nat) : WkB (w.setCell ⟨wb, 1, none⟩ (.map (some b))) wb na n c (some b) em := cells_set h
theorem WkB.set2 (h : WkB w wb na n c pm em) (b : Nat) : WkB (w.setCell ⟨wb, 2, none⟩ (.map (some b))) wb na n c pm (some b) := cells_set h
end
structure Wr (w : World) (wb : Nat) (na : Option Addr) (n c : Nat) (f : Nat → Nc) : Prop where
 wk : ∃ pm em, WkB w wb na n c pm em
 nds : Nds w na n f
theorem Wr.next {w w' : World} {wb n c : Nat} {na : Option Addr} {f : Nat → Nc} (h : Wr w wb na n c f) (hb : Below w.heap.size w w') : Wr w' wb na n c f := by
 obtain ⟨⟨pm, em, hk⟩, hn⟩ := h
 exact ⟨⟨pm, em, hk.next hb⟩, hn.next hb⟩
theorem Wr.c0 {w : World} {wb n c : Nat} {na : Option Addr} {f : Nat → Nc} (h : Wr w wb na n c f) : w.cell? ⟨wb, 0, none⟩ = some (.slice na n c) := by
 obtain ⟨⟨pm, em, hk⟩, hn⟩ := h
 exact hk.c0
theorem Wr.lt {w : World} {wb n c : Nat} {na : Option Addr} {f : Nat → Nc} (h : Wr w wb na n c f) : wb < w.heap.size := by
 obtain ⟨⟨pm, em, hk⟩, hn⟩ := h
 exact hk.lt
def ncl (x : Nc) : List Value := [.int .i64 x.k, .int .i64 x.l, .slice x.da x.dn x.dc, .slice x.ea x.en x.ec]
def nflat (f : Nat → Nc) (n : Nat) : List Value := (List.range n).flatMap fun i => ncl (f i)
theorem nflat_len (f : Nat → Nc) (n : Nat) : (nflat f n).length = n * 4 := by
 unfold nflat
 induction n with
 | zero => rfl
 | succ n ih =>
  rw [List.range_succ, List.flatMap_append, List.length_append, ih, List.flatMap_cons, List.flatMap_nil, List.append_nil]
  show n * 4 + 4 = _
  omega
theorem nflat_succ (f : Nat → Nc) (n : Nat) : nflat f (n + 1) = nflat f n ++ ncl (f n) := by
 rw [nflat, List.range_succ, List.flatMap_append, List.flatMap_cons, List.flatMap_nil, List.append_nil]; rfl
theorem nflat_get (f : Nat → Nc) {n i j : Nat} (hi : i < n) (hj : j < 4) : (nflat f n)[i * 4 + j]? = (ncl (f i))[j]? := by
 induction n with
 | zero => omega
 | succ n ih =>
  rw [nflat_succ]
  by_cases h : i < n
  ·rw [List.getElem?_append_left (by rw [nflat_len]; omega), ih h]
  ·obtain rfl : i = n := by omega
   rw [List.getElem?_append_right (by rw [nflat_len]; omega), nflat_len]
   congr 1
   omega
theorem nflat_congr {f g : Nat → Nc} {n : Nat} (h : ∀ i, i < n → f i = g i) : nflat f n = nflat g n := by
 unfold nflat
 rw [List.flatMap_def, List.flatMap_def]
 congr 1
 exact List.map_congr_left fun i hi => by rw [h i (List.mem_range.1 hi)]
def updN (f : Nat → Nc) (i : Nat) (x : Nc) (j : Nat) : Nc := if j = i then x else f j
theorem updN_same (f : Nat → Nc) (i : Nat) (x : Nc) : updN f i x i = x := by simp [updN]
theorem updN_other (f : Nat → Nc) {i j : Nat} (x : Nc) (h : j ≠ i) : updN f i x j = f j := by simp [updN, h]
theorem nflat_upd (f : Nat → Nc) {n i j : Nat} (x : Nc) (u : Value) (hi : i < n) (hj : j < 4) (hx : ncl x = (ncl (f i)).set j u) : (nflat f n).set (i * 4 + j) u = nflat (updN f i x) n := by
 induction n with
 | zero => omega
 | succ n ih =>
  rw [nflat_succ, nflat_succ]
  by_cases h : i < n
  ·rw [List.set_append_left _ _ (by rw [nflat_len]; omega), ih h, updN_other f x (by omega)]
  ·obtain rfl : i = n := by omega
   rw [List.set_append_right _ _ (by rw [nflat_len]; omega), nflat_len, updN_same, hx, Nat.add_sub_cancel_left, nflat_congr (f := updN f i x) (g := f) fun k hk => updN_other f x (by omega)]
theorem ndL_upd (f : Nat → Nc) (n i : Nat) (x : Nc) : ndL (updN f i x) n = (ndL f n).set i x.nd := by
 refine List.ext_getElem (by simp [ndL]) fun j h1 h2 => ?_
 simp only [ndL, List.getElem_map, List.getElem_range, List.getElem_set]
 by_cases h : i = j
 ·subst h
  simp [updN]
 ·simp [updN, h, Ne.symm h]
theorem ndL_succ (f : Nat → Nc) (n : Nat) : ndL f (n + 1) = ndL f n ++ [(f n).nd] := by simp [ndL, List.range_succ]
theorem ndL_congr {f g : Nat → Nc} {n : Nat} (h : ∀ i, i < n → f i = g i) : ndL f n = ndL g n := List.map_congr_left fun i hi => by rw [h i (List.mem_range.1 hi)]
def Off (n : Nat) (a : Option Addr) (x y : Nat) : Prop := 0 < n → ∀ b off, a = some ⟨b, off, none⟩ → b ≠ x ∧ b ≠ y
theorem Off.nil (n x y : Nat) : Off n none x y := fun _ b off h => by cases h
structure Wo (w : World) (wb g n c : Nat) (f : Nat → Nc) : Prop where
 wk : ∃ pm em, WkB w wb (some ⟨g, 0, none⟩) n c pm em
 row : w.ownsRow 0 54 4 (.slice (some ⟨g, 0, none⟩) n c) n (nflat f n)
 ne : g ≠ wb
 data : ∀ i, i < n → Pin w (f i).da (f i).dn (f i).dc (f i).d ∧ Off (f i).dn (f i).da g wb
 ents : ∀ i, i < n → Enz w (f i).ea (f i).en (f i).ec (f i).e ∧ Off (f i).en (f i).ea g wb
theorem row_lt {w : World} {B : Nat} {e : TypeId} {s g n c : Nat} {xs : List Value} (h : w.ownsRow B e s (.slice (some ⟨g, 0, none⟩) n c) n xs) : g < w.heap.size := (h.lt g rfl).2
theorem row_block {w w' : World} {B : Nat} {e : TypeId} {s g n c : Nat} {xs : List Value} (h : w.ownsRow B e s (.slice (some ⟨g, 0, none⟩) n c) n xs) (hb : w'.heap[g]? = w.heap[g]?) : w'.ownsRow B e s (.slice (some ⟨g, 0, none⟩) n c) n xs := by
 obtain ⟨hl, h⟩ := h
 refine ⟨hl, ?_⟩
 rcases h with ⟨h0, _⟩ | ⟨g', cap, cur, hv, h1, h2, h3⟩
 ·cases h0
 ·refine .inr ⟨g', cap, cur, hv, h1, ?_, h3⟩
  cases hv
  rw [hb]; exact h2
theorem add0 (g j : Nat) : (⟨g, 0, none⟩ : Addr).add j = ⟨g, 0 + j, none⟩ := by unfold Addr.add; split <;> simp_all
theorem Wo.cell {w : World} {wb g n c : Nat} {f : Nat → Nc} (h : Wo w wb g n c f) {i : Nat} (hi : i < n) : w.cell? ⟨g, 0 + i * 4, none⟩ = some (.int .i64 (f i).k) ∧ w.cell? ⟨g, 0 + i * 4 + 1, none⟩ = some (.int .i64 (f i).l) ∧
  w.cell? ⟨g, 0 + i * 4 + 2, none⟩ = some (.slice (f i).da (f i).dn (f i).dc) ∧ w.cell? ⟨g, 0 + i * 4 + 3, none⟩ = some (.slice (f i).ea (f i).en (f i).ec) := by
 have key : ∀ j, j < 4 → w.cell? ⟨g, 0 + (i * 4 + j), none⟩ = (ncl (f i))[j]? := fun j hj => by
  have := h.row.cells (g := g) rfl (i * 4 + j) ((ncl (f i))[j]'(by simpa [ncl] using hj)) (by rw [nflat_get f hi hj]; simp [ncl, hj])
  rw [add0] at this
  rw [this]; simp [ncl, hj]
 exact ⟨key 0 (by omega), key 1 (by omega), key 2 (by omega), key 3 (by omega)⟩
theorem Wo.nds {w : World} {wb g n c : Nat} {f : Nat → Nc} (h : Wo w wb g n c f) : Nds w (some ⟨g, 0, none⟩) n f :=
 ⟨.inr ⟨g, 0, rfl, row_lt h.row, fun i hi => h.cell hi⟩, fun i hi => (h.data i hi).1, fun i hi => (h.ents i hi).1⟩
theorem Wo.wr {w : World} {wb g n c : Nat} {f : Nat → Nc} (h : Wo w wb g n c f) : Wr w wb (some ⟨g, 0, none⟩) n c f := ⟨h.wk, h.nds⟩
theorem Wo.free {w : World} {wb g n c : Nat} {f : Nat → Nc} (h : Wo w wb g n c f) (j : Nat) : w.frozen? ⟨g, j, none⟩ = false := h.row.frozenAt j
theorem Wo.next {w w' : World} {wb g n c : Nat} {f : Nat → Nc} (h : Wo w wb g n c f) (hb : Below w.heap.size w w') : Wo w' wb g n c f := by
 obtain ⟨⟨pm, em, hk⟩, hr, hne, hd, he⟩ := h
 exact ⟨⟨pm, em, hk.next hb⟩, row_block hr (hb.block g (row_lt hr)), hne, fun i hi => ⟨(hd i hi).1.next hb, (hd i hi).2⟩, fun i hi => ⟨(he i hi).1.next hb, (he i hi).2⟩⟩
theorem Wo.drew {w : World} {wb g n c : Nat} {f : Nat → Nc} (h : Wo w wb g n c f) (q : Nat) : Wo (w.drewN q) wb g n c f := h.next (below_drewN (Below.refl _ _) q)
theorem Wo.setE {w : World} {wb g n c i : Nat} {f : Nat → Nc} (h : Wo w wb g n c f) (hi : i < n) {a : Option Addr} {m k : Nat} {E : List En} (hE : Enz w a m k E) (ho : Off m a g wb) :
  Wo (w.setCell ⟨g, 0 + i * 4 + 3, none⟩ (.slice a m k)) wb g n c (updN f i { f i with ea := a, en := m, ec := k, e := E }) := by
 obtain ⟨⟨pm, em, hk⟩, hr, hne, hd, he⟩ := h
 have ht : Turn (· = g) w (w.setCell ⟨g, 0 + i * 4 + 3, none⟩ (.slice a m k)) := Turn.setCell (M := (· = g)) (a := ⟨g, 0 + i * 4 + 3, none⟩) w rfl _
 have h1 := (hr.stored (0 + i * 4 + 3) (.slice a m k)).1
 have e0 : 0 + i * 4 + 3 = i * 4 + 3 := by omega
 refine ⟨⟨pm, em, hk.block (ht.block wb hk.lt (fun e => hne e.symm))⟩, ?_, hne, fun j hj => ?_, fun j hj => ?_⟩
 ·rw [e0, nflat_upd f (x := { f i with ea := a, en := m, ec := k, e := E }) _ hi (by omega) rfl] at h1
  rw [e0]
  exact h1
 ·by_cases e : j = i
  ·subst e
   rw [updN_same]
   exact ⟨(hd j hj).1.turn ht fun h0 b off ha => ((hd j hj).2 h0 b off ha).1, (hd j hj).2⟩
  ·rw [updN_other _ _ e]
   exact ⟨(hd j hj).1.turn ht fun h0 b off ha => ((hd j hj).2 h0 b off ha).1, (hd j hj).2⟩
 ·by_cases e : j = i
  ·subst e
   rw [updN_same]
   exact ⟨hE.turn ht fun h0 b off ha => (ho h0 b off ha).1, ho⟩
  ·rw [updN_other _ _ e]
   exact ⟨(he j hj).1.turn ht fun h0 b off ha => ((he j hj).2 h0 b off ha).1, (he j hj).2⟩
theorem Off.new {n : Nat} {a : Option Addr} {x y B : Nat} (h : ∀ p, a = some p → B ≤ p.block) (hx : x < B) (hy : y < B) : Off n a x y := fun _ b off e => by
 have := h _ e
 simp only at this
 omega
theorem Off.oldB {w : World} {a : Option Addr} {n x y : Nat} {zs : List Int} (h : Bys w a n zs) (hx : w.heap.size ≤ x) (hy : w.heap.size ≤ y) : Off n a x y := fun h0 b off e => by
 rcases h.place with h1 | ⟨b', off', ha, hlt, _⟩
 ·omega
 ·rw [e] at ha
  cases ha
  omega
theorem Off.oldE {w : World} {a : Option Addr} {n x y : Nat} {L : List En} (h : Ens w a n L) (hx : w.heap.size ≤ x) (hy : w.heap.size ≤ y) : Off n a x y := fun h0 b off e => by
 rcases h.place with h1 | ⟨b', off', ha, hlt, _⟩
 ·omega
 ·rw [e] at ha
  cases ha
  omega
theorem Off.bothB {w : World} {n : Nat} {a : Option Addr} {x y v : Nat} {zs : List Int} (h : Off n a x y) (hb : Bys w a n zs) (hv : v = x ∨ v = w.heap.size) : Off n a v y := fun h0 b off e => by
 refine ⟨?_, (h h0 b off e).2⟩
 rcases hv with rfl | rfl
 ·exact (h h0 b off e).1
 ·exact (Off.oldB hb (Nat.le_refl _) (Nat.le_refl _) h0 b off e).1
theorem Off.bothE {w : World} {n : Nat} {a : Option Addr} {x y v : Nat} {L : List En} (h : Off n a x y) (hb : Ens w a n L) (hv : v = x ∨ v = w.heap.size) : Off n a v y := fun h0 b off e => by
 refine ⟨?_, (h h0 b off e).2⟩
 rcases hv with rfl | rfl
 ·exact (h h0 b off e).1
 ·exact (Off.oldE hb (Nat.le_refl _) (Nat.le_refl _) h0 b off e).1
theorem ncl_one (x : Nc) : ∀ u ∈ ncl x, u.oneCell' = true := fun u hu => by
 simp only [ncl, List.mem_cons, List.not_mem_nil, or_false] at hu
 rcases hu with rfl | rfl | rfl | rfl <;> rfl
theorem infoN : (Tryz.prog.info? 54).map (fun i => (i.zero, i.size, i.bytes)) = some (some (.agg #[.int .i64 0, .int .i64 0, .slice none 0 0, .slice none 0 0]), 4, 64) := by kernel_rfl
theorem Wo.grow {w w' : World} {wb g n c g2 c2 : Nat} {f : Nat → Nc} (h : Wo w wb g n c f) (x : Nc) (hx : x.dn = 0 ∧ x.d = [] ∧ x.da = none ∧ x.dc = 0 ∧ x.en = 0 ∧ x.e = [] ∧ x.ea = none ∧ x.ec = 0) (hg : w.grownBy w' (some g)) (h2 : some g = some g2 ∨ g2 = w.heap.size)
  (ho : w'.ownsRow 0 54 4 (.slice (some ⟨g2, 0, none⟩) (n + 1) c2) (n + 1) (nflat f n ++ ncl x)) :
  Wo (w'.setCell ⟨wb, 0, none⟩ (.slice (some ⟨g2, 0, none⟩) (n + 1) c2)) wb g2 (n + 1) c2 (updN f n x) ∧ Turn (fun j => j = g ∨ j = wb) w (w'.setCell ⟨wb, 0, none⟩ (.slice (some ⟨g2, 0, none⟩) (n + 1) c2)) := by
 obtain ⟨⟨pm, em, hk⟩, hr, hne, hd, he⟩ := h
 have hlt := hk.lt
 have h2' : g2 = g ∨ g2 = w.heap.size := h2.imp (fun e => (Option.some.inj e).symm) id
 have hne2 : g2 ≠ wb := by
  rcases h2' with e | e
  ·rw [e]; exact hne
  ·omega
 have ht1 : Turn (fun j => j = g ∨ j = wb) w w' := .of_grown hg (.inl rfl)
 have ht2 : Turn (fun j => j = g ∨ j = wb) w (w'.setCell ⟨wb, 0, none⟩ (.slice (some ⟨g2, 0, none⟩) (n + 1) c2)) := ht1.setO (p := ⟨wb, 0, none⟩) (.inr rfl) _
 refine ⟨⟨⟨pm, em, ?_⟩, ?_, hne2, fun i hi => ?_, fun i hi => ?_⟩, ht2⟩
 ·exact (WkB.block hk (hg.block wb hlt (fun e => hne (Option.some.inj e).symm))).set0 _ _ _
 ·refine row_block ?_ (Below.heap_setCell _ _ _ _ hne2)
  rw [nflat_succ, updN_same, nflat_congr (f := updN f n x) (g := f) fun k hk => updN_other f x (by omega)]
  exact ho
 ·by_cases e : i = n
  ·subst e
   rw [updN_same]; obtain ⟨x1, x2, x3, x4, _⟩ := hx; rw [x1, x2, x3, x4]
   exact ⟨Pin.zero _, Off.nil _ _ _⟩
  ·rw [updN_other _ _ e]
   have hi' : i < n := by omega
   exact ⟨(hd i hi').1.turn ht2 fun h0 b off ha => by have := (hd i hi').2 h0 b off ha; rintro (e | e); exact this.1 e; exact this.2 e, (hd i hi').2.bothB (hd i hi').1.bys h2'⟩
 ·by_cases e : i = n
  ·subst e
   rw [updN_same]; obtain ⟨_, _, _, _, x1, x2, x3, x4⟩ := hx; rw [x1, x2, x3, x4]
   exact ⟨Enz.zero _, Off.nil _ _ _⟩
  ·rw [updN_other _ _ e]
   have hi' : i < n := by omega
   exact ⟨(he i hi').1.turn ht2 fun h0 b off ha => by have := (he i hi').2 h0 b off ha; rintro (e | e); exact this.1 e; exact this.2 e, (he i hi').2.bothE (he i hi').1.ens h2'⟩
end Go.Proofs.YtinholnidchblaaGreatDoor
