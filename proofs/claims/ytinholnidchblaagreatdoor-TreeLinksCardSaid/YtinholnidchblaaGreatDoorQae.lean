/-
  Trees, plainly: what each operation answers and makes of a right tree, its nodes not yet numbered anew; that it is right when they are.
-/
import Derived.Test.YtinholnidchblaaGreatDoorQad
set_option linter.unusedVariables false
set_option linter.unusedSimpArgs false
namespace Go.Proofs.YtinholnidchblaaGreatDoor
set_option linter.unusedVariables false
set_option linter.unusedSimpArgs false

/-- What an operation answers. -/
structure Rv where
  err : Int
  d : List Int
  ns : List ByteArray
  k : Int
  l : Int
  sz : Int
deriving DecidableEq
/-- An error alone. -/
def Rv.bad (e : Int) : Rv := ⟨e, [], [], 0, 0, 0⟩
/-- Nothing but that it is done. -/
def Rv.ok : Rv := ⟨0, [], [], 0, 0, 0⟩
/-- The last name. -/
def lstN (ns : List ByteArray) : ByteArray := ns.getLastD ByteArray.empty
/-- The place to be of names. -/
def toB (L : List Nd) (ns : List ByteArray) : Except Int (Nat × Option Nat) :=
  match wlk L 0 ns.dropLast with
  | .ok a => if isD (nat L a) then .ok (a, fnd (nat L a).e (lstN ns)) else .error 22
  | .error e => .error e
/-- A tree with an entry more. -/
def putE (L : List Nd) (a : Nat) (s : ByteArray) (k : Nat) : List Nd := setE L a (eput (nat L a).e ⟨s, (k : Int)⟩)
/-- A tree with an entry less. -/
def cutE (L : List Nd) (a : Nat) (s : ByteArray) : List Nd := setE L a (ecut (nat L a).e s)
/-- OpCreate, OpMkdir. -/
def oNew (L : List Nd) (dir : Bool) : Option (List ByteArray) → List Nd × Rv
  | none => (L, .bad 20)
  | some ns =>
    if ns = [] then (L, .bad 24) else
    match toB L ns with
    | .error e => (L, .bad e)
    | .ok (a, o) =>
      if o.isSome then (L, .bad 24) else
      if 64 ≤ (nat L a).e.length ∨ 56 ≤ L.length then (L, .bad 27) else
      (putE L a (lstN ns) L.length ++ [⟨if dir then 2 else 1, 0, [], []⟩], .ok)
/-- OpLink. -/
def oLink (L : List Nd) : Option (List ByteArray) → Option (List ByteArray) → List Nd × Rv
  | some ns, some ms =>
    match wlk L 0 ns with
    | .error e => (L, .bad e)
    | .ok k =>
      if isD (nat L k) then (L, .bad 23) else
      if ms = [] then (L, .bad 24) else
      match toB L ms with
      | .error e => (L, .bad e)
      | .ok (a, o) =>
        if o.isSome then (L, .bad 24) else
        if 200 ≤ (nat L k).l then (L, .bad 26) else
        if 64 ≤ (nat L a).e.length then (L, .bad 27) else
        (putE L a (lstN ms) k, .ok)
  | _, _ => (L, .bad 20)
/-- OpUnlink, OpRmdir. -/
def oCut (L : List Nd) (rm : Bool) : Option (List ByteArray) → List Nd × Rv
  | none => (L, .bad 20)
  | some ns =>
    match wlk L 0 ns with
    | .error e => (L, .bad e)
    | .ok k =>
      if rm = false ∧ isD (nat L k) = true then (L, .bad 23) else
      if rm = true ∧ isD (nat L k) = false then (L, .bad 22) else
      if isD (nat L k) = true ∧ (k = 0 ∨ (nat L k).e ≠ []) then (L, .bad 25) else
      match toB L ns with
      | .error e => (L, .bad e)
      | .ok (a, _) => (cutE L a (lstN ns), .ok)
/-- Is the first one at or below the other one? -/
def witN (l m : List ByteArray) : Bool := decide (m.length ≤ l.length) && decide (l.take m.length = m)
/-- OpRename. -/
def oRen (L : List Nd) : Option (List ByteArray) → Option (List ByteArray) → List Nd × Rv
  | some ns, some ms =>
    if ns = [] ∨ ms = [] then (L, .bad 29) else
    match wlk L 0 ns with
    | .error e => (L, .bad e)
    | .ok k =>
      if isD (nat L k) = true ∧ ms ≠ ns ∧ witN ms ns = true then (L, .bad 29) else
      match toB L ms with
      | .error e => (L, .bad e)
      | .ok (b, o) =>
        match toB L ns with
        | .error e => (L, .bad e)
        | .ok (a, _) =>
          match o with
          | none => if b ≠ a ∧ 64 ≤ (nat L b).e.length then (L, .bad 27) else (putE (cutE L a (lstN ns)) b (lstN ms) k, .ok)
          | some j =>
            if j = k then (L, .ok) else
            if isD (nat L k) = true ∧ isD (nat L j) = false then (L, .bad 22) else
            if isD (nat L k) = false ∧ isD (nat L j) = true then (L, .bad 23) else
            if (nat L j).e ≠ [] then (L, .bad 25) else
            (putE (cutE L a (lstN ns)) b (lstN ms) k, .ok)
  | _, _ => (L, .bad 20)
/-- A file of n bytes: noughts behind its old end. -/
def fitB (b : List Int) (n : Nat) : List Int := b.take n ++ List.replicate (n - b.length) 0
theorem fitB_len (b : List Int) (n : Nat) : (fitB b n).length = n := by
  simp only [fitB, List.length_append, List.length_take, List.length_replicate]; omega
/-- A file with bytes written. -/
def wriB (b : List Int) (i : Nat) (z : List Int) : List Int := if z = [] then b else (fitB b (max b.length (i + z.length))).take i ++ z ++ (fitB b (max b.length (i + z.length))).drop (i + z.length)
theorem wriB_len {b : List Int} {i : Nat} {z : List Int} : (wriB b i z).length = if z = [] then b.length else max b.length (i + z.length) := by
  unfold wriB
  split
  · rfl
  · rename_i h
    simp only [List.length_append, List.length_take, List.length_drop, fitB_len]
    omega
/-- What is in a file, or what is told of it. -/
def fileAt (L : List Nd) : Option (List ByteArray) → Except Int Nat
  | none => .error 20
  | some ns =>
    match wlk L 0 ns with
    | .error e => .error e
    | .ok k => if isD (nat L k) then .error 23 else .ok k
/-- OpRead. -/
def oRead (L : List Nd) (P : Option (List ByteArray)) (i n : Int) : List Nd × Rv :=
  match fileAt L P with
  | .error e => (L, .bad e)
  | .ok k => if i < 0 ∨ n < 0 then (L, .bad 28) else (L, ⟨0, ((nat L k).d.drop i.toNat).take n.toNat, [], 0, 0, 0⟩)
/-- OpWrite. -/
def oWrite (L : List Nd) (P : Option (List ByteArray)) (i : Int) (z : List Int) : List Nd × Rv :=
  match fileAt L P with
  | .error e => (L, .bad e)
  | .ok k => if i < 0 ∨ 46368 < i + (z.length : Int) then (L, .bad 28) else (setD L k (wriB (nat L k).d i.toNat z), ⟨0, [], [], 0, 0, (z.length : Int)⟩)
/-- OpTrunc. -/
def oTrunc (L : List Nd) (P : Option (List ByteArray)) (n : Int) : List Nd × Rv :=
  match fileAt L P with
  | .error e => (L, .bad e)
  | .ok k => if n < 0 ∨ 46368 < n then (L, .bad 28) else (setD L k (fitB (nat L k).d n.toNat), .ok)
/-- OpStat, OpList, OpFsync (10, 11, 13). -/
def oAsk (L : List Nd) (o : Int) : Option (List ByteArray) → Rv
  | none => .bad 20
  | some ns =>
    match wlk L 0 ns with
    | .error e => .bad e
    | .ok k =>
      if o = 10 then ⟨0, [], [], (nat L k).k, (nat L k).l, (((nat L k).d.length + (nat L k).e.length : Nat) : Int)⟩ else
      if o = 11 then (if isD (nat L k) then ⟨0, [], (nat L k).e.map (·.s), 0, 0, 0⟩ else .bad 22) else .ok
/-- An operation on a right tree. -/
def oAny (L : List Nd) (o : Int) (P Q : Option (List ByteArray)) (i n : Int) (z : List Int) : List Nd × Rv :=
  if o = 1 then oNew L false P else if o = 2 then oNew L true P else if o = 3 then oLink L P Q else if o = 4 then oCut L false P else
  if o = 5 then oCut L true P else if o = 6 then oRen L P Q else if o = 7 then oRead L P i n else if o = 8 then oWrite L P i z else
  if o = 9 then oTrunc L P n else if o = 10 ∨ o = 11 ∨ o = 13 then (L, oAsk L o P) else if o = 12 then (L, .ok) else (L, .bad 30)

theorem lstN_snoc (p : List ByteArray) (x : ByteArray) : lstN (p ++ [x]) = x := by simp [lstN]
theorem toB_snoc (L : List Nd) (p : List ByteArray) (x : ByteArray) : toB L (p ++ [x]) = match wlk L 0 p with
  | .ok a => if isD (nat L a) then .ok (a, fnd (nat L a).e x) else .error 22
  | .error e => .error e := by rw [toB, List.dropLast_concat, lstN_snoc]
theorem toB_ok {L : List Nd} {ns : List ByteArray} {a : Nat} {o : Option Nat} (h : toB L ns = .ok (a, o)) : wlk L 0 ns.dropLast = .ok a ∧ isD (nat L a) = true ∧ o = fnd (nat L a).e (lstN ns) := by
  unfold toB at h
  cases hw : wlk L 0 ns.dropLast with
  | error e => rw [hw] at h; cases h
  | ok b =>
    rw [hw] at h
    simp only at h
    split at h
    · rename_i hd
      cases h
      exact ⟨rfl, hd, rfl⟩
    · cases h
/-- What is found, or that there is none. -/
def optW : Option Nat → Except Int Nat
  | some k => .ok k
  | none => .error 21
/-- What is found at names is found in the place to be. -/
theorem toB_wlk {L : List Nd} {ns : List ByteArray} {a : Nat} {o : Option Nat} (h : toB L ns = .ok (a, o)) (hn : ns ≠ []) : wlk L 0 ns = optW o := by
  obtain ⟨p, x, rfl⟩ := snoc_of_ne hn
  obtain ⟨h1, h2, h3⟩ := toB_ok h
  rw [List.dropLast_concat] at h1
  rw [lstN_snoc] at h3
  rw [wlk_app_ok h1]
  cases ho : o with
  | none => rw [wlk_none h2 (by rw [← h3]; exact ho)]; rfl
  | some k => rw [wlk_yes h2 (by rw [← h3]; exact ho)]; rfl
theorem wlk_toB {L : List Nd} {ns : List ByteArray} {k : Nat} (h : wlk L 0 ns = .ok k) (hn : ns ≠ []) : ∃ a, toB L ns = .ok (a, some k) := by
  obtain ⟨p, x, rfl⟩ := snoc_of_ne hn
  obtain ⟨a, h1, h2, h3⟩ := wlk_snoc_ok h
  refine ⟨a, ?_⟩
  rw [toB_snoc, h1]
  simp only [h2, h3, if_true]
theorem lst_mem {ns : List ByteArray} (h : ns ≠ []) : lstN ns ∈ ns := by
  obtain ⟨p, x, rfl⟩ := snoc_of_ne h
  rw [lstN_snoc]; simp
/-- Names of a path. -/
def NmsOk (P : Option (List ByteArray)) : Prop := ∀ ns, P = some ns → ∀ n ∈ ns, nmB n.data.toList = true
/-- What each operation keeps: the tree is right once numbered anew; with an error it is as it was, and nothing but the error is told. -/
def Keep (L : List Nd) (x : List Nd × Rv) : Prop := Snd x.1 ∧ (x.2.err ≠ 0 → x.1 = L ∧ x.2 = .bad x.2.err)
theorem Keep.same {L : List Nd} (h : Snd L) {r : Rv} (hr : r.err ≠ 0 → r = .bad r.err) : Keep L (L, r) := ⟨h, fun e => ⟨rfl, hr e⟩⟩
theorem Keep.bad {L : List Nd} (h : Snd L) (e : Int) : Keep L (L, .bad e) := Keep.same h fun _ => rfl
theorem Keep.ok {L M : List Nd} (h : Snd M) : Keep L (M, .ok) := ⟨h, fun e => absurd rfl e⟩
theorem Keep.okv {L M : List Nd} (h : Snd M) {r : Rv} (hr : r.err = 0) : Keep L (M, r) := ⟨h, fun e => absurd hr e⟩
theorem link_lt {L : List Nd} (h : Rgt L) {k : Nat} (hk : k < L.length) (hd : isD (nat L k) = false) : (up L k : Int) = (nat L k).l := by
  have := h.link k hk
  rw [lnk, hd, if_neg (by decide)] at this
  exact this
theorem new_keep {L : List Nd} (h : Rgt L) (dir : Bool) {P : Option (List ByteArray)} (hP : NmsOk P) : Keep L (oNew L dir P) := by
  unfold oNew
  split
  · exact .bad h.snd _
  · rename_i ns
    split
    · exact .bad h.snd _
    · rename_i hne
      split
      · exact .bad h.snd _
      · rename_i a o ht
        obtain ⟨h1, h2, h3⟩ := toB_ok ht
        have ha := h.snd.wlklt h1
        split
        · exact .bad h.snd _
        · rename_i ho
          split
          · exact .bad h.snd _
          · rename_i hm
            refine .ok ?_
            have hlt : L.length < 56 := by omega
            let x : Nd := ⟨if dir then 2 else 1, 0, [], []⟩
            obtain ⟨g1, g2, g3⟩ := h.snd.snoc hlt (x := x) (by cases dir; exact .inl ⟨rfl, rfl, by simp [x]⟩; exact .inr ⟨rfl, rfl⟩) rfl
            have hxl : (L ++ [x]).length = L.length + 1 := by simp
            have hna : nat (L ++ [x]) a = nat L a := by rw [nat_snoc, if_neg (by omega)]
            have hn := lst_mem hne
            have he := g1.put (a := a) (s := lstN ns) (k := L.length) (by omega) (by rw [hna]; exact h2) (hP ns rfl _ hn) h.pos (by omega)
              (by rw [hna]; exact Nat.lt_of_le_of_lt (len_cut_le _ _) (by omega)) (by
                rw [g2, g3]; split <;> omega)
            have e : Go.Proofs.YtinholnidchblaaGreatDoor.setE (L ++ [x]) a (eput (nat (L ++ [x]) a).e ⟨lstN ns, (L.length : Int)⟩) = putE L a (lstN ns) L.length ++ [x] := by
              rw [hna]
              unfold putE Go.Proofs.YtinholnidchblaaGreatDoor.setE
              rw [hna, List.set_append_left _ _ ha]
            rw [e] at he
            exact he
theorem link_keep {L : List Nd} (h : Rgt L) {P Q : Option (List ByteArray)} (hQ : NmsOk Q) : Keep L (oLink L P Q) := by
  unfold oLink
  split
  · rename_i ns ms
    split
    · exact .bad h.snd _
    · rename_i k hk
      split
      · exact .bad h.snd _
      · rename_i hd
        split
        · exact .bad h.snd _
        · rename_i hne
          split
          · exact .bad h.snd _
          · rename_i a o ht
            obtain ⟨h1, h2, h3⟩ := toB_ok ht
            have ha := h.snd.wlklt h1
            have hkl := h.snd.wlklt hk
            split
            · exact .bad h.snd _
            · split
              · exact .bad h.snd _
              · rename_i hl
                split
                · exact .bad h.snd _
                · rename_i hm
                  have hdf : isD (nat L k) = false := by simpa using hd
                  have hu := link_lt h hkl hdf
                  have hk0 : k ≠ 0 := by
                    rintro rfl
                    rw [h.root] at hdf; cases hdf
                  refine .ok (h.snd.put ha h2 (hQ ms rfl _ (lst_mem hne)) (by omega) hkl (Nat.lt_of_le_of_lt (len_cut_le _ _) (by omega)) ?_)
                  rw [hdf, if_neg (by decide)]
                  omega
  · exact .bad h.snd _
theorem cut_keep {L : List Nd} (h : Rgt L) (rm : Bool) {P : Option (List ByteArray)} : Keep L (oCut L rm P) := by
  unfold oCut
  split
  · exact .bad h.snd _
  · split
    · exact .bad h.snd _
    · split
      · exact .bad h.snd _
      · split
        · exact .bad h.snd _
        · split
          · exact .bad h.snd _
          · split
            · exact .bad h.snd _
            · rename_i a o ht
              obtain ⟨h1, h2, h3⟩ := toB_ok ht
              exact .ok (h.snd.cut (h.snd.wlklt h1) h2 _).1
/-- What is moved: its entry cut, then put. -/
theorem move_snd {L : List Nd} (h : Snd L) {a b k : Nat} {s t : ByteArray} (ha : a < L.length) (hb : b < L.length) (hda : isD (nat L a) = true) (hdb : isD (nat L b) = true) (hs : fnd (nat L a).e s = some k) (ht : nmB t.data.toList = true)
    (hl : b = a ∨ (ecut (nat L b).e t).length < 64) : Snd (putE (cutE L a s) b t k) := by
  obtain ⟨h1, h2⟩ := h.cut ha hda s
  have hk := h.ino ha k (fnd_ino hs)
  have h3 := up_cut h ha hs k
  rw [if_pos rfl] at h3
  have hn : nat (cutE L a s) b = if a = b then { nat L a with e := ecut (nat L a).e s } else nat L b := nat_setE ha _ b
  refine h1.put (by rw [setE_len]; exact hb) (by rw [isD_setE ha]; exact hdb) ht hk.1 (by rw [setE_len]; exact hk.2) ?_ ?_
  · have e : (nat (Go.Proofs.YtinholnidchblaaGreatDoor.setE L a (ecut (nat L a).e s)) b).e = if a = b then ecut (nat L a).e s else (nat L b).e := by
      rw [nat_setE ha]; split <;> rfl
    rw [e]
    split
    · have := len_cut (h.rp a) hs
      have := (h.dir ha hda).2.2.1
      have := len_cut_le (ecut (nat L a).e s) t
      omega
    · rename_i hne
      rcases hl with hl | hl
      · exact absurd hl.symm hne
      · exact hl
  · rw [isD_setE ha]
    split
    · rename_i hd
      have := h.one k (by omega) hk.2 hd
      omega
    · rename_i hd
      have := h.many k hk.2 (by simpa using hd)
      omega
theorem ren_keep {L : List Nd} (h : Rgt L) {P Q : Option (List ByteArray)} (hQ : NmsOk Q) : Keep L (oRen L P Q) := by
  unfold oRen
  split
  · rename_i ns ms
    split
    · exact .bad h.snd _
    · rename_i hne
      have hns : ns ≠ [] := fun e => hne (.inl e)
      have hms : ms ≠ [] := fun e => hne (.inr e)
      split
      · exact .bad h.snd _
      · rename_i k hk
        split
        · exact .bad h.snd _
        · split
          · exact .bad h.snd _
          · rename_i b o hb
            obtain ⟨b1, b2, b3⟩ := toB_ok hb
            split
            · exact .bad h.snd _
            · rename_i a o' ha
              obtain ⟨a1, a2, a3⟩ := toB_ok ha
              have hf : fnd (nat L a).e (lstN ns) = some k := by
                have := toB_wlk ha hns
                rw [hk] at this
                cases ho : o' with
                | none => rw [ho] at this; cases this
                | some j =>
                  rw [ho] at this
                  cases this
                  rw [← a3, ho]
              have hbl := h.snd.wlklt b1
              have hal := h.snd.wlklt a1
              have hnm := hQ ms rfl _ (lst_mem hms)
              split
              · split
                · exact .bad h.snd _
                · rename_i hm
                  refine .ok (move_snd h.snd hal hbl a2 b2 hf hnm ?_)
                  by_cases e : b = a
                  · exact .inl e
                  · exact .inr (Nat.lt_of_le_of_lt (len_cut_le _ _) (by
                      have : ¬ 64 ≤ (nat L b).e.length := fun h' => hm ⟨e, h'⟩
                      omega))
              · rename_i j
                split
                · exact .ok h.snd
                · split
                  · exact .bad h.snd _
                  · split
                    · exact .bad h.snd _
                    · split
                      · exact .bad h.snd _
                      · refine .ok (move_snd h.snd hal hbl a2 b2 hf hnm (.inr ?_))
                        have := len_cut (h.snd.rp b) b3.symm
                        have := (h.snd.dir hbl b2).2.2.1
                        omega
  · exact .bad h.snd _
theorem fileAt_ok {L : List Nd} {P : Option (List ByteArray)} {k : Nat} (h : fileAt L P = .ok k) : ∃ ns, P = some ns ∧ wlk L 0 ns = .ok k ∧ isD (nat L k) = false := by
  unfold fileAt at h
  split at h
  · cases h
  · split at h
    · cases h
    · split at h
      · cases h
      · rename_i hd
        cases h
        exact ⟨_, rfl, by assumption, by simpa using hd⟩
theorem read_keep {L : List Nd} (h : Rgt L) (P : Option (List ByteArray)) (i n : Int) : Keep L (oRead L P i n) := by
  unfold oRead
  split
  · exact .bad h.snd _
  · split
    · exact .bad h.snd _
    · exact .okv h.snd rfl
theorem write_right {L : List Nd} (h : Rgt L) {k : Nat} (hk : k < L.length) (hd : isD (nat L k) = false) {i : Int} {z : List Int} (h0 : ¬ (i < 0 ∨ 46368 < i + (z.length : Int))) : Rgt (setD L k (wriB (nat L k).d i.toNat z)) := by
  refine h.setD hk hd ?_
  have := (h.snd.file hk hd).2.2
  rw [wriB_len]
  split <;> omega
theorem write_keep {L : List Nd} (h : Rgt L) (P : Option (List ByteArray)) (i : Int) (z : List Int) : Keep L (oWrite L P i z) := by
  unfold oWrite
  split
  · exact .bad h.snd _
  · rename_i k hk
    obtain ⟨ns, _, hw, hd⟩ := fileAt_ok hk
    split
    · exact .bad h.snd _
    · rename_i h0
      exact .okv (write_right h (h.snd.wlklt hw) hd h0).snd rfl
theorem trunc_keep {L : List Nd} (h : Rgt L) (P : Option (List ByteArray)) (n : Int) : Keep L (oTrunc L P n) := by
  unfold oTrunc
  split
  · exact .bad h.snd _
  · rename_i k hk
    obtain ⟨ns, _, hw, hd⟩ := fileAt_ok hk
    split
    · exact .bad h.snd _
    · refine .ok (h.setD (h.snd.wlklt hw) hd ?_).snd
      rw [fitB_len]; omega
theorem ask_bad {L : List Nd} {o : Int} {P : Option (List ByteArray)} : (oAsk L o P).err ≠ 0 → oAsk L o P = .bad (oAsk L o P).err := by
  unfold oAsk
  split
  · exact fun _ => rfl
  · split
    · exact fun _ => rfl
    · split
      · exact fun e => absurd rfl e
      · split
        · split
          · exact fun e => absurd rfl e
          · exact fun _ => rfl
        · exact fun e => absurd rfl e
/-- Each operation keeps a tree right; with an error it is as it was. -/
theorem any_keep {L : List Nd} (h : Rgt L) (o : Int) {P Q : Option (List ByteArray)} (hP : NmsOk P) (hQ : NmsOk Q) (i n : Int) (z : List Int) : Keep L (oAny L o P Q i n z) := by
  unfold oAny
  repeat' split
  · exact new_keep h _ hP
  · exact new_keep h _ hP
  · exact link_keep h hQ
  · exact cut_keep h _
  · exact cut_keep h _
  · exact ren_keep h hQ
  · exact read_keep h _ _ _
  · exact write_keep h _ _ _
  · exact trunc_keep h _ _
  · exact .same h.snd ask_bad
  · exact .ok h.snd
  · exact .bad h.snd _
/-- What Do answers of a right tree. -/
def doO (L : List Nd) (o : Int) (P Q : Option (List ByteArray)) (i n : Int) (z : List Int) : List Nd × Rv := (num (oAny L o P Q i n z).1, (oAny L o P Q i n z).2)
theorem do_right {L : List Nd} (h : Rgt L) (o : Int) {P Q : Option (List ByteArray)} (hP : NmsOk P) (hQ : NmsOk Q) (i n : Int) (z : List Int) : Rgt (doO L o P Q i n z).1 := (any_keep h o hP hQ i n z).1.right
theorem do_bad {L : List Nd} (h : Rgt L) {o : Int} {P Q : Option (List ByteArray)} (hP : NmsOk P) (hQ : NmsOk Q) {i n : Int} {z : List Int} (e : (doO L o P Q i n z).2.err ≠ 0) : (doO L o P Q i n z).1 = L ∧ (doO L o P Q i n z).2 = .bad (doO L o P Q i n z).2.err := by
  obtain ⟨h1, h2⟩ := (any_keep h o hP hQ i n z).2 e
  exact ⟨by rw [doO, h1, h.num], h2⟩
end Go.Proofs.YtinholnidchblaaGreatDoor

/-
  Trees, plainly: what the laws without the document say: of reading, writing, cutting, links, what is undone, lists.
-/
namespace Go.Proofs.YtinholnidchblaaGreatDoor
set_option linter.unusedVariables false
set_option linter.unusedSimpArgs false

theorem wlk_same {L M : List Nd} (hd : ∀ j, isD (nat M j) = isD (nat L j)) (hf : ∀ j, (nat M j).e = (nat L j).e) (ns : List ByteArray) (a : Nat) : wlk M a ns = wlk L a ns :=
  wlk_off (B := fun _ _ => False) hd (fun j n _ => by rw [hf]) (fun _ _ _ _ _ _ h => h)
theorem wlk_setD {L : List Nd} {k : Nat} (h : k < L.length) (b : List Int) (ns : List ByteArray) (a : Nat) : wlk (setD L k b) a ns = wlk L a ns :=
  wlk_same (isD_setD h b) (fun j => (nat_setD_e h b j).1) ns a
theorem fileAt_setD {L : List Nd} {k : Nat} (h : k < L.length) (b : List Int) (P : Option (List ByteArray)) : fileAt (setD L k b) P = fileAt L P := by
  cases P with
  | none => rfl
  | some ns =>
    simp only [fileAt, wlk_setD h b]
    cases wlk L 0 ns with
    | error e => rfl
    | ok j => simp only [isD_setD h b]
theorem setD_at {L : List Nd} {k : Nat} (h : k < L.length) (b : List Int) : (nat (setD L k b) k).d = b := by rw [nat_setD h, if_pos rfl]
theorem fileAt_lt {L : List Nd} (h : Snd L) {P : Option (List ByteArray)} {k : Nat} (hk : fileAt L P = .ok k) : k < L.length ∧ isD (nat L k) = false := by
  obtain ⟨ns, _, hw, hd⟩ := fileAt_ok hk
  exact ⟨h.wlklt hw, hd⟩

/-- What two parts of a reading are. -/
theorem read_two (b : List Int) (i n m : Nat) : (b.drop i).take n ++ (b.drop (i + n)).take m = (b.drop i).take (n + m) := by
  rw [List.take_add, List.drop_drop]
theorem getD_fit (b : List Int) (n j : Nat) : (fitB b n).getD j 0 = if j < n then b.getD j 0 else 0 := by
  simp only [fitB, List.getD_eq_getElem?_getD, List.getElem?_append, List.length_take, List.getElem?_take, List.getElem?_replicate]
  by_cases h1 : j < n
  · by_cases h2 : j < b.length
    · rw [if_pos (by omega), if_pos h1, if_pos h1]
    · rw [if_neg (by omega), if_pos h1, if_pos (by omega), List.getElem?_eq_none (by omega)]; rfl
  · rw [if_neg (by omega), if_neg h1, if_neg (by omega)]; rfl
/-- What is in a file behind a writing. -/
theorem getD_wri (b : List Int) (i : Nat) (z : List Int) (j : Nat) : (wriB b i z).getD j 0 = if i ≤ j ∧ j - i < z.length then z.getD (j - i) 0 else b.getD j 0 := by
  unfold wriB
  split
  · rename_i h
    subst h
    rw [if_neg (by simp)]
  · have hl : ((fitB b (max b.length (i + z.length))).take i).length = i := by rw [List.length_take, fitB_len]; omega
    by_cases h1 : j < i
    · rw [if_neg (by omega), List.append_assoc, List.getD_eq_getElem?_getD, List.getElem?_append_left (by omega), List.getElem?_take, if_pos h1, ← List.getD_eq_getElem?_getD, getD_fit, if_pos (by omega)]
    · by_cases h2 : j - i < z.length
      · rw [if_pos ⟨by omega, h2⟩, List.append_assoc, List.getD_eq_getElem?_getD, List.getElem?_append_right (by omega), hl, List.getElem?_append_left h2, ← List.getD_eq_getElem?_getD]
      · rw [if_neg (by omega), List.getD_eq_getElem?_getD, List.getElem?_append_right (by rw [List.length_append, hl]; omega), List.length_append, hl, List.getElem?_drop, ← List.getD_eq_getElem?_getD, getD_fit]
        have e : i + z.length + (j - (i + z.length)) = j := by omega
        rw [e]
        split
        · rfl
        · rename_i h3
          rw [List.getD_eq_getElem?_getD, List.getElem?_eq_none (by omega)]; rfl
theorem wri_front {b z : List Int} : (wriB b 0 z).take z.length = z := by
  unfold wriB
  split
  · rename_i h; rw [h]; rfl
  · simp
/-- Cut, then made longer. -/
theorem getD_fit2 (b : List Int) {n m : Nat} (h : n ≤ m) (j : Nat) : (fitB (fitB b n) m).getD j 0 = if j < n then b.getD j 0 else 0 := by
  rw [getD_fit, getD_fit]
  split
  · rfl
  · rw [if_neg (by omega)]

/-- Writing, and reading behind it. -/
theorem write_ok {L : List Nd} (h : Rgt L) {P : Option (List ByteArray)} {i : Int} {z : List Int} {k : Nat} (hk : fileAt L P = .ok k) (h0 : ¬ (i < 0 ∨ 46368 < i + (z.length : Int))) :
    doO L 8 P none i 0 z = (setD L k (wriB (nat L k).d i.toNat z), ⟨0, [], [], 0, 0, (z.length : Int)⟩) := by
  obtain ⟨h1, h2⟩ := fileAt_lt h.snd hk
  have e : oAny L 8 P none i 0 z = (setD L k (wriB (nat L k).d i.toNat z), ⟨0, [], [], 0, 0, (z.length : Int)⟩) := by
    show oWrite L P i z = _
    simp only [oWrite, hk]
    rw [if_neg h0]
  simp only [doO, e, (write_right h h1 h2 h0).num]
theorem trunc_ok {L : List Nd} (h : Rgt L) {P : Option (List ByteArray)} {n : Int} {k : Nat} (hk : fileAt L P = .ok k) (h0 : ¬ (n < 0 ∨ 46368 < n)) :
    doO L 9 P none 0 n [] = (setD L k (fitB (nat L k).d n.toNat), .ok) ∧ Rgt (setD L k (fitB (nat L k).d n.toNat)) := by
  obtain ⟨h1, h2⟩ := fileAt_lt h.snd hk
  have hr : Rgt (setD L k (fitB (nat L k).d n.toNat)) := h.setD h1 h2 (by rw [fitB_len]; omega)
  have e : oAny L 9 P none 0 n [] = (setD L k (fitB (nat L k).d n.toNat), .ok) := by
    show oTrunc L P n = _
    simp only [oTrunc, hk]
    rw [if_neg h0]
  exact ⟨by simp only [doO, e, hr.num], hr⟩

/-- With an entry more, where there was none, each walk goes as it did. -/
theorem nat_putE {L : List Nd} {a : Nat} (h : a < L.length) (s : ByteArray) (k j : Nat) : nat (putE L a s k) j = if a = j then { nat L a with e := eput (nat L a).e ⟨s, (k : Int)⟩ } else nat L j := nat_setE h _ j
theorem nat_cutE {L : List Nd} {a : Nat} (h : a < L.length) (s : ByteArray) (j : Nat) : nat (cutE L a s) j = if a = j then { nat L a with e := ecut (nat L a).e s } else nat L j := nat_setE h _ j
theorem isD_putE {L : List Nd} {a : Nat} (h : a < L.length) (s : ByteArray) (k j : Nat) : isD (nat (putE L a s k) j) = isD (nat L j) := isD_setE h _ j
theorem isD_cutE {L : List Nd} {a : Nat} (h : a < L.length) (s : ByteArray) (j : Nat) : isD (nat (cutE L a s) j) = isD (nat L j) := isD_setE h _ j
theorem putE_len (L : List Nd) (a : Nat) (s : ByteArray) (k : Nat) : (putE L a s k).length = L.length := setE_len _ _ _
theorem cutE_len (L : List Nd) (a : Nat) (s : ByteArray) : (cutE L a s).length = L.length := setE_len _ _ _
theorem fnd_putE {L : List Nd} (hr : ∀ a, Rp (nat L a).e) {a : Nat} (h : a < L.length) (s : ByteArray) (k j : Nat) (n : ByteArray) : fnd (nat (putE L a s k) j).e n = if a = j ∧ n = s then some k else fnd (nat L j).e n := by
  rw [nat_putE h]
  by_cases e : a = j
  · subst e
    rw [if_pos rfl]
    simp only
    rw [fnd_put (hr a)]
    simp only [inoN, Int.toNat_natCast, true_and]
  · rw [if_neg e, if_neg (fun h' => e h'.1)]
theorem fnd_cutE {L : List Nd} (hr : ∀ a, Rp (nat L a).e) {a : Nat} (h : a < L.length) (s : ByteArray) (j : Nat) (n : ByteArray) : fnd (nat (cutE L a s) j).e n = if a = j ∧ n = s then none else fnd (nat L j).e n := by
  rw [nat_cutE h]
  by_cases e : a = j
  · subst e
    rw [if_pos rfl]
    simp only
    rw [fnd_cut (hr a)]
    simp only [true_and]
  · rw [if_neg e, if_neg (fun h' => e h'.1)]
/-- A walk that ends doesn't use an entry that there isn't. -/
theorem wlk_uses {L : List Nd} {a b j : Nat} {p q : List ByteArray} {n : ByteArray} (h : wlk L a (p ++ n :: q) = .ok b) (hp : wlk L a p = .ok j) : isD (nat L j) = true ∧ ∃ k, fnd (nat L j).e n = some k ∧ wlk L k q = .ok b := by
  rw [wlk_app_ok hp] at h
  exact wlk_cons_ok h
theorem wlk_putE {L : List Nd} (hr : ∀ a, Rp (nat L a).e) {a : Nat} (h : a < L.length) {s : ByteArray} (hs : fnd (nat L a).e s = none) (k : Nat) {ns : List ByteArray} {b : Nat} (hw : wlk L 0 ns = .ok b) : wlk (putE L a s k) 0 ns = .ok b := by
  rw [← hw]
  refine wlk_off (B := fun j n => a = j ∧ n = s) (isD_putE h s k) (fun j n hB => by rw [fnd_putE hr h, if_neg hB]) ?_
  rintro p n q j rfl hp ⟨rfl, rfl⟩
  obtain ⟨_, i, hi, _⟩ := wlk_uses hw hp
  rw [hs] at hi; cases hi
theorem wlk_snoc {L : List Nd} {p : List ByteArray} {a : Nat} {s : ByteArray} {k : Nat} (hp : wlk L 0 p = .ok a) (hd : isD (nat L a) = true) (hf : fnd (nat L a).e s = some k) : wlk L 0 (p ++ [s]) = .ok k := by
  rw [wlk_app_ok hp, wlk_yes hd hf]; rfl
/-- Where all are met, the entries that tell a place are as many. -/
theorem Snd.up_all {L : List Nd} (h : Snd L) (ha : ∀ y, y < L.length → y ∉ met (chs L) → chs L y = []) {x : Nat} (hx : x ∈ met (chs L)) : up (numR L) (plc (chs L) x) = up L x := by
  rw [h.up_num hx, up]
  have hp : List.Perm (met (chs L) ++ (List.range L.length).filter fun y => !((met (chs L)).contains y)) (List.range L.length) := by
    rw [List.perm_ext_iff_of_nodup]
    · intro a
      rw [List.mem_append, List.mem_filter, List.mem_range]
      constructor
      · rintro (k | k)
        · exact h.metlt a k
        · exact k.1
      · intro ha
        by_cases hm : a ∈ met (chs L)
        · exact .inl hm
        · exact .inr ⟨ha, by simpa using hm⟩
    · rw [List.nodup_append]
      refine ⟨met_nodup _, List.Pairwise.filter _ List.nodup_range, fun x hx y hy => ?_⟩
      rintro rfl
      have := (List.mem_filter.1 hy).2
      simp [hx] at this
    · exact List.nodup_range
  have h1 := (hp.map fun a => (chs L a).count x).sum_nat
  rw [List.map_append, List.sum_append] at h1
  have h2 : ((List.range L.length).filter fun y => !((met (chs L)).contains y)).map (fun a => (chs L a).count x) = ((List.range L.length).filter fun y => !((met (chs L)).contains y)).map fun _ => 0 := by
    refine List.map_congr_left fun y hy => ?_
    have := List.mem_filter.1 hy
    rw [ha y (List.mem_range.1 this.1) (by simpa using this.2)]
    rfl
  rw [h2] at h1
  simp only [List.map_const', List.sum_replicate_nat, Nat.mul_zero, Nat.add_zero] at h1
  exact h1
/-- What is told of a node once it is numbered anew. -/
theorem Snd.nat_num {L : List Nd} (h : Snd L) {x : Nat} (hx : x ∈ met (chs L)) : nat (num L) (plc (chs L) x) = { ren (plc (chs L)) (nat L x) with l := lnk (numR L) (plc (chs L) x) } := by
  rw [num, nat_fixL (by rw [numR_len]; exact plc_lt hx), nat_numR hx]
theorem Snd.file_num {L : List Nd} (h : Snd L) {x : Nat} (hx : x ∈ met (chs L)) (hd : isD (nat L x) = false) : (nat (num L) (plc (chs L) x)).l = (up (numR L) (plc (chs L) x) : Int) := by
  rw [h.nat_num hx]
  simp only [lnk]
  rw [nat_numR hx, isD_ren, hd, if_neg (by decide)]
theorem Snd.dir_num {L : List Nd} (h : Snd L) {x : Nat} (hx : x ∈ met (chs L)) (hd : isD (nat L x) = true) : (nat (num L) (plc (chs L) x)).l = 2 + ((chs L x).countP fun j => isD (nat L j) : Nat) := by
  rw [h.nat_num hx]
  simp only [lnk]
  rw [nat_numR hx, isD_ren, hd, if_pos rfl, inos_ren, List.countP_map]
  congr 2
  refine List.countP_congr fun j hj => ?_
  simp only [Function.comp]
  rw [nat_numR (h.closed x hx j hj), isD_ren]
/-- A further name of a file. -/
theorem link_ok {L : List Nd} (h : Rgt L) {ns ms : List ByteArray} {k a : Nat} (hk : wlk L 0 ns = .ok k) (hd : isD (nat L k) = false) (hms : ms ≠ []) (ht : toB L ms = .ok (a, none)) (hM : Snd (putE L a (lstN ms) k)) :
    wlk (num (putE L a (lstN ms) k)) 0 ns = .ok (plc (chs (putE L a (lstN ms) k)) k) ∧ wlk (num (putE L a (lstN ms) k)) 0 ms = .ok (plc (chs (putE L a (lstN ms) k)) k) ∧
    isD (nat (num (putE L a (lstN ms) k)) (plc (chs (putE L a (lstN ms) k)) k)) = false ∧ (nat (num (putE L a (lstN ms) k)) (plc (chs (putE L a (lstN ms) k)) k)).l = (nat L k).l + 1 := by
  obtain ⟨h1, h2, h3⟩ := toB_ok ht
  have ha := h.snd.wlklt h1
  have hkl := h.snd.wlklt hk
  have hn := wlk_putE h.snd.rp ha h3.symm k hk
  have hm : wlk (putE L a (lstN ms) k) 0 ms = .ok k := by
    obtain ⟨p, x, rfl⟩ := snoc_of_ne hms
    rw [lstN_snoc] at h3 ⊢
    rw [List.dropLast_concat] at h1
    have h4 := wlk_putE h.snd.rp ha h3.symm k h1
    exact wlk_snoc h4 (by rw [isD_putE ha]; exact h2) (by rw [fnd_putE h.snd.rp ha, if_pos ⟨rfl, rfl⟩])
  have hx := hM.wlk_met hn
  have hall : ∀ y, y < (putE L a (lstN ms) k).length → y ∈ met (chs (putE L a (lstN ms) k)) := fun y hy => by
    rw [putE_len] at hy
    have h5 : y ∈ met (chs L) := by rw [h.met]; exact List.mem_range.2 hy
    refine met_in (ch := chs L) (S := (· ∈ met (chs (putE L a (lstN ms) k)))) (fun x hx j hj => hM.closed x hx j ?_) (met_zero _) y h5
    obtain ⟨e, he, rfl⟩ := List.mem_map.1 hj
    have h6 : (nat (putE L a (lstN ms) k) x).e = if a = x then eput (nat L a).e ⟨lstN ms, (k : Int)⟩ else (nat L x).e := by
      rw [nat_putE ha]; split <;> rfl
    refine List.mem_map.2 ⟨e, ?_, rfl⟩
    rw [h6]
    split
    · rename_i e1
      subst e1
      exact (mem_put2 (h.snd.rp a) _ _).2 (.inr ⟨he, (fnd_none (h.snd.rp a)).1 h3.symm e he⟩)
    · exact he
  have hdk : isD (nat (putE L a (lstN ms) k) k) = false := by rw [isD_putE ha]; exact hd
  refine ⟨by rw [hM.wlk_num, hn]; rfl, by rw [hM.wlk_num, hm]; rfl, ?_, ?_⟩
  · rw [hM.iso.isD hx]; exact hdk
  · rw [hM.file_num hx hdk, hM.up_all (fun y hy hn => absurd (hall y hy) hn) hx, ← link_lt h hkl hd]
    have h7 := up_setE ha (eput (nat L a).e ⟨lstN ms, (k : Int)⟩) k
    have h8 : ((eput (nat L a).e ⟨lstN ms, (k : Int)⟩).map inoN).count k = ((ecut (nat L a).e (lstN ms)).map inoN).count k + if inoN ⟨lstN ms, (k : Int)⟩ = k then 1 else 0 := count_put (h.snd.rp a) ⟨lstN ms, (k : Int)⟩ k
    have h9 : ecut (nat L a).e (lstN ms) = (nat L a).e := ecut_none ((fnd_none (h.snd.rp a)).1 h3.symm)
    have h4 : inoN ⟨lstN ms, (k : Int)⟩ = k := by simp [inoN]
    rw [h9, h4, if_pos rfl] at h8
    have h10 : up (putE L a (lstN ms) k) k = up L k + 1 := by
      show up (setE L a _) k = _
      omega
    rw [h10]; omega
end Go.Proofs.YtinholnidchblaaGreatDoor

/-
  Trees, plainly: what is made and taken away again, what is listed, and what is moved.
-/
namespace Go.Proofs.YtinholnidchblaaGreatDoor
set_option linter.unusedVariables false
set_option linter.unusedSimpArgs false

theorem ecut_map (f : Nat → Nat) (E : List En) (s : ByteArray) : ecut (E.map (setI f)) s = (ecut E s).map (setI f) := by
  unfold ecut
  rw [List.filter_map]
  rfl
/-- An entry cut, by other numbers too. -/
theorem Iso.cut {L M : List Nd} {f : Nat → Nat} {S : Nat → Prop} (h : Iso L M f S) {a : Nat} (ha : S a) (hl : a < L.length) (hm : f a < M.length) (s : ByteArray) : Iso (cutE L a s) (cutE M (f a) s) f S := by
  refine ⟨h.z, h.f0, fun x hx k hk => ?_, h.inj, fun x hx => ?_⟩
  · have e : Go.Proofs.YtinholnidchblaaGreatDoor.chs (cutE L a s) x = if a = x then (ecut (nat L a).e s).map inoN else Go.Proofs.YtinholnidchblaaGreatDoor.chs L x := chs_setE hl _ x
    rw [e] at hk
    split at hk
    · rename_i e
      subst e
      obtain ⟨y, hy, rfl⟩ := List.mem_map.1 hk
      exact h.cl a hx _ (List.mem_map.2 ⟨y, (mem_cut.1 hy).1, rfl⟩)
    · exact h.cl x hx k hk
  · rw [nat_cutE hl, nat_cutE hm]
    by_cases e : a = x
    · subst e
      rw [if_pos rfl, if_pos rfl]
      have h0 := h.node a hx
      simp only [ren, Nd.mk.injEq] at h0 ⊢
      refine ⟨h0.1, trivial, h0.2.2.1, ?_⟩
      rw [← ecut_map, ← ecut_map, h0.2.2.2]
    · rw [if_neg e, if_neg (fun e' => e (h.inj a x ha hx e'))]
      exact h.node x hx
theorem set_self {L : List Nd} {a : Nat} (h : a < L.length) : L.set a (nat L a) = L := by
  rw [nat_get h]; exact List.set_getElem_self h
theorem cut_putE {L : List Nd} {a : Nat} (hr : Rp (nat L a).e) (h : a < L.length) {s : ByteArray} (hs : ∀ x ∈ (nat L a).e, x.s ≠ s) (k : Nat) : cutE (putE L a s k) a s = L := by
  unfold cutE setE
  rw [nat_putE h, if_pos rfl]
  simp only
  have e : ecut (eput (nat L a).e ⟨s, (k : Int)⟩) s = (nat L a).e := by
    have := cut_put (nat L a).e ⟨s, (k : Int)⟩
    simp only at this
    rw [this]; exact ecut_none hs
  rw [e]
  unfold putE setE
  rw [List.set_set]
  exact set_self h
theorem Rgt.snoc {L : List Nd} (h : Rgt L) (x : Nd) : Go.Proofs.YtinholnidchblaaGreatDoor.num (L ++ [x]) = L := by
  have hi : Iso L (L ++ [x]) id (· < L.length) := ⟨by have := h.pos; omega, rfl, fun y hy k hk => h.snd.lt y hy k hk, fun y z _ _ e => e, fun y hy => by
    simp only [id]
    rw [nat_snoc, if_neg (by omega)]⟩
  rw [hi.num, h.num]
/-- What cuts a new entry of what is numbered anew. -/
theorem undo {M : List Nd} (h : Snd M) {ns : List ByteArray} (hn : ns ≠ []) {k a : Nat} (hk : wlk M 0 ns = .ok k) (ha : toB M ns = .ok (a, some k)) {rm : Bool} (hd : isD (nat M k) = rm) (he : (nat M k).e = []) :
    oCut (num M) rm (some ns) = (cutE (num M) (plc (chs M) a) (lstN ns), .ok) ∧ num (cutE (num M) (plc (chs M) a) (lstN ns)) = num (cutE M a (lstN ns)) := by
  obtain ⟨a1, a2, a3⟩ := toB_ok ha
  have hkm := h.wlk_met hk
  have ham := h.wlk_met a1
  have hw : wlk (num M) 0 ns = .ok (plc (chs M) k) := by rw [h.wlk_num, hk]; rfl
  have hw' : wlk (num M) 0 ns.dropLast = .ok (plc (chs M) a) := by rw [h.wlk_num, a1]; rfl
  have hd' : isD (nat (num M) (plc (chs M) k)) = rm := by rw [h.iso.isD hkm]; exact hd
  have hda : isD (nat (num M) (plc (chs M) a)) = true := by rw [h.iso.isD ham]; exact a2
  have he' : (nat (num M) (plc (chs M) k)).e = [] := by
    rw [h.nat_num hkm]
    show (nat M k).e.map _ = []
    rw [he]; rfl
  have hk0 := (h.ino (h.wlklt a1) k (fnd_ino a3.symm)).1
  have hp := plc_pos hkm (by omega)
  refine ⟨?_, ?_⟩
  · simp only [oCut, hw, hd']
    rw [if_neg (by cases rm <;> simp), if_neg (by cases rm <;> simp), if_neg (by rw [he']; rintro ⟨_, h1 | h1⟩; omega; exact h1 rfl)]
    simp only [toB, hw', hda, if_true]
  · exact (h.iso.cut ham (h.wlklt a1) (by rw [num, fixL_len, numR_len]; exact plc_lt ham) _).num
theorem new_found {L : List Nd} (h : Rgt L) {ns : List ByteArray} (hn : ns ≠ []) {a : Nat} (ht : toB L ns = .ok (a, none)) (x : Nd) :
    wlk (putE L a (lstN ns) L.length ++ [x]) 0 ns = .ok L.length ∧ toB (putE L a (lstN ns) L.length ++ [x]) ns = .ok (a, some L.length) ∧ nat (putE L a (lstN ns) L.length ++ [x]) L.length = x ∧ num (cutE (putE L a (lstN ns) L.length ++ [x]) a (lstN ns)) = L := by
  obtain ⟨h1, h2, h3⟩ := toB_ok ht
  have ha := h.snd.wlklt h1
  have hno := (fnd_none (h.snd.rp a)).1 h3.symm
  have hw := wlk_putE h.snd.rp ha h3.symm L.length h1
  have hall : ∀ (ps : List ByteArray) (b c : Nat), wlk (putE L a (lstN ns) L.length) b ps = .ok c → b < L.length → isD (nat L c) = true → wlk (putE L a (lstN ns) L.length ++ [x]) b ps = .ok c := by
    intro ps
    induction ps with
    | nil => intro b c hb _ _; exact hb
    | cons n ps ih =>
      intro b c hb hlt hdc
      obtain ⟨hd, k, hf, hk⟩ := wlk_cons_ok hb
      have hb' : nat (putE L a (lstN ns) L.length ++ [x]) b = nat (putE L a (lstN ns) L.length) b := by rw [nat_snoc, putE_len, if_neg (by omega)]
      rw [wlk_yes (by rw [hb']; exact hd) (by rw [hb']; exact hf)]
      refine ih k c hk ?_ hdc
      by_cases e : k < L.length
      · exact e
      · exfalso
        have ho : isD (nat (putE L a (lstN ns) L.length) k) = false := by rw [nat_out (by rw [putE_len]; omega)]; rfl
        cases ps with
        | nil =>
          cases hk
          rw [isD_putE ha] at ho
          rw [ho] at hdc; cases hdc
        | cons m r =>
          have := (wlk_cons_ok hk).1
          rw [ho] at this; cases this
  have hwa := hall _ _ _ hw (by have := h.pos; omega) h2
  have hna : nat (putE L a (lstN ns) L.length ++ [x]) a = nat (putE L a (lstN ns) L.length) a := by rw [nat_snoc, putE_len, if_neg (by omega)]
  have hda : isD (nat (putE L a (lstN ns) L.length ++ [x]) a) = true := by rw [hna, isD_putE ha]; exact h2
  have hfa : fnd (nat (putE L a (lstN ns) L.length ++ [x]) a).e (lstN ns) = some L.length := by rw [hna, fnd_putE h.snd.rp ha, if_pos ⟨rfl, rfl⟩]
  refine ⟨?_, ?_, by rw [nat_snoc, putE_len, if_pos rfl], ?_⟩
  · obtain ⟨p, y, rfl⟩ := snoc_of_ne hn
    rw [lstN_snoc] at *
    rw [List.dropLast_concat] at hwa
    exact wlk_snoc hwa hda hfa
  · simp only [toB, hwa, hda, hfa, if_true]
  · have e : cutE (putE L a (lstN ns) L.length ++ [x]) a (lstN ns) = cutE (putE L a (lstN ns) L.length) a (lstN ns) ++ [x] := by
      unfold cutE setE
      rw [hna, List.set_append_left _ _ (by rw [putE_len]; exact ha)]
    rw [e, cut_putE (h.snd.rp a) ha hno]
    exact h.snoc x
/-- What is listed is what is found. -/
theorem list_iff {L : List Nd} (h : Snd L) {ns : List ByteArray} {k : Nat} (hk : wlk L 0 ns = .ok k) (hd : isD (nat L k) = true) (n : ByteArray) : n ∈ (nat L k).e.map (·.s) ↔ ∃ j, wlk L 0 (ns ++ [n]) = .ok j := by
  rw [List.mem_map]
  constructor
  · rintro ⟨x, hx, rfl⟩
    exact ⟨_, wlk_snoc hk hd ((fnd_iff (h.rp k)).2 ⟨x, hx, rfl, rfl⟩)⟩
  · rintro ⟨j, hj⟩
    obtain ⟨c, hc, _, hf⟩ := wlk_snoc_ok hj
    rw [hk] at hc
    cases hc
    obtain ⟨x, hx, e, _⟩ := (fnd_iff (h.rp k)).1 hf
    exact ⟨x, hx, e⟩

/-- What a rename that is done leaves. -/
theorem ren_ok {L : List Nd} (h : Rgt L) {ns ms : List ByteArray} (hns : ns ≠ []) (hms : ms ≠ []) {k a b : Nat} {o : Option Nat} (hl : ¬ (isD (nat L k) = true ∧ ms ≠ ns ∧ witN ms ns = true))
    (ha : toB L ns = .ok (a, some k)) (hb : toB L ms = .ok (b, o)) (ho : ∀ j, o = some j → j ≠ k ∧ (nat L j).e = []) {M : List Nd} (hM : M = putE (cutE L a (lstN ns)) b (lstN ms) k) (hS : Snd M) :
    wlk M 0 ms = .ok k ∧ wlk M 0 ns = .error 21 ∧ nat M k = nat L k ∧ (nat (num M) (plc (chs M) k)).l = (nat L k).l := by
  obtain ⟨a1, a2, a3⟩ := toB_ok ha
  obtain ⟨b1, b2, b3⟩ := toB_ok hb
  obtain ⟨p, s, rfl⟩ := snoc_of_ne hns
  obtain ⟨q, t, rfl⟩ := snoc_of_ne hms
  rw [lstN_snoc] at a3 b3 hM
  rw [lstN_snoc] at hM
  rw [List.dropLast_concat] at a1 b1
  have hal := h.snd.wlklt a1
  have hbl := h.snd.wlklt b1
  have hc : Snd (cutE L a s) := (h.snd.cut hal a2 s).1
  have hcl : (cutE L a s).length = L.length := cutE_len _ _ _
  have hbl' : b < (cutE L a s).length := by omega
  have fM : ∀ j n, fnd (nat M j).e n = if b = j ∧ n = t then some k else if a = j ∧ n = s then none else fnd (nat L j).e n := fun j n => by
    rw [hM, fnd_putE (fun x => hc.rp x) hbl', fnd_cutE h.snd.rp hal]
  have dM : ∀ j, isD (nat M j) = isD (nat L j) := fun j => by rw [hM, isD_putE hbl', isD_cutE hal]
  have hpk : wlk L 0 (p ++ [s]) = .ok k := wlk_snoc a1 a2 a3.symm
  have hnone : ∀ {j : Nat} {n : ByteArray} {i : Nat}, (nat L j).e = [] → fnd (nat L j).e n = some i → False := fun he hf => by
    rw [he] at hf
    have := fnd_mem hf
    cases this
  have U1 : wlk M 0 p = .ok a := by
    rw [← a1]
    refine wlk_off (B := fun j n => a = j ∧ n = s ∨ b = j ∧ n = t) dM (fun j n hB => by rw [fM, if_neg (fun e => hB (.inr e)), if_neg (fun e => hB (.inl e))]) ?_
    rintro p1 n p2 j e hw (⟨rfl, rfl⟩ | ⟨rfl, rfl⟩)
    · have := h.snd.path _ rfl hw a1 a2
      rw [this] at e
      have := congrArg List.length e
      simp at this
    · rw [e] at a1
      obtain ⟨_, i, hi, hr⟩ := wlk_uses a1 hw
      have he := (ho i (by rw [b3]; exact hi)).2
      cases p2 with
      | nil => cases hr; exact hnone he a3.symm
      | cons m r =>
        obtain ⟨_, i', hi', _⟩ := wlk_cons_ok hr
        exact hnone he hi'
  have U2 : wlk M 0 q = .ok b := by
    rw [← b1]
    refine wlk_off (B := fun j n => a = j ∧ n = s ∨ b = j ∧ n = t) dM (fun j n hB => by rw [fM, if_neg (fun e => hB (.inr e)), if_neg (fun e => hB (.inl e))]) ?_
    rintro q1 n q2 j e hw (⟨rfl, rfl⟩ | ⟨rfl, rfl⟩)
    · have e1 := h.snd.path _ rfl hw a1 a2
      subst e1
      have b1' := b1
      rw [e] at b1'
      obtain ⟨_, i, hi, hr⟩ := wlk_uses b1' hw
      rw [← a3] at hi
      cases hi
      cases hdk : isD (nat L k) with
      | true =>
        refine hl ⟨hdk, ?_, ?_⟩
        · intro e2
          have := congrArg List.length e2
          rw [e] at this
          simp at this
        · rw [e]
          simp only [witN, Bool.and_eq_true, decide_eq_true_eq]
          refine ⟨by simp, ?_⟩
          have : q1 ++ n :: q2 ++ [t] = (q1 ++ [n]) ++ (q2 ++ [t]) := by simp
          rw [this, List.take_left]
      | false =>
        cases q2 with
        | nil => cases hr; rw [hdk] at b2; cases b2
        | cons m r =>
          have := (wlk_cons_ok hr).1
          rw [hdk] at this; cases this
    · have e1 := h.snd.path _ rfl hw b1 b2
      rw [e1] at e
      have := congrArg List.length e
      simp at this
  have hmk : wlk M 0 (q ++ [t]) = .ok k := wlk_snoc U2 (by rw [dM]; exact b2) (by rw [fM, if_pos ⟨rfl, rfl⟩])
  have hnt : ¬ (b = a ∧ s = t) := by
    rintro ⟨rfl, rfl⟩
    rw [← a3] at b3
    exact (ho k b3).1 rfl
  have hnn : wlk M 0 (p ++ [s]) = .error 21 := by
    rw [wlk_app_ok U1, wlk_none (by rw [dM]; exact a2) (by rw [fM, if_neg hnt, if_pos ⟨rfl, rfl⟩])]
  have hak : a ≠ k := by
    rintro rfl
    have := congrArg List.length (h.snd.path _ rfl a1 hpk a2)
    simp at this
  have hbk : b ≠ k := by
    rintro rfl
    have e := h.snd.path _ rfl b1 hpk b2
    refine hl ⟨b2, ?_, ?_⟩
    · intro e2
      rw [e] at e2
      have := congrArg List.length e2
      simp at this
    · rw [e]
      simp only [witN, Bool.and_eq_true, decide_eq_true_eq]
      exact ⟨by simp, by rw [List.take_left]⟩
  have hnk : nat M k = nat L k := by rw [hM, nat_putE hbl', if_neg hbk, nat_cutE hal, if_neg hak]
  refine ⟨hmk, hnn, hnk, ?_⟩
  have hkm := hS.wlk_met hmk
  have hkl := h.snd.wlklt hpk
  cases hdk : isD (nat L k) with
  | true =>
    rw [hS.dir_num hkm (by rw [dM]; exact hdk), ← h.link k hkl, lnk, hdk, if_pos rfl]
    have e : chs M k = inos (nat L k) := by simp only [chs]; rw [hnk]
    rw [e]
    congr 2
    exact List.countP_congr fun j _ => by rw [dM]
  | false =>
    have hall : ∀ y, y < M.length → y ∉ met (chs M) → chs M y = [] := fun y hy hny => by
      have hyl : y < L.length := by rw [hM, putE_len, hcl] at hy; exact hy
      have h5 : y ∈ met (chs L) := by rw [h.met]; exact List.mem_range.2 hyl
      have h6 : y ∈ met (chs M) ∨ o = some y := by
        refine met_in (ch := chs L) (S := fun x => x ∈ met (chs M) ∨ o = some x) (fun x hx i hi => ?_) (.inl (met_zero _)) y h5
        obtain ⟨e, he, rfl⟩ := List.mem_map.1 hi
        have hfe := (fnd_iff (h.snd.rp x)).2 ⟨e, he, rfl, rfl⟩
        rcases hx with hx | hx
        · by_cases e1 : b = x ∧ e.s = t
          · right
            rw [b3, e1.1, ← e1.2]; exact hfe
          · left
            by_cases e2 : a = x ∧ e.s = s
            · rw [← e2.1, e2.2, ← a3] at hfe
              rw [← Option.some.inj hfe]; exact hkm
            · refine hS.closed x hx _ (fnd_ino (n := e.s) ?_)
              rw [fM, if_neg e1, if_neg e2]; exact hfe
        · exact (hnone (ho x hx).2 hfe).elim
      rcases h6 with h6 | h6
      · exact absurd h6 hny
      · have he := (ho y h6).2
        have hya : a ≠ y := by
          rintro rfl
          exact hnone he a3.symm
        have hyb : b ≠ y := by
          rintro rfl
          rw [b3] at h6
          exact hnone he h6
        have : nat M y = nat L y := by rw [hM, nat_putE hbl', if_neg hyb, nat_cutE hal, if_neg hya]
        simp only [chs]
        rw [this, inos, he]; rfl
    rw [hS.file_num hkm (by rw [dM]; exact hdk), hS.up_all hall hkm, ← link_lt h hkl hdk]
    have h7 : up L k = up (cutE L a s) k + if k = k then 1 else 0 := up_cut h.snd hal a3.symm k
    rw [if_pos rfl] at h7
    have h8 : up M k + ((nat (cutE L a s) b).e.map inoN).count k = up (cutE L a s) k + ((eput (nat (cutE L a s) b).e ⟨t, (k : Int)⟩).map inoN).count k := by
      rw [hM]; exact up_setE hbl' _ k
    have h9 : ((eput (nat (cutE L a s) b).e ⟨t, (k : Int)⟩).map inoN).count k = ((ecut (nat (cutE L a s) b).e t).map inoN).count k + if inoN ⟨t, (k : Int)⟩ = k then 1 else 0 := count_put (hc.rp b) ⟨t, (k : Int)⟩ k
    have h4 : inoN ⟨t, (k : Int)⟩ = k := by simp [inoN]
    rw [h4, if_pos rfl] at h9
    have h10 : ((ecut (nat (cutE L a s) b).e t).map inoN).count k = ((nat (cutE L a s) b).e.map inoN).count k := by
      cases hf : fnd (nat (cutE L a s) b).e t with
      | none => rw [ecut_none ((fnd_none (hc.rp b)).1 hf)]
      | some j =>
        have h11 := count_cut (hc.rp b) hf k
        have hjk : j ≠ k := by
          rw [fnd_cutE h.snd.rp hal] at hf
          split at hf
          · cases hf
          · exact (ho j (by rw [b3]; exact hf)).1
        rw [if_neg hjk] at h11
        exact h11.symm
    omega
end Go.Proofs.YtinholnidchblaaGreatDoor

/-
  Trees, plainly: Right as it is looked for, node by node; with other numbers told by a counter.
-/
namespace Go.Proofs.YtinholnidchblaaGreatDoor
set_option linter.unusedVariables false
set_option linter.unusedSimpArgs false

/-- May it be an entry among n nodes? -/
def entB (n : Nat) (y : En) : Bool := nmB y.s.data.toList && decide (1 ≤ y.i) && decide (y.i < (n : Int))
/-- Is a node right by itself? -/
def nodeB (n : Nat) (x : Nd) : Bool :=
  if x.k = 1 then decide (x.e.length = 0) && decide (x.d.length ≤ 46368) && decide (1 ≤ x.l) && decide (x.l ≤ 200)
  else decide (x.k = 2) && decide (x.d.length = 0) && decide (x.e.length ≤ 64) && x.e.all (entB n) && ris x.e
theorem nodeB_iff {n : Nat} {x : Nd} : nodeB n x = true ↔ fileOk x ∧ 1 ≤ x.l ∧ x.l ≤ 200 ∨ dirOk n x := by
  unfold nodeB
  split
  · rename_i h
    simp only [Bool.and_eq_true, decide_eq_true_eq]
    constructor
    · rintro ⟨⟨⟨a, b⟩, c⟩, d⟩
      exact .inl ⟨⟨h, List.length_eq_zero_iff.1 a, b⟩, c, d⟩
    · rintro (⟨⟨_, a, b⟩, c, d⟩ | h')
      · exact ⟨⟨⟨by rw [a]; rfl, b⟩, c⟩, d⟩
      · have := h'.1
        omega
  · rename_i h
    simp only [Bool.and_eq_true, decide_eq_true_eq, List.all_eq_true, entB]
    constructor
    · rintro ⟨⟨⟨⟨a, b⟩, c⟩, d⟩, e⟩
      exact .inr ⟨a, List.length_eq_zero_iff.1 b, c, fun y hy => ⟨(d y hy).1.1, (d y hy).1.2, (d y hy).2⟩, e⟩
    · rintro (h' | h')
      · exact absurd h'.1.1 h
      · exact ⟨⟨⟨⟨h'.1, by rw [h'.2.1]; rfl⟩, h'.2.2.1⟩, fun y hy => ⟨⟨(h'.2.2.2.1 y hy).1, (h'.2.2.2.1 y hy).2.1⟩, (h'.2.2.2.1 y hy).2.2⟩⟩, h'.2.2.2.2⟩
/-- Is it right, as it is looked for? -/
def rightB (L : List Nd) : Bool :=
  decide (1 ≤ L.length) && decide (L.length ≤ 56) && isD (nat L 0) && L.all (nodeB L.length) && decide ((met (chs L)).length = L.length) &&
    (List.range L.length).all fun i => decide ((met (chs L)).getD i 0 = i) && decide (lnk L i = (nat L i).l) && (!(isD (nat L i)) || i == 0 || decide (up L i = 1))
theorem all_nat {L : List Nd} {p : Nd → Bool} : L.all p = true ↔ ∀ i, i < L.length → p (nat L i) = true := by
  rw [List.all_eq_true]
  constructor
  · intro h i hi
    rw [nat_get hi]
    exact h _ (List.getElem_mem hi)
  · intro h x hx
    obtain ⟨i, hi, rfl⟩ := List.getElem_of_mem hx
    rw [← nat_get hi]
    exact h i hi
theorem rightB_iff {L : List Nd} : rightB L = true ↔ Rgt L := by
  unfold rightB
  simp only [Bool.and_eq_true, decide_eq_true_eq, List.all_eq_true (l := List.range L.length), List.mem_range, all_nat, Bool.or_eq_true, Bool.not_eq_true', beq_iff_eq]
  constructor
  · rintro ⟨⟨⟨⟨⟨h1, h2⟩, h3⟩, h4⟩, h5⟩, h6⟩
    refine ⟨h1, h2, h3, fun i hi => nodeB_iff.1 (h4 i hi), ?_, fun i hi => (h6 i hi).1.2, fun i h0 hi hd => ?_⟩
    · refine List.ext_getElem (by rw [h5, List.length_range]) (fun i a b => ?_)
      have := (h6 i (by omega)).1.1
      rw [List.getElem_range]
      rw [List.getD_eq_getElem?_getD, List.getElem?_eq_getElem a] at this
      exact this
    · rcases (h6 i hi).2 with (h | h) | h
      · rw [hd] at h; cases h
      · omega
      · exact h
  · intro h
    refine ⟨⟨⟨⟨⟨h.pos, h.few⟩, h.root⟩, fun i hi => nodeB_iff.2 (h.node i hi)⟩, by rw [h.met, List.length_range]⟩, fun i hi => ⟨⟨?_, h.link i hi⟩, ?_⟩⟩
    · rw [h.met, List.getD_eq_getElem?_getD, List.getElem?_eq_getElem (by simpa using hi), List.getElem_range]; rfl
    · by_cases h0 : i = 0
      · exact .inl (.inr h0)
      · cases hd : isD (nat L i) with
        | false => exact .inl (.inl rfl)
        | true => exact .inr (h.one i (by omega) hi hd)
instance (L : List Nd) : Decidable (Rgt L) := decidable_of_iff _ rightB_iff

/-- Numbers told by a counter: a is to be the next one; what comes next behind it, if all that it leads to come as they should. -/
def chk (ch : Nat → List Nat) : Nat → Nat → Nat → Option Nat
  | 0, a, c => if a = c then some (c + 1) else none
  | d + 1, a, c => if a = c then (ch a).foldl (fun o k => o.bind fun m => if k < m then some m else chk ch d k m) (some (c + 1)) else none
/-- One more of them. -/
def chkS (ch : Nat → List Nat) (d : Nat) (o : Option Nat) (k : Nat) : Option Nat := o.bind fun m => if k < m then some m else chk ch d k m
theorem chk_succ (ch : Nat → List Nat) (d a c : Nat) : chk ch (d + 1) a c = if a = c then (ch a).foldl (chkS ch d) (some (c + 1)) else none := rfl
theorem chkS_none (ch : Nat → List Nat) (d : Nat) (ks : List Nat) : ks.foldl (chkS ch d) none = none := by
  induction ks with
  | nil => rfl
  | cons k ks ih => rw [List.foldl_cons]; exact ih
theorem foldS_len (ch : Nat → List Nat) (d : Nat) (ks m : List Nat) : m.length ≤ (ks.foldl (ordS ch d) m).length := by
  obtain ⟨r, hr⟩ := foldS_ext (ord_ext ch d) ks m
  rw [hr, List.length_append]; omega
/-- The counter goes through exactly where what is met is met in its order. -/
theorem chk_iff (ch : Nat → List Nat) : ∀ d a c n, chk ch d a c = some n ↔ ord ch d a (List.range c) = List.range n
  | 0, a, c, n => by
    rw [ord_zero]
    unfold chk
    constructor
    · intro h
      split at h
      · rename_i e
        subst e
        rw [← Option.some.inj h, List.range_succ]
      · cases h
    · intro h
      have h1 : n = c + 1 := by have := congrArg List.length h; simpa using this.symm
      subst h1
      rw [List.range_succ] at h
      have := List.append_cancel_left h
      rw [if_pos (by simpa using this)]
  | d + 1, a, c, n => by
    have key : ∀ (ks : List Nat) (m n : Nat), ks.foldl (chkS ch d) (some m) = some n ↔ ks.foldl (ordS ch d) (List.range m) = List.range n := by
      intro ks
      induction ks with
      | nil =>
        intro m n
        simp only [List.foldl_nil, Option.some.injEq]
        constructor
        · intro e; rw [e]
        · intro e; have := congrArg List.length e; simpa using this
      | cons k ks ih =>
        intro m n
        rw [List.foldl_cons, List.foldl_cons]
        by_cases h : k < m
        · have e1 : chkS ch d (some m) k = some m := by simp only [chkS, Option.bind_some, if_pos h]
          have e2 : ordS ch d (List.range m) k = List.range m := by rw [ordS, if_pos (List.mem_range.2 h)]
          rw [e1, e2]; exact ih m n
        · have e1 : chkS ch d (some m) k = chk ch d k m := by simp only [chkS, Option.bind_some, if_neg h]
          have e2 : ordS ch d (List.range m) k = ord ch d k (List.range m) := by rw [ordS, if_neg (fun h' => h (List.mem_range.1 h'))]
          rw [e1, e2]
          cases hc : chk ch d k m with
          | none =>
            rw [chkS_none]
            constructor
            · intro h; cases h
            · intro hf
              exfalso
              obtain ⟨r, hr⟩ := foldS_ext (ord_ext ch d) ks (ord ch d k (List.range m))
              rw [hr] at hf
              have h1 : ord ch d k (List.range m) = List.range (ord ch d k (List.range m)).length := by
                have h2 := congrArg (List.take (ord ch d k (List.range m)).length) hf
                rw [List.take_left, List.take_range] at h2
                have h3 : (ord ch d k (List.range m)).length ≤ n := by
                  have := congrArg List.length hf
                  rw [List.length_append, List.length_range] at this
                  omega
                rw [Nat.min_eq_left h3] at h2
                exact h2
              have := (chk_iff ch d k m _).2 h1
              rw [hc] at this; cases this
          | some j =>
            rw [(chk_iff ch d k m j).1 hc]
            exact ih j n
    rw [chk_succ, ord_succ]
    by_cases e : a = c
    · subst e
      rw [if_pos rfl, ← List.range_succ]
      exact key (ch a) (a + 1) n
    · rw [if_neg e]
      constructor
      · intro h; cases h
      · intro hf
        exfalso
        obtain ⟨r, hr⟩ := foldS_ext (ord_ext ch d) (ch a) (List.range c ++ [a])
        rw [hr] at hf
        have h1 := congrArg (fun l => l[c]?) hf
        simp only [List.append_assoc] at h1
        rw [List.getElem?_append_right (by simp)] at h1
        simp only [List.length_range, Nat.sub_self, List.cons_append, List.getElem?_cons_zero] at h1
        have h2 : c < n := by
          have := congrArg List.length hf
          simp only [List.length_append, List.length_range, List.length_cons, List.length_nil] at this
          omega
        rw [List.getElem?_range h2] at h1
        exact e (Option.some.inj h1)
/-- All numbers are as they should be exactly where a counter from the root goes through to their end. -/
theorem chk_met (ch : Nat → List Nat) (n : Nat) : chk ch 60 0 0 = some n ↔ met ch = List.range n := by
  rw [chk_iff]; rfl
end Go.Proofs.YtinholnidchblaaGreatDoor
