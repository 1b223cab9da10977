/-
  Trees, plainly: the laws without the document, said of what Do answers.
-/
import Derived.Test.YtinholnidchblaaGreatDoorQae
import Derived.Test.YtinholnidchblaaGreatDoorQab
import Derived.Deep.Onto
import Derived.Test.YtinholnidchblaaGreatDoorQaa
import Derived.Maps.OwnSet
import Derived.Maps.OwnOps
import Derived.Maps.Ext
import Derived.Maps.RangeWalk
import Derived.Recover
import Derived.WalkLawsBesides
import Derived.Lib.Hide
set_option linter.unusedVariables false
set_option linter.unusedSimpArgs false
namespace Go.Proofs.YtinholnidchblaaGreatDoor
set_option linter.unusedVariables false
set_option linter.unusedSimpArgs false

/-- The place of what is at a path, or what is told. -/
def findO (L : List Nd) : Option (List ByteArray) → Except Int Nat
  | none => .error 20
  | some ns => wlk L 0 ns
theorem do_ask {L : List Nd} (h : Rgt L) {o : Int} (ho : o = 10 ∨ o = 11 ∨ o = 13) (P Q : Option (List ByteArray)) (i n : Int) (z : List Int) : doO L o P Q i n z = (L, oAsk L o P) := by
  have e : oAny L o P Q i n z = (L, oAsk L o P) := by
    rcases ho with rfl | rfl | rfl <;> rfl
  rw [doO, e, h.num]
theorem read_one (L : List Nd) (P : Option (List ByteArray)) (i n : Int) : (oRead L P i n).1 = L := by
  unfold oRead
  repeat' split
  all_goals rfl
theorem do_read {L : List Nd} (h : Rgt L) (P Q : Option (List ByteArray)) (i n : Int) (z : List Int) : doO L 7 P Q i n z = (L, (oRead L P i n).2) := by
  have e : oAny L 7 P Q i n z = oRead L P i n := rfl
  rw [doO, e, read_one, h.num]
/-- What is told of a node in a tree that has it by another number. -/
theorem ask_num {M : List Nd} (h : Snd M) {L : List Nd} {k : Nat} {ns ms : List ByteArray} (hL : wlk L 0 ns = .ok k) (hM : wlk M 0 ms = .ok k) (hk : nat M k = nat L k) (hl : (nat (num M) (plc (chs M) k)).l = (nat L k).l) :
    oAsk (num M) 10 (some ms) = oAsk L 10 (some ns) ∧ ∀ i n, (oRead (num M) (some ms) i n).2 = (oRead L (some ns) i n).2 := by
  have hkm := h.wlk_met hM
  have hw : wlk (num M) 0 ms = .ok (plc (chs M) k) := by rw [h.wlk_num, hM]; rfl
  have hn := h.nat_num hkm
  have h1 : (nat (num M) (plc (chs M) k)).k = (nat L k).k := by rw [hn]; show (nat M k).k = _; rw [hk]
  have h2 : (nat (num M) (plc (chs M) k)).d = (nat L k).d := by rw [hn]; show (nat M k).d = _; rw [hk]
  have h3 : (nat (num M) (plc (chs M) k)).e.length = (nat L k).e.length := by rw [hn]; show ((nat M k).e.map _).length = _; rw [hk, List.length_map]
  have h4 : isD (nat (num M) (plc (chs M) k)) = isD (nat L k) := by simp only [isD, h1]
  refine ⟨?_, fun i n => ?_⟩
  · simp only [oAsk, hw, hL, h1, h2, h3, hl, if_true]
  · simp only [oRead, fileAt, hw, hL, h4]
    cases isD (nat L k) with
    | true => rfl
    | false =>
      simp only [h2, Bool.false_eq_true, if_false]
      split <;> rfl
theorem wlk_err {L : List Nd} : ∀ {ps : List ByteArray} {a : Nat} {e : Int}, wlk L a ps = .error e → e = 21 ∨ e = 22 := by
  intro ps
  induction ps with
  | nil => intro a e h; cases h
  | cons n ps ih =>
    intro a e h
    cases hd : isD (nat L a) with
    | false => rw [wlk_file hd] at h; cases h; exact .inr rfl
    | true =>
      cases hf : fnd (nat L a).e n with
      | none => rw [wlk_none hd hf] at h; cases h; exact .inl rfl
      | some k => rw [wlk_yes hd hf] at h; exact ih h
theorem toB_err {L : List Nd} {ps : List ByteArray} {e : Int} (ht : toB L ps = .error e) : e ≠ 0 := by
  intro h0
  unfold toB at ht
  split at ht
  · split at ht
    · cases ht
    · cases ht; omega
  · rename_i hw'
    cases ht
    rcases wlk_err hw' with h1 | h1 <;> omega
theorem wlk_err0 {L : List Nd} {ps : List ByteArray} {a : Nat} {e : Int} (h : wlk L a ps = .error e) : e ≠ 0 := by
  rcases wlk_err h with h1 | h1 <;> omega
/-- What a rename that is done leaves. -/
theorem law_ren {L : List Nd} (h : Rgt L) {P Q : Option (List ByteArray)} (hP : NmsOk P) (hQ : NmsOk Q) (he : (oRen L P Q).2.err = 0) {N : List Nd} (hN : N = num (oRen L P Q).1) :
    (oAsk L 10 P).err = 0 ∧ oAsk N 10 Q = oAsk L 10 P ∧ (∀ i n, (oRead N Q i n).2 = (oRead L P i n).2) ∧ ∃ k, findO L P = .ok k ∧ (findO L Q = .ok k ∧ N = L ∨ findO L Q ≠ .ok k ∧ findO N P = .error 21) := by
  cases P with
  | none => cases he
  | some ns =>
    cases Q with
    | none => cases he
    | some ms =>
      have hS := (ren_keep h (P := some ns) hQ).1
      simp only [oRen] at he hN hS
      split at he
      · cases he
      · rename_i hne
        rw [if_neg hne] at hN hS
        have hns : ns ≠ [] := fun e => hne (.inl e)
        have hms : ms ≠ [] := fun e => hne (.inr e)
        split at he
        · rename_i e hk
          have he' : e = 0 := he
          exfalso
          rcases wlk_err hk with h1 | h1 <;> omega
        · rename_i k hk
          simp only [hk] at hN hS
          have hst : (oAsk L 10 (some ns)).err = 0 := by simp only [oAsk, hk]; rfl
          split at he
          · cases he
          · rename_i hlp
            rw [if_neg hlp] at hN hS
            split at he
            · rename_i hb
              exact absurd he (toB_err hb)
            · rename_i b o hb
              simp only [hb] at hN hS
              obtain ⟨a, ha⟩ := wlk_toB hk hns
              simp only [ha] at he hN hS
              have moved : ∀ {M : List Nd}, M = putE (cutE L a (lstN ns)) b (lstN ms) k → Snd M → N = num M → (∀ j, o = some j → j ≠ k ∧ (nat L j).e = []) →
                  (oAsk L 10 (some ns)).err = 0 ∧ oAsk N 10 (some ms) = oAsk L 10 (some ns) ∧ (∀ i n, (oRead N (some ms) i n).2 = (oRead L (some ns) i n).2) ∧ ∃ k, findO L (some ns) = .ok k ∧ (findO L (some ms) = .ok k ∧ N = L ∨ findO L (some ms) ≠ .ok k ∧ findO N (some ns) = .error 21) := by
                intro M hM hSM hNM ho
                obtain ⟨r1, r2, r3, r4⟩ := ren_ok h hns hms hlp ha hb ho hM hSM
                obtain ⟨s1, s2⟩ := ask_num hSM hk r1 r3 r4
                rw [hNM]
                refine ⟨hst, s1, s2, k, hk, .inr ⟨?_, ?_⟩⟩
                · have := toB_wlk hb hms
                  show wlk L 0 ms ≠ _
                  rw [this]
                  cases ho' : o with
                  | none => intro e; cases e
                  | some j =>
                    intro e
                    cases e
                    exact (ho _ ho').1 rfl
                · show wlk (num M) 0 ns = _
                  rw [hSM.wlk_num, r2]; rfl
              cases o with
              | none =>
                simp only at he hN hS
                split at he
                · cases he
                · rename_i hm
                  rw [if_neg hm] at hN hS
                  exact moved rfl hS hN (fun j hj => by cases hj)
              | some j =>
                simp only at he hN hS
                split at he
                · rename_i hj
                  rw [if_pos hj] at hN
                  simp only [h.num] at hN
                  subst hj
                  have hw := toB_wlk hb hms
                  rw [hN]
                  have hw' : wlk L 0 ms = .ok j := hw
                  refine ⟨hst, by simp only [oAsk, hw', hk], fun i n => by simp only [oRead, fileAt, hw', hk], j, hk, .inl ⟨hw', rfl⟩⟩
                · rename_i hj
                  rw [if_neg hj] at hN hS
                  split at he
                  · cases he
                  · rename_i h1
                    rw [if_neg h1] at hN hS
                    split at he
                    · cases he
                    · rename_i h2
                      rw [if_neg h2] at hN hS
                      split at he
                      · cases he
                      · rename_i h3
                        rw [if_neg h3] at hN hS
                        refine moved rfl hS hN (fun i hi => ?_)
                        cases hi
                        exact ⟨hj, by simpa using h3⟩

/-- What is made is there; taken away again the tree is as it was. -/
theorem law_new {L : List Nd} (h : Rgt L) (dir : Bool) {P : Option (List ByteArray)} (hP : NmsOk P) (he : (oNew L dir P).2.err = 0) {N : List Nd} (hN : N = num (oNew L dir P).1) :
    (oCut N dir P).2 = .ok ∧ num (oCut N dir P).1 = L ∧ N ≠ L := by
  have hS := (new_keep h dir hP).1
  cases P with
  | none => cases he
  | some ns =>
    simp only [oNew] at he hN hS
    split at he
    · cases he
    · rename_i hne
      rw [if_neg hne] at hN hS
      split at he
      · rename_i ht
        exact absurd he (toB_err ht)
      · rename_i a o ht
        simp only [ht] at hN hS
        split at he
        · cases he
        · rename_i ho
          rw [if_neg ho] at hN hS
          split at he
          · cases he
          · rename_i hm
            rw [if_neg hm] at hN hS
            have ho' : o = none := by simpa using ho
            subst ho'
            obtain ⟨f1, f2, f3, f4⟩ := new_found h hne ht ⟨if dir then 2 else 1, 0, [], []⟩
            obtain ⟨u1, u2⟩ := undo hS hne f1 f2 (rm := dir) (by rw [f3]; cases dir <;> rfl) (by rw [f3])
            rw [hN, u1]
            refine ⟨rfl, by rw [u2]; exact f4, fun e => ?_⟩
            have h1 := toB_wlk ht hne
            have h2 := hS.wlk_num ns
            rw [e, f1, h1] at h2
            cases h2
theorem law_link {L : List Nd} (h : Rgt L) {P Q : Option (List ByteArray)} (hQ : NmsOk Q) (he : (oLink L P Q).2.err = 0) {N : List Nd} (hN : N = num (oLink L P Q).1) :
    (oCut N false Q).2 = .ok ∧ num (oCut N false Q).1 = L ∧ N ≠ L ∧ (oAsk N 10 Q).l = (oAsk L 10 P).l + 1 ∧ ∃ k, fileAt N P = .ok k ∧ fileAt N Q = .ok k := by
  have hS := (link_keep h (P := P) hQ).1
  cases P with
  | none => cases he
  | some ns =>
    cases Q with
    | none => cases he
    | some ms =>
      simp only [oLink] at he hN hS
      split at he
      · rename_i hk
        exact absurd he (wlk_err0 hk)
      · rename_i k hk
        simp only [hk] at hN hS
        split at he
        · cases he
        · rename_i hd
          rw [if_neg hd] at hN hS
          split at he
          · cases he
          · rename_i hne
            rw [if_neg hne] at hN hS
            split at he
            · rename_i ht
              exact absurd he (toB_err ht)
            · rename_i a o ht
              simp only [ht] at hN hS
              split at he
              · cases he
              · rename_i ho
                rw [if_neg ho] at hN hS
                split at he
                · cases he
                · rename_i h1
                  rw [if_neg h1] at hN hS
                  split at he
                  · cases he
                  · rename_i h2
                    rw [if_neg h2] at hN hS
                    have ho' : o = none := by simpa using ho
                    subst ho'
                    have hdk : isD (nat L k) = false := by simpa using hd
                    obtain ⟨a1, a2, a3⟩ := toB_ok ht
                    have ha := h.snd.wlklt a1
                    have hak : a ≠ k := by
                      rintro rfl
                      rw [hdk] at a2; cases a2
                    obtain ⟨l1, l2, l3, l4⟩ := link_ok h hk hdk hne ht hS
                    have hnk : nat (putE L a (lstN ms) k) k = nat L k := by rw [nat_putE ha, if_neg hak]
                    have hwa := wlk_putE h.snd.rp ha a3.symm k a1
                    have hda : isD (nat (putE L a (lstN ms) k) a) = true := by rw [isD_putE ha]; exact a2
                    have hfa : fnd (nat (putE L a (lstN ms) k) a).e (lstN ms) = some k := by rw [fnd_putE h.snd.rp ha, if_pos ⟨rfl, rfl⟩]
                    have htb : toB (putE L a (lstN ms) k) ms = .ok (a, some k) := by simp only [toB, hwa, hda, hfa, if_true]
                    have hwk : wlk (putE L a (lstN ms) k) 0 ms = .ok k := toB_wlk htb hne
                    obtain ⟨u1, u2⟩ := undo hS hne hwk htb (rm := false) (by rw [hnk]; exact hdk) (by rw [hnk]; exact (h.snd.file (h.snd.wlklt hk) hdk).2.1)
                    rw [hN, u1]
                    refine ⟨rfl, by rw [u2, cut_putE (h.snd.rp a) ha ((fnd_none (h.snd.rp a)).1 a3.symm), h.num], fun e => ?_, ?_, plc (chs (putE L a (lstN ms) k)) k, ?_, ?_⟩
                    · have g1 := toB_wlk ht hne
                      have g2 := l2
                      rw [e, g1] at g2
                      cases g2
                    · simp only [oAsk, l2, hk, l4, if_true]
                    · simp only [fileAt, l1, l3, Bool.false_eq_true, if_false]
                    · simp only [fileAt, l2, l3, Bool.false_eq_true, if_false]
theorem fileAt_err {L : List Nd} {P : Option (List ByteArray)} {e : Int} (h : fileAt L P = .error e) : e ≠ 0 := by
  unfold fileAt at h
  split at h
  · cases h; omega
  · split at h
    · rename_i hw
      cases h
      exact wlk_err0 hw
    · split at h
      · cases h; omega
      · cases h
/-- What a writing that is done leaves. -/
theorem law_write {L : List Nd} (h : Rgt L) {P : Option (List ByteArray)} {i : Int} {z : List Int} (he : (oWrite L P i z).2.err = 0) {N : List Nd} (hN : N = num (oWrite L P i z).1) :
    ∃ k, fileAt L P = .ok k ∧ k < L.length ∧ 0 ≤ i ∧ i + (z.length : Int) ≤ 46368 ∧ (oWrite L P i z).2 = ⟨0, [], [], 0, 0, (z.length : Int)⟩ ∧ N = setD L k (wriB (nat L k).d i.toNat z) ∧ Rgt N ∧ fileAt N P = .ok k ∧ (nat N k).d = wriB (nat L k).d i.toNat z := by
  cases hk : fileAt L P with
  | error e => simp only [oWrite, hk] at he; exact absurd he (fileAt_err hk)
  | ok k =>
    obtain ⟨h1, h2⟩ := fileAt_lt h.snd hk
    simp only [oWrite, hk] at he hN ⊢
    split at he
    · cases he
    · rename_i h0
      rw [if_neg h0] at hN ⊢
      have hr := write_right h h1 h2 h0
      have hN' : N = setD L k (wriB (nat L k).d i.toNat z) := by rw [hN, hr.num]
      refine ⟨k, rfl, h1, by omega, by omega, rfl, hN', by rw [hN']; exact hr, by rw [hN', fileAt_setD h1]; exact hk, by rw [hN', setD_at h1]⟩
/-- What a cut that is done leaves. -/
theorem law_trunc {L : List Nd} (h : Rgt L) {P : Option (List ByteArray)} {n : Int} (h0 : 0 ≤ n) (hm : n ≤ 46368) :
    (∃ e, e ≠ 0 ∧ fileAt L P = .error e ∧ oTrunc L P n = (L, .bad e)) ∨ ∃ k, fileAt L P = .ok k ∧ k < L.length ∧ (oTrunc L P n).2 = .ok ∧ num (oTrunc L P n).1 = setD L k (fitB (nat L k).d n.toNat) ∧ Rgt (setD L k (fitB (nat L k).d n.toNat)) ∧ fileAt (setD L k (fitB (nat L k).d n.toNat)) P = .ok k ∧ (nat (setD L k (fitB (nat L k).d n.toNat)) k).d = fitB (nat L k).d n.toNat := by
  cases hk : fileAt L P with
  | error e => exact .inl ⟨e, fileAt_err hk, rfl, by simp only [oTrunc, hk]⟩
  | ok k =>
    right
    obtain ⟨h1, h2⟩ := fileAt_lt h.snd hk
    have hr : Rgt (setD L k (fitB (nat L k).d n.toNat)) := h.setD h1 h2 (by rw [fitB_len]; omega)
    simp only [oTrunc, hk]
    rw [if_neg (by omega)]
    exact ⟨k, rfl, h1, rfl, hr.num, hr, by rw [fileAt_setD h1]; exact hk, setD_at h1 _⟩
/-- What a reading answers. -/
theorem law_read (L : List Nd) (P : Option (List ByteArray)) {i n : Int} (h0 : 0 ≤ i) (h1 : 0 ≤ n) :
    (∃ e, e ≠ 0 ∧ fileAt L P = .error e ∧ (oRead L P i n).2 = .bad e) ∨ ∃ k, fileAt L P = .ok k ∧ (oRead L P i n).2 = ⟨0, ((nat L k).d.drop i.toNat).take n.toNat, [], 0, 0, 0⟩ := by
  cases hk : fileAt L P with
  | error e => exact .inl ⟨e, fileAt_err hk, rfl, by simp only [oRead, hk]⟩
  | ok k =>
    right
    simp only [oRead, hk]
    rw [if_neg (by omega)]
    exact ⟨k, rfl, rfl⟩
theorem file_all {L : List Nd} (h : Snd L) {P : Option (List ByteArray)} {k : Nat} (hk : fileAt L P = .ok k) : ((nat L k).d.drop 0).take 100000 = (nat L k).d := by
  obtain ⟨h1, h2⟩ := fileAt_lt h hk
  have := (h.file h1 h2).2.2
  rw [List.drop_zero, List.take_of_length_le (by omega)]
/-- What a list tells: an error and no names, or the names at which something is, rising. -/
theorem law_list {L : List Nd} (h : Snd L) (P : Option (List ByteArray)) :
    (oAsk L 11 P).err ≠ 0 ∧ (oAsk L 11 P).ns = [] ∨ (oAsk L 11 P).err = 0 ∧ ∃ ns k, P = some ns ∧ wlk L 0 ns = .ok k ∧ (oAsk L 11 P).ns = (nat L k).e.map (·.s) ∧ Rp (nat L k).e ∧ ∀ n, n ∈ (nat L k).e.map (·.s) ↔ ∃ j, wlk L 0 (ns ++ [n]) = .ok j := by
  cases P with
  | none => exact .inl ⟨by simp only [oAsk]; decide, rfl⟩
  | some ns =>
    cases hw : wlk L 0 ns with
    | error e =>
      left
      simp only [oAsk, hw]
      exact ⟨wlk_err0 hw, rfl⟩
    | ok k =>
      cases hd : isD (nat L k) with
      | false =>
        left
        have e : oAsk L 11 (some ns) = .bad 22 := by
          simp only [oAsk, hw, hd]; rfl
        rw [e]
        exact ⟨by decide, rfl⟩
      | true =>
        right
        have e : oAsk L 11 (some ns) = ⟨0, [], (nat L k).e.map (·.s), 0, 0, 0⟩ := by
          simp only [oAsk, hw, hd]; rfl
        rw [e]
        exact ⟨rfl, ns, k, rfl, hw, rfl, h.rp k, list_iff h hw hd⟩
end Go.Proofs.YtinholnidchblaaGreatDoor

/-
  How entries are counted while nodes are met, plainly.
-/
namespace Go.Proofs.YtinholnidchblaaGreatDoor
set_option linter.unusedVariables false
set_option linter.unusedSimpArgs false

/-- How many entries of the nodes of a list tell a place. -/
def cntE (ch : Nat → List Nat) (l : List Nat) (i : Nat) : Nat := (l.map fun a => (ch a).count i).sum
theorem cntE_app (ch : Nat → List Nat) (l r : List Nat) (i : Nat) : cntE ch (l ++ r) i = cntE ch l i + cntE ch r i := by simp [cntE, List.sum_append]
theorem cntE_cons (ch : Nat → List Nat) (a : Nat) (r : List Nat) (i : Nat) : cntE ch (a :: r) i = (ch a).count i + cntE ch r i := by simp [cntE]
theorem cntE_nil (ch : Nat → List Nat) (i : Nat) : cntE ch [] i = 0 := rfl
/-- What was met behind the first ones, when more were. -/
theorem drop_more {m m' r : List Nat} {n : Nat} (h : m' = m ++ r) (hn : n ≤ m.length) : m'.drop n = m.drop n ++ m'.drop m.length := by
  subst h
  rw [List.drop_append_of_le_length hn, List.drop_left]
/-- The nodes that are met when k entries of a have been gone through. -/
def mtK (ch : Nat → List Nat) (d a : Nat) (m : List Nat) (k : Nat) : List Nat := ((ch a).take k).foldl (ordS ch d) (m ++ [a])
theorem mtK_zero (ch : Nat → List Nat) (d a : Nat) (m : List Nat) : mtK ch d a m 0 = m ++ [a] := rfl
theorem mtK_succ (ch : Nat → List Nat) (d a : Nat) (m : List Nat) {k : Nat} (h : k < (ch a).length) : mtK ch d a m (k + 1) = ordS ch d (mtK ch d a m k) ((ch a).getD k 0) := by
  have e : (ch a).take (k + 1) = (ch a).take k ++ [(ch a).getD k 0] := by
    rw [List.take_add_one, List.getD_eq_getElem?_getD, List.getElem?_eq_getElem h]; rfl
  rw [mtK, mtK, e, List.foldl_append]; rfl
theorem mtK_end (ch : Nat → List Nat) (d a : Nat) (m : List Nat) : mtK ch d a m (ch a).length = ord ch (d + 1) a m := by rw [mtK, List.take_length, ord_succ]
theorem mtK_ext (ch : Nat → List Nat) (d a : Nat) (m : List Nat) (k : Nat) : ∃ r, mtK ch d a m k = m ++ a :: r := by
  obtain ⟨r, hr⟩ := foldS_ext (ord_ext ch d) ((ch a).take k) (m ++ [a])
  exact ⟨r, by rw [mtK, hr]; simp⟩
theorem mtK_len (ch : Nat → List Nat) (d a : Nat) (m : List Nat) (k : Nat) : m.length + 1 ≤ (mtK ch d a m k).length := by
  obtain ⟨r, hr⟩ := mtK_ext ch d a m k
  rw [hr]; simp
/-- The counts when k entries of a have been gone through. -/
def mtE (ch : Nat → List Nat) (d a : Nat) (m : List Nat) (E : Nat → Nat) (k i : Nat) : Nat := E i + ((ch a).take k).count i + cntE ch ((mtK ch d a m k).drop (m.length + 1)) i
theorem mtE_zero (ch : Nat → List Nat) (d a : Nat) (m : List Nat) (E : Nat → Nat) (i : Nat) : mtE ch d a m E 0 i = E i := by
  have e : (m ++ [a]).drop (m.length + 1) = [] := List.drop_eq_nil_of_le (by simp)
  rw [mtE, mtK_zero, e]
  simp [cntE]
theorem mtE_succ (ch : Nat → List Nat) (d a : Nat) (m : List Nat) (E : Nat → Nat) {k : Nat} (h : k < (ch a).length) (i : Nat) :
    mtE ch d a m E (k + 1) i = (mtE ch d a m E k i + if (ch a).getD k 0 = i then 1 else 0) + cntE ch ((mtK ch d a m (k + 1)).drop (mtK ch d a m k).length) i := by
  have e : (ch a).take (k + 1) = (ch a).take k ++ [(ch a).getD k 0] := by
    rw [List.take_add_one, List.getD_eq_getElem?_getD, List.getElem?_eq_getElem h]; rfl
  obtain ⟨r, hr⟩ := ordS_ext ch d (mtK ch d a m k) ((ch a).getD k 0)
  have e2 := drop_more (n := m.length + 1) ((mtK_succ ch d a m h).trans hr) (mtK_len ch d a m k)
  rw [mtE, mtE, e, e2, cntE_app, List.count_append, List.count_singleton]
  have e3 : (if ((ch a).getD k 0 == i) = true then 1 else 0) = (if (ch a).getD k 0 = i then 1 else 0 : Nat) := by
    by_cases h : (ch a).getD k 0 = i <;> simp [h]
  rw [e3]
  omega
/-- The counts when a node has been met. -/
theorem mtE_end (ch : Nat → List Nat) (d a : Nat) (m : List Nat) (E : Nat → Nat) (i : Nat) : mtE ch d a m E (ch a).length i = E i + cntE ch ((ord ch (d + 1) a m).drop m.length) i := by
  obtain ⟨r, hr⟩ := ord_ext ch (d + 1) a m
  have e1 : (m ++ a :: r).drop (m.length + 1) = r := by
    have : (m ++ a :: r) = (m ++ [a]) ++ r := by simp
    rw [this]
    exact List.drop_left' (by simp)
  rw [mtE, mtK_end, hr, e1, List.drop_left, cntE_cons, List.take_length]
  omega
/-- What a call leaves: the nodes met, and the counts. -/
def metE (ch : Nat → List Nat) (d a : Nat) (m : List Nat) (E : Nat → Nat) (i : Nat) : Nat := E i + cntE ch ((ordS ch d m a).drop m.length) i
theorem metE_old {ch : Nat → List Nat} {d a : Nat} {m : List Nat} (E : Nat → Nat) (h : a ∈ m) (i : Nat) : metE ch d a m E i = E i := by
  rw [metE, ordS, if_pos h, List.drop_length]
  rfl
theorem metE_new {ch : Nat → List Nat} {d a : Nat} {m : List Nat} (E : Nat → Nat) (h : a ∉ m) (i : Nat) : metE ch (d + 1) a m E i = mtE ch d a m E (ch a).length i := by
  rw [metE, ordS, if_neg h, mtE_end]
/-- What is met from the root on, and the counts then. -/
theorem metE_root (ch : Nat → List Nat) (i : Nat) : metE ch 60 0 [] (fun _ => 0) i = cntE ch (met ch) i := by
  rw [metE, ordS, if_neg (by simp)]
  simp only [List.length_nil, List.drop_zero, Nat.zero_add]
  rfl
theorem ordS_in {ch : Nat → List Nat} {n : Nat} (hc : ∀ x, x < n → ∀ k ∈ ch x, k < n) (d : Nat) {m : List Nat} {k : Nat} (hk : k < n) (hm : ∀ x ∈ m, x < n) : ∀ x ∈ ordS ch d m k, x < n := by
  unfold ordS
  split
  · exact hm
  · exact ord_in (S := (· < n)) hc d k m hk hm
theorem ordS_nodup (ch : Nat → List Nat) (d : Nat) {m : List Nat} {k : Nat} (hm : m.Nodup) : (ordS ch d m k).Nodup := by
  unfold ordS
  split
  · exact hm
  · exact ord_nodup ch d k m hm (by assumption)
theorem mtK_in {ch : Nat → List Nat} {n : Nat} (hc : ∀ x, x < n → ∀ k ∈ ch x, k < n) (d : Nat) {m : List Nat} {a : Nat} (ha : a < n) (hm : ∀ x ∈ m, x < n) (k : Nat) : ∀ x ∈ mtK ch d a m k, x < n :=
  foldS_ind (P := fun m => ∀ x ∈ m, x < n) (fun j hj m h hn => ord_in (S := (· < n)) hc d j m (hc a ha j (List.mem_of_mem_take hj)) h) (fun x hx => by
    rw [List.mem_append, List.mem_singleton] at hx
    rcases hx with hx | rfl
    · exact hm x hx
    · exact ha)
theorem mtK_nodup (ch : Nat → List Nat) (d : Nat) {m : List Nat} {a : Nat} (hm : m.Nodup) (ha : a ∉ m) (k : Nat) : (mtK ch d a m k).Nodup :=
  foldS_ind (P := List.Nodup) (fun j _ m h hn => ord_nodup ch d j m h hn) (by
    rw [List.nodup_append]
    exact ⟨hm, by simp, fun x hx y hy => by rintro rfl; simp at hy; exact ha (hy ▸ hx)⟩)
/-- All are met: the counts are those of the entries. -/
theorem cnt_up {L : List Nd} (h : met (chs L) = List.range L.length) (i : Nat) : cntE (chs L) (met (chs L)) i = up L i := by rw [cntE, up, h]
end Go.Proofs.YtinholnidchblaaGreatDoor

/-
  A worker: its block, its nodes; what it may read; what a store into a node leaves.
-/
namespace Go.Proofs.YtinholnidchblaaGreatDoor
open Go.RowKit
set_option linter.unusedVariables false
set_option linter.unusedSimpArgs false

theorem bys_turn0 {M : Nat → Prop} {w w' : World} {a : Option Addr} {n : Nat} {zs : List Int} (h : Bys w a n zs) (ht : Turn M w w') (hm : 0 < n → ∀ b off, a = some ⟨b, off, none⟩ → ¬ M b) : Bys w' a n zs := by
  by_cases h0 : n = 0
  · exact ⟨h.len, h.small, .inl h0⟩
  · exact bys_turn h ht (hm (by omega))
theorem Pin.turn {M : Nat → Prop} {w w' : World} {a : Option Addr} {n c : Nat} {zs : List Int} (h : Pin w a n c zs) (ht : Turn M w w') (hm : 0 < n → ∀ b off, a = some ⟨b, off, none⟩ → ¬ M b) : Pin w' a n c zs := ⟨bys_turn0 h.bys ht hm, h.nil, h.cap, h.max⟩
theorem Ens.turn {M : Nat → Prop} {w w' : World} {a : Option Addr} {n : Nat} {L : List En} (h : Ens w a n L) (ht : Turn M w w') (hm' : 0 < n → ∀ b off, a = some ⟨b, off, none⟩ → ¬ M b) : Ens w' a n L := by
  refine ⟨h.len, ?_⟩
  rcases h.place with h0 | ⟨b, off, ha, hlt, hc⟩
  · exact .inl h0
  · by_cases h0 : n = 0
    · exact .inl h0
    have hm := hm' (by omega)
    refine .inr ⟨b, off, ha, Nat.lt_of_lt_of_le hlt ht.size, fun i hi => ?_⟩
    obtain ⟨h1, h2⟩ := hc i hi
    exact ⟨(ht.cell (a := ⟨b, off + i * 2, none⟩) hlt (hm b off ha)).trans h1, (ht.cell (a := ⟨b, off + i * 2 + 1, none⟩) hlt (hm b off ha)).trans h2⟩
theorem Enz.turn {M : Nat → Prop} {w w' : World} {a : Option Addr} {n c : Nat} {L : List En} (h : Enz w a n c L) (ht : Turn M w w') (hm : 0 < n → ∀ b off, a = some ⟨b, off, none⟩ → ¬ M b) : Enz w' a n c L := ⟨h.ens.turn ht hm, h.nil, h.cap, h.max⟩
theorem Turn.setO {M : Nat → Prop} {w w' : World} (h : Turn M w w') {p : Addr} (hp : M p.block) (u : Value) : Turn M w (w'.setCell p u) := h.trans (.setCell w' hp u)
theorem Turn.allocO {M : Nat → Prop} {w w' : World} (h : Turn M w w') (o : Obj) : Turn M w (w'.alloc o) := h.trans (.of_below ((Below.refl _ _).alloc (Nat.le_refl _) o))
theorem Turn.next {M : Nat → Prop} {w w' w2 : World} (h : Turn M w w') (hb : Below w'.heap.size w' w2) : Turn M w w2 := h.trans (.of_below hb)

/-- A worker's block. -/
def WkB (w : World) (wb : Nat) (na : Option Addr) (n c : Nat) (pm em : Option Nat) : Prop := w.heap[wb]? = some (.cells #[.slice na n c, .map pm, .map em] 81 (0, 0))
section
variable {w w' : World} {wb n c : Nat} {na : Option Addr} {pm em : Option Nat}
theorem WkB.lt (h : WkB w wb na n c pm em) : wb < w.heap.size := lt_of_block h
theorem WkB.c0 (h : WkB w wb na n c pm em) : w.cell? ⟨wb, 0, none⟩ = some (.slice na n c) := by simp [World.cell?, show w.heap[wb]? = _ from h]
theorem WkB.c1 (h : WkB w wb na n c pm em) : w.cell? ⟨wb, 1, none⟩ = some (.map pm) := by simp [World.cell?, show w.heap[wb]? = _ from h]
theorem WkB.c2 (h : WkB w wb na n c pm em) : w.cell? ⟨wb, 2, none⟩ = some (.map em) := by simp [World.cell?, show w.heap[wb]? = _ from h]
theorem WkB.free (h : WkB w wb na n c pm em) (i : Nat) : w.frozen? ⟨wb, i, none⟩ = false := frozen_of_row w wb i _ _ h
theorem WkB.block {w' : World} (h : WkB w wb na n c pm em) (hb : w'.heap[wb]? = w.heap[wb]?) : WkB w' wb na n c pm em := hb.trans h
theorem WkB.below {B : Nat} (h : WkB w wb na n c pm em) (hB : wb < B) (hb : Below B w w') : WkB w' wb na n c pm em := h.block (hb.block wb hB)
theorem WkB.next (h : WkB w wb na n c pm em) (hb : Below w.heap.size w w') : WkB w' wb na n c pm em := h.below h.lt hb
theorem WkB.set0 (h : WkB w wb na n c pm em) (a : Option Addr) (m k : Nat) : WkB (w.setCell ⟨wb, 0, none⟩ (.slice a m k)) wb a m k pm em := cells_set h
theorem WkB.set1 (h : WkB w wb na n c pm em) (b : Nat) : WkB (w.setCell ⟨wb, 1, none⟩ (.map (some b))) wb na n c (some b) em := cells_set h
theorem WkB.set2 (h : WkB w wb na n c pm em) (b : Nat) : WkB (w.setCell ⟨wb, 2, none⟩ (.map (some b))) wb na n c pm (some b) := cells_set h
end
/-- A worker that may be read: its block, its nodes. -/
structure Wr (w : World) (wb : Nat) (na : Option Addr) (n c : Nat) (f : Nat → Nc) : Prop where
  wk : ∃ pm em, WkB w wb na n c pm em
  nds : Nds w na n f
theorem Wr.next {w w' : World} {wb n c : Nat} {na : Option Addr} {f : Nat → Nc} (h : Wr w wb na n c f) (hb : Below w.heap.size w w') : Wr w' wb na n c f := by
  obtain ⟨⟨pm, em, hk⟩, hn⟩ := h
  exact ⟨⟨pm, em, hk.next hb⟩, hn.next hb⟩
theorem Wr.c0 {w : World} {wb n c : Nat} {na : Option Addr} {f : Nat → Nc} (h : Wr w wb na n c f) : w.cell? ⟨wb, 0, none⟩ = some (.slice na n c) := by
  obtain ⟨⟨pm, em, hk⟩, hn⟩ := h
  exact hk.c0
theorem Wr.lt {w : World} {wb n c : Nat} {na : Option Addr} {f : Nat → Nc} (h : Wr w wb na n c f) : wb < w.heap.size := by
  obtain ⟨⟨pm, em, hk⟩, hn⟩ := h
  exact hk.lt

/-- A node's four cells. -/
def ncl (x : Nc) : List Value := [.int .i64 x.k, .int .i64 x.l, .slice x.da x.dn x.dc, .slice x.ea x.en x.ec]
def nflat (f : Nat → Nc) (n : Nat) : List Value := (List.range n).flatMap fun i => ncl (f i)
theorem nflat_len (f : Nat → Nc) (n : Nat) : (nflat f n).length = n * 4 := by
  unfold nflat
  induction n with
  | zero => rfl
  | succ n ih =>
    rw [List.range_succ, List.flatMap_append, List.length_append, ih, List.flatMap_cons, List.flatMap_nil, List.append_nil]
    show n * 4 + 4 = _
    omega
theorem nflat_succ (f : Nat → Nc) (n : Nat) : nflat f (n + 1) = nflat f n ++ ncl (f n) := by
  rw [nflat, List.range_succ, List.flatMap_append, List.flatMap_cons, List.flatMap_nil, List.append_nil]; rfl
theorem nflat_get (f : Nat → Nc) {n i j : Nat} (hi : i < n) (hj : j < 4) : (nflat f n)[i * 4 + j]? = (ncl (f i))[j]? := by
  induction n with
  | zero => omega
  | succ n ih =>
    rw [nflat_succ]
    by_cases h : i < n
    · rw [List.getElem?_append_left (by rw [nflat_len]; omega), ih h]
    · obtain rfl : i = n := by omega
      rw [List.getElem?_append_right (by rw [nflat_len]; omega), nflat_len]
      congr 1
      omega
theorem nflat_congr {f g : Nat → Nc} {n : Nat} (h : ∀ i, i < n → f i = g i) : nflat f n = nflat g n := by
  unfold nflat
  rw [List.flatMap_def, List.flatMap_def]
  congr 1
  exact List.map_congr_left fun i hi => by rw [h i (List.mem_range.1 hi)]
/-- One node put in the place of another. -/
def updN (f : Nat → Nc) (i : Nat) (x : Nc) (j : Nat) : Nc := if j = i then x else f j
theorem updN_same (f : Nat → Nc) (i : Nat) (x : Nc) : updN f i x i = x := by simp [updN]
theorem updN_other (f : Nat → Nc) {i j : Nat} (x : Nc) (h : j ≠ i) : updN f i x j = f j := by simp [updN, h]
theorem nflat_upd (f : Nat → Nc) {n i j : Nat} (x : Nc) (u : Value) (hi : i < n) (hj : j < 4) (hx : ncl x = (ncl (f i)).set j u) : (nflat f n).set (i * 4 + j) u = nflat (updN f i x) n := by
  induction n with
  | zero => omega
  | succ n ih =>
    rw [nflat_succ, nflat_succ]
    by_cases h : i < n
    · rw [List.set_append_left _ _ (by rw [nflat_len]; omega), ih h, updN_other f x (by omega)]
    · obtain rfl : i = n := by omega
      rw [List.set_append_right _ _ (by rw [nflat_len]; omega), nflat_len, updN_same, hx, Nat.add_sub_cancel_left, nflat_congr (f := updN f i x) (g := f) fun k hk => updN_other f x (by omega)]
theorem ndL_upd (f : Nat → Nc) (n i : Nat) (x : Nc) : ndL (updN f i x) n = (ndL f n).set i x.nd := by
  refine List.ext_getElem (by simp [ndL]) fun j h1 h2 => ?_
  simp only [ndL, List.getElem_map, List.getElem_range, List.getElem_set]
  by_cases h : i = j
  · subst h
    simp [updN]
  · simp [updN, h, Ne.symm h]
theorem ndL_succ (f : Nat → Nc) (n : Nat) : ndL f (n + 1) = ndL f n ++ [(f n).nd] := by simp [ndL, List.range_succ]
theorem ndL_congr {f g : Nat → Nc} {n : Nat} (h : ∀ i, i < n → f i = g i) : ndL f n = ndL g n := List.map_congr_left fun i hi => by rw [h i (List.mem_range.1 hi)]

/-- An address is in none of these two blocks. -/
def Off (n : Nat) (a : Option Addr) (x y : Nat) : Prop := 0 < n → ∀ b off, a = some ⟨b, off, none⟩ → b ≠ x ∧ b ≠ y
theorem Off.nil (n x y : Nat) : Off n none x y := fun _ b off h => by cases h
/-- A worker with nodes of its own in block g. -/
structure Wo (w : World) (wb g n c : Nat) (f : Nat → Nc) : Prop where
  wk : ∃ pm em, WkB w wb (some ⟨g, 0, none⟩) n c pm em
  row : w.ownsRow 0 54 4 (.slice (some ⟨g, 0, none⟩) n c) n (nflat f n)
  ne : g ≠ wb
  data : ∀ i, i < n → Pin w (f i).da (f i).dn (f i).dc (f i).d ∧ Off (f i).dn (f i).da g wb
  ents : ∀ i, i < n → Enz w (f i).ea (f i).en (f i).ec (f i).e ∧ Off (f i).en (f i).ea g wb
theorem row_lt {w : World} {B : Nat} {e : TypeId} {s g n c : Nat} {xs : List Value} (h : w.ownsRow B e s (.slice (some ⟨g, 0, none⟩) n c) n xs) : g < w.heap.size := (h.lt g rfl).2
theorem row_block {w w' : World} {B : Nat} {e : TypeId} {s g n c : Nat} {xs : List Value} (h : w.ownsRow B e s (.slice (some ⟨g, 0, none⟩) n c) n xs) (hb : w'.heap[g]? = w.heap[g]?) : w'.ownsRow B e s (.slice (some ⟨g, 0, none⟩) n c) n xs := by
  obtain ⟨hl, h⟩ := h
  refine ⟨hl, ?_⟩
  rcases h with ⟨h0, _⟩ | ⟨g', cap, cur, hv, h1, h2, h3⟩
  · cases h0
  · refine .inr ⟨g', cap, cur, hv, h1, ?_, h3⟩
    cases hv
    rw [hb]; exact h2
theorem add0 (g j : Nat) : (⟨g, 0, none⟩ : Addr).add j = ⟨g, 0 + j, none⟩ := by unfold Addr.add; split <;> simp_all
theorem Wo.cell {w : World} {wb g n c : Nat} {f : Nat → Nc} (h : Wo w wb g n c f) {i : Nat} (hi : i < n) : w.cell? ⟨g, 0 + i * 4, none⟩ = some (.int .i64 (f i).k) ∧ w.cell? ⟨g, 0 + i * 4 + 1, none⟩ = some (.int .i64 (f i).l) ∧
    w.cell? ⟨g, 0 + i * 4 + 2, none⟩ = some (.slice (f i).da (f i).dn (f i).dc) ∧ w.cell? ⟨g, 0 + i * 4 + 3, none⟩ = some (.slice (f i).ea (f i).en (f i).ec) := by
  have key : ∀ j, j < 4 → w.cell? ⟨g, 0 + (i * 4 + j), none⟩ = (ncl (f i))[j]? := fun j hj => by
    have := h.row.cells (g := g) rfl (i * 4 + j) ((ncl (f i))[j]'(by simpa [ncl] using hj)) (by rw [nflat_get f hi hj]; simp [ncl, hj])
    rw [add0] at this
    rw [this]; simp [ncl, hj]
  exact ⟨key 0 (by omega), key 1 (by omega), key 2 (by omega), key 3 (by omega)⟩
theorem Wo.nds {w : World} {wb g n c : Nat} {f : Nat → Nc} (h : Wo w wb g n c f) : Nds w (some ⟨g, 0, none⟩) n f :=
  ⟨.inr ⟨g, 0, rfl, row_lt h.row, fun i hi => h.cell hi⟩, fun i hi => (h.data i hi).1, fun i hi => (h.ents i hi).1⟩
theorem Wo.wr {w : World} {wb g n c : Nat} {f : Nat → Nc} (h : Wo w wb g n c f) : Wr w wb (some ⟨g, 0, none⟩) n c f := ⟨h.wk, h.nds⟩
theorem Wo.free {w : World} {wb g n c : Nat} {f : Nat → Nc} (h : Wo w wb g n c f) (j : Nat) : w.frozen? ⟨g, j, none⟩ = false := h.row.frozenAt j
theorem Wo.next {w w' : World} {wb g n c : Nat} {f : Nat → Nc} (h : Wo w wb g n c f) (hb : Below w.heap.size w w') : Wo w' wb g n c f := by
  obtain ⟨⟨pm, em, hk⟩, hr, hne, hd, he⟩ := h
  exact ⟨⟨pm, em, hk.next hb⟩, row_block hr (hb.block g (row_lt hr)), hne, fun i hi => ⟨(hd i hi).1.next hb, (hd i hi).2⟩, fun i hi => ⟨(he i hi).1.next hb, (he i hi).2⟩⟩
theorem Wo.drew {w : World} {wb g n c : Nat} {f : Nat → Nc} (h : Wo w wb g n c f) (q : Nat) : Wo (w.drewN q) wb g n c f := h.next (below_drewN (Below.refl _ _) q)
/-- What a store into a node's entries leaves. -/
theorem Wo.setE {w : World} {wb g n c i : Nat} {f : Nat → Nc} (h : Wo w wb g n c f) (hi : i < n) {a : Option Addr} {m k : Nat} {E : List En} (hE : Enz w a m k E) (ho : Off m a g wb) :
    Wo (w.setCell ⟨g, 0 + i * 4 + 3, none⟩ (.slice a m k)) wb g n c (updN f i { f i with ea := a, en := m, ec := k, e := E }) := by
  obtain ⟨⟨pm, em, hk⟩, hr, hne, hd, he⟩ := h
  have ht : Turn (· = g) w (w.setCell ⟨g, 0 + i * 4 + 3, none⟩ (.slice a m k)) := Turn.setCell (M := (· = g)) (a := ⟨g, 0 + i * 4 + 3, none⟩) w rfl _
  have h1 := (hr.stored (0 + i * 4 + 3) (.slice a m k)).1
  have e0 : 0 + i * 4 + 3 = i * 4 + 3 := by omega
  refine ⟨⟨pm, em, hk.block (ht.block wb hk.lt (fun e => hne e.symm))⟩, ?_, hne, fun j hj => ?_, fun j hj => ?_⟩
  · rw [e0, nflat_upd f (x := { f i with ea := a, en := m, ec := k, e := E }) _ hi (by omega) rfl] at h1
    rw [e0]
    exact h1
  · by_cases e : j = i
    · subst e
      rw [updN_same]
      exact ⟨(hd j hj).1.turn ht fun h0 b off ha => ((hd j hj).2 h0 b off ha).1, (hd j hj).2⟩
    · rw [updN_other _ _ e]
      exact ⟨(hd j hj).1.turn ht fun h0 b off ha => ((hd j hj).2 h0 b off ha).1, (hd j hj).2⟩
  · by_cases e : j = i
    · subst e
      rw [updN_same]
      exact ⟨hE.turn ht fun h0 b off ha => (ho h0 b off ha).1, ho⟩
    · rw [updN_other _ _ e]
      exact ⟨(he j hj).1.turn ht fun h0 b off ha => ((he j hj).2 h0 b off ha).1, (he j hj).2⟩
/-- What a store into a node's bytes leaves. -/
theorem Wo.setD {w : World} {wb g n c i : Nat} {f : Nat → Nc} (h : Wo w wb g n c f) (hi : i < n) {a : Option Addr} {m k : Nat} {zs : List Int} (hE : Pin w a m k zs) (ho : Off m a g wb) :
    Wo (w.setCell ⟨g, 0 + i * 4 + 2, none⟩ (.slice a m k)) wb g n c (updN f i { f i with da := a, dn := m, dc := k, d := zs }) := by
  obtain ⟨⟨pm, em, hk⟩, hr, hne, hd, he⟩ := h
  have ht : Turn (· = g) w (w.setCell ⟨g, 0 + i * 4 + 2, none⟩ (.slice a m k)) := Turn.setCell (M := (· = g)) (a := ⟨g, 0 + i * 4 + 2, none⟩) w rfl _
  have h1 := (hr.stored (0 + i * 4 + 2) (.slice a m k)).1
  have e0 : 0 + i * 4 + 2 = i * 4 + 2 := by omega
  refine ⟨⟨pm, em, hk.block (ht.block wb hk.lt (fun e => hne e.symm))⟩, ?_, hne, fun j hj => ?_, fun j hj => ?_⟩
  · rw [e0, nflat_upd f (x := { f i with da := a, dn := m, dc := k, d := zs }) _ hi (by omega) rfl] at h1
    rw [e0]
    exact h1
  · by_cases e : j = i
    · subst e
      rw [updN_same]
      exact ⟨hE.turn ht fun h0 b off ha => (ho h0 b off ha).1, ho⟩
    · rw [updN_other _ _ e]
      exact ⟨(hd j hj).1.turn ht fun h0 b off ha => ((hd j hj).2 h0 b off ha).1, (hd j hj).2⟩
  · by_cases e : j = i
    · subst e
      rw [updN_same]
      exact ⟨(he j hj).1.turn ht fun h0 b off ha => ((he j hj).2 h0 b off ha).1, (he j hj).2⟩
    · rw [updN_other _ _ e]
      exact ⟨(he j hj).1.turn ht fun h0 b off ha => ((he j hj).2 h0 b off ha).1, (he j hj).2⟩
/-- Blocks that are new are none of the worker's. -/
theorem Off.new {n : Nat} {a : Option Addr} {x y B : Nat} (h : ∀ p, a = some p → B ≤ p.block) (hx : x < B) (hy : y < B) : Off n a x y := fun _ b off e => by
  have := h _ e
  simp only at this
  omega
/-- Blocks that were there are none of the new ones. -/
theorem Off.oldB {w : World} {a : Option Addr} {n x y : Nat} {zs : List Int} (h : Bys w a n zs) (hx : w.heap.size ≤ x) (hy : w.heap.size ≤ y) : Off n a x y := fun h0 b off e => by
  rcases h.place with h1 | ⟨b', off', ha, hlt, _⟩
  · omega
  · rw [e] at ha
    cases ha
    omega
theorem Off.oldE {w : World} {a : Option Addr} {n x y : Nat} {L : List En} (h : Ens w a n L) (hx : w.heap.size ≤ x) (hy : w.heap.size ≤ y) : Off n a x y := fun h0 b off e => by
  rcases h.place with h1 | ⟨b', off', ha, hlt, _⟩
  · omega
  · rw [e] at ha
    cases ha
    omega
theorem Off.both {n : Nat} {a : Option Addr} {x y u : Nat} (h : Off n a x y) (k : Off n a u y) {v : Nat} (hv : v = x ∨ v = u) : Off n a v y := by
  rcases hv with rfl | rfl
  · exact h
  · exact k
theorem Off.bothB {w : World} {n : Nat} {a : Option Addr} {x y v : Nat} {zs : List Int} (h : Off n a x y) (hb : Bys w a n zs) (hv : v = x ∨ v = w.heap.size) : Off n a v y := fun h0 b off e => by
  refine ⟨?_, (h h0 b off e).2⟩
  rcases hv with rfl | rfl
  · exact (h h0 b off e).1
  · exact (Off.oldB hb (Nat.le_refl _) (Nat.le_refl _) h0 b off e).1
theorem Off.bothE {w : World} {n : Nat} {a : Option Addr} {x y v : Nat} {L : List En} (h : Off n a x y) (hb : Ens w a n L) (hv : v = x ∨ v = w.heap.size) : Off n a v y := fun h0 b off e => by
  refine ⟨?_, (h h0 b off e).2⟩
  rcases hv with rfl | rfl
  · exact (h h0 b off e).1
  · exact (Off.oldE hb (Nat.le_refl _) (Nat.le_refl _) h0 b off e).1
theorem ncl_one (x : Nc) : ∀ u ∈ ncl x, u.oneCell' = true := fun u hu => by
  simp only [ncl, List.mem_cons, List.not_mem_nil, or_false] at hu
  rcases hu with rfl | rfl | rfl | rfl <;> rfl
theorem infoN : (Tryz.prog.info? 54).map (fun i => (i.zero, i.size, i.bytes)) = some (some (.agg #[.int .i64 0, .int .i64 0, .slice none 0 0, .slice none 0 0]), 4, 64) := by kernel_rfl
/-- What is left when a node was appended, and the slice stored. -/
theorem Wo.grow {w w' : World} {wb g n c g2 c2 : Nat} {f : Nat → Nc} (h : Wo w wb g n c f) (x : Nc) (hx : x.dn = 0 ∧ x.d = [] ∧ x.da = none ∧ x.dc = 0 ∧ x.en = 0 ∧ x.e = [] ∧ x.ea = none ∧ x.ec = 0) (hg : w.grownBy w' (some g)) (h2 : some g = some g2 ∨ g2 = w.heap.size)
    (ho : w'.ownsRow 0 54 4 (.slice (some ⟨g2, 0, none⟩) (n + 1) c2) (n + 1) (nflat f n ++ ncl x)) :
    Wo (w'.setCell ⟨wb, 0, none⟩ (.slice (some ⟨g2, 0, none⟩) (n + 1) c2)) wb g2 (n + 1) c2 (updN f n x) ∧ Turn (fun j => j = g ∨ j = wb) w (w'.setCell ⟨wb, 0, none⟩ (.slice (some ⟨g2, 0, none⟩) (n + 1) c2)) := by
  obtain ⟨⟨pm, em, hk⟩, hr, hne, hd, he⟩ := h
  have hlt := hk.lt
  have h2' : g2 = g ∨ g2 = w.heap.size := h2.imp (fun e => (Option.some.inj e).symm) id
  have hne2 : g2 ≠ wb := by
    rcases h2' with e | e
    · rw [e]; exact hne
    · omega
  have ht1 : Turn (fun j => j = g ∨ j = wb) w w' := .of_grown hg (.inl rfl)
  have ht2 : Turn (fun j => j = g ∨ j = wb) w (w'.setCell ⟨wb, 0, none⟩ (.slice (some ⟨g2, 0, none⟩) (n + 1) c2)) := ht1.setO (p := ⟨wb, 0, none⟩) (.inr rfl) _
  refine ⟨⟨⟨pm, em, ?_⟩, ?_, hne2, fun i hi => ?_, fun i hi => ?_⟩, ht2⟩
  · exact (WkB.block hk (hg.block wb hlt (fun e => hne (Option.some.inj e).symm))).set0 _ _ _
  · refine row_block ?_ (Below.heap_setCell _ _ _ _ hne2)
    rw [nflat_succ, updN_same, nflat_congr (f := updN f n x) (g := f) fun k hk => updN_other f x (by omega)]
    exact ho
  · by_cases e : i = n
    · subst e
      rw [updN_same]
      obtain ⟨x1, x2, x3, x4, _⟩ := hx
      rw [x1, x2, x3, x4]
      exact ⟨Pin.zero _, Off.nil _ _ _⟩
    · rw [updN_other _ _ e]
      have hi' : i < n := by omega
      exact ⟨(hd i hi').1.turn ht2 fun h0 b off ha => by have := (hd i hi').2 h0 b off ha; rintro (e | e); exact this.1 e; exact this.2 e, (hd i hi').2.bothB (hd i hi').1.bys h2'⟩
  · by_cases e : i = n
    · subst e
      rw [updN_same]
      obtain ⟨_, _, _, _, x1, x2, x3, x4⟩ := hx
      rw [x1, x2, x3, x4]
      exact ⟨Enz.zero _, Off.nil _ _ _⟩
    · rw [updN_other _ _ e]
      have hi' : i < n := by omega
      exact ⟨(he i hi').1.turn ht2 fun h0 b off ha => by have := (he i hi').2 h0 b off ha; rintro (e | e); exact this.1 e; exact this.2 e, (he i hi').2.bothE (he i hi').1.ens h2'⟩
end Go.Proofs.YtinholnidchblaaGreatDoor

/-
  The two maps that a worker makes: the places of what was met, and how many entries lead where: what they hold, what a store leaves.
-/
namespace Go.Proofs.YtinholnidchblaaGreatDoor
open Go.RowKit Go.Maps
set_option linter.unusedVariables false
set_option linter.unusedSimpArgs false

theorem lawN : Keyed Tryz.prog 3 := int_keyed Tryz.underlying3
theorem zeroN (w : World) : (zeroValue 3).run Tryz.prog w = .ok (.int .i64 0) w := by kernel_rfl
/-- A place as a key. -/
def kI (k : Nat) : Lit := .int .i64 (k : Int)
theorem kI_inj {a b : Nat} (h : kI a = kI b) : a = b := by
  simp only [kI, Lit.int.injEq] at h
  omega
theorem kI_wf {k : Nat} (h : k ≤ 9223372036854775807) : (Lit.int .i64 (k : Int)).wf = true := WalkArith.wf_i64 (by omega)
theorem kI_of {k : Nat} (h : k ≤ 9223372036854775807) : keyOf Tryz.prog 3 (.int .i64 (k : Int)) = some (kI k) := keyOf_int_mk Tryz.underlying3 (kI_wf h)
theorem kI_key {k : Nat} (h : k ≤ 9223372036854775807) : WideAt.IsKeyLit (kI k) := lawN.key (kI_of h)
/-- A number as a map's element. -/
def nI (x : Int) : DataW Unit := .lit (.int .i64 x)
theorem nI_inj {x y : Int} (h : nI x = nI y) : x = y := by simpa [nI] using h

/-- A map that has the places of what was met. -/
structure PlM (D : DataW Unit) (m : List Nat) : Prop where
  tidy : Tidy D
  has : ∀ k : Nat, Maps.has D (kI k) = decide (k ∈ m)
  keys : ∀ kl, Maps.has D kl = true → ∃ k, k ∈ m ∧ kl = kI k
  at_ : ∀ k, k ∈ m → ∀ z, D.atKey (kI k) z = nI (m.idxOf k : Nat)
  size : Maps.size D = m.length
theorem PlM.none : PlM (.map []) [] := ⟨tidy_empty, fun k => rfl, fun kl (h : false = true) => (by cases h), fun k (h : k ∈ []) => (by cases h), rfl⟩
theorem PlM.snoc {D : DataW Unit} {m : List Nat} (h : PlM D m) {a : Nat} (ha : a ∉ m) (hb : a ≤ 9223372036854775807) : PlM (D.put (kI a) (nI (m.length : Nat))) (m ++ [a]) := by
  have hk := kI_key hb
  have hm := h.tidy.isMap
  refine ⟨h.tidy.put hk _, fun k => ?_, fun kl hl => ?_, fun k hkm z => ?_, ?_⟩
  · by_cases e : k = a
    · subst e
      rw [has_put_same hm hk]; simp
    · rw [has_put_other (fun x => e (kI_inj x)), h.has]
      simp [e]
  · by_cases e : kl = kI a
    · exact ⟨a, by simp, e⟩
    · rw [has_put_other e] at hl
      obtain ⟨k, hk, e⟩ := h.keys kl hl
      exact ⟨k, by simp [hk], e⟩
  · by_cases e : k = a
    · subst e
      rw [atKey_put_same hm hk, List.idxOf_append, if_neg ha]; simp [List.idxOf_cons]
    · have hkm' : k ∈ m := by simpa [e] using hkm
      rw [atKey_put_other (fun x => e (kI_inj x)), h.at_ k hkm', List.idxOf_append, if_pos hkm']
  · rw [size_put h.tidy, h.has, decide_eq_false ha, h.size]; simp
/-- A map that has how many entries lead where. -/
structure EnM (D : DataW Unit) (E : Nat → Nat) : Prop where
  isMap : IsMap D
  at_ : ∀ k : Nat, D.atKey (kI k) (nI 0) = nI (E k : Nat)
theorem EnM.none : EnM (.map []) (fun _ => 0) := ⟨isMap_empty, fun k => rfl⟩
theorem EnM.inc {D : DataW Unit} {E F : Nat → Nat} (h : EnM D E) {a : Nat} (hb : a ≤ 9223372036854775807) {c : Int} (hc : c = (E a : Int) + 1) (hF : ∀ i, F i = E i + if a = i then 1 else 0) : EnM (D.put (kI a) (nI c)) F := by
  have hk := kI_key hb
  refine ⟨h.isMap.put _ _, fun k => ?_⟩
  by_cases e : k = a
  · subst e
    rw [atKey_put_same h.isMap hk, hF, if_pos rfl, hc]
    rfl
  · rw [atKey_put_other (fun x => e (kI_inj x)), h.at_ k, hF, if_neg (fun x => e x.symm)]
    rfl

/-- The block of the places of what was met. -/
def PlAt (w : World) (b : Nat) (m : List Nat) : Prop := ∃ D, w.ownsMap Tryz.prog 3 (plainElem Tryz.prog 3) b m.length D ∧ PlM D m
/-- The block of how many entries lead where. -/
def EnAt (w : World) (b : Nat) (E : Nat → Nat) (N : Nat) : Prop := ∃ D, w.ownsMap Tryz.prog 3 (plainElem Tryz.prog 3) b N D ∧ EnM D E
theorem below_grown {B : Nat} {w w' : World} (h : Below B w w') (hB : B ≤ w.heap.size) : ∀ b, b < B → w'.heap[b]? = w.heap[b]? := fun b hb => h.block b hb
theorem ownsMap_block {P : Program} {k : TypeId} {R : Value → Option (DataW Unit × List MemPlace)} {w w' : World} {b n : Nat} {D : DataW Unit} (h : w.ownsMap P k R b n D) (hb : w'.heap[b]? = w.heap[b]?) : w'.ownsMap P k R b n D := by
  obtain ⟨es, clock, h1, h2⟩ := h
  exact ⟨es, clock, hb.trans h1, h2⟩
theorem PlAt.block {w w' : World} {b : Nat} {m : List Nat} (h : PlAt w b m) (hb : w'.heap[b]? = w.heap[b]?) : PlAt w' b m := by
  obtain ⟨D, h1, h2⟩ := h
  exact ⟨D, ownsMap_block h1 hb, h2⟩
theorem EnAt.block {w w' : World} {b N : Nat} {E : Nat → Nat} (h : EnAt w b E N) (hb : w'.heap[b]? = w.heap[b]?) : EnAt w' b E N := by
  obtain ⟨D, h1, h2⟩ := h
  exact ⟨D, ownsMap_block h1 hb, h2⟩
theorem PlAt.lt {w : World} {b : Nat} {m : List Nat} (h : PlAt w b m) : b < w.heap.size := by
  obtain ⟨D, h1, h2⟩ := h
  exact h1.lt
theorem EnAt.lt {w : World} {b N : Nat} {E : Nat → Nat} (h : EnAt w b E N) : b < w.heap.size := by
  obtain ⟨D, h1, h2⟩ := h
  exact h1.lt
theorem EnAt.mono {w : World} {b N M : Nat} {E : Nat → Nat} (h : EnAt w b E N) (hN : N ≤ M) : EnAt w b E M := by
  obtain ⟨D, h1, h2⟩ := h
  exact ⟨D, h1.mono hN, h2⟩
theorem EnAt.congr {w : World} {b N : Nat} {E F : Nat → Nat} (h : EnAt w b E N) (hF : ∀ i, F i = E i) : EnAt w b F N := by
  obtain ⟨D, h1, h2⟩ := h
  exact ⟨D, h1, h2.isMap, fun k => by rw [h2.at_, hF]⟩
theorem turned_turn {w w' : World} {b : Nat} (h : w.mapTurned w' b) : Turn (· = b) w w' := .of_grown h.grown rfl
theorem PlAt.len {w : World} {b : Nat} {m : List Nat} (h : PlAt w b m) (ty : TypeId) (q : Nat) : (Builtin.len_ #[79] ty #[.map (some b)]).run Tryz.prog (w.drewN q) = .ok (.int .i64 (m.length : Nat)) (w.drewN q) := by
  obtain ⟨D, h1, h2⟩ := h
  have h1' : (w.drewN q).ownsMap Tryz.prog 3 (plainElem Tryz.prog 3) b m.length D := h1
  have := h1'.len Tryz.underlying79 ty
  rw [h2.size] at this
  exact this
theorem PlAt.put {w : World} {b : Nat} {m : List Nat} (h : PlAt w b m) {a : Nat} (ha : a ∉ m) (hb : a ≤ 9223372036854775807) (hm : m.length ≤ 1000000) :
    ∃ w', (Instr.mapUpdate 79 (.map (some b)) (.int .i64 (a : Int)) (.int .i64 (m.length : Nat))).run Tryz.prog w = .ok () w' ∧ PlAt w' b (m ++ [a]) ∧ w.mapTurned w' b := by
  obtain ⟨D, h1, h2⟩ := h
  obtain ⟨w', hrun, hown, ht⟩ := h1.store lawN Tryz.underlying79 (by unfold maxLen; omega) (kI_of hb) (plainElem_int Tryz.underlying3 (kI_wf (k := m.length) (by omega)))
  refine ⟨w', hrun, ⟨_, ?_, h2.snoc ha hb⟩, ht⟩
  have e : (m ++ [a]).length = m.length + 1 := by simp
  rw [e]
  exact hown
theorem PlAt.drew {w : World} {b : Nat} {m : List Nat} (h : PlAt w b m) (q : Nat) : PlAt (w.drewN q) b m := h.block rfl
theorem EnAt.drew {w : World} {b N : Nat} {E : Nat → Nat} (h : EnAt w b E N) (q : Nat) : EnAt (w.drewN q) b E N := h.block rfl
/-- What a map tells of a place, with whether it is there. -/
theorem PlAt.ok {w : World} {b : Nat} {m : List Nat} (h : PlAt w b m) {a : Nat} (hb : a ≤ 9223372036854775807) :
    (Instr.lookup 79 (.map (some b)) (.int .i64 (a : Int)) true).run Tryz.prog w = .ok (.tuple #[.int .i64 (if a ∈ m then (m.idxOf a : Nat) else 0 : Int), .bool (decide (a ∈ m))]) w := by
  obtain ⟨D, h1, h2⟩ := h
  obtain ⟨v, ps, hrun, hv⟩ := h1.look_ok lawN Tryz.underlying79 (zeroN w) (plainElem_int Tryz.underlying3 (kI_wf (k := 0) (by omega))) (kI_of hb)
  obtain ⟨x, rfl, hx, _⟩ := plainElem_int_inv Tryz.underlying3 hv
  have hx' : D.atKey (kI a) (nI 0) = nI x := (Prod.mk.inj hx).1
  have he : x = (if a ∈ m then (m.idxOf a : Nat) else 0 : Int) := by
    by_cases e : a ∈ m
    · rw [h2.at_ a e] at hx'
      rw [if_pos e]
      exact (nI_inj hx').symm
    · rw [atKey_of_not_has (by rw [h2.has, decide_eq_false e])] at hx'
      rw [if_neg e]
      exact (nI_inj hx').symm
  rw [hrun, h2.has, he]
/-- What a map tells of a place that is there. -/
theorem PlAt.get {w : World} {b : Nat} {m : List Nat} (h : PlAt w b m) {a : Nat} (hb : a ≤ 9223372036854775807) (ha : a ∈ m) :
    (Instr.lookup 79 (.map (some b)) (.int .i64 (a : Int)) false).run Tryz.prog w = .ok (.int .i64 (m.idxOf a : Nat)) w := by
  obtain ⟨D, h1, h2⟩ := h
  obtain ⟨c, hrun, hat, _⟩ := h1.lookup_int lawN Tryz.underlying79 Tryz.underlying3 (zeroN w) (kI_of hb)
  rw [h2.at_ a ha] at hat
  rw [hrun, ← nI_inj hat]
/-- How many entries a map tells of. -/
theorem EnAt.get {w : World} {b N : Nat} {E : Nat → Nat} (h : EnAt w b E N) {a : Nat} (hb : a ≤ 9223372036854775807) :
    (Instr.lookup 79 (.map (some b)) (.int .i64 (a : Int)) false).run Tryz.prog w = .ok (.int .i64 (E a : Nat)) w := by
  obtain ⟨D, h1, h2⟩ := h
  obtain ⟨c, hrun, hat, _⟩ := h1.lookup_int lawN Tryz.underlying79 Tryz.underlying3 (zeroN w) (kI_of hb)
  have e := h2.at_ a
  rw [show nI 0 = DataW.lit (.int .i64 0) from rfl, hat] at e
  rw [hrun, nI_inj (x := c) e]
theorem EnAt.put {w : World} {b N : Nat} {E F : Nat → Nat} (h : EnAt w b E N) {a : Nat} (hb : a ≤ 9223372036854775807) (hN : N ≤ 1000000) {c : Int} (hc : c = (E a : Int) + 1) (hE : E a ≤ 1000000) (hF : ∀ i, F i = E i + if a = i then 1 else 0) :
    ∃ w', (Instr.mapUpdate 79 (.map (some b)) (.int .i64 (a : Int)) (.int .i64 c)).run Tryz.prog w = .ok () w' ∧ EnAt w' b F (N + 1) ∧ w.mapTurned w' b := by
  obtain ⟨D, h1, h2⟩ := h
  obtain ⟨w', hrun, hown, ht⟩ := h1.store lawN Tryz.underlying79 (by unfold maxLen; omega) (kI_of hb) (plainElem_int Tryz.underlying3 (e := 3) (a := c) (WalkArith.wf_i64 (by omega)))
  exact ⟨w', hrun, ⟨_, hown, h2.inc hb hc hF⟩, ht⟩
end Go.Proofs.YtinholnidchblaaGreatDoor

/-
  What is refused, and what a work that may end so tells, by contract.
-/
namespace Go.Proofs.YtinholnidchblaaGreatDoor
open Go.RowKit
set_option linter.unusedVariables false
set_option linter.unusedSimpArgs false

/-- A panic by an error's number. -/
def pe (x : Int) : PanicEntry := { v := .iface 34 (.int .i64 x), recovered := false }
theorem refuse_no (x : Int) (w : World) : Calls Tryz.prog 100 #[.bool false, .int .i64 x] w fun e w' => e = .returned (.tuple #[]) ∧ w' = w := by
  go_enter Tryz.func100, Tryz.ntmps100
  go_wp2_with (fail)
  go_end0
  exact ⟨rfl, rfl⟩
theorem refuse_yes (x : Int) (w : World) : Calls Tryz.prog 100 #[.bool true, .int .i64 x] w fun e w' => e = .panicked [pe x] ∧ w' = w := by
  go_enter Tryz.func100, Tryz.ntmps100
  go_wp2_with (fail)
  exact ⟨rfl, rfl, rfl⟩

theorem catch_panicking (p : Addr) (x y : Int) (older : List PanicEntry) (w : World) (hc : w.cell? p = some (.int .i64 y)) (hz : w.frozen? p = false) :
    CallsD Tryz.prog 62 #[.pointer (some p)] (.panicking (pe x :: older)) w fun e u' w' =>
      e = .returned (.tuple #[]) ∧ u' = .panicking ({ pe x with recovered := true } :: older) ∧ w' = w.setCell p (.int .i64 x) := by
  have hta : ∀ w : World, (Instr.typeAssert (.iface 34 (.int .i64 x)) 20 34 false).run Tryz.prog w = .ok (.int .i64 x) w := fun w => by kernel_rfl
  refine callsD_of_wpS Tryz.func62 rfl fun c₀ cs hu => ?_
  apply wpS_seq
  apply wpS_region
  simp [wpOpsS, go_sem, recoverD, hu, pe, Tryz.ntmps62, Exit.thenS]
  apply wpS_seq
  apply wpS_region
  simp [wpOpsS, go_sem, Exit.thenS]
  refine wpS_cond (t := true) (by simp [Act.eval, Array.replicate]) ?_
  simp only [if_true]
  apply wpS_region
  simp [wpOpsS, go_sem, hta, hc, hz, bodyPostS, results, Tryz.results62]
theorem catch_idle (p : Addr) (w : World) :
    CallsD Tryz.prog 62 #[.pointer (some p)] .returning w fun e u' w' => e = .returned (.tuple #[]) ∧ u' = .returning ∧ w' = w := by
  refine callsD_of_wpS Tryz.func62 rfl fun c₀ cs hu => ?_
  apply wpS_seq
  apply wpS_region
  simp [wpOpsS, go_sem, recoverD, hu, Tryz.ntmps62, Exit.thenS]
  apply wpS_seq
  apply wpS_region
  simp [wpOpsS, go_sem, Exit.thenS]
  refine wpS_cond (t := false) (by simp [Act.eval, Array.replicate]) ?_
  simp only [Bool.false_eq_true, if_false]
  refine wpS_of_wp (wp_skip ?_)
  cases c₀
  simp_all [bodyPostS, results, Tryz.results62]
/-- A work that may end in a panic by an error's number: what tried tells of it. -/
theorem tried_do (p q r : Addr) (w : World) (R : Int → World → Prop)
    (h : Calls Tryz.prog 38 #[.pointer (some p), .pointer (some q), .pointer (some r)] (w.alloc (.cells #[.int .i64 0] 34 (0, 0))) fun e w' => ∃ x, ((e = .returned (.tuple #[]) ∧ x = 0) ∨ e = .panicked [pe x]) ∧
      w'.cell? ⟨w.heap.size, 0, none⟩ = some (.int .i64 0) ∧ w'.frozen? ⟨w.heap.size, 0, none⟩ = false ∧ R x w') :
    Calls Tryz.prog 37 #[.func (.func 38) #[] #[.pointer (some p), .pointer (some q), .pointer (some r)]] w fun e w' =>
      ∃ x w1, e = .returned (.int .i64 x) ∧ R x w1 ∧ w' = w1.setCell ⟨w.heap.size, 0, none⟩ (.int .i64 x) := by
  have hmf : ∀ (fn : Fn) (first cap : Array Value) (w : World), (Instr.makeFunc fn first cap).run Tryz.prog w = .ok (.func fn first cap) w := fun _ _ _ _ => rfl
  go_enter_defers Tryz.func37, Tryz.ntmps37
  go_wp2_with (fail)
  refine h.mono ?_
  rintro e w1 ⟨x, (⟨rfl, rfl⟩ | rfl), hc, hz, hR⟩
  · go_wp2_with (fail)
    refine leaves_cons (f := 62) (args := #[.pointer (some ⟨w.heap.size, 0, none⟩)]) (by simp) (by simp [go_sem]) ?_
    refine (catch_idle ⟨w.heap.size, 0, none⟩ _).mono ?_
    rintro e u' w'' ⟨rfl, rfl, rfl⟩
    have hb := World.block_lt_of_cell? w1 _ hc
    have hcs : (w1.setCell ⟨w.heap.size, 0, none⟩ (.int .i64 0)).cell? ⟨w.heap.size, 0, none⟩ = some (.int .i64 0) := World.cell?_setCell_same _ _ _ hc
    simp [Leaves, settle, results, Tryz.results37, go_sem, hcs]
    exact ⟨_, hR, rfl⟩
  · go_wp2_with (fail)
    refine leaves_cons (f := 62) (args := #[.pointer (some ⟨w.heap.size, 0, none⟩)]) (by simp) (by simp [go_sem]) ?_
    refine (catch_panicking ⟨w.heap.size, 0, none⟩ x 0 [] _ hc hz).mono ?_
    rintro e u' w'' ⟨rfl, rfl, rfl⟩
    have hcs : (w1.setCell ⟨w.heap.size, 0, none⟩ (.int .i64 x)).cell? ⟨w.heap.size, 0, none⟩ = some (.int .i64 x) := World.cell?_setCell_same _ _ _ hc
    simp [Leaves, settle, results, Tryz.results37, go_sem, hcs]
    exact ⟨_, hR, rfl⟩
/-- A work that may end in a panic by an error's number: what tried tells of it. -/
theorem tried_find (p q r : Addr) (w : World) (R : Int → World → Prop)
    (h : Calls Tryz.prog 45 #[.pointer (some p), .pointer (some q), .pointer (some r)] (w.alloc (.cells #[.int .i64 0] 34 (0, 0))) fun e w' => ∃ x, ((e = .returned (.tuple #[]) ∧ x = 0) ∨ e = .panicked [pe x]) ∧
      w'.cell? ⟨w.heap.size, 0, none⟩ = some (.int .i64 0) ∧ w'.frozen? ⟨w.heap.size, 0, none⟩ = false ∧ R x w') :
    Calls Tryz.prog 37 #[.func (.func 45) #[] #[.pointer (some p), .pointer (some q), .pointer (some r)]] w fun e w' =>
      ∃ x w1, e = .returned (.int .i64 x) ∧ R x w1 ∧ w' = w1.setCell ⟨w.heap.size, 0, none⟩ (.int .i64 x) := by
  have hmf : ∀ (fn : Fn) (first cap : Array Value) (w : World), (Instr.makeFunc fn first cap).run Tryz.prog w = .ok (.func fn first cap) w := fun _ _ _ _ => rfl
  go_enter_defers Tryz.func37, Tryz.ntmps37
  go_wp2_with (fail)
  refine h.mono ?_
  rintro e w1 ⟨x, (⟨rfl, rfl⟩ | rfl), hc, hz, hR⟩
  · go_wp2_with (fail)
    refine leaves_cons (f := 62) (args := #[.pointer (some ⟨w.heap.size, 0, none⟩)]) (by simp) (by simp [go_sem]) ?_
    refine (catch_idle ⟨w.heap.size, 0, none⟩ _).mono ?_
    rintro e u' w'' ⟨rfl, rfl, rfl⟩
    have hb := World.block_lt_of_cell? w1 _ hc
    have hcs : (w1.setCell ⟨w.heap.size, 0, none⟩ (.int .i64 0)).cell? ⟨w.heap.size, 0, none⟩ = some (.int .i64 0) := World.cell?_setCell_same _ _ _ hc
    simp [Leaves, settle, results, Tryz.results37, go_sem, hcs]
    exact ⟨_, hR, rfl⟩
  · go_wp2_with (fail)
    refine leaves_cons (f := 62) (args := #[.pointer (some ⟨w.heap.size, 0, none⟩)]) (by simp) (by simp [go_sem]) ?_
    refine (catch_panicking ⟨w.heap.size, 0, none⟩ x 0 [] _ hc hz).mono ?_
    rintro e u' w'' ⟨rfl, rfl, rfl⟩
    have hcs : (w1.setCell ⟨w.heap.size, 0, none⟩ (.int .i64 x)).cell? ⟨w.heap.size, 0, none⟩ = some (.int .i64 x) := World.cell?_setCell_same _ _ _ hc
    simp [Leaves, settle, results, Tryz.results37, go_sem, hcs]
    exact ⟨_, hR, rfl⟩
end Go.Proofs.YtinholnidchblaaGreatDoor
