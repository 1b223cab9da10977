/-
  Records in plain words: what they hold, and how they are known.
-/
import Derived.Test.YtgdkcdgomopnfaaGetX
namespace Go.Proofs.Ytgdkcdgomopnfaa
open Go.RowKit

theorem getN_app (p : List Int) (m : Nat) (n : Int) (q : List Int) (h0 : 0 ≤ n) (h1 : n < 256 ^ m) : getN (p ++ (digs m n ++ q)) p.length m = n := by
  induction m generalizing p n q with
  | zero => simp at h1; simp [getN]; omega
  | succ m ih =>
    rw [getN, digs]
    have e : p ++ (n % 256 :: digs m (n / 256) ++ q) = (p ++ [n % 256]) ++ (digs m (n / 256) ++ q) := by simp
    rw [e]
    have hl : p.length + 1 = (p ++ [n % 256]).length := by simp
    rw [hl, ih (p ++ [n % 256]) (n / 256) q (by omega) (by rw [Int.pow_succ] at h1; omega)]
    have hb : byt (p ++ [n % 256] ++ (digs m (n / 256) ++ q)) p.length = n % 256 := by
      unfold byt
      simp [List.getD]
    rw [hb]
    omega
theorem take_snoc {x : List Int} {p m : Nat} (h : p + (m + 1) ≤ x.length) : (x.drop p).take (m + 1) = byt x p :: (x.drop (p + 1)).take m := by
  rw [List.drop_eq_getElem_cons (by omega), List.take_succ_cons]
  congr 1
  simp [byt, List.getD, show p < x.length by omega]
theorem digs_get {x : List Int} (hx : AllB x) (p m : Nat) (h : p + m ≤ x.length) : digs m (getN x p m) = (x.drop p).take m := by
  induction m generalizing p with
  | zero => rfl
  | succ m ih =>
    have hb := byt_bd hx p
    rw [take_snoc h, getN, digs, ← ih (p + 1) (by omega)]
    congr 1
    · omega
    · congr 1; omega
theorem nought_rep {z : List Int} (h : noughtB z = true) : z = List.replicate z.length 0 := by
  unfold noughtB at h
  rw [List.all_eq_true] at h
  exact List.eq_replicate_iff.2 ⟨rfl, fun b hb => by simpa using h b hb⟩
theorem nought_of (n : Nat) : noughtB (List.replicate n 0) = true := by
  unfold noughtB
  rw [List.all_eq_true]
  intro z hz
  simp [(List.mem_replicate.1 hz).2]
abbrev Z (n : Nat) : List Int := List.replicate n 0
theorem hasW_lt1 {n : Int} (h : hasW n 1 = true) : 0 ≤ n ∧ n < 256 ^ 1 := by
  have : 0 ≤ n ∧ n < 2 ^ (8 * (1 : Int)).toNat := of_decide_eq_true h
  simpa using this
theorem hasW_lt4 {n : Int} (h : hasW n 4 = true) : 0 ≤ n ∧ n < 256 ^ 4 := by
  have : 0 ≤ n ∧ n < 2 ^ (8 * (4 : Int)).toNat := of_decide_eq_true h
  simpa using this
theorem hasW1_of {n : Int} (h : 0 ≤ n ∧ n < 256 ^ 1) : hasW n 1 = true := decide_eq_true (by simpa using h)
theorem hasW4_of {n : Int} (h : 0 ≤ n ∧ n < 256 ^ 4) : hasW n 4 = true := decide_eq_true (by simpa using h)
theorem putL1 {n : Int} (h : hasW n 1 = true) : putL 1 n = digs 1 n := putL_yes (m := 1) (by omega) (by omega) h
theorem putL4 {n : Int} (h : hasW n 4 = true) : putL 4 n = digs 4 n := putL_yes (m := 4) (by omega) (by omega) h

theorem markO_iff (s : Int) : markO s = hasW s 4 := by show (true && hasW s 4) = _; rw [Bool.true_and]
theorem markL_yes {s : Int} (h : hasW s 4 = true) : markL s = startL 2 ++ (digs 4 s ++ Z 56) := by
  have ho : recO 2 [s] = true := (markO_iff s).trans h
  rw [markL, recL, ho, if_pos rfl, padL]
  have e : bodyL 2 [s] (wids 2).length = startL 2 ++ digs 4 s := by
    show startL 2 ++ ([] ++ putL 4 s) = _
    rw [List.nil_append, putL4 h]
  rw [e, show (startL 2 ++ digs 4 s).length = 8 by simp [startL, digs_len], List.append_assoc]
theorem rec3 {k a b c wa : Int} {n : Nat} (_ : k = 1 ∨ k = 3) (hw : wids k = [wa, 1, 1]) (hn : (n : Int) = wa) (h1 : 1 ≤ n) (h4 : n ≤ 4) (ha : hasW a n = true) (hb : hasW b 1 = true) (hc : hasW c 1 = true) :
    recO k [a, b, c] = true ∧ recL k [a, b, c] = startL k ++ (digs n a ++ (digs 1 b ++ (digs 1 c ++ Z (58 - n)))) := by
  have ho : recO k [a, b, c] = true := by
    unfold recO
    rw [hw]
    show (((true && hasW a wa) && hasW b 1) && hasW c 1) = true
    rw [← hn, ha, hb, hc]
    rfl
  refine ⟨ho, ?_⟩
  rw [recL, ho, if_pos rfl, padL]
  have e : bodyL k [a, b, c] (wids k).length = startL k ++ digs n a ++ digs 1 b ++ digs 1 c := by
    unfold bodyL
    rw [hw]
    show startL k ++ ((([] ++ putL wa a) ++ putL 1 b) ++ putL 1 c) = _
    rw [← hn, putL_yes h1 h4 ha, putL1 hb, putL1 hc]
    simp
  rw [e]
  simp only [List.append_assoc, List.length_append, digs_len, startL, List.length_cons, List.length_nil]
  congr 5
  omega
theorem superL_yes {d r s : Int} (h : rtB d r s = true) : superL d r s = startL 1 ++ (digs 1 d ++ (digs 1 r ++ (digs 1 s ++ Z 57))) := by
  rw [superL, h, if_pos rfl]
  have hr := rtB_rt h
  have hd := hr.d1; have hd2 := hr.d2; have hr1 := hr.r1; have hr2 := hr.r2; have hs := hr.s1; have hs2 := hr.s2
  exact (rec3 (wa := 1) (n := 1) (.inl rfl) rfl rfl (by omega) (by omega) (hasW1_of (by omega)) (hasW1_of (by omega)) (hasW1_of (by omega))).2
theorem memO_bd {e s t : Int} (h : memO e s t = true) : hasW e 4 = true ∧ hasW s 1 = true ∧ hasW t 1 = true ∧ memB s t = true := by
  rw [memO, Bool.and_eq_true] at h
  have h2 : (((true && hasW e 4) && hasW s 1) && hasW t 1) = true := h.2
  simp only [Bool.true_and, Bool.and_eq_true] at h2
  exact ⟨h2.1.1, h2.1.2, h2.2, h.1⟩
theorem memO_of {e s t : Int} (h1 : hasW e 4 = true) (h2 : hasW s 1 = true) (h3 : hasW t 1 = true) (h4 : memB s t = true) : memO e s t = true := by
  rw [memO, h4, Bool.true_and]
  exact (rec3 (wa := 4) (n := 4) (.inr rfl) rfl rfl (by omega) (by omega) h1 h2 h3).1
theorem memL_yes {e s t : Int} (h : memO e s t = true) : memL e s t = startL 3 ++ (digs 4 e ++ (digs 1 s ++ (digs 1 t ++ Z 54))) := by
  rw [memL, h, if_pos rfl]
  obtain ⟨h1, h2, h3, _⟩ := memO_bd h
  exact (rec3 (wa := 4) (n := 4) (.inr rfl) rfl rfl (by omega) (by omega) h1 h2 h3).2

/-- The kind that bytes tell. -/
theorem kind_at (k : Int) (z : List Int) : byt (startL k ++ z) 3 = k := rfl
theorem take_start (k : Int) (z : List Int) : (startL k ++ z).take 4 = startL k := rfl
theorem drop_start (k : Int) (z : List Int) (m : Nat) : (startL k ++ z).drop (4 + m) = z.drop m := by
  rw [Nat.add_comm]
  rfl
/-- What the document's reading of a record of a kind with s bytes of fields asks. -/
def fldO (k : Int) (s : Nat) (x : List Int) : Bool := decide (x.length = 64 ∧ x.take 4 = startL k) && noughtB (x.drop (4 + s))
theorem fld_split {k : Int} {s : Nat} {x : List Int} (h : fldO k s x = true) (hs : s ≤ 60) : x.length = 64 ∧ x = startL k ++ ((x.drop 4).take s ++ Z (60 - s)) := by
  rw [fldO, Bool.and_eq_true, decide_eq_true_eq] at h
  refine ⟨h.1.1, ?_⟩
  have e1 := nought_rep h.2
  rw [List.length_drop, h.1.1] at e1
  have e2 : x = x.take 4 ++ ((x.drop 4).take s ++ (x.drop 4).drop s) := by rw [List.take_append_drop, List.take_append_drop]
  rw [List.drop_drop, e1, h.1.2, show 64 - (4 + s) = 60 - s by omega] at e2
  exact e2
theorem fld_of {k : Int} {s : Nat} {z : List Int} (hz : z.length = s) (hs : s ≤ 60) : fldO k s (startL k ++ (z ++ Z (60 - s))) = true := by
  rw [fldO, Bool.and_eq_true, decide_eq_true_eq]
  refine ⟨⟨?_, take_start _ _⟩, ?_⟩
  · simp [startL, hz]; omega
  · rw [drop_start, ← hz, List.drop_left]
    exact nought_of _
theorem getV_in {x : List Int} {p m : Nat} (h1 : 1 ≤ m) (h4 : m ≤ 4) (h : p + m ≤ x.length) : getV x.length x p m = getN x p m := by
  rw [getV, if_pos (getO_yes h1 h4 h)]
  simp
theorem getV_w {x : List Int} (hx : AllB x) {p : Int} {m : Nat} (_ : 1 ≤ m) (_ : m ≤ 4) : 0 ≤ getV x.length x p m ∧ getV x.length x p m < 256 ^ m := by
  unfold getV
  split
  · have := getN_bd hx p.toNat m
    simpa using this
  · exact ⟨Int.le_refl _, Int.pow_pos (by omega)⟩
theorem hasW_of {n : Int} {m : Nat} (h : 0 ≤ n ∧ n < 256 ^ m) : hasW n m = true := hasW_yes h.1 (by rw [Int.pow_mul]; exact h.2)
theorem gmN_w {x : List Int} (hx : AllB x) : hasW (gmN x) 4 = true := hasW4_of (getV_w (m := 4) hx (by omega) (by omega))
theorem drop_take (x : List Int) (p m q : Nat) : ((x.drop p).take (m + q)) = (x.drop p).take m ++ (x.drop (p + m)).take q := by
  rw [List.take_add, List.drop_drop]

/-- A mark's bytes are known by their start, their noughts. -/
theorem gmO_iff {x : List Int} (hx : AllB x) : gmO x = fldO 2 4 x := by
  have hw := gmN_w hx
  rw [gmO, markO_iff, hw, Bool.true_and]
  cases hf : fldO 2 4 x
  · refine sameB_false fun e => ?_
    rw [← e, markL_yes hw] at hf
    have := fld_of (k := 2) (s := 4) (z := digs 4 (gmN x)) (digs_len _ _) (by omega)
    rw [this] at hf
    cases hf
  · obtain ⟨hl, hs⟩ := fld_split hf (by omega)
    refine sameB_true ?_
    rw [markL_yes hw]
    have e : digs 4 (gmN x) = (x.drop 4).take 4 := by
      rw [gmN, show getV x.length x 4 4 = getN x 4 4 from getV_in (p := 4) (m := 4) (by omega) (by omega) (by omega)]
      exact digs_get hx 4 4 (by omega)
    rw [e]
    exact hs.symm
theorem three_split {x : List Int} (hx : AllB x) (hl : x.length = 64) {m : Nat} (h4 : m ≤ 4) : (x.drop 4).take (m + (1 + 1)) = digs m (getN x 4 m) ++ (digs 1 (getN x (4 + m) 1) ++ digs 1 (getN x (4 + m + 1) 1)) := by
  rw [digs_get hx 4 m (by omega), digs_get hx (4 + m) 1 (by omega), digs_get hx (4 + m + 1) 1 (by omega), drop_take, drop_take]

theorem gsO_iff {x : List Int} (hx : AllB x) : gsO x = (fldO 1 3 x && rtB (gs1 x) (gs2 x) (gs3 x)) := by
  rw [gsO, Bool.and_comm]
  cases hr : rtB (gs1 x) (gs2 x) (gs3 x)
  · rw [Bool.and_false, Bool.and_false]
  rw [Bool.and_true, Bool.and_true]
  cases hf : fldO 1 3 x
  · refine sameB_false fun e => ?_
    rw [← e, superL_yes hr] at hf
    have := fld_of (k := 1) (s := 3) (z := digs 1 (gs1 x) ++ (digs 1 (gs2 x) ++ digs 1 (gs3 x))) rfl (by omega)
    simp only [List.append_assoc] at this hf
    rw [this] at hf
    cases hf
  · obtain ⟨hl, hs⟩ := fld_split hf (by omega)
    refine sameB_true ?_
    rw [superL_yes hr]
    have e := three_split hx hl (m := 1) (by omega)
    rw [show gs1 x = getN x 4 1 from getV_in (p := 4) (m := 1) (by omega) (by omega) (by omega), show gs2 x = getN x 5 1 from getV_in (p := 5) (m := 1) (by omega) (by omega) (by omega), show gs3 x = getN x 6 1 from getV_in (p := 6) (m := 1) (by omega) (by omega) (by omega)]
    have hs2 := hs.symm
    rw [show (3 : Nat) = 1 + (1 + 1) from rfl, e] at hs2
    simpa only [List.append_assoc] using hs2
theorem gbO_iff {x : List Int} (hx : AllB x) : gbO x = (fldO 3 6 x && memB (gb2 x) (gb3 x)) := by
  have hw1 : hasW (gb1 x) 4 = true := hasW4_of (getV_w (m := 4) hx (by omega) (by omega))
  have hw2 : hasW (gb2 x) 1 = true := hasW1_of (getV_w (m := 1) hx (by omega) (by omega))
  have hw3 : hasW (gb3 x) 1 = true := hasW1_of (getV_w (m := 1) hx (by omega) (by omega))
  have hm : memO (gb1 x) (gb2 x) (gb3 x) = memB (gb2 x) (gb3 x) := by
    cases hb : memB (gb2 x) (gb3 x)
    · rw [memO, hb]; rfl
    · exact memO_of hw1 hw2 hw3 hb
  rw [gbO, Bool.and_comm, hm]
  cases hr : memB (gb2 x) (gb3 x)
  · rw [Bool.and_false, Bool.and_false]
  rw [Bool.and_true, Bool.and_true]
  have ho := memO_of hw1 hw2 hw3 hr
  cases hf : fldO 3 6 x
  · refine sameB_false fun e => ?_
    rw [← e, memL_yes ho] at hf
    have := fld_of (k := 3) (s := 6) (z := digs 4 (gb1 x) ++ (digs 1 (gb2 x) ++ digs 1 (gb3 x))) rfl (by omega)
    simp only [List.append_assoc] at this hf
    rw [this] at hf
    cases hf
  · obtain ⟨hl, hs⟩ := fld_split hf (by omega)
    refine sameB_true ?_
    rw [memL_yes ho]
    have e := three_split hx hl (m := 4) (by omega)
    rw [show gb1 x = getN x 4 4 from getV_in (p := 4) (m := 4) (by omega) (by omega) (by omega), show gb2 x = getN x 8 1 from getV_in (p := 8) (m := 1) (by omega) (by omega) (by omega), show gb3 x = getN x 9 1 from getV_in (p := 9) (m := 1) (by omega) (by omega) (by omega)]
    have hs2 := hs.symm
    rw [show (6 : Nat) = 4 + (1 + 1) from rfl, e] at hs2
    simpa only [List.append_assoc] using hs2

end Go.Proofs.Ytgdkcdgomopnfaa
