/-
  Records and pointers in plain words.
-/
import Derived.Test.YtgfakdjljcnpiaaFun
import Derived.Test.YtgfakdjljcnpiaaNought
import Derived.Test.YtgfakdjljcnpiaaInts
namespace Go.Proofs.Ytgfakdjljcnpiaa
open Go.RowKit
set_option linter.unusedVariables false
set_option linter.unusedSimpArgs false

theorem getN_app (p : List Int) (m : Nat) (n : Int) (q : List Int) (h0 : 0 ≤ n) (h1 : n < 256 ^ m) : getN (p ++ (digs m n ++ q)) p.length m = n := by
  induction m generalizing p n q with
  | zero => simp at h1; simp [getN]; omega
  | succ m ih =>
    rw [getN, digs]
    have e : p ++ (n % 256 :: digs m (n / 256) ++ q) = (p ++ [n % 256]) ++ (digs m (n / 256) ++ q) := by simp
    rw [e]
    have hl : p.length + 1 = (p ++ [n % 256]).length := by simp
    rw [hl, ih (p ++ [n % 256]) (n / 256) q (by omega) (by rw [Int.pow_succ] at h1; omega)]
    have hb : byt (p ++ [n % 256] ++ (digs m (n / 256) ++ q)) p.length = n % 256 := by
      unfold byt
      simp [List.getD]
    rw [hb]
    omega
theorem take_snoc {x : List Int} {p m : Nat} (h : p + (m + 1) ≤ x.length) : (x.drop p).take (m + 1) = byt x p :: (x.drop (p + 1)).take m := by
  rw [List.drop_eq_getElem_cons (by omega), List.take_succ_cons]
  congr 1
  simp [byt, List.getD, show p < x.length by omega]
theorem digs_get {x : List Int} (hx : AllB x) (p m : Nat) (h : p + m ≤ x.length) : digs m (getN x p m) = (x.drop p).take m := by
  induction m generalizing p with
  | zero => rfl
  | succ m ih =>
    have hb := byt_bd hx p
    rw [take_snoc h, getN, digs, ← ih (p + 1) (by omega)]
    congr 1
    · omega
    · congr 1; omega
theorem nought_rep {z : List Int} (h : noughtB z = true) : z = List.replicate z.length 0 := by
  unfold noughtB at h
  rw [List.all_eq_true] at h
  exact List.eq_replicate_iff.2 ⟨rfl, fun b hb => by simpa using h b hb⟩
theorem nought_of (n : Nat) : noughtB (List.replicate n 0) = true := by
  unfold noughtB
  rw [List.all_eq_true]
  intro z hz
  simp [(List.mem_replicate.1 hz).2]
abbrev Z (n : Nat) : List Int := List.replicate n 0
theorem hasW_lt1 {n : Int} (h : hasW n 1 = true) : 0 ≤ n ∧ n < 256 ^ 1 := by
  have : 0 ≤ n ∧ n < 2 ^ (8 * (1 : Int)).toNat := of_decide_eq_true h
  simpa using this
theorem hasW_lt4 {n : Int} (h : hasW n 4 = true) : 0 ≤ n ∧ n < 256 ^ 4 := by
  have : 0 ≤ n ∧ n < 2 ^ (8 * (4 : Int)).toNat := of_decide_eq_true h
  simpa using this
theorem hasW1_of {n : Int} (h : 0 ≤ n ∧ n < 256 ^ 1) : hasW n 1 = true := decide_eq_true (by simpa using h)
theorem hasW4_of {n : Int} (h : 0 ≤ n ∧ n < 256 ^ 4) : hasW n 4 = true := decide_eq_true (by simpa using h)
theorem putL1 {n : Int} (h : hasW n 1 = true) : putL 1 n = digs 1 n := putL_yes (m := 1) (by omega) (by omega) h
theorem putL4 {n : Int} (h : hasW n 4 = true) : putL 4 n = digs 4 n := putL_yes (m := 4) (by omega) (by omega) h

theorem getV_in {x : List Int} {p m : Nat} (h1 : 1 ≤ m) (h4 : m ≤ 4) (h : p + m ≤ x.length) : getV x.length x p m = getN x p m := by
  rw [getV, if_pos (getO_yes h1 h4 h)]
  simp
theorem getV_w {x : List Int} (hx : AllB x) {p : Int} {m : Nat} (_ : 1 ≤ m) (_ : m ≤ 4) : 0 ≤ getV x.length x p m ∧ getV x.length x p m < 256 ^ m := by
  unfold getV
  split
  · have := getN_bd hx p.toNat m
    simpa using this
  · exact ⟨Int.le_refl _, Int.pow_pos (by omega)⟩
theorem drop_take (x : List Int) (p m q : Nat) : ((x.drop p).take (m + q)) = (x.drop p).take m ++ (x.drop (p + m)).take q := by
  rw [List.take_add, List.drop_drop]

/-- A mark's bytes are known by their start, their noughts. -/
theorem hasW2_of {n : Int} (h : 0 ≤ n ∧ n ≤ 65535) : hasW n 2 = true := decide_eq_true (by simpa using (by omega : 0 ≤ n ∧ n < 65536))
theorem putL2 {n : Int} (h : 0 ≤ n ∧ n ≤ 65535) : putL 2 n = digs 2 n := putL_yes (m := 2) (by omega) (by omega) (hasW2_of h)

/-- A size's blocks. -/
def blkN (s : Int) : Int := if 0 ≤ s ∧ s ≤ 46368 then (s + 55) / 56 else 0
def szO (s : Int) : Bool := decide (0 ≤ s ∧ s ≤ 46368)
/-- May this be a pointer? -/
def ptO (p : Int) : Bool := decide (0 ≤ p ∧ p ≤ 65535)
theorem ptO_iff {p : Int} : ptO p = true ↔ 0 ≤ p ∧ p ≤ 65535 := by simp [ptO]
/-- The first block that a record's pointer tells. -/
def ftI (i : Nat) : Int := if i = 16 then 16 else if i = 17 then 44 else (i : Int)
/-- Is this pointer such, and 0 where it tells no block? -/
def atO (f : Nat → Int) (i : Nat) : Bool := ptO (f (3 + i)) && (decide (f (3 + i) = 0) || decide (ftI i < blkN (f 2)))
def pwO (f : Nat → Int) : Bool := (List.range 18).all (atO f)
theorem pwO_iff {f : Nat → Int} : pwO f = true ↔ ∀ i, i < 18 → atO f i = true := by
  simp [pwO, List.all_eq_true]
/-- Is a record right? -/
def rgO (f : Nat → Int) : Bool := (decide (f 0 = 1) || decide (f 0 = 2)) && decide (1 ≤ f 1) && decide (f 1 ≤ 65535) && szO (f 2) && pwO f
structure RgR (f : Nat → Int) : Prop where
  kind : f 0 = 1 ∨ f 0 = 2
  l1 : 1 ≤ f 1
  l2 : f 1 ≤ 65535
  s0 : 0 ≤ f 2
  s1 : f 2 ≤ 46368
  pts : ∀ i, i < 18 → atO f i = true
theorem rgO_iff {f : Nat → Int} : rgO f = true ↔ RgR f := by
  constructor
  · intro h
    simp only [rgO, szO, Bool.and_eq_true, Bool.or_eq_true, decide_eq_true_eq, pwO_iff] at h
    obtain ⟨⟨⟨⟨h1, h2⟩, h3⟩, h4, h5⟩, h6⟩ := h
    exact ⟨h1, h2, h3, h4, h5, h6⟩
  · intro h
    simp only [rgO, szO, Bool.and_eq_true, Bool.or_eq_true, decide_eq_true_eq, pwO_iff]
    exact ⟨⟨⟨⟨h.kind, h.l1⟩, h.l2⟩, h.s0, h.s1⟩, h.pts⟩
theorem RgR.pt {f : Nat → Int} (h : RgR f) {i : Nat} (hi : i < 18) : 0 ≤ f (3 + i) ∧ f (3 + i) ≤ 65535 := by
  have := h.pts i hi
  simp only [atO, Bool.and_eq_true] at this
  exact ptO_iff.1 this.1
theorem rgO_congr {f g : Nat → Int} (h : ∀ i, i < 21 → f i = g i) : rgO f = rgO g := by
  have e : pwO f = pwO g := by
    rw [Bool.eq_iff_iff, pwO_iff, pwO_iff]
    refine forall_congr' fun i => forall_congr' fun hi => ?_
    rw [atO, atO, h (3 + i) (by omega), h 2 (by omega)]
  rw [rgO, rgO, e, h 0 (by omega), h 1 (by omega), h 2 (by omega)]

/-- Pointers' bytes. -/
def ptsL (g : Nat → Int) : Nat → List Int
  | 0 => []
  | k + 1 => ptsL g k ++ digs 2 (g k)
theorem ptsL_len (g : Nat → Int) (k : Nat) : (ptsL g k).length = 2 * k := by
  induction k with
  | zero => rfl
  | succ k ih => simp [ptsL, ih, digs_len]; omega
theorem ptsL_small (g : Nat → Int) (k : Nat) : AllB (ptsL g k) := by
  induction k with
  | zero => intro z hz; cases hz
  | succ k ih => exact ih.app (digs_small _ _)
theorem ptsL_congr {g h : Nat → Int} {n : Nat} (e : ∀ i, i < n → g i = h i) : ptsL g n = ptsL h n := by
  induction n with
  | zero => rfl
  | succ n ih => rw [ptsL, ptsL, ih fun i hi => e i (by omega), e n (by omega)]
/-- A pointer's place among pointers. -/
theorem ptsL_at (g : Nat → Int) {k n : Nat} (h : k < n) : ∃ t, ptsL g n = ptsL g k ++ (digs 2 (g k) ++ t) := by
  induction n with
  | zero => omega
  | succ n ih =>
    by_cases hk : k = n
    · subst hk; exact ⟨[], by rw [ptsL]; simp⟩
    · obtain ⟨t, ht⟩ := ih (by omega)
      exact ⟨t ++ digs 2 (g n), by rw [ptsL, ht]; simp⟩
/-- A record's bytes as far as its first k pointers. -/
def hdL (f : Nat → Int) : List Int := digs 1 (f 0) ++ digs 2 (f 1) ++ digs 4 (f 2)
def recP (f : Nat → Int) (k : Nat) : List Int := hdL f ++ ptsL (fun i => f (3 + i)) k
theorem hdL_len (f : Nat → Int) : (hdL f).length = 7 := by simp [hdL, digs_len]
theorem recP_succ (f : Nat → Int) (k : Nat) : recP f (k + 1) = recP f k ++ digs 2 (f (3 + k)) := by simp [recP, ptsL]
theorem recP_len (f : Nat → Int) (k : Nat) : (recP f k).length = 7 + 2 * k := by simp [recP, hdL_len, ptsL_len]
theorem recP_small (f : Nat → Int) (k : Nat) : AllB (recP f k) := (((digs_small _ _).app (digs_small _ _)).app (digs_small _ _)).app (ptsL_small _ _)
/-- A record's bytes. -/
def recB (f : Nat → Int) : List Int := padL (recP f 18) 56
theorem recB_eq (f : Nat → Int) : recB f = recP f 18 ++ Z 13 := by rw [recB, padL, recP_len]
theorem recB_len (f : Nat → Int) : (recB f).length = 56 := by rw [recB_eq]; simp [recP_len]
theorem recB_small (f : Nat → Int) : AllB (recB f) := by rw [recB_eq]; exact (recP_small _ _).app (AllB.zeros _)
theorem recB_drop (f : Nat → Int) : noughtB ((recB f).drop 43) = true := by
  rw [recB_eq, List.drop_append_of_le_length (by rw [recP_len]; omega), List.drop_of_length_le (by rw [recP_len]; omega)]
  exact nought_of 13
/-- Where a record's number stands, and how wide it is. -/
def posR (i : Nat) : Nat := if i = 0 then 0 else if i = 1 then 1 else if i = 2 then 3 else 7 + 2 * (i - 3)
def widR (i : Nat) : Nat := if i = 0 then 1 else if i = 2 then 4 else 2
/-- What stands in bytes where a record has its numbers. -/
def tld (x : List Int) (i : Nat) : Int := getV x.length x (posR i) (widR i)
theorem wid_bd (i : Nat) : 1 ≤ widR i ∧ widR i ≤ 4 := by unfold widR; split; omega; split <;> omega
theorem pos_bd {i : Nat} (h : i < 21) : posR i + widR i ≤ 43 := by
  by_cases h0 : i = 0
  · subst h0; decide
  · by_cases h1 : i = 1
    · subst h1; decide
    · by_cases h2 : i = 2
      · subst h2; decide
      · unfold posR widR
        rw [if_neg h0, if_neg h1, if_neg h2, if_neg h0, if_neg h2]
        omega
theorem tld_in {x : List Int} (hx : x.length = 56) {i : Nat} (h : i < 21) : tld x i = getN x (posR i) (widR i) :=
  getV_in (wid_bd i).1 (wid_bd i).2 (by have := pos_bd h; omega)
/-- Records that are put are got again. -/
theorem tld_rec {f : Nat → Int} (h : RgR f) {i : Nat} (hi : i < 21) : tld (recB f) i = f i := by
  rw [tld_in (recB_len f) hi, recB_eq]
  have hk := h.kind; have h1 := h.l1; have h2 := h.l2; have h3 := h.s0; have h4 := h.s1
  by_cases e0 : i = 0
  · subst e0
    have := getN_app [] 1 (f 0) (digs 2 (f 1) ++ digs 4 (f 2) ++ ptsL (fun i => f (3 + i)) 18 ++ Z 13) (by omega) (by omega)
    refine Eq.trans ?_ this
    rw [show posR 0 = 0 from rfl, show widR 0 = 1 from rfl]
    simp only [recP, hdL, List.append_assoc, List.nil_append, List.length_nil]
  · by_cases e1 : i = 1
    · subst e1
      have := getN_app (digs 1 (f 0)) 2 (f 1) (digs 4 (f 2) ++ ptsL (fun i => f (3 + i)) 18 ++ Z 13) (by omega) (by omega)
      rw [digs_len] at this
      refine Eq.trans ?_ this
      rw [show posR 1 = 1 from rfl, show widR 1 = 2 from rfl]
      simp only [recP, hdL, List.append_assoc, List.nil_append, List.length_nil]
    · by_cases e2 : i = 2
      · subst e2
        have := getN_app (digs 1 (f 0) ++ digs 2 (f 1)) 4 (f 2) (ptsL (fun i => f (3 + i)) 18 ++ Z 13) (by omega) (by omega)
        rw [show (digs 1 (f 0) ++ digs 2 (f 1)).length = 3 by simp [digs_len]] at this
        refine Eq.trans ?_ this
        rw [show posR 2 = 3 from rfl, show widR 2 = 4 from rfl]
        simp only [recP, hdL, List.append_assoc, List.nil_append, List.length_nil]
      · obtain ⟨k, rfl⟩ : ∃ k, i = 3 + k := ⟨i - 3, by omega⟩
        have hp := h.pt (i := k) (by omega)
        obtain ⟨t, ht⟩ := ptsL_at (fun i => f (3 + i)) (show k < 18 by omega)
        have := getN_app (recP f k) 2 (f (3 + k)) (t ++ Z 13) (by omega) (by omega)
        rw [recP_len] at this
        have ep : posR (3 + k) = 7 + 2 * k := by unfold posR; rw [if_neg (by omega), if_neg (by omega), if_neg (by omega)]; omega
        have ew : widR (3 + k) = 2 := by unfold widR; rw [if_neg (by omega), if_neg (by omega)]
        rw [ep, ew]
        refine Eq.trans ?_ this
        refine congrArg (fun l => getN l (7 + 2 * k) 2) ?_
        rw [recP, recP, ht]
        simp only [List.append_assoc]
theorem take_add' (x : List Int) (p q : Nat) : x.take (p + q) = x.take p ++ (x.drop p).take q := by
  have := drop_take x 0 p q
  simpa using this
/-- Bytes that have the form are those of what they tell. -/
theorem recP_tld {x : List Int} (hx : AllB x) (hl : x.length = 56) {k : Nat} (hk : k ≤ 18) : recP (tld x) k = x.take (7 + 2 * k) := by
  induction k with
  | zero =>
    rw [recP, ptsL, List.append_nil, hdL, tld_in hl (by omega), tld_in hl (by omega), tld_in hl (by omega)]
    show digs 1 (getN x 0 1) ++ digs 2 (getN x 1 2) ++ digs 4 (getN x 3 4) = x.take 7
    rw [digs_get hx 0 1 (by omega), digs_get hx 1 2 (by omega), digs_get hx 3 4 (by omega)]
    rw [show (7 : Nat) = 3 + 4 from rfl, take_add' x 3 4, show (3 : Nat) = 1 + 2 from rfl, take_add' x 1 2]
    simp
  | succ k ih =>
    rw [recP_succ, ih (by omega), tld_in hl (by omega)]
    have ep : posR (3 + k) = 7 + 2 * k := by unfold posR; rw [if_neg (by omega), if_neg (by omega), if_neg (by omega)]; omega
    have ew : widR (3 + k) = 2 := by unfold widR; rw [if_neg (by omega), if_neg (by omega)]
    rw [ep, ew, digs_get hx (7 + 2 * k) 2 (by omega), show 7 + 2 * (k + 1) = (7 + 2 * k) + 2 by omega, take_add' x (7 + 2 * k) 2]
theorem recB_tld {x : List Int} (hx : AllB x) (hl : x.length = 56) (h0 : noughtB (x.drop 43) = true) : recB (tld x) = x := by
  rw [recB_eq, recP_tld hx hl (Nat.le_refl _)]
  have h1 := nought_rep h0
  rw [List.length_drop, hl] at h1
  show x.take 43 ++ List.replicate 13 0 = x
  rw [← show x.drop 43 = List.replicate 13 0 from h1]
  exact List.take_append_drop 43 x
/-- Are bytes a right record's? By the program's way, and by the document's. -/
def okG (x : List Int) : Bool := rgO (tld x) && sameB (recB (tld x)) x
def okD (x : List Int) : Bool := decide (x.length = 56) && noughtB (x.drop 43) && rgO (tld x)
theorem okG_okD {x : List Int} (hx : AllB x) : okG x = okD x := by
  rw [Bool.eq_iff_iff]
  constructor
  · intro h
    simp only [okG, Bool.and_eq_true] at h
    have e : recB (tld x) = x := by simpa [sameB] using h.2
    simp only [okD, Bool.and_eq_true, decide_eq_true_eq]
    exact ⟨⟨by rw [← e]; exact recB_len _, by rw [← e]; exact recB_drop _⟩, h.1⟩
  · intro h
    simp only [okD, Bool.and_eq_true, decide_eq_true_eq] at h
    simp only [okG, Bool.and_eq_true]
    exact ⟨h.2, sameB_true (recB_tld hx h.1.1 h.1.2)⟩
theorem okG_rec {f : Nat → Int} (h : RgR f) : okG (recB f) = true := by
  rw [okG_okD (recB_small f)]
  simp only [okD, Bool.and_eq_true, decide_eq_true_eq]
  refine ⟨⟨recB_len f, recB_drop f⟩, ?_⟩
  rw [rgO_congr fun i hi => tld_rec h hi]
  exact rgO_iff.2 h
theorem okG_put {x : List Int} (hx : AllB x) (h : okG x = true) : recB (tld x) = x ∧ RgR (tld x) := by
  simp only [okG, Bool.and_eq_true] at h
  exact ⟨by simpa [sameB] using h.2, rgO_iff.1 h.1⟩
/-- The record that Get answers. -/
def gR (x : List Int) (i : Nat) : Int := if okG x then tld x i else 0
/-- Bytes turned at one place tell another record. -/
theorem tld_turn {f : Nat → Int} (h : RgR f) {y : List Int} (hy : AllB y) (hne : y ≠ recB f) (ho : okG y = true) : ∃ i, i < 21 ∧ tld y i ≠ f i := by
  refine Classical.byContradiction fun hc => hne ?_
  have he : ∀ i, i < 21 → tld y i = f i := fun i hi => Classical.byContradiction fun hn => hc ⟨i, hi, hn⟩
  obtain ⟨e, _⟩ := okG_put hy ho
  rw [← e]
  have hd : hdL (tld y) = hdL f := by rw [hdL, hdL, he 0 (by omega), he 1 (by omega), he 2 (by omega)]
  have hp : ptsL (fun i => tld y (3 + i)) 18 = ptsL (fun i => f (3 + i)) 18 := ptsL_congr fun i hi => he (3 + i) (by omega)
  rw [recB, recB, recP, recP, hd, hp]

/-- Pointers' blocks. -/
def ppO (ks : List Int) : Bool := decide (ks.length ≤ 28) && ks.all ptO
def ppL (ks : List Int) : List Int := padL (ptsL (num ks) ks.length) 56
theorem ppL_eq {ks : List Int} (h : ks.length ≤ 28) : ppL ks = ptsL (num ks) ks.length ++ Z (56 - 2 * ks.length) := by rw [ppL, padL, ptsL_len]
theorem ppL_len {ks : List Int} (h : ks.length ≤ 28) : (ppL ks).length = 56 := padL_len (by rw [ptsL_len]; omega)
theorem ppL_small (ks : List Int) : AllB (ppL ks) := padL_small (ptsL_small _ _) _
/-- The pointers of bytes. -/
def gpL (x : List Int) : Nat → List Int
  | 0 => []
  | k + 1 => gpL x k ++ [getV x.length x ((2 * k : Nat) : Int) 2]
theorem gpL_len (x : List Int) (k : Nat) : (gpL x k).length = k := by
  induction k with
  | zero => rfl
  | succ k ih => simp [gpL, ih]
theorem gpL_num (x : List Int) {k i : Nat} (h : i < k) : num (gpL x k) i = getV x.length x ((2 * i : Nat) : Int) 2 := by
  induction k with
  | zero => omega
  | succ k ih =>
    by_cases hi : i = k
    · subst hi
      simp [gpL, num, List.getD, gpL_len]
    · rw [← ih (by omega)]
      simp [gpL, num, List.getD, List.getElem?_append_left (show i < (gpL x k).length by rw [gpL_len]; omega)]
theorem gp_put {ks : List Int} (h : ks.length ≤ 28) (hp : ∀ i, i < ks.length → 0 ≤ num ks i ∧ num ks i ≤ 65535) {i : Nat} (hi : i < 28) : num (gpL (ppL ks) 28) i = num ks i := by
  rw [gpL_num _ hi]
  have e : getV (ppL ks).length (ppL ks) ((2 * i : Nat) : Int) 2 = getN (ppL ks) (2 * i) 2 := getV_in (p := 2 * i) (m := 2) (by omega) (by omega) (by rw [ppL_len h]; omega)
  rw [e, ppL_eq h]
  by_cases hlt : i < ks.length
  · obtain ⟨t, ht⟩ := ptsL_at (num ks) hlt
    have := getN_app (ptsL (num ks) i) 2 (num ks i) (t ++ Z (56 - 2 * ks.length)) (hp i hlt).1 (by have := (hp i hlt).2; omega)
    rw [ptsL_len] at this
    rw [ht]
    refine Eq.trans ?_ this
    refine congrArg (fun l => getN l (2 * i) 2) ?_
    simp only [List.append_assoc]
  · have h0 : num ks i = 0 := by simp [num, List.getD, List.getElem?_eq_none (show ks.length ≤ i by omega)]
    rw [h0]
    have hb : ∀ j, 2 * ks.length ≤ j → byt (ptsL (num ks) ks.length ++ Z (56 - 2 * ks.length)) j = 0 := fun j hj => by
      unfold byt
      rw [List.getD_eq_getElem?_getD, List.getElem?_append_right (by rw [ptsL_len]; exact hj), ← List.getD_eq_getElem?_getD]
      exact byt_zero _ _
    simp [getN, hb (2 * i) (by omega), hb (2 * i + 1) (by omega)]

end Go.Proofs.Ytgfakdjljcnpiaa
