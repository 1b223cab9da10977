/-
  Records and pointers in plain words.
-/
import Derived.Test.YtegcjpocdfmpfaaVab
set_option linter.unusedVariables false
set_option linter.unusedSimpArgs false
set_option maxRecDepth 100000
set_option maxHeartbeats 16000000
namespace Go.Proofs.Ytegcjpocdfmpfaa
open Go.RowKit

theorem getN_app (p : List Int) (m : Nat) (n : Int) (q : List Int) (h0 : 0 ≤ n) (h1 : n < 256 ^ m) : getN (p ++ (digs m n ++ q)) p.length m = n := by
  induction m generalizing p n q with
  | zero => simp at h1; simp [getN]; omega
  | succ m ih =>
    rw [getN, digs]
    have e : p ++ (n % 256 :: digs m (n / 256) ++ q) = (p ++ [n % 256]) ++ (digs m (n / 256) ++ q) := by simp
    rw [e]
    have hl : p.length + 1 = (p ++ [n % 256]).length := by simp
    rw [hl, ih (p ++ [n % 256]) (n / 256) q (by omega) (by rw [Int.pow_succ] at h1; omega)]
    have hb : byt (p ++ [n % 256] ++ (digs m (n / 256) ++ q)) p.length = n % 256 := by
      unfold byt
      simp [List.getD]
    rw [hb]
    omega
theorem take_snoc {x : List Int} {p m : Nat} (h : p + (m + 1) ≤ x.length) : (x.drop p).take (m + 1) = byt x p :: (x.drop (p + 1)).take m := by
  rw [List.drop_eq_getElem_cons (by omega), List.take_succ_cons]
  congr 1
  simp [byt, List.getD, show p < x.length by omega]
theorem digs_get {x : List Int} (hx : AllB x) (p m : Nat) (h : p + m ≤ x.length) : digs m (getN x p m) = (x.drop p).take m := by
  induction m generalizing p with
  | zero => rfl
  | succ m ih =>
    have hb := byt_bd hx p
    rw [take_snoc h, getN, digs, ← ih (p + 1) (by omega)]
    congr 1
    · omega
    · congr 1; omega
theorem nought_rep {z : List Int} (h : noughtB z = true) : z = List.replicate z.length 0 := by
  unfold noughtB at h
  rw [List.all_eq_true] at h
  exact List.eq_replicate_iff.2 ⟨rfl, fun b hb => by simpa using h b hb⟩
theorem nought_of (n : Nat) : noughtB (List.replicate n 0) = true := by
  unfold noughtB
  rw [List.all_eq_true]
  intro z hz
  simp [(List.mem_replicate.1 hz).2]
abbrev Z (n : Nat) : List Int := List.replicate n 0
theorem hasW1_of {n : Int} (h : 0 ≤ n ∧ n < 256 ^ 1) : hasW n 1 = true := decide_eq_true (by simpa using h)
theorem hasW4_of {n : Int} (h : 0 ≤ n ∧ n < 256 ^ 4) : hasW n 4 = true := decide_eq_true (by simpa using h)
theorem getV_in {x : List Int} {p m : Nat} (h1 : 1 ≤ m) (h4 : m ≤ 4) (h : p + m ≤ x.length) : getV x.length x p m = getN x p m := by
  rw [getV, if_pos (getO_yes h1 h4 h)]
  simp
theorem drop_take (x : List Int) (p m q : Nat) : ((x.drop p).take (m + q)) = (x.drop p).take m ++ (x.drop (p + m)).take q := by
  rw [List.take_add, List.drop_drop]

/-- A mark's bytes are known by their start, their noughts. -/
theorem hasW2_of {n : Int} (h : 0 ≤ n ∧ n ≤ 65535) : hasW n 2 = true := decide_eq_true (by simpa using (by omega : 0 ≤ n ∧ n < 65536))
/-- A size's blocks. -/
def blkN (s : Int) : Int := if 0 ≤ s ∧ s ≤ 46368 then (s + 55) / 56 else 0
def szO (s : Int) : Bool := decide (0 ≤ s ∧ s ≤ 46368)
/-- May this be a pointer? -/
def ptO (p : Int) : Bool := decide (0 ≤ p ∧ p ≤ 65535)
theorem ptO_iff {p : Int} : ptO p = true ↔ 0 ≤ p ∧ p ≤ 65535 := by simp [ptO]
/-- The first block that a record's pointer tells. -/
def ftI (i : Nat) : Int := if i = 16 then 16 else if i = 17 then 44 else (i : Int)
/-- Is this pointer such, and 0 where it tells no block? -/
def atO (f : Nat → Int) (i : Nat) : Bool := ptO (f (3 + i)) && (decide (f (3 + i) = 0) || decide (ftI i < blkN (f 2)))
def pwO (f : Nat → Int) : Bool := (List.range 18).all (atO f)
theorem pwO_iff {f : Nat → Int} : pwO f = true ↔ ∀ i, i < 18 → atO f i = true := by
  simp [pwO, List.all_eq_true]
/-- Is a record right? -/
def rgO (f : Nat → Int) : Bool := (decide (f 0 = 1) || decide (f 0 = 2)) && decide (1 ≤ f 1) && decide (f 1 ≤ 65535) && szO (f 2) && pwO f
structure RgR (f : Nat → Int) : Prop where
  kind : f 0 = 1 ∨ f 0 = 2
  l1 : 1 ≤ f 1
  l2 : f 1 ≤ 65535
  s0 : 0 ≤ f 2
  s1 : f 2 ≤ 46368
  pts : ∀ i, i < 18 → atO f i = true
theorem rgO_iff {f : Nat → Int} : rgO f = true ↔ RgR f := by
  constructor
  · intro h
    simp only [rgO, szO, Bool.and_eq_true, Bool.or_eq_true, decide_eq_true_eq, pwO_iff] at h
    obtain ⟨⟨⟨⟨h1, h2⟩, h3⟩, h4, h5⟩, h6⟩ := h
    exact ⟨h1, h2, h3, h4, h5, h6⟩
  · intro h
    simp only [rgO, szO, Bool.and_eq_true, Bool.or_eq_true, decide_eq_true_eq, pwO_iff]
    exact ⟨⟨⟨⟨h.kind, h.l1⟩, h.l2⟩, h.s0, h.s1⟩, h.pts⟩
theorem RgR.pt {f : Nat → Int} (h : RgR f) {i : Nat} (hi : i < 18) : 0 ≤ f (3 + i) ∧ f (3 + i) ≤ 65535 := by
  have := h.pts i hi
  simp only [atO, Bool.and_eq_true] at this
  exact ptO_iff.1 this.1
theorem rgO_congr {f g : Nat → Int} (h : ∀ i, i < 21 → f i = g i) : rgO f = rgO g := by
  have e : pwO f = pwO g := by
    rw [Bool.eq_iff_iff, pwO_iff, pwO_iff]
    refine forall_congr' fun i => forall_congr' fun hi => ?_
    rw [atO, atO, h (3 + i) (by omega), h 2 (by omega)]
  rw [rgO, rgO, e, h 0 (by omega), h 1 (by omega), h 2 (by omega)]

/-- Pointers' bytes. -/
def ptsL (g : Nat → Int) : Nat → List Int
  | 0 => []
  | k + 1 => ptsL g k ++ digs 2 (g k)
theorem ptsL_len (g : Nat → Int) (k : Nat) : (ptsL g k).length = 2 * k := by
  induction k with
  | zero => rfl
  | succ k ih => simp [ptsL, ih, digs_len]; omega
theorem ptsL_small (g : Nat → Int) (k : Nat) : AllB (ptsL g k) := by
  induction k with
  | zero => intro z hz; cases hz
  | succ k ih => exact ih.app (digs_small _ _)
theorem ptsL_congr {g h : Nat → Int} {n : Nat} (e : ∀ i, i < n → g i = h i) : ptsL g n = ptsL h n := by
  induction n with
  | zero => rfl
  | succ n ih => rw [ptsL, ptsL, ih fun i hi => e i (by omega), e n (by omega)]
/-- A record's bytes as far as its first k pointers. -/
def hdL (f : Nat → Int) : List Int := digs 1 (f 0) ++ digs 2 (f 1) ++ digs 4 (f 2)
def recP (f : Nat → Int) (k : Nat) : List Int := hdL f ++ ptsL (fun i => f (3 + i)) k
theorem hdL_len (f : Nat → Int) : (hdL f).length = 7 := by simp [hdL, digs_len]
theorem recP_succ (f : Nat → Int) (k : Nat) : recP f (k + 1) = recP f k ++ digs 2 (f (3 + k)) := by simp [recP, ptsL]
theorem recP_len (f : Nat → Int) (k : Nat) : (recP f k).length = 7 + 2 * k := by simp [recP, hdL_len, ptsL_len]
theorem recP_small (f : Nat → Int) (k : Nat) : AllB (recP f k) := (((digs_small _ _).app (digs_small _ _)).app (digs_small _ _)).app (ptsL_small _ _)
/-- A record's bytes. -/
def recB (f : Nat → Int) : List Int := padL (recP f 18) 56
theorem recB_eq (f : Nat → Int) : recB f = recP f 18 ++ Z 13 := by rw [recB, padL, recP_len]
theorem recB_len (f : Nat → Int) : (recB f).length = 56 := by rw [recB_eq]; simp [recP_len]
theorem recB_small (f : Nat → Int) : AllB (recB f) := by rw [recB_eq]; exact (recP_small _ _).app (AllB.zeros _)
theorem recB_drop (f : Nat → Int) : noughtB ((recB f).drop 43) = true := by
  rw [recB_eq, List.drop_append_of_le_length (by rw [recP_len]; omega), List.drop_of_length_le (by rw [recP_len]; omega)]
  exact nought_of 13
/-- Where a record's number stands, and how wide it is. -/
def posR (i : Nat) : Nat := if i = 0 then 0 else if i = 1 then 1 else if i = 2 then 3 else 7 + 2 * (i - 3)
def widR (i : Nat) : Nat := if i = 0 then 1 else if i = 2 then 4 else 2
/-- What stands in bytes where a record has its numbers. -/
def tld (x : List Int) (i : Nat) : Int := getV x.length x (posR i) (widR i)
theorem wid_bd (i : Nat) : 1 ≤ widR i ∧ widR i ≤ 4 := by unfold widR; split; omega; split <;> omega
theorem pos_bd {i : Nat} (h : i < 21) : posR i + widR i ≤ 43 := by
  by_cases h0 : i = 0
  · subst h0; decide
  · by_cases h1 : i = 1
    · subst h1; decide
    · by_cases h2 : i = 2
      · subst h2; decide
      · unfold posR widR
        rw [if_neg h0, if_neg h1, if_neg h2, if_neg h0, if_neg h2]
        omega
theorem tld_in {x : List Int} (hx : x.length = 56) {i : Nat} (h : i < 21) : tld x i = getN x (posR i) (widR i) :=
  getV_in (wid_bd i).1 (wid_bd i).2 (by have := pos_bd h; omega)
theorem take_add' (x : List Int) (p q : Nat) : x.take (p + q) = x.take p ++ (x.drop p).take q := by
  have := drop_take x 0 p q
  simpa using this
/-- Bytes that have the form are those of what they tell. -/
theorem recP_tld {x : List Int} (hx : AllB x) (hl : x.length = 56) {k : Nat} (hk : k ≤ 18) : recP (tld x) k = x.take (7 + 2 * k) := by
  induction k with
  | zero =>
    rw [recP, ptsL, List.append_nil, hdL, tld_in hl (by omega), tld_in hl (by omega), tld_in hl (by omega)]
    show digs 1 (getN x 0 1) ++ digs 2 (getN x 1 2) ++ digs 4 (getN x 3 4) = x.take 7
    rw [digs_get hx 0 1 (by omega), digs_get hx 1 2 (by omega), digs_get hx 3 4 (by omega)]
    rw [show (7 : Nat) = 3 + 4 from rfl, take_add' x 3 4, show (3 : Nat) = 1 + 2 from rfl, take_add' x 1 2]
    simp
  | succ k ih =>
    rw [recP_succ, ih (by omega), tld_in hl (by omega)]
    have ep : posR (3 + k) = 7 + 2 * k := by unfold posR; rw [if_neg (by omega), if_neg (by omega), if_neg (by omega)]; omega
    have ew : widR (3 + k) = 2 := by unfold widR; rw [if_neg (by omega), if_neg (by omega)]
    rw [ep, ew, digs_get hx (7 + 2 * k) 2 (by omega), show 7 + 2 * (k + 1) = (7 + 2 * k) + 2 by omega, take_add' x (7 + 2 * k) 2]
theorem recB_tld {x : List Int} (hx : AllB x) (hl : x.length = 56) (h0 : noughtB (x.drop 43) = true) : recB (tld x) = x := by
  rw [recB_eq, recP_tld hx hl (Nat.le_refl _)]
  have h1 := nought_rep h0
  rw [List.length_drop, hl] at h1
  show x.take 43 ++ List.replicate 13 0 = x
  rw [← show x.drop 43 = List.replicate 13 0 from h1]
  exact List.take_append_drop 43 x
/-- Are bytes a right record's? By the program's way, and by the document's. -/
def okG (x : List Int) : Bool := rgO (tld x) && sameB (recB (tld x)) x
def okD (x : List Int) : Bool := decide (x.length = 56) && noughtB (x.drop 43) && rgO (tld x)
theorem okG_okD {x : List Int} (hx : AllB x) : okG x = okD x := by
  rw [Bool.eq_iff_iff]
  constructor
  · intro h
    simp only [okG, Bool.and_eq_true] at h
    have e : recB (tld x) = x := by simpa [sameB] using h.2
    simp only [okD, Bool.and_eq_true, decide_eq_true_eq]
    exact ⟨⟨by rw [← e]; exact recB_len _, by rw [← e]; exact recB_drop _⟩, h.1⟩
  · intro h
    simp only [okD, Bool.and_eq_true, decide_eq_true_eq] at h
    simp only [okG, Bool.and_eq_true]
    exact ⟨h.2, sameB_true (recB_tld hx h.1.1 h.1.2)⟩
/-- The record that Get answers. -/
def gR (x : List Int) (i : Nat) : Int := if okG x then tld x i else 0
/-- Pointers' blocks. -/
def ppO (ks : List Int) : Bool := decide (ks.length ≤ 28) && ks.all ptO
def ppL (ks : List Int) : List Int := padL (ptsL (num ks) ks.length) 56
theorem ppL_eq {ks : List Int} (h : ks.length ≤ 28) : ppL ks = ptsL (num ks) ks.length ++ Z (56 - 2 * ks.length) := by rw [ppL, padL, ptsL_len]
theorem ppL_len {ks : List Int} (h : ks.length ≤ 28) : (ppL ks).length = 56 := padL_len (by rw [ptsL_len]; omega)
theorem ppL_small (ks : List Int) : AllB (ppL ks) := padL_small (ptsL_small _ _) _
/-- The pointers of bytes. -/
def gpL (x : List Int) : Nat → List Int
  | 0 => []
  | k + 1 => gpL x k ++ [getV x.length x ((2 * k : Nat) : Int) 2]
theorem gpL_len (x : List Int) (k : Nat) : (gpL x k).length = k := by
  induction k with
  | zero => rfl
  | succ k ih => simp [gpL, ih]

/-- A node of a list; a block: whose, which, its bytes. -/
structure Nd where
  ino : Int
  kind : Int
  links : Int
  size : Int
  ads : List Int
instance : Inhabited Nd := ⟨⟨0, 0, 0, 0, []⟩⟩
structure Bk where
  own : Int
  ind : Int
  z : List Int
instance : Inhabited Bk := ⟨⟨0, 0, []⟩⟩
/-- Is it one of N addresses? -/
def isA (N a : Int) : Bool := decide (1 ≤ a ∧ a ≤ N)
theorem isA_iff {N a : Int} : isA N a = true ↔ 1 ≤ a ∧ a ≤ N := by simp [isA]
/-- Tables of 28 numbers. -/
def tb (g : Nat → Int) : List Int := (List.range 28).map g
theorem tb_len (g : Nat → Int) : (tb g).length = 28 := by simp [tb]
theorem tb_num (g : Nat → Int) {i : Nat} (h : i < 28) : num (tb g) i = g i := by
  simp [tb, num, List.getD, List.getElem?_range h]
theorem num_ext {x y : List Int} (hl : x.length = y.length) (h : ∀ i, i < x.length → num x i = num y i) : x = y := by
  apply List.ext_getElem hl
  intro i h1 h2
  have := h i h1
  simpa [num, List.getD, h1, h2] using this
theorem num_out {x : List Int} {i : Nat} (h : x.length ≤ i) : num x i = 0 := by simp [num, List.getD, List.getElem?_eq_none h]
theorem num_appl {x y : List Int} {i : Nat} (h : i < x.length) : num (x ++ y) i = num x i := by simp [num, List.getD, List.getElem?_append_left h]
theorem num_appr {x y : List Int} {i : Nat} (h : x.length ≤ i) : num (x ++ y) i = num y (i - x.length) := by simp [num, List.getD, List.getElem?_append_right h]
/-- Is one of them not 0? -/
def som (l : List Int) : Bool := l.any fun z => z != 0
theorem som_tb {g : Nat → Int} : som (tb g) = true ↔ ∃ i, i < 28 ∧ g i ≠ 0 := by
  simp [som, tb]
theorem som_no {g : Nat → Int} (h : som (tb g) = false) {i : Nat} (hi : i < 28) : g i = 0 := by
  by_cases e : g i = 0
  · exact e
  · rw [som_tb.2 ⟨i, hi, e⟩] at h; cases h
/-- The addresses of 28 blocks. -/
def prt (A : List Int) (k : Nat) : List Int := tb fun i => num A (k + i)
def zer : List Int := tb fun _ => 0
theorem prt_far {A : List Int} {k : Nat} (h : som (prt A k) = true) : k < A.length := by
  obtain ⟨i, hi, hne⟩ := som_tb.1 h
  by_cases hk : k + i < A.length
  · omega
  · exact absurd (num_out (by omega)) hne
def sS (A : List Int) : Bool := som (prt A 16)
def dS (A : List Int) (k : Nat) : Bool := som (prt A (44 + 28 * k))
def sB (n : Nd) : List Bk := if sS n.ads then [⟨n.ino, 1000, ppL (prt n.ads 16)⟩] else []
def dB (n : Nd) : Nat → List Bk
  | 0 => []
  | k + 1 => dB n k ++ (if dS n.ads k then [⟨n.ino, 1001 + (k : Int), ppL (prt n.ads (44 + 28 * k))⟩] else [])
/-- The number of a pointers' block among a node's. -/
def dI (n : Nd) (k : Nat) : Nat := (sB n).length + (dB n k).length
def dA (n : Nd) : Bool := !(dB n 28).isEmpty
/-- Double's pointers, when k parts are laid. -/
def dP (at' : Nat → Int) (n : Nd) (m k : Nat) : List Int := tb fun i => if i < k ∧ dS n.ads i = true then at' (m + dI n i) else 0
def dL (at' : Nat → Int) (n : Nd) (m : Nat) : List Bk := if dA n then [⟨n.ino, 1100, ppL (dP at' n m 28)⟩] else []
/-- A node's blocks ahead of its record; the record; all. -/
def bod (at' : Nat → Int) (n : Nd) (m : Nat) : List Bk := sB n ++ dB n 28 ++ dL at' n m
def rF (at' : Nat → Int) (n : Nd) (m : Nat) : Nat → Int := fun i =>
  if i = 0 then n.kind else if i = 1 then n.links else if i = 2 then n.size else if i < 19 then num n.ads (i - 3) else if i = 19 then (if sS n.ads then at' m else 0) else if i = 20 then (if dA n then at' (m + dI n 28) else 0) else 0
def ndB (at' : Nat → Int) (n : Nd) (m : Nat) : List Bk := bod at' n m ++ [⟨n.ino, 999, recB (rF at' n m)⟩]
/-- The blocks of the first nodes. -/
def lB (at' : Nat → Int) (f : Nat → Nd) : Nat → List Bk
  | 0 => []
  | i + 1 => lB at' f i ++ ndB at' (f i) (lB at' f i).length
def off (at' : Nat → Int) (f : Nat → Nd) (i : Nat) : Nat := (lB at' f i).length
/-- The charts' pointers. -/
def chP (at' : Nat → Int) (f : Nat → Nd) : Nat → Nat → Int
  | 0 => fun _ => 0
  | i + 1 => fun j => if j = ((f i).ino - 1).toNat then at' (off at' f (i + 1) - 1) else chP at' f i j
def rtB (x y : Int) : List Int := digs 2 21074 ++ digs 2 x ++ digs 2 y ++ Z 50
def layB (at' : Nat → Int) (f : Nat → Nd) (n : Nat) : List Bk :=
  lB at' f n ++ [⟨0, 1, ppL (tb (chP at' f n))⟩, ⟨0, 2, ppL (tb fun i => chP at' f n (28 + i))⟩, ⟨0, 0, rtB (at' (off at' f n)) (at' (off at' f n + 1))⟩]
theorem layB_len (at' : Nat → Int) (f : Nat → Nd) (n : Nat) : (layB at' f n).length = off at' f n + 3 := by simp [layB, off]
/-- What a node's record has without addresses; is a node right by itself? -/
def rK (n : Nd) : Nat → Int := fun i => if i = 0 then n.kind else if i = 1 then n.links else if i = 2 then n.size else 0
def ndO (N : Int) (n : Nd) : Bool := rgO (rK n) && decide ((n.ads.length : Int) ≤ blkN n.size) && n.ads.all fun a => decide (a = 0) || isA N a
structure NdR (N : Int) (n : Nd) : Prop where
  r : rgO (rK n) = true
  l : (n.ads.length : Int) ≤ blkN n.size
  a : ∀ i, num n.ads i = 0 ∨ (1 ≤ num n.ads i ∧ num n.ads i ≤ N)
theorem ndO_iff {N : Int} {n : Nd} : ndO N n = true ↔ NdR N n := by
  rw [ndO, Bool.and_eq_true, Bool.and_eq_true, decide_eq_true_eq, List.all_eq_true]
  constructor
  · rintro ⟨⟨h1, h2⟩, h3⟩
    refine ⟨h1, h2, fun i => ?_⟩
    by_cases hi : i < n.ads.length
    · have := h3 (num n.ads i) (by rw [show num n.ads i = n.ads[i] by simp [num, List.getD, hi]]; exact List.getElem_mem hi)
      rw [Bool.or_eq_true, decide_eq_true_eq, isA_iff] at this
      exact this
    · exact .inl (num_out (by omega))
  · rintro ⟨h1, h2, h3⟩
    refine ⟨⟨h1, h2⟩, fun a ha => ?_⟩
    obtain ⟨i, hi, rfl⟩ := List.getElem_of_mem ha
    have := h3 i
    rw [show num n.ads i = n.ads[i] by simp [num, List.getD, hi]] at this
    rw [Bool.or_eq_true, decide_eq_true_eq, isA_iff]
    exact this
/-- A list's first n nodes are right. -/
structure LR (N : Int) (f : Nat → Nd) (n : Nat) : Prop where
  l1 : 1 ≤ n
  l2 : n ≤ 56
  i0 : (f 0).ino = 1
  k0 : (f 0).kind = 2
  top : ∀ i, i < n → (f i).ino ≤ 56
  up : ∀ i, i + 1 < n → (f i).ino < (f (i + 1)).ino
  nd : ∀ i, i < n → NdR N (f i)
/-- The last address that isn't 0. -/
def lst (A : List Int) : Nat → Nat
  | 0 => 0
  | k + 1 => if num A k = 0 then lst A k else k + 1
def trm (A : List Int) : List Int := A.take (lst A A.length)
theorem lst_le (A : List Int) (k : Nat) : lst A k ≤ k := by
  induction k with
  | zero => exact Nat.le_refl _
  | succ k ih => rw [lst]; split <;> omega
theorem lst_congr {A B : List Int} {k : Nat} (h : ∀ i, i < k → num A i = num B i) : lst A k = lst B k := by
  induction k with
  | zero => rfl
  | succ k ih => rw [lst, lst, ih fun i hi => h i (by omega), h k (by omega)]
theorem lst_far {A : List Int} {k m : Nat} (hk : k ≤ m) (h : ∀ i, k ≤ i → num A i = 0) : lst A m = lst A k := by
  induction m with
  | zero => rw [show k = 0 by omega]
  | succ m ih =>
    by_cases e : k = m + 1
    · rw [e]
    · rw [lst, if_pos (h m (by omega)), ih (by omega)]
theorem num_take' {ks : List Int} {n i : Nat} (h : i < n) : num (ks.take n) i = num ks i := by
  unfold num
  simp [List.getD, h]
theorem trm_same {A B : List Int} (h : ∀ i, num A i = num B i) : trm A = trm B := by
  have e : lst A A.length = lst B B.length := by
    rw [← lst_far (A := A) (Nat.le_max_left A.length B.length) (fun i hi => num_out hi), ← lst_far (A := B) (Nat.le_max_right A.length B.length) (fun i hi => num_out hi)]
    exact lst_congr fun i _ => h i
  have ha := lst_le A A.length
  have hb := lst_le B B.length
  refine num_ext (by simp [trm]; omega) fun i hi => ?_
  have hi' : i < lst A A.length := by
    unfold trm at hi
    rw [List.length_take] at hi
    omega
  rw [trm, trm, num_take' hi', num_take' (by omega), h i]
/-- What is read on the way. -/
inductive Rp (α : Type) where
  | ret (a : α)
  | bad (e : Int)
  | rd (p : Int) (k : List Int → Rp α)
def Rp.bind {α β : Type} : Rp α → (α → Rp β) → Rp β
  | .ret a, f => f a
  | .bad e, _ => .bad e
  | .rd p k, f => .rd p fun b => (k b).bind f
/-- Reading from blocks. -/
def run {α : Type} (N : Int) (blk : Int → Option (List Int)) : Rp α → List Int → Except Int (α × List Int)
  | .ret a, l => .ok (a, l)
  | .bad e, _ => .error e
  | .rd p k, l => if isA N p then (match blk p with
    | none => .error 14
    | some b => if b.length = 56 then run N blk (k b) (l ++ [p]) else .error 15) else .error 15
section
variable {α β : Type} {N : Int} {blk : Int → Option (List Int)}
theorem run_bind (p : Rp α) (f : α → Rp β) (l : List Int) : run N blk (p.bind f) l = match run N blk p l with
    | .ok (a, l') => run N blk (f a) l'
    | .error e => .error e := by
  induction p generalizing l with
  | ret a => rfl
  | bad e => rfl
  | rd q k ih =>
    show run N blk (.rd q fun b => (k b).bind f) l = _
    rw [run, run]
    by_cases h : isA N q = true
    · rw [if_pos h, if_pos h]
      cases blk q with
      | none => rfl
      | some b =>
        by_cases h2 : b.length = 56
        · simp only [h2, if_true]; exact ih b _
        · simp only [h2, if_false]
    · rw [if_neg h, if_neg h]
theorem run_ok {p : Rp α} {f : α → Rp β} {l l' : List Int} {a : α} (h : run N blk p l = .ok (a, l')) : run N blk (p.bind f) l = run N blk (f a) l' := by
  rw [run_bind, h]
end
/-- A pointer's block of pointers, and whether it has none. -/
def rdP (p : Int) : Rp (List Int × Bool) := if p = 0 then .ret (zer, false) else .rd p fun b => .ret (gpL b 28, !som (gpL b 28))
def ptP (dbl : List Int) (nb : Int) : Nat → Nat → List Int → Bool → Bool → Rp (List Int × Bool × Bool)
  | 0, _, acc, h, wr => .ret (acc, h, wr)
  | k + 1, i, acc, h, wr => (rdP (num dbl i)).bind fun p => ptP dbl nb k (i + 1) (acc ++ p.1) (h || p.2) (wr || (num dbl i != 0 && decide (nb ≤ 44 + 28 * (i : Int))))
/-- Is one of the first k addresses wrong? -/
def wrA (N nb : Int) (A : List Int) : Nat → Bool
  | 0 => false
  | k + 1 => wrA N nb A k || (num A k != 0 && (!isA N (num A k) || decide (nb ≤ (k : Int))))
def dir (g : Nat → Int) : List Int := (List.range 16).map fun i => g (3 + i)
def ndP (N ino p : Int) : Rp (Nd × Bool) := .rd p fun b => if okG b then
    (rdP (tld b 19)).bind fun s => (rdP (tld b 20)).bind fun d => (ptP d.1 (blkN (tld b 2)) 28 0 [] (s.2 || d.2) false).bind fun q =>
      if q.2.2 || wrA N (blkN (tld b 2)) (dir (tld b) ++ s.1 ++ q.1) (dir (tld b) ++ s.1 ++ q.1).length then .bad 15
      else .ret (⟨ino, tld b 0, tld b 1, tld b 2, trm (dir (tld b) ++ s.1 ++ q.1)⟩, q.2.1)
  else .bad 15
def nsP (N : Int) (ch : List Int) : Nat → Nat → List Nd → Bool → Rp (List Nd × Bool)
  | 0, _, L, h => .ret (L, h)
  | k + 1, i, L, h => if num ch i = 0 then nsP N ch k (i + 1) L h else (ndP N ((i : Int) + 1) (num ch i)).bind fun q => nsP N ch k (i + 1) (L ++ [q.1]) (h || q.2)

section
variable {N : Int} {blk : Int → Option (List Int)} {at' : Nat → Int} {n : Nd} {m : Nat}
theorem dA_iff : dA n = true ↔ ∃ k, k < 28 ∧ dS n.ads k = true := by
  have key : ∀ K, (dB n K).isEmpty = false ↔ ∃ k, k < K ∧ dS n.ads k = true := by
    intro K
    induction K with
    | zero => simp [dB]
    | succ K ih =>
      rw [dB]
      cases h : dS n.ads K with
      | true => simp; exact ⟨K, by omega, h⟩
      | false =>
        simp only [Bool.false_eq_true, if_false, List.append_nil, ih]
        constructor
        · rintro ⟨k, h1, h2⟩; exact ⟨k, by omega, h2⟩
        · rintro ⟨k, h1, h2⟩
          by_cases e : k = K
          · rw [e, h] at h2; cases h2
          · exact ⟨k, by omega, h2⟩
  rw [dA, Bool.not_eq_true', key 28]
/-- What is laid is there. -/
structure There (N : Int) (blk : Int → Option (List Int)) (at' : Nat → Int) (n : Nd) (m : Nat) : Prop where
  b : ∀ j x, (ndB at' n m)[j]? = some x → blk (at' (m + j)) = some x.z
  a : ∀ j, j < (ndB at' n m).length → 1 ≤ at' (m + j) ∧ at' (m + j) ≤ N
theorem NdR.pt (h : NdR N n) (hN : N ≤ 65535) (i : Nat) : 0 ≤ num n.ads i ∧ num n.ads i ≤ 65535 := by
  have := h.a i
  omega
theorem dir_len (g : Nat → Int) : (dir g).length = 16 := by simp [dir]
theorem rF_0 : rF at' n m 0 = n.kind := by unfold rF; rw [if_pos (by omega)]
theorem rF_1 : rF at' n m 1 = n.links := by unfold rF; rw [if_neg (by omega), if_pos (by omega)]
theorem rF_2 : rF at' n m 2 = n.size := by unfold rF; rw [if_neg (by omega), if_neg (by omega), if_pos (by omega)]
theorem rF_d {i : Nat} (h : i < 16) : rF at' n m (3 + i) = num n.ads i := by
  unfold rF
  rw [if_neg (by omega), if_neg (by omega), if_neg (by omega), if_pos (by omega), show 3 + i - 3 = i by omega]
theorem rF_19 : rF at' n m 19 = if sS n.ads = true then at' m else 0 := by unfold rF; rw [if_neg (by omega), if_neg (by omega), if_neg (by omega), if_neg (by omega), if_pos (by omega)]
theorem rF_20 : rF at' n m 20 = if dA n = true then at' (m + dI n 28) else 0 := by unfold rF; rw [if_neg (by omega), if_neg (by omega), if_neg (by omega), if_neg (by omega), if_neg (by omega), if_pos (by omega)]
theorem at_yes {p q b : Int} (h1 : 0 ≤ p ∧ p ≤ 65535) (h2 : p = 0 ∨ q < b) : (ptO p && (decide (p = 0) || decide (q < b))) = true := by
  rw [ptO_iff.2 h1, Bool.true_and, Bool.or_eq_true, decide_eq_true_eq, decide_eq_true_eq]
  exact h2
end

/-- Is a list right? -/
def lrO (N : Int) (L : List Nd) : Bool :=
  decide (1 ≤ L.length ∧ L.length ≤ 56) && decide ((L.getD 0 default).ino = 1) && decide ((L.getD 0 default).kind = 2) &&
    (List.range L.length).all fun i => decide ((L.getD i default).ino ≤ 56) && (decide (i = 0) || decide ((L.getD (i - 1) default).ino < (L.getD i default).ino)) && ndO N (L.getD i default)
theorem lrO_iff {N : Int} {L : List Nd} : lrO N L = true ↔ LR N (fun i => L.getD i default) L.length := by
  rw [lrO, Bool.and_eq_true, Bool.and_eq_true, Bool.and_eq_true, decide_eq_true_eq, decide_eq_true_eq, decide_eq_true_eq, List.all_eq_true]
  constructor
  · rintro ⟨⟨⟨h1, h2⟩, h3⟩, h4⟩
    have g : ∀ i, i < L.length → (L.getD i default).ino ≤ 56 ∧ (i = 0 ∨ (L.getD (i - 1) default).ino < (L.getD i default).ino) ∧ NdR N (L.getD i default) := fun i hi => by
      have := h4 i (List.mem_range.2 hi)
      rw [Bool.and_eq_true, Bool.and_eq_true, Bool.or_eq_true, decide_eq_true_eq, decide_eq_true_eq, decide_eq_true_eq, ndO_iff] at this
      exact ⟨this.1.1, this.1.2, this.2⟩
    refine ⟨h1.1, h1.2, h2, h3, fun i hi => (g i hi).1, fun i hi => ?_, fun i hi => (g i hi).2.2⟩
    rcases (g (i + 1) hi).2.1 with h | h
    · omega
    · exact h
  · intro h
    refine ⟨⟨⟨⟨h.l1, h.l2⟩, h.i0⟩, h.k0⟩, fun i hi => ?_⟩
    have hi' := List.mem_range.1 hi
    rw [Bool.and_eq_true, Bool.and_eq_true, Bool.or_eq_true, decide_eq_true_eq, decide_eq_true_eq, decide_eq_true_eq, ndO_iff]
    refine ⟨⟨h.top i hi', ?_⟩, h.nd i hi'⟩
    by_cases e : i = 0
    · exact .inl e
    · have := h.up (i - 1) (by omega)
      rw [show i - 1 + 1 = i by omega] at this
      exact .inr this
def loadP (N root : Int) : Rp (List Nd) := .rd root fun b => if getV b.length b 0 2 = 21074 ∧ noughtB (b.drop 6) = true then
    .rd (getV b.length b 2 2) fun c => .rd (getV b.length b 4 2) fun d => (nsP N (gpL c 28 ++ gpL d 28) 56 0 [] false).bind fun q => if q.2 || !lrO N q.1 then .bad 15 else .ret q.1
  else .bad 15
section
variable {N : Int} {blk : Int → Option (List Int)} {at' : Nat → Int} {f : Nat → Nd} {n : Nat}
theorem LR.lt (h : LR N f n) {i j : Nat} (hij : i < j) (hj : j < n) : (f i).ino < (f j).ino := by
  induction j with
  | zero => omega
  | succ j ih =>
    have h1 := h.up j hj
    by_cases e : i = j
    · subst e; exact h1
    · have := ih (by omega) (by omega)
      omega
theorem LR.pos (h : LR N f n) {i : Nat} (hi : i < n) : 1 ≤ (f i).ino := by
  by_cases e : i = 0
  · subst e; have := h.i0; omega
  · have := h.lt (show 0 < i by omega) hi
    have := h.i0
    omega
theorem off_succ (at' : Nat → Int) (f : Nat → Nd) (i : Nat) : off at' f (i + 1) = off at' f i + ((bod at' (f i) (off at' f i)).length + 1) := by
  simp [off, lB, ndB]
theorem off_up (at' : Nat → Int) (f : Nat → Nd) {i j : Nat} (h : i ≤ j) : off at' f i ≤ off at' f j := by
  induction j with
  | zero => rw [show i = 0 by omega]; exact Nat.le_refl _
  | succ j ih =>
    by_cases e : i = j + 1
    · rw [e]; exact Nat.le_refl _
    · have := ih (by omega)
      rw [off_succ]
      omega
theorem rtB_len (x y : Int) : (rtB x y).length = 56 := by simp [rtB, digs_len]
theorem rtB_get {x y : Int} (hx : 0 ≤ x ∧ x ≤ 65535) (hy : 0 ≤ y ∧ y ≤ 65535) : getV (rtB x y).length (rtB x y) 0 2 = 21074 ∧ getV (rtB x y).length (rtB x y) 2 2 = x ∧ getV (rtB x y).length (rtB x y) 4 2 = y ∧ noughtB ((rtB x y).drop 6) = true := by
  have g : ∀ p : Nat, p + 2 ≤ 56 → getV (rtB x y).length (rtB x y) p 2 = getN (rtB x y) p 2 := fun p hp => getV_in (p := p) (m := 2) (by omega) (by omega) (by rw [rtB_len]; exact hp)
  refine ⟨?_, ?_, ?_, ?_⟩
  · have := g 0 (by omega)
    rw [show ((0 : Nat) : Int) = 0 from rfl] at this
    rw [this]
    have := getN_app [] 2 21074 (digs 2 x ++ digs 2 y ++ Z 50) (by omega) (by omega)
    simpa [rtB, List.append_assoc] using this
  · have := g 2 (by omega)
    rw [show ((2 : Nat) : Int) = 2 from rfl] at this
    rw [this]
    have := getN_app (digs 2 21074) 2 x (digs 2 y ++ Z 50) hx.1 (by omega)
    simpa [rtB, List.append_assoc, digs_len] using this
  · have := g 4 (by omega)
    rw [show ((4 : Nat) : Int) = 4 from rfl] at this
    rw [this]
    have := getN_app (digs 2 21074 ++ digs 2 x) 2 y (Z 50) hy.1 (by omega)
    simpa [rtB, List.append_assoc, digs_len] using this
  · rw [rtB, List.drop_append_of_le_length (by simp [digs_len]), List.drop_of_length_le (by simp [digs_len])]
    exact nought_of 50
end

section
variable {N : Int} {blk : Int → Option (List Int)} {at' at2 : Nat → Int} {f : Nat → Nd} {n : Nd} {m K : Nat}
theorem dI_succ (n : Nd) (k : Nat) : dI n (k + 1) = dI n k + (if dS n.ads k = true then 1 else 0) := by
  have e : (if dS n.ads k = true then [(⟨n.ino, 1001 + (k : Int), ppL (prt n.ads (44 + 28 * k))⟩ : Bk)] else []).length = if dS n.ads k = true then 1 else 0 := by
    cases dS n.ads k <;> rfl
  rw [dI, dI, dB, List.length_append, e, Nat.add_assoc]
def rdX (n : Nd) : Nat → List Nat
  | 0 => []
  | k + 1 => rdX n k ++ (if dS n.ads k then [dI n k] else [])
theorem len_if {α : Type} (c : Bool) (x : α) : (if c = true then [x] else []).length = if c = true then 1 else 0 := by cases c <;> rfl
theorem map_if {α β : Type} (c : Bool) (x : α) (g : α → β) : (if c = true then [x] else []).map g = if c = true then [g x] else [] := by cases c <;> rfl
theorem bod_len : (bod at' n m).length = dI n 28 + (if dA n = true then 1 else 0) := by
  rw [bod, List.length_append, List.length_append, dI, dL, len_if]
theorem sB_len (n : Nd) : (sB n).length = if sS n.ads = true then 1 else 0 := by rw [sB, len_if]
def ndX (n : Nd) (L : Nat) : List Nat := [L] ++ (if sS n.ads then [0] else []) ++ (if dA n then [dI n 28] else []) ++ rdX n 28
/-- The numbers of the blocks that are read of the first nodes. -/
def rx (at' : Nat → Int) (f : Nat → Nd) : Nat → List Nat
  | 0 => []
  | i + 1 => rx at' f i ++ (ndX (f i) (bod at' (f i) (off at' f i)).length).map fun j => off at' f i + j
def ax (at' : Nat → Int) (f : Nat → Nd) (K : Nat) : List Nat := [off at' f K + 2, off at' f K, off at' f K + 1] ++ rx at' f K
/-- Wherever a list stands, it has as many blocks, of the same heads. -/
theorem bod_heads : (bod at' n m).map (fun x => (x.own, x.ind)) = (bod at2 n m).map (fun x => (x.own, x.ind)) := by
  simp only [bod, List.map_append, dL, map_if]
theorem lB_heads (at' at2 : Nat → Int) (f : Nat → Nd) (i : Nat) : (lB at' f i).map (fun x => (x.own, x.ind)) = (lB at2 f i).map (fun x => (x.own, x.ind)) := by
  induction i with
  | zero => rfl
  | succ i ih =>
    have hl : (lB at' f i).length = (lB at2 f i).length := by
      have := congrArg List.length ih
      simpa using this
    rw [lB, lB, List.map_append, List.map_append, ih, hl, ndB, ndB, List.map_append, List.map_append, bod_heads (at' := at') (at2 := at2)]
    simp only [List.map_cons, List.map_nil]
theorem off_same (at' at2 : Nat → Int) (f : Nat → Nd) (i : Nat) : off at' f i = off at2 f i := by
  have := congrArg List.length (lB_heads at' at2 f i)
  rw [List.length_map, List.length_map] at this
  exact this
end

/-- A number among others, once. -/
def insK (x : Int) (l : List Int) : List Int := if x ∈ l then l else l ++ [x]
theorem insK_mem {x y : Int} {l : List Int} : y ∈ insK x l ↔ y = x ∨ y ∈ l := by
  unfold insK
  split
  · constructor
    · exact .inr
    · rintro (rfl | h)
      · assumption
      · exact h
  · rw [List.mem_append, List.mem_singleton]
    exact Or.comm
theorem insK_nodup {x : Int} {l : List Int} (h : l.Nodup) : (insK x l).Nodup := by
  unfold insK
  split
  · exact h
  · rename_i hx
    rw [List.nodup_append]
    refine ⟨h, by simp, fun a ha b hb e => ?_⟩
    rw [List.mem_singleton.1 hb] at e
    exact hx (e ▸ ha)
/-- The parts of the first k addresses (from 16 on). -/
def kp (A : List Int) : Nat → List Int
  | 0 => []
  | k + 1 => if k < 16 then [] else if num A k = 0 then kp A k else if k < 44 then insK (-1) (kp A k) else insK (((k : Int) - 44).tdiv 28) (insK (-2) (kp A k))
theorem tdiv28 {k : Nat} (h : 44 ≤ k) : ((k : Int) - 44).tdiv 28 = (((k - 44) / 28 : Nat) : Int) := by
  rw [Int.tdiv_eq_ediv_of_nonneg (by omega)]
  omega
theorem kp_nodup (A : List Int) (k : Nat) : (kp A k).Nodup := by
  induction k with
  | zero => exact List.Pairwise.nil
  | succ k ih =>
    rw [kp]
    split
    · exact List.Pairwise.nil
    · split
      · exact ih
      · split
        · exact insK_nodup ih
        · exact insK_nodup (insK_nodup ih)
theorem kp_mem {A : List Int} {k : Nat} {x : Int} : x ∈ kp A k ↔ (x = -1 ∧ ∃ i, 16 ≤ i ∧ i < 44 ∧ i < k ∧ num A i ≠ 0) ∨ (x = -2 ∧ ∃ i, 44 ≤ i ∧ i < k ∧ num A i ≠ 0) ∨ (∃ i, 44 ≤ i ∧ i < k ∧ num A i ≠ 0 ∧ x = (((i - 44) / 28 : Nat) : Int)) := by
  induction k with
  | zero =>
    constructor
    · intro h; cases h
    · rintro (⟨_, i, _, _, h, _⟩ | ⟨_, i, _, h, _⟩ | ⟨i, _, h, _⟩) <;> omega
  | succ k ih =>
    rw [kp]
    by_cases h16 : k < 16
    · rw [if_pos h16]
      constructor
      · intro h; cases h
      · rintro (⟨_, i, _, _, h, _⟩ | ⟨_, i, _, h, _⟩ | ⟨i, _, h, _⟩) <;> omega
    rw [if_neg h16]
    by_cases h0 : num A k = 0
    · rw [if_pos h0, ih]
      constructor
      · rintro (⟨e, i, h1, h2, h3, h4⟩ | ⟨e, i, h1, h3, h4⟩ | ⟨i, h1, h3, h4, h5⟩)
        · exact .inl ⟨e, i, h1, h2, by omega, h4⟩
        · exact .inr (.inl ⟨e, i, h1, by omega, h4⟩)
        · exact .inr (.inr ⟨i, h1, by omega, h4, h5⟩)
      · have ne : ∀ i, i < k + 1 → num A i ≠ 0 → i < k := fun i h1 h2 => by
          by_cases e : i = k
          · subst e; exact absurd h0 h2
          · omega
        rintro (⟨e, i, h1, h2, h3, h4⟩ | ⟨e, i, h1, h3, h4⟩ | ⟨i, h1, h3, h4, h5⟩)
        · exact .inl ⟨e, i, h1, h2, ne i h3 h4, h4⟩
        · exact .inr (.inl ⟨e, i, h1, ne i h3 h4, h4⟩)
        · exact .inr (.inr ⟨i, h1, ne i h3 h4, h4, h5⟩)
    rw [if_neg h0]
    by_cases h44 : k < 44
    · rw [if_pos h44, insK_mem, ih]
      constructor
      · rintro (rfl | ⟨e, i, h1, h2, h3, h4⟩ | ⟨e, i, h1, h3, h4⟩ | ⟨i, h1, h3, h4, h5⟩)
        · exact .inl ⟨rfl, k, by omega, h44, by omega, h0⟩
        · exact .inl ⟨e, i, h1, h2, by omega, h4⟩
        · exact .inr (.inl ⟨e, i, h1, by omega, h4⟩)
        · exact .inr (.inr ⟨i, h1, by omega, h4, h5⟩)
      · rintro (⟨e, i, h1, h2, h3, h4⟩ | ⟨e, i, h1, h3, h4⟩ | ⟨i, h1, h3, h4, h5⟩)
        · exact .inl e
        · omega
        · omega
    · rw [if_neg h44, tdiv28 (by omega), insK_mem, insK_mem, ih]
      constructor
      · rintro (rfl | rfl | ⟨e, i, h1, h2, h3, h4⟩ | ⟨e, i, h1, h3, h4⟩ | ⟨i, h1, h3, h4, h5⟩)
        · exact .inr (.inr ⟨k, by omega, by omega, h0, rfl⟩)
        · exact .inr (.inl ⟨rfl, k, by omega, by omega, h0⟩)
        · exact .inl ⟨e, i, h1, h2, by omega, h4⟩
        · exact .inr (.inl ⟨e, i, h1, by omega, h4⟩)
        · exact .inr (.inr ⟨i, h1, by omega, h4, h5⟩)
      · rintro (⟨e, i, h1, h2, h3, h4⟩ | ⟨e, i, h1, h3, h4⟩ | ⟨i, h1, h3, h4, h5⟩)
        · exact .inr (.inr (.inl ⟨e, i, h1, h2, by omega, h4⟩))
        · exact .inr (.inl e)
        · by_cases e : i = k
          · subst e; exact .inl h5
          · exact .inr (.inr (.inr (.inr ⟨i, h1, by omega, h4, h5⟩)))
/-- The parts as the blocks tell them. -/
def dX (A : List Int) : Nat → List Int
  | 0 => []
  | k + 1 => dX A k ++ (if dS A k then [(k : Int)] else [])
theorem dX_mem {A : List Int} {K : Nat} {x : Int} : x ∈ dX A K ↔ ∃ k, k < K ∧ dS A k = true ∧ x = (k : Int) := by
  induction K with
  | zero => simp [dX]
  | succ K ih =>
    rw [dX, List.mem_append, ih]
    constructor
    · rintro (⟨k, h1, h2, h3⟩ | h)
      · exact ⟨k, by omega, h2, h3⟩
      · cases hs : dS A K with
        | false => rw [hs] at h; simp at h
        | true => rw [hs] at h; simp at h; exact ⟨K, by omega, hs, h⟩
    · rintro ⟨k, h1, h2, h3⟩
      by_cases e : k = K
      · subst e; right; rw [h2]; simp [h3]
      · exact .inl ⟨k, by omega, h2, h3⟩
theorem dX_nodup (A : List Int) (K : Nat) : (dX A K).Nodup := by
  induction K with
  | zero => exact List.Pairwise.nil
  | succ K ih =>
    rw [dX, List.nodup_append]
    refine ⟨ih, by split <;> simp, fun a ha b hb e => ?_⟩
    obtain ⟨k, h1, _, h3⟩ := dX_mem.1 ha
    split at hb
    · have := List.mem_singleton.1 hb; omega
    · cases hb
theorem dX_len (n : Nd) (K : Nat) : (dX n.ads K).length = (dB n K).length := by
  induction K with
  | zero => rfl
  | succ K ih =>
    rw [dX, dB, List.length_append, List.length_append, ih]
    cases dS n.ads K <;> rfl
theorem sS_iff {A : List Int} : sS A = true ↔ ∃ i, 16 ≤ i ∧ i < 44 ∧ num A i ≠ 0 := by
  rw [sS, prt, som_tb]
  constructor
  · rintro ⟨i, h1, h2⟩; exact ⟨16 + i, by omega, by omega, h2⟩
  · rintro ⟨i, h1, h2, h3⟩; exact ⟨i - 16, by omega, by rwa [show 16 + (i - 16) = i by omega]⟩
theorem dS_iff {A : List Int} {k : Nat} : dS A k = true ↔ ∃ i, 44 ≤ i ∧ (i - 44) / 28 = k ∧ num A i ≠ 0 := by
  rw [dS, prt, som_tb]
  constructor
  · rintro ⟨i, h1, h2⟩; exact ⟨44 + 28 * k + i, by omega, by omega, h2⟩
  · rintro ⟨i, h1, h2, h3⟩; exact ⟨i - 44 - 28 * k, by omega, by rwa [show 44 + 28 * k + (i - 44 - 28 * k) = i by omega]⟩
/-- As many parts as blocks of pointers. -/
theorem kp_len {n : Nd} (h : n.ads.length ≤ 828) (at' : Nat → Int) (m : Nat) : (kp n.ads n.ads.length).length = (bod at' n m).length := by
  have hn : ∀ i, num n.ads i ≠ 0 → i < n.ads.length := fun i hi => by
    by_cases e : i < n.ads.length
    · exact e
    · exact absurd (num_out (by omega)) hi
  have hd1 : ∀ x, x ∈ dX n.ads 28 → 0 ≤ x := fun x hx => by obtain ⟨k, _, _, e⟩ := dX_mem.1 hx; omega
  have hp : (kp n.ads n.ads.length).Perm ((if sS n.ads = true then [-1] else []) ++ (if dA n = true then [-2] else []) ++ dX n.ads 28) := by
    refine (List.perm_ext_iff_of_nodup (kp_nodup _ _) ?_).2 fun x => ?_
    · rw [List.nodup_append]
      refine ⟨by cases sS n.ads <;> cases dA n <;> decide, dX_nodup _ _, fun a ha b hb e => ?_⟩
      have := hd1 b hb
      rw [List.mem_append] at ha
      rcases ha with ha | ha <;> split at ha <;> first | (have := List.mem_singleton.1 ha; omega) | cases ha
    · rw [kp_mem, List.mem_append, List.mem_append, dX_mem]
      have e1 : x ∈ (if sS n.ads = true then [(-1 : Int)] else []) ↔ x = -1 ∧ sS n.ads = true := by cases sS n.ads <;> simp
      have e2 : x ∈ (if dA n = true then [(-2 : Int)] else []) ↔ x = -2 ∧ dA n = true := by cases dA n <;> simp
      rw [e1, e2, sS_iff, dA_iff]
      constructor
      · rintro (⟨e, i, h1, h2, h3, h4⟩ | ⟨e, i, h1, h3, h4⟩ | ⟨i, h1, h3, h4, h5⟩)
        · exact .inl (.inl ⟨e, i, h1, h2, h4⟩)
        · exact .inl (.inr ⟨e, (i - 44) / 28, by omega, dS_iff.2 ⟨i, h1, rfl, h4⟩⟩)
        · exact .inr ⟨(i - 44) / 28, by omega, dS_iff.2 ⟨i, h1, rfl, h4⟩, h5⟩
      · rintro ((⟨e, i, h1, h2, h4⟩ | ⟨e, k, h1, h2⟩) | ⟨k, h1, h2, h3⟩)
        · exact .inl ⟨e, i, h1, h2, hn i h4, h4⟩
        · obtain ⟨i, h3, _, h5⟩ := dS_iff.1 h2
          exact .inr (.inl ⟨e, i, h3, hn i h5, h5⟩)
        · obtain ⟨i, h4, h5, h6⟩ := dS_iff.1 h2
          exact .inr (.inr ⟨i, h4, hn i h6, h6, by rw [h5, h3]⟩)
  rw [hp.length_eq, List.length_append, List.length_append, len_if, len_if, dX_len, bod_len, dI, sB_len]
  omega
/-- How many blocks the first nodes have. -/
def needN (f : Nat → Nd) : Nat → Nat
  | 0 => 0
  | i + 1 => needN f i + (kp (f i).ads (f i).ads.length).length
theorem off_need {at' : Nat → Int} {f : Nat → Nd} {K : Nat} (h : ∀ i, i < K → (f i).ads.length ≤ 828) : off at' f K = K + needN f K := by
  induction K with
  | zero => rfl
  | succ K ih => rw [off_succ, ih fun i hi => h i (by omega), needN, kp_len (h K (by omega)) at' (off at' f K), ih fun i hi => h i (by omega)]; omega
end Go.Proofs.Ytegcjpocdfmpfaa
