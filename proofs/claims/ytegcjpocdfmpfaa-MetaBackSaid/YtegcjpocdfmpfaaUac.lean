/-
  Lists of nodes as blocks, in plain words: what is laid, and how it is loaded.
-/
import Derived.Test.YtegcjpocdfmpfaaUab
set_option linter.unusedVariables false
set_option linter.unusedSimpArgs false
set_option maxRecDepth 100000
set_option maxHeartbeats 16000000
namespace Go.Proofs.Ytegcjpocdfmpfaa
open Go.RowKit

/-- A node of a list; a block: whose, which, its bytes. -/
structure Nd where
  ino : Int
  kind : Int
  links : Int
  size : Int
  ads : List Int
instance : Inhabited Nd := ⟨⟨0, 0, 0, 0, []⟩⟩
structure Bk where
  own : Int
  ind : Int
  z : List Int
instance : Inhabited Bk := ⟨⟨0, 0, []⟩⟩
/-- Is it one of N addresses? -/
def isA (N a : Int) : Bool := decide (1 ≤ a ∧ a ≤ N)
theorem isA_iff {N a : Int} : isA N a = true ↔ 1 ≤ a ∧ a ≤ N := by simp [isA]
/-- Tables of 28 numbers. -/
def tb (g : Nat → Int) : List Int := (List.range 28).map g
theorem tb_len (g : Nat → Int) : (tb g).length = 28 := by simp [tb]
theorem tb_num (g : Nat → Int) {i : Nat} (h : i < 28) : num (tb g) i = g i := by
  simp [tb, num, List.getD, List.getElem?_range h]
theorem tb_congr {g h : Nat → Int} (e : ∀ i, i < 28 → g i = h i) : tb g = tb h := List.map_congr_left fun i hi => e i (List.mem_range.1 hi)
theorem num_ext {x y : List Int} (hl : x.length = y.length) (h : ∀ i, i < x.length → num x i = num y i) : x = y := by
  apply List.ext_getElem hl
  intro i h1 h2
  have := h i h1
  simpa [num, List.getD, h1, h2] using this
theorem num_out {x : List Int} {i : Nat} (h : x.length ≤ i) : num x i = 0 := by simp [num, List.getD, List.getElem?_eq_none h]
theorem num_appl {x y : List Int} {i : Nat} (h : i < x.length) : num (x ++ y) i = num x i := by simp [num, List.getD, List.getElem?_append_left h]
theorem num_appr {x y : List Int} {i : Nat} (h : x.length ≤ i) : num (x ++ y) i = num y (i - x.length) := by simp [num, List.getD, List.getElem?_append_right h]
theorem gp_tb {g : Nat → Int} (h : ∀ i, i < 28 → 0 ≤ g i ∧ g i ≤ 65535) : gpL (ppL (tb g)) 28 = tb g := by
  refine num_ext (by rw [gpL_len, tb_len]) fun i hi => ?_
  rw [gpL_len] at hi
  exact gp_put (by rw [tb_len]; omega) (fun j hj => by rw [tb_len] at hj; rw [tb_num g hj]; exact h j hj) hi
/-- Is one of them not 0? -/
def som (l : List Int) : Bool := l.any fun z => z != 0
theorem som_tb {g : Nat → Int} : som (tb g) = true ↔ ∃ i, i < 28 ∧ g i ≠ 0 := by
  simp [som, tb]
theorem som_no {g : Nat → Int} (h : som (tb g) = false) {i : Nat} (hi : i < 28) : g i = 0 := by
  by_cases e : g i = 0
  · exact e
  · rw [som_tb.2 ⟨i, hi, e⟩] at h; cases h
/-- The addresses of 28 blocks. -/
def prt (A : List Int) (k : Nat) : List Int := tb fun i => num A (k + i)
def zer : List Int := tb fun _ => 0
theorem prt_zer {A : List Int} {k : Nat} (h : som (prt A k) = false) : prt A k = zer := tb_congr fun i hi => som_no h hi
theorem prt_far {A : List Int} {k : Nat} (h : som (prt A k) = true) : k < A.length := by
  obtain ⟨i, hi, hne⟩ := som_tb.1 h
  by_cases hk : k + i < A.length
  · omega
  · exact absurd (num_out (by omega)) hne
def sS (A : List Int) : Bool := som (prt A 16)
def dS (A : List Int) (k : Nat) : Bool := som (prt A (44 + 28 * k))
def sB (n : Nd) : List Bk := if sS n.ads then [⟨n.ino, 1000, ppL (prt n.ads 16)⟩] else []
def dB (n : Nd) : Nat → List Bk
  | 0 => []
  | k + 1 => dB n k ++ (if dS n.ads k then [⟨n.ino, 1001 + (k : Int), ppL (prt n.ads (44 + 28 * k))⟩] else [])
/-- The number of a pointers' block among a node's. -/
def dI (n : Nd) (k : Nat) : Nat := (sB n).length + (dB n k).length
def dA (n : Nd) : Bool := !(dB n 28).isEmpty
/-- Double's pointers, when k parts are laid. -/
def dP (at' : Nat → Int) (n : Nd) (m k : Nat) : List Int := tb fun i => if i < k ∧ dS n.ads i = true then at' (m + dI n i) else 0
def dL (at' : Nat → Int) (n : Nd) (m : Nat) : List Bk := if dA n then [⟨n.ino, 1100, ppL (dP at' n m 28)⟩] else []
/-- A node's blocks ahead of its record; the record; all. -/
def bod (at' : Nat → Int) (n : Nd) (m : Nat) : List Bk := sB n ++ dB n 28 ++ dL at' n m
def rF (at' : Nat → Int) (n : Nd) (m : Nat) : Nat → Int := fun i =>
  if i = 0 then n.kind else if i = 1 then n.links else if i = 2 then n.size else if i < 19 then num n.ads (i - 3) else if i = 19 then (if sS n.ads then at' m else 0) else if i = 20 then (if dA n then at' (m + dI n 28) else 0) else 0
def ndB (at' : Nat → Int) (n : Nd) (m : Nat) : List Bk := bod at' n m ++ [⟨n.ino, 999, recB (rF at' n m)⟩]
/-- The blocks of the first nodes. -/
def lB (at' : Nat → Int) (f : Nat → Nd) : Nat → List Bk
  | 0 => []
  | i + 1 => lB at' f i ++ ndB at' (f i) (lB at' f i).length
def off (at' : Nat → Int) (f : Nat → Nd) (i : Nat) : Nat := (lB at' f i).length
/-- The charts' pointers. -/
def chP (at' : Nat → Int) (f : Nat → Nd) : Nat → Nat → Int
  | 0 => fun _ => 0
  | i + 1 => fun j => if j = ((f i).ino - 1).toNat then at' (off at' f (i + 1) - 1) else chP at' f i j
def rtB (x y : Int) : List Int := digs 2 21074 ++ digs 2 x ++ digs 2 y ++ Z 50
def layB (at' : Nat → Int) (f : Nat → Nd) (n : Nat) : List Bk :=
  lB at' f n ++ [⟨0, 1, ppL (tb (chP at' f n))⟩, ⟨0, 2, ppL (tb fun i => chP at' f n (28 + i))⟩, ⟨0, 0, rtB (at' (off at' f n)) (at' (off at' f n + 1))⟩]
theorem layB_len (at' : Nat → Int) (f : Nat → Nd) (n : Nat) : (layB at' f n).length = off at' f n + 3 := by simp [layB, off]
/-- What a node's record has without addresses; is a node right by itself? -/
def rK (n : Nd) : Nat → Int := fun i => if i = 0 then n.kind else if i = 1 then n.links else if i = 2 then n.size else 0
def ndO (N : Int) (n : Nd) : Bool := rgO (rK n) && decide ((n.ads.length : Int) ≤ blkN n.size) && n.ads.all fun a => decide (a = 0) || isA N a
structure NdR (N : Int) (n : Nd) : Prop where
  r : rgO (rK n) = true
  l : (n.ads.length : Int) ≤ blkN n.size
  a : ∀ i, num n.ads i = 0 ∨ (1 ≤ num n.ads i ∧ num n.ads i ≤ N)
theorem ndO_iff {N : Int} {n : Nd} : ndO N n = true ↔ NdR N n := by
  rw [ndO, Bool.and_eq_true, Bool.and_eq_true, decide_eq_true_eq, List.all_eq_true]
  constructor
  · rintro ⟨⟨h1, h2⟩, h3⟩
    refine ⟨h1, h2, fun i => ?_⟩
    by_cases hi : i < n.ads.length
    · have := h3 (num n.ads i) (by rw [show num n.ads i = n.ads[i] by simp [num, List.getD, hi]]; exact List.getElem_mem hi)
      rw [Bool.or_eq_true, decide_eq_true_eq, isA_iff] at this
      exact this
    · exact .inl (num_out (by omega))
  · rintro ⟨h1, h2, h3⟩
    refine ⟨⟨h1, h2⟩, fun a ha => ?_⟩
    obtain ⟨i, hi, rfl⟩ := List.getElem_of_mem ha
    have := h3 i
    rw [show num n.ads i = n.ads[i] by simp [num, List.getD, hi]] at this
    rw [Bool.or_eq_true, decide_eq_true_eq, isA_iff]
    exact this
/-- A list's first n nodes are right. -/
structure LR (N : Int) (f : Nat → Nd) (n : Nat) : Prop where
  l1 : 1 ≤ n
  l2 : n ≤ 56
  i0 : (f 0).ino = 1
  k0 : (f 0).kind = 2
  top : ∀ i, i < n → (f i).ino ≤ 56
  up : ∀ i, i + 1 < n → (f i).ino < (f (i + 1)).ino
  nd : ∀ i, i < n → NdR N (f i)
/-- The last address that isn't 0. -/
def lst (A : List Int) : Nat → Nat
  | 0 => 0
  | k + 1 => if num A k = 0 then lst A k else k + 1
def trm (A : List Int) : List Int := A.take (lst A A.length)
theorem lst_le (A : List Int) (k : Nat) : lst A k ≤ k := by
  induction k with
  | zero => exact Nat.le_refl _
  | succ k ih => rw [lst]; split <;> omega
theorem lst_congr {A B : List Int} {k : Nat} (h : ∀ i, i < k → num A i = num B i) : lst A k = lst B k := by
  induction k with
  | zero => rfl
  | succ k ih => rw [lst, lst, ih fun i hi => h i (by omega), h k (by omega)]
theorem lst_far {A : List Int} {k m : Nat} (hk : k ≤ m) (h : ∀ i, k ≤ i → num A i = 0) : lst A m = lst A k := by
  induction m with
  | zero => rw [show k = 0 by omega]
  | succ m ih =>
    by_cases e : k = m + 1
    · rw [e]
    · rw [lst, if_pos (h m (by omega)), ih (by omega)]
theorem num_take' {ks : List Int} {n i : Nat} (h : i < n) : num (ks.take n) i = num ks i := by
  unfold num
  simp [List.getD, h]
theorem trm_same {A B : List Int} (h : ∀ i, num A i = num B i) : trm A = trm B := by
  have e : lst A A.length = lst B B.length := by
    rw [← lst_far (A := A) (Nat.le_max_left A.length B.length) (fun i hi => num_out hi), ← lst_far (A := B) (Nat.le_max_right A.length B.length) (fun i hi => num_out hi)]
    exact lst_congr fun i _ => h i
  have ha := lst_le A A.length
  have hb := lst_le B B.length
  refine num_ext (by simp [trm]; omega) fun i hi => ?_
  have hi' : i < lst A A.length := by
    unfold trm at hi
    rw [List.length_take] at hi
    omega
  rw [trm, trm, num_take' hi', num_take' (by omega), h i]
/-- What is read on the way. -/
inductive Rp (α : Type) where
  | ret (a : α)
  | bad (e : Int)
  | rd (p : Int) (k : List Int → Rp α)
def Rp.bind {α β : Type} : Rp α → (α → Rp β) → Rp β
  | .ret a, f => f a
  | .bad e, _ => .bad e
  | .rd p k, f => .rd p fun b => (k b).bind f
/-- Reading from blocks. -/
def run {α : Type} (N : Int) (blk : Int → Option (List Int)) : Rp α → List Int → Except Int (α × List Int)
  | .ret a, l => .ok (a, l)
  | .bad e, _ => .error e
  | .rd p k, l => if isA N p then (match blk p with
    | none => .error 14
    | some b => if b.length = 56 then run N blk (k b) (l ++ [p]) else .error 15) else .error 15
section
variable {α β : Type} {N : Int} {blk : Int → Option (List Int)}
theorem run_bind (p : Rp α) (f : α → Rp β) (l : List Int) : run N blk (p.bind f) l = match run N blk p l with
    | .ok (a, l') => run N blk (f a) l'
    | .error e => .error e := by
  induction p generalizing l with
  | ret a => rfl
  | bad e => rfl
  | rd q k ih =>
    show run N blk (.rd q fun b => (k b).bind f) l = _
    rw [run, run]
    by_cases h : isA N q = true
    · rw [if_pos h, if_pos h]
      cases blk q with
      | none => rfl
      | some b =>
        by_cases h2 : b.length = 56
        · simp only [h2, if_true]; exact ih b _
        · simp only [h2, if_false]
    · rw [if_neg h, if_neg h]
theorem run_ok {p : Rp α} {f : α → Rp β} {l l' : List Int} {a : α} (h : run N blk p l = .ok (a, l')) : run N blk (p.bind f) l = run N blk (f a) l' := by
  rw [run_bind, h]
theorem run_rd {q : Int} {k : List Int → Rp α} {l b : List Int} (h1 : 1 ≤ q ∧ q ≤ N) (h2 : blk q = some b) (h3 : b.length = 56) : run N blk (.rd q k) l = run N blk (k b) (l ++ [q]) := by
  rw [run, if_pos (isA_iff.2 h1), h2]
  simp only [h3, if_true]
end
/-- A pointer's block of pointers, and whether it has none. -/
def rdP (p : Int) : Rp (List Int × Bool) := if p = 0 then .ret (zer, false) else .rd p fun b => .ret (gpL b 28, !som (gpL b 28))
def ptP (dbl : List Int) (nb : Int) : Nat → Nat → List Int → Bool → Bool → Rp (List Int × Bool × Bool)
  | 0, _, acc, h, wr => .ret (acc, h, wr)
  | k + 1, i, acc, h, wr => (rdP (num dbl i)).bind fun p => ptP dbl nb k (i + 1) (acc ++ p.1) (h || p.2) (wr || (num dbl i != 0 && decide (nb ≤ 44 + 28 * (i : Int))))
/-- Is one of the first k addresses wrong? -/
def wrA (N nb : Int) (A : List Int) : Nat → Bool
  | 0 => false
  | k + 1 => wrA N nb A k || (num A k != 0 && (!isA N (num A k) || decide (nb ≤ (k : Int))))
def dir (g : Nat → Int) : List Int := (List.range 16).map fun i => g (3 + i)
def ndP (N ino p : Int) : Rp (Nd × Bool) := .rd p fun b => if okG b then
    (rdP (tld b 19)).bind fun s => (rdP (tld b 20)).bind fun d => (ptP d.1 (blkN (tld b 2)) 28 0 [] (s.2 || d.2) false).bind fun q =>
      if q.2.2 || wrA N (blkN (tld b 2)) (dir (tld b) ++ s.1 ++ q.1) (dir (tld b) ++ s.1 ++ q.1).length then .bad 15
      else .ret (⟨ino, tld b 0, tld b 1, tld b 2, trm (dir (tld b) ++ s.1 ++ q.1)⟩, q.2.1)
  else .bad 15
def nsP (N : Int) (ch : List Int) : Nat → Nat → List Nd → Bool → Rp (List Nd × Bool)
  | 0, _, L, h => .ret (L, h)
  | k + 1, i, L, h => if num ch i = 0 then nsP N ch k (i + 1) L h else (ndP N ((i : Int) + 1) (num ch i)).bind fun q => nsP N ch k (i + 1) (L ++ [q.1]) (h || q.2)

section
variable {N : Int} {blk : Int → Option (List Int)} {at' : Nat → Int} {n : Nd} {m : Nat}
theorem dB_up (n : Nd) {i j : Nat} (h : i ≤ j) : ∃ t, dB n j = dB n i ++ t := by
  induction j with
  | zero => exact ⟨[], by rw [show i = 0 by omega]; simp⟩
  | succ j ih =>
    by_cases e : i = j + 1
    · exact ⟨[], by rw [e]; simp⟩
    · obtain ⟨t, ht⟩ := ih (by omega)
      exact ⟨t ++ _, by rw [dB, ht, List.append_assoc]⟩
theorem dB_at (n : Nd) {k K : Nat} (hk : k < K) (h : dS n.ads k = true) : (dB n K)[(dB n k).length]? = some ⟨n.ino, 1001 + (k : Int), ppL (prt n.ads (44 + 28 * k))⟩ := by
  obtain ⟨t, ht⟩ := dB_up n (show k + 1 ≤ K by omega)
  rw [ht, dB, if_pos h, List.append_assoc, List.getElem?_append_right (Nat.le_refl _), Nat.sub_self]
  rfl
theorem dA_iff : dA n = true ↔ ∃ k, k < 28 ∧ dS n.ads k = true := by
  have key : ∀ K, (dB n K).isEmpty = false ↔ ∃ k, k < K ∧ dS n.ads k = true := by
    intro K
    induction K with
    | zero => simp [dB]
    | succ K ih =>
      rw [dB]
      cases h : dS n.ads K with
      | true => simp; exact ⟨K, by omega, h⟩
      | false =>
        simp only [Bool.false_eq_true, if_false, List.append_nil, ih]
        constructor
        · rintro ⟨k, h1, h2⟩; exact ⟨k, by omega, h2⟩
        · rintro ⟨k, h1, h2⟩
          by_cases e : k = K
          · rw [e, h] at h2; cases h2
          · exact ⟨k, by omega, h2⟩
  rw [dA, Bool.not_eq_true', key 28]
theorem sB_yes (h : sS n.ads = true) : sB n = [⟨n.ino, 1000, ppL (prt n.ads 16)⟩] := by rw [sB, if_pos h]
/-- What is laid is there. -/
structure There (N : Int) (blk : Int → Option (List Int)) (at' : Nat → Int) (n : Nd) (m : Nat) : Prop where
  b : ∀ j x, (ndB at' n m)[j]? = some x → blk (at' (m + j)) = some x.z
  a : ∀ j, j < (ndB at' n m).length → 1 ≤ at' (m + j) ∧ at' (m + j) ≤ N
theorem There.both (h : There N blk at' n m) {j : Nat} {x : Bk} (hx : (ndB at' n m)[j]? = some x) : (1 ≤ at' (m + j) ∧ at' (m + j) ≤ N) ∧ blk (at' (m + j)) = some x.z :=
  ⟨h.a j (List.getElem?_eq_some_iff.1 hx).1, h.b j x hx⟩
theorem There.single (h : There N blk at' n m) (hs : sS n.ads = true) : (1 ≤ at' m ∧ at' m ≤ N) ∧ blk (at' m) = some (ppL (prt n.ads 16)) := by
  have := h.both (j := 0) (x := ⟨n.ino, 1000, ppL (prt n.ads 16)⟩) (by rw [ndB, bod, sB_yes hs]; rfl)
  rwa [Nat.add_zero] at this
theorem There.part (h : There N blk at' n m) {k : Nat} (hk : k < 28) (hs : dS n.ads k = true) : (1 ≤ at' (m + dI n k) ∧ at' (m + dI n k) ≤ N) ∧ blk (at' (m + dI n k)) = some (ppL (prt n.ads (44 + 28 * k))) := by
  refine h.both (j := dI n k) (x := ⟨n.ino, 1001 + (k : Int), ppL (prt n.ads (44 + 28 * k))⟩) ?_
  have h1 := dB_at n hk hs
  have hlt := (List.getElem?_eq_some_iff.1 h1).1
  rw [ndB, bod, dI, List.append_assoc, List.append_assoc, List.getElem?_append_right (by omega), Nat.add_sub_cancel_left, List.getElem?_append_left hlt, h1]
theorem There.dbl (h : There N blk at' n m) (hs : dA n = true) : (1 ≤ at' (m + dI n 28) ∧ at' (m + dI n 28) ≤ N) ∧ blk (at' (m + dI n 28)) = some (ppL (dP at' n m 28)) := by
  refine h.both (j := dI n 28) (x := ⟨n.ino, 1100, ppL (dP at' n m 28)⟩) ?_
  rw [ndB, bod, dI, dL, if_pos hs, List.append_assoc, List.append_assoc, List.getElem?_append_right (by omega), Nat.add_sub_cancel_left, List.getElem?_append_right (Nat.le_refl _), Nat.sub_self]
  rfl
theorem There.rec' (h : There N blk at' n m) : (1 ≤ at' (m + (bod at' n m).length) ∧ at' (m + (bod at' n m).length) ≤ N) ∧ blk (at' (m + (bod at' n m).length)) = some (recB (rF at' n m)) := by
  refine h.both (j := (bod at' n m).length) (x := ⟨n.ino, 999, recB (rF at' n m)⟩) ?_
  rw [ndB, List.getElem?_append_right (Nat.le_refl _), Nat.sub_self]
  rfl
/-- What is read of a node: of its parts; of all. -/
def rdR (at' : Nat → Int) (n : Nd) (m : Nat) : Nat → List Int
  | 0 => []
  | k + 1 => rdR at' n m k ++ (if dS n.ads k then [at' (m + dI n k)] else [])
def ndR (at' : Nat → Int) (n : Nd) (m : Nat) : List Int :=
  [at' (m + (bod at' n m).length)] ++ (if sS n.ads then [at' m] else []) ++ (if dA n then [at' (m + dI n 28)] else []) ++ rdR at' n m 28
def pA (A : List Int) : Nat → List Int
  | 0 => []
  | k + 1 => pA A k ++ prt A (44 + 28 * k)
theorem pA_len (A : List Int) (k : Nat) : (pA A k).length = 28 * k := by
  induction k with
  | zero => rfl
  | succ k ih => rw [pA, List.length_append, ih, prt, tb_len]; omega
theorem pA_num (A : List Int) {k j : Nat} (h : j < 28 * k) : num (pA A k) j = num A (44 + j) := by
  induction k with
  | zero => omega
  | succ k ih =>
    rw [pA]
    by_cases hj : j < 28 * k
    · rw [num_appl (by rw [pA_len]; omega), ih hj]
    · rw [num_appr (by rw [pA_len]; omega), pA_len, prt, tb_num _ (by omega)]
      congr 1
      omega
theorem NdR.few (h : NdR N n) : n.ads.length ≤ 828 := by
  have h1 := h.l
  have h2 : blkN n.size ≤ 828 := by unfold blkN; split <;> omega
  omega
theorem NdR.pt (h : NdR N n) (hN : N ≤ 65535) (i : Nat) : 0 ≤ num n.ads i ∧ num n.ads i ≤ 65535 := by
  have := h.a i
  omega
theorem rd_prt (hr : NdR N n) (hN : N ≤ 65535) {k : Nat} {p : Int} {l : List Int} (hs : som (prt n.ads k) = true) (h : (1 ≤ p ∧ p ≤ N) ∧ blk p = some (ppL (prt n.ads k))) : run N blk (rdP p) l = .ok ((prt n.ads k, false), l ++ [p]) := by
  have e : gpL (ppL (prt n.ads k)) 28 = prt n.ads k := gp_tb fun i hi => hr.pt hN _
  rw [rdP, if_neg (by omega), run_rd h.1 h.2 (by rw [ppL_len]; rw [prt, tb_len]; omega), run, e, hs]
  rfl
theorem rd_zer {l : List Int} : run N blk (rdP 0) l = .ok ((zer, false), l) := rfl
theorem pt_back (hr : NdR N n) (hN : N ≤ 65535) (ht : There N blk at' n m) {dbl : List Int} (hd : ∀ i, i < 28 → num dbl i = if dS n.ads i = true then at' (m + dI n i) else 0) {h : Bool} {l : List Int} :
    ∀ k i, i + k = 28 → run N blk (ptP dbl (blkN n.size) k i (pA n.ads i) h false) (l ++ rdR at' n m i) = .ok ((pA n.ads 28, h, false), l ++ rdR at' n m 28) := by
  intro k
  induction k with
  | zero => intro i hi; rw [show i = 28 by omega]; rfl
  | succ k ih =>
    intro i hi
    have hi28 : i < 28 := by omega
    rw [ptP]
    cases hs : dS n.ads i with
    | false =>
      have e : num dbl i = 0 := by rw [hd i hi28, hs]; rfl
      rw [e, run_ok rd_zer]
      have := ih (i + 1) (by omega)
      rw [pA, rdR, hs, prt_zer hs] at this
      simpa using this
    | true =>
      have hb := ht.part hi28 hs
      have e : num dbl i = at' (m + dI n i) := by rw [hd i hi28, hs]; rfl
      rw [e, run_ok (rd_prt hr hN hs hb)]
      have hlt := prt_far hs
      have hl := hr.l
      have := ih (i + 1) (by omega)
      rw [pA, rdR, hs, if_pos rfl, ← List.append_assoc] at this
      rw [show decide (blkN n.size ≤ 44 + 28 * (i : Int)) = false from decide_eq_false (by omega), Bool.and_false, Bool.or_false, Bool.or_false]
      exact this
theorem wrA_no {nb : Int} {A : List Int} {k : Nat} (h : ∀ i, i < k → num A i = 0 ∨ ((1 ≤ num A i ∧ num A i ≤ N) ∧ (i : Int) < nb)) : wrA N nb A k = false := by
  induction k with
  | zero => rfl
  | succ k ih =>
    rw [wrA, ih fun i hi => h i (by omega), Bool.false_or]
    rcases h k (by omega) with h0 | ⟨h1, h2⟩
    · rw [h0]; rfl
    · rw [isA_iff.2 h1, decide_eq_false (by omega)]
      simp
theorem dir_len (g : Nat → Int) : (dir g).length = 16 := by simp [dir]
theorem dir_num (g : Nat → Int) {i : Nat} (h : i < 16) : num (dir g) i = g (3 + i) := by simp [dir, num, List.getD, List.getElem?_range h]
theorem rF_0 : rF at' n m 0 = n.kind := by unfold rF; rw [if_pos (by omega)]
theorem rF_1 : rF at' n m 1 = n.links := by unfold rF; rw [if_neg (by omega), if_pos (by omega)]
theorem rF_2 : rF at' n m 2 = n.size := by unfold rF; rw [if_neg (by omega), if_neg (by omega), if_pos (by omega)]
theorem rF_d {i : Nat} (h : i < 16) : rF at' n m (3 + i) = num n.ads i := by
  unfold rF
  rw [if_neg (by omega), if_neg (by omega), if_neg (by omega), if_pos (by omega), show 3 + i - 3 = i by omega]
theorem rF_19 : rF at' n m 19 = if sS n.ads = true then at' m else 0 := by unfold rF; rw [if_neg (by omega), if_neg (by omega), if_neg (by omega), if_neg (by omega), if_pos (by omega)]
theorem rF_20 : rF at' n m 20 = if dA n = true then at' (m + dI n 28) else 0 := by unfold rF; rw [if_neg (by omega), if_neg (by omega), if_neg (by omega), if_neg (by omega), if_neg (by omega), if_pos (by omega)]
theorem at_yes {p q b : Int} (h1 : 0 ≤ p ∧ p ≤ 65535) (h2 : p = 0 ∨ q < b) : (ptO p && (decide (p = 0) || decide (q < b))) = true := by
  rw [ptO_iff.2 h1, Bool.true_and, Bool.or_eq_true, decide_eq_true_eq, decide_eq_true_eq]
  exact h2
/-- Its record is right. -/
theorem rF_right (hr : NdR N n) (hN : N ≤ 65535) (ht : There N blk at' n m) : RgR (rF at' n m) := by
  have h0 := rgO_iff.1 hr.r
  have hk : (n.kind = 1 ∨ n.kind = 2) := h0.kind
  have h1 : 1 ≤ n.links := h0.l1
  have h2 : n.links ≤ 65535 := h0.l2
  have h3 : 0 ≤ n.size := h0.s0
  have h4 : n.size ≤ 46368 := h0.s1
  have hl := hr.l
  refine ⟨by rw [rF_0]; exact hk, by rw [rF_1]; exact h1, by rw [rF_1]; exact h2, by rw [rF_2]; exact h3, by rw [rF_2]; exact h4, fun i hi => ?_⟩
  rw [atO, rF_2]
  by_cases h16 : i < 16
  · rw [rF_d h16]
    refine at_yes (hr.pt hN i) ?_
    by_cases hz : num n.ads i = 0
    · exact .inl hz
    · have : i < n.ads.length := by
        by_cases hi2 : i < n.ads.length
        · exact hi2
        · exact absurd (num_out (by omega)) hz
      rw [ftI, if_neg (by omega), if_neg (by omega)]
      exact .inr (by omega)
  · rcases (by omega : i = 16 ∨ i = 17) with rfl | rfl
    · rw [show 3 + 16 = 19 from rfl, rF_19]
      by_cases hs : sS n.ads = true
      · have hb := (ht.single hs).1
        have := prt_far hs
        rw [if_pos hs]
        exact at_yes (by omega) (.inr (by rw [show ftI 16 = 16 from rfl]; omega))
      · rw [if_neg hs]
        exact at_yes (by omega) (.inl rfl)
    · rw [show 3 + 17 = 20 from rfl, rF_20]
      by_cases hs : dA n = true
      · have hb := (ht.dbl hs).1
        obtain ⟨k, hk1, hk2⟩ := dA_iff.1 hs
        have := prt_far hk2
        rw [if_pos hs]
        exact at_yes (by omega) (.inr (by rw [show ftI 17 = 44 from rfl]; omega))
      · rw [if_neg hs]
        exact at_yes (by omega) (.inl rfl)
/-- What is read of a node's record and pointers' blocks. -/
theorem nd_back (hr : NdR N n) (hN : N ≤ 65535) (ht : There N blk at' n m) (l : List Int) :
    run N blk (ndP N n.ino (at' (m + (bod at' n m).length))) l = .ok ((⟨n.ino, n.kind, n.links, n.size, trm n.ads⟩, false), l ++ ndR at' n m) := by
  have hg := rF_right hr hN ht
  have hrec := ht.rec'
  obtain ⟨b, hb⟩ : ∃ b, b = recB (rF at' n m) := ⟨_, rfl⟩
  have t : ∀ i, i < 21 → tld b i = rF at' n m i := fun i hi => by rw [hb]; exact tld_rec hg hi
  have hok : okG b = true := by rw [hb]; exact okG_rec hg
  have hlen : b.length = 56 := by rw [hb]; exact recB_len _
  rw [← hb] at hrec
  rw [ndP, run_rd hrec.1 hrec.2 hlen, if_pos hok]
  have e0 : tld b 0 = n.kind := (t 0 (by omega)).trans rF_0
  have e1 : tld b 1 = n.links := (t 1 (by omega)).trans rF_1
  have e2 : tld b 2 = n.size := (t 2 (by omega)).trans rF_2
  have e19 : tld b 19 = if sS n.ads = true then at' m else 0 := (t 19 (by omega)).trans rF_19
  have e20 : tld b 20 = if dA n = true then at' (m + dI n 28) else 0 := (t 20 (by omega)).trans rF_20
  -- Single
  have hsi : ∀ l, run N blk (rdP (tld b 19)) l = .ok ((prt n.ads 16, false), l ++ (if sS n.ads then [at' m] else [])) := fun l => by
    rw [e19]
    cases hs : sS n.ads with
    | false => simp only [Bool.false_eq_true, if_false, List.append_nil]; rw [rd_zer, prt_zer hs]
    | true => simp only [if_true]; exact rd_prt hr hN hs (ht.single hs)
  -- Double
  obtain ⟨dbl, hdb, hdd⟩ : ∃ dbl, (∀ i, i < 28 → num dbl i = if dS n.ads i = true then at' (m + dI n i) else 0) ∧ ∀ l, run N blk (rdP (tld b 20)) l = .ok ((dbl, false), l ++ (if dA n then [at' (m + dI n 28)] else [])) := by
    rw [e20]
    cases hs : dA n with
    | false =>
      refine ⟨zer, fun i hi => ?_, fun l => ?_⟩
      · cases h2 : dS n.ads i with
        | false => rw [zer, tb_num _ hi]; rfl
        | true => rw [dA_iff.2 ⟨i, hi, h2⟩] at hs; cases hs
      · simp only [Bool.false_eq_true, if_false, List.append_nil]; exact rd_zer
    | true =>
      have hb2 := ht.dbl hs
      have hp : ∀ i, i < 28 → 0 ≤ (if i < 28 ∧ dS n.ads i = true then at' (m + dI n i) else 0) ∧ (if i < 28 ∧ dS n.ads i = true then at' (m + dI n i) else 0) ≤ 65535 := fun i hi => by
        by_cases h2 : dS n.ads i = true
        · rw [if_pos ⟨hi, h2⟩]
          have := (ht.part hi h2).1
          omega
        · rw [if_neg fun h3 => h2 h3.2]; omega
      refine ⟨dP at' n m 28, fun i hi => ?_, fun l => ?_⟩
      · rw [dP, tb_num _ hi]
        by_cases h2 : dS n.ads i = true
        · rw [if_pos ⟨hi, h2⟩, if_pos h2]
        · rw [if_neg fun h3 => h2 h3.2, if_neg h2]
      · have e : gpL (ppL (dP at' n m 28)) 28 = dP at' n m 28 := gp_tb hp
        obtain ⟨k, hk1, hk2⟩ := dA_iff.1 hs
        have hso : som (dP at' n m 28) = true := som_tb.2 ⟨k, hk1, by
          rw [if_pos ⟨hk1, hk2⟩]
          have := (ht.part hk1 hk2).1
          omega⟩
        simp only [if_true]
        rw [rdP, if_neg (by omega), run_rd hb2.1 hb2.2 (by rw [ppL_len]; rw [dP, tb_len]; omega), run, e, hso]
        rfl
  rw [run_ok (hsi _), run_ok (hdd _), e2]
  have hpt := pt_back (blk := blk) hr hN ht hdb (h := (false || false)) (l := l ++ [at' (m + (bod at' n m).length)] ++ (if sS n.ads then [at' m] else []) ++ (if dA n then [at' (m + dI n 28)] else [])) 28 0 rfl
  rw [pA, rdR, List.append_nil] at hpt
  rw [run_ok hpt]
  -- all addresses
  obtain ⟨all, hall⟩ : ∃ x, x = dir (tld b) ++ prt n.ads 16 ++ pA n.ads 28 := ⟨_, rfl⟩
  have hnum : ∀ i, num all i = num n.ads i := fun i => by
    rw [hall]
    by_cases h16 : i < 16
    · rw [List.append_assoc, num_appl (by rw [dir_len]; omega), dir_num _ h16, t (3 + i) (by omega), rF_d h16]
    · by_cases h44 : i < 44
      · rw [List.append_assoc, num_appr (by rw [dir_len]; omega), num_appl (by rw [dir_len, prt, tb_len]; omega), dir_len, prt, tb_num _ (by omega), show 16 + (i - 16) = i by omega]
      · have hl : (dir (tld b) ++ prt n.ads 16).length = 44 := by rw [List.length_append, dir_len, prt, tb_len]
        rw [num_appr (by omega), hl]
        by_cases h828 : i - 44 < 28 * 28
        · rw [pA_num _ h828, show 44 + (i - 44) = i by omega]
        · rw [num_out (by rw [pA_len]; omega), num_out (by have := hr.few; omega)]
  have hwr : wrA N (blkN n.size) all all.length = false := wrA_no fun i _ => by
    rw [hnum]
    rcases hr.a i with h0 | h1
    · exact .inl h0
    · refine .inr ⟨h1, ?_⟩
      have : i < n.ads.length := by
        by_cases hi : i < n.ads.length
        · exact hi
        · have := num_out (x := n.ads) (i := i) (by omega)
          omega
      have := hr.l
      omega
  rw [← hall, hwr, trm_same hnum, e0, e1]
  simp only [Bool.or_self, Bool.false_eq_true, if_false, run, ndR]
  simp only [List.append_assoc]
end

/-- Is a list right? -/
def lrO (N : Int) (L : List Nd) : Bool :=
  decide (1 ≤ L.length ∧ L.length ≤ 56) && decide ((L.getD 0 default).ino = 1) && decide ((L.getD 0 default).kind = 2) &&
    (List.range L.length).all fun i => decide ((L.getD i default).ino ≤ 56) && (decide (i = 0) || decide ((L.getD (i - 1) default).ino < (L.getD i default).ino)) && ndO N (L.getD i default)
theorem lrO_iff {N : Int} {L : List Nd} : lrO N L = true ↔ LR N (fun i => L.getD i default) L.length := by
  rw [lrO, Bool.and_eq_true, Bool.and_eq_true, Bool.and_eq_true, decide_eq_true_eq, decide_eq_true_eq, decide_eq_true_eq, List.all_eq_true]
  constructor
  · rintro ⟨⟨⟨h1, h2⟩, h3⟩, h4⟩
    have g : ∀ i, i < L.length → (L.getD i default).ino ≤ 56 ∧ (i = 0 ∨ (L.getD (i - 1) default).ino < (L.getD i default).ino) ∧ NdR N (L.getD i default) := fun i hi => by
      have := h4 i (List.mem_range.2 hi)
      rw [Bool.and_eq_true, Bool.and_eq_true, Bool.or_eq_true, decide_eq_true_eq, decide_eq_true_eq, decide_eq_true_eq, ndO_iff] at this
      exact ⟨this.1.1, this.1.2, this.2⟩
    refine ⟨h1.1, h1.2, h2, h3, fun i hi => (g i hi).1, fun i hi => ?_, fun i hi => (g i hi).2.2⟩
    rcases (g (i + 1) hi).2.1 with h | h
    · omega
    · exact h
  · intro h
    refine ⟨⟨⟨⟨h.l1, h.l2⟩, h.i0⟩, h.k0⟩, fun i hi => ?_⟩
    have hi' := List.mem_range.1 hi
    rw [Bool.and_eq_true, Bool.and_eq_true, Bool.or_eq_true, decide_eq_true_eq, decide_eq_true_eq, decide_eq_true_eq, ndO_iff]
    refine ⟨⟨h.top i hi', ?_⟩, h.nd i hi'⟩
    by_cases e : i = 0
    · exact .inl e
    · have := h.up (i - 1) (by omega)
      rw [show i - 1 + 1 = i by omega] at this
      exact .inr this
def loadP (N root : Int) : Rp (List Nd) := .rd root fun b => if getV b.length b 0 2 = 21074 ∧ noughtB (b.drop 6) = true then
    .rd (getV b.length b 2 2) fun c => .rd (getV b.length b 4 2) fun d => (nsP N (gpL c 28 ++ gpL d 28) 56 0 [] false).bind fun q => if q.2 || !lrO N q.1 then .bad 15 else .ret q.1
  else .bad 15
def trn (n : Nd) : Nd := ⟨n.ino, n.kind, n.links, n.size, trm n.ads⟩
def tl (f : Nat → Nd) (n : Nat) : List Nd := (List.range n).map fun i => trn (f i)
theorem tl_succ (f : Nat → Nd) (n : Nat) : tl f (n + 1) = tl f n ++ [trn (f n)] := by simp [tl, List.range_succ]
theorem tl_get (f : Nat → Nd) {n i : Nat} (h : i < n) : (tl f n).getD i default = trn (f i) := by simp [tl, List.getD, List.getElem?_range h]
theorem tl_len (f : Nat → Nd) (n : Nat) : (tl f n).length = n := by simp [tl]
theorem trm_num (A : List Int) (i : Nat) : num (trm A) i = num A i ∨ num (trm A) i = 0 := by
  by_cases h : i < lst A A.length
  · exact .inl (num_take' h)
  · refine .inr (num_out ?_)
    rw [trm, List.length_take]
    omega
theorem trn_right {N : Int} {n : Nd} (h : NdR N n) : NdR N (trn n) := by
  refine ⟨h.r, ?_, fun i => ?_⟩
  · have h1 := h.l
    have h2 := lst_le n.ads n.ads.length
    have : (trn n).ads.length ≤ n.ads.length := by show (trm n.ads).length ≤ _; rw [trm, List.length_take]; omega
    show ((trn n).ads.length : Int) ≤ blkN n.size
    omega
  · show num (trm n.ads) i = 0 ∨ _
    rcases trm_num n.ads i with e | e
    · show num (trm n.ads) i = 0 ∨ (1 ≤ num (trm n.ads) i ∧ num (trm n.ads) i ≤ N)
      rw [e]
      exact h.a i
    · exact .inl e
section
variable {N : Int} {blk : Int → Option (List Int)} {at' : Nat → Int} {f : Nat → Nd} {n : Nat}
theorem tl_right (h : LR N f n) : lrO N (tl f n) = true := by
  rw [lrO_iff, tl_len]
  have h1 := h.l1
  refine ⟨h.l1, h.l2, ?_, ?_, fun i hi => ?_, fun i hi => ?_, fun i hi => ?_⟩
  · show ((tl f n).getD 0 default).ino = 1
    rw [tl_get f (by omega)]; exact h.i0
  · show ((tl f n).getD 0 default).kind = 2
    rw [tl_get f (by omega)]; exact h.k0
  · show ((tl f n).getD i default).ino ≤ 56
    rw [tl_get f hi]; exact h.top i hi
  · show ((tl f n).getD i default).ino < ((tl f n).getD (i + 1) default).ino
    rw [tl_get f hi, tl_get f (by omega)]; exact h.up i hi
  · show NdR N ((tl f n).getD i default)
    rw [tl_get f hi]; exact trn_right (h.nd i hi)
theorem LR.lt (h : LR N f n) {i j : Nat} (hij : i < j) (hj : j < n) : (f i).ino < (f j).ino := by
  induction j with
  | zero => omega
  | succ j ih =>
    have h1 := h.up j hj
    by_cases e : i = j
    · subst e; exact h1
    · have := ih (by omega) (by omega)
      omega
theorem LR.pos (h : LR N f n) {i : Nat} (hi : i < n) : 1 ≤ (f i).ino := by
  by_cases e : i = 0
  · subst e; have := h.i0; omega
  · have := h.lt (show 0 < i by omega) hi
    have := h.i0
    omega
theorem off_succ (at' : Nat → Int) (f : Nat → Nd) (i : Nat) : off at' f (i + 1) = off at' f i + ((bod at' (f i) (off at' f i)).length + 1) := by
  simp [off, lB, ndB]
theorem off_up (at' : Nat → Int) (f : Nat → Nd) {i j : Nat} (h : i ≤ j) : off at' f i ≤ off at' f j := by
  induction j with
  | zero => rw [show i = 0 by omega]; exact Nat.le_refl _
  | succ j ih =>
    by_cases e : i = j + 1
    · rw [e]; exact Nat.le_refl _
    · have := ih (by omega)
      rw [off_succ]
      omega
theorem lB_up (at' : Nat → Int) (f : Nat → Nd) {i j : Nat} (h : i ≤ j) : ∃ t, lB at' f j = lB at' f i ++ t := by
  induction j with
  | zero => exact ⟨[], by rw [show i = 0 by omega]; simp⟩
  | succ j ih =>
    by_cases e : i = j + 1
    · exact ⟨[], by rw [e]; simp⟩
    · obtain ⟨t, ht⟩ := ih (by omega)
      exact ⟨t ++ ndB at' (f j) (lB at' f j).length, by rw [lB, ht, List.append_assoc]⟩
theorem chP_no {j : Nat} (h : ∀ i, i < n → j ≠ ((f i).ino - 1).toNat) : chP at' f n j = 0 := by
  induction n with
  | zero => rfl
  | succ n ih =>
    rw [chP]
    show (if j = ((f n).ino - 1).toNat then _ else chP at' f n j) = 0
    rw [if_neg (h n (by omega)), ih fun i hi => h i (by omega)]
theorem chP_at {i K : Nat} (hi : i < K) (h : ∀ j, i < j → j < K → ((f i).ino - 1).toNat ≠ ((f j).ino - 1).toNat) : chP at' f K ((f i).ino - 1).toNat = at' (off at' f (i + 1) - 1) := by
  induction K with
  | zero => omega
  | succ K ih =>
    show (if ((f i).ino - 1).toNat = ((f K).ino - 1).toNat then at' (off at' f (K + 1) - 1) else chP at' f K ((f i).ino - 1).toNat) = _
    by_cases e : i = K
    · subst e; rw [if_pos rfl]
    · rw [if_neg (h K (by omega) (by omega)), ih (by omega) fun j h1 h2 => h j h1 (by omega)]
/-- All is there. -/
structure Laid (N : Int) (blk : Int → Option (List Int)) (at' : Nat → Int) (f : Nat → Nd) (n : Nat) : Prop where
  b : ∀ j x, (layB at' f n)[j]? = some x → blk (at' j) = some x.z
  a : ∀ j, j < off at' f n + 3 → 1 ≤ at' j ∧ at' j ≤ N
theorem Laid.there (h : Laid N blk at' f n) {i : Nat} (hi : i < n) : There N blk at' (f i) (off at' f i) := by
  obtain ⟨t, ht⟩ := lB_up at' f (show i + 1 ≤ n by omega)
  constructor
  · intro j x hx
    refine h.b _ x ?_
    have hlt := (List.getElem?_eq_some_iff.1 hx).1
    unfold off at hx hlt
    show (layB at' f n)[(lB at' f i).length + j]? = some x
    rw [layB, ht, lB, List.append_assoc, List.append_assoc, List.getElem?_append_right (by omega), Nat.add_sub_cancel_left, List.getElem?_append_left hlt]
    exact hx
  · intro j hj
    refine h.a _ ?_
    have h1 := off_up at' f (show i + 1 ≤ n by omega)
    rw [off_succ] at h1
    simp [ndB] at hj
    omega
theorem Laid.tail (h : Laid N blk at' f n) {j : Nat} {x : Bk} (hj : j < 3) (hx : [⟨0, 1, ppL (tb (chP at' f n))⟩, ⟨0, 2, ppL (tb fun i => chP at' f n (28 + i))⟩, (⟨0, 0, rtB (at' (off at' f n)) (at' (off at' f n + 1))⟩ : Bk)][j]? = some x) : (1 ≤ at' (off at' f n + j) ∧ at' (off at' f n + j) ≤ N) ∧ blk (at' (off at' f n + j)) = some x.z := by
  refine ⟨h.a _ (by omega), h.b _ x ?_⟩
  rw [layB, off, List.getElem?_append_right (by omega), Nat.add_sub_cancel_left]
  exact hx
/-- What is read of the first nodes. -/
def rds (at' : Nat → Int) (f : Nat → Nd) : Nat → List Int
  | 0 => []
  | i + 1 => rds at' f i ++ ndR at' (f i) (off at' f i)
theorem ns_back (hr : LR N f n) (hN : N ≤ 65535) (hL : Laid N blk at' f n) {ch : List Int} (hch : ∀ j, j < 56 → num ch j = chP at' f n j) {l : List Int} :
    ∀ k j i : Nat, j + k = 56 → i ≤ n → (∀ x, x < i → (f x).ino ≤ j) → (∀ x, i ≤ x → x < n → (j : Int) < (f x).ino) → run N blk (nsP N ch k j (tl f i) false) (l ++ rds at' f i) = .ok ((tl f n, false), l ++ rds at' f n) := by
  intro k
  induction k with
  | zero =>
    intro j i hj hi h1 h2
    have : i = n := by
      by_cases e : i = n
      · exact e
      · have := h2 i (Nat.le_refl _) (by omega)
        have := hr.top i (by omega)
        omega
    subst this
    rfl
  | succ k ih =>
    intro j i hj hi h1 h2
    rw [nsP, hch j (by omega)]
    by_cases hx : i < n ∧ (f i).ino = (j : Int) + 1
    · obtain ⟨hin, he⟩ := hx
      have e1 : j = ((f i).ino - 1).toNat := by omega
      have e2 : chP at' f n j = at' (off at' f i + (bod at' (f i) (off at' f i)).length) := by
        rw [e1, chP_at hin fun x h3 h4 => by
          have := hr.lt h3 h4
          have := hr.pos hin
          omega, off_succ]
        congr 1
      have hth := hL.there hin
      have hpos := hth.rec'.1
      rw [e2, if_neg (by omega), ← he, run_ok (nd_back (hr.nd i hin) hN hth _)]
      have := ih (j + 1) (i + 1) (by omega) (by omega) (fun x hx => by
        by_cases e : x = i
        · subst e; omega
        · have := h1 x (by omega); omega) (fun x h3 h4 => by
          have := hr.lt (show i < x by omega) h4
          omega)
      rw [tl_succ, rds, ← List.append_assoc] at this
      exact this
    · have e0 : chP at' f n j = 0 := chP_no fun x hxn e => by
        have hp := hr.pos hxn
        rcases Nat.lt_or_ge x i with h3 | h3
        · have := h1 x h3; omega
        · have h4 := h2 x h3 hxn
          by_cases e5 : x = i
          · subst e5; exact hx ⟨hxn, by omega⟩
          · have h6 := hr.lt (show i < x by omega) hxn
            have h7 := h2 i (Nat.le_refl _) (by omega)
            omega
      rw [if_pos e0]
      refine ih (j + 1) i (by omega) hi (fun x hx => by have := h1 x hx; omega) fun x h3 h4 => ?_
      have h5 := h2 x h3 h4
      by_cases e5 : (f x).ino = (j : Int) + 1
      · exfalso
        by_cases e6 : x = i
        · subst e6; exact hx ⟨h4, e5⟩
        · have h6 := hr.lt (show i < x by omega) h4
          have h7 := h2 i (Nat.le_refl _) (by omega)
          omega
      · omega
theorem rtB_len (x y : Int) : (rtB x y).length = 56 := by simp [rtB, digs_len]
theorem rtB_get {x y : Int} (hx : 0 ≤ x ∧ x ≤ 65535) (hy : 0 ≤ y ∧ y ≤ 65535) : getV (rtB x y).length (rtB x y) 0 2 = 21074 ∧ getV (rtB x y).length (rtB x y) 2 2 = x ∧ getV (rtB x y).length (rtB x y) 4 2 = y ∧ noughtB ((rtB x y).drop 6) = true := by
  have g : ∀ p : Nat, p + 2 ≤ 56 → getV (rtB x y).length (rtB x y) p 2 = getN (rtB x y) p 2 := fun p hp => getV_in (p := p) (m := 2) (by omega) (by omega) (by rw [rtB_len]; exact hp)
  refine ⟨?_, ?_, ?_, ?_⟩
  · have := g 0 (by omega)
    rw [show ((0 : Nat) : Int) = 0 from rfl] at this
    rw [this]
    have := getN_app [] 2 21074 (digs 2 x ++ digs 2 y ++ Z 50) (by omega) (by omega)
    simpa [rtB, List.append_assoc] using this
  · have := g 2 (by omega)
    rw [show ((2 : Nat) : Int) = 2 from rfl] at this
    rw [this]
    have := getN_app (digs 2 21074) 2 x (digs 2 y ++ Z 50) hx.1 (by omega)
    simpa [rtB, List.append_assoc, digs_len] using this
  · have := g 4 (by omega)
    rw [show ((4 : Nat) : Int) = 4 from rfl] at this
    rw [this]
    have := getN_app (digs 2 21074 ++ digs 2 x) 2 y (Z 50) hy.1 (by omega)
    simpa [rtB, List.append_assoc, digs_len] using this
  · rw [rtB, List.drop_append_of_le_length (by simp [digs_len]), List.drop_of_length_le (by simp [digs_len])]
    exact nought_of 50
/-- A list that was laid is loaded again. -/
theorem load_back (hr : LR N f n) (hN : N ≤ 65535) (hL : Laid N blk at' f n) :
    run N blk (loadP N (at' (off at' f n + 2))) [] = .ok (tl f n, [at' (off at' f n + 2), at' (off at' f n), at' (off at' f n + 1)] ++ rds at' f n) := by
  have h0 := hL.tail (j := 0) (by omega) rfl
  have h1 := hL.tail (j := 1) (by omega) rfl
  have h2 := hL.tail (j := 2) (by omega) rfl
  rw [Nat.add_zero] at h0
  obtain ⟨g0, g1, g2, g3⟩ := rtB_get (x := at' (off at' f n)) (y := at' (off at' f n + 1)) (by omega) (by omega)
  have hbd : ∀ j, 0 ≤ chP at' f n j ∧ chP at' f n j ≤ 65535 := fun j => by
    by_cases h : ∃ i, i < n ∧ j = ((f i).ino - 1).toNat
    · obtain ⟨i, hi, e⟩ := h
      rw [e, chP_at hi fun x h3 h4 => by
        have := hr.lt h3 h4
        have := hr.pos hi
        omega]
      have := hL.a (off at' f (i + 1) - 1) (by have := off_up at' f (show i + 1 ≤ n by omega); omega)
      omega
    · rw [chP_no fun i hi e => h ⟨i, hi, e⟩]; omega
  have e1 : gpL (ppL (tb (chP at' f n))) 28 = tb (chP at' f n) := gp_tb fun i _ => hbd i
  have e2 : gpL (ppL (tb fun i => chP at' f n (28 + i))) 28 = tb fun i => chP at' f n (28 + i) := gp_tb fun i _ => hbd _
  rw [loadP, run_rd h2.1 h2.2 (rtB_len _ _), if_pos ⟨g0, g3⟩, g1, g2, run_rd h0.1 h0.2 (by rw [ppL_len]; rw [tb_len]; omega), run_rd h1.1 h1.2 (by rw [ppL_len]; rw [tb_len]; omega), e1, e2]
  have hns := ns_back (blk := blk) hr hN hL (ch := tb (chP at' f n) ++ tb fun i => chP at' f n (28 + i)) (fun j hj => by
    by_cases h28 : j < 28
    · rw [num_appl (by rw [tb_len]; omega), tb_num _ h28]
    · rw [num_appr (by rw [tb_len]; omega), tb_len, tb_num _ (by omega), show 28 + (j - 28) = j by omega]) (l := [] ++ [at' (off at' f n + 2)] ++ [at' (off at' f n)] ++ [at' (off at' f n + 1)]) 56 0 0 rfl (by omega) (fun x hx => by omega) (fun x _ hx => by have := hr.pos hx; omega)
  rw [rds, List.append_nil] at hns
  rw [run_ok (show run N blk (nsP N _ 56 0 [] false) _ = _ from hns)]
  simp only [tl_right hr, Bool.not_true, Bool.or_self, Bool.false_eq_true, if_false]
  rfl
end
end Go.Proofs.Ytegcjpocdfmpfaa
