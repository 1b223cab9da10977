/-
  Lists of nodes as blocks, in plain words: what is laid, and how it is loaded.
-/
import Derived.Test.YtegcjpocdfmpfaaTab
import Derived.Test.YtegcjpocdfmpfaaRows
import Derived.WalkKit
import Derived.WalkSpells
import Derived.WalkLawsBesides
import Derived.WalkSmall
import Derived.Deep.QuietTactic
import Derived.Deep.RegionHeld3
import Derived.BigQuiet
import Derived.IntWalk
import Derived.Lib.Hide
import Derived.ProofKit
set_option linter.unusedVariables false
set_option linter.unusedSimpArgs false
set_option maxRecDepth 100000
set_option maxHeartbeats 16000000
namespace Go.Proofs.Ytegcjpocdfmpfaa
open Go.RowKit

/-- A node of a list; a block: whose, which, its bytes. -/
structure Nd where
  ino : Int
  kind : Int
  links : Int
  size : Int
  ads : List Int
instance : Inhabited Nd := ⟨⟨0, 0, 0, 0, []⟩⟩
structure Bk where
  own : Int
  ind : Int
  z : List Int
instance : Inhabited Bk := ⟨⟨0, 0, []⟩⟩
/-- Is it one of N addresses? -/
def isA (N a : Int) : Bool := decide (1 ≤ a ∧ a ≤ N)
theorem isA_iff {N a : Int} : isA N a = true ↔ 1 ≤ a ∧ a ≤ N := by simp [isA]
/-- Tables of 28 numbers. -/
def tb (g : Nat → Int) : List Int := (List.range 28).map g
theorem tb_len (g : Nat → Int) : (tb g).length = 28 := by simp [tb]
theorem tb_num (g : Nat → Int) {i : Nat} (h : i < 28) : num (tb g) i = g i := by
  simp [tb, num, List.getD, List.getElem?_range h]
theorem num_ext {x y : List Int} (hl : x.length = y.length) (h : ∀ i, i < x.length → num x i = num y i) : x = y := by
  apply List.ext_getElem hl
  intro i h1 h2
  have := h i h1
  simpa [num, List.getD, h1, h2] using this
theorem num_out {x : List Int} {i : Nat} (h : x.length ≤ i) : num x i = 0 := by simp [num, List.getD, List.getElem?_eq_none h]
theorem num_appl {x y : List Int} {i : Nat} (h : i < x.length) : num (x ++ y) i = num x i := by simp [num, List.getD, List.getElem?_append_left h]
theorem num_appr {x y : List Int} {i : Nat} (h : x.length ≤ i) : num (x ++ y) i = num y (i - x.length) := by simp [num, List.getD, List.getElem?_append_right h]
/-- Is one of them not 0? -/
def som (l : List Int) : Bool := l.any fun z => z != 0
theorem som_tb {g : Nat → Int} : som (tb g) = true ↔ ∃ i, i < 28 ∧ g i ≠ 0 := by
  simp [som, tb]
theorem som_no {g : Nat → Int} (h : som (tb g) = false) {i : Nat} (hi : i < 28) : g i = 0 := by
  by_cases e : g i = 0
  · exact e
  · rw [som_tb.2 ⟨i, hi, e⟩] at h; cases h
/-- The addresses of 28 blocks. -/
def prt (A : List Int) (k : Nat) : List Int := tb fun i => num A (k + i)
def zer : List Int := tb fun _ => 0
theorem prt_far {A : List Int} {k : Nat} (h : som (prt A k) = true) : k < A.length := by
  obtain ⟨i, hi, hne⟩ := som_tb.1 h
  by_cases hk : k + i < A.length
  · omega
  · exact absurd (num_out (by omega)) hne
def sS (A : List Int) : Bool := som (prt A 16)
def dS (A : List Int) (k : Nat) : Bool := som (prt A (44 + 28 * k))
def sB (n : Nd) : List Bk := if sS n.ads then [⟨n.ino, 1000, ppL (prt n.ads 16)⟩] else []
def dB (n : Nd) : Nat → List Bk
  | 0 => []
  | k + 1 => dB n k ++ (if dS n.ads k then [⟨n.ino, 1001 + (k : Int), ppL (prt n.ads (44 + 28 * k))⟩] else [])
/-- The number of a pointers' block among a node's. -/
def dI (n : Nd) (k : Nat) : Nat := (sB n).length + (dB n k).length
def dA (n : Nd) : Bool := !(dB n 28).isEmpty
/-- Double's pointers, when k parts are laid. -/
def dP (at' : Nat → Int) (n : Nd) (m k : Nat) : List Int := tb fun i => if i < k ∧ dS n.ads i = true then at' (m + dI n i) else 0
def dL (at' : Nat → Int) (n : Nd) (m : Nat) : List Bk := if dA n then [⟨n.ino, 1100, ppL (dP at' n m 28)⟩] else []
/-- A node's blocks ahead of its record; the record; all. -/
def bod (at' : Nat → Int) (n : Nd) (m : Nat) : List Bk := sB n ++ dB n 28 ++ dL at' n m
def rF (at' : Nat → Int) (n : Nd) (m : Nat) : Nat → Int := fun i =>
  if i = 0 then n.kind else if i = 1 then n.links else if i = 2 then n.size else if i < 19 then num n.ads (i - 3) else if i = 19 then (if sS n.ads then at' m else 0) else if i = 20 then (if dA n then at' (m + dI n 28) else 0) else 0
def ndB (at' : Nat → Int) (n : Nd) (m : Nat) : List Bk := bod at' n m ++ [⟨n.ino, 999, recB (rF at' n m)⟩]
/-- The blocks of the first nodes. -/
def lB (at' : Nat → Int) (f : Nat → Nd) : Nat → List Bk
  | 0 => []
  | i + 1 => lB at' f i ++ ndB at' (f i) (lB at' f i).length
def off (at' : Nat → Int) (f : Nat → Nd) (i : Nat) : Nat := (lB at' f i).length
/-- The charts' pointers. -/
def chP (at' : Nat → Int) (f : Nat → Nd) : Nat → Nat → Int
  | 0 => fun _ => 0
  | i + 1 => fun j => if j = ((f i).ino - 1).toNat then at' (off at' f (i + 1) - 1) else chP at' f i j
def rtB (x y : Int) : List Int := digs 2 21074 ++ digs 2 x ++ digs 2 y ++ Z 50
def layB (at' : Nat → Int) (f : Nat → Nd) (n : Nat) : List Bk :=
  lB at' f n ++ [⟨0, 1, ppL (tb (chP at' f n))⟩, ⟨0, 2, ppL (tb fun i => chP at' f n (28 + i))⟩, ⟨0, 0, rtB (at' (off at' f n)) (at' (off at' f n + 1))⟩]
theorem layB_len (at' : Nat → Int) (f : Nat → Nd) (n : Nat) : (layB at' f n).length = off at' f n + 3 := by simp [layB, off]
/-- What a node's record has without addresses; is a node right by itself? -/
def rK (n : Nd) : Nat → Int := fun i => if i = 0 then n.kind else if i = 1 then n.links else if i = 2 then n.size else 0
def ndO (N : Int) (n : Nd) : Bool := rgO (rK n) && decide ((n.ads.length : Int) ≤ blkN n.size) && n.ads.all fun a => decide (a = 0) || isA N a
structure NdR (N : Int) (n : Nd) : Prop where
  r : rgO (rK n) = true
  l : (n.ads.length : Int) ≤ blkN n.size
  a : ∀ i, num n.ads i = 0 ∨ (1 ≤ num n.ads i ∧ num n.ads i ≤ N)
theorem ndO_iff {N : Int} {n : Nd} : ndO N n = true ↔ NdR N n := by
  rw [ndO, Bool.and_eq_true, Bool.and_eq_true, decide_eq_true_eq, List.all_eq_true]
  constructor
  · rintro ⟨⟨h1, h2⟩, h3⟩
    refine ⟨h1, h2, fun i => ?_⟩
    by_cases hi : i < n.ads.length
    · have := h3 (num n.ads i) (by rw [show num n.ads i = n.ads[i] by simp [num, List.getD, hi]]; exact List.getElem_mem hi)
      rw [Bool.or_eq_true, decide_eq_true_eq, isA_iff] at this
      exact this
    · exact .inl (num_out (by omega))
  · rintro ⟨h1, h2, h3⟩
    refine ⟨⟨h1, h2⟩, fun a ha => ?_⟩
    obtain ⟨i, hi, rfl⟩ := List.getElem_of_mem ha
    have := h3 i
    rw [show num n.ads i = n.ads[i] by simp [num, List.getD, hi]] at this
    rw [Bool.or_eq_true, decide_eq_true_eq, isA_iff]
    exact this
/-- A list's first n nodes are right. -/
structure LR (N : Int) (f : Nat → Nd) (n : Nat) : Prop where
  l1 : 1 ≤ n
  l2 : n ≤ 56
  i0 : (f 0).ino = 1
  k0 : (f 0).kind = 2
  top : ∀ i, i < n → (f i).ino ≤ 56
  up : ∀ i, i + 1 < n → (f i).ino < (f (i + 1)).ino
  nd : ∀ i, i < n → NdR N (f i)
/-- The last address that isn't 0. -/
def lst (A : List Int) : Nat → Nat
  | 0 => 0
  | k + 1 => if num A k = 0 then lst A k else k + 1
def trm (A : List Int) : List Int := A.take (lst A A.length)
theorem lst_le (A : List Int) (k : Nat) : lst A k ≤ k := by
  induction k with
  | zero => exact Nat.le_refl _
  | succ k ih => rw [lst]; split <;> omega
theorem lst_congr {A B : List Int} {k : Nat} (h : ∀ i, i < k → num A i = num B i) : lst A k = lst B k := by
  induction k with
  | zero => rfl
  | succ k ih => rw [lst, lst, ih fun i hi => h i (by omega), h k (by omega)]
theorem lst_far {A : List Int} {k m : Nat} (hk : k ≤ m) (h : ∀ i, k ≤ i → num A i = 0) : lst A m = lst A k := by
  induction m with
  | zero => rw [show k = 0 by omega]
  | succ m ih =>
    by_cases e : k = m + 1
    · rw [e]
    · rw [lst, if_pos (h m (by omega)), ih (by omega)]
theorem num_take' {ks : List Int} {n i : Nat} (h : i < n) : num (ks.take n) i = num ks i := by
  unfold num
  simp [List.getD, h]
theorem trm_same {A B : List Int} (h : ∀ i, num A i = num B i) : trm A = trm B := by
  have e : lst A A.length = lst B B.length := by
    rw [← lst_far (A := A) (Nat.le_max_left A.length B.length) (fun i hi => num_out hi), ← lst_far (A := B) (Nat.le_max_right A.length B.length) (fun i hi => num_out hi)]
    exact lst_congr fun i _ => h i
  have ha := lst_le A A.length
  have hb := lst_le B B.length
  refine num_ext (by simp [trm]; omega) fun i hi => ?_
  have hi' : i < lst A A.length := by
    unfold trm at hi
    rw [List.length_take] at hi
    omega
  rw [trm, trm, num_take' hi', num_take' (by omega), h i]
/-- What is read on the way. -/
inductive Rp (α : Type) where
  | ret (a : α)
  | bad (e : Int)
  | rd (p : Int) (k : List Int → Rp α)
def Rp.bind {α β : Type} : Rp α → (α → Rp β) → Rp β
  | .ret a, f => f a
  | .bad e, _ => .bad e
  | .rd p k, f => .rd p fun b => (k b).bind f
/-- Reading from blocks. -/
def run {α : Type} (N : Int) (blk : Int → Option (List Int)) : Rp α → List Int → Except Int (α × List Int)
  | .ret a, l => .ok (a, l)
  | .bad e, _ => .error e
  | .rd p k, l => if isA N p then (match blk p with
    | none => .error 14
    | some b => if b.length = 56 then run N blk (k b) (l ++ [p]) else .error 15) else .error 15
section
variable {α β : Type} {N : Int} {blk : Int → Option (List Int)}
theorem run_bind (p : Rp α) (f : α → Rp β) (l : List Int) : run N blk (p.bind f) l = match run N blk p l with
    | .ok (a, l') => run N blk (f a) l'
    | .error e => .error e := by
  induction p generalizing l with
  | ret a => rfl
  | bad e => rfl
  | rd q k ih =>
    show run N blk (.rd q fun b => (k b).bind f) l = _
    rw [run, run]
    by_cases h : isA N q = true
    · rw [if_pos h, if_pos h]
      cases blk q with
      | none => rfl
      | some b =>
        by_cases h2 : b.length = 56
        · simp only [h2, if_true]; exact ih b _
        · simp only [h2, if_false]
    · rw [if_neg h, if_neg h]
theorem run_ok {p : Rp α} {f : α → Rp β} {l l' : List Int} {a : α} (h : run N blk p l = .ok (a, l')) : run N blk (p.bind f) l = run N blk (f a) l' := by
  rw [run_bind, h]
theorem run_rd {q : Int} {k : List Int → Rp α} {l b : List Int} (h1 : 1 ≤ q ∧ q ≤ N) (h2 : blk q = some b) (h3 : b.length = 56) : run N blk (.rd q k) l = run N blk (k b) (l ++ [q]) := by
  rw [run, if_pos (isA_iff.2 h1), h2]
  simp only [h3, if_true]
end
/-- A pointer's block of pointers, and whether it has none. -/
def rdP (p : Int) : Rp (List Int × Bool) := if p = 0 then .ret (zer, false) else .rd p fun b => .ret (gpL b 28, !som (gpL b 28))
def ptP (dbl : List Int) (nb : Int) : Nat → Nat → List Int → Bool → Bool → Rp (List Int × Bool × Bool)
  | 0, _, acc, h, wr => .ret (acc, h, wr)
  | k + 1, i, acc, h, wr => (rdP (num dbl i)).bind fun p => ptP dbl nb k (i + 1) (acc ++ p.1) (h || p.2) (wr || (num dbl i != 0 && decide (nb ≤ 44 + 28 * (i : Int))))
/-- Is one of the first k addresses wrong? -/
def wrA (N nb : Int) (A : List Int) : Nat → Bool
  | 0 => false
  | k + 1 => wrA N nb A k || (num A k != 0 && (!isA N (num A k) || decide (nb ≤ (k : Int))))
def dir (g : Nat → Int) : List Int := (List.range 16).map fun i => g (3 + i)
def ndP (N ino p : Int) : Rp (Nd × Bool) := .rd p fun b => if okG b then
    (rdP (tld b 19)).bind fun s => (rdP (tld b 20)).bind fun d => (ptP d.1 (blkN (tld b 2)) 28 0 [] (s.2 || d.2) false).bind fun q =>
      if q.2.2 || wrA N (blkN (tld b 2)) (dir (tld b) ++ s.1 ++ q.1) (dir (tld b) ++ s.1 ++ q.1).length then .bad 15
      else .ret (⟨ino, tld b 0, tld b 1, tld b 2, trm (dir (tld b) ++ s.1 ++ q.1)⟩, q.2.1)
  else .bad 15
def nsP (N : Int) (ch : List Int) : Nat → Nat → List Nd → Bool → Rp (List Nd × Bool)
  | 0, _, L, h => .ret (L, h)
  | k + 1, i, L, h => if num ch i = 0 then nsP N ch k (i + 1) L h else (ndP N ((i : Int) + 1) (num ch i)).bind fun q => nsP N ch k (i + 1) (L ++ [q.1]) (h || q.2)

section
variable {N : Int} {blk : Int → Option (List Int)} {at' : Nat → Int} {n : Nd} {m : Nat}
theorem dA_iff : dA n = true ↔ ∃ k, k < 28 ∧ dS n.ads k = true := by
  have key : ∀ K, (dB n K).isEmpty = false ↔ ∃ k, k < K ∧ dS n.ads k = true := by
    intro K
    induction K with
    | zero => simp [dB]
    | succ K ih =>
      rw [dB]
      cases h : dS n.ads K with
      | true => simp; exact ⟨K, by omega, h⟩
      | false =>
        simp only [Bool.false_eq_true, if_false, List.append_nil, ih]
        constructor
        · rintro ⟨k, h1, h2⟩; exact ⟨k, by omega, h2⟩
        · rintro ⟨k, h1, h2⟩
          by_cases e : k = K
          · rw [e, h] at h2; cases h2
          · exact ⟨k, by omega, h2⟩
  rw [dA, Bool.not_eq_true', key 28]
/-- What is laid is there. -/
structure There (N : Int) (blk : Int → Option (List Int)) (at' : Nat → Int) (n : Nd) (m : Nat) : Prop where
  b : ∀ j x, (ndB at' n m)[j]? = some x → blk (at' (m + j)) = some x.z
  a : ∀ j, j < (ndB at' n m).length → 1 ≤ at' (m + j) ∧ at' (m + j) ≤ N
theorem NdR.pt (h : NdR N n) (hN : N ≤ 65535) (i : Nat) : 0 ≤ num n.ads i ∧ num n.ads i ≤ 65535 := by
  have := h.a i
  omega
theorem dir_len (g : Nat → Int) : (dir g).length = 16 := by simp [dir]
theorem rF_0 : rF at' n m 0 = n.kind := by unfold rF; rw [if_pos (by omega)]
theorem rF_1 : rF at' n m 1 = n.links := by unfold rF; rw [if_neg (by omega), if_pos (by omega)]
theorem rF_2 : rF at' n m 2 = n.size := by unfold rF; rw [if_neg (by omega), if_neg (by omega), if_pos (by omega)]
theorem rF_d {i : Nat} (h : i < 16) : rF at' n m (3 + i) = num n.ads i := by
  unfold rF
  rw [if_neg (by omega), if_neg (by omega), if_neg (by omega), if_pos (by omega), show 3 + i - 3 = i by omega]
theorem rF_19 : rF at' n m 19 = if sS n.ads = true then at' m else 0 := by unfold rF; rw [if_neg (by omega), if_neg (by omega), if_neg (by omega), if_neg (by omega), if_pos (by omega)]
theorem rF_20 : rF at' n m 20 = if dA n = true then at' (m + dI n 28) else 0 := by unfold rF; rw [if_neg (by omega), if_neg (by omega), if_neg (by omega), if_neg (by omega), if_neg (by omega), if_pos (by omega)]
theorem at_yes {p q b : Int} (h1 : 0 ≤ p ∧ p ≤ 65535) (h2 : p = 0 ∨ q < b) : (ptO p && (decide (p = 0) || decide (q < b))) = true := by
  rw [ptO_iff.2 h1, Bool.true_and, Bool.or_eq_true, decide_eq_true_eq, decide_eq_true_eq]
  exact h2
end

/-- Is a list right? -/
def lrO (N : Int) (L : List Nd) : Bool :=
  decide (1 ≤ L.length ∧ L.length ≤ 56) && decide ((L.getD 0 default).ino = 1) && decide ((L.getD 0 default).kind = 2) &&
    (List.range L.length).all fun i => decide ((L.getD i default).ino ≤ 56) && (decide (i = 0) || decide ((L.getD (i - 1) default).ino < (L.getD i default).ino)) && ndO N (L.getD i default)
theorem lrO_iff {N : Int} {L : List Nd} : lrO N L = true ↔ LR N (fun i => L.getD i default) L.length := by
  rw [lrO, Bool.and_eq_true, Bool.and_eq_true, Bool.and_eq_true, decide_eq_true_eq, decide_eq_true_eq, decide_eq_true_eq, List.all_eq_true]
  constructor
  · rintro ⟨⟨⟨h1, h2⟩, h3⟩, h4⟩
    have g : ∀ i, i < L.length → (L.getD i default).ino ≤ 56 ∧ (i = 0 ∨ (L.getD (i - 1) default).ino < (L.getD i default).ino) ∧ NdR N (L.getD i default) := fun i hi => by
      have := h4 i (List.mem_range.2 hi)
      rw [Bool.and_eq_true, Bool.and_eq_true, Bool.or_eq_true, decide_eq_true_eq, decide_eq_true_eq, decide_eq_true_eq, ndO_iff] at this
      exact ⟨this.1.1, this.1.2, this.2⟩
    refine ⟨h1.1, h1.2, h2, h3, fun i hi => (g i hi).1, fun i hi => ?_, fun i hi => (g i hi).2.2⟩
    rcases (g (i + 1) hi).2.1 with h | h
    · omega
    · exact h
  · intro h
    refine ⟨⟨⟨⟨h.l1, h.l2⟩, h.i0⟩, h.k0⟩, fun i hi => ?_⟩
    have hi' := List.mem_range.1 hi
    rw [Bool.and_eq_true, Bool.and_eq_true, Bool.or_eq_true, decide_eq_true_eq, decide_eq_true_eq, decide_eq_true_eq, ndO_iff]
    refine ⟨⟨h.top i hi', ?_⟩, h.nd i hi'⟩
    by_cases e : i = 0
    · exact .inl e
    · have := h.up (i - 1) (by omega)
      rw [show i - 1 + 1 = i by omega] at this
      exact .inr this
def loadP (N root : Int) : Rp (List Nd) := .rd root fun b => if getV b.length b 0 2 = 21074 ∧ noughtB (b.drop 6) = true then
    .rd (getV b.length b 2 2) fun c => .rd (getV b.length b 4 2) fun d => (nsP N (gpL c 28 ++ gpL d 28) 56 0 [] false).bind fun q => if q.2 || !lrO N q.1 then .bad 15 else .ret q.1
  else .bad 15
section
variable {N : Int} {blk : Int → Option (List Int)} {at' : Nat → Int} {f : Nat → Nd} {n : Nat}
theorem LR.lt (h : LR N f n) {i j : Nat} (hij : i < j) (hj : j < n) : (f i).ino < (f j).ino := by
  induction j with
  | zero => omega
  | succ j ih =>
    have h1 := h.up j hj
    by_cases e : i = j
    · subst e; exact h1
    · have := ih (by omega) (by omega)
      omega
theorem LR.pos (h : LR N f n) {i : Nat} (hi : i < n) : 1 ≤ (f i).ino := by
  by_cases e : i = 0
  · subst e; have := h.i0; omega
  · have := h.lt (show 0 < i by omega) hi
    have := h.i0
    omega
theorem off_succ (at' : Nat → Int) (f : Nat → Nd) (i : Nat) : off at' f (i + 1) = off at' f i + ((bod at' (f i) (off at' f i)).length + 1) := by
  simp [off, lB, ndB]
theorem off_up (at' : Nat → Int) (f : Nat → Nd) {i j : Nat} (h : i ≤ j) : off at' f i ≤ off at' f j := by
  induction j with
  | zero => rw [show i = 0 by omega]; exact Nat.le_refl _
  | succ j ih =>
    by_cases e : i = j + 1
    · rw [e]; exact Nat.le_refl _
    · have := ih (by omega)
      rw [off_succ]
      omega
theorem rtB_len (x y : Int) : (rtB x y).length = 56 := by simp [rtB, digs_len]
theorem rtB_get {x y : Int} (hx : 0 ≤ x ∧ x ≤ 65535) (hy : 0 ≤ y ∧ y ≤ 65535) : getV (rtB x y).length (rtB x y) 0 2 = 21074 ∧ getV (rtB x y).length (rtB x y) 2 2 = x ∧ getV (rtB x y).length (rtB x y) 4 2 = y ∧ noughtB ((rtB x y).drop 6) = true := by
  have g : ∀ p : Nat, p + 2 ≤ 56 → getV (rtB x y).length (rtB x y) p 2 = getN (rtB x y) p 2 := fun p hp => getV_in (p := p) (m := 2) (by omega) (by omega) (by rw [rtB_len]; exact hp)
  refine ⟨?_, ?_, ?_, ?_⟩
  · have := g 0 (by omega)
    rw [show ((0 : Nat) : Int) = 0 from rfl] at this
    rw [this]
    have := getN_app [] 2 21074 (digs 2 x ++ digs 2 y ++ Z 50) (by omega) (by omega)
    simpa [rtB, List.append_assoc] using this
  · have := g 2 (by omega)
    rw [show ((2 : Nat) : Int) = 2 from rfl] at this
    rw [this]
    have := getN_app (digs 2 21074) 2 x (digs 2 y ++ Z 50) hx.1 (by omega)
    simpa [rtB, List.append_assoc, digs_len] using this
  · have := g 4 (by omega)
    rw [show ((4 : Nat) : Int) = 4 from rfl] at this
    rw [this]
    have := getN_app (digs 2 21074 ++ digs 2 x) 2 y (Z 50) hy.1 (by omega)
    simpa [rtB, List.append_assoc, digs_len] using this
  · rw [rtB, List.drop_append_of_le_length (by simp [digs_len]), List.drop_of_length_le (by simp [digs_len])]
    exact nought_of 50
end

section
variable {N : Int} {blk : Int → Option (List Int)} {at' at2 : Nat → Int} {f : Nat → Nd} {n : Nd} {m K : Nat}
theorem dI_succ (n : Nd) (k : Nat) : dI n (k + 1) = dI n k + (if dS n.ads k = true then 1 else 0) := by
  have e : (if dS n.ads k = true then [(⟨n.ino, 1001 + (k : Int), ppL (prt n.ads (44 + 28 * k))⟩ : Bk)] else []).length = if dS n.ads k = true then 1 else 0 := by
    cases dS n.ads k <;> rfl
  rw [dI, dI, dB, List.length_append, e, Nat.add_assoc]
def rdX (n : Nd) : Nat → List Nat
  | 0 => []
  | k + 1 => rdX n k ++ (if dS n.ads k then [dI n k] else [])
theorem len_if {α : Type} (c : Bool) (x : α) : (if c = true then [x] else []).length = if c = true then 1 else 0 := by cases c <;> rfl
theorem map_if {α β : Type} (c : Bool) (x : α) (g : α → β) : (if c = true then [x] else []).map g = if c = true then [g x] else [] := by cases c <;> rfl
theorem bod_len : (bod at' n m).length = dI n 28 + (if dA n = true then 1 else 0) := by
  rw [bod, List.length_append, List.length_append, dI, dL, len_if]
theorem sB_len (n : Nd) : (sB n).length = if sS n.ads = true then 1 else 0 := by rw [sB, len_if]
def ndX (n : Nd) (L : Nat) : List Nat := [L] ++ (if sS n.ads then [0] else []) ++ (if dA n then [dI n 28] else []) ++ rdX n 28
/-- The numbers of the blocks that are read of the first nodes. -/
def rx (at' : Nat → Int) (f : Nat → Nd) : Nat → List Nat
  | 0 => []
  | i + 1 => rx at' f i ++ (ndX (f i) (bod at' (f i) (off at' f i)).length).map fun j => off at' f i + j
def ax (at' : Nat → Int) (f : Nat → Nd) (K : Nat) : List Nat := [off at' f K + 2, off at' f K, off at' f K + 1] ++ rx at' f K
/-- A root that isn't as told. -/
theorem load_turned {p : Int} {b : List Int} (h1 : 1 ≤ p ∧ p ≤ N) (h2 : blk p = some b) (h3 : b.length = 56) (h4 : ¬ (getV b.length b 0 2 = 21074 ∧ noughtB (b.drop 6) = true)) : run N blk (loadP N p) [] = .error 15 := by
  rw [loadP, run_rd h1 h2 h3, if_neg h4]
  rfl
/-- Wherever a list stands, it has as many blocks, of the same heads. -/
theorem bod_heads : (bod at' n m).map (fun x => (x.own, x.ind)) = (bod at2 n m).map (fun x => (x.own, x.ind)) := by
  simp only [bod, List.map_append, dL, map_if]
theorem lB_heads (at' at2 : Nat → Int) (f : Nat → Nd) (i : Nat) : (lB at' f i).map (fun x => (x.own, x.ind)) = (lB at2 f i).map (fun x => (x.own, x.ind)) := by
  induction i with
  | zero => rfl
  | succ i ih =>
    have hl : (lB at' f i).length = (lB at2 f i).length := by
      have := congrArg List.length ih
      simpa using this
    rw [lB, lB, List.map_append, List.map_append, ih, hl, ndB, ndB, List.map_append, List.map_append, bod_heads (at' := at') (at2 := at2)]
    simp only [List.map_cons, List.map_nil]
theorem off_same (at' at2 : Nat → Int) (f : Nat → Nd) (i : Nat) : off at' f i = off at2 f i := by
  have := congrArg List.length (lB_heads at' at2 f i)
  rw [List.length_map, List.length_map] at this
  exact this
end

/-- A number among others, once. -/
def insK (x : Int) (l : List Int) : List Int := if x ∈ l then l else l ++ [x]
theorem insK_mem {x y : Int} {l : List Int} : y ∈ insK x l ↔ y = x ∨ y ∈ l := by
  unfold insK
  split
  · constructor
    · exact .inr
    · rintro (rfl | h)
      · assumption
      · exact h
  · rw [List.mem_append, List.mem_singleton]
    exact Or.comm
theorem insK_nodup {x : Int} {l : List Int} (h : l.Nodup) : (insK x l).Nodup := by
  unfold insK
  split
  · exact h
  · rename_i hx
    rw [List.nodup_append]
    refine ⟨h, by simp, fun a ha b hb e => ?_⟩
    rw [List.mem_singleton.1 hb] at e
    exact hx (e ▸ ha)
/-- The parts of the first k addresses (from 16 on). -/
def kp (A : List Int) : Nat → List Int
  | 0 => []
  | k + 1 => if k < 16 then [] else if num A k = 0 then kp A k else if k < 44 then insK (-1) (kp A k) else insK (((k : Int) - 44).tdiv 28) (insK (-2) (kp A k))
theorem tdiv28 {k : Nat} (h : 44 ≤ k) : ((k : Int) - 44).tdiv 28 = (((k - 44) / 28 : Nat) : Int) := by
  rw [Int.tdiv_eq_ediv_of_nonneg (by omega)]
  omega
theorem kp_nodup (A : List Int) (k : Nat) : (kp A k).Nodup := by
  induction k with
  | zero => exact List.Pairwise.nil
  | succ k ih =>
    rw [kp]
    split
    · exact List.Pairwise.nil
    · split
      · exact ih
      · split
        · exact insK_nodup ih
        · exact insK_nodup (insK_nodup ih)
theorem kp_mem {A : List Int} {k : Nat} {x : Int} : x ∈ kp A k ↔ (x = -1 ∧ ∃ i, 16 ≤ i ∧ i < 44 ∧ i < k ∧ num A i ≠ 0) ∨ (x = -2 ∧ ∃ i, 44 ≤ i ∧ i < k ∧ num A i ≠ 0) ∨ (∃ i, 44 ≤ i ∧ i < k ∧ num A i ≠ 0 ∧ x = (((i - 44) / 28 : Nat) : Int)) := by
  induction k with
  | zero =>
    constructor
    · intro h; cases h
    · rintro (⟨_, i, _, _, h, _⟩ | ⟨_, i, _, h, _⟩ | ⟨i, _, h, _⟩) <;> omega
  | succ k ih =>
    rw [kp]
    by_cases h16 : k < 16
    · rw [if_pos h16]
      constructor
      · intro h; cases h
      · rintro (⟨_, i, _, _, h, _⟩ | ⟨_, i, _, h, _⟩ | ⟨i, _, h, _⟩) <;> omega
    rw [if_neg h16]
    by_cases h0 : num A k = 0
    · rw [if_pos h0, ih]
      constructor
      · rintro (⟨e, i, h1, h2, h3, h4⟩ | ⟨e, i, h1, h3, h4⟩ | ⟨i, h1, h3, h4, h5⟩)
        · exact .inl ⟨e, i, h1, h2, by omega, h4⟩
        · exact .inr (.inl ⟨e, i, h1, by omega, h4⟩)
        · exact .inr (.inr ⟨i, h1, by omega, h4, h5⟩)
      · have ne : ∀ i, i < k + 1 → num A i ≠ 0 → i < k := fun i h1 h2 => by
          by_cases e : i = k
          · subst e; exact absurd h0 h2
          · omega
        rintro (⟨e, i, h1, h2, h3, h4⟩ | ⟨e, i, h1, h3, h4⟩ | ⟨i, h1, h3, h4, h5⟩)
        · exact .inl ⟨e, i, h1, h2, ne i h3 h4, h4⟩
        · exact .inr (.inl ⟨e, i, h1, ne i h3 h4, h4⟩)
        · exact .inr (.inr ⟨i, h1, ne i h3 h4, h4, h5⟩)
    rw [if_neg h0]
    by_cases h44 : k < 44
    · rw [if_pos h44, insK_mem, ih]
      constructor
      · rintro (rfl | ⟨e, i, h1, h2, h3, h4⟩ | ⟨e, i, h1, h3, h4⟩ | ⟨i, h1, h3, h4, h5⟩)
        · exact .inl ⟨rfl, k, by omega, h44, by omega, h0⟩
        · exact .inl ⟨e, i, h1, h2, by omega, h4⟩
        · exact .inr (.inl ⟨e, i, h1, by omega, h4⟩)
        · exact .inr (.inr ⟨i, h1, by omega, h4, h5⟩)
      · rintro (⟨e, i, h1, h2, h3, h4⟩ | ⟨e, i, h1, h3, h4⟩ | ⟨i, h1, h3, h4, h5⟩)
        · exact .inl e
        · omega
        · omega
    · rw [if_neg h44, tdiv28 (by omega), insK_mem, insK_mem, ih]
      constructor
      · rintro (rfl | rfl | ⟨e, i, h1, h2, h3, h4⟩ | ⟨e, i, h1, h3, h4⟩ | ⟨i, h1, h3, h4, h5⟩)
        · exact .inr (.inr ⟨k, by omega, by omega, h0, rfl⟩)
        · exact .inr (.inl ⟨rfl, k, by omega, by omega, h0⟩)
        · exact .inl ⟨e, i, h1, h2, by omega, h4⟩
        · exact .inr (.inl ⟨e, i, h1, by omega, h4⟩)
        · exact .inr (.inr ⟨i, h1, by omega, h4, h5⟩)
      · rintro (⟨e, i, h1, h2, h3, h4⟩ | ⟨e, i, h1, h3, h4⟩ | ⟨i, h1, h3, h4, h5⟩)
        · exact .inr (.inr (.inl ⟨e, i, h1, h2, by omega, h4⟩))
        · exact .inr (.inl e)
        · by_cases e : i = k
          · subst e; exact .inl h5
          · exact .inr (.inr (.inr (.inr ⟨i, h1, by omega, h4, h5⟩)))
/-- The parts as the blocks tell them. -/
def dX (A : List Int) : Nat → List Int
  | 0 => []
  | k + 1 => dX A k ++ (if dS A k then [(k : Int)] else [])
theorem dX_mem {A : List Int} {K : Nat} {x : Int} : x ∈ dX A K ↔ ∃ k, k < K ∧ dS A k = true ∧ x = (k : Int) := by
  induction K with
  | zero => simp [dX]
  | succ K ih =>
    rw [dX, List.mem_append, ih]
    constructor
    · rintro (⟨k, h1, h2, h3⟩ | h)
      · exact ⟨k, by omega, h2, h3⟩
      · cases hs : dS A K with
        | false => rw [hs] at h; simp at h
        | true => rw [hs] at h; simp at h; exact ⟨K, by omega, hs, h⟩
    · rintro ⟨k, h1, h2, h3⟩
      by_cases e : k = K
      · subst e; right; rw [h2]; simp [h3]
      · exact .inl ⟨k, by omega, h2, h3⟩
theorem dX_nodup (A : List Int) (K : Nat) : (dX A K).Nodup := by
  induction K with
  | zero => exact List.Pairwise.nil
  | succ K ih =>
    rw [dX, List.nodup_append]
    refine ⟨ih, by split <;> simp, fun a ha b hb e => ?_⟩
    obtain ⟨k, h1, _, h3⟩ := dX_mem.1 ha
    split at hb
    · have := List.mem_singleton.1 hb; omega
    · cases hb
theorem dX_len (n : Nd) (K : Nat) : (dX n.ads K).length = (dB n K).length := by
  induction K with
  | zero => rfl
  | succ K ih =>
    rw [dX, dB, List.length_append, List.length_append, ih]
    cases dS n.ads K <;> rfl
theorem sS_iff {A : List Int} : sS A = true ↔ ∃ i, 16 ≤ i ∧ i < 44 ∧ num A i ≠ 0 := by
  rw [sS, prt, som_tb]
  constructor
  · rintro ⟨i, h1, h2⟩; exact ⟨16 + i, by omega, by omega, h2⟩
  · rintro ⟨i, h1, h2, h3⟩; exact ⟨i - 16, by omega, by rwa [show 16 + (i - 16) = i by omega]⟩
theorem dS_iff {A : List Int} {k : Nat} : dS A k = true ↔ ∃ i, 44 ≤ i ∧ (i - 44) / 28 = k ∧ num A i ≠ 0 := by
  rw [dS, prt, som_tb]
  constructor
  · rintro ⟨i, h1, h2⟩; exact ⟨44 + 28 * k + i, by omega, by omega, h2⟩
  · rintro ⟨i, h1, h2, h3⟩; exact ⟨i - 44 - 28 * k, by omega, by rwa [show 44 + 28 * k + (i - 44 - 28 * k) = i by omega]⟩
/-- As many parts as blocks of pointers. -/
theorem kp_len {n : Nd} (h : n.ads.length ≤ 828) (at' : Nat → Int) (m : Nat) : (kp n.ads n.ads.length).length = (bod at' n m).length := by
  have hn : ∀ i, num n.ads i ≠ 0 → i < n.ads.length := fun i hi => by
    by_cases e : i < n.ads.length
    · exact e
    · exact absurd (num_out (by omega)) hi
  have hd1 : ∀ x, x ∈ dX n.ads 28 → 0 ≤ x := fun x hx => by obtain ⟨k, _, _, e⟩ := dX_mem.1 hx; omega
  have hp : (kp n.ads n.ads.length).Perm ((if sS n.ads = true then [-1] else []) ++ (if dA n = true then [-2] else []) ++ dX n.ads 28) := by
    refine (List.perm_ext_iff_of_nodup (kp_nodup _ _) ?_).2 fun x => ?_
    · rw [List.nodup_append]
      refine ⟨by cases sS n.ads <;> cases dA n <;> decide, dX_nodup _ _, fun a ha b hb e => ?_⟩
      have := hd1 b hb
      rw [List.mem_append] at ha
      rcases ha with ha | ha <;> split at ha <;> first | (have := List.mem_singleton.1 ha; omega) | cases ha
    · rw [kp_mem, List.mem_append, List.mem_append, dX_mem]
      have e1 : x ∈ (if sS n.ads = true then [(-1 : Int)] else []) ↔ x = -1 ∧ sS n.ads = true := by cases sS n.ads <;> simp
      have e2 : x ∈ (if dA n = true then [(-2 : Int)] else []) ↔ x = -2 ∧ dA n = true := by cases dA n <;> simp
      rw [e1, e2, sS_iff, dA_iff]
      constructor
      · rintro (⟨e, i, h1, h2, h3, h4⟩ | ⟨e, i, h1, h3, h4⟩ | ⟨i, h1, h3, h4, h5⟩)
        · exact .inl (.inl ⟨e, i, h1, h2, h4⟩)
        · exact .inl (.inr ⟨e, (i - 44) / 28, by omega, dS_iff.2 ⟨i, h1, rfl, h4⟩⟩)
        · exact .inr ⟨(i - 44) / 28, by omega, dS_iff.2 ⟨i, h1, rfl, h4⟩, h5⟩
      · rintro ((⟨e, i, h1, h2, h4⟩ | ⟨e, k, h1, h2⟩) | ⟨k, h1, h2, h3⟩)
        · exact .inl ⟨e, i, h1, h2, hn i h4, h4⟩
        · obtain ⟨i, h3, _, h5⟩ := dS_iff.1 h2
          exact .inr (.inl ⟨e, i, h3, hn i h5, h5⟩)
        · obtain ⟨i, h4, h5, h6⟩ := dS_iff.1 h2
          exact .inr (.inr ⟨i, h4, hn i h6, h6, by rw [h5, h3]⟩)
  rw [hp.length_eq, List.length_append, List.length_append, len_if, len_if, dX_len, bod_len, dI, sB_len]
  omega
/-- How many blocks the first nodes have. -/
def needN (f : Nat → Nd) : Nat → Nat
  | 0 => 0
  | i + 1 => needN f i + (kp (f i).ads (f i).ads.length).length
theorem off_need {at' : Nat → Int} {f : Nat → Nd} {K : Nat} (h : ∀ i, i < K → (f i).ads.length ≤ 828) : off at' f K = K + needN f K := by
  induction K with
  | zero => rfl
  | succ K ih => rw [off_succ, ih fun i hi => h i (by omega), needN, kp_len (h K (by omega)) at' (off at' f K), ih fun i hi => h i (by omega)]; omega

/-- A geometry, as a value. -/
abbrev gv (d r s : Int) : Value := .agg #[.int .i64 d, .int .i64 r, .int .i64 s]
/-- How many places a segment has. -/
def PL (d r : Int) : Int := r * (d - 1) - 1
/-- How many segments there may be for all but data. -/
def QC (s : Int) : Int := 1 + s / 8
/-- The numbers are within the bounds. -/
structure Bd (d r s : Int) : Prop where
  d1 : 3 ≤ d
  d2 : d ≤ 16
  r1 : 1 ≤ r
  r2 : r ≤ 4
  s1 : 12 ≤ s
  s2 : s ≤ 64
/-- A geometry is right. -/
structure Rt (d r s : Int) : Prop extends Bd d r s where
  q : 8 ≤ QC s * PL d r

theorem PL_bd {d r : Int} (d1 : 3 ≤ d) (d2 : d ≤ 16) (r1 : 1 ≤ r) (r2 : r ≤ 4) : 1 ≤ PL d r ∧ PL d r ≤ 59 ∧ 2 ≤ r * (d - 1) ∧ r * (d - 1) ≤ 60 := by
  unfold PL
  rcases (by omega : r = 1 ∨ r = 2 ∨ r = 3 ∨ r = 4) with h | h | h | h <;> subst h <;> omega
theorem QC_bd {s : Int} (s1 : 12 ≤ s) (s2 : s ≤ 64) : 2 ≤ QC s ∧ QC s ≤ 9 := by unfold QC; omega
theorem mul_bd {a b x y : Int} (a0 : 0 ≤ a) (ax : a ≤ x) (b0 : 0 ≤ b) (by' : b ≤ y) : 0 ≤ a * b ∧ a * b ≤ x * y :=
  ⟨Int.mul_nonneg a0 b0, Int.mul_le_mul ax by' b0 (Int.le_trans a0 ax)⟩
theorem QP_bd {d r s : Int} (h : Bd d r s) : 0 ≤ QC s * PL d r ∧ QC s * PL d r ≤ 531 := by
  have h1 := PL_bd h.d1 h.d2 h.r1 h.r2
  have h2 := QC_bd h.s1 h.s2
  exact mul_bd (x := 9) (y := 59) (by omega) h2.2 (by omega) h1.2.1

theorem bcell {W w1 : World} (hb : Below W.heap.size W w1) : (∀ b o, b < W.heap.size → w1.cell? ⟨b, o, none⟩ = W.cell? ⟨b, o, none⟩) ∧ (∀ b o, b < W.heap.size → w1.frozen? ⟨b, o, none⟩ = W.frozen? ⟨b, o, none⟩) :=
  ⟨fun b o h => hb.cell (p := ⟨b, o, none⟩) h, fun b o h => hb.frozen (p := ⟨b, o, none⟩) h⟩

theorem within_yes (n a b : Int) (w : World) (h1 : a ≤ n) (h2 : n ≤ b) :
    Calls Try.prog 99 #[.int .i64 n, .int .i64 a, .int .i64 b] w fun e w' => e = .returned (.bool true) ∧ w = w' := by
  go_enter Try.func99, Try.ntmps99
  go_wp2_with (fail)
  go_ret
  exact ⟨rfl, rfl⟩
theorem within_no (n a b : Int) (w : World) (h : n < a ∨ b < n) :
    Calls Try.prog 99 #[.int .i64 n, .int .i64 a, .int .i64 b] w fun e w' => e = .returned (.bool false) ∧ w = w' := by
  by_cases h1 : a ≤ n
  · have h2 : ¬ n ≤ b := by omega
    clear h
    go_enter Try.func99, Try.ntmps99
    go_wp2_with (fail)
    go_ret
    exact ⟨rfl, rfl⟩
  · clear h
    go_enter Try.func99, Try.ntmps99
    go_wp2_with (fail)
    go_ret
    exact ⟨rfl, rfl⟩
theorem perRow_any (d r s : Int) (w : World) (h1 : 3 ≤ d) (h2 : d ≤ 16) :
    Calls Try.prog 111 #[gv d r s] w fun e w' => e = .returned (.int .i64 (d - 1)) ∧ Below w.heap.size w w' := by
  go_enter Try.func111, Try.ntmps111
  go_wp2_with (fail)
  go_ret
  exact ⟨rfl, (Below.refl _ _).alloc (Nat.le_refl _) _⟩
theorem otherCap_any (d r s : Int) (w : World) (h1 : 12 ≤ s) (h2 : s ≤ 64) :
    Calls Try.prog 100 #[gv d r s] w fun e w' => e = .returned (.int .i64 (QC s)) ∧ Below w.heap.size w w' := by
  go_enter Try.func100, Try.ntmps100
  go_wp2_with (fail)
  go_ret
  exact ⟨rfl, (Below.refl _ _).alloc (Nat.le_refl _) _⟩
theorem bel_box {w w2 : World} {B : Nat} (o : Obj) (hB : w.heap.size ≤ B) (hb : Below B (w.alloc o).drew w2) : Below w.heap.size w w2 :=
  ((Below.refl _ _).alloc (Nat.le_refl _) o).drew.trans (hb.mono hB)
theorem size_box {w w2 : World} {B : Nat} (o : Obj) (hb : Below B (w.alloc o).drew w2) : w.heap.size < w2.heap.size := by
  have := hb.size; simp at this; omega
theorem placesS_any (d r s : Int) (w : World) (h1 : 3 ≤ d) (h2 : d ≤ 16) (h3 : 1 ≤ r) (h4 : r ≤ 4) :
    Calls Try.prog 69 #[gv d r s] w fun e w' => e = .returned (.int .i64 (PL d r)) ∧ Below w.heap.size w w' := by
  obtain ⟨p1, p2, p3, p4⟩ := PL_bd h1 h2 h3 h4
  have e1 : IntKind.i64.wrap (r * (d - 1)) = r * (d - 1) := IntWalk.i64_in _ (by omega)
  have e2 : IntKind.i64.wrap (r * (d - 1) - 1) = PL d r := IntWalk.i64_in _ (by omega)
  go_enter Try.func69, Try.ntmps69
  go_wp2_with (fail)
  go_region_held3 (fun w' => w'.cell? ⟨w.heap.size, 0, none⟩ = some (.int .i64 d) ∧ w'.cell? ⟨w.heap.size, 1, none⟩ = some (.int .i64 r) ∧ w'.cell? ⟨w.heap.size, 2, none⟩ = some (.int .i64 s))
    (first | go_keep | exact ⟨(hb.cell (p := ⟨w.heap.size, 0, none⟩) (by simp)).trans (by go_simp), (hb.cell (p := ⟨w.heap.size, 1, none⟩) (by simp)).trans (by go_simp), (hb.cell (p := ⟨w.heap.size, 2, none⟩) (by simp)).trans (by go_simp)⟩)
    (first | (go_at_call 111
              refine (perRow_any d r s _ h1 h2).mono ?_
              rintro e w2 ⟨rfl, hb⟩))
  go_wp2_with (fail)
  go_ret
  exact ⟨rfl, bel_box _ (by simp) hb⟩


theorem right_bd (d r s : Int) (w : World) (h : Bd d r s) :
    Calls Try.prog 56 #[gv d r s] w fun e w' => e = .returned (.bool (decide (8 ≤ QC s * PL d r))) ∧ Below w.heap.size w w' := by
  obtain ⟨p1, p2, p3, p4⟩ := PL_bd h.d1 h.d2 h.r1 h.r2
  obtain ⟨q1, q2⟩ := QP_bd h
  obtain ⟨d1, d2, r1, r2, s1, s2⟩ := h
  have ew : IntKind.i64.wrap (QC s * PL d r) = QC s * PL d r := IntWalk.i64_in _ (by omega)
  clear p1 p2 p3 p4 q1 q2
  go_enter Try.func56, Try.ntmps56
  go_wp2_with (fail)
  go_region_held3 (fun w' => w'.cell? ⟨w.heap.size, 0, none⟩ = some (.int .i64 d) ∧ w'.cell? ⟨w.heap.size, 1, none⟩ = some (.int .i64 r) ∧ w'.cell? ⟨w.heap.size, 2, none⟩ = some (.int .i64 s))
    (first | go_keep | fail "keep")
    (first | (go_at_call 99
              refine (within_yes _ _ _ _ (by omega) (by omega)).mono ?_
              rintro e w2 ⟨rfl, rfl⟩)
           | (go_at_call 100
              refine (otherCap_any d r s _ s1 s2).mono ?_
              rintro e w2 ⟨rfl, hb⟩
              have hz : w.heap.size < w2.heap.size := size_box _ hb
              obtain ⟨hc, hf⟩ := bcell hb)
           | (go_at_call 69
              refine (placesS_any d r s _ d1 d2 r1 r2).mono ?_
              rintro e w3 ⟨rfl, hb3⟩
              obtain ⟨hc, hf⟩ := bcell hb3))
  go_wp2_with (fail)
  go_ret
  exact ⟨rfl, (bel_box _ (by simp) hb).trans (hb3.mono (Nat.le_of_lt hz))⟩

theorem not_Bd {d r s : Int} (h : ¬ Bd d r s) : (d < 3 ∨ 16 < d) ∨ ((3 ≤ d ∧ d ≤ 16) ∧ (r < 1 ∨ 4 < r)) ∨ ((3 ≤ d ∧ d ≤ 16) ∧ (1 ≤ r ∧ r ≤ 4) ∧ (s < 12 ∨ 64 < s)) := by
  by_cases h1 : 3 ≤ d ∧ d ≤ 16
  · by_cases h2 : 1 ≤ r ∧ r ≤ 4
    · by_cases h3 : 12 ≤ s ∧ s ≤ 64
      · exact absurd ⟨h1.1, h1.2, h2.1, h2.2, h3.1, h3.2⟩ h
      · exact .inr (.inr ⟨h1, h2, by omega⟩)
    · exact .inr (.inl ⟨h1, by omega⟩)
  · exact .inl (by omega)

/-- Is a number within its bounds? -/
def inB (n a b : Int) : Bool := decide (a ≤ n ∧ n ≤ b)
theorem within_any (n a b : Int) (w : World) : Calls Try.prog 99 #[.int .i64 n, .int .i64 a, .int .i64 b] w fun e w' => e = .returned (.bool (inB n a b)) ∧ w' = w := by
  by_cases h : a ≤ n ∧ n ≤ b
  · rw [show inB n a b = true from decide_eq_true h]
    exact (within_yes n a b w h.1 h.2).mono fun _ _ h => ⟨h.1, h.2.symm⟩
  · rw [show inB n a b = false from decide_eq_false h]
    exact (within_no n a b w (by omega)).mono fun _ _ h => ⟨h.1, h.2.symm⟩
theorem inB_yes {n a b : Int} (h : a ≤ n ∧ n ≤ b) : inB n a b = true := decide_eq_true h
theorem inB_no {n a b : Int} (h : n < a ∨ b < n) : inB n a b = false := decide_eq_false (by omega)

theorem right_outD (d r s : Int) (w : World) (e1 : inB d 3 16 = false) :
    Calls Try.prog 56 #[gv d r s] w fun e w' => e = .returned (.bool false) ∧ Below w.heap.size w w' := by
  go_enter Try.func56, Try.ntmps56
  go_wp2_with (fail)
  go_quiet ((go_at_call 99; exact Calls.quiet_of_same (within_any _ _ _ _)))
  go_wp2_with (fail)
  go_ret
  exact ⟨rfl, below_drewN ((Below.refl _ _).alloc (Nat.le_refl _) _) _⟩
theorem right_outR (d r s : Int) (w : World) (e1 : inB d 3 16 = true) (e2 : inB r 1 4 = false) :
    Calls Try.prog 56 #[gv d r s] w fun e w' => e = .returned (.bool false) ∧ Below w.heap.size w w' := by
  go_enter Try.func56, Try.ntmps56
  go_wp2_with (fail)
  go_quiet ((go_at_call 99; exact Calls.quiet_of_same (within_any _ _ _ _)))
  go_wp2_with (fail)
  go_ret
  exact ⟨rfl, below_drewN ((Below.refl _ _).alloc (Nat.le_refl _) _) _⟩
theorem right_outS (d r s : Int) (w : World) (e1 : inB d 3 16 = true) (e2 : inB r 1 4 = true) (e3 : inB s 12 64 = false) :
    Calls Try.prog 56 #[gv d r s] w fun e w' => e = .returned (.bool false) ∧ Below w.heap.size w w' := by
  go_enter Try.func56, Try.ntmps56
  go_wp2_with (fail)
  go_quiet ((go_at_call 99; exact Calls.quiet_of_same (within_any _ _ _ _)))
  go_wp2_with (fail)
  go_ret
  exact ⟨rfl, below_drewN ((Below.refl _ _).alloc (Nat.le_refl _) _) _⟩
theorem right_out (d r s : Int) (w : World) (h : ¬ Bd d r s) :
    Calls Try.prog 56 #[gv d r s] w fun e w' => e = .returned (.bool false) ∧ Below w.heap.size w w' := by
  rcases not_Bd h with h1 | ⟨h0, h1⟩ | ⟨h0, h00, h1⟩
  · exact right_outD d r s w (inB_no h1)
  · exact right_outR d r s w (inB_yes h0) (inB_no h1)
  · exact right_outS d r s w (inB_yes h0) (inB_yes h00) (inB_no h1)

theorem right_yes (d r s : Int) (w : World) (h : Rt d r s) : Calls Try.prog 56 #[gv d r s] w fun e w' => e = .returned (.bool true) ∧ Below w.heap.size w w' := by
  have := right_bd d r s w h.toBd
  rwa [decide_eq_true h.q] at this
theorem right_no (d r s : Int) (w : World) (h : ¬ Rt d r s) : Calls Try.prog 56 #[gv d r s] w fun e w' => e = .returned (.bool false) ∧ Below w.heap.size w w' := by
  by_cases hb : Bd d r s
  · have := right_bd d r s w hb
    rwa [decide_eq_false (fun q => h ⟨hb, q⟩)] at this
  · exact right_out d r s w hb

theorem bel_box' {w w2 : World} {B : Nat} (o : Obj) (hB : w.heap.size ≤ B) (hb : Below B (w.alloc o) w2) : Below w.heap.size w w2 :=
  ((Below.refl _ _).alloc (Nat.le_refl _) o).trans (hb.mono hB)
theorem size_box' {w w2 : World} {B : Nat} (o : Obj) (hb : Below B (w.alloc o) w2) : w.heap.size < w2.heap.size := by
  have := hb.size; simp at this; omega

theorem places_yes (d r s : Int) (w : World) (h : Rt d r s) : Calls Try.prog 27 #[gv d r s] w fun e w' => e = .returned (.int .i64 (PL d r)) ∧ Below w.heap.size w w' := by
  go_enter Try.func27, Try.ntmps27
  go_wp2_with (fail)
  with_reducible refine (right_yes d r s _ h).mono ?_
  rintro e w2 ⟨rfl, hb⟩
  have hz : w.heap.size < w2.heap.size := size_box' _ hb
  have hB := bel_box' _ (by simp) hb
  obtain ⟨hc, hf⟩ := bcell hb
  clear hb
  go_wp2_with (fail)
  with_reducible refine (placesS_any d r s _ h.d1 h.d2 h.r1 h.r2).mono ?_
  rintro e w3 ⟨rfl, hb3⟩
  go_wp2_with (fail)
  go_ret
  exact ⟨rfl, hB.trans (hb3.mono (Nat.le_of_lt hz))⟩
end Go.Proofs.Ytegcjpocdfmpfaa
