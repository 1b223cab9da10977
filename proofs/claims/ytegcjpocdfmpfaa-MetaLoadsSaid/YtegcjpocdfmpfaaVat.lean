/-
  The program's loader: a node, in plain words.
-/
import Derived.Test.YtegcjpocdfmpfaaVas
set_option linter.unusedVariables false
set_option linter.unusedSimpArgs false
set_option maxRecDepth 100000
set_option maxHeartbeats 16000000
namespace Go.Proofs.Ytegcjpocdfmpfaa
open Go.RowKit

section
variable {α β γ : Type} {N : Int} {blk : Int → Option (List Int)}
theorem run_bindE {p : Rp α} {f : α → Rp β} {l : List Int} {e : Int} (h : run N blk p l = .error e) : run N blk (p.bind f) l = .error e := by
  rw [run_bind, h]
theorem run_bind2 (p : Rp α) (f : α → Rp β) (k : β → Rp γ) (l : List Int) : run N blk ((p.bind f).bind k) l = match run N blk p l with
    | .ok (a, l') => run N blk ((f a).bind k) l'
    | .error e => .error e := by
  rw [run_bind, run_bind]
  cases run N blk p l with
  | ok x =>
    obtain ⟨a, l'⟩ := x
    dsimp only
    rw [run_bind]
  | error e => rfl
theorem run_ok2 {p : Rp α} {f : α → Rp β} {k : β → Rp γ} {l l' : List Int} {a : α} (h : run N blk p l = .ok (a, l')) : run N blk ((p.bind f).bind k) l = run N blk ((f a).bind k) l' := by
  rw [run_bind2, h]
theorem run_err2 {p : Rp α} {f : α → Rp β} {k : β → Rp γ} {l : List Int} {e : Int} (h : run N blk p l = .error e) : run N blk ((p.bind f).bind k) l = .error e := by
  rw [run_bind2, h]
theorem run_rdP_len {q : Int} {l l' : List Int} {x : List Int × Bool} (h : run N blk (rdP q) l = .ok (x, l')) : l'.length ≤ l.length + 1 ∧ x.1.length = 28 := by
  unfold rdP at h
  split at h
  · rw [run] at h
    simp only [Except.ok.injEq, Prod.mk.injEq] at h
    rw [← h.2, ← h.1]
    exact ⟨by omega, tb_len _⟩
  · rw [run_rd2] at h
    cases hx : run N blk (.rd q .ret) l with
    | ok y =>
      obtain ⟨b, l2⟩ := y
      rw [hx] at h
      have h2 := run_rd_len hx
      dsimp only at h
      rw [run] at h
      simp only [Except.ok.injEq, Prod.mk.injEq] at h
      rw [← h.2, ← h.1, h2]
      exact ⟨by simp, gpL_len _ _⟩
    | error e => rw [hx] at h; cases h
end
/-- A node's reading behind its record; behind Single's block; behind Double's; behind all. -/
def ndK4 (N ino : Int) (b : List Int) (s : List Int × Bool) (q : List Int × Bool × Bool) : Rp (Nd × Bool) :=
  if q.2.2 || wrA N (blkN (tld b 2)) (dir (tld b) ++ s.1 ++ q.1) (dir (tld b) ++ s.1 ++ q.1).length then .bad 15
  else .ret (⟨ino, tld b 0, tld b 1, tld b 2, trm (dir (tld b) ++ s.1 ++ q.1)⟩, q.2.1)
def ndK3 (N ino : Int) (b : List Int) (s d : List Int × Bool) : Rp (Nd × Bool) := (ptP d.1 (blkN (tld b 2)) 28 0 [] (s.2 || d.2) false).bind (ndK4 N ino b s)
def ndK2 (N ino : Int) (b : List Int) (s : List Int × Bool) : Rp (Nd × Bool) := (rdP (tld b 20)).bind (ndK3 N ino b s)
def ndK1 (N ino : Int) (b : List Int) : Rp (Nd × Bool) := if okG b then (rdP (tld b 19)).bind (ndK2 N ino b) else .bad 15
theorem ndP_is (N ino p : Int) : ndP N ino p = .rd p (ndK1 N ino) := rfl
theorem ptP_succ (dbl : List Int) (nb : Int) {i : Nat} (hi : i < 28) (acc : List Int) (h wr : Bool) : ptP dbl nb (28 - i) i acc h wr = (rdP (num dbl i)).bind fun p => ptP dbl nb (28 - (i + 1)) (i + 1) (acc ++ p.1) (h || p.2) (wr || (num dbl i != 0 && decide (nb ≤ 44 + 28 * (i : Int)))) := by
  rw [show 28 - i = (28 - (i + 1)) + 1 by omega, ptP]
/-- Does one of the first i of Double's pointers tell too much? -/
def pbW (dbl : List Int) (nb : Int) : Nat → Bool
  | 0 => false
  | i + 1 => pbW dbl nb i || (num dbl i != 0 && decide (nb ≤ 44 + 28 * (i : Int)))
theorem pbW_iff {dbl : List Int} {nb : Int} {i : Nat} : pbW dbl nb i = true ↔ ∃ j, j < i ∧ num dbl j ≠ 0 ∧ nb ≤ 44 + 28 * (j : Int) := by
  induction i with
  | zero => simp [pbW]
  | succ i ih =>
    rw [pbW, Bool.or_eq_true, ih, Bool.and_eq_true, decide_eq_true_eq]
    constructor
    · rintro (⟨j, h1, h2, h3⟩ | ⟨h1, h2⟩)
      · exact ⟨j, by omega, h2, h3⟩
      · exact ⟨i, by omega, by simpa using h1, h2⟩
    · rintro ⟨j, h1, h2, h3⟩
      by_cases e : j = i
      · subst e; exact .inr ⟨by simpa using h2, h3⟩
      · exact .inl ⟨j, by omega, h2, h3⟩
theorem pbW_is {dbl : List Int} {nb : Nat} : pbW dbl (nb : Int) 28 = pbO (num dbl) nb := by
  rw [Bool.eq_iff_iff, pbW_iff, pbO_iff]
  constructor
  · rintro ⟨j, h1, h2, h3⟩; exact ⟨j, h1, h2, by omega⟩
  · rintro ⟨j, h1, h2, h3⟩; exact ⟨j, h1, h2, by omega⟩
theorem wrA_iff {N nb : Int} {A : List Int} {k : Nat} : wrA N nb A k = true ↔ ∃ j, j < k ∧ num A j ≠ 0 ∧ (isA N (num A j) = false ∨ nb ≤ (j : Int)) := by
  induction k with
  | zero => simp [wrA]
  | succ k ih =>
    rw [wrA, Bool.or_eq_true, ih, Bool.and_eq_true, Bool.or_eq_true, decide_eq_true_eq]
    constructor
    · rintro (⟨j, h1, h2, h3⟩ | ⟨h1, h2⟩)
      · exact ⟨j, by omega, h2, h3⟩
      · exact ⟨k, by omega, by simpa using h1, by simpa using h2⟩
    · rintro ⟨j, h1, h2, h3⟩
      by_cases e : j = k
      · subst e; exact .inr ⟨by simpa using h2, by simpa using h3⟩
      · exact .inl ⟨j, by omega, h2, h3⟩
theorem numE {L : List Int} {i : Nat} (h : i < L.length) : L[i] = num L i := by simp [num, List.getD, h]
/-- Is one of the first addresses none? -/
def bdO (N : Int) (A : List Int) (nb : Nat) : Bool := (A.take nb).any fun a => a != 0 && !isA N a
theorem bdO_iff {N : Int} {A : List Int} {nb : Nat} (h : nb ≤ A.length) : bdO N A nb = true ↔ ∃ j, j < nb ∧ num A j ≠ 0 ∧ isA N (num A j) = false := by
  unfold bdO
  rw [List.any_eq_true]
  constructor
  · rintro ⟨x, hx, h2⟩
    obtain ⟨i, hi, rfl⟩ := List.getElem_of_mem hx
    have hi' : i < nb := by rw [List.length_take] at hi; omega
    have e : (A.take nb)[i] = num A i := by
      rw [← num_take' (ks := A) hi']
      exact numE hi
    rw [e, Bool.and_eq_true] at h2
    exact ⟨i, hi', by simpa using h2.1, by simpa using h2.2⟩
  · rintro ⟨j, h1, h2, h3⟩
    have hj : j < (A.take nb).length := by rw [List.length_take]; omega
    refine ⟨(A.take nb)[j], List.getElem_mem hj, ?_⟩
    have e : (A.take nb)[j] = num A j := by
      rw [← num_take' (ks := A) h1]
      exact numE hj
    rw [e, Bool.and_eq_true]
    exact ⟨by simpa using h2, by simpa using h3⟩
/-- What is wrong with a node's addresses, as the program asks it. -/
theorem wr_is {N : Int} {A dbl : List Int} {nb : Nat} (hA : A.length = 828) (hn : nb ≤ 828) : (pbW dbl (nb : Int) 28 || wrA N (nb : Int) A A.length) = ((hbO (num A) nb || pbO (num dbl) nb) || bdO N A nb) := by
  rw [pbW_is]
  rw [Bool.eq_iff_iff]
  simp only [Bool.or_eq_true, wrA_iff, hbO_iff, bdO_iff (show nb ≤ A.length by omega)]
  constructor
  · rintro (h | ⟨j, h1, h2, h3⟩)
    · exact .inl (.inr h)
    · rcases h3 with h3 | h3
      · by_cases e : nb ≤ j
        · exact .inl (.inl ⟨j, e, by omega, h2⟩)
        · exact .inr ⟨j, by omega, h2, h3⟩
      · exact .inl (.inl ⟨j, by omega, by omega, h2⟩)
  · rintro ((⟨j, h1, h2, h3⟩ | h) | ⟨j, h1, h2, h3⟩)
    · exact .inr ⟨j, by omega, h3, .inr (by omega)⟩
    · exact .inl h
    · exact .inr ⟨j, by omega, h2, .inl h3⟩
theorem trm_is {A : List Int} {nb : Nat} (hA : A.length = 828) (hn : nb ≤ 828) (h : hbO (num A) nb = false) : trm (A.take nb) = trm A := by
  refine trm_same fun i => ?_
  by_cases hi : i < nb
  · exact num_take' hi
  · rw [num_out (by rw [List.length_take]; omega)]
    by_cases h8 : i < 828
    · by_cases e : num A i = 0
      · exact e.symm
      · rw [hbO_iff.2 ⟨i, by omega, h8, e⟩] at h; cases h
    · rw [num_out (by omega)]
/-- More addresses are put behind those that are there. -/
theorem cp_app {A p : List Int} (h : A.length + 28 ≤ 828) (hp : p.length = 28) : arr 828 (cpA (num A) A.length 28 (num p)) = arr 828 (num (A ++ p)) := by
  refine arr_congr fun i hi => ?_
  unfold cpA
  by_cases h1 : A.length ≤ i ∧ i < A.length + 28
  · rw [if_pos h1, num_appr h1.1]
  · rw [if_neg h1]
    by_cases h2 : i < A.length
    · rw [num_appl h2]
    · rw [num_out (by omega), num_out (by rw [List.length_append]; omega)]

/-- What a node's reading leaves. -/
def PrN (w : World) (K : Nat → Prop) (S : Sv) (g : Nat) (v : Value) (R : Except Int ((Nd × Bool) × List Int)) (hf : Nd × Bool → Bool) (e : Ending) (w' : World) : Prop :=
  Turn (Tv g v) w w' ∧ match R with
    | .error er => e = panE er
    | .ok (x, l) => ∃ (y : Nw) (v' : Value), e = .returned (nwV y) ∧ NwOk w' y ∧ y.nd = x.1 ∧ (∀ a, y.a = some a → w.heap.size ≤ a.block ∧ a.block < w'.heap.size) ∧ LdK w' (fun j => K j ∨ ∃ a, y.a = some a ∧ a.block = j) S g v' l (hf x) ∧ (∀ j, v'.ownBlock = some j → v.ownBlock = some j ∨ w.heap.size ≤ j)
theorem PrN.err {w : World} {K : Nat → Prop} {S : Sv} {g : Nat} {v : Value} {R : Except Int ((Nd × Bool) × List Int)} {hf : Nd × Bool → Bool} {w' : World} {er : Int} (hR : R = .error er) (ht : Turn (Tv g v) w w') : PrN w K S g v R hf (panE er) w' := by
  subst hR
  exact ⟨ht, rfl⟩
theorem PrN.ok {w : World} {K : Nat → Prop} {S : Sv} {g : Nat} {v : Value} {R : Except Int ((Nd × Bool) × List Int)} {hf : Nd × Bool → Bool} {w' : World} {x : Nd × Bool} {l : List Int} {y : Nw} {v' : Value} (hR : R = .ok (x, l)) (ht : Turn (Tv g v) w w') (h1 : NwOk w' y) (h2 : y.nd = x.1) (h3 : ∀ a, y.a = some a → w.heap.size ≤ a.block ∧ a.block < w'.heap.size) (hL : LdK w' (fun j => K j ∨ ∃ a, y.a = some a ∧ a.block = j) S g v' l (hf x)) (ho : ∀ j, v'.ownBlock = some j → v.ownBlock = some j ∨ w.heap.size ≤ j) : PrN w K S g v R hf (.returned (nwV y)) w' := by
  subst hR
  exact ⟨ht, y, v', rfl, h1, h2, h3, hL, ho⟩
theorem LdK.grown {w w' : World} {K K' M : Nat → Prop} {S : Sv} {g : Nat} {v : Value} {l : List Int} {h : Bool} (H : LdK w K S g v l h) (ht : Turn M w w') (hm : ∀ j, M j → K j ∧ S.w0.heap.size ≤ j) (hk : ∀ j, K' j → K j ∨ (w.heap.size ≤ j ∧ j < w'.heap.size)) : LdK w' K' S g v l h := by
  have H' := H.turn ht (fun j e => ⟨fun h' => by
    rcases h' with e2 | e2
    · exact (H.kk j (hm j e).1).2.1 e2
    · exact (H.kk j (hm j e).1).2.2 e2, (hm j e).2⟩)
  refine ⟨H'.row, H'.own, H'.sto, H'.bel, H'.gB, H'.vg, fun j e => ?_⟩
  rcases hk j e with e | e
  · exact H'.kk j e
  · have hg := lt_of_block H.row
    refine ⟨e.2, by omega, fun e2 => ?_⟩
    have := (World.ownsRow.lt H.own j e2).2
    omega
/-- Boxes that are not to be touched by others, and what they hold. -/
def RwL (w : World) (K : Nat → Prop) (L : List (Nat × Obj)) : Prop := ∀ x, x ∈ L → K x.1 ∧ w.heap[x.1]? = some x.2
section
variable {w w' : World} {K K' : Nat → Prop} {L L' : List (Nat × Obj)} {S : Sv} {g b : Nat} {v : Value} {l : List Int} {h0 : Bool} {o o' : Obj}
theorem RwL.call (h : RwL w K L) (H : LdK w K S g v l h0) (ht : Turn (Tv g v) w w') : RwL w' K L := fun x hx => ⟨(h x hx).1, H.keep ht (h x hx).1 (h x hx).2⟩
theorem RwL.next (h : RwL w K L) (hb : Below w.heap.size w w') : RwL w' K L := fun x hx => ⟨(h x hx).1, (hb.block _ (lt_of_block (h x hx).2)).trans (h x hx).2⟩
theorem RwL.box (h : RwL w K L) (hb : Below w.heap.size w w') (hr : w'.heap[b]? = some o) (hk : ∀ j, K j → K' j) (hkb : K' b) : RwL w' K' ((b, o) :: L) := fun x hx => by
  rcases List.mem_cons.1 hx with rfl | hx
  · exact ⟨hkb, hr⟩
  · exact ⟨hk _ (h x hx).1, (h.next hb x hx).2⟩
theorem RwL.set (h : RwL w K ((b, o) :: L)) (ht : Turn (· = b) w w') (hr : w'.heap[b]? = some o') (hne : ∀ x, x ∈ L → x.1 ≠ b) : RwL w' K ((b, o') :: L) := fun x hx => by
  rcases List.mem_cons.1 hx with rfl | hx
  · exact ⟨(h (b, o) (List.mem_cons_self)).1, hr⟩
  · have h1 := h x (List.mem_cons_of_mem _ hx)
    exact ⟨h1.1, (ht.block _ (lt_of_block h1.2) (hne x hx)).trans h1.2⟩
theorem RwL.sub (h : RwL w K L) (hs : ∀ x, x ∈ L' → x ∈ L) : RwL w K L' := fun x hx => h x (hs x hx)
theorem RwL.hd (h : RwL w K ((b, o) :: L)) : w.heap[b]? = some o := (h (b, o) List.mem_cons_self).2
theorem RwL.tl {x : Nat × Obj} (h : RwL w K (x :: L)) : RwL w K L := fun y hy => h y (List.mem_cons_of_mem _ hy)
end
/-- The loader's pointer's box. -/
abbrev ptO' (g : Nat) : Obj := .cells #[.pointer (some ⟨g, 0, none⟩)] 108 (0, 0)
abbrev adO' (A : Nat → Int) : Obj := .cells (arr 828 A) 149 (0, 0)
abbrev rcO' (F : Nat → Int) : Obj := .cells (rcs F) 104 (0, 0)
abbrev ndO' (x : Nw) : Obj := .cells (nwC x) 83 (0, 0)
abbrev pgO' (D : Nat → Int) : Obj := .cells (arr 28 D) 91 (0, 0)
/-- The last closure. -/
theorem enters_nd1 (args : Array Value) (w : World) : (callFunc 143 args).run Try.prog w = .ok (.enter 143 args) w := enters_of (P := Try.prog) Try.func143 (by kernel_rfl) rfl args w
theorem gives_nd1 (S : Sv) (g b : Nat) (w : World) {K : Nat → Prop} {v : Value} {l : List Int} {h : Bool} (H : LdK w K S g v l h) (hb3 : w.heap[b]? = some (ptO' g)) : GivesI 143 #[.pointer (some ⟨b, 0, none⟩)] (fun a => a != 0 && !isA S.M a) w := fun x w1 hb => by
  have H1 := H.next hb
  have hp := (hb.block _ (lt_of_block hb3)).trans hb3
  have y0 : w1.cell? ⟨b, 0, none⟩ = some (.pointer (some ⟨g, 0, none⟩)) := cell_of_row w1 b 0 _ _ (0, 0) hp
  obtain ⟨⟨y1, y2, y3⟩, _, _, _, lt0⟩ := H1.cells
  have hA := paddr_any S.d S.r S.s x w1
  have hsm := pSome_any x w1
  obtain ⟨t, ht⟩ : ∃ t, t = isA S.M x := ⟨_, rfl⟩
  rw [show isA (adO S.d S.r S.s) x = isA S.M x from rfl, ← ht] at hA
  show Calls Try.prog 143 #[.int .i64 x, .pointer (some ⟨b, 0, none⟩)] w1 fun e w' => e = .returned (.bool (x != 0 && !isA S.M x)) ∧ Below w1.heap.size w1 w'
  rw [← ht]
  obtain ⟨d, hd⟩ : ∃ d, d = (x != 0) := ⟨_, rfl⟩
  rw [← hd] at hsm ⊢
  clear H1 hp hb ht hd H hb3
  cases d with
  | false =>
    go_enter Try.func143, Try.ntmps143
    go_wp2_with (fail)
    refine hsm.mono ?_
    rintro e w2 ⟨rfl, rfl⟩
    clear hsm hA
    go_wp2_with (fail)
    go_ret
    exact ⟨rfl, Below.refl _ _⟩
  | true =>
    go_enter Try.func143, Try.ntmps143
    go_wp2_with (fail)
    refine hsm.mono ?_
    rintro e w2 ⟨rfl, rfl⟩
    clear hsm
    go_wp2_with (fail)
    refine hA.mono ?_
    rintro e w2 ⟨rfl, hb⟩
    have HB := Lib.hid hb
    clear hb hA
    go_wp2_with (fail)
    go_ret
    exact ⟨rfl, HB.out⟩
end Go.Proofs.Ytegcjpocdfmpfaa
