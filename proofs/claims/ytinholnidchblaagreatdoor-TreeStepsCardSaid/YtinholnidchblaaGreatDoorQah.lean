import Derived.Test.YtinholnidchblaaGreatDoorQag
import Derived.Test.YtinholnidchblaaGreatDoorQab
import Derived.Lib.SplitLaws
import Derived.Lib.Join
import Derived.Test.YtinholnidchblaaGreatDoorQaa
import Derived.Lib.ConvBytes
import Derived.Test.YtinholnidchblaaGreatDoorQac
import Derived.Test.YtinholnidchblaaGreatDoorLay
import Derived.Test.YtinholnidchblaaGreatDoorLay2
import Derived.Shelf.Small.Wraps
import Derived.Test.YtinholnidchblaaGreatDoorQae
import Derived.Test.YtinholnidchblaaGreatDoorQaf
set_option linter.unusedVariables false
set_option linter.unusedSimpArgs false
set_option maxRecDepth 100000
set_option maxHeartbeats 16000000
namespace Go.Proofs.YtinholnidchblaaGreatDoor
open Go.RowKit Go.Maps
theorem zero_nodes (K : Nat) : (madeCells (Value.agg #[.int .i64 0, .int .i64 0, .slice none 0 0, .slice none 0 0]).cells (K * 4)).toList = nflat (fun _ => default) K := by
 refine List.ext_getElem? fun j => ?_
 by_cases h : j < K * 4
 ·have hj : j = j / 4 * 4 + j % 4 := by omega
  have h4 : j % 4 < 4 := Nat.mod_lt _ (by decide)
  rw [hj, nflat_get _ (by omega) h4, ← hj]
  simp only [madeCells, Array.toList_map, Array.toList_range, List.getElem?_map, List.getElem?_range h, Option.map_some]
  have e : (Value.agg #[.int .i64 0, .int .i64 0, .slice none 0 0, .slice none 0 0]).cells = #[.int .i64 0, .int .i64 0, .slice none 0 0, .slice none 0 0] := rfl
  rw [e]
  have h5 : j % 4 = 0 ∨ j % 4 = 1 ∨ j % 4 = 2 ∨ j % 4 = 3 := by omega
  rcases h5 with e | e | e | e
  all_goals (simp [e]; rfl)
 ·rw [List.getElem?_eq_none (by simp [size_madeCells]; omega), List.getElem?_eq_none (by rw [nflat_len]; omega)]
theorem wpList_mkN {w : World} {ops : Array Oper} {rest : List Oper} {o : Oper} {a : Act} {Q : Exit → Act → World → Prop}
  (hg : o.guard = none) (l c : Operand) (hop : o.op = Op.makeSlice 24 l c) (kl kc : IntKind) (L C : Int) (n : Nat) (hl : a.eval l = .int kl L) (hc : a.eval c = .int kc C) (hL : L = (n : Int)) (hC : C = (n : Int)) (b2 : n ≤ 100000)
  (hK : ∀ w', w'.ownsRow 0 54 4 (.slice (some ⟨w.heap.size, 0, none⟩) n n) n (nflat (fun _ => default) n) → Below w.heap.size w w' → wpList Tryz.prog ops Q rest (a.put o.dst (.slice (some ⟨w.heap.size, 0, none⟩) n n)) w') :
  wpList Tryz.prog ops Q (o :: rest) a w := by
 obtain ⟨i0, hi, hz0, hz1, hz2⟩ := info_parts infoN
 refine wpList_make_full w hg l c 24 hop 0 54 i0 _ 4 Tryz.underlying24 hi hz0 hz1 kl kc L C n hl hc hL hC (by rw [hz2]; omega) (by unfold maxLen; omega) (Nat.zero_le _) fun w' hown hgrow => hK w' ?_ ((Below.refl _ _).grown hgrow (Nat.le_refl _) (fun k h => by cases h))
 rw [zero_nodes] at hown
 exact hown
def tgt (f : Nat → Nc) (n x : Nat) : Nd := ⟨(f x).k, lnkM (ndL f n) x, (f x).d, (f x).e.map (setI (plG f n))⟩
structure NuR (wr : World) (g2 K : Nat) (f : Nat → Nc) (n : Nat) (left : Lit → Bool) (G : Nat → Nc) : Prop where
 row : wr.ownsRow 0 54 4 (.slice (some ⟨g2, 0, none⟩) K K) K (nflat G K)
 data : ∀ i, i < K → Pin wr (G i).da (G i).dn (G i).dc (G i).d ∧ Off (G i).dn (G i).da g2 g2
 ents : ∀ i, i < K → Enz wr (G i).ea (G i).en (G i).ec (G i).e ∧ Off (G i).en (G i).ea g2 g2
 done : ∀ x, x ∈ met (chs (ndL f n)) → left (kI x) = false → (G (plG f n x)).nd = tgt f n x
theorem NuR.next {wr w' : World} {g2 K n : Nat} {f G : Nat → Nc} {left : Lit → Bool} (h : NuR wr g2 K f n left G) (hb : Below wr.heap.size wr w') : NuR w' g2 K f n left G :=
 ⟨row_block h.row (hb.block g2 (row_lt h.row)), fun i hi => ⟨(h.data i hi).1.next hb, (h.data i hi).2⟩, fun i hi => ⟨(h.ents i hi).1.next hb, (h.ents i hi).2⟩, h.done⟩
theorem NuR.turn {wr w' : World} {g2 K n r : Nat} {f G : Nat → Nc} {left : Lit → Bool} (h : NuR wr g2 K f n left G) (hg : wr.grownBy w' (some r)) (hr : ∀ c t fr, wr.heap[r]? ≠ some (.cells c t fr)) (hne : r ≠ g2) : NuR w' g2 K f n left G := by
 have hT : Turn (· = r) wr w' := .of_grown hg rfl
 have key : ∀ (b j : Nat) (v : Value), wr.cell? ⟨b, j, none⟩ = some v → b ≠ r := by
  rintro b j v hc rfl
  unfold World.cell? at hc
  split at hc
  ·rename_i c t fr hb
   exact absurd hb (hr _ _ _)
  ·cases hc
 refine ⟨row_block h.row (hT.block g2 (row_lt h.row) (fun e => hne e.symm)), fun i hi => ⟨(h.data i hi).1.turn hT ?_, (h.data i hi).2⟩, fun i hi => ⟨(h.ents i hi).1.turn hT ?_, (h.ents i hi).2⟩, h.done⟩
 ·rintro h0 b off ha
  rcases (h.data i hi).1.bys.place with h1 | ⟨b2, off2, e, _, hc⟩
  ·omega
  ·rw [ha] at e
   cases e
   exact key _ _ _ (hc 0 h0)
 ·rintro h0 b off ha
  rcases (h.ents i hi).1.ens.place with h1 | ⟨b2, off2, e, _, hc⟩
  ·omega
  ·rw [ha] at e
   cases e
   exact key _ _ _ (hc 0 h0).1
theorem ranges_iter {P : Program} {k : TypeId} {R : Value → Option (DataW Unit × List MemPlace)} {w : World} {b r n : Nat} {D : DataW Unit} {left : Lit → Bool} {cnt : Nat} (h : w.ranges P k R b r n D left cnt) : ∀ c t fr, w.heap[r]? ≠ some (.cells c t fr) := by
 obtain ⟨es, clock, since, seen, c0, _, _, _, _, h1, _⟩ := h
 intro c t fr e
 rw [h1] at e
 cases e
theorem PlAt.len0 {w : World} {b : Nat} {m : List Nat} (h : PlAt w b m) (ty : TypeId) : (Builtin.len_ #[79] ty #[.map (some b)]).run Tryz.prog w = .ok (.int .i64 (m.length : Nat)) w := h.len ty 0
theorem NuR.put {wr w' : World} {g2 K n x : Nat} {f G : Nat → Nc} {left left' : Lit → Bool} (h : NuR wr g2 K f n left G) (hx : x ∈ met (chs (ndL f n))) (hi : plG f n x < K) (y : Nc) (hy : y.nd = tgt f n x)
  (hT : Turn (· = g2) wr w') (hrow : w'.ownsRow 0 54 4 (.slice (some ⟨g2, 0, none⟩) K K) K (nflat (updN G (plG f n x) y) K))
  (hp : Pin wr y.da y.dn y.dc y.d ∧ Off y.dn y.da g2 g2) (he : Enz wr y.ea y.en y.ec y.e ∧ Off y.en y.ea g2 g2) (hl : ∀ z, z ∈ met (chs (ndL f n)) → z ≠ x → left' (kI z) = false → left (kI z) = false) : NuR w' g2 K f n left' (updN G (plG f n x) y) := by
 refine ⟨hrow, fun i hi => ?_, fun i hi => ?_, fun z hz hlz => ?_⟩
 ·by_cases e : i = plG f n x
  ·subst e
   rw [updN_same]
   exact ⟨hp.1.turn hT fun h0 b off ha => (hp.2 h0 b off ha).1, hp.2⟩
  ·rw [updN_other _ _ e]
   exact ⟨(h.data i hi).1.turn hT fun h0 b off ha => ((h.data i hi).2 h0 b off ha).1, (h.data i hi).2⟩
 ·by_cases e : i = plG f n x
  ·subst e
   rw [updN_same]
   exact ⟨he.1.turn hT fun h0 b off ha => (he.2 h0 b off ha).1, he.2⟩
  ·rw [updN_other _ _ e]
   exact ⟨(h.ents i hi).1.turn hT fun h0 b off ha => ((h.ents i hi).2 h0 b off ha).1, (h.ents i hi).2⟩
 ·by_cases e : z = x
  ·subst e
   rw [updN_same]
   exact hy
  ·have hne : plG f n z ≠ plG f n x := fun e2 => e (plc_inj hz hx e2)
   rw [updN_other _ _ hne]
   exact h.done z hz (hl z hz e hlz)
theorem lnkM_num {f : Nat → Nc} {n x : Nat} (h : Snd (ndL f n)) (hx : x ∈ met (chs (ndL f n))) : (nat (num (ndL f n)) (plc (chs (ndL f n)) x)) = tgt f n x := by
 have hlt : x < n := by have := h.metlt x hx; rwa [ndL_len] at this
 have h1 := h.nat_num hx
 have e : nat (ndL f n) x = (f x).nd := nat_ndL hlt
 have hl : (nat (num (ndL f n)) (plc (chs (ndL f n)) x)).l = lnkM (ndL f n) x := by
  unfold lnkM
  cases hd : isD (nat (ndL f n) x) with
  | true =>
   rw [h.dir_num hx hd]
   rfl
  | false =>
   rw [h.file_num hx hd, h.up_num hx]
   rfl
 rw [h1] at hl ⊢
 simp only at hl
 rw [tgt, ← hl, e]
 rfl
theorem NuR.all {wr : World} {g2 n : Nat} {f G : Nat → Nc} {left : Lit → Bool} (h : NuR wr g2 (met (chs (ndL f n))).length f n left G) (hs : Snd (ndL f n)) (hl : ∀ kl, left kl = false) :
  Nds wr (some ⟨g2, 0, none⟩) (num (ndL f n)).length G ∧ ndL G (num (ndL f n)).length = num (ndL f n) := by
 have hlen : (num (ndL f n)).length = (met (chs (ndL f n))).length := by rw [num, fixL_len, numR_len]
 rw [hlen]
 constructor
 ·refine ⟨.inr ⟨g2, 0, rfl, row_lt h.row, fun i hi => ?_⟩, fun i hi => (h.data i hi).1, fun i hi => (h.ents i hi).1⟩
  have key : ∀ j, j < 4 → wr.cell? ⟨g2, 0 + (i * 4 + j), none⟩ = (ncl (G i))[j]? := fun j hj => by
   have := h.row.cells (g := g2) rfl (i * 4 + j) ((ncl (G i))[j]'(by simpa [ncl] using hj)) (by rw [nflat_get G hi hj]; simp [ncl, hj]); rw [add0] at this; rw [this]; simp [ncl, hj]
  exact ⟨key 0 (by omega), key 1 (by omega), key 2 (by omega), key 3 (by omega)⟩
 ·refine nat_ext (by rw [ndL_len, hlen]) fun i hi => ?_
  rw [ndL_len] at hi
  rw [nat_ndL hi]
  have hx := List.getElem_mem hi
  have e := plc_met hi
  have h1 := h.done _ hx (hl _)
  have h2 := lnkM_num hs hx
  rw [e] at h2
  rw [show plG f n ((met (chs (ndL f n)))[i]) = i from e] at h1
  rw [h1, h2]
end Go.Proofs.YtinholnidchblaaGreatDoor
namespace Go.Proofs.YtinholnidchblaaGreatDoor
def arP (L : List (List UInt8)) : Bool := decide (L.length ≤ 8) && L.all nmB
def glue (p : List UInt8) : List (List UInt8) → List (List UInt8)
 | [] => [p]
 | x :: r => (p ++ x) :: r
def pcs : List UInt8 → List (List UInt8)
 | [] => [[]]
 | b :: l => if b = 47 then [] :: pcs l else glue [b] (pcs l)
def spl : List UInt8 → Option (List (List UInt8))
 | [] => none
 | b :: r => if b = 47 then (if r = [] then some [] else if arP (pcs r) then some (pcs r) else none) else none
def wit (a b : List UInt8) : Bool :=
 match spl a, spl b with
 | some l, some m => decide (m.length ≤ l.length) && (l.take m.length == m)
 | _, _ => false
theorem pcs_ne (l : List UInt8) : pcs l ≠ [] := by
 cases l with
 | nil => simp [pcs]
 | cons b l =>
  unfold pcs
  split
  ·simp
  ·cases pcs l <;> simp [glue]
theorem glue_nil {L : List (List UInt8)} (h : L ≠ []) : glue [] L = L := by cases L with
 | nil => exact absurd rfl h
 | cons x r => rfl
theorem glue_glue (p q : List UInt8) (L : List (List UInt8)) : glue p (glue q L) = glue (p ++ q) L := by cases L <;> simp [glue]
theorem glue_len {L : List (List UInt8)} (h : L ≠ []) (p : List UInt8) : (glue p L).length = L.length := by cases L with
 | nil => exact absurd rfl h
 | cons x r => rfl
theorem pcs_len : ∀ l : List UInt8, (pcs l).length = l.count 47 + 1
 | [] => rfl
 | b :: l => by
  unfold pcs
  split
  ·next h => subst h; rw [List.length_cons, pcs_len l, List.count_cons_self]
  ·next h => rw [glue_len (pcs_ne l), pcs_len l, List.count_cons_of_ne h]
theorem pcs_miss : ∀ l : List UInt8, Lib.index l [47] = -1 → pcs l = [l]
 | [], _ => rfl
 | b :: l, h => by
  rw [Lib.index] at h
  by_cases hb : b = 47
  ·subst hb; simp [List.isPrefixOf] at h
  ·have hp : ([47] : List UInt8).isPrefixOf (b :: l) = false := by simp [List.isPrefixOf, Ne.symm hb]
   rw [hp] at h; have hge := Lib.index_ge l [47]
   have h' : Lib.index l [47] = -1 := by
    by_cases hm : Lib.index l [47] = -1
    ·exact hm
    ·simp [hm] at h; omega
   unfold pcs; rw [if_neg hb, pcs_miss l h']
   rfl
theorem pcs_hit : ∀ (l : List UInt8) (i : Nat), Lib.index l [47] = i → pcs l = l.take i :: pcs (l.drop (i + 1))
 | [], i, h => by simp [Lib.index] at h
 | b :: l, i, h => by
  rw [Lib.index] at h
  by_cases hb : b = 47
  ·subst hb
   have : i = 0 := by simp [List.isPrefixOf] at h; omega
   subst this; rw [pcs]
   simp
  ·have hp : ([47] : List UInt8).isPrefixOf (b :: l) = false := by simp [List.isPrefixOf, Ne.symm hb]
   rw [hp] at h; have hge := Lib.index_ge l [47]
   by_cases hm : Lib.index l [47] = -1
   ·simp [hm] at h
   ·simp [hm] at h
    obtain ⟨j, rfl⟩ : ∃ j, i = j + 1 := ⟨i - 1, by omega⟩
    have := pcs_hit l j (by omega); rw [pcs, if_neg hb, this]
    simp [glue]
theorem count_hit47 {l : List UInt8} {i : Nat} (h : Lib.index l [47] = i) : l.count 47 = 1 + (l.drop (i + 1)).count 47 := by
 have := Lib.count_hit (s := l) (sub := [47]) (i := i) (by simp) h
 rwa [Lib.count_one, Lib.count_one] at this
theorem splitK_all : ∀ (k : Nat) (l : List UInt8), l.count 47 ≤ k → Lib.splitK [47] 0 k l = pcs l
 | 0, l, h => by
  rw [Lib.splitK]
  rcases Lib.index_spec l [47] with ⟨h1, _⟩ | ⟨i, h1, _⟩
  ·rw [pcs_miss l h1]
  ·have := count_hit47 h1; omega
 | k + 1, l, h => by
  rw [Lib.splitK]
  rcases Lib.index_spec l [47] with ⟨h1, _⟩ | ⟨i, h1, _⟩
  ·rw [h1, pcs_miss l h1]; rfl
  ·have hc := count_hit47 h1
   rw [h1, pcs_hit l i h1]
   have e : ((i : Int) == -1) = false := by simp
   rw [e]; simp only [Bool.false_eq_true, if_false, Int.toNat_natCast, Nat.add_zero, List.length_cons, List.length_nil, Nat.zero_add]; rw [splitK_all k _ (by omega)]
theorem splitK_len : ∀ (k : Nat) (l : List UInt8), k ≤ l.count 47 → (Lib.splitK [47] 0 k l).length = k + 1
 | 0, l, h => rfl
 | k + 1, l, h => by
  rw [Lib.splitK]
  rcases Lib.index_spec l [47] with ⟨h1, _⟩ | ⟨i, h1, _⟩
  ·have := Lib.count_miss h1
   rw [Lib.count_one] at this; omega
  ·have hc := count_hit47 h1
   rw [h1]
   have e : ((i : Int) == -1) = false := by simp
   rw [e]; simp only [Bool.false_eq_true, if_false, Int.toNat_natCast, Nat.add_zero, List.length_cons, List.length_nil, Nat.zero_add]; rw [splitK_len k _ (by omega)]
def nin (l : List UInt8) : List (List UInt8) := Lib.splitK [47] 0 (min 9 (l.length + 1) - 1) l
theorem nin_cases (l : List UInt8) : nin l = pcs l ∨ (8 < (nin l).length ∧ 8 < (pcs l).length) := by
 unfold nin
 have hc := List.count_le_length (a := (47 : UInt8)) (l := l)
 by_cases h : l.count 47 ≤ min 9 (l.length + 1) - 1
 ·exact .inl (splitK_all _ l h)
 ·refine .inr ⟨?_, by rw [pcs_len]; omega⟩
  rw [splitK_len _ l (by omega)]
  omega
theorem nin_le (l : List UInt8) : (nin l).length ≤ 9 := by
 rcases nin_cases l with h | h
 ·unfold nin
  by_cases hc : min 9 (l.length + 1) - 1 ≤ l.count 47
  ·rw [splitK_len _ l hc]; omega
  ·rw [splitK_all _ l (by omega), pcs_len]; omega
 ·unfold nin
  have hc := List.count_le_length (a := (47 : UInt8)) (l := l)
  have := h.2
  rw [pcs_len] at this
  rw [splitK_len _ l (by omega)]; omega
theorem arP_nin (l : List UInt8) : arP (nin l) = arP (pcs l) ∧ (arP (nin l) = true → nin l = pcs l) := by
 rcases nin_cases l with h | ⟨h1, h2⟩
 ·rw [h]; exact ⟨rfl, fun _ => rfl⟩
 ·have e1 : arP (nin l) = false := by unfold arP; rw [decide_eq_false (by omega)]; rfl
  have e2 : arP (pcs l) = false := by unfold arP; rw [decide_eq_false (by omega)]; rfl
  exact ⟨by rw [e1, e2], fun h => by rw [e1] at h; cases h⟩
def rsp : List UInt8 → List UInt8 → List (List UInt8) → Option (List (List UInt8))
 | [], nm, out => if nmB nm && !(out.length == 8) then some (out ++ [nm]) else none
 | b :: r, nm, out => if b = 47 then (if nmB nm && !(out.length == 8) then rsp r [] (out ++ [nm]) else none) else rsp r (nm ++ [b]) out
theorem arP_snoc {out : List (List UInt8)} {nm : List UInt8} (h : arP out = true) : arP (out ++ [nm]) = (nmB nm && !(out.length == 8)) := by
 unfold arP at h ⊢
 simp only [Bool.and_eq_true, decide_eq_true_eq] at h
 rw [List.all_append, h.2, List.length_append, List.length_singleton]
 by_cases h8 : out.length = 8
 ·rw [h8]; simp
 ·rw [decide_eq_true (by omega)]
  have : (out.length == 8) = false := by simp [h8]
  rw [this]; simp
theorem arP_front {L M : List (List UInt8)} (h : arP L = false) : arP (L ++ M) = false := by
 unfold arP at h ⊢
 rw [List.all_append, List.length_append]
 by_cases h8 : L.length ≤ 8
 ·rw [decide_eq_true h8, Bool.true_and] at h
  rw [h]; simp
 ·rw [decide_eq_false (by omega)]; rfl
theorem rsp_eq : ∀ (r nm : List UInt8) (out : List (List UInt8)), arP out = true → rsp r nm out = if arP (out ++ glue nm (pcs r)) then some (out ++ glue nm (pcs r)) else none
 | [], nm, out, h => by
  rw [rsp, pcs]
  simp only [glue, List.append_nil]
  rw [arP_snoc h]
 | b :: r, nm, out, h => by
  rw [rsp, pcs]
  by_cases hb : b = 47
  ·rw [if_pos hb, if_pos hb]
   have e : out ++ glue nm ([] :: pcs r) = (out ++ [nm]) ++ pcs r := by simp [glue]
   rw [e]
   cases hn : (nmB nm && !(out.length == 8)) with
   | true =>
    rw [if_pos rfl, rsp_eq r [] _ (by rw [arP_snoc h, hn]), glue_nil (pcs_ne r)]
   | false =>
    have h2 : arP (out ++ [nm]) = false := by rw [arP_snoc h, hn]
    rw [arP_front h2]
    simp
  ·rw [if_neg hb, if_neg hb, rsp_eq r (nm ++ [b]) out h, glue_glue]
theorem rsp_spl {r : List UInt8} (h : r ≠ []) : rsp r [] [] = spl (47 :: r) := by
 rw [rsp_eq r [] [] rfl, spl, if_pos rfl, if_neg h, glue_nil (pcs_ne r), List.nil_append]
theorem spl_arP {s : List UInt8} {L : List (List UInt8)} (h : spl s = some L) : arP L = true := by
 cases s with
 | nil => cases h
 | cons b r =>
  rw [spl] at h
  split at h
  ·split at h
   ·cases h; rfl
   ·split at h
    ·next hp => cases h; exact hp
    ·cases h
  ·cases h
theorem nmB_pos {l : List UInt8} (h : nmB l = true) : 1 ≤ l.length ∧ l.length ≤ 12 ∧ l.all okB = true := by
 unfold nmB at h
 simp only [Bool.and_eq_true, decide_eq_true_eq] at h
 exact ⟨h.1.1.1.1, h.1.1.1.2, h.2⟩
theorem arP_len {L : List (List UInt8)} (h : arP L = true) : L.length ≤ 8 := by
 unfold arP at h
 simp only [Bool.and_eq_true, decide_eq_true_eq] at h
 exact h.1
theorem arP_all {L : List (List UInt8)} (h : arP L = true) {x : List UInt8} (hx : x ∈ L) : nmB x = true := by
 unfold arP at h
 simp only [Bool.and_eq_true] at h
 exact List.all_eq_true.1 h.2 x hx
theorem wit_eq {a b : List UInt8} {l m : List (List UInt8)} (ha : spl a = some l) (hb : spl b = some m) : wit a b = (decide (m.length ≤ l.length) && (l.take m.length == m)) := by
 unfold wit; rw [ha, hb]
theorem wit_left {a : List UInt8} (ha : spl a = none) (b : List UInt8) : wit a b = false := by unfold wit; rw [ha]
end Go.Proofs.YtinholnidchblaaGreatDoor
namespace Go.Proofs.YtinholnidchblaaGreatDoor
open Go.RowKit
theorem tx_size (l : List UInt8) : (tx l).size = l.length := by rw [Lib.size_eq, data_tx]
theorem tx_inj {x y : List UInt8} (h : tx x = tx y) : x = y := by
 have := congrArg (fun s => s.data.toList) h
 simpa [data_tx] using this
def tat (L : List (List UInt8)) (i : Nat) : List UInt8 := L.getD i []
structure Sts (w : World) (a : Option Addr) (n : Nat) (L : List (List UInt8)) : Prop where
 len : L.length = n
 place : n = 0 ∨ ∃ b off, a = some ⟨b, off, none⟩ ∧ b < w.heap.size ∧ ∀ i, i < n → w.cell? ⟨b, off + i, none⟩ = some (.string (tx (tat L i)))
theorem Sts.below {w w' : World} {a : Option Addr} {n : Nat} {L : List (List UInt8)} (h : Sts w a n L) {B : Nat} (hB : w.heap.size ≤ B) (hb : Below B w w') : Sts w' a n L := by
 refine ⟨h.len, ?_⟩
 rcases h.place with h0 | ⟨b, off, ha, hlt, hc⟩
 ·exact .inl h0
 ·exact .inr ⟨b, off, ha, Nat.lt_of_lt_of_le hlt hb.size, fun i hi => (hb.cell (p := ⟨b, off + i, none⟩) (by show b < B; omega)).trans (hc i hi)⟩
theorem Sts.next {w w' : World} {a : Option Addr} {n : Nat} {L : List (List UInt8)} (h : Sts w a n L) (hb : Below w.heap.size w w') : Sts w' a n L := h.below (Nat.le_refl _) hb
theorem Sts.alloc {w : World} {a : Option Addr} {n : Nat} {L : List (List UInt8)} (h : Sts w a n L) (o : Obj) : Sts (w.alloc o) a n L := h.next ((Below.refl _ _).alloc (Nat.le_refl _) o)
theorem Sts.drewN {w : World} {a : Option Addr} {n : Nat} {L : List (List UInt8)} (h : Sts w a n L) (q : Nat) : Sts (w.drewN q) a n L := h.next (below_drewN (Below.refl _ _) q)
theorem Sts.at {w : World} {a : Option Addr} {n : Nat} {L : List (List UInt8)} (h : Sts w a n L) (hn : 0 < n) : ∃ b off, a = some ⟨b, off, none⟩ ∧ b < w.heap.size ∧ ∀ i, i < n → w.cell? ⟨b, off + i, none⟩ = some (.string (tx (tat L i))) := by
 rcases h.place with h0 | h1
 ·omega
 ·exact h1
theorem tat_take {L : List (List UInt8)} {k i : Nat} (h : i < k) : tat (L.take k) i = tat L i := by simp [tat, List.getD, h]
theorem Sts.front {w : World} {a : Option Addr} {n : Nat} {L : List (List UInt8)} (h : Sts w a n L) {k : Nat} (hk : k ≤ n) : Sts w a k (L.take k) := by
 refine ⟨by rw [List.length_take, h.len]; omega, ?_⟩
 rcases h.place with h0 | ⟨b, off, e, hlt, hc⟩
 ·exact .inl (by omega)
 ·exact .inr ⟨b, off, e, hlt, fun i hi => by rw [tat_take hi]; exact hc i (by omega)⟩
theorem tat_ext {x y : List (List UInt8)} (hl : x.length = y.length) (h : ∀ i, i < x.length → tat x i = tat y i) : x = y := by
 apply List.ext_getElem hl
 intro i h1 h2
 have := h i h1
 simpa [tat, List.getD, h1, h2] using this
theorem tat_mem {L : List (List UInt8)} {i : Nat} (h : i < L.length) : tat L i ∈ L := by
 simp [tat, List.getD, h]
theorem sts_nil (w : World) (a : Option Addr) : Sts w a 0 [] := ⟨rfl, .inl rfl⟩
theorem infoT : (Tryz.prog.info? 9).map (fun i => (i.zero, i.size, i.bytes)) = some (some (.string ByteArray.empty), 1, 16) := by kernel_rfl
def OwnT (w : World) (B : Nat) (v : Value) (n : Nat) (L : List (List UInt8)) : Prop := w.ownsRow B 9 1 v n (L.map fun x => Value.string (tx x))
theorem OwnT.below {w w' : World} {B : Nat} {v : Value} {n : Nat} {L : List (List UInt8)} (h : OwnT w B v n L) {C : Nat} (hC : w.heap.size ≤ C) (hb : Below C w w') : OwnT w' B v n L :=
 h.kept (row := none) ⟨hb.os, hb.tape, hb.output, hb.size, fun k hk _ => hb.block k (by omega)⟩ (by cases v.ownBlock <;> simp)
theorem OwnT.next {w w' : World} {B : Nat} {v : Value} {n : Nat} {L : List (List UInt8)} (h : OwnT w B v n L) (hb : Below w.heap.size w w') : OwnT w' B v n L := h.below (Nat.le_refl _) hb
theorem OwnT.alloc {w : World} {B : Nat} {v : Value} {n : Nat} {L : List (List UInt8)} (h : OwnT w B v n L) (o : Obj) : OwnT (w.alloc o) B v n L := h.next ((Below.refl _ _).alloc (Nat.le_refl _) o)
theorem ownT_none (w : World) (B : Nat) (hB : B ≤ w.heap.size) : OwnT (w.alloc (.cells #[] 9)) B (.slice (some ⟨w.heap.size, 0, none⟩) 0 0) 0 [] := World.ownsRow_lit w #[] 0 hB (Nat.zero_le _) rfl
theorem ownT_nil (w : World) (B : Nat) : OwnT w B (.slice none 0 0) 0 [] := World.ownsRow_nil _ _ _ _
theorem OwnT.sts {w : World} {B : Nat} {v : Value} {n : Nat} {L : List (List UInt8)} (h : OwnT w B v n L) : ∃ a c, v = .slice a n c ∧ Sts w a n L ∧ n ≤ c ∧ c ≤ 9223372036854775807 ∧ (a = none → n = 0 ∧ c = 0) ∧ (∀ x, a = some x → B ≤ x.block ∧ x.block < w.heap.size) := by
 rcases h.2 with ⟨rfl, rfl⟩ | ⟨g, cap, cur, rfl, hb, hg, hnc, hm, hsz, htake⟩
 ·have := h.1
  simp at this
  exact ⟨none, 0, rfl, ⟨by simpa using this, .inl rfl⟩, Nat.le_refl _, by omega, (fun _ => ⟨rfl, rfl⟩), (fun x hx => by cases hx)⟩
 ·have hl : L.length = n := by have := h.1; simpa using this
  refine ⟨some ⟨g, 0, none⟩, cap, rfl, ⟨hl, .inr ⟨g, 0, rfl, lt_of_block hg, fun i hi => ?_⟩⟩, hnc, by unfold maxLen at hm; omega, (fun h => by cases h), fun x hx => by cases hx; exact ⟨hb, lt_of_block hg⟩⟩
  have hc := h.cellAt i (by omega)
  rw [Nat.zero_add, hc]
  simp [tat, List.getD, show i < L.length by omega]
theorem wpList_apT {w : World} {ops : Array Oper} {rest : List Oper} {o : Oper} {a : Act} {Q : Exit → Act → World → Prop} (hgd : o.guard = none) (s x : Operand)
  (ho : o.op = .call { callee := .builtin .append, args := #[s, x], argTypes := #[35, 35] })
  (B : Nat) (v : Value) (n : Nat) (L : List (List UInt8)) (hs : a.eval s = v) (hown : OwnT w B v n L) (p : Addr) (m c : Nat) (M : List (List UInt8)) (hx : a.eval x = .slice (some p) m c) (hM : Sts w (some p) m M)
  (hn : n + m ≤ 1000000000000) (hB : B ≤ w.heap.size) (w0 : World) (hb : Below B w0 w)
  (h : ∀ v' w', OwnT w' B v' (n + m) (L ++ M) → Below B w0 w' → wpList Tryz.prog ops Q rest (a.put o.dst v') w') : wpList Tryz.prog ops Q (o :: rest) a w := by
 obtain ⟨i0, hi, hz0, hz1, hz2⟩ := info_parts infoT
 refine wpList_append_own w hgd s x 35 ho B 9 i0 (.string ByteArray.empty) 1 16 Tryz.underlying35 hi hz0 hz1 hz2 rfl (by decide) v n _ hs hown p m c (M.map fun y => Value.string (tx y)) hx (by rw [List.length_map, hM.len, Nat.mul_one]) ?_ ?_ (by unfold maxLen; omega) (by omega) hB ?_
 ·intro j u hj
  rw [List.getElem?_map] at hj
  cases hj' : M[j]? with
  | none => rw [hj'] at hj; cases hj
  | some y =>
   rw [hj'] at hj
   cases hj
   have hlt : j < m := by
    have := (List.getElem?_eq_some_iff.1 hj').1; rw [hM.len] at this
    exact this
   rcases hM.place with h0 | ⟨b, off, e, _, hc⟩
   ·omega
   ·cases e
    have e2 : tat M j = y := by simp [tat, List.getD, hj']
    have := hc j hlt; rw [e2] at this; rw [WideShapes.add_plain]
    exact this
 ·intro u hu
  obtain ⟨y, _, rfl⟩ := List.mem_map.1 hu
  rfl
 ·intro v' w' hown' hgrow _
  exact h v' w' (by unfold OwnT; rw [List.map_append]; exact hown') (hb.grown hgrow hB fun k hk => (hown.lt k hk).1)
theorem sts_one {w : World} {g : Nat} (x : ByteArray) (h : w.heap.size = g) : Sts (w.alloc (.cells #[.string x] 9 (0, 0))) (some ⟨g, 0, none⟩) 1 [x.data.toList] := by
 subst h
 exact ⟨rfl, .inr ⟨_, 0, rfl, by simp, fun i hi => by
  rcases (by omega : i = 0) with rfl
  simp [tat, tx_data]⟩⟩
def SplV (B : Nat) (o : Option (List (List UInt8))) (e : Ending) (w' : World) : Prop :=
 match o with
 | none => e = .returned (.tuple #[.slice none 0 0, .int .i64 20])
 | some L => ∃ v, e = .returned (.tuple #[v, .int .i64 0]) ∧ OwnT w' B v L.length L
theorem badN_any (s : ByteArray) (w : World) : Calls Tryz.prog 93 #[.string s] w fun e w' => e = .returned (.bool (!nmB s.data.toList)) ∧ Below w.heap.size w w' := by
 have hc := name_any s w
 go_enter Tryz.func93, Tryz.ntmps93
 go_wp2_with fail
 refine hc.mono ?_
 rintro e w' ⟨rfl, hb⟩
 go_wp2_with fail
 go_ret
 exact ⟨rfl, hb⟩
def NmTo (L : List (List UInt8)) (k : Nat) : Prop := ∀ j, j < k → nmB (tat L j) = true
theorem NmTo.zero (L : List (List UInt8)) : NmTo L 0 := fun j h => by omega
theorem NmTo.succ {L : List (List UInt8)} {k : Nat} (h : NmTo L k) (e : nmB (tat L k) = true) : NmTo L (k + 1) := fun j hj => by
 by_cases hk : j = k
 ·rw [hk]; exact e
 ·exact h j (by omega)
theorem NmTo.all {L : List (List UInt8)} (h : NmTo L L.length) : L.all nmB = true := by
 rw [List.all_eq_true]
 intro x hx
 obtain ⟨i, hi, rfl⟩ := List.getElem_of_mem hx
 have := h i hi
 simpa [tat, List.getD, hi] using this
theorem not_allN {L : List (List UInt8)} {k : Nat} (hk : k < L.length) (e : nmB (tat L k) = false) : L.all nmB = false := by
 rw [List.all_eq_false]
 refine ⟨tat L k, tat_mem hk, by rw [e]; decide⟩
theorem indexS_any (w : World) (a : Option Addr) (n c : Nat) (L : List (List UInt8)) (h : Sts w a n L) (hn : n ≤ 1000000) :
  Calls Tryz.prog 125 #[.slice a n c, .func (.func 93) #[] #[]] w fun e w' => ∃ r : Int, e = .returned (.int .i64 r) ∧ decide (0 ≤ r) = !(L.all nmB) ∧ Below w.heap.size w w' := by
 have hl := h.len
 subst hl
 go_enter Tryz.func125, Tryz.ntmps125
 go_wp2_with fail
 go_loopw [5, 8] (fun _ v wr => ∃ k : Nat, k ≤ L.length ∧ v = .int .i64 k ∧ Below w.heap.size w wr ∧ NmTo L k) (fun _ v _ => L.length - (RowKit.intOf v).toNat)
 case atStart => exact ⟨0, by omega, rfl, Below.refl _ _, NmTo.zero _⟩
 case round =>
  obtain ⟨k, hk, rfl, hB, hI⟩ := hrel
  have HI := qH hI
  have HB := qH hB
  by_cases hlt : k < L.length
  ·have k1 : (k : Int) < (L.length : Int) := by omega
   have k0 : (0 : Int) ≤ (k : Int) := by omega
   obtain ⟨b, off, rfl, hbl, hc⟩ := h.at (by omega); have x1 := (hB.cell (p := ⟨b, off + k, none⟩) hbl).trans (hc k hlt); have hcall := badN_any (tx (tat L k)) wr; rw [data_tx] at hcall; clear hc h hB hI
   cases hb : nmB (tat L k) with
   | true =>
    rw [hb] at hcall; go_wp2_with fail; refine hcall.mono ?_; rintro e w' ⟨rfl, hb'⟩; have HB2 := qH (HB.out.trans (hb'.mono HB.out.size)); clear hb' hcall; go_wp2_with fail
    go_roundw
    case rel => exact ⟨k + 1, by omega, by go_num, HB2.out, HI.out.succ hb⟩
    case measure => simp [RowKit.intOf]; omega
   | false =>
    rw [hb] at hcall; go_wp2_with fail; refine hcall.mono ?_; rintro e w' ⟨rfl, hb'⟩; have HB2 := qH (HB.out.trans (hb'.mono HB.out.size)); clear hb' hcall; go_wp2_with fail; go_ret
    exact ⟨k, rfl, by rw [not_allN hlt hb]; simp, HB2.out⟩
  ·obtain rfl : k = L.length := by omega
   clear h hB hI; go_wp2_with fail; go_ret
   exact ⟨-1, rfl, by rw [HI.out.all]; rfl, HB.out⟩
theorem containsS_any (w : World) (a : Option Addr) (n c : Nat) (L : List (List UInt8)) (h : Sts w a n L) (hn : n ≤ 1000000) :
  Calls Tryz.prog 92 #[.slice a n c, .func (.func 93) #[] #[]] w fun e w' => e = .returned (.bool (!(L.all nmB))) ∧ Below w.heap.size w w' := by
 have hi := indexS_any w a n c L h hn
 clear h
 go_enter Tryz.func92, Tryz.ntmps92
 go_wp2_with fail
 refine hi.mono ?_
 rintro e w' ⟨r, rfl, hr, hb⟩
 go_wp2_with fail
 go_ret
 exact ⟨by rw [← hr]; rfl, hb⟩
theorem are_any (w : World) (a : Option Addr) (n c : Nat) (L : List (List UInt8)) (h : Sts w a n L) :
  Calls Tryz.prog 58 #[.slice a n c] w fun e w' => e = .returned (.bool (arP L)) ∧ Below w.heap.size w w' := by
 have hl := h.len
 have HL := qH hl
 clear hl
 by_cases h8 : n ≤ 8
 ·have k8 : (n : Int) ≤ 8 := by omega
  have hc := containsS_any w a n c L h (by omega)
  have hp := qH (show arP L = L.all nmB by unfold arP; rw [decide_eq_true (by rw [HL.out]; omega)]; rfl)
  clear h
  go_enter Tryz.func58, Tryz.ntmps58
  go_wp2_with fail
  refine hc.mono ?_
  rintro e w' ⟨rfl, hb⟩
  go_wp2_with fail
  go_ret
  exact ⟨by rw [hp.out]; simp, hb⟩
 ·have k8 : ¬ (n : Int) ≤ 8 := by omega
  have hp := qH (show arP L = false by unfold arP; rw [decide_eq_false (by rw [HL.out]; omega)]; rfl)
  clear h
  go_enter Tryz.func58, Tryz.ntmps58
  go_wp2_with fail
  go_ret
  exact ⟨by rw [hp.out]; rfl, Below.refl _ _⟩
def slash : ByteArray := ⟨#[47]⟩
theorem slash_index (x : ByteArray) : Lib.indexByte x.data.toList 47 = Lib.indexB x slash := (Lib.index_one _ _).symm
theorem slash_count (s : ByteArray) : (Lib.countByte s.data.toList 47 : Int) = Lib.countB s slash := by
 show _ = ((Lib.count s.data.toList [47] : Nat) : Int)
 rw [Lib.count_one]
 rfl
theorem nin_eq (s : ByteArray) : (Lib.splitB slash 0 (min 9 (s.size + 1) - 1) s).map (·.data.toList) = nin s.data.toList := by
 rw [Lib.splitB_data, Lib.size_eq]; rfl
theorem genSplit_any (s : ByteArray) (w : World) (hs : s.size < 4294967281) :
  Calls Tryz.prog 91 #[.string s, .string slash, .int .i64 0, .int .i64 9] w fun e w' =>
   ∃ c : Nat, e = .returned (.slice (some ⟨w.heap.size, 0, none⟩) (nin s.data.toList).length c) ∧ OwnT w' w.heap.size (.slice (some ⟨w.heap.size, 0, none⟩) (nin s.data.toList).length c) (nin s.data.toList).length (nin s.data.toList) ∧ Below w.heap.size w w' := by
 refine (Any.strings_genSplit_core lays221 (by kernel_rfl) s slash 0 9 (min 9 (s.size + 1)) w hs (by decide) (Nat.zero_le _)
  (fun x c hx => (Any.strings_Index_one { lays221 with } x 47 _).mono fun e w' ⟨he, hw⟩ => ⟨by rw [he, slash_index], hw⟩)
  ((Any.strings_Count_one { lays221 with } s 47 w).mono fun e w' ⟨he, hw⟩ => ⟨by rw [he, slash_count], hw⟩)
  (by decide) (by decide) (by simp; omega)).mono ?_
 rintro e w' ⟨rfl, rfl⟩
 have hl : (Lib.splitB slash 0 (min 9 (s.size + 1) - 1) s).length = (nin s.data.toList).length := by rw [← nin_eq, List.length_map]
 have hle := Lib.splitB_length_le slash 0 (min 9 (s.size + 1) - 1) s
 have hcs : (Lib.splitB slash 0 (min 9 (s.size + 1) - 1) s).map Value.string = (nin s.data.toList).map fun x => Value.string (tx x) := by
  rw [← nin_eq, List.map_map]
  exact List.map_congr_left fun x _ => by simp [tx_data]
 rw [hl] at hle
 refine ⟨min 9 (s.size + 1), by rw [hl], ⟨by simp, .inr ⟨w.heap.size, min 9 (s.size + 1), _, rfl, Nat.le_refl _, heap_alloc_new w _, by omega, by unfold maxLen; omega, ?_, ?_⟩⟩, (Below.refl _ _).alloc (Nat.le_refl _) _⟩
 ·rw [Nat.mul_one]; exact Lib.cellsOf_size (by omega)
 ·unfold Lib.cellsOf
  rw [List.toList_toArray, Nat.mul_one, hcs]
  exact List.take_left' (by simp)
theorem splitN_any (s : ByteArray) (w : World) (hs : s.size < 4294967281) :
  Calls Tryz.prog 57 #[.string s, .string slash, .int .i64 9] w fun e w' =>
   ∃ c : Nat, e = .returned (.slice (some ⟨w.heap.size, 0, none⟩) (nin s.data.toList).length c) ∧ OwnT w' w.heap.size (.slice (some ⟨w.heap.size, 0, none⟩) (nin s.data.toList).length c) (nin s.data.toList).length (nin s.data.toList) ∧ Below w.heap.size w w' := by
 have hc := genSplit_any s w hs
 go_enter Tryz.func57, Tryz.ntmps57
 go_wp2_with fail
 refine hc.mono ?_
 rintro e w' ⟨c, rfl, ho, hb⟩
 go_wp2_with fail
 go_ret
 exact ⟨c, rfl, ho, hb⟩
theorem cutpre_any (s : ByteArray) (w : World) : Calls Tryz.prog 56 #[.string s, .string slash] w fun e w' =>
  e = .returned (.tuple #[.string (tx (Lib.trimPrefix s.data.toList [47])), .bool (Lib.hasPrefix s.data.toList [47])]) ∧ w' = w :=
 Any.strings_CutPrefix lays103 s slash w
theorem OwnT.put {w : World} {B g n c k : Nat} {L : List (List UInt8)} (h : OwnT w B (.slice (some ⟨g, 0, none⟩) n c) n L) (hk : k < n) : OwnT (w.setCell ⟨g, k, none⟩ (.string (tx (tat L k)))) B (.slice (some ⟨g, 0, none⟩) n c) n L := by
 have hl : L.length = n := by have := h.1; simpa using this
 rcases h.2 with ⟨e, _⟩ | ⟨g', cap, cur, e, hb, hg, hnc, hm, hsz, htake⟩
 ·cases e
 ·cases e
  refine ⟨h.1, .inr ⟨g, c, cur.setIfInBounds k (.string (tx (tat L k))), rfl, hb, heap_setCell_same w g k cur _ _ hg, hnc, hm, by simpa using hsz, ?_⟩⟩
  rw [Nat.mul_one] at htake ⊢
  rw [Array.toList_setIfInBounds, List.take_set, htake]
  apply List.ext_getElem?
  intro i
  rw [List.getElem?_set]
  split
  ·next e =>
   subst e; rw [if_pos (by simp; omega)]
   simp [tat, List.getD, show k < L.length by omega]
  ·rfl
theorem OwnT.free {w : World} {B g n c : Nat} {L : List (List UInt8)} (h : OwnT w B (.slice (some ⟨g, 0, none⟩) n c) n L) (i : Nat) : w.frozen? ⟨g, i, none⟩ = false := by
 rcases h.2 with ⟨e, _⟩ | ⟨g', cap, cur, e, hb, hg, hnc, hm, hsz, htake⟩
 ·cases e
 ·cases e
  exact frozen_of_row w g i _ _ hg
theorem spl_slash {l : List UInt8} : Lib.hasPrefix l [47] = true → ∃ r, l = 47 :: r := by
 intro h
 cases l with
 | nil => simp [Lib.hasPrefix] at h
 | cons b r =>
  simp [Lib.hasPrefix, List.isPrefixOf] at h
  exact ⟨r, by rw [h]⟩
theorem spl_off {l : List UInt8} (h : Lib.hasPrefix l [47] = false) : spl l = none := by
 cases l with
 | nil => rfl
 | cons b r =>
  have : b ≠ 47 := fun e => by subst e; simp [Lib.hasPrefix, List.isPrefixOf] at h
  rw [spl, if_neg this]
theorem trim_slash (r : List UInt8) : Lib.trimPrefix (47 :: r) [47] = r := by simp [Lib.trimPrefix, Lib.hasPrefix, List.isPrefixOf]
theorem has_slash (r : List UInt8) : Lib.hasPrefix (47 :: r) [47] = true := by simp [Lib.hasPrefix, List.isPrefixOf]
def SplPost (w : World) (o : Option (List (List UInt8))) (e : Ending) (w' : World) : Prop := SplV w.heap.size o e w' ∧ Below w.heap.size w w'
theorem split_any (s : ByteArray) (w : World) (hs : s.size < 4294967281) : Calls Tryz.prog 31 #[.string s] w (SplPost w (spl s.data.toList)) := by
 have hct := cutpre_any s w
 cases hp : Lib.hasPrefix s.data.toList [47] with
 | false =>
  have hn := qH (spl_off hp)
  rw [hp] at hct
  go_enter Tryz.func31, Tryz.ntmps31
  go_wp2_with fail
  refine hct.mono ?_
  rintro e w' ⟨rfl, rfl⟩
  go_wp2_with fail
  go_ret2
  exact ⟨by rw [hn.out]; rfl, Below.refl _ _⟩
 | true =>
  obtain ⟨r, hr⟩ := spl_slash hp
  rw [hr, trim_slash, has_slash] at hct
  have hsz : r.length < s.size := by rw [Lib.size_eq, hr]; simp
  by_cases h0 : r = []
  ·subst h0
   have hsp := qH (show spl s.data.toList = some [] by rw [hr]; rfl)
   have hte : (tx []).toList.isEmpty = true := by rw [Lib.toList_data]; rfl
   clear hr hp
   go_enter Tryz.func31, Tryz.ntmps31
   go_wp2_with fail; refine hct.mono ?_; rintro e w' ⟨rfl, rfl⟩; go_wp2_with fail
   go_ret2
   exact ⟨by rw [hsp.out]; exact ⟨_, rfl, ownT_nil _ _⟩, Below.refl _ _⟩
  ·have hsp : spl s.data.toList = if arP (pcs r) then some (pcs r) else none := by rw [hr, spl, if_pos rfl, if_neg h0]
   have hte : (tx r).toList.isEmpty = false := by
    rw [Lib.toList_data, data_tx]
    cases r with
    | nil => exact absurd rfl h0
    | cons _ _ => rfl
   have hsn := splitN_any (tx r) w (by rw [tx_size]; omega); rw [data_tx] at hsn; have hap := arP_nin r; rw [← hap.1] at hsp; have hle := nin_le r
   obtain ⟨L, hL⟩ : ∃ L, L = nin r := ⟨_, rfl⟩
   rw [← hL] at hsp hsn hap hle; have HSP := qH hsp; have HAP := qH hap; clear hr hp hL hsp hap h0
   go_enter Tryz.func31, Tryz.ntmps31
   go_wp2_with fail; refine hct.mono ?_; rintro e w' ⟨rfl, rfl⟩; go_wp2_with fail; refine hsn.mono ?_; rintro e w1 ⟨c, rfl, ho, hb⟩; obtain ⟨a', c', ev, hS, hnc, hcm, _, hlo⟩ := ho.sts
   cases ev
   have har := are_any w1 _ _ c L hS; have HO := qH ho; have HB := qH hb; clear ho hb hS hsn hct hlo
   cases hA : arP L with
   | false =>
    rw [hA] at har; go_wp2_with fail; refine har.mono ?_; rintro e w2 ⟨rfl, hb2⟩; have HB2 := qH (HB.out.trans (hb2.mono HB.out.size)); clear hb2 har; go_wp2_with fail
    go_ret2
    exact ⟨by rw [HSP.out, hA]; rfl, HB2.out⟩
   | true =>
    rw [hA] at har; go_wp2_with fail; refine har.mono ?_; rintro e w2 ⟨rfl, hb2⟩; have HB2 := qH (HB.out.trans (hb2.mono HB.out.size)); have HO2 := qH (HO.out.next hb2); clear hb2 har; go_wp2_with fail
    go_loopw [25] (fun v wr => ∃ k : Nat, k ≤ L.length ∧ v = .int .i64 k ∧ Below w'.heap.size w' wr ∧ OwnT wr w'.heap.size (.slice (some ⟨w'.heap.size, 0, none⟩) L.length c) L.length L) (fun v _ => L.length - (RowKit.intOf v).toNat)
    case atStart => exact ⟨0, by omega, rfl, HB2.out, HO2.out⟩
    case round =>
     obtain ⟨k, hk, rfl, hB, hO⟩ := hrel; have HB := qH hB; have HO := qH hO
     by_cases hlt : k < L.length
     ·have k1 : (k : Int) < (L.length : Int) := by omega
      have k0 : (0 : Int) ≤ (k : Int) := by omega
      obtain ⟨a', c', ev, hS, _, _, _, hlo⟩ := hO.sts
      cases ev
      obtain ⟨b, off, ea, hbl, hc⟩ := hS.at (by omega)
      cases ea
      have x1 := hc k hlt; rw [Nat.zero_add] at x1; have hnm := nmB_pos (arP_all hA (tat_mem hlt)); have hcl := clone_any (tx (tat L k)) wr (by rw [tx_size]; omega); clear hc hS hB hO hlo hnm; go_wp2_with fail; refine hcl.mono ?_; rintro e w3 ⟨rfl, hb3⟩; have c0 := (hb3.cell (p := ⟨w'.heap.size, k, none⟩) hbl).trans x1; have HO3 := qH (HO.out.next hb3); have f0 := HO3.out.free k; have HB3 := qH (HB.out.trans (hb3.mono HB.out.size)); have lt := Nat.lt_of_lt_of_le hbl hb3.size; clear hb3 hcl x1 hbl; go_wp2_with fail
      go_roundw
      case rel => exact ⟨k + 1, by omega, by go_num, HB3.out.setCell (Nat.le_refl _) _, HO3.out.put hlt⟩
      case measure => simp [RowKit.intOf]; omega
     ·obtain rfl : k = L.length := by omega
      clear hB hO; go_wp2_with fail
      go_ret2
      refine ⟨?_, HB.out⟩; rw [HSP.out, if_pos hA, ← HAP.out.2 hA]
      exact ⟨.slice (some ⟨w'.heap.size, 0, none⟩) L.length c, rfl, HO.out⟩
end Go.Proofs.YtinholnidchblaaGreatDoor
namespace Go.Proofs.YtinholnidchblaaGreatDoor
def nms (p : ByteArray) : Option (List ByteArray) := (spl p.data.toList).map fun l => l.map tx
theorem map_tx_inj : ∀ {l m : List (List UInt8)}, l.map tx = m.map tx → l = m
 | [], [], _ => rfl
 | [], y :: m, h => by cases h
 | x :: l, [], h => by cases h
 | x :: l, y :: m, h => by
  simp only [List.map_cons, List.cons.injEq] at h
  rw [tx_inj h.1, map_tx_inj h.2]
theorem nms_ok (p : ByteArray) : NmsOk (nms p) := by
 intro ns h n hn
 unfold nms at h
 cases hs : spl p.data.toList with
 | none => rw [hs] at h; cases h
 | some l =>
  rw [hs] at h
  cases h
  obtain ⟨x, hx, rfl⟩ := List.mem_map.1 hn
  rw [data_tx]
  exact arP_all (spl_arP hs) hx
theorem witN_map (l m : List (List UInt8)) : witN (l.map tx) (m.map tx) = (decide (m.length ≤ l.length) && (l.take m.length == m)) := by
 unfold witN
 rw [List.length_map, List.length_map, ← List.map_take]
 congr 1
 by_cases h : l.take m.length = m
 ·rw [decide_eq_true (by rw [h]), h]; exact (beq_self_eq_true m).symm
 ·have h1 : ¬ (l.take m.length).map tx = m.map tx := fun e => h (map_tx_inj e)
  rw [decide_eq_false h1]
  exact (beq_eq_false_iff_ne.2 h).symm
theorem wit_names {p q : ByteArray} {ns ms : List ByteArray} (hp : nms p = some ns) (hq : nms q = some ms) : wit p.data.toList q.data.toList = witN ns ms := by
 unfold nms at hp hq
 cases hs : spl p.data.toList with
 | none => rw [hs] at hp; cases hp
 | some l =>
  cases ht : spl q.data.toList with
  | none => rw [ht] at hq; cases hq
  | some m =>
   rw [hs] at hp; rw [ht] at hq
   cases hp
   cases hq
   rw [wit_eq hs ht, witN_map]
theorem join_glue (b : UInt8) {L : List (List UInt8)} (h : L ≠ []) : Lib.join (glue [b] L) [47] = b :: Lib.join L [47] := by
 cases L with
 | nil => exact absurd rfl h
 | cons x r => simp only [glue, Lib.join_cons, List.cons_append, List.nil_append]
theorem join_nils {L : List (List UInt8)} (h : L ≠ []) : Lib.join ([] :: L) [47] = 47 :: Lib.join L [47] := by
 cases L with
 | nil => exact absurd rfl h
 | cons x r => simp [Lib.join_cons, Lib.joinTail]
theorem join_pcs : ∀ r : List UInt8, Lib.join (pcs r) [47] = r
 | [] => by simp [pcs, Lib.join_cons, Lib.joinTail]
 | b :: r => by
  unfold pcs
  split
  ·rename_i h
   rw [join_nils (pcs_ne r), join_pcs r, h]
  ·rw [join_glue b (pcs_ne r), join_pcs r]
theorem spl_text {p : List UInt8} {l : List (List UInt8)} (h : spl p = some l) : p = 47 :: Lib.join l [47] := by
 cases p with
 | nil => cases h
 | cons b r =>
  rw [spl] at h
  split at h
  ·rename_i hb
   split at h
   ·rename_i hr
    cases h
    rw [hb, hr, Lib.join_nil]
   ·split at h
    ·cases h
     rw [hb, join_pcs]
    ·cases h
  ·cases h
theorem nms_inj {p q : ByteArray} {ns : List ByteArray} (hp : nms p = some ns) (hq : nms q = some ns) : p = q := by
 unfold nms at hp hq
 cases hs : spl p.data.toList with
 | none => rw [hs] at hp; cases hp
 | some l =>
  cases ht : spl q.data.toList with
  | none => rw [ht] at hq; cases hq
  | some m =>
   rw [hs] at hp; rw [ht] at hq; simp only [Option.map_some, Option.some.injEq] at hp hq; have e : l = m := map_tx_inj (hp.trans hq.symm); have h1 := spl_text hs; have h2 := spl_text ht; rw [e, ← h2] at h1; have := congrArg tx h1
   rwa [tx_data, tx_data] at this
theorem nms_root {p : ByteArray} : nms p = some [] ↔ p = tx [47] := by
 constructor
 ·intro h
  exact nms_inj h (by simp [nms, data_tx, spl])
 ·rintro rfl
  simp [nms, data_tx, spl]
end Go.Proofs.YtinholnidchblaaGreatDoor
namespace Go.Proofs.YtinholnidchblaaGreatDoor
open Go.RowKit
theorem Rgt.le {f : Nat → Nc} {n : Nat} (h : Rgt (ndL f n)) : 1 ≤ n ∧ n ≤ 56 := by
 have h1 := h.pos
 have h2 := h.few
 rw [ndL_len] at h1 h2
 exact ⟨h1, h2⟩
theorem Rgt.at {f : Nat → Nc} {n i : Nat} (h : Rgt (ndL f n)) (hi : i < n) : (fileOk (f i).nd ∧ 1 ≤ (f i).l ∧ (f i).l ≤ 200) ∨ dirOk n (f i).nd := by
 have := h.node i (by rw [ndL_len]; exact hi)
 rw [nat_ndL hi, ndL_len] at this
 exact this
theorem Rgt.ents {f : Nat → Nc} {n i : Nat} (h : Rgt (ndL f n)) (hi : i < n) : (f i).e.length ≤ 64 ∧ ∀ y ∈ (f i).e, 1 ≤ y.i ∧ y.i < n ∧ nmB y.s.data.toList = true := by
 rcases h.at hi with ⟨h1, _⟩ | h1
 ·have h2 : (f i).e = [] := h1.2.1
  rw [h2]
  exact ⟨by simp, fun y hy => by cases hy⟩
 ·exact ⟨h1.2.2.1, fun y hy => ⟨(h1.2.2.2.1 y hy).2.1, (h1.2.2.2.1 y hy).2.2, (h1.2.2.2.1 y hy).1⟩⟩
theorem Rgt.kid {f : Nat → Nc} {n i k : Nat} {s : ByteArray} (h : Rgt (ndL f n)) (hi : i < n) (hf : fnd (f i).e s = some k) : 1 ≤ k ∧ k < n := by
 obtain ⟨y, hy, rfl⟩ := List.mem_map.1 (fnd_mem hf)
 have := (h.ents hi).2 y hy
 unfold inoN
 omega
theorem entV_none {E : List En} {s : ByteArray} (h : fnd E s = none) : entV E s = .tuple #[.int .i64 0, .bool false] := by
 unfold fnd at h
 unfold entV
 split at h
 ·cases h
 ·rename_i hh
  rw [if_neg hh]
theorem entV_some {E : List En} {s : ByteArray} {k : Nat} (h : fnd E s = some k) (h0 : ∀ y ∈ E, 1 ≤ y.i) : entV E s = .tuple #[.int .i64 (k : Int), .bool true] := by
 unfold fnd at h
 unfold entV
 split at h
 ·rename_i hh
  rw [if_pos hh]
  have := h0 _ (eat_mem (ehas_lt' hh))
  have e := Option.some.inj h
  unfold inoN at e
  have e2 : (eat E (efix E s)).i = (k : Int) := by omega
  rw [e2]
 ·cases h
def ThrE : Except Int Nat → Ending
 | .ok k => .returned (.int .i64 k)
 | .error x => .panicked [pe x]
theorem nms_none {s : ByteArray} (h : spl s.data.toList = none) : nms s = none := by rw [nms, h]; rfl
theorem nms_some {s : ByteArray} {L : List (List UInt8)} (h : spl s.data.toList = some L) : nms s = some (L.map tx) := by rw [nms, h]; rfl
def NamV (B : Nat) (o : Option (List (List UInt8))) (e : Ending) (w' : World) : Prop :=
 match o with
 | none => e = .panicked [pe 20]
 | some L => ∃ v, e = .returned v ∧ OwnT w' B v L.length L
theorem namesOf_any (s : ByteArray) (w : World) (hs : s.size < 4294967281) : Calls Tryz.prog 81 #[.string s] w fun e w' => NamV w.heap.size (spl s.data.toList) e w' ∧ Below w.heap.size w w' := by
 have hc := split_any s w hs
 cases ho : spl s.data.toList with
 | none =>
  rw [ho] at hc
  go_enter Tryz.func81, Tryz.ntmps81
  go_wp2_with fail
  refine hc.mono ?_
  rintro e w1 ⟨h1, hb⟩
  obtain rfl : e = _ := h1
  clear hc ho
  go_wp2_with fail
  refine (refuse_yes 20 _).mono ?_
  rintro e w2 ⟨rfl, rfl⟩
  go_wp2_with fail
  exact ⟨rfl, rfl, hb⟩
 | some L =>
  rw [ho] at hc
  go_enter Tryz.func81, Tryz.ntmps81
  go_wp2_with fail
  refine hc.mono ?_
  rintro e w1 ⟨⟨v, rfl, hv⟩, hb⟩
  clear hc ho
  have HV := qH hv
  have HB := qH hb
  clear hv hb
  go_wp2_with fail
  refine (refuse_no 0 _).mono ?_
  rintro e w2 ⟨rfl, rfl⟩
  go_wp2_with fail
  go_ret
  exact ⟨⟨_, rfl, HV.out⟩, HB.out⟩
section
variable {w : World} {wb n c : Nat} {na : Option Addr} {f : Nat → Nc}
theorem wlk_step {f : Nat → Nc} {n p k j : Nat} {L : List (List UInt8)} (hp : p < n) (hj : j < L.length) (hd : isD (f p).nd = true) (hf : fnd (f p).e (tx (tat L j)) = some k) :
  wlk (ndL f n) p ((L.drop j).map tx) = wlk (ndL f n) k ((L.drop (j + 1)).map tx) := by
 have e : L.drop j = tat L j :: L.drop (j + 1) := by
  rw [List.drop_eq_getElem_cons hj]; simp [tat, List.getD, hj]
 rw [e, List.map_cons]
 exact wlk_yes (by rw [nat_ndL hp]; exact hd) (by rw [nat_ndL hp]; exact hf)
theorem wlk_stepN {f : Nat → Nc} {n p j : Nat} {L : List (List UInt8)} (hp : p < n) (hj : j < L.length) (hd : isD (f p).nd = true) (hf : fnd (f p).e (tx (tat L j)) = none) :
  wlk (ndL f n) p ((L.drop j).map tx) = .error 21 := by
 have e : L.drop j = tat L j :: L.drop (j + 1) := by
  rw [List.drop_eq_getElem_cons hj]; simp [tat, List.getD, hj]
 rw [e, List.map_cons]
 exact wlk_none (by rw [nat_ndL hp]; exact hd) (by rw [nat_ndL hp]; exact hf)
theorem wlk_stepF {f : Nat → Nc} {n p j : Nat} {L : List (List UInt8)} (hp : p < n) (hj : j < L.length) (hd : isD (f p).nd = false) :
  wlk (ndL f n) p ((L.drop j).map tx) = .error 22 := by
 have e : L.drop j = tat L j :: L.drop (j + 1) := by
  rw [List.drop_eq_getElem_cons hj]; simp [tat, List.getD, hj]
 rw [e, List.map_cons]
 exact wlk_file (by rw [nat_ndL hp]; exact hd)
theorem through_any (h : Wr w wb na n c f) (ht : Rgt (ndL f n)) (a : Option Addr) (m cc : Nat) (L : List (List UInt8)) (hL : Sts w a m L) (hm : m ≤ 1000000) :
  Calls Tryz.prog 80 #[.pointer (some ⟨wb, 0, none⟩), .slice a m cc] w fun e w' => e = ThrE (wlk (ndL f n) 0 (L.map tx)) ∧ Below w.heap.size w w' := by
 have hl := hL.len
 subst hl
 have HT := qH ht
 have hn := qH ht.le
 clear ht
 go_enter Tryz.func80, Tryz.ntmps80
 go_wp2_with fail
 go_loopw [5, 7, 8, 9, 12] (fun v5 _ _ _ v wr => ∃ k p : Nat, k ≤ L.length ∧ v = .int .i64 k ∧ v5 = .int .i64 p ∧ p < n ∧ Below w.heap.size w wr ∧ wlk (ndL f n) 0 (L.map tx) = wlk (ndL f n) p ((L.drop k).map tx)) (fun _ _ _ _ v _ => L.length - (RowKit.intOf v).toNat)
 case atStart => exact ⟨0, 0, by omega, rfl, rfl, hn.out.1, Below.refl _ _, rfl⟩
 case round =>
  obtain ⟨k, p, hk, rfl, rfl, hp, hB, hw⟩ := hrel
  have HB := qH hB
  have HW := qH hw
  clear hw
  by_cases hlt : k < L.length
  ·obtain ⟨g, o, rfl, l1, c1⟩ := hL.at (by omega)
   have k0 : (0 : Int) ≤ (k : Int) := by omega
   have k1 : (k : Int) < (L.length : Int) := by omega
   have x1 := (hB.cell (p := ⟨g, o + k, none⟩) l1).trans (c1 k hlt); have hwr := h.next hB; have hn2 := hn.out.2; have hi := isDir_any hwr hp (by omega); have hm2 := (HT.out.ents hp).1
   have hen := fun (w' : World) (h' : Wr w' wb na n c f) => entry_any h' hp (by omega) (tx (tat L k)) (by omega)
   have HWR := qH hwr; have hp1 := qH (fun y hy => ((HT.out.ents hp).2 y hy).1); clear hL c1 hB h hm2 hn2 hwr l1
   cases hd : isD (f p).nd with
   | false =>
    rw [hd] at hi; have hres := qH (HW.out.trans (wlk_stepF hp hlt hd)); clear hen hp1; go_wp2_with fail; refine hi.mono ?_; rintro e w1 ⟨rfl, hb1⟩; have HB1 := qH (HB.out.trans (hb1.mono HB.out.size)); clear hi hb1; go_wp2_with fail; refine (refuse_yes 22 _).mono ?_; rintro e w2 ⟨rfl, rfl⟩; go_wp2_with fail
    exact ⟨rfl, by rw [hres.out]; rfl, HB1.out⟩
   | true =>
    rw [hd] at hi
    cases hf : fnd (f p).e (tx (tat L k)) with
    | none =>
     have hres := qH (HW.out.trans (wlk_stepN hp hlt hd hf)); have hv := entV_none hf; rw [hv] at hen; clear hp1; go_wp2_with fail; refine hi.mono ?_; rintro e w1 ⟨rfl, hb1⟩; have HB1 := qH (HB.out.trans (hb1.mono HB.out.size)); have hen1 := hen _ (HWR.out.next hb1); have x2 := (hb1.cell (p := ⟨g, o + k, none⟩) (World.block_lt_of_cell? _ _ x1)).trans x1; clear hi hb1 x1 hen; go_wp2_with fail; refine (refuse_no 22 _).mono ?_; rintro e w2 ⟨rfl, rfl⟩; go_wp2_with fail; refine hen1.mono ?_; rintro e w3 ⟨rfl, hb3⟩; have HB3 := qH (HB1.out.trans (hb3.mono HB1.out.size)); clear hen1 hb3 x2; go_wp2_with fail; refine (refuse_yes 21 _).mono ?_; rintro e w4 ⟨rfl, rfl⟩; go_wp2_with fail
     exact ⟨rfl, by rw [hres.out]; rfl, HB3.out⟩
    | some j =>
     have hres := qH (HW.out.trans (wlk_step hp hlt hd hf)); have hj := qH (HT.out.kid hp hf); have hv := entV_some hf hp1.out; rw [hv] at hen; clear hp1; go_wp2_with fail; refine hi.mono ?_; rintro e w1 ⟨rfl, hb1⟩; have HB1 := qH (HB.out.trans (hb1.mono HB.out.size)); have hen1 := hen _ (HWR.out.next hb1); have x2 := (hb1.cell (p := ⟨g, o + k, none⟩) (World.block_lt_of_cell? _ _ x1)).trans x1; clear hi hb1 x1 hen; go_wp2_with fail; refine (refuse_no 22 _).mono ?_; rintro e w2 ⟨rfl, rfl⟩; go_wp2_with fail; refine hen1.mono ?_; rintro e w3 ⟨rfl, hb3⟩; have HB3 := qH (HB1.out.trans (hb3.mono HB1.out.size)); clear hen1 hb3 x2; go_wp2_with fail; refine (refuse_no 21 _).mono ?_; rintro e w4 ⟨rfl, rfl⟩; go_wp2_with fail
     go_roundw
     case rel => exact ⟨k + 1, j, by omega, by go_num, rfl, hj.out.2, HB3.out, hres.out⟩
     case measure => simp [RowKit.intOf]; omega
  ·obtain rfl : k = L.length := by omega
   clear h hL hB; go_wp2_with fail; go_ret; refine ⟨?_, HB.out⟩; rw [HW.out, List.drop_length]
   rfl
end
end Go.Proofs.YtinholnidchblaaGreatDoor
