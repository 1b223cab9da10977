/-
  The document's Load, in plain words, by what its reader has read.
-/
import Derived.Test.YtegcjpocdfmpfaaVan
set_option linter.unusedVariables false
set_option linter.unusedSimpArgs false
set_option maxRecDepth 100000
set_option maxHeartbeats 16000000
namespace Go.Proofs.Ytegcjpocdfmpfaa
open Go.RowKit

section
variable {N : Int} {blk : Int → Option (List Int)}
theorem run_ndF (ino p : Int) (l : List Int) : run N blk (ndP N ino p) l = match ndF N blk (.ok l) ino p with
    | (.ok l', nd, h) => .ok ((nd, h), l')
    | (.error e, _, _) => .error e := by
  rw [run_nd]
  unfold ndF
  cases hs : stp N blk (.ok l) p with
  | error e => rfl
  | ok l1 =>
    simp only
    cases hg : okG (dat N blk (.ok l) p) with
    | false => rfl
    | true =>
      simp only [if_true]
      cases hn : ndT N blk (.ok l1) (dat N blk (.ok l) p) with
      | mk st r =>
        obtain ⟨A, h⟩ := r
        cases st with
        | ok l' => rfl
        | error e => rfl
theorem run_rdS {α : Type} (q : Int) (k : List Int → Rp α) (l : List Int) : run N blk (.rd q k) l = match stp N blk (.ok l) q with
    | .ok l' => run N blk (k (dat N blk (.ok l) q)) l'
    | .error e => .error e := by
  rw [run]
  unfold dat stp
  by_cases hA : isA N q = true
  · simp only [hA, if_true]
    cases hb : blk q with
    | none => rfl
    | some b =>
      by_cases h5 : b.length = 56
      · simp only [h5, if_true]; rfl
      · simp only [h5, if_false]
  · simp only [hA]; rfl
/-- Is it a root? -/
def rtO (b : List Int) : Bool := decide (getV b.length b 0 2 = 21074) && noughtB (b.drop 6)
/-- What Load comes to. -/
def ldR (N : Int) (blk : Int → Option (List Int)) (root : Int) : Except Int (List Nd × List Int) := run N blk (loadP N root) []
theorem run_ld (root : Int) : ldR N blk root = match stp N blk (.ok []) root with
    | .error e => .error e
    | .ok l1 => if rtO (dat N blk (.ok []) root) = true then (match stp N blk (.ok l1) (getV (dat N blk (.ok []) root).length (dat N blk (.ok []) root) 2 2) with
      | .error e => .error e
      | .ok l2 => match stp N blk (.ok l2) (getV (dat N blk (.ok []) root).length (dat N blk (.ok []) root) 4 2) with
        | .error e => .error e
        | .ok l3 => match run N blk (nsP N (pS N blk (.ok l1) (getV (dat N blk (.ok []) root).length (dat N blk (.ok []) root) 2 2) ++ pS N blk (.ok l2) (getV (dat N blk (.ok []) root).length (dat N blk (.ok []) root) 4 2)) 56 0 [] false) l3 with
          | .error e => .error e
          | .ok (q, l) => if (q.2 || !lrO N q.1) = true then .error 15 else .ok (q.1, l)) else .error 15 := by
  unfold ldR loadP
  rw [run_rdS]
  cases hs : stp N blk (.ok []) root with
  | error e => rfl
  | ok l1 =>
    simp only
    obtain ⟨b, hb⟩ : ∃ b, b = dat N blk (.ok []) root := ⟨_, rfl⟩
    rw [← hb]
    by_cases ho : getV b.length b 0 2 = 21074 ∧ noughtB (b.drop 6) = true
    · have ho2 : rtO b = true := by rw [rtO, decide_eq_true ho.1, ho.2]; rfl
      rw [if_pos ho, if_pos ho2, run_rdS]
      cases h2 : stp N blk (.ok l1) (getV b.length b 2 2) with
      | error e => rfl
      | ok l2 =>
        simp only
        rw [run_rdS]
        cases h3 : stp N blk (.ok l2) (getV b.length b 4 2) with
        | error e => rfl
        | ok l3 =>
          simp only
          rw [run_bind]
          have e1 : pS N blk (.ok l1) (getV b.length b 2 2) = gpL (dat N blk (.ok l1) (getV b.length b 2 2)) 28 := by unfold pS; rw [h2]
          have e2 : pS N blk (.ok l2) (getV b.length b 4 2) = gpL (dat N blk (.ok l2) (getV b.length b 4 2)) 28 := by unfold pS; rw [h3]
          rw [e1, e2]
          cases hr : run N blk (nsP N (gpL (dat N blk (.ok l1) (getV b.length b 2 2)) 28 ++ gpL (dat N blk (.ok l2) (getV b.length b 4 2)) 28) 56 0 [] false) l3 with
          | error e => rfl
          | ok x =>
            obtain ⟨q, l⟩ := x
            simp only
            cases hq : (q.2 || !lrO N q.1) with
            | true => rfl
            | false => rfl
    · have ho2 : rtO b = false := by
        rw [rtO]
        by_cases h1 : getV b.length b 0 2 = 21074
        · have : noughtB (b.drop 6) = false := by
            cases h2 : noughtB (b.drop 6) with
            | false => rfl
            | true => exact absurd ⟨h1, h2⟩ ho
          rw [this, Bool.and_false]
        · rw [decide_eq_false h1]; rfl
      rw [if_neg ho, if_neg (by rw [ho2]; decide)]
      rfl
end
/-- Nodes of the call's own. -/
def nwL (f : Nat → Nw) (n : Nat) : List Value := (List.range n).flatMap fun i => (nwC (f i)).toList
theorem nwL_len (f : Nat → Nw) (n : Nat) : (nwL f n).length = n * 5 := by
  induction n with
  | zero => rfl
  | succ n ih =>
    unfold nwL at ih ⊢
    rw [List.range_succ, List.flatMap_append, List.length_append, ih]
    simp [nwC]
    omega
theorem nwL_at (f : Nat → Nw) {n i j : Nat} (hi : i < n) (hj : j < 5) : (nwL f n)[i * 5 + j]? = (nwC (f i))[j]? := by
  induction n with
  | zero => omega
  | succ n ih =>
    have e : nwL f (n + 1) = nwL f n ++ (nwC (f n)).toList := by
      unfold nwL
      rw [List.range_succ, List.flatMap_append]
      simp
    rw [e]
    by_cases h : i = n
    · subst h
      rw [List.getElem?_append_right (by rw [nwL_len]; omega), nwL_len, show i * 5 + j - i * 5 = j by omega, Array.getElem?_toList]
    · rw [List.getElem?_append_left (by rw [nwL_len]; omega)]
      exact ih (by omega)
def snN (f : Nat → Nw) (n : Nat) (x : Nw) : Nat → Nw := fun i => if i = n then x else f i
theorem nwL_snoc (f : Nat → Nw) (n : Nat) (x : Nw) : nwL (snN f n x) (n + 1) = nwL f n ++ (nwC x).toList := by
  unfold nwL
  rw [List.range_succ, List.flatMap_append]
  congr 1
  · rw [List.flatMap_def, List.flatMap_def]
    congr 1
    apply List.map_congr_left
    intro i hi
    have := List.mem_range.1 hi
    rw [snN, if_neg (by omega)]
  · simp [snN]
structure OwL (w : World) (B : Nat) (v : Value) (n : Nat) (f : Nat → Nw) : Prop where
  row : w.ownsRow B 83 5 v n (nwL f n)
  each : ∀ i, i < n → NwOk w (f i)
  apart : ∀ i, i < n → ∀ y, (f i).a = some y → v.ownBlock ≠ some y.block ∧ y.block < w.heap.size
theorem ownL_none (w : World) (B : Nat) (hB : B ≤ w.heap.size) (f : Nat → Nw) : OwL (w.alloc (.cells #[] 83)) B (.slice (some ⟨w.heap.size, 0, none⟩) 0 0) 0 f :=
  ⟨World.ownsRow_lit w #[] 0 hB (Nat.zero_le _) rfl, fun i hi => by omega, fun i hi => by omega⟩
theorem NwOk.turn {M : Nat → Prop} {w w' : World} {x : Nw} (h : NwOk w x) (ht : Turn M w w') (hm : ∀ y, x.a = some y → ¬ M y.block) : NwOk w' x := ⟨h.ins.turn ht hm, h.nil, h.max⟩
theorem NwOk.next {w w' : World} {x : Nw} (h : NwOk w x) (hb : Below w.heap.size w w') : NwOk w' x := ⟨h.ins.next hb, h.nil, h.max⟩
theorem OwL.turn {M : Nat → Prop} {w w' : World} {B : Nat} {v : Value} {n : Nat} {f : Nat → Nw} (h : OwL w B v n f) (ht : Turn M w w') (hv : ∀ j, v.ownBlock = some j → ¬ M j) (hm : ∀ i, i < n → ∀ y, (f i).a = some y → ¬ M y.block) : OwL w' B v n f := by
  refine ⟨⟨h.row.1, ?_⟩, fun i hi => (h.each i hi).turn ht (hm i hi), fun i hi y e => ⟨(h.apart i hi y e).1, Nat.lt_of_lt_of_le (h.apart i hi y e).2 ht.size⟩⟩
  rcases h.row.2 with h1 | ⟨g, cap, cur, rfl, hb, hg, r⟩
  · exact .inl h1
  · exact .inr ⟨g, cap, cur, rfl, hb, (ht.block g (lt_of_block hg) (hv g rfl)).trans hg, r⟩
theorem OwL.next {w w' : World} {B : Nat} {v : Value} {n : Nat} {f : Nat → Nw} (h : OwL w B v n f) (hb : Below w.heap.size w w') : OwL w' B v n f := h.turn (M := fun _ => False) (Turn.of_below hb) (fun j e h => h) (fun i hi y e h => h)
theorem OwL.nws {w : World} {B : Nat} {v : Value} {n : Nat} {f : Nat → Nw} (h : OwL w B v n f) : ∃ a c, v = .slice a n c ∧ NwsAt w a n f ∧ n ≤ c ∧ (∀ x, a = some x → B ≤ x.block ∧ x.block < w.heap.size) := by
  rcases h.row.2 with ⟨rfl, h0⟩ | ⟨g, cap, cur, rfl, hb, hg, hnc, hm, hsz, htake⟩
  · subst h0
    exact ⟨none, 0, rfl, .inl rfl, Nat.le_refl _, (fun x hx => by cases hx)⟩
  · refine ⟨some ⟨g, 0, none⟩, cap, rfl, .inr ⟨g, 0, rfl, lt_of_block hg, fun i hi => ?_⟩, hnc, fun x hx => by cases hx; exact ⟨hb, lt_of_block hg⟩⟩
    have c := fun (j : Nat) (hj : j < 5) => (h.row.cellAt (i * 5 + j) (by omega)).trans (nwL_at f hi hj)
    have e := h.each i hi
    refine ⟨?_, ?_, ?_, ?_, ?_, e.ins, e.nil, e.max⟩
    · rw [Nat.zero_add]; exact c 0 (by decide)
    · rw [Nat.zero_add]; exact c 1 (by decide)
    · rw [Nat.zero_add]; exact c 2 (by decide)
    · rw [Nat.zero_add]; exact c 3 (by decide)
    · rw [Nat.zero_add]; exact c 4 (by decide)
theorem infoN : (Try.prog.info? 83).map (fun i => (i.zero, i.size, i.bytes)) = some (some (nwV noN), 5, 56) := by kernel_rfl
/-- 'append(list, n)'. -/
theorem wpList_apN {w : World} {ops : Array Oper} {rest : List Oper} {o : Oper} {a : Act} {Q : Exit → Act → World → Prop} (hgd : o.guard = none) (s x : Operand)
    (ho : o.op = .call { callee := .builtin .append, args := #[s, x], argTypes := #[24, 24] })
    (B : Nat) (v : Value) (n : Nat) (f : Nat → Nw) (hs : a.eval s = v) (hown : OwL w B v n f) (g : Nat) (hx : a.eval x = .slice (some ⟨g, 0, none⟩) 1 1) (z : Nw) (hz : NwOk w z) (hza : ∀ y, z.a = some y → v.ownBlock ≠ some y.block ∧ y.block < w.heap.size)
    {t : TypeId} (hg : w.heap[g]? = some (.cells (nwC z) t (0, 0))) (hn : n + 1 ≤ 1000000) (hB : B ≤ w.heap.size)
    (h : ∀ v' w', OwL w' B v' (n + 1) (snN f n z) → w.grownBy w' v.ownBlock → (v'.ownBlock = v.ownBlock ∨ v'.ownBlock = some w.heap.size) → wpList Try.prog ops Q rest (a.put o.dst v') w') : wpList Try.prog ops Q (o :: rest) a w := by
  obtain ⟨i0, hi, hz0, hz1, hz2⟩ := info_parts infoN
  obtain ⟨v', w', hr, h2, h3, _, h5⟩ := run_append_own_at (P := Try.prog) w B 24 o.type 83 i0 (nwV noN) 5 56 Try.underlying24 hi hz0 hz1 hz2 rfl (by decide) v n _ hown.row ⟨g, 0, none⟩ 1 1 (nwC z).toList rfl
    (World.news_of_block hg) (fun u hu => by
      simp [nwC] at hu
      rcases hu with rfl | rfl | rfl | rfl | rfl <;> rfl) (by unfold maxLen; omega) (by omega) hB
  refine wpList_plain hgd fun K hK => ?_
  unfold Oper.wp execOp
  simp only [ho, resolve, invoke, builtin, Sem.run_bind, Sem.run_pure, Result.andThen_ok, List.map_toArray, List.map_cons, List.map_nil, hs, hx, hr]
  have ht : Turn (fun j => v.ownBlock = some j) w w' := Turn.of_grown h3 (fun b e => e)
  refine hK _ _ (h v' w' ⟨by rw [nwL_snoc]; exact h2, fun i hi => ?_, fun i hi y e => ?_⟩ h3 h5)
  · by_cases h1 : i = n
    · rw [snN, if_pos h1]
      exact hz.turn ht (fun y e h' => (hza y e).1 h')
    · rw [snN, if_neg h1]
      exact (hown.each i (by omega)).turn ht (fun y e h' => (hown.apart i (by omega) y e).1 h')
  · have hy : v.ownBlock ≠ some y.block ∧ y.block < w.heap.size := by
      by_cases h1 : i = n
      · rw [snN, if_pos h1] at e
        exact hza y e
      · rw [snN, if_neg h1] at e
        exact hown.apart i (by omega) y e
    refine ⟨?_, Nat.lt_of_lt_of_le hy.2 ht.size⟩
    rcases h5 with e5 | e5
    · rw [e5]; exact hy.1
    · rw [e5]
      intro e6
      simp only [Option.some.injEq] at e6
      omega
end Go.Proofs.Ytegcjpocdfmpfaa
