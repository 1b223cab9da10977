/-
  The document's Load, in plain words, by what its reader has read.
-/
import Derived.Test.YtegcjpocdfmpfaaUak
import Derived.Test.YtegcjpocdfmpfaaUag
import Derived.Test.YtegcjpocdfmpfaaUai
import Derived.Test.YtegcjpocdfmpfaaUaj
import Derived.WalkLawsBesides
set_option linter.unusedVariables false
set_option linter.unusedSimpArgs false
set_option maxRecDepth 100000
set_option maxHeartbeats 16000000
namespace Go.Proofs.Ytegcjpocdfmpfaa
open Go.RowKit

section
variable {N : Int} {blk : Int → Option (List Int)}
/-- What Load comes to. -/
def ldR (N : Int) (blk : Int → Option (List Int)) (root : Int) : Except Int (List Nd × List Int) := run N blk (loadP N root) []
end
/-- Nodes of the call's own. -/
def nwL (f : Nat → Nw) (n : Nat) : List Value := (List.range n).flatMap fun i => (nwC (f i)).toList
theorem nwL_len (f : Nat → Nw) (n : Nat) : (nwL f n).length = n * 5 := by
  induction n with
  | zero => rfl
  | succ n ih =>
    unfold nwL at ih ⊢
    rw [List.range_succ, List.flatMap_append, List.length_append, ih]
    simp [nwC]
    omega
theorem nwL_at (f : Nat → Nw) {n i j : Nat} (hi : i < n) (hj : j < 5) : (nwL f n)[i * 5 + j]? = (nwC (f i))[j]? := by
  induction n with
  | zero => omega
  | succ n ih =>
    have e : nwL f (n + 1) = nwL f n ++ (nwC (f n)).toList := by
      unfold nwL
      rw [List.range_succ, List.flatMap_append]
      simp
    rw [e]
    by_cases h : i = n
    · subst h
      rw [List.getElem?_append_right (by rw [nwL_len]; omega), nwL_len, show i * 5 + j - i * 5 = j by omega, Array.getElem?_toList]
    · rw [List.getElem?_append_left (by rw [nwL_len]; omega)]
      exact ih (by omega)
def snN (f : Nat → Nw) (n : Nat) (x : Nw) : Nat → Nw := fun i => if i = n then x else f i
theorem nwL_snoc (f : Nat → Nw) (n : Nat) (x : Nw) : nwL (snN f n x) (n + 1) = nwL f n ++ (nwC x).toList := by
  unfold nwL
  rw [List.range_succ, List.flatMap_append]
  congr 1
  · rw [List.flatMap_def, List.flatMap_def]
    congr 1
    apply List.map_congr_left
    intro i hi
    have := List.mem_range.1 hi
    rw [snN, if_neg (by omega)]
  · simp [snN]
structure OwL (w : World) (B : Nat) (v : Value) (n : Nat) (f : Nat → Nw) : Prop where
  row : w.ownsRow B 83 5 v n (nwL f n)
  each : ∀ i, i < n → NwOk w (f i)
  apart : ∀ i, i < n → ∀ y, (f i).a = some y → v.ownBlock ≠ some y.block ∧ y.block < w.heap.size
theorem ownL_none (w : World) (B : Nat) (hB : B ≤ w.heap.size) (f : Nat → Nw) : OwL (w.alloc (.cells #[] 83)) B (.slice (some ⟨w.heap.size, 0, none⟩) 0 0) 0 f :=
  ⟨World.ownsRow_lit w #[] 0 hB (Nat.zero_le _) rfl, fun i hi => by omega, fun i hi => by omega⟩
theorem NwOk.turn {M : Nat → Prop} {w w' : World} {x : Nw} (h : NwOk w x) (ht : Turn M w w') (hm : ∀ y, x.a = some y → ¬ M y.block) : NwOk w' x := ⟨h.ins.turn ht hm, h.nil, h.max⟩
theorem NwOk.next {w w' : World} {x : Nw} (h : NwOk w x) (hb : Below w.heap.size w w') : NwOk w' x := ⟨h.ins.next hb, h.nil, h.max⟩
theorem OwL.turn {M : Nat → Prop} {w w' : World} {B : Nat} {v : Value} {n : Nat} {f : Nat → Nw} (h : OwL w B v n f) (ht : Turn M w w') (hv : ∀ j, v.ownBlock = some j → ¬ M j) (hm : ∀ i, i < n → ∀ y, (f i).a = some y → ¬ M y.block) : OwL w' B v n f := by
  refine ⟨⟨h.row.1, ?_⟩, fun i hi => (h.each i hi).turn ht (hm i hi), fun i hi y e => ⟨(h.apart i hi y e).1, Nat.lt_of_lt_of_le (h.apart i hi y e).2 ht.size⟩⟩
  rcases h.row.2 with h1 | ⟨g, cap, cur, rfl, hb, hg, r⟩
  · exact .inl h1
  · exact .inr ⟨g, cap, cur, rfl, hb, (ht.block g (lt_of_block hg) (hv g rfl)).trans hg, r⟩
theorem OwL.next {w w' : World} {B : Nat} {v : Value} {n : Nat} {f : Nat → Nw} (h : OwL w B v n f) (hb : Below w.heap.size w w') : OwL w' B v n f := h.turn (M := fun _ => False) (Turn.of_below hb) (fun j e h => h) (fun i hi y e h => h)
theorem OwL.nws {w : World} {B : Nat} {v : Value} {n : Nat} {f : Nat → Nw} (h : OwL w B v n f) : ∃ a c, v = .slice a n c ∧ NwsAt w a n f ∧ n ≤ c ∧ (∀ x, a = some x → B ≤ x.block ∧ x.block < w.heap.size) := by
  rcases h.row.2 with ⟨rfl, h0⟩ | ⟨g, cap, cur, rfl, hb, hg, hnc, hm, hsz, htake⟩
  · subst h0
    exact ⟨none, 0, rfl, .inl rfl, Nat.le_refl _, (fun x hx => by cases hx)⟩
  · refine ⟨some ⟨g, 0, none⟩, cap, rfl, .inr ⟨g, 0, rfl, lt_of_block hg, fun i hi => ?_⟩, hnc, fun x hx => by cases hx; exact ⟨hb, lt_of_block hg⟩⟩
    have c := fun (j : Nat) (hj : j < 5) => (h.row.cellAt (i * 5 + j) (by omega)).trans (nwL_at f hi hj)
    have e := h.each i hi
    refine ⟨?_, ?_, ?_, ?_, ?_, e.ins, e.nil, e.max⟩
    · rw [Nat.zero_add]; exact c 0 (by decide)
    · rw [Nat.zero_add]; exact c 1 (by decide)
    · rw [Nat.zero_add]; exact c 2 (by decide)
    · rw [Nat.zero_add]; exact c 3 (by decide)
    · rw [Nat.zero_add]; exact c 4 (by decide)
theorem infoN : (Try.prog.info? 83).map (fun i => (i.zero, i.size, i.bytes)) = some (some (nwV noN), 5, 56) := by kernel_rfl
/-- 'append(list, n)'. -/
theorem wpList_apN {w : World} {ops : Array Oper} {rest : List Oper} {o : Oper} {a : Act} {Q : Exit → Act → World → Prop} (hgd : o.guard = none) (s x : Operand)
    (ho : o.op = .call { callee := .builtin .append, args := #[s, x], argTypes := #[24, 24] })
    (B : Nat) (v : Value) (n : Nat) (f : Nat → Nw) (hs : a.eval s = v) (hown : OwL w B v n f) (g : Nat) (hx : a.eval x = .slice (some ⟨g, 0, none⟩) 1 1) (z : Nw) (hz : NwOk w z) (hza : ∀ y, z.a = some y → v.ownBlock ≠ some y.block ∧ y.block < w.heap.size)
    {t : TypeId} (hg : w.heap[g]? = some (.cells (nwC z) t (0, 0))) (hn : n + 1 ≤ 1000000) (hB : B ≤ w.heap.size)
    (h : ∀ v' w', OwL w' B v' (n + 1) (snN f n z) → w.grownBy w' v.ownBlock → (v'.ownBlock = v.ownBlock ∨ v'.ownBlock = some w.heap.size) → wpList Try.prog ops Q rest (a.put o.dst v') w') : wpList Try.prog ops Q (o :: rest) a w := by
  obtain ⟨i0, hi, hz0, hz1, hz2⟩ := info_parts infoN
  obtain ⟨v', w', hr, h2, h3, _, h5⟩ := run_append_own_at (P := Try.prog) w B 24 o.type 83 i0 (nwV noN) 5 56 Try.underlying24 hi hz0 hz1 hz2 rfl (by decide) v n _ hown.row ⟨g, 0, none⟩ 1 1 (nwC z).toList rfl
    (World.news_of_block hg) (fun u hu => by
      simp [nwC] at hu
      rcases hu with rfl | rfl | rfl | rfl | rfl <;> rfl) (by unfold maxLen; omega) (by omega) hB
  refine wpList_plain hgd fun K hK => ?_
  unfold Oper.wp execOp
  simp only [ho, resolve, invoke, builtin, Sem.run_bind, Sem.run_pure, Result.andThen_ok, List.map_toArray, List.map_cons, List.map_nil, hs, hx, hr]
  have ht : Turn (fun j => v.ownBlock = some j) w w' := Turn.of_grown h3 (fun b e => e)
  refine hK _ _ (h v' w' ⟨by rw [nwL_snoc]; exact h2, fun i hi => ?_, fun i hi y e => ?_⟩ h3 h5)
  · by_cases h1 : i = n
    · rw [snN, if_pos h1]
      exact hz.turn ht (fun y e h' => (hza y e).1 h')
    · rw [snN, if_neg h1]
      exact (hown.each i (by omega)).turn ht (fun y e h' => (hown.apart i (by omega) y e).1 h')
  · have hy : v.ownBlock ≠ some y.block ∧ y.block < w.heap.size := by
      by_cases h1 : i = n
      · rw [snN, if_pos h1] at e
        exact hza y e
      · rw [snN, if_neg h1] at e
        exact hown.apart i (by omega) y e
    refine ⟨?_, Nat.lt_of_lt_of_le hy.2 ht.size⟩
    rcases h5 with e5 | e5
    · rw [e5]; exact hy.1
    · rw [e5]
      intro e6
      simp only [Option.some.injEq] at e6
      omega

/-- What Load answers. -/
def LdP (w : World) (R : Except Int (List Nd × List Int)) (e : Ending) (w' : World) : Prop :=
  Below w.heap.size w w' ∧ match R with
    | .error er => e = .returned (.tuple #[.slice none 0 0, .slice none 0 0, .int .i64 er])
    | .ok (L, l) => ∃ a n c a2 c2 f, e = .returned (.tuple #[.slice a n c, .slice a2 l.length c2, .int .i64 0]) ∧ NwsAt w' a n f ∧ (∀ i, i < n → NwOk w' (f i)) ∧ lnL f n = L ∧ Ins w' a2 l.length l
section
variable {w wr w' : World} {S : Sv} {g : Nat} {v v' : Value} {m m' : Nat} {st st' : St} {gb bc : Nat} {ch : List Int} {u u' : Value} {n : Nat} {f : Nat → Nw}
end
theorem lnL_snoc (f : Nat → Nw) (n : Nat) (x : Nw) : lnL (snN f n x) (n + 1) = lnL f n ++ [x.nd] := by
  unfold lnL
  rw [List.range_succ, List.map_append]
  congr 1
  · apply List.map_congr_left
    intro i hi
    have := List.mem_range.1 hi
    rw [snN, if_neg (by omega)]
  · simp [snN]
section
variable {N : Int} {blk : Int → Option (List Int)} {CH : List Int}
end

/-- A panic of an error. -/
abbrev panE (er : Int) : Ending := .panicked [{ v := .iface 44 (.int .i64 er), recovered := false }]
theorem refuse_no (w : World) : Calls Try.prog 106 #[.bool false] w fun e w' => e = .returned (.tuple #[]) ∧ w = w' := by
  go_enter Try.func106, Try.ntmps106
  go_wp2
  go_end0
  exact ⟨rfl, rfl⟩
theorem refuse_yes (w : World) : Calls Try.prog 106 #[.bool true] w fun e w' => e = panE 15 ∧ w = w' := by
  go_enter Try.func106, Try.ntmps106
  go_wp2
  exact ⟨rfl, rfl, rfl⟩
abbrev Sv.M (S : Sv) : Int := adO S.d S.r S.s
/-- A loader that has read l; K: the boxes that are not to be touched. -/
structure LdK (w : World) (K : Nat → Prop) (S : Sv) (g : Nat) (v : Value) (l : List Int) (h : Bool) : Prop where
  row : w.heap[g]? = some (.cells #[.int .i64 S.d, .int .i64 S.r, .int .i64 S.s, .iface 41 (.pointer (some ⟨S.p, 0, none⟩)), v, .bool h] 110 (0, 0))
  own : OwnI w S.w0.heap.size v l.length l
  sto : Sto S.w0 S.p S.A S.nA S.cA S.Dt S.nD S.cD S.ks S.f
  bel : Below S.w0.heap.size S.w0 w
  gB : S.w0.heap.size ≤ g
  vg : v.ownBlock ≠ some g
  kk : ∀ j, K j → j < w.heap.size ∧ j ≠ g ∧ v.ownBlock ≠ some j
section
variable {w w' : World} {K K' : Nat → Prop} {S : Sv} {g : Nat} {v v' : Value} {l l' : List Int} {h h' : Bool}
theorem LdK.turn {M : Nat → Prop} (H : LdK w K S g v l h) (ht : Turn M w w') (hm : ∀ j, M j → ¬ Tv g v j ∧ S.w0.heap.size ≤ j) : LdK w' K S g v l h :=
  ⟨(ht.block _ (lt_of_block H.row) (fun e => (hm g e).1 (.inl rfl))).trans H.row, H.own.turn ht (fun j e h' => (hm j h').1 (.inr e)), H.sto, H.bel.trans (ht.below H.bel.size fun j hj => (hm j hj).2), H.gB, H.vg, fun j e => ⟨Nat.lt_of_lt_of_le (H.kk j e).1 ht.size, (H.kk j e).2⟩⟩
theorem LdK.next (H : LdK w K S g v l h) (hb : Below w.heap.size w w') : LdK w' K S g v l h := H.turn (M := fun _ => False) (Turn.of_below hb) (fun j hj => hj.elim)
theorem LdK.sub (H : LdK w K S g v l h) (hk : ∀ j, K' j → K j) : LdK w K' S g v l h := ⟨H.row, H.own, H.sto, H.bel, H.gB, H.vg, fun j e => H.kk j (hk j e)⟩
/-- A new box. -/
theorem LdK.box (H : LdK w K S g v l h) (hb : Below w.heap.size w w') {b : Nat} (h1 : w.heap.size ≤ b) (h2 : b < w'.heap.size) (hk : ∀ j, K' j → K j ∨ j = b) : LdK w' K' S g v l h := by
  have H' := H.next hb
  refine ⟨H'.row, H'.own, H'.sto, H'.bel, H'.gB, H'.vg, fun j e => ?_⟩
  rcases hk j e with e | e
  · exact H'.kk j e
  · have hg := lt_of_block H.row
    refine ⟨by omega, by omega, fun e2 => ?_⟩
    have := (World.ownsRow.lt H.own j e2).2
    omega
/-- A box of one's own is turned. -/
theorem LdK.set {b : Nat} (H : LdK w K S g v l h) (ht : Turn (· = b) w w') (hb : K b) (hB : S.w0.heap.size ≤ b) : LdK w' K S g v l h :=
  H.turn ht (fun j e => by
    subst e
    exact ⟨fun h' => by
      rcases h' with e | e
      · exact (H.kk j hb).2.1 e
      · exact (H.kk j hb).2.2 e, hB⟩)
theorem LdK.keep (H : LdK w K S g v l h) (ht : Turn (Tv g v) w w') {b : Nat} {o : Obj} (hb : K b) (hr : w.heap[b]? = some o) : w'.heap[b]? = some o :=
  (ht.block b (lt_of_block hr) (fun h' => by
    rcases h' with e | e
    · exact (H.kk b hb).2.1 e
    · exact (H.kk b hb).2.2 e)).trans hr
theorem LdK.cells (H : LdK w K S g v l h) : (w.cell? ⟨g, 0, none⟩ = some (.int .i64 S.d) ∧ w.cell? ⟨g, 1, none⟩ = some (.int .i64 S.r) ∧ w.cell? ⟨g, 2, none⟩ = some (.int .i64 S.s)) ∧ w.cell? ⟨g, 3, none⟩ = some (.iface 41 (.pointer (some ⟨S.p, 0, none⟩))) ∧ w.cell? ⟨g, 4, none⟩ = some v ∧ w.cell? ⟨g, 5, none⟩ = some (.bool h) ∧ g < w.heap.size :=
  have c := fun i => cell_of_row w g i _ _ (0, 0) H.row
  ⟨⟨c 0, c 1, c 2⟩, c 3, c 4, c 5, lt_of_block H.row⟩
theorem LdK.free (H : LdK w K S g v l h) (i : Nat) : w.frozen? ⟨g, i, none⟩ = false := frozen_of_row w g i _ _ H.row
theorem LdK.stoN (H : LdK w K S g v l h) : Sto w S.p S.A S.nA S.cA S.Dt S.nD S.cD S.ks S.f := H.sto.next H.bel
theorem LdK.form (H : LdK w K S g v l h) : ∃ a c, v = .slice a l.length c := H.own.form
/-- One more address is read. -/
theorem LdK.grow {q : Int} (H : LdK w K S g v l h) (hO : OwnI w' S.w0.heap.size v' (l.length + 1) (l ++ [q])) (hG : w.grownBy w' v.ownBlock) (hv : v'.ownBlock = v.ownBlock ∨ v'.ownBlock = some w.heap.size) :
    (w'.cell? ⟨g, 4, none⟩ = some v ∧ w'.frozen? ⟨g, 4, none⟩ = false ∧ g < w'.heap.size) ∧ LdK (w'.setCell ⟨g, 4, none⟩ v') K S g v' (l ++ [q]) h ∧ Turn (Tv g v) w (w'.setCell ⟨g, 4, none⟩ v') := by
  have ht : Turn (fun j => v.ownBlock = some j) w w' := Turn.of_grown hG (fun b e => e)
  have hg : ¬ v.ownBlock = some g := H.vg
  have hrow := (ht.block g (lt_of_block H.row) hg).trans H.row
  have hlow : ∀ j, v.ownBlock = some j → S.w0.heap.size ≤ j := fun j e => (World.ownsRow.lt H.own j e).1
  have ht2 : Turn (· = g) w' (w'.setCell ⟨g, 4, none⟩ v') := Turn.setCell (M := (· = g)) (a := ⟨g, 4, none⟩) w' rfl _
  have hlt := lt_of_block H.row
  have hv2 : v'.ownBlock ≠ some g := by
    rcases hv with e | e
    · rw [e]; exact H.vg
    · rw [e]
      intro e2
      simp only [Option.some.injEq] at e2
      omega
  refine ⟨⟨?_, frozen_of_row w' g 4 _ _ hrow, lt_of_block hrow⟩, ⟨?_, ?_, H.sto, (H.bel.trans (ht.below H.bel.size hlow)).trans (ht2.below (H.bel.trans (ht.below H.bel.size hlow)).size fun j hj => by rw [hj]; exact H.gB), H.gB, hv2, fun j e => ?_⟩, (ht.mono fun j e => .inr e).trans (ht2.mono fun j e => .inl e)⟩
  · rw [cell_of_row w' g 4 _ _ (0, 0) hrow]; rfl
  · rw [heap_setCell_same w' g 4 _ _ _ hrow]; rfl
  · have := hO.turn ht2 (fun j e h' => by subst h'; exact hv2 e)
    simpa using this
  · have h1 := H.kk j e
    refine ⟨Nat.lt_of_lt_of_le h1.1 (Nat.le_trans ht.size ht2.size), h1.2.1, fun e2 => ?_⟩
    rcases hv with e3 | e3
    · exact h1.2.2 (by rw [← e3]; exact e2)
    · rw [e3] at e2
      simp only [Option.some.injEq] at e2
      omega
end
/-- What a call of the loader's leaves. -/
def PrP {α : Type} (w : World) (K : Nat → Prop) (S : Sv) (g : Nat) (v : Value) (R : Except Int (α × List Int)) (hf : α → Bool) (val : α → Value → World → Prop) (e : Ending) (w' : World) : Prop :=
  Turn (Tv g v) w w' ∧ match R with
    | .error er => e = panE er
    | .ok (x, l) => ∃ u v', e = .returned u ∧ val x u w' ∧ LdK w' K S g v' l (hf x) ∧ (∀ j, v'.ownBlock = some j → v.ownBlock = some j ∨ w.heap.size ≤ j)
theorem PrP.err {α : Type} {w : World} {K : Nat → Prop} {S : Sv} {g : Nat} {v : Value} {R : Except Int (α × List Int)} {hf : α → Bool} {val : α → Value → World → Prop} {w' : World} {er : Int} (hR : R = .error er) (ht : Turn (Tv g v) w w') : PrP w K S g v R hf val (panE er) w' := by
  subst hR
  exact ⟨ht, rfl⟩
theorem PrP.ok {α : Type} {w : World} {K : Nat → Prop} {S : Sv} {g : Nat} {v : Value} {R : Except Int (α × List Int)} {hf : α → Bool} {val : α → Value → World → Prop} {w' : World} {x : α} {l : List Int} {u v' : Value} (hR : R = .ok (x, l)) (ht : Turn (Tv g v) w w') (hv : val x u w') (hL : LdK w' K S g v' l (hf x)) (ho : ∀ j, v'.ownBlock = some j → v.ownBlock = some j ∨ w.heap.size ≤ j) : PrP w K S g v R hf val (.returned u) w' := by
  subst hR
  exact ⟨ht, u, v', rfl, hv, hL, ho⟩
def valB (w : World) (z : List Int) (u : Value) (w' : World) : Prop := ∃ a c, u = .slice a 56 c ∧ Pin w' a 56 c z ∧ ∀ y, a = some y → w.heap.size ≤ y.block ∧ y.block < w'.heap.size
theorem run_nilI (p : Addr) (w : World) : (binOp .eql 107 (.iface 41 (.pointer (some p))) .nilIface).run Try.prog w = .ok (.bool false) w := by kernel_rfl
theorem pblock_any {K : Nat → Prop} (S : Sv) (g : Nat) (v : Value) (l : List Int) (hh : Bool) (q : Int) (w : World) (H : LdK w K S g v l hh) (hm : l.length ≤ 1000000) :
    Calls Try.prog 134 #[.pointer (some ⟨g, 0, none⟩), .int .i64 q] w (PrP w K S g v (run S.M S.blk (.rd q .ret) l) (fun _ => hh) (valB w)) := by
  have hnil := run_nilI
  obtain ⟨⟨c0, c1, c2⟩, c3, c4, c5, lt0⟩ := H.cells
  have hA := paddr_any S.d S.r S.s q w
  obtain ⟨t, ht⟩ : ∃ t, t = isA S.M q := ⟨_, rfl⟩
  rw [show isA (adO S.d S.r S.s) q = isA S.M q from rfl, ← ht] at hA
  have HH := Lib.hid H
  have HL := Lib.hid hm
  have HT := Lib.hid ht
  have HA := Lib.hid hA
  clear H hm ht hA c4 c5
  cases t with
  | false =>
    have HE := Lib.hid (show run S.M S.blk (.rd q .ret) l = .error 15 by rw [run, ← HT.out]; rfl)
    go_enter Try.func134, Try.ntmps134
    go_wp2_with (fail)
    refine HA.out.mono ?_
    rintro e w2 ⟨rfl, hb⟩
    have HB2 := Lib.hid hb
    clear hb
    go_wp2_with (fail)
    refine (refuse_yes w2).mono ?_
    rintro e w3 ⟨rfl, rfl⟩
    exact ⟨rfl, PrP.err HE.out (Turn.of_below HB2.out)⟩
  | true =>
    go_enter Try.func134, Try.ntmps134
    go_wp2_with (fail)
    refine HA.out.mono ?_
    rintro e w2 ⟨rfl, hb⟩
    have HB2 := Lib.hid hb
    have HH2 := Lib.hid (HH.out.next hb)
    clear hb c0 c1 c2 c3
    have c3 := HH2.out.cells.2.1
    go_wp2_with (fail)
    refine (refuse_no w2).mono ?_
    rintro e w3 ⟨rfl, rfl⟩
    go_wp2_with (fail)
    refine (rblk_any q HH2.out.stoN).mono ?_
    rintro e w3 ⟨hno, hyes, hb3⟩
    have HH3 := Lib.hid (HH2.out.next hb3)
    have HB3 := Lib.hid (HB2.out.trans (hb3.mono HB2.out.size))
    clear hb3 c3
    cases hbk : blkF S.ks S.f q with
    | none =>
      obtain rfl := hno hbk
      have HE := Lib.hid (show run S.M S.blk (.rd q .ret) l = .error 14 by rw [run, ← HT.out, show S.blk q = none from hbk]; rfl)
      clear hno hyes hbk
      go_wp2_with (fail)
      exact ⟨rfl, PrP.err HE.out (Turn.of_below HB3.out)⟩
    | some z =>
      obtain ⟨a, n, c, rfl, hp, hnew⟩ := hyes z hbk
      by_cases hz : z.length = 56
      · have hn : n = 56 := by rw [← hp.len]; exact hz
        subst hn
        have HE := Lib.hid (show run S.M S.blk (.rd q .ret) l = .ok (z, l ++ [q]) by rw [run, ← HT.out, show S.blk q = some z from hbk]; simp only [hz, if_true]; rfl)
        have HP := Lib.hid hp
        have HNW := Lib.hid (show ∀ y, a = some y → w2.heap.size ≤ y.block ∧ y.block < w3.heap.size from fun y e => ⟨hnew y e, by
          obtain ⟨b', o', e', hlt', _⟩ := hp.at (by omega)
          rw [e'] at e
          cases e
          exact hlt'⟩)
        clear hno hyes hbk hnew hp
        have d2 : ((56 : Int) != 56) = false := rfl
        go_wp2_with (fail)
        refine (refuse_no w3).mono ?_
        rintro e w4 ⟨rfl, rfl⟩
        obtain ⟨va, vc, rfl⟩ := HH3.out.form
        have hbx : Below w3.heap.size w3 (w3.alloc (.cells #[.int .i64 q] 3)) := (Below.refl _ _).alloc (Nat.le_refl _) _
        have HH4 := Lib.hid (HH3.out.next hbx)
        have HP4 := Lib.hid (HP.out.next hbx)
        have HB4 := Lib.hid hbx
        have c4 := HH3.out.cells.2.2.1
        clear hbx d2
        go_wp2_with (at_builtin; go_must (refine wpList_apq rfl (.tmp 43) (.tmp 45) rfl S.w0.heap.size _ l.length l rfl HH4.out.own (some ⟨w3.heap.size, 0, none⟩) 1 1 [q] rfl (ins_one' q rfl) (fun h => by cases h) (by have := HL.out; omega) HH4.out.bel.size ?_); intro v5 w5 hO5 hG5 hv5; obtain ⟨⟨c4n, f4n, ltn⟩, hR6, hT6⟩ := HH4.out.grow hO5 hG5 hv5; obtain ⟨a5, c5n, rfl⟩ := hO5.form; have HR6 := Lib.hid hR6; have HT6 := Lib.hid hT6; have HV := Lib.hid hv5; clear hR6 hT6 hO5 hG5 hv5 c4)
        go_ret
        have hT : Turn (Tv g (.slice va l.length vc)) w (w5.setCell ⟨g, 4, none⟩ (.slice a5 (l.length + 1) c5n)) := (Turn.of_below (HB3.out.trans (HB4.out.mono HB3.out.size))).trans HT6.out
        refine PrP.ok HE.out hT ⟨a, c, rfl, HP4.out.turn HT6.out (fun y e h' => ?_), fun y e => ⟨?_, ?_⟩⟩ HR6.out (fun j hj => ?_)
        · have h1 := (HNW.out y e).1
          rcases h' with h2 | h2
          · have := lt_of_block HH2.out.row; omega
          · have := (World.ownsRow.lt HH2.out.own _ h2).2; omega
        · exact Nat.le_trans HB2.out.size (HNW.out y e).1
        · exact Nat.lt_of_lt_of_le (HNW.out y e).2 (Nat.le_trans HB4.out.size HT6.out.size)
        · rcases HV.out with e | e
          · exact .inl (e.symm.trans hj)
          · refine .inr ?_
            rw [e] at hj
            have h2 := Option.some.inj hj
            rw [← h2]
            exact Nat.le_trans HB3.out.size HB4.out.size
      · have d2 : ((n : Int) != 56) = true := by
          have := hp.len
          simp
          omega
        have HE := Lib.hid (show run S.M S.blk (.rd q .ret) l = .error 15 by rw [run, ← HT.out, show S.blk q = some z from hbk]; simp only [hz, if_false]; rfl)
        clear hno hyes hbk hnew hp hz
        go_wp2_with (fail)
        refine (refuse_yes w3).mono ?_
        rintro e w4 ⟨rfl, rfl⟩
        exact ⟨rfl, PrP.err HE.out (Turn.of_below HB3.out)⟩
end Go.Proofs.Ytegcjpocdfmpfaa
