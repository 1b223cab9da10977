/-
  Slices of entries: what they hold, and how one of the call's own grows, is cut and is written in place.
-/
import Derived.Test.YtiedapiepklhlaaDp
import Derived.Test.YtiedapiepklhlaaRet
import Derived.Laws.CopyRow
namespace Go.Proofs.Ytiedapiepklhlaa
open Go.RowKit
set_option linter.unusedVariables false
set_option linter.unusedSimpArgs false

/-- An entry's cells. -/
def ecl (x : En) : List Value := [.string x.s, .int .i64 x.i]
/-- An entry by value. -/
def env (x : En) : Value := .agg #[.string x.s, .int .i64 x.i]
theorem ecl_one (x : En) : ∀ v ∈ ecl x, v.oneCell' = true := by
  intro v hv
  simp [ecl] at hv
  rcases hv with rfl | rfl <;> rfl
theorem eflat_len (L : List En) : (L.flatMap ecl).length = L.length * 2 := by
  induction L with
  | nil => rfl
  | cons x L ih => simp [ecl, ih]; omega
theorem eflat_one (L : List En) : ∀ v ∈ L.flatMap ecl, v.oneCell' = true := fun v hv => by
  obtain ⟨x, _, hx⟩ := List.mem_flatMap.1 hv
  exact ecl_one x v hx
theorem eflat_get : ∀ (L : List En) (k : Nat), k < L.length → (L.flatMap ecl)[k * 2]? = some (.string (eat L k).s) ∧ (L.flatMap ecl)[k * 2 + 1]? = some (.int .i64 (eat L k).i)
  | [], k, h => by simp at h
  | y :: L, 0, h => ⟨rfl, rfl⟩
  | y :: L, k + 1, h => by
    have := eflat_get L k (by simpa using h)
    have e : (k + 1) * 2 = k * 2 + 2 := by omega
    rw [e]
    exact this
theorem eflat_odd {L : List En} {j : Nat} {v : Value} (h : (L.flatMap ecl)[j]? = some v) : ∃ k, k < L.length ∧ ((j = k * 2 ∧ v = .string (eat L k).s) ∨ (j = k * 2 + 1 ∧ v = .int .i64 (eat L k).i)) := by
  have hj : j < L.length * 2 := by
    rcases Nat.lt_or_ge j (L.length * 2) with h1 | h1
    · exact h1
    · rw [List.getElem?_eq_none (by rw [eflat_len]; exact h1)] at h; cases h
  obtain ⟨h1, h2⟩ := eflat_get L (j / 2) (by omega)
  refine ⟨j / 2, by omega, ?_⟩
  rcases (by omega : j = j / 2 * 2 ∨ j = j / 2 * 2 + 1) with e | e
  · refine .inl ⟨e, ?_⟩
    rw [e, h1] at h
    exact (Option.some.inj h).symm
  · refine .inr ⟨e, ?_⟩
    rw [e, h2] at h
    exact (Option.some.inj h).symm
/-- The slice at a, of n entries, holds L. -/
structure Ens (w : World) (a : Option Addr) (n : Nat) (L : List En) : Prop where
  len : L.length = n
  place : n = 0 ∨ ∃ b off, a = some ⟨b, off, none⟩ ∧ b < w.heap.size ∧ ∀ i, i < n → w.cell? ⟨b, off + i * 2, none⟩ = some (.string (eat L i).s) ∧ w.cell? ⟨b, off + i * 2 + 1, none⟩ = some (.int .i64 (eat L i).i)
theorem Ens.below {w w' : World} {a : Option Addr} {n : Nat} {L : List En} (h : Ens w a n L) {B : Nat} (hB : w.heap.size ≤ B) (hb : Below B w w') : Ens w' a n L := by
  refine ⟨h.len, ?_⟩
  rcases h.place with h0 | ⟨b, off, ha, hlt, hc⟩
  · exact .inl h0
  · exact .inr ⟨b, off, ha, Nat.lt_of_lt_of_le hlt hb.size, fun i hi => ⟨(hb.cell (p := ⟨b, off + i * 2, none⟩) (by show b < B; omega)).trans (hc i hi).1, (hb.cell (p := ⟨b, off + i * 2 + 1, none⟩) (by show b < B; omega)).trans (hc i hi).2⟩⟩
theorem Ens.next {w w' : World} {a : Option Addr} {n : Nat} {L : List En} (h : Ens w a n L) (hb : Below w.heap.size w w') : Ens w' a n L := h.below (Nat.le_refl _) hb
theorem Ens.alloc {w : World} {a : Option Addr} {n : Nat} {L : List En} (h : Ens w a n L) (o : Obj) : Ens (w.alloc o) a n L := h.next ((Below.refl _ _).alloc (Nat.le_refl _) o)
theorem Ens.drewN {w : World} {a : Option Addr} {n : Nat} {L : List En} (h : Ens w a n L) (q : Nat) : Ens (w.drewN q) a n L := h.next (below_drewN (Below.refl _ _) q)
theorem Ens.at {w : World} {a : Option Addr} {n : Nat} {L : List En} (h : Ens w a n L) {i : Nat} (hi : i < n) : ∃ b off, a = some ⟨b, off, none⟩ ∧ b < w.heap.size ∧ w.cell? ⟨b, off + i * 2, none⟩ = some (.string (eat L i).s) ∧ w.cell? ⟨b, off + i * 2 + 1, none⟩ = some (.int .i64 (eat L i).i) := by
  rcases h.place with h0 | ⟨b, off, ha, hlt, hc⟩
  · omega
  · exact ⟨b, off, ha, hlt, hc i hi⟩
theorem ens_nil (w : World) (a : Option Addr) : Ens w a 0 [] := ⟨rfl, .inl rfl⟩
theorem eat_take {L : List En} {k i : Nat} (h : i < k) : eat (L.take k) i = eat L i := by simp [eat, List.getD, h]
theorem eat_drop {L : List En} {k i : Nat} : eat (L.drop k) i = eat L (k + i) := by simp [eat, List.getD]
theorem Ens.take {w : World} {a : Option Addr} {n k : Nat} {L : List En} (h : Ens w a n L) (hk : k ≤ n) : Ens w a k (L.take k) := by
  refine ⟨by rw [List.length_take, h.len]; omega, ?_⟩
  rcases h.place with h0 | ⟨b, off, e, hlt, hc⟩
  · exact .inl (by omega)
  · exact .inr ⟨b, off, e, hlt, fun i hi => by rw [eat_take hi]; exact hc i (by omega)⟩
theorem Ens.drop {w : World} {b off n k : Nat} {L : List En} (h : Ens w (some ⟨b, off, none⟩) n L) : Ens w (some ⟨b, off + k * 2, none⟩) (n - k) (L.drop k) := by
  refine ⟨by rw [List.length_drop, h.len], ?_⟩
  rcases h.place with h0 | ⟨b', off', e, hlt, hc⟩
  · exact .inl (by omega)
  · cases e
    refine .inr ⟨b, off + k * 2, rfl, hlt, fun i hi => ?_⟩
    rw [eat_drop, show off + k * 2 + i * 2 = off + (k + i) * 2 by omega]
    exact hc (k + i) (by omega)
theorem eat_ext {x y : List En} (hl : x.length = y.length) (h : ∀ i, i < x.length → eat x i = eat y i) : x = y := by
  apply List.ext_getElem hl
  intro i h1 h2
  have := h i h1
  simpa [eat, List.getD, h1, h2] using this
theorem add_e (b off m : Nat) : (⟨b, off, none⟩ : Addr).add m = ⟨b, off + m, none⟩ := by unfold Addr.add; split <;> simp_all
/-- Its cells, one by one. -/
theorem Ens.cells {w : World} {b off n : Nat} {L : List En} (h : Ens w (some ⟨b, off, none⟩) n L) : ∀ j u, (L.flatMap ecl)[j]? = some u → w.cell? ((⟨b, off, none⟩ : Addr).add j) = some u := by
  intro j u hj
  obtain ⟨k, hk, h1⟩ := eflat_odd hj
  rcases h.place with h0 | ⟨b', off', e, hlt, hc⟩
  · rw [h.len] at hk; omega
  · cases e
    obtain ⟨c1, c2⟩ := hc k (by rw [← h.len]; exact hk)
    rw [add_e]
    rcases h1 with ⟨rfl, rfl⟩ | ⟨rfl, rfl⟩
    · exact c1
    · exact c2
theorem infoE : (Try.prog.info? 36).map (fun i => (i.zero, i.size, i.bytes)) = some (some (.agg #[.string ByteArray.empty, .int .i64 0]), 2, 24) := by kernel_rfl

/-- A slice of entries of the call's own. -/
def OwnE (w : World) (B : Nat) (v : Value) (n : Nat) (L : List En) : Prop := w.ownsRow B 36 2 v n (L.flatMap ecl)
theorem OwnE.len {w : World} {B : Nat} {v : Value} {n : Nat} {L : List En} (h : OwnE w B v n L) : L.length = n := by
  have := h.1
  rw [eflat_len] at this
  omega
theorem OwnE.below {w w' : World} {B : Nat} {v : Value} {n : Nat} {L : List En} (h : OwnE w B v n L) {C : Nat} (hC : w.heap.size ≤ C) (hb : Below C w w') : OwnE w' B v n L :=
  h.kept (row := none) ⟨hb.os, hb.tape, hb.output, hb.size, fun k hk _ => hb.block k (by omega)⟩ (by cases v.ownBlock <;> simp)
theorem OwnE.next {w w' : World} {B : Nat} {v : Value} {n : Nat} {L : List En} (h : OwnE w B v n L) (hb : Below w.heap.size w w') : OwnE w' B v n L := h.below (Nat.le_refl _) hb
theorem OwnE.alloc {w : World} {B : Nat} {v : Value} {n : Nat} {L : List En} (h : OwnE w B v n L) (o : Obj) : OwnE (w.alloc o) B v n L := h.next ((Below.refl _ _).alloc (Nat.le_refl _) o)
theorem ownE_none (w : World) (B : Nat) (hB : B ≤ w.heap.size) : OwnE (w.alloc (.cells #[] 36)) B (.slice (some ⟨w.heap.size, 0, none⟩) 0 0) 0 [] := World.ownsRow_lit w #[] 0 hB (Nat.zero_le _) rfl
theorem ownE_nil (w : World) (B : Nat) : OwnE w B (.slice none 0 0) 0 [] := World.ownsRow_nil _ _ _ _
theorem OwnE.lower {w : World} {B C : Nat} {v : Value} {n : Nat} {L : List En} (h : OwnE w B v n L) (hC : C ≤ B) : OwnE w C v n L := by
  refine ⟨h.1, ?_⟩
  rcases h.2 with h0 | ⟨g, cap, cur, a, b, c⟩
  · exact .inl h0
  · exact .inr ⟨g, cap, cur, a, Nat.le_trans hC b, c⟩
theorem OwnE.setLow {w : World} {B : Nat} {v : Value} {n : Nat} {L : List En} (h : OwnE w B v n L) {p : Addr} (hp : p.block < B) (u : Value) : OwnE (w.setCell p u) B v n L := ownsRow_setCell_below h hp u
theorem OwnE.ens {w : World} {B : Nat} {v : Value} {n : Nat} {L : List En} (h : OwnE w B v n L) : ∃ a c, v = .slice a n c ∧ Ens w a n L ∧ n ≤ c ∧ c ≤ 9223372036854775807 ∧ (a = none → n = 0 ∧ c = 0) ∧ (∀ x, a = some x → B ≤ x.block ∧ x.block < w.heap.size) := by
  have hl := h.len
  rcases h.2 with ⟨rfl, rfl⟩ | ⟨g, cap, cur, rfl, hb, hg, hnc, hm, hsz, htake⟩
  · exact ⟨none, 0, rfl, ⟨hl, .inl rfl⟩, Nat.le_refl _, by omega, (fun _ => ⟨rfl, rfl⟩), (fun x hx => by cases hx)⟩
  · refine ⟨some ⟨g, 0, none⟩, cap, rfl, ⟨hl, .inr ⟨g, 0, rfl, lt_of_block hg, fun i hi => ?_⟩⟩, hnc, by unfold maxLen at hm; omega, (fun h => by cases h), fun x hx => by cases hx; exact ⟨hb, lt_of_block hg⟩⟩
    obtain ⟨h1, h2⟩ := eflat_get L i (by omega)
    have c1 := h.cells (g := g) rfl _ _ h1
    have c2 := h.cells (g := g) rfl _ _ h2
    rw [add_e] at c1 c2
    exact ⟨c1, c2⟩
/-- A literal of one entry. -/
theorem ens_one {w : World} {g : Nat} (x : ByteArray) (i : Int) (h : w.heap.size = g) : Ens (w.alloc (.cells #[.string x, .int .i64 i] 36 (0, 0))) (some ⟨g, 0, none⟩) 1 [⟨x, i⟩] := by
  subst h
  exact ⟨rfl, .inr ⟨_, 0, rfl, by simp, fun i hi => by
    rcases (by omega : i = 0) with rfl
    simp [eat]⟩⟩
/-- 'append(s, xs...)' of entries, s of the call's own. -/
theorem wpList_ape {w : World} {ops : Array Oper} {rest : List Oper} {o : Oper} {a : Act} {Q : Exit → Act → World → Prop} (hgd : o.guard = none) (s x : Operand)
    (ho : o.op = .call { callee := .builtin .append, args := #[s, x], argTypes := #[22, 22] })
    (B : Nat) (v : Value) (n : Nat) (L : List En) (hs : a.eval s = v) (hown : OwnE w B v n L) (ad : Option Addr) (m c : Nat) (M : List En) (hx : a.eval x = .slice ad m c) (hM : Ens w ad m M) (hnil : ad = none → m = 0 ∧ c = 0)
    (hn : n + m ≤ 1000000000000) (hB : B ≤ w.heap.size) (w0 : World) (hb : Below B w0 w)
    (h : ∀ v' w', OwnE w' B v' (n + m) (L ++ M) → Below B w0 w' → wpList Try.prog ops Q rest (a.put o.dst v') w') : wpList Try.prog ops Q (o :: rest) a w := by
  obtain ⟨i0, hi, hz0, hz1, hz2⟩ := info_parts infoE
  cases ad with
  | none =>
    obtain ⟨rfl, rfl⟩ := hnil rfl
    obtain rfl : M = [] := List.eq_nil_of_length_eq_zero hM.len
    exact wpList_append_own_none hgd s x 22 ho B 36 i0 2 Try.underlying22 hi v n _ hs hown hx (h v w (by simpa using hown) hb)
  | some p =>
    refine wpList_append_own w hgd s x 22 ho B 36 i0 _ 2 24 Try.underlying22 hi hz0 hz1 hz2 rfl (by decide) v n _ hs hown p m c (M.flatMap ecl) hx (by rw [eflat_len, hM.len]) ?_ (eflat_one M) (by unfold maxLen; omega) (by omega) hB ?_
    · rcases hM.place with h0 | ⟨b, off, e, _, _⟩
      · obtain rfl : M = [] := List.eq_nil_of_length_eq_zero (by rw [hM.len]; exact h0)
        intro j u hj
        simp at hj
      · cases e
        exact hM.cells
    · intro v' w' hown' hgrow _
      exact h v' w' (by unfold OwnE; rw [List.flatMap_append]; exact hown') (hb.grown hgrow hB fun k hk => (hown.lt k hk).1)
end Go.Proofs.Ytiedapiepklhlaa
