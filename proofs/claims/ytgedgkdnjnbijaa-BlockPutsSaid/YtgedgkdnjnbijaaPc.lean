/-
  Pieces: slices of bytes with their room, and rows of them.
-/
import Derived.Test.YtgedgkdnjnbijaaSame
import Derived.Test.YtgedgkdnjnbijaaCopy
namespace Go.Proofs.Ytgedgkdnjnbijaa
open Go.RowKit

/-- The slice at a, of n bytes and room c, holds zs. -/
structure Pin (w : World) (a : Option Addr) (n c : Nat) (zs : List Int) : Prop where
  bys : Bys w a n zs
  nil : a = none → n = 0 ∧ c = 0
  cap : n ≤ c
  max : c ≤ 9223372036854775807
theorem Pin.below {w w' : World} {a : Option Addr} {n c : Nat} {zs : List Int} (h : Pin w a n c zs) {B : Nat} (hB : w.heap.size ≤ B) (hb : Below B w w') : Pin w' a n c zs := ⟨h.bys.below hB hb, h.nil, h.cap, h.max⟩
theorem Pin.next {w w' : World} {a : Option Addr} {n c : Nat} {zs : List Int} (h : Pin w a n c zs) (hb : Below w.heap.size w w') : Pin w' a n c zs := h.below (Nat.le_refl _) hb
theorem Pin.drewN {w : World} {a : Option Addr} {n c : Nat} {zs : List Int} (h : Pin w a n c zs) (q : Nat) : Pin (w.drewN q) a n c zs := ⟨h.bys.drewN q, h.nil, h.cap, h.max⟩
theorem Pin.alloc {w : World} {a : Option Addr} {n c : Nat} {zs : List Int} (h : Pin w a n c zs) (o : Obj) : Pin (w.alloc o) a n c zs := ⟨h.bys.alloc o, h.nil, h.cap, h.max⟩
theorem Pin.zero (w : World) : Pin w none 0 0 [] := ⟨Bys.none _, fun _ => ⟨rfl, rfl⟩, Nat.le_refl _, by omega⟩
theorem Pin.len {w : World} {a : Option Addr} {n c : Nat} {zs : List Int} (h : Pin w a n c zs) : zs.length = n := h.bys.len
theorem Blk.pin {w : World} {g c : Nat} {zs : List Int} (h : Blk w g zs) (hs : AllB zs) {n : Nat} (hn : zs.length = n) (hc : n ≤ c) (hm : c ≤ 9223372036854775807) : Pin w (some ⟨g, 0, none⟩) n c zs :=
  ⟨h.bysn hs hn, (fun h => by cases h), hc, hm⟩
theorem Own.pin {w : World} {B : Nat} {v : Value} {n : Nat} {zs : List Int} (h : Own w B v n zs) : ∃ a c, v = .slice a n c ∧ Pin w a n c zs ∧ (∀ x, a = some x → B ≤ x.block ∧ x.block < w.heap.size) := by
  obtain ⟨a, c, rfl, h1, h2, h3⟩ := h.form
  refine ⟨a, c, rfl, ⟨h2, h1, ?_, ?_⟩, h3⟩
  · rcases h.row.2 with ⟨e, _⟩ | ⟨g, cap, cur, e, hb, hg, hnc, hm, hsz, htake⟩
    · cases e; exact Nat.le_refl _
    · cases e; exact hnc
  · rcases h.row.2 with ⟨e, _⟩ | ⟨g, cap, cur, e, hb, hg, hnc, hm, hsz, htake⟩
    · cases e; omega
    · cases e; unfold maxLen at hm; omega
/-- The front of a piece, and what is behind it. -/
theorem Pin.front {w : World} {a : Option Addr} {n c : Nat} {zs : List Int} (h : Pin w a n c zs) {k : Nat} (hk : k ≤ n) (h0 : a = none → k = 0) : Pin w a k c (zs.take k) :=
  ⟨h.bys.front hk, fun e => ⟨h0 e, (h.nil e).2⟩, Nat.le_trans hk h.cap, h.max⟩
theorem Pin.rest {w : World} {b off n c : Nat} {zs : List Int} (h : Pin w (some ⟨b, off, none⟩) n c zs) (k : Nat) : Pin w (some ⟨b, off + k, none⟩) (n - k) (c - k) (zs.drop k) :=
  ⟨h.bys.rest k, (fun e => by cases e), Nat.sub_le_sub_right h.cap k, Nat.le_trans (Nat.sub_le _ _) h.max⟩
theorem Pin.at {w : World} {a : Option Addr} {n c : Nat} {zs : List Int} (h : Pin w a n c zs) (hn : 0 < n) : ∃ b off, a = some ⟨b, off, none⟩ ∧ b < w.heap.size ∧ ∀ i, i < n → w.cell? ⟨b, off + i, none⟩ = some (.int .u8 (byt zs i)) := by
  rcases h.bys.place with h0 | ⟨b, off, e, hlt, hc⟩
  · omega
  · exact ⟨b, off, e, hlt, hc⟩

/-- A piece that a call answers. -/
def RetS (w0 : World) (zs : List Int) (e : Ending) (w' : World) : Prop := ∃ a n c, e = .returned (.slice a n c) ∧ Pin w' a n c zs ∧ Below w0.heap.size w0 w'
/-- A piece and a bool. -/
def RetT (w0 : World) (zs : List Int) (ok : Bool) (e : Ending) (w' : World) : Prop := ∃ a n c, e = .returned (.tuple #[.slice a n c, .bool ok]) ∧ Pin w' a n c zs ∧ Below w0.heap.size w0 w'
/-- A piece that is new, and a bool. -/
def RetN (w0 : World) (zs : List Int) (ok : Bool) (e : Ending) (w' : World) : Prop :=
  ∃ a n c, e = .returned (.tuple #[.slice a n c, .bool ok]) ∧ Pin w' a n c zs ∧ (∀ x, a = some x → w0.heap.size ≤ x.block) ∧ Below w0.heap.size w0 w'
theorem RetN.t {w0 w' : World} {zs : List Int} {ok : Bool} {e : Ending} (h : RetN w0 zs ok e w') : RetT w0 zs ok e w' := by
  obtain ⟨a, n, c, he, hp, _, hb⟩ := h
  exact ⟨a, n, c, he, hp, hb⟩
theorem RetS.nil (w : World) : RetS w [] (.returned (.slice none 0 0)) w := ⟨_, _, _, rfl, Pin.zero _, Below.refl _ _⟩
theorem RetT.nil (w : World) (ok : Bool) : RetT w [] ok (.returned (.tuple #[.slice none 0 0, .bool ok])) w := ⟨_, _, _, rfl, Pin.zero _, Below.refl _ _⟩
theorem RetS.own {w0 w' : World} {v : Value} {n : Nat} {zs : List Int} (h : Own w' w0.heap.size v n zs) (hb : Below w0.heap.size w0 w') : RetS w0 zs (.returned v) w' := by
  obtain ⟨a, c, rfl, hp, _⟩ := h.pin
  exact ⟨_, _, _, rfl, hp, hb⟩
theorem RetT.own {w0 w' : World} {v : Value} {n : Nat} {zs : List Int} {ok : Bool} (h : Own w' w0.heap.size v n zs) (hb : Below w0.heap.size w0 w') : RetT w0 zs ok (.returned (.tuple #[v, .bool ok])) w' := by
  obtain ⟨a, c, rfl, hp, _⟩ := h.pin
  exact ⟨_, _, _, rfl, hp, hb⟩

/-- A slice of the call's own that holds zs. -/
def ConPost (w : World) (zs : List Int) (e : Ending) (w' : World) : Prop := ∃ v, e = .returned v ∧ Own w' w.heap.size v zs.length zs ∧ Below w.heap.size w w'
theorem Own.setLow {w : World} {B : Nat} {v : Value} {n : Nat} {zs : List Int} (h : Own w B v n zs) {p : Addr} (hp : p.block < B) (u : Value) : Own (w.setCell p u) B v n zs := ⟨ownsRow_setCell_below h.row hp u, h.small⟩

theorem Bys.grown {w w' : World} {a : Option Addr} {n : Nat} {zs : List Int} (h : Bys w a n zs) {row : Option Nat} (hg : w.grownBy w' row) (hne : n = 0 ∨ ∀ x, a = some x → some x.block ≠ row) : Bys w' a n zs := by
  refine ⟨h.len, h.small, ?_⟩
  rcases h.place with h0 | ⟨b, off, e, hlt, hc⟩
  · exact .inl h0
  rcases hne with h0 | hne
  · exact .inl h0
  exact .inr ⟨b, off, e, Nat.lt_of_lt_of_le hlt hg.size, fun i hi => hg.cell (hc i hi) (hne ⟨b, off, Option.none⟩ e)⟩
theorem Own.lo {w : World} {B : Nat} {a : Option Addr} {n c m : Nat} {zs : List Int} (h : Own w B (.slice a n c) m zs) : ∀ x, a = some x → B ≤ x.block ∧ x.block < w.heap.size := by
  obtain ⟨a', c', e, _, h3⟩ := h.pin
  cases e
  exact h3
/-- 'append(s, x...)', s of the call's own, x any slice of bytes; what lies in other blocks is as it was. -/
theorem wpList_ap2 {w : World} {ops : Array Oper} {rest : List Oper} {o : Oper} {a : Act} {Q : Exit → Act → World → Prop} (hgd : o.guard = none) (s x : Operand)
    (ho : o.op = .call { callee := .builtin .append, args := #[s, x], argTypes := #[36, 36] })
    (B : Nat) (v : Value) (n : Nat) (zs : List Int) (hs : a.eval s = v) (hown : Own w B v n zs) (p : Addr) (m c : Nat) (ys : List Int) (hx : a.eval x = .slice (some p) m c) (hy : Bys w (some p) m ys)
    (hnm : n + m ≤ 140737488355328) (hB : B ≤ w.heap.size) (w0 : World) (hb : Below B w0 w)
    (h : ∀ v' w', Own w' B v' (n + m) (zs ++ ys) → Below B w0 w' → (∀ a n zs, Bys w a n zs → (n = 0 ∨ ∀ x, a = some x → some x.block ≠ v.ownBlock) → Bys w' a n zs) → wpList Try.prog ops Q rest (a.put o.dst v') w') : wpList Try.prog ops Q (o :: rest) a w := by
  obtain ⟨i0, hi, hz0, hz1, hz2⟩ := info_parts info8
  refine wpList_append_own w hgd s x 36 ho B 5 i0 (.int .u8 0) 1 1 Try.underlying36 hi hz0 hz1 hz2 rfl (by decide) v n _ hs hown.row p m c (ys.map (Value.int .u8)) hx (by simp [hy.len]) ?_ ?_ (by unfold maxLen; omega) (by omega) hB ?_
  · intro j u hj
    have hjm : j < m := by
      rcases Nat.lt_or_ge j m with h | h
      · exact h
      · rw [List.getElem?_eq_none (by simp [hy.len]; omega)] at hj; cases hj
    have hv : u = .int .u8 (byt ys j) := by
      rw [List.getElem?_map] at hj
      have hjx : j < ys.length := by rw [hy.len]; exact hjm
      simp [List.getElem?_eq_getElem hjx] at hj
      simp [byt, List.getD, hjx, hj]
    rcases hy.place with h0 | ⟨b, off, hp, _, hcell⟩
    · omega
    · cases hp
      rw [hv, show (⟨b, off, none⟩ : Addr).add j = ⟨b, off + j, none⟩ by unfold Addr.add; split <;> simp_all]
      exact hcell j hjm
  · intro u hu
    obtain ⟨z, _, rfl⟩ := List.mem_map.1 hu
    rfl
  · intro v' w' hown' hgrow _
    exact h v' w' ⟨by rw [List.map_append]; exact hown', hown.small.app hy.small⟩ (hb.grown hgrow hB fun k hk => (hown.row.lt k hk).1) fun a n zs hp hne => hp.grown hgrow hne

/-- A piece, as a row has it. -/
structure Pc where
  a : Option Addr
  n : Nat
  c : Nat
  zs : List Int
instance : Inhabited Pc := ⟨⟨none, 0, 0, []⟩⟩
/-- A row of n pieces. -/
structure Rws (w : World) (a : Option Addr) (n : Nat) (f : Nat → Pc) : Prop where
  place : n = 0 ∨ ∃ b off, a = some ⟨b, off, none⟩ ∧ b < w.heap.size ∧ ∀ i, i < n → w.cell? ⟨b, off + i, none⟩ = some (.slice (f i).a (f i).n (f i).c)
  each : ∀ i, i < n → Pin w (f i).a (f i).n (f i).c (f i).zs
theorem Rws.below {w w' : World} {a : Option Addr} {n : Nat} {f : Nat → Pc} (h : Rws w a n f) {B : Nat} (hB : w.heap.size ≤ B) (hb : Below B w w') : Rws w' a n f := by
  refine ⟨?_, fun i hi => (h.each i hi).below hB hb⟩
  rcases h.place with h0 | ⟨b, off, e, hlt, hc⟩
  · exact .inl h0
  · exact .inr ⟨b, off, e, Nat.lt_of_lt_of_le hlt hb.size, fun i hi => (hb.cell (p := ⟨b, off + i, none⟩) (by show b < B; omega)).trans (hc i hi)⟩
theorem Rws.next {w w' : World} {a : Option Addr} {n : Nat} {f : Nat → Pc} (h : Rws w a n f) (hb : Below w.heap.size w w') : Rws w' a n f := h.below (Nat.le_refl _) hb
theorem Rws.drewN {w : World} {a : Option Addr} {n : Nat} {f : Nat → Pc} (h : Rws w a n f) (q : Nat) : Rws (w.drewN q) a n f := h.next (below_drewN (Below.refl _ _) q)
theorem Rws.at {w : World} {a : Option Addr} {n : Nat} {f : Nat → Pc} (h : Rws w a n f) {i : Nat} (hi : i < n) :
    ∃ b off x k c zs, a = some ⟨b, off, none⟩ ∧ b < w.heap.size ∧ w.cell? ⟨b, off + i, none⟩ = some (.slice x k c) ∧ Pin w x k c zs ∧ (f i).zs = zs ∧ (f i).n = k := by
  rcases h.place with h0 | ⟨b, off, e, hlt, hc⟩
  · omega
  · exact ⟨b, off, _, _, _, _, e, hlt, hc i hi, h.each i hi, rfl, rfl⟩

/-- What the first k pieces hold, one behind the other. -/
def catL (f : Nat → Pc) : Nat → List Int
  | 0 => []
  | k + 1 => catL f k ++ (f k).zs
theorem catL_le (f : Nat → Pc) {k n : Nat} (h : k ≤ n) : (catL f k).length ≤ (catL f n).length := by
  induction n with
  | zero => rw [Nat.le_zero.1 h]; exact Nat.le_refl _
  | succ n ih =>
    rcases Nat.lt_or_ge k (n + 1) with h1 | h1
    · exact Nat.le_trans (ih (by omega)) (by simp [catL])
    · rw [Nat.le_antisymm h h1]; exact Nat.le_refl _
theorem catL_len (f : Nat → Pc) (k : Nat) : (catL f (k + 1)).length = (catL f k).length + (f k).zs.length := by simp [catL]

end Go.Proofs.Ytgedgkdnjnbijaa
