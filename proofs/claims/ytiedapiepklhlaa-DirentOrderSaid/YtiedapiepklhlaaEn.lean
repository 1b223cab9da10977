/-
  Encode of the program and of the document, by contract.
-/
import Derived.Test.YtiedapiepklhlaaCu
import Derived.Test.YtiedapiepklhlaaFun
import Derived.Test.YtiedapiepklhlaaPc
import Derived.Lib.AppendStr
import Derived.Deep.AppendLies
namespace Go.Proofs.Ytiedapiepklhlaa
open Go.RowKit
set_option linter.unusedVariables false
set_option linter.unusedSimpArgs false

/-- Bytes, as the cells of a slice have them. -/
def bI (l : List UInt8) : List Int := l.map fun b => ((b.toNat : Nat) : Int)
theorem bI_len (l : List UInt8) : (bI l).length = l.length := by simp [bI]
theorem bI_all (l : List UInt8) : AllB (bI l) := fun z hz => by
  obtain ⟨b, _, rfl⟩ := List.mem_map.1 hz
  have := b.toNat_lt
  omega
theorem str_cells (s : ByteArray) : Lib.strCells s = (bI s.data.toList).map (Value.int .u8) := by
  unfold Lib.strCells bI
  rw [List.map_map]
  rfl
/-- An entry's bytes. -/
def encE (e : En) : List Int := [e.i, 0, (e.s.size : Int)] ++ bI e.s.data.toList
/-- Entries' bytes. -/
def encL (L : List En) : List Int := L.flatMap encE
/-- What Encode answers. -/
def encO (L : List En) : List Int := if rgt L then encL L else []
theorem okE_all {e : En} (h : okE e = true) : nmB e.s.data.toList = true ∧ 1 ≤ e.i ∧ e.i ≤ 56 ∧ 1 ≤ e.s.size ∧ e.s.size ≤ 12 := by
  unfold okE at h
  rw [Bool.and_eq_true, Bool.and_eq_true, decide_eq_true_eq, decide_eq_true_eq] at h
  obtain ⟨⟨h1, h2⟩, h3⟩ := h
  refine ⟨h1, h2, h3, ?_⟩
  unfold nmB at h1
  simp only [Bool.and_eq_true, decide_eq_true_eq] at h1
  have hs := Lib.size_eq e.s
  omega
theorem encE_len {e : En} : (encE e).length = 3 + e.s.size := by
  unfold encE
  rw [List.length_append, bI_len, ← Lib.size_eq]
  rfl
theorem encE_all {e : En} (h : okE e = true) : AllB (encE e) := by
  have := okE_all h
  unfold encE
  refine AllB.app (fun z hz => ?_) (bI_all _)
  simp at hz
  omega
theorem digs2 {i : Int} (h1 : 1 ≤ i) (h2 : i ≤ 56) : digs 2 i = [i, 0] := by
  simp [digs]; omega
theorem digs1 {i : Int} (h1 : 0 ≤ i) (h2 : i ≤ 56) : digs 1 i = [i] := by
  simp [digs]; omega
theorem hasW2 {i : Int} (h1 : 1 ≤ i) (h2 : i ≤ 56) : hasW i ((2 : Nat) : Int) = true := by
  unfold hasW
  simp
  omega
theorem hasW1 {i : Int} (h1 : 0 ≤ i) (h2 : i ≤ 56) : hasW i ((1 : Nat) : Int) = true := by
  unfold hasW
  simp
  omega
theorem encL_step {L : List En} {k : Nat} (hk : k < L.length) : encL (L.take (k + 1)) = encL (L.take k) ++ encE (eat L k) := by
  rw [← take_snoc hk]
  simp [encL]
theorem encL_len {L : List En} (h : L.all okE = true) : (encL L).length ≤ L.length * 15 := by
  induction L with
  | nil => simp [encL]
  | cons x L ih =>
    rw [List.all_cons, Bool.and_eq_true] at h
    have := ih h.2
    have h2 := okE_all h.1
    have h3 := encE_len (e := x)
    simp only [encL, List.flatMap_cons, List.length_append, List.length_cons] at *
    omega
theorem all_at {L : List En} (h : L.all okE = true) {k : Nat} (hk : k < L.length) : okE (eat L k) = true := List.all_eq_true.1 h _ (eat_mem hk)
theorem all_take {L : List En} (h : L.all okE = true) (k : Nat) : (L.take k).all okE = true := by
  rw [List.all_eq_true] at *
  exact fun x hx => h x (List.mem_of_mem_take hx)
theorem own_nil8 (w : World) (B : Nat) : Own w B (.slice none 0 0) 0 [] := ⟨World.ownsRow_nil _ _ _ _, fun z hz => by cases hz⟩
/-- Bytes and a bool that a call answers; the bytes are its own. -/
def EncPost (w : World) (zs : List Int) (ok : Bool) (e : Ending) (w' : World) : Prop := ∃ v, e = .returned (.tuple #[v, .bool ok]) ∧ Own w' w.heap.size v zs.length zs ∧ Below w.heap.size w w'
theorem bys_news {w : World} {p : Addr} {m : Nat} {ys : List Int} (hy : Bys w (some p) m ys) : ∀ j u, (ys.map (Value.int .u8))[j]? = some u → w.cell? (p.add j) = some u := by
  intro j u hj
  have hjm : j < m := by
    rcases Nat.lt_or_ge j m with h | h
    · exact h
    · rw [List.getElem?_eq_none (by simp [hy.len]; omega)] at hj; cases hj
  have hv : u = .int .u8 (byt ys j) := by
    rw [List.getElem?_map] at hj
    have hjx : j < ys.length := by rw [hy.len]; exact hjm
    simp [List.getElem?_eq_getElem hjx] at hj
    simp [byt, List.getD, hjx, hj]
  rcases hy.place with h0 | ⟨b, off, hp, _, hcell⟩
  · omega
  · cases hp
    rw [hv, add_e]
    exact hcell j hjm
theorem ints_one (ys : List Int) : ∀ u ∈ ys.map (Value.int .u8), u.oneCell' = true := fun u hu => by
  obtain ⟨z, _, rfl⟩ := List.mem_map.1 hu
  rfl
/-- 'append(s, x...)' of bytes, s of the call's own; and what else lies stays. -/
theorem wpList_apk {w : World} {ops : Array Oper} {rest : List Oper} {o : Oper} {a : Act} {Q : Exit → Act → World → Prop} (hgd : o.guard = none) (s x : Operand)
    (ho : o.op = .call { callee := .builtin .append, args := #[s, x], argTypes := #[23, 23] })
    (B : Nat) (v : Value) (n : Nat) (zs : List Int) (hs : a.eval s = v) (hown : Own w B v n zs) (p : Addr) (m c : Nat) (ys : List Int) (hx : a.eval x = .slice (some p) m c) (hy : Bys w (some p) m ys) (hm : 0 < m)
    (hnm : n + m ≤ 140737488355328) (hB : B ≤ w.heap.size) (w0 : World) (hb : Below B w0 w)
    (h : ∀ g cap w', Own w' B (.slice (some ⟨g, 0, none⟩) (n + m) cap) (n + m) (zs ++ ys) → Below B w0 w' → w.grownBy w' v.ownBlock → (v.ownBlock = some g ∨ g = w.heap.size) → wpList Try.prog ops Q rest (a.put o.dst (.slice (some ⟨g, 0, none⟩) (n + m) cap)) w') : wpList Try.prog ops Q (o :: rest) a w := by
  obtain ⟨i0, hi, hz0, hz1, hz2⟩ := info_parts info8
  refine wpList_append_lies w hgd s x 23 ho B 5 i0 (.int .u8 0) 1 1 Try.underlying23 hi hz0 hz1 hz2 rfl (by decide) v n _ hs hown.row p m c (ys.map (Value.int .u8)) hx (by simp [hy.len]) (bys_news hy) (ints_one ys) hm (by unfold maxLen; omega) (by omega) hB _ rfl ?_
  intro g cap w' hown' hgrow hat _
  exact h g cap w' ⟨by rw [List.map_append]; exact hown', hown.small.app hy.small⟩ (hb.grown hgrow hB fun k hk => (hown.row.lt k hk).1) hgrow hat
/-- The same as a step of a region that draws its order. -/
theorem wp_apk {w : World} {o : Oper} {a : Act} {K : Act → World → Prop} {Q : Exit → Act → World → Prop} (s x : Operand)
    (ho : o.op = .call { callee := .builtin .append, args := #[s, x], argTypes := #[23, 23] })
    (B : Nat) (v : Value) (n : Nat) (zs : List Int) (hs : a.eval s = v) (hown : Own w B v n zs) (p : Addr) (m c : Nat) (ys : List Int) (hx : a.eval x = .slice (some p) m c) (hy : Bys w (some p) m ys) (hm : 0 < m)
    (hnm : n + m ≤ 140737488355328) (hB : B ≤ w.heap.size) (w0 : World) (hb : Below B w0 w)
    (h : ∀ g cap w', Own w' B (.slice (some ⟨g, 0, none⟩) (n + m) cap) (n + m) (zs ++ ys) → Below B w0 w' → K (a.put o.dst (.slice (some ⟨g, 0, none⟩) (n + m) cap)) w') :
    Oper.wp Try.prog o a w K Q := by
  obtain ⟨i0, hi, hz0, hz1, hz2⟩ := info_parts info8
  refine wp_append_lies w s x 23 ho B 5 i0 (.int .u8 0) 1 1 Try.underlying23 hi hz0 hz1 hz2 rfl (by decide) v n _ hs hown.row p m c (ys.map (Value.int .u8)) hx (by simp [hy.len]) (bys_news hy) (ints_one ys) hm (by unfold maxLen; omega) (by omega) hB _ rfl ?_
  intro g cap w' hown' hgrow hat _
  exact h g cap w' ⟨by rw [List.map_append]; exact hown', hown.small.app hy.small⟩ (hb.grown hgrow hB fun k hk => (hown.row.lt k hk).1)
/-- The like of entries. -/
theorem wp_ape {w : World} {o : Oper} {a : Act} {K : Act → World → Prop} {Q : Exit → Act → World → Prop} (s x : Operand)
    (ho : o.op = .call { callee := .builtin .append, args := #[s, x], argTypes := #[22, 22] })
    (B : Nat) (v : Value) (n : Nat) (L : List En) (hs : a.eval s = v) (hown : OwnE w B v n L) (b off m c : Nat) (M : List En) (hx : a.eval x = .slice (some ⟨b, off, none⟩) m c) (hM : Ens w (some ⟨b, off, none⟩) m M) (hm : 0 < m)
    (hn : n + m ≤ 1000000000000) (hB : B ≤ w.heap.size) (w0 : World) (hb : Below B w0 w)
    (h : ∀ v' w', OwnE w' B v' (n + m) (L ++ M) → Below B w0 w' → K (a.put o.dst v') w') :
    Oper.wp Try.prog o a w K Q := by
  obtain ⟨i0, hi, hz0, hz1, hz2⟩ := info_parts infoE
  refine wp_append_lies w s x 22 ho B 36 i0 _ 2 24 Try.underlying22 hi hz0 hz1 hz2 rfl (by decide) v n _ hs hown ⟨b, off, none⟩ m c (M.flatMap ecl) hx (by rw [eflat_len, hM.len]) hM.cells (eflat_one M) hm (by unfold maxLen; omega) (by omega) hB _ rfl ?_
  intro g cap w' hown' hgrow hat _
  exact h _ w' (by unfold OwnE; rw [List.flatMap_append]; exact hown') (hb.grown hgrow hB fun k hk => (hown.lt k hk).1)
/-- 'append(s, t...)', t a text. -/
theorem wpList_aps {w : World} {ops : Array Oper} {rest : List Oper} {o : Oper} {a : Act} {Q : Exit → Act → World → Prop} (hgd : o.guard = none) (s x : Operand)
    (ho : o.op = .call { callee := .builtin .append, args := #[s, x], argTypes := #[23, 9] })
    (B : Nat) (v : Value) (n : Nat) (zs : List Int) (hs : a.eval s = v) (hown : Own w B v n zs) (t : ByteArray) (hx : a.eval x = .string t)
    (hnm : n + t.size ≤ 140737488355328) (hB : B ≤ w.heap.size) (w0 : World) (hb : Below B w0 w)
    (h : ∀ v' w', Own w' B v' (n + t.size) (zs ++ bI t.data.toList) → Below B w0 w' → wpList Try.prog ops Q rest (a.put o.dst v') w') : wpList Try.prog ops Q (o :: rest) a w := by
  obtain ⟨i0, hi, hz0, hz1, hz2⟩ := info_parts info8
  refine Lib.wpList_append_own_string w hgd s x _ _ ho B 5 i0 Try.underlying23 Try.underlying9 hi hz0 hz1 hz2 v n _ hs hown.row t hx (by unfold maxLen; omega) hnm hB ?_
  intro v' w' hown' hgrow _
  refine h v' w' ⟨?_, hown.small.app (bI_all _)⟩ (hb.grown hgrow hB fun k hk => (hown.row.lt k hk).1)
  rw [List.map_append, ← str_cells]
  exact hown'
end Go.Proofs.Ytiedapiepklhlaa
