/-
  Appends of bytes onto a slice of the call's own; the reference's copy of bytes, by contract.
-/
import Derived.Test.YtgedgkdnjnbijaaBase
import Derived.Laws.AppendOwnNone
namespace Go.Proofs.Ytgedgkdnjnbijaa
open Go.RowKit

/-- The slice value v, of the call's own blocks from B on, holds the bytes zs. -/
structure Own (w : World) (B : Nat) (v : Value) (n : Nat) (zs : List Int) : Prop where
  row : w.ownsRow B 5 1 v n (zs.map (Value.int .u8))
  small : AllB zs
theorem Own.len {w : World} {B : Nat} {v : Value} {n : Nat} {zs : List Int} (h : Own w B v n zs) : zs.length = n := by simpa using h.row.1
theorem Own.form {w : World} {B : Nat} {v : Value} {n : Nat} {zs : List Int} (h : Own w B v n zs) : ∃ a c, v = .slice a n c ∧ (a = none → n = 0 ∧ c = 0) ∧ Bys w a n zs ∧ (∀ x, a = some x → B ≤ x.block ∧ x.block < w.heap.size) := by
  rcases h.row.2 with ⟨rfl, rfl⟩ | ⟨g, cap, cur, rfl, hb, hg, hnc, _, hsz, htake⟩
  · exact ⟨none, 0, rfl, (fun _ => ⟨rfl, rfl⟩), ⟨h.len, h.small, .inl rfl⟩, (fun x hx => by cases hx)⟩
  · refine ⟨some ⟨g, 0, none⟩, cap, rfl, (fun h => by cases h), ⟨h.len, h.small, .inr ⟨g, 0, rfl, lt_of_block hg, fun i hi => ?_⟩⟩, fun x hx => by cases hx; exact ⟨hb, lt_of_block hg⟩⟩
    have hl := h.len
    have hc := h.row.cellAt i (by omega)
    rw [Nat.zero_add, hc]
    simp [byt, List.getD, show i < zs.length by omega]
theorem Own.below {w w' : World} {B : Nat} {v : Value} {n : Nat} {zs : List Int} (h : Own w B v n zs) {C : Nat} (hC : w.heap.size ≤ C) (hb : Below C w w') : Own w' B v n zs :=
  ⟨h.row.kept (row := none) ⟨hb.os, hb.tape, hb.output, hb.size, fun k hk _ => hb.block k (by omega)⟩ (by cases v.ownBlock <;> simp), h.small⟩

theorem own_none (w : World) (B : Nat) (hB : B ≤ w.heap.size) : Own (w.alloc (.cells #[] 5)) B (.slice (some ⟨w.heap.size, 0, none⟩) 0 0) 0 [] :=
  ⟨World.ownsRow_lit w #[] 0 hB (Nat.zero_le _) rfl, fun z hz => by cases hz⟩

theorem blk_lit {w : World} {cs : Array Value} {zs : List Int} (h : cs = ints zs) : Blk (w.alloc (.cells cs 5)) w.heap.size zs := ⟨by rw [h]; exact heap_alloc_new w _⟩
theorem bys_one (w : World) {z : Int} (h : 0 ≤ z ∧ z ≤ 255) : Bys (w.alloc (.cells #[.int .u8 z] 5)) (some ⟨w.heap.size, 0, none⟩) 1 [z] :=
  (blk_lit (zs := [z]) rfl).all (fun y hy => by rw [List.mem_singleton.1 hy]; exact h)

theorem bys_lit {w : World} {cs : Array Value} {g n : Nat} {zs : List Int} (hg : g = w.heap.size) (hn : zs.length = n) (h : cs = ints zs) (hs : AllB zs) : Bys (w.alloc (.cells cs 5)) (some ⟨g, 0, none⟩) n zs := by
  subst hg hn
  exact (blk_lit h).all hs
theorem Bys.alloc {w : World} {a : Option Addr} {n : Nat} {zs : List Int} (h : Bys w a n zs) (o : Obj) : Bys (w.alloc o) a n zs :=
  h.below (Nat.le_refl _) ((Below.refl _ _).alloc (Nat.le_refl _) _)
theorem bys_eq (w : World) {y z : Int} (e : y = z) (h : 0 ≤ z ∧ z ≤ 255) : Bys (w.alloc (.cells #[.int .u8 y] 5)) (some ⟨w.heap.size, 0, none⟩) 1 [z] := by
  subst e
  exact bys_one w h

theorem alloc_lt {w : World} (o : Obj) : (w.alloc o).heap.size = w.heap.size + 1 := by simp

/-- 'append(s, x...)', s of the call's own, x any slice of bytes. -/
theorem wpList_ap {w : World} {ops : Array Oper} {rest : List Oper} {o : Oper} {a : Act} {Q : Exit → Act → World → Prop} (hgd : o.guard = none) (s x : Operand)
    (ho : o.op = .call { callee := .builtin .append, args := #[s, x], argTypes := #[36, 36] })
    (B : Nat) (v : Value) (n : Nat) (zs : List Int) (hs : a.eval s = v) (hown : Own w B v n zs) (ad : Option Addr) (m c : Nat) (ys : List Int) (hx : a.eval x = .slice ad m c) (hy : Bys w ad m ys) (hnil : ad = none → m = 0 ∧ c = 0)
    (hnm : n + m ≤ 140737488355328) (hB : B ≤ w.heap.size) (w0 : World) (hb : Below B w0 w)
    (h : ∀ v' w', Own w' B v' (n + m) (zs ++ ys) → Below B w0 w' → wpList Try.prog ops Q rest (a.put o.dst v') w') : wpList Try.prog ops Q (o :: rest) a w := by
  obtain ⟨i0, hi, hz0, hz1, hz2⟩ := info_parts info8
  cases ad with
  | none =>
    obtain ⟨rfl, rfl⟩ := hnil rfl
    obtain rfl : ys = [] := List.eq_nil_of_length_eq_zero hy.len
    exact wpList_append_own_none hgd s x 36 ho B 5 i0 1 Try.underlying36 hi v n _ hs hown.row hx (h v w (by simpa using hown) hb)
  | some p =>
    refine wpList_append_own w hgd s x 36 ho B 5 i0 (.int .u8 0) 1 1 Try.underlying36 hi hz0 hz1 hz2 rfl (by decide) v n _ hs hown.row p m c (ys.map (Value.int .u8)) hx (by simp [hy.len]) ?_ ?_ (by unfold maxLen; omega) (by omega) hB ?_
    · intro j u hj
      have hjm : j < m := by
        rcases Nat.lt_or_ge j m with h | h
        · exact h
        · rw [List.getElem?_eq_none (by simp [hy.len]; omega)] at hj; cases hj
      have hv : u = .int .u8 (byt ys j) := by
        rw [List.getElem?_map] at hj
        have hjx : j < ys.length := by rw [hy.len]; exact hjm
        simp [List.getElem?_eq_getElem hjx] at hj
        simp [byt, List.getD, hjx, hj]
      rcases hy.place with h0 | ⟨b, off, hp, _, hcell⟩
      · omega
      · cases hp
        rw [hv, show (⟨b, off, none⟩ : Addr).add j = ⟨b, off + j, none⟩ by unfold Addr.add; split <;> simp_all]
        exact hcell j hjm
    · intro u hu
      obtain ⟨z, _, rfl⟩ := List.mem_map.1 hu
      rfl
    · intro v' w' hown' hgrow _
      refine h v' w' ⟨by rw [List.map_append]; exact hown', hown.small.app hy.small⟩ (hb.grown hgrow hB fun k hk => (hown.row.lt k hk).1)

set_option maxHeartbeats 400000 in
theorem copy_any (a : Option Addr) (la ca : Nat) (x : List Int) (w : World) (hx : Bys w a la x) (hnil : a = none → la = 0 ∧ ca = 0) (hla : la ≤ 1000000000000) :
    Calls Try.prog 29 #[.slice a la ca] w fun e w' => ∃ v, e = .returned v ∧ Own w' w.heap.size v la x ∧ Below w.heap.size w w' := by
  go_enter Try.func29, Try.ntmps29
  go_wp2_with (at_builtin; go_must (refine wpList_ap rfl (.tmp 5) (.tmp 6) rfl w.heap.size _ 0 [] rfl (own_none w w.heap.size (Nat.le_refl _)) a la ca x rfl (hx.below (Nat.le_refl _) ((Below.refl _ _).alloc (Nat.le_refl _) _)) hnil (by omega) (by simp) w ((Below.refl _ _).alloc (Nat.le_refl _) _) ?_); intro v w1 hown1 hb1)
  go_ret
  exact ⟨_, rfl, by simpa using hown1, hb1⟩

end Go.Proofs.Ytgedgkdnjnbijaa
