/-
  The law UsageCounts, walked.
-/
import Derived.Test.YtdgjhfghggcfaaaAl9
import Derived.Laws.AppendOwnNone
namespace Go.Proofs.Ytdgjhfghggcfaaa
open Go.RowKit Go.Maps
set_option linter.unusedVariables false

/-- 'append' of a slice of numbers onto a new empty slice. -/
theorem wpList_apx {w : World} {ops : Array Oper} {rest : List Oper} {o : Oper} {a : Act} {Q : Exit → Act → World → Prop} (hgd : o.guard = none) (s x : Operand)
    (ho : o.op = .call { callee := .builtin .append, args := #[s, x], argTypes := #[24, 24] })
    (g1 : Nat) (ad : Option Addr) (l c : Nat) (ks : List Int) (hs : a.eval s = .slice (some ⟨g1, 0, none⟩) 0 0) (hx : a.eval x = .slice ad l c) (h1 : w.heap[g1]? = some (.cells #[] 3 (0, 0))) (hy : Ins w ad l ks) (hnil : ad = none → l = 0 ∧ c = 0) (hl : l ≤ 1000000000000) (B : Nat) (hB : B ≤ g1) (w0 : World) (hb : Below B w0 w)
    (h : ∀ a' c' w', Ins w' a' l ks → (a' = none → l = 0 ∧ c' = 0) → (∀ x, a' = some x → B ≤ x.block) → Below B w0 w' → wpList Try.prog ops Q rest (a.put o.dst (.slice a' l c')) w') : wpList Try.prog ops Q (o :: rest) a w := by
  obtain ⟨i0, hi, hz0, hz1, hz2⟩ := info_parts info3
  have hlt := lt_of_block h1
  have hown : w.ownsRow B 3 1 (.slice (some ⟨g1, 0, none⟩) 0 0) 0 [] := ⟨rfl, .inr ⟨g1, 0, #[], rfl, hB, h1, Nat.le_refl _, Nat.zero_le _, rfl, rfl⟩⟩
  obtain ⟨hlen, hp⟩ := hy
  cases ad with
  | none =>
    obtain ⟨rfl, rfl⟩ := hnil rfl
    exact wpList_append_own_none hgd s x 24 ho B 3 i0 1 Try.underlying24 hi _ 0 _ hs hown hx (h _ _ w ⟨hlen, .inl rfl⟩ (fun e => by cases e) (fun x e => by cases e; exact hB) hb)
  | some p =>
    refine wpList_append_own w hgd s x 24 ho B 3 i0 (.int .i64 0) 1 8 Try.underlying24 hi hz0 hz1 hz2 rfl (by decide) (.slice (some ⟨g1, 0, none⟩) 0 0) 0 [] hs hown p l c (ks.map (Value.int .i64)) hx (by simp [hlen]) ?_ ?_ (by unfold maxLen; omega) (by omega) (by omega) ?_
    · intro j u hj
      have hjl : j < l := by
        rcases Nat.lt_or_ge j l with h | h
        · exact h
        · rw [List.getElem?_eq_none (by simp [hlen]; omega)] at hj; cases hj
      have hv : u = .int .i64 (num ks j) := by
        rw [List.getElem?_map] at hj
        have hjx : j < ks.length := by rw [hlen]; exact hjl
        simp [List.getElem?_eq_getElem hjx] at hj
        simp [num, List.getD, hjx, hj]
      rcases hp with h0 | ⟨b, off, hp, _, hcell⟩
      · omega
      · cases hp
        rw [hv, show (⟨b, off, none⟩ : Addr).add j = ⟨b, off + j, none⟩ by unfold Addr.add; split <;> simp_all]
        exact hcell j hjl
    · intro u hu
      obtain ⟨z, _, rfl⟩ := List.mem_map.1 hu
      rfl
    · intro v' w' hown' hgrow _
      have hb' := hb.grown hgrow (by omega) fun k hk => by cases hk; exact hB
      rw [Nat.zero_add] at hown'
      have ho : OwnI w' B v' l ks := by
        have := hown'
        rw [List.nil_append] at this
        exact this
      have hnn := ho
      obtain ⟨a', c', rfl, hi, _, _, hlo⟩ := ho.ins
      refine h a' c' w' hi (fun e => ?_) (fun x hx => (hlo x hx).1) hb'
      subst e
      rcases hnn.2 with ⟨e1, h0⟩ | ⟨g, cap, cur, e1, _⟩
      · cases e1; exact ⟨rfl, rfl⟩
      · cases e1
theorem cpints_any (a : Option Addr) (l c : Nat) (ks : List Int) (w : World) (hx : Ins w a l ks) (hnil : a = none → l = 0 ∧ c = 0) (hl : l ≤ 1000000000000) :
    Calls Try.prog 11 #[.slice a l c] w fun e w' => ∃ a' c', e = .returned (.slice a' l c') ∧ Ins w' a' l ks ∧ (∀ x, a' = some x → w.heap.size ≤ x.block) ∧ Below w.heap.size w w' := by
  have hxa := hx.alloc (.cells #[] 3)
  go_enter Try.func11, Try.ntmps11
  go_wp2_with (at_builtin; go_must (refine wpList_apx rfl (.tmp 5) (.tmp 6) rfl w.heap.size a l c ks rfl rfl (heap_alloc_new w _) hxa hnil hl w.heap.size (Nat.le_refl _) w ((Below.refl _ _).alloc (Nat.le_refl _) _) ?_); intro a' c' w1 h1 _ h2 hb1)
  go_ret
  exact ⟨a', c', rfl, h1, h2, hb1⟩
/-- Two answers are one. -/
theorem sameL {w : World} {l m : List Int} {a b : Option Addr} {c d : Nat} (h : l = m) (h1 : Ins w a l.length l) (h2 : Ins w b m.length m) (hn : l.length ≤ 1000000000000) :
    Calls Try.prog 14 #[.slice a l.length c, .slice b m.length d] w fun e w' => e = .returned (.bool true) ∧ Below w.heap.size w w' := by
  subst h
  exact sameInts_yes a b l.length c d l w h1 h2 hn
theorem CntR.len {d r s : Int} {L l : List Int} {ok : Bool} (h : CntR d r s L l ok) : l.length ≤ 64 := by
  by_cases hr : Rt d r s ∧ AdOk (s.toNat * (PL d r).toNat) L
  · rw [(h.1 hr.1 hr.2).1, cL_len]
    have := hr.1.s2
    omega
  · rw [(h.2 hr).1]; exact Nat.zero_le _
set_option maxRecDepth 100000 in
set_option maxHeartbeats 8000000 in
theorem counts_any (d r s : Int) (a : Option Addr) (n c : Nat) (L : List Int) (w : World) (hL : Ins w a n L) (hwf : ∀ z ∈ L, (Lit.int .i64 z).wf = true) (hnil : a = none → n = 0 ∧ c = 0) :
    Calls Try.prog 3 #[gv d r s, .slice a n c] w fun e w' => e = .returned (.bool true) ∧ Below w.heap.size w w' := by
  have x1 := Bx.mk' w d r s 23
  have hb1 : Below w.heap.size w (w.alloc (.cells #[.int .i64 d, .int .i64 r, .int .i64 s] 23 (0, 0))) := (Below.refl _ _).alloc (Nat.le_refl _) _
  have HL := Lib.hid hL
  have HWF := Lib.hid hwf
  have HNIL := Lib.hid hnil
  have HX1 := Lib.hid x1
  have HB1 := Lib.hid hb1
  clear hL hwf hnil x1 hb1
  go_enter Try.func3, Try.ntmps3
  go_wp2_with (fail)
  refine (alive_any _).mono ?_
  rintro e w2 ⟨rfl, hb⟩
  have x2 := HX1.out.next hb
  have HB2 := Lib.hid (HB1.out.trans (hb.mono HB1.out.size))
  have HX2 := Lib.hid x2
  clear hb x2
  by_cases hn : n ≤ 20000
  · have hn' : decide ((20000 : Int) < (n : Int)) = false := decide_eq_false (by omega)
    have hcp := cpints_any a n c L w2 (HL.out.below (Nat.le_refl _) HB2.out) HNIL.out (by omega)
    go_wp2_with (fail)
    refine hcp.mono ?_
    clear hcp
    rintro e w3 ⟨a3, c3, rfl, hi3, _, hb⟩
    have x3 := HX2.out.next hb
    have HB3 := Lib.hid (HB2.out.trans (hb.mono HB2.out.size))
    have HX3 := Lib.hid x3
    have HI3 := Lib.hid hi3
    have y0 := x3.c0
    have y1 := x3.c1
    have y2 := x3.c2
    have hcn := count_any d r s a3 n c3 L w3 hi3 (by omega) HWF.out
    clear hb x3 hi3
    go_wp2_with (fail)
    refine hcn.mono ?_
    clear hcn
    rintro e w4 ⟨l, ok, ⟨a4, c4, rfl, hi4, _, hb⟩, hc4⟩
    have x4 := HX3.out.next hb
    have HB4 := Lib.hid (HB3.out.trans (hb.mono HB3.out.size))
    have HX4 := Lib.hid x4
    have HI4 := Lib.hid hi4
    have HI3b := Lib.hid (HI3.out.next hb)
    have HC4 := Lib.hid hc4
    have hlen := hc4.len
    clear hb hi4 hc4 y0 y1 y2
    have y0 := x4.c0
    have y1 := x4.c1
    have y2 := x4.c2
    have hcn := rcount_any d r s a n c L w4 (HL.out.below (Nat.le_refl _) HB4.out) (by omega)
    clear x4
    go_wp2_with (fail)
    refine hcn.mono ?_
    clear hcn
    rintro e w5 ⟨l2, ok2, ⟨a5, c5, rfl, hi5, _, hb⟩, hc5⟩
    obtain ⟨hll, rfl⟩ := HC4.out.one hc5
    have HB5 := Lib.hid (HB4.out.trans (hb.mono HB4.out.size))
    have HI3c := Lib.hid (HI3b.out.next hb)
    have hsm := sameL (c := c4) (d := c5) hll (HI4.out.next hb) hi5 (by omega)
    clear hb hi5 hc5 hll y0 y1 y2
    go_wp2_with (fail)
    refine hsm.mono ?_
    clear hsm
    rintro e w6 ⟨rfl, hb⟩
    have HB6 := Lib.hid (HB5.out.trans (hb.mono HB5.out.size))
    have hsm := sameInts_yes a3 a n c3 c L w6 (HI3c.out.next hb) (HL.out.below (Nat.le_refl _) HB6.out) (by omega)
    have hok : (ok == ok) = true := by simp
    clear hb
    go_wp2_with (fail)
    refine hsm.mono ?_
    clear hsm
    rintro e w7 ⟨rfl, hb⟩
    have HB7 := Lib.hid (HB6.out.trans (hb.mono HB6.out.size))
    clear hb
    go_wp2_with (fail)
    go_ret
    exact ⟨rfl, HB7.out⟩
  · have hn' : decide ((20000 : Int) < (n : Int)) = true := decide_eq_true (by omega)
    go_wp2_with (fail)
    go_ret
    exact ⟨rfl, HB2.out⟩
end Go.Proofs.Ytdgjhfghggcfaaa
