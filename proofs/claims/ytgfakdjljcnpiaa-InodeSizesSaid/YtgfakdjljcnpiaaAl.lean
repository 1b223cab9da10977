/-
  The statements' first line: pointers that the document fixes. CopyInts and SameInts by contract.
-/
import Derived.Test.YtgfakdjljcnpiaaGr
import Derived.Test.YtgfakdjljcnpiaaRg
import Derived.Test.YtgfakdjljcnpiaaRq
import Derived.Test.YtgfakdjljcnpiaaEq
import Derived.Laws.AppendOwnNone
namespace Go.Proofs.Ytgfakdjljcnpiaa
open Go.RowKit
set_option linter.unusedVariables false
set_option linter.unusedSimpArgs false

/-- 'append' of a slice of numbers onto a new empty slice. -/
theorem wpList_apx {w : World} {ops : Array Oper} {rest : List Oper} {o : Oper} {a : Act} {Q : Exit → Act → World → Prop} (hgd : o.guard = none) (s x : Operand)
    (ho : o.op = .call { callee := .builtin .append, args := #[s, x], argTypes := #[34, 34] })
    (g1 : Nat) (ad : Option Addr) (l c : Nat) (ks : List Int) (hs : a.eval s = .slice (some ⟨g1, 0, none⟩) 0 0) (hx : a.eval x = .slice ad l c) (h1 : w.heap[g1]? = some (.cells #[] 3 (0, 0))) (hy : Ins w ad l ks) (hnil : ad = none → l = 0 ∧ c = 0) (hl : l ≤ 1000000000000) (B : Nat) (hB : B ≤ g1) (w0 : World) (hb : Below B w0 w)
    (h : ∀ a' c' w', Ins w' a' l ks → (a' = none → l = 0 ∧ c' = 0) → (∀ x, a' = some x → B ≤ x.block) → Below B w0 w' → wpList Try.prog ops Q rest (a.put o.dst (.slice a' l c')) w') : wpList Try.prog ops Q (o :: rest) a w := by
  obtain ⟨i0, hi, hz0, hz1, hz2⟩ := info_parts info3
  have hlt := lt_of_block h1
  have hown : w.ownsRow B 3 1 (.slice (some ⟨g1, 0, none⟩) 0 0) 0 [] := ⟨rfl, .inr ⟨g1, 0, #[], rfl, hB, h1, Nat.le_refl _, Nat.zero_le _, rfl, rfl⟩⟩
  obtain ⟨hlen, hp⟩ := hy
  cases ad with
  | none =>
    obtain ⟨rfl, rfl⟩ := hnil rfl
    exact wpList_append_own_none hgd s x 34 ho B 3 i0 1 Try.underlying34 hi _ 0 _ hs hown hx (h _ _ w ⟨hlen, .inl rfl⟩ (fun e => by cases e) (fun x e => by cases e; exact hB) hb)
  | some p =>
    refine wpList_append_own w hgd s x 34 ho B 3 i0 (.int .i64 0) 1 8 Try.underlying34 hi hz0 hz1 hz2 rfl (by decide) (.slice (some ⟨g1, 0, none⟩) 0 0) 0 [] hs hown p l c (ks.map (Value.int .i64)) hx (by simp [hlen]) ?_ ?_ (by unfold maxLen; omega) (by omega) (by omega) ?_
    · intro j u hj
      have hjl : j < l := by
        rcases Nat.lt_or_ge j l with h | h
        · exact h
        · rw [List.getElem?_eq_none (by simp [hlen]; omega)] at hj; cases hj
      have hv : u = .int .i64 (num ks j) := by
        rw [List.getElem?_map] at hj
        have hjx : j < ks.length := by rw [hlen]; exact hjl
        simp [List.getElem?_eq_getElem hjx] at hj
        simp [num, List.getD, hjx, hj]
      rcases hp with h0 | ⟨b, off, hp, _, hcell⟩
      · omega
      · cases hp
        rw [hv, show (⟨b, off, none⟩ : Addr).add j = ⟨b, off + j, none⟩ by unfold Addr.add; split <;> simp_all]
        exact hcell j hjl
    · intro u hu
      obtain ⟨z, _, rfl⟩ := List.mem_map.1 hu
      rfl
    · intro v' w' hown' hgrow _
      have hb' := hb.grown hgrow (by omega) fun k hk => by cases hk; exact hB
      rw [Nat.zero_add] at hown'
      have ho : OwnI w' B v' l ks := by
        have := hown'
        rw [List.nil_append] at this
        exact this
      have hnn := ho
      obtain ⟨a', c', rfl, hi, _, _, hlo⟩ := ho.ins
      refine h a' c' w' hi (fun e => ?_) (fun x hx => (hlo x hx).1) hb'
      subst e
      rcases hnn.2 with ⟨e1, h0⟩ | ⟨g, cap, cur, e1, _⟩
      · cases e1; exact ⟨rfl, rfl⟩
      · cases e1
theorem cpints_any (a : Option Addr) (l c : Nat) (ks : List Int) (w : World) (hx : Ins w a l ks) (hnil : a = none → l = 0 ∧ c = 0) (hl : l ≤ 1000000000000) :
    Calls Try.prog 16 #[.slice a l c] w fun e w' => ∃ a' c', e = .returned (.slice a' l c') ∧ Ins w' a' l ks ∧ (∀ x, a' = some x → w.heap.size ≤ x.block) ∧ Below w.heap.size w w' := by
  have hxa := hx.alloc (.cells #[] 3)
  go_enter Try.func16, Try.ntmps16
  go_wp2_with (at_builtin; go_must (refine wpList_apx rfl (.tmp 5) (.tmp 6) rfl w.heap.size a l c ks rfl rfl (heap_alloc_new w _) hxa hnil hl w.heap.size (Nat.le_refl _) w ((Below.refl _ _).alloc (Nat.le_refl _) _) ?_); intro a' c' w1 h1 _ h2 hb1)
  go_ret
  exact ⟨a', c', rfl, h1, h2, hb1⟩
def SmI (w0 : World) (n : Nat) (v : Value) (w : World) : Prop := ∃ k : Nat, k ≤ n ∧ v = .int .i64 k ∧ ∃ q, w = w0.drewN q
set_option maxHeartbeats 1000000 in
theorem sameInts_yes (a b : Option Addr) (n c d : Nat) (ks : List Int) (w : World) (h1 : Ins w a n ks) (h2 : Ins w b n ks) (hn : n ≤ 1000000000000) :
    Calls Try.prog 23 #[.slice a n c, .slice b n d] w fun e w' => e = .returned (.bool true) ∧ Below w.heap.size w w' := by
  go_enter Try.func23, Try.ntmps23
  go_wp2_with (fail)
  go_loopw [5] (fun v wr => SmI w n v wr) (fun v _ => n - (RowKit.intOf v).toNat)
  case atStart => exact ⟨0, by omega, rfl, 0, rfl⟩
  case round =>
    obtain ⟨k, hk, rfl, q, hq⟩ := hrel
    have hB : Below w.heap.size w wr := by rw [hq]; exact below_drewN (Below.refl _ _) q
    have HQ := Lib.hid hq
    clear hq
    by_cases hlt : k < n
    · rcases h1.2 with h0 | ⟨g1, o1, rfl, l1, c1⟩
      · omega
      rcases h2.2 with h0 | ⟨g2, o2, rfl, l2, c2⟩
      · omega
      have k0 : (0 : Int) ≤ (k : Int) := by omega
      have k1 : (k : Int) < (n : Int) := by omega
      have x1 := (hB.cell (p := ⟨g1, o1 + k, none⟩) l1).trans (c1 k hlt)
      have x2 := (hB.cell (p := ⟨g2, o2 + k, none⟩) l2).trans (c2 k hlt)
      clear h1 h2 c1 c2
      go_wp2_with (fail)
      go_quiet (fail)
      go_wp2_with (fail)
      go_roundw
      case rel => exact ⟨k + 1, by omega, by go_num, q + nq, by rw [HQ.out, World.drewN_drewN]⟩
      case measure => simp [RowKit.intOf]; omega
    · obtain rfl : k = n := by omega
      clear h1 h2
      go_wp2_with (fail)
      go_ret
      exact ⟨rfl, hB⟩
/-- Put of a right record: where its bytes lie. -/
theorem put_is (f : Nat → Int) (w : World) (hr : RgR f) : Calls Try.prog 11 #[rcv f] w fun e w' =>
    ∃ b off c, e = .returned (.tuple #[.slice (some ⟨b, off, none⟩) 56 c, .bool true]) ∧ Pin w' (some ⟨b, off, none⟩) 56 c (recB f) ∧ w.heap.size ≤ b ∧ Below w.heap.size w w' := by
  refine (put_yesR f w hr).mono fun e w' ⟨a, n, c, he, hp, hn, hb⟩ => ?_
  have hl := hp.len
  rw [recB_len] at hl
  subst hl
  rcases hp.bys.place with h0 | ⟨b, off, rfl, _, _⟩
  · omega
  · exact ⟨b, off, c, he, hp, hn _ rfl, hb⟩
/-- The first line's record. -/
def aliF : Nat → Int := fun i => ([1, 1, 57, 258] : List Int).getD i 0
theorem ali_rg : RgR aliF := rgO_iff.1 (by kernel_rfl)
theorem ali7 : byt (recB aliF) 7 = 2 := by kernel_rfl
theorem ali8 : byt (recB aliF) 8 = 1 := by kernel_rfl
theorem pth72 : pthL 72 = 2 ∧ pthX 72 = 1 ∧ pthY 72 = 0 ∧ pthO 72 = true := by decide
theorem blk57 : blkN 57 = 2 := by decide
set_option maxRecDepth 100000 in
set_option maxHeartbeats 4000000 in
theorem alive_any (w : World) : Calls Try.prog 9 #[] w fun e w' => e = .returned (.bool true) ∧ Below w.heap.size w w' := by
  have hp := path_any 72 w rfl
  obtain ⟨e1, e2, e3, e4⟩ := pth72
  rw [e1, e2, e3, e4] at hp
  clear e1 e2 e3 e4
  go_enter Try.func9, Try.ntmps9
  go_wp2_with (fail)
  refine hp.mono ?_
  rintro e w2 ⟨rfl, rfl⟩
  go_wp2_with (fail)
  refine (put_is aliF w ali_rg).mono ?_
  rintro e w2 ⟨b, off, c, rfl, hpn, _, hb⟩
  have hbk := blocks_any 57 w2
  rw [blk57] at hbk
  rcases hpn.bys.place with h0 | ⟨b', off', e', hlt, hcs⟩
  · omega
  cases e'
  have c7 := hcs 7 (by omega)
  have c8 := hcs 8 (by omega)
  rw [ali7] at c7
  rw [ali8] at c8
  have HB := Lib.hid hb
  clear hpn hcs hb hp
  go_wp2_with (fail)
  refine hbk.mono ?_
  rintro e w3 ⟨rfl, rfl⟩
  go_wp2_with (fail)
  go_ret
  exact ⟨rfl, HB.out⟩
end Go.Proofs.Ytgfakdjljcnpiaa
