/-
  The statements' CopyList and trimmed, by contract.
-/
import Derived.Test.YtegcjpocdfmpfaaUal
import Derived.Test.YtegcjpocdfmpfaaUaf
import Derived.Test.YtegcjpocdfmpfaaUai
import Derived.Test.YtegcjpocdfmpfaaUac
import Derived.Test.YtegcjpocdfmpfaaUam
import Derived.Test.YtegcjpocdfmpfaaUad
import Derived.Deep.AppendLies
import Derived.Test.YtegcjpocdfmpfaaUau
set_option linter.unusedVariables false
set_option linter.unusedSimpArgs false
set_option maxRecDepth 100000
set_option maxHeartbeats 16000000
namespace Go.Proofs.Ytegcjpocdfmpfaa
open Go.RowKit

theorem wpList_apx2 {w : World} {ops : Array Oper} {rest : List Oper} {o : Oper} {a : Act} {Q : Exit → Act → World → Prop} (hgd : o.guard = none) (s x : Operand)
    (ho : o.op = .call { callee := .builtin .append, args := #[s, x], argTypes := #[25, 25] })
    (g1 : Nat) (ad : Option Addr) (l c : Nat) (ks : List Int) (hs : a.eval s = .slice (some ⟨g1, 0, none⟩) 0 0) (hx : a.eval x = .slice ad l c) (h1 : w.heap[g1]? = some (.cells #[] 3 (0, 0))) (hy : Ins w ad l ks) (hnil : ad = none → l = 0 ∧ c = 0) (hl : l ≤ 1000000000000) (B : Nat) (hB : B ≤ g1) (w0 : World) (hb : Below B w0 w)
    (h : ∀ a' c' w', Ins w' a' l ks → (a' = none → l = 0 ∧ c' = 0) → (l ≤ c' ∧ c' ≤ 9223372036854775807) → (∀ x, a' = some x → B ≤ x.block ∧ x.block < w'.heap.size) → Below B w0 w' → wpList Try.prog ops Q rest (a.put o.dst (.slice a' l c')) w') : wpList Try.prog ops Q (o :: rest) a w := by
  obtain ⟨i0, hi, hz0, hz1, hz2⟩ := info_parts info3
  have hlt := lt_of_block h1
  have hown : w.ownsRow B 3 1 (.slice (some ⟨g1, 0, none⟩) 0 0) 0 [] := ⟨rfl, .inr ⟨g1, 0, #[], rfl, hB, h1, Nat.le_refl _, Nat.zero_le _, rfl, rfl⟩⟩
  obtain ⟨hlen, hp⟩ := hy
  cases ad with
  | none =>
    obtain ⟨rfl, rfl⟩ := hnil rfl
    exact wpList_append_own_none hgd s x 25 ho B 3 i0 1 Try.underlying25 hi _ 0 _ hs hown hx (h _ _ w ⟨hlen, .inl rfl⟩ (fun e => by cases e) ⟨Nat.le_refl _, by omega⟩ (fun x e => by cases e; exact ⟨hB, hlt⟩) hb)
  | some p =>
    refine wpList_append_own w hgd s x 25 ho B 3 i0 (.int .i64 0) 1 8 Try.underlying25 hi hz0 hz1 hz2 rfl (by decide) (.slice (some ⟨g1, 0, none⟩) 0 0) 0 [] hs hown p l c (ks.map (Value.int .i64)) hx (by simp [hlen]) ?_ ?_ (by unfold maxLen; omega) (by omega) (by omega) ?_
    · intro j u hj
      have hjl : j < l := by
        rcases Nat.lt_or_ge j l with h | h
        · exact h
        · rw [List.getElem?_eq_none (by simp [hlen]; omega)] at hj; cases hj
      have hv : u = .int .i64 (num ks j) := by
        rw [List.getElem?_map] at hj
        have hjx : j < ks.length := by rw [hlen]; exact hjl
        simp [List.getElem?_eq_getElem hjx] at hj
        simp [num, List.getD, hjx, hj]
      rcases hp with h0 | ⟨b, off, hp, _, hcell⟩
      · omega
      · cases hp
        rw [hv, show (⟨b, off, none⟩ : Addr).add j = ⟨b, off + j, none⟩ by unfold Addr.add; split <;> simp_all]
        exact hcell j hjl
    · intro u hu
      obtain ⟨z, _, rfl⟩ := List.mem_map.1 hu
      rfl
    · intro v' w' hown' hgrow _
      have hb' := hb.grown hgrow (by omega) fun k hk => by cases hk; exact hB
      rw [Nat.zero_add] at hown'
      have ho : OwnI w' B v' l ks := by
        have := hown'
        rw [List.nil_append] at this
        exact this
      have hnn := ho
      obtain ⟨a', c', rfl, hi, hc1, hc2, hlo⟩ := ho.ins
      refine h a' c' w' hi (fun e => ?_) ⟨hc1, hc2⟩ (fun x hx => hlo x hx) hb'
      subst e
      rcases hnn.2 with ⟨e1, h0⟩ | ⟨g, cap, cur, e1, _⟩
      · cases e1; exact ⟨rfl, rfl⟩
      · cases e1
theorem cpints_nil (a : Option Addr) (l c : Nat) (ks : List Int) (w : World) (hx : Ins w a l ks) (hnil : a = none → l = 0 ∧ c = 0) (hl : l ≤ 1000000000000) :
    Calls Try.prog 14 #[.slice a l c] w fun e w' => ∃ a' c', e = .returned (.slice a' l c') ∧ Ins w' a' l ks ∧ (a' = none → l = 0 ∧ c' = 0) ∧ (l ≤ c' ∧ c' ≤ 9223372036854775807) ∧ (∀ x, a' = some x → w.heap.size ≤ x.block ∧ x.block < w'.heap.size) ∧ Below w.heap.size w w' := by
  have hxa := hx.alloc (.cells #[] 3)
  go_enter Try.func14, Try.ntmps14
  go_wp2_with (at_builtin; go_must (refine wpList_apx2 rfl (.tmp 5) (.tmp 6) rfl w.heap.size a l c ks rfl rfl (heap_alloc_new w _) hxa hnil hl w.heap.size (Nat.le_refl _) w ((Below.refl _ _).alloc (Nat.le_refl _) _) ?_); intro a' c' w1 h1 hn hcc h2 hb1)
  go_ret
  exact ⟨a', c', rfl, h1, hn, hcc, h2, hb1⟩
/-- A list copied: what a call leaves. -/
def CpL (w : World) (n : Nat) (f : Nat → Nw) (e : Ending) (w' : World) : Prop :=
  ∃ v g, e = .returned v ∧ OwL w' w.heap.size v n g ∧ (∀ j, j < n → (g j).nd = (f j).nd ∧ (g j).n = (f j).n ∧ ((g j).n ≤ (g j).c ∧ (g j).c ≤ 9223372036854775807) ∧ ∀ y, (g j).a = some y → w.heap.size ≤ y.block) ∧ Below w.heap.size w w'
theorem copyList_any (a : Option Addr) (n c : Nat) (f : Nat → Nw) (w : World) (h : NwsAt w a n f) (hn : n ≤ 100000) (hm : ∀ i, i < n → (f i).n ≤ 1000000000000) :
    Calls Try.prog 13 #[.slice a n c] w (CpL w n f) := by
  have H := Lib.hid h
  have HM := Lib.hid hm
  clear h hm
  go_enter Try.func13, Try.ntmps13
  have HO := Lib.hid (ownL_none w w.heap.size (Nat.le_refl _) f)
  have HBS := Lib.hid ((Below.refl w.heap.size w).alloc (Nat.le_refl _) (.cells #[] 83))
  go_wp2_with (fail)
  go_loopw [3, 4] (fun v3 v4 wr => ∃ (i : Nat) (g : Nat → Nw), i ≤ n ∧ v4 = .int .i64 i ∧ OwL wr w.heap.size v3 i g ∧ (∀ j, j < i → (g j).nd = (f j).nd ∧ (g j).n = (f j).n ∧ ((g j).n ≤ (g j).c ∧ (g j).c ≤ 9223372036854775807) ∧ ∀ y, (g j).a = some y → w.heap.size ≤ y.block) ∧ Below w.heap.size w wr) (fun _ v4 _ => n - (RowKit.intOf v4).toNat)
  case atStart => exact ⟨0, f, by omega, rfl, HO.out, (fun j hj => by omega), HBS.out⟩
  case round =>
    obtain ⟨i, g, hi, rfl, ho, hg, hb⟩ := hrel
    have HO2 := Lib.hid ho
    have HG := Lib.hid hg
    have HB := Lib.hid hb
    clear ho hg hb
    by_cases hlt : i < n
    · rcases H.out.next HB.out with h0 | ⟨b1, o1, rfl, l1, r1⟩
      · omega
      have hx := r1 i hlt
      have hmx := HM.out i hlt
      obtain ⟨x, hxe⟩ : ∃ x, x = f i := ⟨_, rfl⟩
      rw [← hxe] at hx hmx
      have HXE := Lib.hid hxe
      clear hxe r1
      have k0 : (0 : Int) ≤ (i : Int) := by omega
      have k1 : (i : Int) < (n : Int) := by omega
      have HX := Lib.hid hx
      have HMX := Lib.hid hmx
      have c0 := hx.c0
      have c1 := hx.c1
      have c2 := hx.c2
      have c3 := hx.c3
      have c4 := hx.c4
      clear hx hmx
      go_upto_region 6 with fail
      obtain ⟨w5, hw5⟩ : ∃ w5, w5 = wr.alloc (.cells #[.int .i64 x.ino, .int .i64 x.kind, .int .i64 x.links, .int .i64 x.size, .slice x.a x.n x.c] 83) := ⟨_, rfl⟩
      have hb5 : Below wr.heap.size wr w5 := by rw [hw5]; exact (Below.refl _ _).alloc (Nat.le_refl _) _
      have hr5 : w5.heap[wr.heap.size]? = some (.cells (nwC x) 83 (0, 0)) := by rw [hw5]; exact heap_alloc_new wr _
      have hO5 := HO2.out.next hb5
      have hB5 := HB.out.trans (hb5.mono HB.out.size)
      have hI5 := HX.out.ins.next hb5
      rw [← hw5]
      obtain ⟨bx, hbx⟩ : ∃ b, b = wr.heap.size := ⟨_, rfl⟩
      have hbxw : w.heap.size ≤ bx := by rw [hbx]; exact HB.out.size
      have hvx : ∀ j, u3.ownBlock = some j → j < bx := fun j e => by rw [hbx]; exact (World.ownsRow.lt HO2.out.row j e).2
      have hgx : ∀ j, j < i → ∀ y, (g j).a = some y → y.block < bx := fun j hj y e => by rw [hbx]; exact (HO2.out.apart j hj y e).2
      rw [← hbx] at hr5 ⊢
      have HO5 := Lib.hid hO5
      have HB5 := Lib.hid hB5
      have HI5 := Lib.hid hI5
      have HR5 := Lib.hid hr5
      have HBX := Lib.hid hbxw
      have HVX := Lib.hid hvx
      have HGX := Lib.hid hgx
      clear hb5 hr5 hO5 hB5 hI5 hbx hbxw hvx hgx hw5 c0 c1 c2 c3 c4
      have cN := fun i => cell_of_row w5 bx i (nwC x) _ (0, 0) HR5.out
      have c4 := cN 4
      simp only [nwC, List.getElem?_toArray, List.getElem?_cons_zero, List.getElem?_cons_succ] at c4
      clear cN
      go_wp2_with (fail)
      refine (cpints_nil x.a x.n x.c x.ks w5 HI5.out HX.out.nil HMX.out).mono ?_
      rintro e w6 ⟨a6, k6, rfl, hi6, hn6, hc6, ha6, hb6⟩
      have hrow6 := (hb6.block _ (lt_of_block HR5.out)).trans HR5.out
      have HO6 := Lib.hid (HO5.out.next hb6)
      have HB6 := Lib.hid (HB5.out.trans (hb6.mono HB5.out.size))
      have hlt6 := lt_of_block hrow6
      have f4 := frozen_of_row w6 bx 4 _ _ hrow6
      have c4' := cell_of_row w6 bx 4 (nwC x) _ (0, 0) hrow6
      simp only [nwC, List.getElem?_toArray, List.getElem?_cons_zero, List.getElem?_cons_succ] at c4'
      have HI6 := Lib.hid hi6
      have HN6 := Lib.hid hn6
      have HC6 := Lib.hid hc6
      have HA6 := Lib.hid (show ∀ y, a6 = some y → bx < y.block ∧ y.block < w6.heap.size from fun y e => ⟨Nat.lt_of_lt_of_le (lt_of_block HR5.out) (ha6 y e).1, (ha6 y e).2⟩)
      have HR6 := Lib.hid hrow6
      clear c4 hi6 ha6 hb6 hrow6 hn6 hc6
      go_upto_region 7 with fail
      obtain ⟨w7, hw7⟩ : ∃ w7, w7 = w6.setCell ⟨bx, 4, none⟩ (.slice a6 x.n k6) := ⟨_, rfl⟩
      rw [← hw7]
      have ht7 : Turn (fun j => j = bx) w6 w7 := by rw [hw7]; exact Turn.setCell (M := fun j => j = bx) w6 (a := ⟨bx, 4, none⟩) rfl _
      obtain ⟨z, hz⟩ : ∃ z : Nw, z = ⟨x.ino, x.kind, x.links, x.size, a6, x.n, k6, x.ks⟩ := ⟨_, rfl⟩
      have HZE := Lib.hid hz
      have hr7 : w7.heap[bx]? = some (.cells (nwC z) 83 (0, 0)) := by
        rw [hw7, heap_setCell_same w6 bx 4 _ _ _ HR6.out, hz]
        rfl
      have hO7 := HO6.out.turn ht7 (fun j e e2 => by have := HVX.out j e; omega) (fun j hj y e e2 => by have := HGX.out j hj y e; omega)
      have hB7 : Below w.heap.size w w7 := by rw [hw7]; exact Below.setCell HB6.out HBX.out _
      have hI7 : Ins w7 z.a z.n z.ks := by
        rw [hz]
        exact HI6.out.turn ht7 fun y e e2 => by have := (HA6.out y e).1; omega
      have HO7 := Lib.hid hO7
      have HB7 := Lib.hid hB7
      have HI7 := Lib.hid hI7
      have HR7 := Lib.hid hr7
      have HZA := Lib.hid (show ∀ y, z.a = some y → bx < y.block ∧ y.block < w7.heap.size from fun y e => by
        rw [hz] at e
        exact ⟨(HA6.out y e).1, Nat.lt_of_lt_of_le (HA6.out y e).2 ht7.size⟩)
      have HZN := Lib.hid (show z.nd = x.nd ∧ z.n = x.n ∧ z.c = k6 by rw [hz]; exact ⟨rfl, rfl, rfl⟩)
      have d0 := cell_of_row w7 bx 0 (nwC z) _ (0, 0) hr7
      have d1 := cell_of_row w7 bx 1 (nwC z) _ (0, 0) hr7
      have d2 := cell_of_row w7 bx 2 (nwC z) _ (0, 0) hr7
      have d3 := cell_of_row w7 bx 3 (nwC z) _ (0, 0) hr7
      have d4 := cell_of_row w7 bx 4 (nwC z) _ (0, 0) hr7
      simp only [nwC, List.getElem?_toArray, List.getElem?_cons_zero, List.getElem?_cons_succ] at d0 d1 d2 d3 d4
      have hnil : z.a = none → z.n = 0 ∧ z.c = 0 := fun e => by rw [HZN.out.2.2, HZN.out.2.1]; exact HN6.out (by rw [HZE.out] at e; exact e)
      have HNIL := Lib.hid hnil
      clear hw7 hz hr7 hO7 hB7 hI7 ht7 c4' f4 hlt6 hnil HO6 HB6 HI6 HA6 HR6
      have HBW := Lib.hid ((Below.refl w7.heap.size w7).alloc (Nat.le_refl _) (.cells (nwC z) 83 (0, 0)))
      go_wp2_with (at_builtin; go_must (refine wpList_apN rfl (.tmp 21) (.tmp 23) rfl w.heap.size u3 i g rfl (HO7.out.next HBW.out) w7.heap.size rfl z ⟨HI7.out.next HBW.out, HNIL.out, by have := HZN.out.2.1; have := HMX.out; omega⟩ (fun y e => ⟨fun e2 => (by have h1 := HVX.out _ e2; have h2 := (HZA.out y e).1; omega), Nat.lt_of_lt_of_le (HZA.out y e).2 HBW.out.size⟩) (heap_alloc_new w7 _) (by omega) (Nat.le_trans HB7.out.size HBW.out.size) ?_; intro v8 w8 ho8 hg8 hv8; have HO8 := Lib.hid ho8; have HB8 := Lib.hid ((HB7.out.trans (HBW.out.mono HB7.out.size)).grown hg8 (Nat.le_trans HB7.out.size HBW.out.size) fun k hk => (World.ownsRow.lt HO7.out.row k hk).1); clear ho8 hg8 hv8))
      go_roundw
      case rel =>
        refine ⟨i + 1, snN g i z, by omega, by go_num, HO8.out, fun j hj => ?_, HB8.out⟩
        by_cases e : j = i
        · subst e
          rw [snN, if_pos rfl, ← HXE.out]
          exact ⟨HZN.out.1, HZN.out.2.1, by rw [HZN.out.2.1, HZN.out.2.2]; exact HC6.out, fun y e => by have h1 := (HZA.out y e).1; have h2 := HBX.out; omega⟩
        · rw [snN, if_neg e]
          exact HG.out j (by omega)
      case measure => simp [RowKit.intOf]; omega
    · obtain rfl : i = n := by omega
      go_wp2_with (fail)
      go_ret
      exact ⟨_, g, rfl, HO2.out, HG.out, HB.out⟩
/-- A list whose nodes' addresses may be cut: its block known. -/
structure TrL (w : World) (B b n : Nat) (g : Nat → Nw) : Prop where
  row : ∃ cur t, w.heap[b]? = some (.cells cur t (0, 0))
  lo : B ≤ b
  at' : ∀ j, j < n → NwIn w b (j * 5) (g j)
  ap : ∀ j, j < n → ∀ y, (g j).a = some y → y.block ≠ b
  cap : ∀ j, j < n → (g j).n ≤ (g j).c ∧ (g j).c ≤ 9223372036854775807
theorem OwL.trl {w : World} {B : Nat} {v : Value} {n : Nat} {f : Nat → Nw} (h : OwL w B v n f) (hcap : ∀ j, j < n → (f j).n ≤ (f j).c ∧ (f j).c ≤ 9223372036854775807) : (n = 0 ∧ ∃ a c, v = .slice a 0 c) ∨ ∃ b c, v = .slice (some ⟨b, 0, none⟩) n c ∧ TrL w B b n f := by
  rcases h.row.2 with ⟨rfl, h0⟩ | ⟨g, cap, cur, rfl, hb, hg, hnc, hm, hsz, htake⟩
  · exact .inl ⟨h0, _, _, rfl⟩
  · by_cases hn : n = 0
    · exact .inl ⟨hn, _, _, by rw [hn]⟩
    obtain ⟨a, c, e, h1, _, _⟩ := h.nws
    cases e
    rcases h1 with h0 | ⟨b, off, e, hlt, hc⟩
    · exact (hn h0).elim
    cases e
    refine .inr ⟨g, cap, rfl, ⟨_, _, hg⟩, hb, fun j hj => ?_, fun j hj y e e2 => (h.apart j hj y e).1 ?_, hcap⟩
    · have := hc j hj
      rw [Nat.zero_add] at this
      exact this
    · rw [e2]; rfl
/-- One node's addresses cut. -/
def ctN' (x : Nw) (k : Nat) : Nw := ⟨x.ino, x.kind, x.links, x.size, x.a, k, x.c, x.ks.take k⟩
theorem TrL.trim {w : World} {B b n : Nat} {g : Nat → Nw} (h : TrL w B b n g) {i k : Nat} (hi : i < n) (hk : k ≤ (g i).n) :
    TrL (w.setCell ⟨b, i * 5 + 4, none⟩ (.slice (g i).a k (g i).c)) B b n (snN g i (ctN' (g i) k)) := by
  obtain ⟨cur, t, hr⟩ := h.row
  have hlt := lt_of_block hr
  have ht : Turn (fun j => j = b) w (w.setCell ⟨b, i * 5 + 4, none⟩ (.slice (g i).a k (g i).c)) := Turn.setCell (M := fun j => j = b) w (a := ⟨b, i * 5 + 4, none⟩) rfl _
  refine ⟨⟨_, t, heap_setCell_same w b (i * 5 + 4) _ _ _ hr⟩, h.lo, fun j hj => ?_, fun j hj y e => ?_, fun j hj => ?_⟩
  · have hx := h.at' j hj
    have ho : ∀ o, o ≠ i * 5 + 4 → (w.setCell ⟨b, i * 5 + 4, none⟩ (.slice (g i).a k (g i).c)).cell? ⟨b, o, none⟩ = w.cell? ⟨b, o, none⟩ := fun o hne => World.cell?_setCell_other _ _ _ _ (by simp; try omega)
    by_cases e : j = i
    · subst e
      rw [snN, if_pos rfl]
      have hin := (hx.ins.front hk).turn ht fun y e2 e3 => h.ap j hi y e2 e3
      refine ⟨(ho _ (by omega)).trans hx.c0, (ho _ (by omega)).trans hx.c1, (ho _ (by omega)).trans hx.c2, (ho _ (by omega)).trans hx.c3, World.cell?_setCell_same _ _ _ hx.c4, hin, fun e2 => ?_, Nat.le_trans hk hx.max⟩
      have := hx.nil e2
      exact ⟨by show k = 0; omega, this.2⟩
    · rw [snN, if_neg e]
      exact ⟨(ho _ (by omega)).trans hx.c0, (ho _ (by omega)).trans hx.c1, (ho _ (by omega)).trans hx.c2, (ho _ (by omega)).trans hx.c3, (ho _ (by omega)).trans hx.c4, hx.ins.turn ht fun y e2 e3 => h.ap j hj y e2 e3, hx.nil, hx.max⟩
  · by_cases e2 : j = i
    · subst e2
      rw [snN, if_pos rfl] at e
      exact h.ap j hj y e
    · rw [snN, if_neg e2] at e
      exact h.ap j hj y e
  · by_cases e2 : j = i
    · subst e2
      rw [snN, if_pos rfl]
      exact ⟨Nat.le_trans hk (h.cap j hj).1, (h.cap j hj).2⟩
    · rw [snN, if_neg e2]
      exact h.cap j hj
/-- What trimmed leaves. -/
def TmP (w : World) (n : Nat) (f : Nat → Nw) (e : Ending) (w' : World) : Prop :=
  ∃ a c g, e = .returned (.slice a n c) ∧ NwsAt w' a n g ∧ (∀ j, j < n → (g j).nd = trn (f j).nd ∧ (g j).n ≤ (f j).n) ∧ Below w.heap.size w w'
theorem trimmed_any (a : Option Addr) (n c : Nat) (f : Nat → Nw) (w : World) (h : NwsAt w a n f) (hn : n ≤ 100000) (hm : ∀ i, i < n → (f i).n ≤ 1000000000000) :
    Calls Try.prog 28 #[.slice a n c] w (TmP w n f) := by
  have HM := Lib.hid hm
  go_enter Try.func28, Try.ntmps28
  go_wp2_with (fail)
  refine (copyList_any a n c f w h hn hm).mono ?_
  rintro e w2 ⟨v, g0, rfl, ho, hg, hb⟩
  clear h hm
  rcases ho.trl (fun j hj => (hg j hj).2.2.1) with ⟨rfl, a2, c2, rfl⟩ | ⟨b, c2, rfl, htr⟩
  · have HB := Lib.hid hb
    clear ho hg hb
    go_wp2_with (fail)
    go_loopw [4, 5] (fun v4 v5 wr => v4 = .int .i64 0 ∧ wr = w2) (fun _ _ _ => 0)
    case atStart => exact ⟨rfl, rfl⟩
    case round =>
      obtain ⟨rfl, rfl⟩ := hrel
      go_wp2_with (fail)
      go_ret
      exact ⟨_, _, g0, rfl, .inl rfl, (fun j hj => by omega), HB.out⟩
  · have HB := Lib.hid hb
    have HT := Lib.hid htr
    have HG := Lib.hid hg
    clear ho hg hb htr
    go_wp2_with (fail)
    go_loopw [4, 5] (fun v4 v5 wr => ∃ (i : Nat) (g : Nat → Nw), i ≤ n ∧ v4 = .int .i64 i ∧ TrL wr w.heap.size b n g ∧ (∀ j, j < i → (g j).nd = trn (f j).nd ∧ (g j).n ≤ (f j).n) ∧ (∀ j, i ≤ j → j < n → (g j).nd = (f j).nd ∧ (g j).n = (f j).n) ∧ Below w.heap.size w wr) (fun v4 _ _ => n - (RowKit.intOf v4).toNat)
    case atStart => exact ⟨0, g0, by omega, rfl, HT.out, (fun j hj => by omega), (fun j _ hj => ⟨(HG.out j hj).1, (HG.out j hj).2.1⟩), HB.out⟩
    case round =>
      obtain ⟨i, g, hi, rfl, ht, hg1, hg2, hb⟩ := hrel
      have HT2 := Lib.hid ht
      have HG1 := Lib.hid hg1
      have HG2 := Lib.hid hg2
      have HB2 := Lib.hid hb
      clear ht hg1 hg2 hb
      by_cases hlt : i < n
      · have hx := HT2.out.at' i hlt
        obtain ⟨cur, t, hrow⟩ := HT2.out.row
        have hbl := lt_of_block hrow
        have hfr := frozen_of_row wr b (i * 5 + 4) _ _ hrow
        obtain ⟨x, hxe⟩ : ∃ x, x = g i := ⟨_, rfl⟩
        have hgi := HG2.out i (Nat.le_refl _) hlt
        have hmi := HM.out i hlt
        rw [← hxe] at hx hgi
        have HXE := Lib.hid hxe
        have HX := Lib.hid hx
        have HGI := Lib.hid hgi
        have k0 : (0 : Int) ≤ (i : Int) := by omega
        have k1 : (i : Int) < (n : Int) := by omega
        have c4 := hx.c4
        have hxn : x.n ≤ 1000000000000 := by rw [hgi.2]; exact hmi
        have HXN := Lib.hid hxn
        clear hxe hx hgi hmi hxn hrow
        go_upto_region 6 with fail
        go_loopw [5] (fun v wk => wk = wr ∧ ∃ k : Nat, k ≤ x.n ∧ v = .int .i64 k ∧ lst x.ks x.n = lst x.ks k) (fun v _ => (RowKit.intOf v).toNat)
        case atStart => exact ⟨rfl, x.n, Nat.le_refl _, rfl, rfl⟩
        case round =>
          obtain ⟨rfl, k, hk, rfl, hls⟩ := hrel
          have HLS := Lib.hid hls
          clear hls
          by_cases hk0 : k = 0
          · subst hk0
            have hcap := HT2.out.cap i hlt
            rw [← HXE.out] at hcap
            have hkx : 0 ≤ x.n := by omega
            have htr := HT2.out.trim hlt (k := 0) (by rw [← HXE.out]; exact hkx)
            have hnd : (ctN' x 0).nd = trn (f i).nd := by
              rw [← HGI.out.1]
              have hl := HX.out.ins.len
              show (⟨x.ino, x.kind, x.links, x.size, x.ks.take 0⟩ : Nd) = ⟨x.ino, x.kind, x.links, x.size, trm x.ks⟩
              rw [trm, hl, HLS.out.trans (show lst x.ks 0 = 0 from rfl)]
            have HND := Lib.hid hnd
            have HKX := Lib.hid (show (ctN' x 0).n ≤ (f i).n by rw [← HGI.out.2]; exact hkx)
            rw [← HXE.out] at htr
            have HTR := Lib.hid htr
            obtain ⟨hc1, hc2⟩ := hcap
            have q1 : (0 : Int) ≤ (x.c : Int) := by omega
            have q2 : (0 : Int) ≤ (0 : Int) := by omega
            clear htr hnd hkx
            have hn0 : x.a = none → x.c = 0 := fun e => (HX.out.nil e).2
            cases hxa : x.a with
            | none =>
              rw [hxa, hn0 hxa] at c4
              rw [hxa] at HTR
              rw [hn0 hxa] at HTR
              go_wp2_with (fail)
              go_roundw
              case rel =>
                refine ⟨i + 1, _, by omega, by go_num, HTR.out, fun j hj => ?_, fun j hj1 hj2 => ?_, Below.setCell (p := ⟨b, i * 5 + 4, none⟩) HB2.out HT2.out.lo _⟩
                · by_cases e : j = i
                  · subst e
                    rw [snN, if_pos rfl]
                    exact ⟨HND.out, HKX.out⟩
                  · rw [snN, if_neg e]
                    exact HG1.out j (by omega)
                · rw [snN, if_neg (by omega)]
                  exact HG2.out j (by omega) hj2
              case measure => simp [RowKit.intOf]; omega
            | some y =>
              obtain ⟨yb, yo, ys⟩ := y
              rw [hxa] at c4 HTR
              go_wp2_with (fail)
              go_roundw
              case rel =>
                refine ⟨i + 1, _, by omega, by go_num, HTR.out, fun j hj => ?_, fun j hj1 hj2 => ?_, Below.setCell (p := ⟨b, i * 5 + 4, none⟩) HB2.out HT2.out.lo _⟩
                · by_cases e : j = i
                  · subst e
                    rw [snN, if_pos rfl]
                    exact ⟨HND.out, HKX.out⟩
                  · rw [snN, if_neg e]
                    exact HG1.out j (by omega)
                · rw [snN, if_neg (by omega)]
                  exact HG2.out j (by omega) hj2
              case measure => simp [RowKit.intOf]; omega
          · obtain ⟨ba, oa, hae, hal, hac⟩ := HX.out.ins.at (by omega : 0 < x.n)
            obtain ⟨m, rfl⟩ : ∃ m, k = m + 1 := ⟨k - 1, by omega⟩
            have hcm := hac m (by omega)
            rw [hae] at c4
            obtain ⟨z, hz⟩ : ∃ z, z = num x.ks m := ⟨_, rfl⟩
            rw [← hz] at hcm
            have HZ := Lib.hid hz
            have k2 : ((m + 1 : Nat) : Int) - 1 = (m : Int) := by omega
            have k3 : (m : Int) < (x.n : Int) := by omega
            have k4 : (0 : Int) < ((m + 1 : Nat) : Int) := by omega
            have hwm : IntKind.i64.wrap (m : Int) = (m : Int) := IntWalk.i64_in _ (by have := HXN.out; omega)
            clear hz hac
            by_cases hz0 : z = 0
            · have d0 : (z == 0) = true := by simp [hz0]
              have HL2 := Lib.hid (show lst x.ks x.n = lst x.ks m by rw [HLS.out, lst, if_pos (by rw [← HZ.out]; exact hz0)])
              clear hz0
              go_wp2_with (fail)
              go_roundw
              case rel => exact ⟨by trivial, m, by omega, by go_num, HL2.out⟩
              case measure => simp [RowKit.intOf]; try omega
            · have d0 : (z == 0) = false := by simp [hz0]
              have HL2 := Lib.hid (show lst x.ks x.n = m + 1 by rw [HLS.out, lst, if_neg (by rw [← HZ.out]; exact hz0)])
              clear hz0
              have hcap := HT2.out.cap i hlt
              rw [← HXE.out] at hcap
              have hkx : (m + 1) ≤ x.n := by omega
              have htr := HT2.out.trim hlt (k := (m + 1)) (by rw [← HXE.out]; exact hkx)
              have hnd : (ctN' x (m + 1)).nd = trn (f i).nd := by
                rw [← HGI.out.1]
                have hl := HX.out.ins.len
                show (⟨x.ino, x.kind, x.links, x.size, x.ks.take (m + 1)⟩ : Nd) = ⟨x.ino, x.kind, x.links, x.size, trm x.ks⟩
                rw [trm, hl, HL2.out]
              have HND := Lib.hid hnd
              have HKX := Lib.hid (show (ctN' x (m + 1)).n ≤ (f i).n by rw [← HGI.out.2]; exact hkx)
              rw [← HXE.out] at htr
              have HTR := Lib.hid htr
              obtain ⟨hc1, hc2⟩ := hcap
              have q1 : ((m + 1) : Int) ≤ (x.c : Int) := by omega
              have q2 : (0 : Int) ≤ ((m + 1) : Int) := by omega
              clear htr hnd hkx
              rw [hae] at HTR
              go_wp2_with (fail)
              go_roundw
              case rel =>
                refine ⟨i + 1, _, by omega, by go_num, HTR.out, fun j hj => ?_, fun j hj1 hj2 => ?_, Below.setCell (p := ⟨b, i * 5 + 4, none⟩) HB2.out HT2.out.lo _⟩
                · by_cases e : j = i
                  · subst e
                    rw [snN, if_pos rfl]
                    exact ⟨HND.out, HKX.out⟩
                  · rw [snN, if_neg e]
                    exact HG1.out j (by omega)
                · rw [snN, if_neg (by omega)]
                  exact HG2.out j (by omega) hj2
              case measure => simp [RowKit.intOf]; omega
      · obtain rfl : i = n := by omega
        go_wp2_with (fail)
        go_ret
        refine ⟨_, _, g, rfl, ?_, HG1.out, HB2.out⟩
        obtain ⟨cur, t, hrow⟩ := HT2.out.row
        exact .inr ⟨b, 0, rfl, lt_of_block hrow, fun j hj => by rw [Nat.zero_add]; exact HT2.out.at' j hj⟩
end Go.Proofs.Ytegcjpocdfmpfaa
namespace Go.Proofs.Ytegcjpocdfmpfaa
open Go.RowKit Go.Maps

def zI (x : Int) : Lit := .int .i64 x
theorem zI_inj {a b : Int} (h : zI a = zI b) : a = b := by simpa [zI] using h
theorem zI_wf {x : Int} (h : -9223372036854775808 ≤ x ∧ x ≤ 9223372036854775807) : (Lit.int .i64 x).wf = true := WalkArith.wf_i64 h
theorem zI_of {x : Int} (h : -9223372036854775808 ≤ x ∧ x ≤ 9223372036854775807) : keyOf Try.prog 3 (.int .i64 x) = some (zI x) := keyOf_int_mk Try.underlying3 (zI_wf h)
structure KpM (D : DataW Unit) (m : List Int) : Prop where
  tidy : Tidy D
  has : ∀ k : Int, Maps.has D (zI k) = decide (k ∈ m)
  size : Maps.size D = m.length
theorem KpM.none : KpM (.map []) [] := ⟨tidy_empty, fun k => rfl, rfl⟩
theorem KpM.ins {D : DataW Unit} {m : List Int} (h : KpM D m) {a : Int} (hb : -9223372036854775808 ≤ a ∧ a ≤ 9223372036854775807) (e : DataW Unit) : KpM (D.put (zI a) e) (insK a m) := by
  have hk : WideAt.IsKeyLit (zI a) := lawN.key (zI_of hb)
  have hm := h.tidy.isMap
  refine ⟨h.tidy.put hk _, fun k => ?_, ?_⟩
  · by_cases e : k = a
    · subst e
      rw [has_put_same hm hk]
      unfold insK; split <;> simp_all
    · rw [has_put_other (fun x => e (zI_inj x)), h.has]
      unfold insK; split <;> simp [e]
  · rw [size_put h.tidy, h.has, h.size]
    unfold insK; split <;> simp_all
def KpAt (w : World) (b : Nat) (m : List Int) (N : Nat) : Prop := ∃ D, w.ownsMap Try.prog 3 (plainElem Try.prog 4) b N D ∧ KpM D m
theorem KpAt.put {w : World} {b N : Nat} {m : List Int} (h : KpAt w b m N) {a : Int} (hb : -9223372036854775808 ≤ a ∧ a ≤ 9223372036854775807) (hN : N ≤ 1000000000) :
    ∃ w', (Instr.mapUpdate 53 (.map (some b)) (.int .i64 a) (.bool true)).run Try.prog w = .ok () w' ∧ KpAt w' b (insK a m) (N + 1) ∧ w.mapTurned w' b := by
  obtain ⟨D, h1, h2⟩ := h
  obtain ⟨w', hrun, hown, ht⟩ := h1.store lawN Try.underlying53 (by unfold maxLen; omega) (zI_of hb) (plainElem_bool Try.underlying4 true)
  exact ⟨w', hrun, ⟨_, hown, h2.ins hb _⟩, ht⟩
theorem KpAt.new (w : World) : KpAt (w.alloc (.map #[] 0)) w.heap.size [] 0 := ⟨_, World.ownsMap_made (H := Unit) w Try.prog 3 (plainElem Try.prog 4), KpM.none⟩
end Go.Proofs.Ytegcjpocdfmpfaa
namespace Go.Proofs.Ytegcjpocdfmpfaa
open Go.RowKit

/-- Numbers by their places. -/
def sq (f : Nat → Int) (i : Nat) : List Int := (List.range i).map f
theorem sq_len (f : Nat → Int) (i : Nat) : (sq f i).length = i := by simp [sq]
theorem sq_succ (f : Nat → Int) (i : Nat) : sq f (i + 1) = sq f i ++ [f i] := by simp [sq, List.range_succ]
theorem sq_num (f : Nat → Int) {i j : Nat} (h : j < i) : num (sq f i) j = f j := by simp [sq, num, List.getD, List.getElem?_range h]
theorem sq_any (f : Nat → Int) {i : Nat} {A : Int} (h : ∀ j, j < i → 1 ≤ f j ∧ f j ≤ A) : ((sq f i).any fun a => !isA A a) = false := by
  rw [List.any_eq_false]
  intro x hx
  obtain ⟨j, hj, rfl⟩ := List.mem_map.1 hx
  have := isA_iff.2 (h j (List.mem_range.1 hj))
  simp [this]

structure StH (w : World) (B g : Nat) (vA vD : Value) (ks : List Int) (ps : List Pc) : Prop where
  row : w.heap[g]? = some (.cells #[vA, vD] 43 (0, 0))
  oa : OwnI w B vA ks.length ks
  od : w.ownsRow B 50 1 vD ps.length (ps.map pcV)
  na : vA.ownBlock ≠ some g
  nd : vD.ownBlock ≠ some g
  ne : ∀ j, vA.ownBlock = some j → vD.ownBlock ≠ some j
section
variable {w w' : World} {B g : Nat} {vA vD : Value} {ks : List Int} {ps : List Pc}
theorem StH.next (h : StH w B g vA vD ks ps) (hb : Below w.heap.size w w') : StH w' B g vA vD ks ps :=
  ⟨(hb.block g (lt_of_block h.row)).trans h.row, h.oa.next hb, h.od.kept (row := none) ⟨hb.os, hb.tape, hb.output, hb.size, fun k hk _ => hb.block k hk⟩ (by cases vD.ownBlock <;> simp), h.na, h.nd, h.ne⟩
theorem StH.cells (h : StH w B g vA vD ks ps) : g < w.heap.size ∧ w.cell? ⟨g, 0, none⟩ = some vA ∧ w.cell? ⟨g, 1, none⟩ = some vD ∧ w.frozen? ⟨g, 0, none⟩ = false ∧ w.frozen? ⟨g, 1, none⟩ = false :=
  ⟨lt_of_block h.row, cell_of_row w g 0 _ _ (0, 0) h.row, cell_of_row w g 1 _ _ (0, 0) h.row, frozen_of_row w g 0 _ _ h.row, frozen_of_row w g 1 _ _ h.row⟩
theorem StH.addA (h : StH w B g vA vD ks ps) {v' : Value} {z : Int} (ho : w'.ownsRow B 3 1 v' (ks.length + 1) (ks.map (Value.int .i64) ++ [.int .i64 z])) (hg : w.grownBy w' vA.ownBlock) {g1 : Nat} (hv : v'.ownBlock = some g1) (h1 : vA.ownBlock = some g1 ∨ g1 = w.heap.size) :
    StH (w'.setCell ⟨g, 0, none⟩ v') B g v' vD (ks ++ [z]) ps := by
  have hgl := lt_of_block h.row
  have hr : w'.heap[g]? = some (.cells #[vA, vD] 43 (0, 0)) := (hg.block g hgl fun e => h.na e.symm).trans h.row
  have hn1 : v'.ownBlock ≠ some g := by
    rw [hv]
    intro e
    cases e
    rcases h1 with e | e
    · exact h.na e
    · omega
  have hne2 : ∀ j, v'.ownBlock = some j → vD.ownBlock ≠ some j := by
    intro j e e2
    rw [hv] at e
    cases e
    rcases h1 with e | e
    · exact h.ne _ e e2
    · have := (World.ownsRow.lt h.od _ e2).2
      omega
  refine ⟨?_, ?_, ?_, hn1, h.nd, hne2⟩
  · rw [heap_setCell_same w' g 0 _ _ _ hr]; rfl
  · have ho2 : OwnI w' B v' (ks ++ [z]).length (ks ++ [z]) := by
      unfold OwnI
      rw [List.map_append, List.length_append]
      exact ho
    exact ho2.turn (M := (· = g)) (Turn.setCell (M := fun j => j = _) w' (a := ⟨_, 0, none⟩) rfl _) fun j e hj => hn1 (by rw [← hj]; exact e)
  · exact ownsRow_setCell_other (h.od.kept hg (by
      rcases hd : vD.ownBlock with _ | k
      · exact .inl rfl
      · exact .inr fun e => h.ne k e.symm hd)) (by exact h.nd) _
theorem StH.addD (h : StH w B g vA vD ks ps) {v' : Value} {p : Pc} (ho : w'.ownsRow B 50 1 v' (ps.length + 1) (ps.map pcV ++ [pcV p])) (hg : w.grownBy w' vD.ownBlock) {g1 : Nat} (hv : v'.ownBlock = some g1) (h1 : vD.ownBlock = some g1 ∨ g1 = w.heap.size) :
    StH (w'.setCell ⟨g, 1, none⟩ v') B g vA v' ks (ps ++ [p]) := by
  have hgl := lt_of_block h.row
  have hr : w'.heap[g]? = some (.cells #[vA, vD] 43 (0, 0)) := (hg.block g hgl fun e => h.nd e.symm).trans h.row
  have hn1 : v'.ownBlock ≠ some g := by
    rw [hv]
    intro e
    cases e
    rcases h1 with e | e
    · exact h.nd e
    · omega
  have hne2 : ∀ j, vA.ownBlock = some j → v'.ownBlock ≠ some j := by
    intro j e e2
    rw [hv] at e2
    cases e2
    rcases h1 with e3 | e3
    · exact h.ne _ e e3
    · have := (World.ownsRow.lt h.oa _ e).2
      omega
  refine ⟨?_, ?_, ?_, h.na, hn1, hne2⟩
  · rw [heap_setCell_same w' g 1 _ _ _ hr]; rfl
  · exact (h.oa.turn (Turn.of_grown (M := fun j => vD.ownBlock = some j) hg (fun b e => e)) fun j e e2 => h.ne j e e2).turn (M := (· = g)) (Turn.setCell (M := fun j => j = _) w' (a := ⟨_, 1, none⟩) rfl _) fun j e hj => h.na (by rw [← hj]; exact e)
  · refine ownsRow_setCell_other ?_ (by exact hn1) _
    rw [List.map_append, List.length_append]
    exact ho
/-- What is filled is a store. -/
theorem StH.sto (h : StH w B g vA vD ks ps) (he : ∀ p, p ∈ ps → Pin w p.a p.n p.c p.zs ∧ p.n ≤ 1000000000000) (hl : ks.length = ps.length) (hm : ks.length ≤ 1000000) :
    ∃ A cA Dt cD, Sto w g A ks.length cA Dt ps.length cD ks (fun i => ps.getD i default) := by
  obtain ⟨a, c, rfl, hi, _⟩ := h.oa.ins
  obtain ⟨h1, h2, h3, _⟩ := h.cells
  have hget : ∀ i, i < ps.length → ps.getD i default ∈ ps := fun i hi => by
    rw [show ps.getD i default = ps[i] by simp [List.getD, hi]]; exact List.getElem_mem hi
  rcases h.od.2 with ⟨rfl, h0⟩ | ⟨b, cap, cur, rfl, hb, hg, hnc, hmx, hsz, htake⟩
  · refine ⟨a, c, none, 0, h1, h2, ?_, hi, ⟨.inl h0, fun i hi => (he _ (hget i hi)).1⟩, by omega, hm, fun i hi => (he _ (hget i (by omega))).2⟩
    rw [h3, h0]
  · refine ⟨a, c, some ⟨b, 0, none⟩, cap, h1, h2, h3, hi, ⟨.inr ⟨b, 0, rfl, lt_of_block hg, fun i hi => ?_⟩, fun i hi => (he _ (hget i hi)).1⟩, by omega, hm, fun i hi => (he _ (hget i (by omega))).2⟩
    have := h.od.cellAt i (by omega)
    rw [Nat.zero_add, this]
    simp [List.getElem?_map, List.getElem?_eq_getElem hi, List.getD, hi]
theorem StH.far (h : StH w B g vA vD ks ps) {wx : World} (hb : Below w.heap.size w wx) {row : Option Nat} (hg : wx.grownBy w' row) (hr : row ≠ some g) :
    g < w'.heap.size ∧ w'.cell? ⟨g, 0, none⟩ = some vA ∧ w'.cell? ⟨g, 1, none⟩ = some vD ∧ w'.frozen? ⟨g, 0, none⟩ = false ∧ w'.frozen? ⟨g, 1, none⟩ = false := by
  have h2 := h.next hb
  have hr : w'.heap[g]? = _ := (hg.block g (lt_of_block h2.row) fun e => hr e.symm).trans h2.row
  exact ⟨lt_of_block hr, cell_of_row _ _ 0 _ _ (0, 0) hr, cell_of_row _ _ 1 _ _ (0, 0) hr, frozen_of_row _ _ 0 _ _ hr, frozen_of_row _ _ 1 _ _ hr⟩
abbrev Tg2 (g B : Nat) (j : Nat) : Prop := j = g ∨ B ≤ j
theorem StH.putA (h : StH w B g vA vD ks ps) {w0 wx : World} (ht : Turn (Tg2 g B) w0 w) (hB : B ≤ w.heap.size) (hx : Below w.heap.size w wx) {z : Int} {n cap g1 H : Nat} (hn : ks.length = n) (ho : w'.ownsRow B 3 1 (.slice (some ⟨g1, 0, none⟩) (n + 1) cap) (n + 1) (ks.map (Value.int .i64) ++ [.int .i64 z])) (hg : wx.grownBy w' vA.ownBlock) (h1 : vA.ownBlock = some g1 ∨ g1 = H) (hH : wx.heap.size = H) :
    StH (w'.setCell ⟨g, 0, none⟩ (.slice (some ⟨g1, 0, none⟩) (n + 1) cap)) B g (.slice (some ⟨g1, 0, none⟩) (n + 1) cap) vD (ks ++ [z]) ps ∧ Turn (Tg2 g B) w0 (w'.setCell ⟨g, 0, none⟩ (.slice (some ⟨g1, 0, none⟩) (n + 1) cap)) := by
  have h2 := h.next hx
  have ht2 : Turn (Tg2 g B) w0 wx := ht.trans (Turn.of_below hx)
  refine ⟨h2.addA (by rw [hn]; exact ho) hg rfl (by rw [hH]; exact h1), (ht2.trans (Turn.of_grown hg fun b e => .inr (World.ownsRow.lt h2.oa b e).1)).trans (Turn.setCell w' (a := ⟨g, 0, none⟩) (.inl rfl) _)⟩
theorem StH.putD (h : StH w B g vA vD ks ps) {w0 wx : World} (ht : Turn (Tg2 g B) w0 w) (hB : B ≤ w.heap.size) (hx : Below w.heap.size w wx) {p : Pc} {n cap g1 H : Nat} (hn : ps.length = n) (ho : w'.ownsRow B 50 1 (.slice (some ⟨g1, 0, none⟩) (n + 1) cap) (n + 1) (ps.map pcV ++ [pcV p])) (hg : wx.grownBy w' vD.ownBlock) (h1 : vD.ownBlock = some g1 ∨ g1 = H) (hH : wx.heap.size = H) :
    StH (w'.setCell ⟨g, 1, none⟩ (.slice (some ⟨g1, 0, none⟩) (n + 1) cap)) B g vA (.slice (some ⟨g1, 0, none⟩) (n + 1) cap) ks (ps ++ [p]) ∧ Turn (Tg2 g B) w0 (w'.setCell ⟨g, 1, none⟩ (.slice (some ⟨g1, 0, none⟩) (n + 1) cap)) := by
  have h2 := h.next hx
  have ht2 : Turn (Tg2 g B) w0 wx := ht.trans (Turn.of_below hx)
  refine ⟨h2.addD (by rw [hn]; exact ho) hg rfl (by rw [hH]; exact h1), (ht2.trans (Turn.of_grown hg fun b e => .inr (World.ownsRow.lt h2.od b e).1)).trans (Turn.setCell w' (a := ⟨g, 1, none⟩) (.inl rfl) _)⟩
/-- Blocks don't lie in a store's own cells. -/
theorem bls_far {a : Option Addr} {gs : List Bl} (h : BlsAt w a gs) (hr : w.heap[g]? = some (.cells #[.slice none 0 0, .slice none 0 0] 43 (0, 0))) (hz : ∀ x, x ∈ gs → 0 < x.n) :
    gs.length = 0 ∨ ∃ b off, a = some ⟨b, off, none⟩ ∧ b < w.heap.size ∧ b ≠ g ∧ ∀ i (hi : i < gs.length), BlIn w b (off + i * 3) gs[i] ∧ ∀ y, gs[i].a = some y → y.block ≠ g ∧ y.block < w.heap.size := by
  have hcell : ∀ o (k : IntKind) (z : Int), w.cell? ⟨g, o, none⟩ ≠ some (.int k z) := by
    intro o k z e
    rw [cell_of_row w g o _ _ (0, 0) hr] at e
    match o, e with
    | 0, e => cases e
    | 1, e => cases e
    | n + 2, e => simp at e
  rcases h with h0 | ⟨b, off, e, hlt, hc⟩
  · exact .inl h0
  by_cases h0 : gs.length = 0
  · exact .inl h0
  refine .inr ⟨b, off, e, hlt, fun eb => ?_, fun i hi => ⟨hc i hi, fun y ey => ?_⟩⟩
  · subst eb
    exact hcell _ _ _ (hc 0 (by omega)).c0
  · have hp := (hc i hi).pin
    have hn := hz _ (List.getElem_mem hi)
    rcases hp.bys.place with e0 | ⟨b2, o2, e2, hl2, hcs⟩
    · omega
    · rw [ey] at e2
      cases e2
      refine ⟨fun eb => ?_, hl2⟩
      have := hcs 0 hn
      simp only at eb
      subst eb
      exact hcell _ _ _ this
/-- 'append(s, x)' of one number, s of the call's own: what else is as it was. -/
theorem wpList_apG {ops : Array Oper} {rest : List Oper} {o : Oper} {a : Act} {Q : Exit → Act → World → Prop} (hgd : o.guard = none) (s x : Operand)
    (ho : o.op = .call { callee := .builtin .append, args := #[s, x], argTypes := #[25, 25] })
    (B : Nat) (v : Value) (n : Nat) (ks : List Int) (hs : a.eval s = v) (hown : OwnI w B v n ks) (g : Nat) (z : Int) (hx : a.eval x = .slice (some ⟨g, 0, none⟩) 1 1) (hg : w.cell? ⟨g, 0, none⟩ = some (.int .i64 z))
    (hn : n + 1 ≤ 1000000000000) (hB : B ≤ w.heap.size) (w0 : World) (hb : Below B w0 w)
    (h : ∀ v' w', OwnI w' B v' (n + 1) (ks ++ [z]) → w.grownBy w' v.ownBlock → (∀ j, v'.ownBlock = some j → v.ownBlock = some j ∨ j = w.heap.size) → Below B w0 w' → wpList Try.prog ops Q rest (a.put o.dst v') w') : wpList Try.prog ops Q (o :: rest) a w := by
  obtain ⟨i0, hi, hz0, hz1, hz2⟩ := info_parts info3
  refine wpList_append_lies w hgd s x 25 ho B 3 i0 (.int .i64 0) 1 8 Try.underlying25 hi hz0 hz1 hz2 rfl (by decide) v n _ hs hown ⟨g, 0, none⟩ 1 1 [.int .i64 z] hx rfl ?_ ?_ (by decide) (by unfold maxLen; omega) (by omega) hB w.heap.size rfl ?_
  · intro j u hj
    cases j with
    | zero =>
      simp at hj
      subst hj
      exact hg
    | succ j => simp at hj
  · intro u hu
    rw [List.mem_singleton.1 hu]
    rfl
  · intro g1 cap w' hown' hgrow hat hlt
    refine h _ w' (by unfold OwnI; rw [List.map_append]; exact hown') hgrow (fun j e => ?_) (hb.grown hgrow hB fun k hk => (World.ownsRow.lt hown k hk).1)
    have e3 : g1 = j := by simpa [Value.ownBlock] using e
    subst e3
    exact hat
theorem first_of {m : Nat} {p : Nat → Prop} (h : ∃ i, i < m ∧ p i) : ∃ i, i < m ∧ p i ∧ ∀ k, k < i → ¬ p k := by
  induction m with
  | zero => obtain ⟨i, hi, _⟩ := h; omega
  | succ m ih =>
    by_cases e : ∃ i, i < m ∧ p i
    · obtain ⟨i, h1, h2, h3⟩ := ih e
      exact ⟨i, by omega, h2, h3⟩
    · obtain ⟨i, h1, h2⟩ := h
      have : i = m := by
        rcases Nat.lt_or_ge i m with h | h
        · exact (e ⟨i, h, h2⟩).elim
        · omega
      subst this
      exact ⟨i, h1, h2, fun k hk hp => e ⟨k, hk, hp⟩⟩
theorem blk_ix {ix : List Nat} {at' : Nat → Int} {P : Nat → Pc} (hinj : ∀ a, a ∈ ix → ∀ b, b ∈ ix → at' a = at' b → a = b) {j : Nat} (hj : j ∈ ix) :
    blkF (ix.map at') (fun i => (ix.map P).getD i default) (at' j) = some (P j).zs := by
  have hnum : ∀ i (hi : i < ix.length), num (ix.map at') i = at' ix[i] := fun i hi => by simp [num, List.getD, hi]
  obtain ⟨i, h1, h2, h3⟩ := first_of (m := ix.length) (p := fun i => num (ix.map at') i = at' j) (by
    obtain ⟨i, hi, e⟩ := List.getElem_of_mem hj
    exact ⟨i, hi, by rw [hnum i hi, e]⟩)
  rw [blkF_at (i := i) (by simpa using h1) h2 h3]
  rw [hnum i h1] at h2
  have := hinj _ (List.getElem_mem h1) _ hj h2
  simp [List.getD, h1, this]
end
theorem dB_z (n : Nd) (k : Nat) : ∀ x ∈ dB n k, x.z.length = 56 := by
  induction k with
  | zero => intro x hx; cases hx
  | succ k ih =>
    intro x hx
    rw [dB, List.mem_append] at hx
    rcases hx with hx | hx
    · exact ih x hx
    · split at hx
      · rw [List.mem_singleton.1 hx]; exact ppL_len (by rw [prt, tb_len]; omega)
      · cases hx
theorem ndB_z (at' : Nat → Int) (n : Nd) (m : Nat) : ∀ x ∈ ndB at' n m, x.z.length = 56 := by
  intro x hx
  rw [ndB, bod, List.mem_append, List.mem_append, List.mem_append] at hx
  rcases hx with ((hx | hx) | hx) | hx
  · rw [sB] at hx
    split at hx
    · rw [List.mem_singleton.1 hx]; exact ppL_len (by rw [prt, tb_len]; omega)
    · cases hx
  · exact dB_z n 28 x hx
  · rw [dL] at hx
    split at hx
    · rw [List.mem_singleton.1 hx]; exact ppL_len (by rw [dP, tb_len]; omega)
    · cases hx
  · rw [List.mem_singleton.1 hx]; exact recB_len _
theorem lB_z (at' : Nat → Int) (f : Nat → Nd) (n : Nat) : ∀ x ∈ lB at' f n, x.z.length = 56 := by
  induction n with
  | zero => intro x hx; cases hx
  | succ n ih =>
    intro x hx
    rw [lB, List.mem_append] at hx
    rcases hx with hx | hx
    · exact ih x hx
    · exact ndB_z _ _ _ x hx
theorem layB_z (at' : Nat → Int) (f : Nat → Nd) (n : Nat) : ∀ x ∈ layB at' f n, x.z.length = 56 := by
  intro x hx
  rw [layB, List.mem_append] at hx
  rcases hx with hx | hx
  · exact lB_z at' f n x hx
  · simp only [List.mem_cons, List.not_mem_nil, or_false] at hx
    rcases hx with rfl | rfl | rfl
    · exact ppL_len (by rw [tb_len]; omega)
    · exact ppL_len (by rw [tb_len]; omega)
    · exact rtB_len _ _
def blP (x : Bl) : Pc := ⟨x.a, x.n, x.c, x.z⟩
end Go.Proofs.Ytegcjpocdfmpfaa
