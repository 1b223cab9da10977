/-
  The library's Concat of two rows of pieces, by contract.
-/
import Derived.Test.YtegmeoghonolcaaGreatRowO
import Derived.Test.YtegmeoghonolcaaGreatHb
import Derived.Test.YtegmeoghonolcaaGreatGe
import Derived.Test.YtegmeoghonolcaaGreatBka
import Derived.Test.YtegmeoghonolcaaGreatRwa
import Derived.Test.YtegmeoghonolcaaGreatRda
set_option linter.unusedSimpArgs false
set_option linter.unusedVariables false
namespace Go.Proofs.YtegmeoghonolcaaGreat
open Go.RowKit
set_option linter.unusedVariables false

/-- n pieces, then others. -/
def appR (f : Nat → Pc) (n : Nat) (g : Nat → Pc) : Nat → Pc := fun i => if i < n then f i else g (i - n)
theorem vals_app (f g : Nat → Pc) (n m : Nat) : vals (appR f n g) (n + m) = vals f n ++ vals g m := by
  induction m with
  | zero =>
    rw [Nat.add_zero, show vals g 0 = [] from rfl, List.append_nil]
    unfold vals
    exact List.map_congr_left fun i hi => by rw [appR, if_pos (List.mem_range.1 hi)]
  | succ m ih =>
    have h1 : vals (appR f n g) (n + (m + 1)) = vals (appR f n g) (n + m) ++ [.slice (g m).a (g m).n (g m).c] := by
      rw [show n + (m + 1) = n + m + 1 by omega]
      unfold vals
      rw [List.range_succ, List.map_append]
      simp only [List.map_cons, List.map_nil, appR]
      rw [if_neg (by omega), Nat.add_sub_cancel_left]
    have h2 : vals g (m + 1) = vals g m ++ [.slice (g m).a (g m).n (g m).c] := by
      unfold vals
      rw [List.range_succ, List.map_append]
      simp
    rw [h1, h2, ih, List.append_assoc]
/-- 'append(rows, x...)'. -/
theorem wpList_apRs {w : World} {ops : Array Oper} {rest : List Oper} {o : Oper} {a : Act} {Q : Exit → Act → World → Prop} (hgd : o.guard = none) (s x : Operand)
    (ho : o.op = .call { callee := .builtin .append, args := #[s, x], argTypes := #[24, 24] })
    (B : Nat) (v : Value) (n : Nat) (f : Nat → Pc) (hs : a.eval s = v) (hown : OwnR w B v n f) (b off m c : Nat) (g : Nat → Pc) (hx : a.eval x = .slice (some ⟨b, off, none⟩) m c)
    (hg : Rws w (some ⟨b, off, none⟩) m g) (hap : ∀ i, i < m → (g i).n = 0 ∨ ∀ y, (g i).a = some y → some y.block ≠ v.ownBlock)
    (hm : 0 < m) (hn : n + m ≤ 1000000000000) (hB : B ≤ w.heap.size) (w0 : World) (hb : Below B w0 w)
    (h : ∀ v' w', OwnR w' B v' (n + m) (appR f n g) → Below B w0 w' → wpList Tryz.prog ops Q rest (a.put o.dst v') w') : wpList Tryz.prog ops Q (o :: rest) a w := by
  obtain ⟨i0, hi, hz0, hz1, hz2⟩ := info_parts info24
  obtain ⟨hcl⟩ : Nonempty (∀ i, i < m → w.cell? ⟨b, off + i, none⟩ = some (.slice (g i).a (g i).n (g i).c)) := by
    rcases hg.place with h0 | ⟨b', off', e, _, hc⟩
    · omega
    · cases e
      exact ⟨hc⟩
  refine wpList_append_lies (P := Tryz.prog) w hgd s x 24 ho B 42 i0 (.slice none 0 0) 1 24 Tryz.underlying24 hi hz0 hz1 hz2 rfl (by omega) v n _ hs hown.row ⟨b, off, none⟩ m c (vals g m) hx (by rw [vals_len, Nat.mul_one]) ?_ ?_ hm (by unfold maxLen; omega) (by omega) hB _ rfl ?_
  · intro j u hj
    have hjm : j < m := by
      rcases Nat.lt_or_ge j m with h | h
      · exact h
      · rw [List.getElem?_eq_none (by rw [vals_len]; exact h)] at hj; cases hj
    rw [vals_at hjm] at hj
    cases hj
    rw [show (⟨b, off, none⟩ : Addr).add j = ⟨b, off + j, none⟩ by unfold Addr.add; split <;> simp_all]
    exact hcl j hjm
  · intro u hu
    obtain ⟨i, _, rfl⟩ := List.mem_map.1 hu
    rfl
  · intro g' cap w' hown' hgrow hat hlt
    have hE : (Value.slice (some ⟨g', 0, none⟩) (n + m) cap).ownBlock = some g' := rfl
    have hap' : ∀ {pa : Option Addr} {pn pc : Nat} {pz : List Int}, Pin w pa pn pc pz → (pn = 0 ∨ ∀ y, pa = some y → some y.block ≠ v.ownBlock) → (pn = 0 ∨ ∀ y, pa = some y → some y.block ≠ some g') := by
      intro pa pn pc pz hp h
      rcases h with h0 | hne
      · exact .inl h0
      rcases hp.bys.place with h0 | ⟨b, off, e, hb', _⟩
      · exact .inl h0
      right
      intro y hy e2
      rcases hat with h1 | h1
      · exact hne y hy (by rw [h1]; exact e2)
      · rw [e] at hy
        cases hy
        have : b = g' := by simpa using e2
        omega
    refine h _ w' ⟨by rw [vals_app]; exact hown', fun i hi => ?_, fun i hi => ?_⟩ (hb.grown hgrow hB fun k hk => (hown.row.lt k hk).1)
    · unfold appR
      by_cases h1 : i < n
      · rw [if_pos h1]; exact (hown.each i h1).grown hgrow (hown.apart i h1)
      · rw [if_neg h1]; exact (hg.each (i - n) (by omega)).grown hgrow (hap (i - n) (by omega))
    · rw [hE]
      unfold appR
      by_cases h1 : i < n
      · rw [if_pos h1]; exact hap' (hown.each i h1) (hown.apart i h1)
      · rw [if_neg h1]; exact hap' (hg.each (i - n) (by omega)) (hap (i - n) (by omega))

/-- Room for n pieces. -/
theorem growR_any (n : Nat) (w : World) (hn : n ≤ 1000000000) (h0 : 0 < n) : Calls Tryz.prog 142 #[.slice none 0 0, .int .i64 n] w fun e w' => ∃ v, e = .returned v ∧ (∀ f, OwnR w' w.heap.size v 0 f) ∧ (∀ k, v.ownBlock = some k → w.heap.size ≤ k) ∧ Below w.heap.size w w' := by
  obtain ⟨i0, hi, hz0, hz1, hz2⟩ := info_parts info24
  refine (Any8.slices_Grow_grow growB i0 (.slice none 0 0) hi hz0 (by rw [hz1]; omega) none 0 0 n [] w (Nat.le_refl _) (by omega) (by rw [hz2]; omega) (by omega) (by simp) (fun _ => rfl) (fun a h => by cases h)).mono fun e w' ⟨he, hw⟩ => ?_
  subst he hw
  refine ⟨_, rfl, fun f => ⟨World.ownsRow_made w.drew _ _ (Nat.le_refl _) ?_ ?_, fun i hi => by omega, fun i hi => by omega⟩, fun k hk => ?_, ?_⟩
  · exact grownCap_le_maxLen w (0 + n) 0 42 (by unfold maxLen; omega)
  · have h1 : n ≤ grownCap w (0 + n) 0 42 := by have := grownCap_ge w (0 + n) 0 42; omega
    simp only [Array.size_append, List.size_toArray, size_zeroCells, List.length_nil]
    show 0 + (0 + n - 0) * 1 + (grownCap w (0 + n) 0 42 - (0 + n)) * 1 = grownCap w (0 + n) 0 42 * 1
    omega
  · cases hk; exact Nat.le_refl _
  · exact (below_drewN (Below.refl _ _) 1).alloc (Nat.le_refl _) _

theorem OwnR.congr {w : World} {B : Nat} {v : Value} {n : Nat} {f g : Nat → Pc} (h : OwnR w B v n f) (e : ∀ i, i < n → f i = g i) : OwnR w B v n g := by
  have hv : vals f n = vals g n := by
    unfold vals
    exact List.map_congr_left fun i hi => by rw [e i (List.mem_range.1 hi)]
  exact ⟨by rw [← hv]; exact h.row, fun i hi => by rw [← e i hi]; exact h.each i hi, fun i hi => by rw [← e i hi]; exact h.apart i hi⟩
theorem Rws.far {w : World} {a : Option Addr} {n : Nat} {f : Nat → Pc} (h : Rws w a n f) {w' : World} {v : Value} {m : Nat} {g : Nat → Pc} (ho : OwnR w' w.heap.size v m g) : ∀ i, i < n → (f i).n = 0 ∨ ∀ y, (f i).a = some y → some y.block ≠ v.ownBlock := fun i hi => by
  rcases (h.each i hi).bys.place with h0 | ⟨b, off, e, hb, _⟩
  · exact .inl h0
  · refine .inr fun y hy e2 => ?_
    rw [e] at hy
    cases hy
    have h9 : w.heap.size ≤ b := (ho.row.lt _ e2.symm).1
    omega
def szR (n0 n1 : Nat) : Nat → Nat
  | 0 => 0
  | 1 => n0
  | _ => n0 + n1
/-- Two rows. -/
structure Two2 (w : World) (g : Nat) (a0 a1 : Option Addr) (n0 c0 n1 c1 : Nat) (f0 f1 : Nat → Pc) : Prop where
  lt : g < w.heap.size
  e0 : w.cell? ⟨g, 0, none⟩ = some (.slice a0 n0 c0)
  e1 : w.cell? ⟨g, 1, none⟩ = some (.slice a1 n1 c1)
  r0 : Rws w a0 n0 f0
  r1 : Rws w a1 n1 f1
theorem Two2.next {w w' : World} {g : Nat} {a0 a1 : Option Addr} {n0 c0 n1 c1 : Nat} {f0 f1 : Nat → Pc} (h : Two2 w g a0 a1 n0 c0 n1 c1 f0 f1) (hb : Below w.heap.size w w') : Two2 w' g a0 a1 n0 c0 n1 c1 f0 f1 :=
  ⟨Nat.lt_of_lt_of_le h.lt hb.size, (hb.cell (p := ⟨g, 0, none⟩) h.lt).trans h.e0, (hb.cell (p := ⟨g, 1, none⟩) h.lt).trans h.e1, h.r0.next hb, h.r1.next hb⟩
set_option maxRecDepth 100000 in
set_option maxHeartbeats 4000000 in
theorem concatR_any (g : Nat) (a0 a1 : Option Addr) (n0 c0 n1 c1 : Nat) (f0 f1 : Nat → Pc) (w : World) (h : Two2 w g a0 a1 n0 c0 n1 c1 f0 f1) (h0 : 0 < n0) (h1 : 0 < n1) (hn : n0 + n1 ≤ 1000000) :
    Calls Tryz.prog 105 #[.slice (some ⟨g, 0, none⟩) 2 2] w fun e w' => ∃ v, e = .returned v ∧ OwnR w' w.heap.size v (n0 + n1) (appR f0 n0 f1) ∧ Below w.heap.size w w' := by
  have HT := Lib.hid h
  clear h
  have t0 := HT.out.e0
  have t1 := HT.out.e1
  go_enter Tryz.func105, Tryz.ntmps105
  go_wp2
  go_loop [3, 5, 11] (fun u _p v => ∃ k : Nat, k ≤ 2 ∧ v = .int .i64 k ∧ u = .int .i64 (szR n0 n1 k)) (fun _ _ v => 2 - (RowKit.intOf v).toNat)
  case atStart => exact ⟨0, by omega, rfl, rfl⟩
  case round =>
    obtain ⟨k, hk, rfl, rfl⟩ := hrel
    rcases (by omega : k = 0 ∨ k = 1 ∨ k = 2) with rfl | rfl | rfl
    · have e : szR n0 n1 0 = 0 := rfl
      rw [e]
      go_wp2
      go_round
      case rel => exact ⟨1, by omega, rfl, rfl⟩
      case measure => simp [RowKit.intOf]
    · have e : szR n0 n1 1 = n0 := rfl
      rw [e]
      go_wp2
      go_round
      case rel => exact ⟨2, by omega, rfl, by show _ = Value.int .i64 ((n0 + n1 : Nat) : Int); go_num⟩
      case measure => simp [RowKit.intOf]
    · have e : szR n0 n1 2 = n0 + n1 := rfl
      rw [e]
      clear t0 t1
      go_wp2_with (fail)
      refine (growR_any (n0 + n1) w (by omega) (by omega)).mono ?_
      rintro e w1 ⟨v1, rfl, ho1, hk1, hb1⟩
      have HO1 := Lib.hid ho1
      have HK1 := Lib.hid hk1
      have HB1 := Lib.hid hb1
      clear ho1 hk1 hb1
      go_wp2_with (fail)
      go_loopw [6, 8, 27] (fun u _p v wr => ∃ k : Nat, k ≤ 2 ∧ v = .int .i64 k ∧ OwnR wr w.heap.size u (szR n0 n1 k) (appR f0 n0 f1) ∧ Below w.heap.size w wr) (fun _ _ v _ => 2 - (RowKit.intOf v).toNat)
      case atStart => exact ⟨0, by omega, rfl, HO1.out _, HB1.out⟩
      case round =>
        obtain ⟨k, hk, rfl, ho, hbl⟩ := hrel
        rcases (by omega : k = 0 ∨ k = 1 ∨ k = 2) with rfl | rfl | rfl
        · have e0 : szR n0 n1 0 = 0 := rfl
          rw [e0] at ho
          have hr := (HT.out.r0).next hbl
          have hfar := HT.out.r0.far ho
          obtain ⟨gb, go, e0, _⟩ : ∃ gb go, a0 = some ⟨gb, go, none⟩ ∧ True := by
            rcases HT.out.r0.place with h | ⟨b, off, e, _⟩
            · omega
            · exact ⟨b, off, e, trivial⟩
          have HN := HT.out.next hbl
          subst e0
          have t0 := HN.e0
          have t1 := HN.e1
          have hsz := hbl.size
          obtain ⟨ra, rc, rfl, _⟩ := ho.rws
          have HO := Lib.hid ho
          have HBl := Lib.hid hbl
          have HR := Lib.hid hr
          have HFAR := Lib.hid hfar
          clear ho hbl hr hfar HN
          go_wp2_with (at_builtin; go_must (refine wpList_apRs rfl (.tmp 31) (.tmp 32) rfl w.heap.size _ 0 _ rfl HO.out gb go n0 c0 f0 rfl HR.out HFAR.out (by omega) (by omega) (by omega) w HBl.out ?_); intro v5 w5 hO5 hb5)
          go_roundw
          case rel =>
            refine ⟨1, by omega, rfl, ?_, hb5⟩
            rw [Nat.zero_add] at hO5
            exact hO5.congr fun i hi => by rw [appR, if_neg (by omega), Nat.sub_zero, appR, if_pos hi]
          case measure => simp [RowKit.intOf]
        · have e0 : szR n0 n1 1 = n0 := rfl
          rw [e0] at ho
          have hr := (HT.out.r1).next hbl
          have hfar := HT.out.r1.far ho
          obtain ⟨gb, go, e0, _⟩ : ∃ gb go, a1 = some ⟨gb, go, none⟩ ∧ True := by
            rcases HT.out.r1.place with h | ⟨b, off, e, _⟩
            · omega
            · exact ⟨b, off, e, trivial⟩
          have HN := HT.out.next hbl
          subst e0
          have t0 := HN.e0
          have t1 := HN.e1
          have hsz := hbl.size
          obtain ⟨ra, rc, rfl, _⟩ := ho.rws
          have HO := Lib.hid ho
          have HBl := Lib.hid hbl
          have HR := Lib.hid hr
          have HFAR := Lib.hid hfar
          clear ho hbl hr hfar HN
          go_wp2_with (at_builtin; go_must (refine wpList_apRs rfl (.tmp 31) (.tmp 32) rfl w.heap.size _ n0 _ rfl HO.out gb go n1 c1 f1 rfl HR.out HFAR.out (by omega) (by omega) (by omega) w HBl.out ?_); intro v5 w5 hO5 hb5)
          go_roundw
          case rel =>
            refine ⟨2, by omega, rfl, ?_, hb5⟩
            exact hO5.congr fun i hi => by
              by_cases h : i < n0
              · rw [appR, if_pos h]
              · rw [appR, if_neg h, appR, if_neg h]
          case measure => simp [RowKit.intOf]
        · have HO := Lib.hid ho
          have HBl := Lib.hid hbl
          clear ho hbl
          go_wp2_with (fail)
          go_ret
          exact ⟨_, rfl, HO.out, HBl.out⟩

end Go.Proofs.YtegmeoghonolcaaGreat

/-
  The stripe's encode, by contract.
-/
namespace Go.Proofs.YtegmeoghonolcaaGreat
open Go.RowKit Go.Maps
set_option linter.unusedVariables false

/-- A block, as a slice of blocks has it. -/
structure BlP where
  o : Int
  i : Int
  p : Pc
instance : Inhabited BlP := ⟨⟨0, 0, default⟩⟩
/-- A slice of n blocks. -/
structure Bls (w : World) (a : Option Addr) (n : Nat) (f : Nat → BlP) : Prop where
  place : n = 0 ∨ ∃ b off, a = some ⟨b, off, none⟩ ∧ b < w.heap.size ∧ ∀ j, j < n → w.cell? ⟨b, off + j * 3, none⟩ = some (.int .i64 (f j).o) ∧ w.cell? ⟨b, off + j * 3 + 1, none⟩ = some (.int .i64 (f j).i) ∧ w.cell? ⟨b, off + j * 3 + 2, none⟩ = some (.slice (f j).p.a (f j).p.n (f j).p.c)
  each : ∀ j, j < n → Pin w (f j).p.a (f j).p.n (f j).p.c (f j).p.zs
theorem Bls.below {w w' : World} {a : Option Addr} {n : Nat} {f : Nat → BlP} (h : Bls w a n f) {B : Nat} (hB : w.heap.size ≤ B) (hb : Below B w w') : Bls w' a n f := by
  refine ⟨?_, fun i hi => (h.each i hi).below hB hb⟩
  rcases h.place with h0 | ⟨b, off, e, hlt, hc⟩
  · exact .inl h0
  · have hl : b < B := by omega
    exact .inr ⟨b, off, e, Nat.lt_of_lt_of_le hlt hb.size, fun j hj => ⟨(hb.cell (p := ⟨b, off + j * 3, none⟩) hl).trans (hc j hj).1, (hb.cell (p := ⟨b, off + j * 3 + 1, none⟩) hl).trans (hc j hj).2.1, (hb.cell (p := ⟨b, off + j * 3 + 2, none⟩) hl).trans (hc j hj).2.2⟩⟩
/-- The block at place j: noughts behind the last one. -/
def blkAt (f : Nat → BlP) (n j : Nat) : BlP := if j < n then f j else default
/-- Its sector. -/
def enS (q : Int) (f : Nat → BlP) (n j : Nat) : List Int := encL q (blkAt f n j).o (blkAt f n j).i (blkAt f n j).p.zs
def enO (q : Int) (f : Nat → BlP) (n : Nat) : Nat → Bool
  | 0 => true
  | k + 1 => enO q f n k && encO q (blkAt f n k).o (blkAt f n k).i (blkAt f n k).p.zs
theorem enO_no {q : Int} {f : Nat → BlP} {n k P : Nat} (h : k ≤ P) (hk : enO q f n k = false) : enO q f n P = false := by
  induction P with
  | zero => obtain rfl : k = 0 := by omega
            exact hk
  | succ P ih =>
    rcases Nat.lt_or_ge P k with h1 | h1
    · obtain rfl : k = P + 1 := by omega
      exact hk
    · rw [enO, ih h1, Bool.false_and]
theorem enO_at {q : Int} {f : Nat → BlP} {n k P : Nat} (h : k < P) (hk : enO q f n P = true) : encO q (blkAt f n k).o (blkAt f n k).i (blkAt f n k).p.zs = true := by
  cases hc : encO q (blkAt f n k).o (blkAt f n k).i (blkAt f n k).p.zs with
  | true => rfl
  | false =>
    have := enO_no (q := q) (f := f) (n := n) (k := k + 1) (P := P) h (by rw [enO, hc, Bool.and_false])
    rw [this] at hk; cases hk
/-- Can all be sectors, and are there no more than P? -/
def encB (q : Int) (f : Nat → BlP) (n P : Nat) : Bool := decide (n ≤ P) && enO q f n P

theorem vals_nil (n : Nat) : vals (fun _ => (default : Pc)) n = List.replicate n (.slice none 0 0) := by
  unfold vals
  rw [List.map_const']
  simp
  exact .inr ⟨rfl, rfl, rfl⟩
theorem wpList_mkR {w : World} {ops : Array Oper} {rest : List Oper} {o : Oper} {a : Act} {Q : Exit → Act → World → Prop}
    (hg : o.guard = none) (l c : Operand) (hop : o.op = Op.makeSlice 24 l c) (kl kc : IntKind) (L C : Int) (n : Nat) (hl : a.eval l = .int kl L) (hc : a.eval c = .int kc C) (hL : L = (n : Int)) (hC : C = (n : Int)) (b2 : n ≤ 1000000000000)
    (hK : ∀ w', OwnR w' w.heap.size (.slice (some ⟨w.heap.size, 0, none⟩) n n) n (fun _ => default) → Below w.heap.size w w' → wpList Tryz.prog ops Q rest (a.put o.dst (.slice (some ⟨w.heap.size, 0, none⟩) n n)) w') :
    wpList Tryz.prog ops Q (o :: rest) a w := by
  obtain ⟨i0, hi, hz0, hz1, hz2⟩ := info_parts info24
  refine wpList_make_full w hg l c 24 hop w.heap.size 42 i0 (.slice none 0 0) 1 Tryz.underlying24 hi hz0 hz1 kl kc L C n hl hc hL hC (by rw [hz2]; omega) (by unfold maxLen; omega) (Nat.le_refl _) fun w' hown hgrow => hK w' ⟨?_, fun i hi => Pin.zero _, fun i hi => .inl rfl⟩ ((Below.refl _ _).grown hgrow (Nat.le_refl _) (fun k h => by cases h))
  rw [show (Value.slice none 0 0).cells = #[Value.slice none 0 0] from rfl, Nat.mul_one, toList_madeCells_one] at hown
  rw [vals_nil]
  exact hown
/-- What encode leaves. -/
def EnPost (w : World) (q : Int) (f : Nat → BlP) (n P : Nat) (ok : Bool) (e : Ending) (w' : World) : Prop :=
  if ok then ∃ g F, e = .returned (.tuple #[.slice (some ⟨g, 0, none⟩) P P, .bool true]) ∧ Rb w' g P F ∧ w.heap.size ≤ g ∧ (∀ j, j < P → (F j).zs = enS q f n j ∧ ∀ x, (F j).a = some x → w.heap.size ≤ x.block) ∧ Below w.heap.size w w'
  else e = .returned (.tuple #[.slice none 0 0, .bool false]) ∧ Below w.heap.size w w'
theorem EnPost.no {w w' : World} {q : Int} {f : Nat → BlP} {n P : Nat} {e : Ending} (he : e = .returned (.tuple #[.slice none 0 0, .bool false])) (hb : Below w.heap.size w w') : EnPost w q f n P false e w' := by
  unfold EnPost
  rw [if_neg (by simp)]
  exact ⟨he, hb⟩
theorem EnPost.yes {w w' : World} {q : Int} {f : Nat → BlP} {n P g : Nat} {F : Nat → Pc} {e : Ending} (he : e = .returned (.tuple #[.slice (some ⟨g, 0, none⟩) P P, .bool true])) (h1 : Rb w' g P F) (h2 : w.heap.size ≤ g) (h3 : ∀ j, j < P → (F j).zs = enS q f n j ∧ ∀ x, (F j).a = some x → w.heap.size ≤ x.block) (hb : Below w.heap.size w w') : EnPost w q f n P true e w' := by
  unfold EnPost
  rw [if_pos rfl]
  exact ⟨g, F, he, h1, h2, h3, hb⟩
set_option maxRecDepth 100000 in
set_option maxHeartbeats 8000000 in
theorem encode_any (d r s q : Int) (P : Nat) (a : Option Addr) (n c : Nat) (f : Nat → BlP) (w : World) (hRt : Rt d r s) (hP : PL d r + 1 = (P : Int)) (hbl : Bls w a n f) (hn : n ≤ 9223372036854775807) :
    Calls Tryz.prog 52 #[gv d r s, .int .i64 q, .slice a n c] w (EnPost w q f n P (encB q f n P)) := by
  have hp := PL_bd hRt.d1 hRt.d2 hRt.r1 hRt.r2
  have hP60 : P ≤ 60 := by omega
  have hP2 : 2 ≤ P := by omega
  obtain ⟨W1, hW1⟩ : ∃ W1, W1 = w.alloc (.cells #[.int .i64 d, .int .i64 r, .int .i64 s] 33 (0, 0)) := ⟨_, rfl⟩
  have hB1 : Below w.heap.size w W1 := by rw [hW1]; exact (Below.refl _ _).alloc (Nat.le_refl _) _
  have hpl := places_yes d r s W1 hRt
  obtain ⟨u, hu⟩ : ∃ u, u = PL d r := ⟨_, rfl⟩
  rw [← hu] at hpl hP
  have hwr : IntKind.i64.wrap (u + 1) = (P : Int) := by rw [hP]; exact IntWalk.i64_in _ (by omega)
  have HBL := Lib.hid hbl
  clear hp hu hP hbl hRt
  obtain ⟨ok, hok⟩ : ∃ ok, ok = encB q f n P := ⟨_, rfl⟩
  rw [← hok]
  unfold encB at hok
  by_cases hnP : n ≤ P
  · rw [decide_eq_true hnP, Bool.true_and] at hok
    have HOK := Lib.hid hok
    have hle : ¬ P < n := by omega
    have hle' : ¬ (P : Int) < (n : Int) := by omega
    clear hok
    go_enter Tryz.func52, Tryz.ntmps52
    go_wp2_with (fail)
    rw [← hW1]
    clear hW1
    refine hpl.mono ?_
    rintro e w2 ⟨rfl, hb2⟩
    have HB2 := Lib.hid (hB1.trans (hb2.mono hB1.size))
    clear hpl hb2 hB1
    go_wp2_with (at_make; refine wpList_mkR rfl _ _ rfl .i64 .i64 (P : Int) (P : Int) P rfl rfl rfl rfl (by omega) ?_; intro w3 hr3 hb3; have HB3 := Lib.hid (HB2.out.trans (hb3.mono HB2.out.size)); have HR3 := Lib.hid hr3; clear hr3 hb3)
    obtain ⟨g, c3, e3, hrb, _, _, hgl⟩ := HR3.out.rb (by omega)
    cases e3
    obtain ⟨g, hg⟩ : ∃ g, g = w2.heap.size := ⟨_, rfl⟩
    rw [← hg] at hrb hgl ⊢
    have HG : Hid (w.heap.size ≤ g) := by have := HB2.out.size; show _ ≤ g; omega
    have HRB := Lib.hid hrb
    clear hg hrb hgl HR3 hle hle' hwr HB2
    go_loopw [9, 10, 11, 12, 24] (fun _p _q _r _s i wr => ∃ (k : Nat) (F : Nat → Pc), k ≤ P ∧ i = .int .i64 k ∧ Rb wr g P F ∧ (∀ j, j < k → (F j).zs = enS q f n j ∧ ∀ x, (F j).a = some x → w.heap.size ≤ x.block) ∧ enO q f n k = true ∧ Below w.heap.size w wr) (fun _ _ _ _ i _ => P - (RowKit.intOf i).toNat)
    case atStart => exact ⟨0, _, Nat.zero_le _, rfl, HRB.out, (fun j hj => by omega), rfl, HB3.out⟩
    case round =>
      obtain ⟨k, F, hk, rfl, hrb, hF, ho, hbl⟩ := hrel
      have HRb := Lib.hid hrb
      have HF := Lib.hid hF
      have HO := Lib.hid ho
      have HBl := Lib.hid hbl
      clear hrb hF ho hbl
      by_cases hlt : k < P
      · -- the block and its sector
        obtain ⟨bo, hbo⟩ : ∃ x, x = (blkAt f n k).o := ⟨_, rfl⟩
        obtain ⟨bi, hbi⟩ : ∃ x, x = (blkAt f n k).i := ⟨_, rfl⟩
        obtain ⟨bp, hbp⟩ : ∃ x, x = (blkAt f n k).p := ⟨_, rfl⟩
        have hpin : Pin wr bp.a bp.n bp.c bp.zs := by
          rw [hbp]
          unfold blkAt
          by_cases hkn : k < n
          · rw [if_pos hkn]; exact (HBL.out.below (Nat.le_refl _) HBl.out).each k hkn
          · rw [if_neg hkn]; exact Pin.zero _
        obtain ⟨ba, bn, bc, bz⟩ := bp
        have hen : enS q f n k = encL q bo bi bz := by rw [enS, ← hbo, ← hbi, ← hbp]
        have heo : encO q (blkAt f n k).o (blkAt f n k).i (blkAt f n k).p.zs = encO q bo bi bz := by rw [← hbo, ← hbi, ← hbp]
        obtain ⟨Wb, hWb⟩ : ∃ Wb, Wb = wr.alloc (.cells #[.int .i64 bo, .int .i64 bi, .slice ba bn bc] 65 (0, 0)) := ⟨_, rfl⟩
        have hbb : Below wr.heap.size wr Wb := by rw [hWb]; exact (Below.refl _ _).alloc (Nat.le_refl _) _
        have hec := enc_n q bo bi ba bn bc bz Wb (hpin.next hbb).bys
        rw [hWb] at hec hbb
        have HEC := Lib.hid hec
        have HBb := Lib.hid hbb
        have HEN := Lib.hid hen
        have HEO := Lib.hid heo
        by_cases hkn : k < n
        · obtain ⟨b', off', rfl, hblt, hc0, hc1, hc2⟩ : ∃ b' off', a = some ⟨b', off', none⟩ ∧ b' < wr.heap.size ∧ wr.cell? ⟨b', off' + k * 3, none⟩ = some (.int .i64 bo) ∧ wr.cell? ⟨b', off' + k * 3 + 1, none⟩ = some (.int .i64 bi) ∧ wr.cell? ⟨b', off' + k * 3 + 2, none⟩ = some (.slice ba bn bc) := by
            have hh := (HBL.out.below (Nat.le_refl _) HBl.out).place
            rcases hh with h0 | ⟨b', off', e', hlt', hc⟩
            · omega
            · refine ⟨b', off', e', hlt', ?_⟩
              have := hc k hkn
              have e1 : blkAt f n k = f k := if_pos hkn
              rw [e1] at hbo hbi hbp
              rw [hbo, hbi]
              rw [← hbp] at this
              exact this
          have hkn' : (k : Int) < (n : Int) := by omega
          clear hbo hbi hbp hpin hen heo hbb hWb hec
          have hec := HEC.out
          cases hen : encO q bo bi bz with
          | false =>
            rw [hen] at hec
            have hoF : Hid (ok = false) := by show _ = _; rw [HOK.out]; exact enO_no (k := k + 1) hlt (by rw [enO, HEO.out, hen, Bool.and_false])
            clear hen HEC
            go_wp2_with (fail)
            refine hec.mono ?_
            rintro e w5 ⟨a5, n5, c5, rfl, _, _, hb5⟩
            have HB5 := Lib.hid ((HBl.out.trans (HBb.out.mono HBl.out.size)).trans (hb5.mono (Nat.le_trans HBl.out.size HBb.out.size)))
            clear hec hb5 hc0 hc1 hc2
            go_wp2_with (fail)
            go_ret2
            rw [hoF.out]
            exact EnPost.no rfl HB5.out
          | true =>
            rw [hen] at hec
            have HOk : Hid (enO q f n (k + 1) = true) := by show _ = _; rw [enO, HO.out, HEO.out, hen]; rfl
            clear hen HEC
            go_wp2_with (fail)
            refine hec.mono ?_
            rintro e w5 ⟨a5, n5, c5, rfl, hp5, hn5, hb5⟩
            have HB5 := Lib.hid ((HBl.out.trans (HBb.out.mono HBl.out.size)).trans (hb5.mono (Nat.le_trans HBl.out.size HBb.out.size)))
            have hR5 := (HRb.out.next HBb.out).next hb5
            have HR5 := Lib.hid hR5
            have HP5 := Lib.hid hp5
            have HN5 : Hid (∀ x, a5 = some x → wr.heap.size ≤ x.block) := fun x hx => Nat.le_trans HBb.out.size (hn5 x hx)
            have hgc := hR5.cell k hlt
            have hgf := hR5.free k
            have hgl := hR5.lt
            obtain ⟨ga, gn, gc, hgp⟩ : ∃ x y z, w5.cell? ⟨g, k, none⟩ = some (.slice x y z) := ⟨_, _, _, hgc⟩
            clear hec hb5 hR5 hp5 hn5 hgc hc0 hc1 hc2
            go_wp2_with (fail)
            go_roundw
            case rel =>
              have hap : n5 = 0 ∨ ∀ x, a5 = some x → x.block ≠ g := .inr fun x hx => by have := HN5.out x hx; have := HRb.out.lt; omega
              refine ⟨k + 1, _, by omega, by go_num, HR5.out.set hlt HP5.out hap, fun j hj => ?_, HOk.out, HB5.out.setCell (p := ⟨g, k, none⟩) HG.out _⟩
              rcases Nat.lt_or_ge j k with h1 | h1
              · rw [show snoc F k ⟨a5, n5, c5, encL q bo bi bz⟩ j = F j from if_neg (by omega)]
                exact HF.out j h1
              · obtain rfl : j = k := by omega
                rw [snoc_new]
                exact ⟨by rw [HEN.out], fun x hx => Nat.le_trans HBl.out.size (HN5.out x hx)⟩
            case measure => simp [RowKit.intOf]; omega
        · have e1 : blkAt f n k = default := if_neg hkn
          rw [e1] at hbo hbi hbp
          change bo = 0 at hbo
          change bi = 0 at hbi
          change (⟨ba, bn, bc, bz⟩ : Pc) = ⟨none, 0, 0, []⟩ at hbp
          cases hbp
          subst hbo hbi
          have hkn' : (n : Int) ≤ (k : Int) := by omega
          have hkn'' : ¬ (k : Int) < (n : Int) := by omega
          clear hpin hen heo hbb hWb hec
          have hec := HEC.out
          cases hen : encO q 0 0 [] with
          | false =>
            rw [hen] at hec
            have hoF : Hid (ok = false) := by show _ = _; rw [HOK.out]; exact enO_no (k := k + 1) hlt (by rw [enO, HEO.out, hen, Bool.and_false])
            clear hen HEC
            go_wp2_with (fail)
            refine hec.mono ?_
            rintro e w5 ⟨a5, n5, c5, rfl, _, _, hb5⟩
            have HB5 := Lib.hid ((HBl.out.trans (HBb.out.mono HBl.out.size)).trans (hb5.mono (Nat.le_trans HBl.out.size HBb.out.size)))
            clear hec hb5
            go_wp2_with (fail)
            go_ret2
            rw [hoF.out]
            exact EnPost.no rfl HB5.out
          | true =>
            rw [hen] at hec
            have HOk : Hid (enO q f n (k + 1) = true) := by show _ = _; rw [enO, HO.out, HEO.out, hen]; rfl
            clear hen HEC
            go_wp2_with (fail)
            refine hec.mono ?_
            rintro e w5 ⟨a5, n5, c5, rfl, hp5, hn5, hb5⟩
            have HB5 := Lib.hid ((HBl.out.trans (HBb.out.mono HBl.out.size)).trans (hb5.mono (Nat.le_trans HBl.out.size HBb.out.size)))
            have hR5 := (HRb.out.next HBb.out).next hb5
            have HR5 := Lib.hid hR5
            have HP5 := Lib.hid hp5
            have HN5 : Hid (∀ x, a5 = some x → wr.heap.size ≤ x.block) := fun x hx => Nat.le_trans HBb.out.size (hn5 x hx)
            have hgc := hR5.cell k hlt
            have hgf := hR5.free k
            have hgl := hR5.lt
            obtain ⟨ga, gn, gc, hgp⟩ : ∃ x y z, w5.cell? ⟨g, k, none⟩ = some (.slice x y z) := ⟨_, _, _, hgc⟩
            clear hec hb5 hR5 hp5 hn5 hgc
            go_wp2_with (fail)
            go_roundw
            case rel =>
              have hap : n5 = 0 ∨ ∀ x, a5 = some x → x.block ≠ g := .inr fun x hx => by have := HN5.out x hx; have := HRb.out.lt; omega
              refine ⟨k + 1, _, by omega, by go_num, HR5.out.set hlt HP5.out hap, fun j hj => ?_, HOk.out, HB5.out.setCell (p := ⟨g, k, none⟩) HG.out _⟩
              rcases Nat.lt_or_ge j k with h1 | h1
              · rw [show snoc F k ⟨a5, n5, c5, encL q 0 0 []⟩ j = F j from if_neg (by omega)]
                exact HF.out j h1
              · obtain rfl : j = k := by omega
                rw [snoc_new]
                exact ⟨by rw [HEN.out], fun x hx => Nat.le_trans HBl.out.size (HN5.out x hx)⟩
            case measure => simp [RowKit.intOf]; omega
      · obtain rfl : k = P := by omega
        go_wp2_with (fail)
        go_ret2
        rw [HOK.out, HO.out]
        exact EnPost.yes rfl HRb.out HG.out HF.out HBl.out
  · rw [decide_eq_false hnP, Bool.false_and] at hok
    subst hok
    have hgt : P < n := by omega
    have hgt' : (P : Int) < (n : Int) := by omega
    clear hnP
    go_enter Tryz.func52, Tryz.ntmps52
    go_wp2_with (fail)
    rw [← hW1]
    clear hW1
    refine hpl.mono ?_
    rintro e w2 ⟨rfl, hb2⟩
    have HB2 := Lib.hid (hB1.trans (hb2.mono hB1.size))
    clear hpl hb2 hB1
    go_wp2_with (at_make; refine wpList_mkR rfl _ _ rfl .i64 .i64 (P : Int) (P : Int) P rfl rfl rfl rfl (by omega) ?_; intro w3 hr3 hb3; have HB3 := Lib.hid (HB2.out.trans (hb3.mono HB2.out.size)); clear hr3 hb3)
    go_ret2
    exact EnPost.no rfl HB3.out

end Go.Proofs.YtegmeoghonolcaaGreat

/-
  The stripe's writeRow, by contract.
-/
namespace Go.Proofs.YtegmeoghonolcaaGreat
open Go.RowKit Go.Maps
set_option linter.unusedVariables false

/-- Sectors written in a row, till the power goes. -/
def wrC (B : Bn) (D : Nat → Int) (z : Int) (F : Nat → List Int) (R : Rk) : Nat → Bool × Rk
  | 0 => (false, R)
  | c + 1 => if (wrC B D z F R c).1 then wrC B D z F R c else (decide (bwE B (wrC B D z F R c).2 (D c) z (F c) = 12), bw B (wrC B D z F R c).2 (D c) z (F c))
theorem wrC_n (B : Bn) (D : Nat → Int) (z : Int) (F : Nat → List Int) (R : Rk) (c : Nat) : (wrC B D z F R c).2.n = R.n := by
  induction c with
  | zero => rfl
  | succ c ih =>
    rw [wrC]
    split
    · exact ih
    · rw [bw_n]; exact ih
theorem wrC_end {B : Bn} {D : Nat → Int} {z : Int} {F : Nat → List Int} {R : Rk} {c n : Nat} (h : c ≤ n) (hc : (wrC B D z F R c).1 = true) : wrC B D z F R n = wrC B D z F R c := by
  induction n with
  | zero => obtain rfl : c = 0 := by omega
            rfl
  | succ n ih =>
    rcases Nat.lt_or_ge n c with h1 | h1
    · obtain rfl : c = n + 1 := by omega
      rfl
    · have := ih h1
      rw [wrC, this, if_pos hc]
theorem wrC_go {B : Bn} {D : Nat → Int} {z : Int} {F : Nat → List Int} {R : Rk} {c : Nat} (hc : (wrC B D z F R c).1 = false) : wrC B D z F R (c + 1) = (decide (bwE B (wrC B D z F R c).2 (D c) z (F c) = 12), bw B (wrC B D z F R c).2 (D c) z (F c)) := by
  rw [wrC, if_neg (by rw [hc]; simp)]
/-- A row's sectors: its blocks', then their parity. -/
def rowF (f : Nat → List Int) (o : Nat) : Nat → List Int := fun c => if c < o then f c else parL (fun j => ⟨none, 0, 0, f j⟩) o
theorem Pin.turn {N : Nat → Prop} {w w' : World} {a : Option Addr} {n c : Nat} {zs : List Int} (h : Pin w a n c zs) (ht : Turn N w w') (hN : n = 0 ∨ ∀ x, a = some x → ¬ N x.block) : Pin w' a n c zs :=
  ⟨bys_turn2 h.bys ht (hN.imp id fun h b off e => h _ e), h.nil, h.cap, h.max⟩
theorem Rws.turn {N : Nat → Prop} {w w' : World} {g n : Nat} {f : Nat → Pc} (h : Rws w (some ⟨g, 0, none⟩) n f) (ht : Turn N w w') (hg : ¬ N g) (hN : ∀ i, i < n → (f i).n = 0 ∨ ∀ x, (f i).a = some x → ¬ N x.block) : Rws w' (some ⟨g, 0, none⟩) n f := by
  refine ⟨?_, fun i hi => (h.each i hi).turn ht (hN i hi)⟩
  rcases h.place with h0 | ⟨b, off, e, hlt, hc⟩
  · exact .inl h0
  · cases e
    exact .inr ⟨g, 0, rfl, Nat.lt_of_lt_of_le hlt ht.size, fun i hi => (ht.cell (a := ⟨g, 0 + i, none⟩) hlt hg).trans (hc i hi)⟩
section
variable {M : Nat → Prop} {L : Lay} {R : Rk} {w : World} {b : Nat} {B : Bn}
set_option maxRecDepth 100000 in
set_option maxHeartbeats 8000000 in
theorem writeRow_any {n o C : Nat} {D : Nat → Int} {v : Value} (z : Int) (a : Option Addr) (c : Nat) (f : Nat → Pc) (hr : RackAt w M L R) (hb : BnAt w b L.p B) (hbM : ¬ L.M R.n b) (ho : o + 1 = n) (ho0 : 0 < o) (hn : n ≤ 16) (hrow : RowAt w C v n D z) (hC : ∀ k, M k → k < C)
    (hf : Rws w a o f) (hfM : ∀ i, i < o → ∀ x, (f i).a = some x → ¬ M x.block) :
    Calls Tryz.prog 55 #[.pointer (some ⟨b, 0, none⟩), v, .slice a o c] w (CallPost M L R (wrC B D z (rowF (fun j => (f j).zs) o) R n).2 w (.int .i64 (if (wrC B D z (rowF (fun j => (f j).zs) o) R n).1 then 12 else 0))) := by
  have HR := Lib.hid hr
  have HB := Lib.hid hb
  have HBM := Lib.hid hbM
  have HROW := Lib.hid hrow
  have HFM := Lib.hid hfM
  have HC := Lib.hid hC
  have HF := Lib.hid hf
  unfold CallPost
  obtain ⟨vv, hvv⟩ : ∃ v, v = if (wrC B D z (rowF (fun j => (f j).zs) o) R n).1 then (12 : Int) else 0 := ⟨_, rfl⟩
  obtain ⟨R', hR'⟩ : ∃ v, v = (wrC B D z (rowF (fun j => (f j).zs) o) R n).2 := ⟨_, rfl⟩
  rw [← hvv, ← hR']
  obtain ⟨G, hG⟩ : ∃ G, G = rowF (fun j => (f j).zs) o := ⟨_, rfl⟩
  rw [← hG] at hvv hR'
  have HV := Lib.hid hvv
  have HR' := Lib.hid hR'
  have HG := Lib.hid hG
  have hpar := par_n a o c f w hf (by omega)
  obtain ⟨gr, cr, rfl, _⟩ := hrow.val
  clear hvv hR' hG hr hb hbM hrow hfM hC hf
  go_enter Tryz.func55, Tryz.ntmps55
  go_wp2_with (fail)
  refine hpar.mono ?_
  rintro e w1 ⟨pa, pn, pc, rfl, hp1, hl1, hb1⟩
  have HB1 := Lib.hid hb1
  have HP1 := Lib.hid hp1
  have HL1 := Lib.hid hl1
  clear hpar hp1 hl1 hb1
  go_wp2_with (fail)
  obtain ⟨W2, hW2⟩ : ∃ W2, W2 = (w1.alloc (.cells #[.slice pa pn pc] 42)).alloc (.cells #[.slice a o c, .slice (some ⟨w1.heap.size, 0, none⟩) 1 1] 24) := ⟨_, rfl⟩
  have hb2 : Below w1.heap.size w1 W2 := by rw [hW2]; exact ((Below.refl _ _).alloc (Nat.le_refl _) _).alloc (by simp) _
  have HB2 := Lib.hid (HB1.out.trans (hb2.mono HB1.out.size))
  have hT : Two2 W2 (w1.heap.size + 1) a (some ⟨w1.heap.size, 0, none⟩) o c 1 1 f (fun _ => ⟨pa, pn, pc, parL f o⟩) := by
    refine ⟨by rw [hW2]; simp, by rw [hW2]; simp, by rw [hW2]; simp, HF.out.below (Nat.le_refl _) HB2.out, ⟨.inr ⟨w1.heap.size, 0, rfl, by rw [hW2]; simp; omega, fun i hi => ?_⟩, fun i hi => HP1.out.next hb2⟩⟩
    obtain rfl : i = 0 := by omega
    rw [hW2]
    simp
  have hcc := concatR_any (w1.heap.size + 1) a (some ⟨w1.heap.size, 0, none⟩) o c 1 1 f (fun _ => ⟨pa, pn, pc, parL f o⟩) W2 hT (by omega) (by omega) (by omega)
  obtain ⟨E, hE⟩ : ∃ E, E = appR f o (fun _ => ⟨pa, pn, pc, parL f o⟩) := ⟨_, rfl⟩
  rw [← hE, ho] at hcc
  have HEZ : Hid (∀ k, k < n → (E k).zs = G k) := fun k hk => by
    rw [hE, HG.out]
    unfold appR rowF
    by_cases h : k < o
    · rw [if_pos h, if_pos h]
    · rw [if_neg h, if_neg h]
      exact parL_congr fun i _ => rfl
  have HEM : Hid (∀ k, k < n → ∀ x, (E k).a = some x → ¬ M x.block) := fun k hk x hx => by
    rw [hE] at hx
    unfold appR at hx
    by_cases h : k < o
    · rw [if_pos h] at hx; exact HFM.out k h x hx
    · rw [if_neg h] at hx
      intro hM
      have h8 := HL1.out x hx
      have h9 := HR.out.low _ hM
      omega
  rw [← hW2]
  clear hW2 hb2 hT hE HF HFM HP1 HL1 HB1
  refine hcc.mono ?_
  rintro e w3 ⟨v3, rfl, ho3, hb3⟩
  have HB3 := Lib.hid (HB2.out.trans (hb3.mono HB2.out.size))
  obtain ⟨ra, rc, rfl, hrw, hrc, hrm, hrl⟩ := ho3.rws
  obtain ⟨g3, o3, rfl, hg3⟩ : ∃ g3 o3, ra = some ⟨g3, o3, none⟩ ∧ o3 = 0 := by
    rcases ho3.row.2 with ⟨h, h'⟩ | ⟨g, cap, cur, h, _⟩
    · omega
    · cases h; exact ⟨g, 0, rfl, rfl⟩
  subst hg3
  have HG3 : Hid (w.heap.size ≤ g3) := by have := (hrl _ rfl).1; simp only at this; have := HB2.out.size; show _ ≤ _; omega
  have HRW := Lib.hid hrw
  have hMlow : Hid (∀ k, L.M R.n k → k < w.heap.size) := fun k hk => HR.out.low k (HR.out.sub k hk)
  clear hcc ho3 hb3 hrw hrl
  go_wp2_with (fail)
  go_loopw [9, 10, 22] (fun _p _q i wr => ∃ k : Nat, k ≤ n ∧ i = .int .i64 k ∧ (wrC B D z G R k).1 = false ∧ RackAt wr M L (wrC B D z G R k).2 ∧ Rws wr (some ⟨g3, 0, none⟩) n E ∧ Turn (L.M R.n) w wr) (fun _ _ i _ => n - (RowKit.intOf i).toNat)
  case atStart => exact ⟨0, Nat.zero_le _, rfl, rfl, HR.out.below HB3.out, HRW.out, Turn.of_below HB3.out⟩
  case round =>
    obtain ⟨k, hk, rfl, hf, hrk, hrw, htn⟩ := hrel
    have HTN := Lib.hid htn
    by_cases hlt : k < n
    · obtain ⟨Rk', hRk⟩ : ∃ Rx, Rx = (wrC B D z G R k).2 := ⟨_, rfl⟩
      have hgo := wrC_go hf
      rw [← hRk] at hrk hgo
      have hRn : Rk'.n = R.n := by rw [hRk, wrC_n]
      obtain ⟨g', c', e', hg1, hg2, hg3', hg4, hg5⟩ := (HROW.out.turn htn (fun x hx => HC.out x (HR.out.sub x hx))).val
      cases e'
      have r0 := (hg5 k hlt).1
      have r1 := (hg5 k hlt).2
      rw [Nat.mul_comm] at r0 r1
      obtain ⟨x, hx⟩ : ∃ x, x = D k := ⟨_, rfl⟩
      rw [← hx] at r0 hgo
      obtain ⟨da, dn, dc, dz, hd⟩ : ∃ da dn dc dz, E k = ⟨da, dn, dc, dz⟩ := ⟨_, _, _, _, rfl⟩
      have hdz : dz = G k := by rw [← HEZ.out k hlt, hd]
      have hdc : wr.cell? ⟨g3, k, none⟩ = some (.slice da dn dc) := by
        rcases hrw.place with h0 | ⟨b', off, e, _, hc⟩
        · omega
        · cases e
          have := hc k hlt
          rw [hd, Nat.zero_add] at this
          exact this
      have hdp : Pin wr da dn dc (G k) := by have := hrw.each k hlt; rw [hd] at this; rw [← hdz]; exact this
      have hwr := bwrite_any (w := wr.drew) x z da dn dc (G k) hrk.drew ((HB.out.turn htn HBM.out).drew) (by rw [hRn]; exact HBM.out) (hdp.drewN 1).bys (.inr fun b' off' e' => by have := HEM.out k hlt ⟨b', off', none⟩ (by rw [hd]; exact e'); exact this)
      obtain ⟨er, her⟩ : ∃ er, er = bwE B Rk' x z (G k) := ⟨_, rfl⟩
      rw [← her] at hwr hgo
      have HGO := Lib.hid hgo
      have HRN := Lib.hid hRn
      have HRWk := Lib.hid hrw
      have HNM : Hid (∀ y, w.heap.size ≤ y → ¬ L.M Rk'.n y) := fun y hy hm => by rw [HRN.out] at hm; have := hMlow.out y hm; omega
      have HG1 : Hid (¬ L.M Rk'.n gr) := fun hm => by rw [HRN.out] at hm; have := HC.out _ (HR.out.sub _ hm); omega
      clear hf hrk hrw htn hRk hgo hRn hg1 hg5 hx hd hdz hdp her
      go_wp2_with (fail)
      refine wp_region_held_drew (S := fun w' => w'.cell? ⟨gr, k * 2, none⟩ = some (.int .i64 x) ∧ w'.cell? ⟨gr, k * 2 + 1, none⟩ = some (.int .i64 z)) (by kernel_rfl) ?_ (fun hHeld => ?_)
      · exact ⟨r0, r1⟩
      refine rgY 0 ?_ rfl (by kernel_rfl) (fun _ _ _ h => h) (.inl ⟨by rfl, fun w hSw => ?_⟩) (by assumption) ?_
      rotate_left
      · (try dsimp only at hSw); go_simp; try with_reducible rfl
      simp only [Act.put, rg1, rg2, rg3, rg4, rg6]
      refine rgY 1 ?_ rfl (by kernel_rfl) (fun _ _ _ h => h) (.inl ⟨by rfl, fun w hSw => ?_⟩) (by assumption) ?_
      rotate_left
      · (try dsimp only at hSw); go_simp; try with_reducible rfl
      simp only [Act.put, rg1, rg2, rg3, rg4, rg5, rg6]
      refine rgY 2 ?_ rfl (by kernel_rfl) (fun _ _ _ h => h) (.inl ⟨by rfl, fun w hSw => ?_⟩) (by assumption) ?_
      rotate_left
      · (try dsimp only at hSw); go_simp; try with_reducible rfl
      simp only [Act.put, rg1, rg2, rg3, rg4, rg5, rg6]
      refine rgY 3 ?_ rfl (by kernel_rfl) (fun _ _ _ h => h) (.inl ⟨by rfl, fun w hSw => ?_⟩) (by assumption) ?_
      rotate_left
      · (try dsimp only at hSw); go_simp; try with_reducible rfl
      simp only [Act.put, rg1, rg2, rg3, rg4, rg5, rg6]
      refine rgY 4 ?_ rfl (by kernel_rfl) (fun _ _ _ h => h) (.inl ⟨by rfl, fun w hSw => ?_⟩) (by assumption) ?_
      rotate_left
      · (try dsimp only at hSw); go_simp; try with_reducible rfl
      simp only [Act.put, rg1, rg2, rg3, rg4, rg5, rg6]
      refine rgY 5 ?_ rfl (by kernel_rfl) (fun _ _ _ h => h) (.inl ⟨by rfl, fun w hSw => ?_⟩) (by assumption) ?_
      rotate_left
      · (try dsimp only at hSw); go_simp; try with_reducible rfl
      simp only [Act.put, rg1, rg2, rg3, rg4, rg5, rg6]
      refine rgY 6 ?_ rfl (by kernel_rfl) (fun _ _ _ h => h) (.inl ⟨by rfl, fun w hSw => ?_⟩) (by assumption) ?_
      rotate_left
      · (try dsimp only at hSw); go_simp; try with_reducible rfl
      simp only [Act.put, rg1, rg2, rg3, rg4, rg5, rg6]
      refine rgY 7 ?_ rfl (by kernel_rfl) (fun _ _ _ h => h) (.inl ⟨by rfl, fun w hSw => ?_⟩) (by assumption) ?_
      rotate_left
      · (try dsimp only at hSw); go_simp; try with_reducible rfl
      simp only [Act.put, rg1, rg2, rg3, rg4, rg5, rg6]
      refine rgY 8 ?_ rfl (by kernel_rfl) (fun _ _ _ h => h) (.inl ⟨by rfl, fun w hSw => ?_⟩) (by assumption) ?_
      rotate_left
      · (try dsimp only at hSw); go_simp; try with_reducible rfl
      simp only [Act.put, rg1, rg2, rg3, rg4, rg5, rg6]
      refine rgY 9 ?_ rfl (by kernel_rfl) (fun _ _ _ h => h) (.inl ⟨by rfl, fun w hSw => ?_⟩) (by assumption) ?_
      rotate_left
      · (try dsimp only at hSw); go_simp; try with_reducible rfl
      simp only [Act.put, rg1, rg2, rg3, rg4, rg5, rg6]
      refine rgY 10 ?_ rfl (by kernel_rfl) (fun _ _ _ h => h) (.inl ⟨by rfl, fun w hSw => ?_⟩) (by assumption) ?_
      rotate_left
      · (try dsimp only at hSw); go_simp; try with_reducible rfl
      simp only [Act.put, rg1, rg2, rg3, rg4, rg5, rg6]
      refine rgY 11 ?_ rfl (by kernel_rfl) (fun _ _ _ h => h) (.inl ⟨by rfl, fun w hSw => ?_⟩) (by assumption) ?_
      rotate_left
      · (try dsimp only at hSw); go_simp; try with_reducible rfl
      simp only [Act.put, rg1, rg2, rg3, rg4, rg5, rg6]
      refine wpAnyH_ready (rs := [12]) (by kernel_rfl) (by simp) ?_
      refine AllReadyH.cons rfl (fun K hK => ?_) AllReadyH.nil
      simp only [List.getElem_toArray, List.getElem_cons_succ, List.getElem_cons_zero]
      go_simp
      refine hwr.mono ?_
      rintro e w5 ⟨rfl, hr5, ht5⟩
      have ht5 := ht5.undrw
      have r0' := (ht5.cell (a := ⟨gr, k * 2, none⟩) hg2 HG1.out).trans r0
      have r1' := (ht5.cell (a := ⟨gr, k * 2 + 1, none⟩) hg2 HG1.out).trans r1
      have HR5 := Lib.hid hr5
      have HT5 := Lib.hid ht5
      clear hwr hr5 ht5 r0 r1 hdc
      go_wp2_with (fail)
      refine hK.out _ _ ⟨r0', r1'⟩ (fun hHeld => ?_)
      clear hK K r0' r1'
      refine rgY 13 ?_ rfl (by kernel_rfl) (fun _ _ _ h => h) (.inl ⟨by rfl, fun w hSw => ?_⟩) (by assumption) ?_
      rotate_left
      · (try dsimp only at hSw); go_simp; try with_reducible rfl
      simp only [Act.put, rg1, rg2, rg3, rg4, rg5, rg6]
      refine wpAnyH_done (by kernel_rfl) ?_ _
      clear hHeld
      have HT5' : Hid (Turn (L.M R.n) w w5) := by have := HT5.out; rw [HRN.out] at this; exact HTN.out.trans this
      by_cases h12 : er = 12
      · have hfin := wrC_end (B := B) (D := D) (z := z) (F := G) (R := R) (c := k + 1) (n := n) hlt (by rw [HGO.out]; exact decide_eq_true h12)
        have hV : Hid (vv = 12) := by show _ = _; rw [HV.out, hfin, HGO.out, decide_eq_true h12]; rfl
        have hR : Hid (R' = bw B Rk' x z (G k)) := by show _ = _; rw [HR'.out, hfin, HGO.out]
        clear hfin
        subst h12
        go_wp2_with (fail)
        go_ret
        exact ⟨by rw [hV.out]; rfl, by rw [hR.out]; exact HR5.out, HT5'.out⟩
      · have hz12 : (er == 12) = false := by simpa using h12
        have HS : Hid (wrC B D z G R (k + 1) = (false, bw B Rk' x z (G k))) := by show _ = _; rw [HGO.out, decide_eq_false h12]
        clear h12
        go_wp2_with (fail)
        go_roundw
        case rel =>
          refine ⟨k + 1, by omega, by go_num, by rw [HS.out], by rw [HS.out]; exact HR5.out, HRWk.out.turn HT5.out (HNM.out _ HG3.out) (fun i hi => .inr fun y hy hm => ?_), HT5'.out⟩
          rw [HRN.out] at hm
          exact HEM.out i hi y hy (HR.out.sub _ hm)
        case measure => simp [RowKit.intOf]; omega
    · obtain rfl : k = n := by omega
      have hV : Hid (vv = 0) := by show _ = _; rw [HV.out, hf]; rfl
      have HRK := Lib.hid hrk
      clear hf hrk hrw htn
      go_wp2_with (fail)
      go_ret
      exact ⟨by rw [hV.out]; rfl, by rw [HR'.out]; exact HRK.out, HTN.out⟩
end

end Go.Proofs.YtegmeoghonolcaaGreat
