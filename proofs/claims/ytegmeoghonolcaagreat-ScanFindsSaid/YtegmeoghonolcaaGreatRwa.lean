/-
  A row's spots, of the call's own, by contract.
-/
import Derived.Test.YtegmeoghonolcaaGreatSta
import Derived.Deep.AppendLies
import Derived.Test.YtegmeoghonolcaaGreatBka
import Derived.Test.YtegmeoghonolcaaGreatRda
import Derived.Test.YtegmeoghonolcaaGreatBkb
set_option linter.unusedSimpArgs false
set_option linter.unusedVariables false
namespace Go.Proofs.YtegmeoghonolcaaGreat
open Go.RowKit Go.Maps
set_option linter.unusedVariables false

theorem infoSpot : (Tryz.prog.info? 150).map (fun i => (i.zero, i.size, i.bytes)) = some (some (.agg #[.int .i64 0, .int .i64 0]), 2, 16) := by kernel_rfl
/-- The cells of the first n spots, on the disks D, of sector s. -/
def spsL (D : Nat → Int) (s : Int) : Nat → List Value
  | 0 => []
  | n + 1 => spsL D s n ++ [.int .i64 (D n), .int .i64 s]
theorem spsL_len (D : Nat → Int) (s : Int) (n : Nat) : (spsL D s n).length = n * 2 := by
  induction n with
  | zero => rfl
  | succ n ih => rw [spsL, List.length_append, ih]; simp; omega
theorem spsL_at (D : Nat → Int) (s : Int) {n j : Nat} (h : j < n) : (spsL D s n)[2 * j]? = some (.int .i64 (D j)) ∧ (spsL D s n)[2 * j + 1]? = some (.int .i64 s) := by
  induction n with
  | zero => omega
  | succ n ih =>
    have hl := spsL_len D s n
    rcases Nat.lt_or_ge j n with h1 | h1
    · obtain ⟨a, b⟩ := ih h1
      rw [spsL, List.getElem?_append_left (by rw [hl]; omega), List.getElem?_append_left (by rw [hl]; omega)]
      exact ⟨a, b⟩
    · obtain rfl : j = n := by omega
      rw [spsL, List.getElem?_append_right (by rw [hl]; omega), List.getElem?_append_right (by rw [hl]; omega), hl]
      rw [show 2 * j - j * 2 = 0 by omega, show 2 * j + 1 - j * 2 = 1 by omega]
      exact ⟨rfl, rfl⟩
/-- Spots of the call's own. -/
def OwnP (w : World) (B : Nat) (v : Value) (n : Nat) (D : Nat → Int) (s : Int) : Prop := w.ownsRow B 150 2 v n (spsL D s n)
theorem OwnP.below {w w' : World} {B : Nat} {v : Value} {n : Nat} {D : Nat → Int} {s : Int} (h : OwnP w B v n D s) {C : Nat} (hC : w.heap.size ≤ C) (hb : Below C w w') : OwnP w' B v n D s :=
  h.kept (row := none) ⟨hb.os, hb.tape, hb.output, hb.size, fun k hk _ => hb.block k (by omega)⟩ (by cases v.ownBlock <;> simp)
theorem OwnP.next {w w' : World} {B : Nat} {v : Value} {n : Nat} {D : Nat → Int} {s : Int} (h : OwnP w B v n D s) (hb : Below w.heap.size w w') : OwnP w' B v n D s := h.below (Nat.le_refl _) hb
theorem ownP_nil (w : World) (B : Nat) (D : Nat → Int) (s : Int) : OwnP w B (.slice none 0 0) 0 D s := World.ownsRow_nil _ _ _ _
theorem OwnP.form {w : World} {B : Nat} {v : Value} {n : Nat} {D : Nat → Int} {s : Int} (h : OwnP w B v n D s) : ∃ a c, v = .slice a n c := by
  rcases h.2 with ⟨rfl, rfl⟩ | ⟨g, cap, cur, rfl, _⟩
  · exact ⟨_, _, rfl⟩
  · exact ⟨_, _, rfl⟩
/-- A row of n spots in block g, from B on. -/
structure RowAt (w : World) (B : Nat) (v : Value) (n : Nat) (D : Nat → Int) (s : Int) : Prop where
  val : ∃ g c, v = .slice (some ⟨g, 0, none⟩) n c ∧ B ≤ g ∧ g < w.heap.size ∧ n ≤ c ∧ c ≤ 9223372036854775807 ∧
    ∀ j, j < n → w.cell? ⟨g, 2 * j, none⟩ = some (.int .i64 (D j)) ∧ w.cell? ⟨g, 2 * j + 1, none⟩ = some (.int .i64 s)
theorem RowAt.next {w w' : World} {B : Nat} {v : Value} {n : Nat} {D : Nat → Int} {s : Int} (h : RowAt w B v n D s) (hb : Below w.heap.size w w') : RowAt w' B v n D s := by
  obtain ⟨g, c, e, h1, h2, h3, h4, h5⟩ := h.val
  exact ⟨g, c, e, h1, Nat.lt_of_lt_of_le h2 hb.size, h3, h4, fun j hj => ⟨(hb.cell (p := ⟨g, 2 * j, none⟩) h2).trans (h5 j hj).1, (hb.cell (p := ⟨g, 2 * j + 1, none⟩) h2).trans (h5 j hj).2⟩⟩
theorem RowAt.lower {w : World} {B C : Nat} {v : Value} {n : Nat} {D : Nat → Int} {s : Int} (h : RowAt w B v n D s) (hC : C ≤ B) : RowAt w C v n D s := by
  obtain ⟨g, c, e, h1, r⟩ := h.val
  exact ⟨g, c, e, Nat.le_trans hC h1, r⟩
theorem RowAt.turn {w w' : World} {B : Nat} {v : Value} {n : Nat} {D : Nat → Int} {s : Int} {N : Nat → Prop} (h : RowAt w B v n D s) (ht : Turn N w w') (hN : ∀ k, N k → k < B) : RowAt w' B v n D s := by
  obtain ⟨g, c, e, h1, h2, h3, h4, h5⟩ := h.val
  have hg : ¬ N g := fun x => by have := hN g x; omega
  exact ⟨g, c, e, h1, Nat.lt_of_lt_of_le h2 ht.size, h3, h4, fun j hj => ⟨(ht.cell (a := ⟨g, 2 * j, none⟩) h2 hg).trans (h5 j hj).1, (ht.cell (a := ⟨g, 2 * j + 1, none⟩) h2 hg).trans (h5 j hj).2⟩⟩
theorem OwnP.row {w : World} {B : Nat} {v : Value} {n : Nat} {D : Nat → Int} {s : Int} (h : OwnP w B v n D s) (hn : 0 < n) : RowAt w B v n D s := by
  rcases h.2 with ⟨rfl, rfl⟩ | ⟨g, cap, cur, rfl, hb, hg, hnc, hm, hsz, htake⟩
  · omega
  · refine ⟨g, cap, rfl, hb, lt_of_block hg, hnc, by unfold maxLen at hm; omega, fun j hj => ?_⟩
    have e := spsL_at D s hj
    have h1 := h.cellAt (2 * j) (by omega)
    have h2 := h.cellAt (2 * j + 1) (by omega)
    exact ⟨h1.trans e.1, h2.trans e.2⟩

/-- 'append(row, spot)'. -/
theorem wpList_apP {w : World} {ops : Array Oper} {rest : List Oper} {o : Oper} {a : Act} {Q : Exit → Act → World → Prop} (hgd : o.guard = none) (s x : Operand)
    (ho : o.op = .call { callee := .builtin .append, args := #[s, x], argTypes := #[118, 118] })
    (B : Nat) (v : Value) (n : Nat) (D : Nat → Int) (z : Int) (hs : a.eval s = v) (hown : OwnP w B v n D z) (g : Nat) (hx : a.eval x = .slice (some ⟨g, 0, none⟩) 1 1)
    (h0 : w.cell? ⟨g, 0, none⟩ = some (.int .i64 (D n))) (h1 : w.cell? ⟨g, 1, none⟩ = some (.int .i64 z))
    (hn : n + 1 ≤ 1000000000000) (hB : B ≤ w.heap.size) (w0 : World) (hb : Below B w0 w)
    (h : ∀ v' w', OwnP w' B v' (n + 1) D z → Below B w0 w' → wpList Tryz.prog ops Q rest (a.put o.dst v') w') : wpList Tryz.prog ops Q (o :: rest) a w := by
  obtain ⟨i0, hi, hz0, hz1, hz2⟩ := info_parts infoSpot
  refine wpList_append_own w hgd s x 118 ho B 150 i0 (.agg #[.int .i64 0, .int .i64 0]) 2 16 Tryz.underlying118 hi hz0 hz1 hz2 rfl (by decide) v n _ hs hown ⟨g, 0, none⟩ 1 1 [.int .i64 (D n), .int .i64 z] hx rfl ?_ ?_ (by unfold maxLen; omega) (by omega) hB ?_
  · intro j u hj
    match j with
    | 0 => simp at hj; subst hj; exact h0
    | 1 => simp at hj; subst hj; exact h1
    | j + 2 => simp at hj
  · intro u hu
    rcases List.mem_cons.1 hu with rfl | hu
    · rfl
    · rw [List.mem_singleton.1 hu]
      rfl
  · intro v' w' hown' hgrow _
    exact h v' w' hown' (hb.grown hgrow hB fun k hk => (hown.lt k hk).1)

/-- The disks of a row: its blocks', then its parity's. -/
def rowD (n : Nat) (q : Int) (j : Nat) : Int := BD n q j
theorem rowD_par (n : Nat) (q : Int) (hn : 3 ≤ n) : rowD n q (n - 1) = PD n q := by
  unfold rowD BD
  obtain ⟨h1, h2⟩ := PD_bd (d := (n : Int)) (q := q) (by omega)
  rw [show PD (n : Int) q + 1 + ((n - 1 : Nat) : Int) = PD (n : Int) q + n by omega, Int.add_emod_right, Int.emod_eq_of_lt h1 h2]
set_option maxRecDepth 100000 in
set_option maxHeartbeats 4000000 in
theorem rowOf_any (n : Nat) (r s g : Int) (a : Nat) (w : World) (h : Sg n r s g) (ha : (a : Int) < r) :
    Calls Tryz.prog 103 #[gv n r s, .int .i64 g, .int .i64 a] w fun e w' => ∃ v, e = .returned v ∧ RowAt w' w.heap.size v n (rowD n (g * r + a)) (5 + (g * r + a)) ∧ Below w.heap.size w w' := by
  have d1 := h.d1
  have d2 := h.d2
  have r1 := h.r1
  have r2 := h.r2
  obtain ⟨o, ho⟩ : ∃ o : Nat, o + 1 = n := ⟨n - 1, by omega⟩
  have ho15 : o ≤ 15 := by omega
  have hpar := parity_yes n r s g a
  obtain ⟨p, hp⟩ : ∃ p : Nat, p = a * o := ⟨_, rfl⟩
  have hp60 : p ≤ 60 := by rw [hp]; exact Nat.le_trans (Nat.mul_le_mul (show a ≤ 3 by omega) (show o ≤ 15 by omega)) (by omega)
  have hpw : IntKind.i64.wrap ((a : Int) * (o : Int)) = (p : Int) := by rw [hp, IntWalk.i64_in _ (by rw [← Int.natCast_mul, ← hp]; omega)]; exact (Int.natCast_mul a o).symm
  have hno : (n : Int) - 1 = (o : Int) := by omega
  have hmul : ((a : Int) * (o : Int)) = (p : Int) := by rw [hp]; exact (Int.natCast_mul a o).symm
  have HBk : Hid (∀ (c : Nat) (w : World), c < o → Calls Tryz.prog 133 #[gv n r s, .int .i64 g, .int .i64 ((p : Int) + c)] w fun e w' => e = .returned (sv (rowD n (g * r + a) c) (5 + (g * r + a)) true) ∧ Below w.heap.size w w') := fun c w hc => by
    have h1 : (p : Int) + c ≤ PL n r := by
      unfold PL
      have : (a + 1) * o ≤ r.toNat * o := Nat.mul_le_mul_right _ (by omega)
      have e1 : ((r.toNat * o : Nat) : Int) = r * (n - 1) := by rw [Int.natCast_mul, hno]; congr 1; omega
      have e2 : (a + 1) * o = p + o := by rw [Nat.add_mul, Nat.one_mul, hp]
      omega
    have h2 := block_yes n r s g ((p : Int) + c) w h (by omega) h1
    have e3 : ((p : Int) + c) / (n - 1) = a := by
      rw [hno, hp, Int.natCast_mul, Int.add_comm, Int.add_mul_ediv_right _ _ (by omega), Int.ediv_eq_zero_of_lt (by omega) (by omega), Int.zero_add]
    have e4 : ((p : Int) + c) % (n - 1) = c := by
      rw [hno, hp, Int.natCast_mul, Int.add_comm, Int.add_mul_emod_self_right, Int.emod_eq_of_lt (by omega) (by omega)]
    rw [e3, e4] at h2
    exact h2
  have HPr : Hid (∀ w : World, Calls Tryz.prog 137 #[gv n r s, .int .i64 g, .int .i64 a] w fun e w' => e = .returned (sv (rowD n (g * r + a) o) (5 + (g * r + a)) true) ∧ Below w.heap.size w w') := fun w => by
    have h2 := hpar w h (by omega) ha
    rw [show rowD n (g * r + a) o = PD n (g * r + a) by rw [show o = n - 1 by omega]; exact rowD_par n _ (by omega)]
    exact h2
  obtain ⟨D, hD⟩ : ∃ D, D = rowD n (g * r + a) := ⟨_, rfl⟩
  obtain ⟨z, hz⟩ : ∃ z, z = 5 + (g * r + a) := ⟨_, rfl⟩
  rw [← hD, ← hz] at HBk HPr ⊢
  obtain ⟨W1, hW1⟩ : ∃ W1, W1 = w.alloc (.cells #[.int .i64 n, .int .i64 r, .int .i64 s] 33 (0, 0)) := ⟨_, rfl⟩
  have hx1 : Bx W1 w.heap.size n r s := by rw [hW1]; exact Bx.mk' w _ _ _ _
  have hB1 : Below w.heap.size w W1 := by rw [hW1]; exact (Below.refl _ _).alloc (Nat.le_refl _) _
  obtain ⟨gb, hgb⟩ : ∃ gb, gb = w.heap.size := ⟨_, rfl⟩
  have y0 := hx1.c0
  have y1 := hx1.c1
  have y2 := hx1.c2
  rw [← hgb] at hx1 y0 y1 y2
  have hsub : IntKind.i64.wrap ((n : Int) - 1) = (o : Int) := by rw [hno]; exact IntWalk.i64_in _ (by omega)
  have HX1 := Lib.hid hx1
  have HB1 := Lib.hid hB1
  have HO := Lib.hid ho
  clear hpar hD hz h hp hmul r1 r2 ha hx1 hB1 ho hno
  go_enter Tryz.func103, Tryz.ntmps103
  go_wp2_with (fail)
  rw [← hW1, ← hgb]
  clear hW1 hgb
  go_loopw [8, 9, 10, 11, 18] (fun v _p _q _r i wr => ∃ c : Nat, c ≤ o ∧ i = .int .i64 c ∧ OwnP wr W1.heap.size v c D z ∧ Below W1.heap.size W1 wr) (fun _ _ _ _ i _ => o - (RowKit.intOf i).toNat)
  case atStart => exact ⟨0, Nat.zero_le _, rfl, ownP_nil _ _ _ _, Below.refl _ _⟩
  case round =>
    obtain ⟨c, hc, rfl, hO, hb⟩ := hrel
    have hx2 := HX1.out.next hb
    clear y0 y1 y2
    have y0 := hx2.c0
    have y1 := hx2.c1
    have y2 := hx2.c2
    have HO2 := Lib.hid hO
    have HB2 := Lib.hid hb
    obtain ⟨ra, rc, rfl⟩ := hO.form
    clear hx2 hO hb
    by_cases hlt : c < o
    · have hbk := HBk.out c wr hlt
      have hw2 : IntKind.i64.wrap ((p : Int) + (c : Int)) = (p : Int) + c := IntWalk.i64_in _ (by omega)
      go_wp2_with (fail)
      refine hbk.mono ?_
      rintro e w3 ⟨rfl, hb3⟩
      have hB3 := HB2.out.trans (hb3.mono HB2.out.size)
      have hO3 := HO2.out.next hb3
      have HB5 : Hid (Below W1.heap.size W1 ((w3.alloc (.cells #[.int .i64 (D c), .int .i64 z] 150 (0, 0))).alloc (.cells #[.int .i64 (D c), .int .i64 z] 150 (0, 0)))) := (hB3.alloc hB3.size _).alloc (by simp; have := hB3.size; omega) _
      have HO5 : Hid (OwnP ((w3.alloc (.cells #[.int .i64 (D c), .int .i64 z] 150 (0, 0))).alloc (.cells #[.int .i64 (D c), .int .i64 z] 150 (0, 0))) W1.heap.size (.slice ra c rc) c D z) := (hO3.next ((Below.refl _ _).alloc (Nat.le_refl _) _)).next ((Below.refl _ _).alloc (Nat.le_refl _) _)
      have HC0 : Hid (((w3.alloc (.cells #[.int .i64 (D c), .int .i64 z] 150 (0, 0))).alloc (.cells #[.int .i64 (D c), .int .i64 z] 150 (0, 0))).cell? ⟨w3.heap.size + 1, 0, none⟩ = some (.int .i64 (D c))) := by show _ = _; simp
      have HC1 : Hid (((w3.alloc (.cells #[.int .i64 (D c), .int .i64 z] 150 (0, 0))).alloc (.cells #[.int .i64 (D c), .int .i64 z] 150 (0, 0))).cell? ⟨w3.heap.size + 1, 1, none⟩ = some (.int .i64 z)) := by show _ = _; simp
      have hcn : Hid (c + 1 ≤ 1000000000000) := by show _ ≤ _; omega
      clear hbk hb3 hB3 hO3 y0 y1 y2
      go_wp2_with (at_builtin; go_must (refine wpList_apP rfl (.tmp 32) (.tmp 34) rfl W1.heap.size _ c D z rfl HO5.out (w3.heap.size + 1) rfl HC0.out HC1.out hcn.out HB5.out.size W1 HB5.out ?_); intro v5 w5 hO5 hb5)
      go_roundw
      case rel => exact ⟨c + 1, by omega, by go_num, hO5, hb5⟩
      case measure => simp [RowKit.intOf]; omega
    · obtain rfl : c = o := by omega
      have hp := HPr.out wr
      go_wp2_with (fail)
      refine hp.mono ?_
      rintro e w3 ⟨rfl, hb3⟩
      have hB3 := HB2.out.trans (hb3.mono HB2.out.size)
      have hO3 := HO2.out.next hb3
      have HB5 : Hid (Below W1.heap.size W1 ((w3.alloc (.cells #[.int .i64 (D c), .int .i64 z] 150 (0, 0))).alloc (.cells #[.int .i64 (D c), .int .i64 z] 150 (0, 0)))) := (hB3.alloc hB3.size _).alloc (by simp; have := hB3.size; omega) _
      have HO5 : Hid (OwnP ((w3.alloc (.cells #[.int .i64 (D c), .int .i64 z] 150 (0, 0))).alloc (.cells #[.int .i64 (D c), .int .i64 z] 150 (0, 0))) W1.heap.size (.slice ra c rc) c D z) := (hO3.next ((Below.refl _ _).alloc (Nat.le_refl _) _)).next ((Below.refl _ _).alloc (Nat.le_refl _) _)
      have HC0 : Hid (((w3.alloc (.cells #[.int .i64 (D c), .int .i64 z] 150 (0, 0))).alloc (.cells #[.int .i64 (D c), .int .i64 z] 150 (0, 0))).cell? ⟨w3.heap.size + 1, 0, none⟩ = some (.int .i64 (D c))) := by show _ = _; simp
      have HC1 : Hid (((w3.alloc (.cells #[.int .i64 (D c), .int .i64 z] 150 (0, 0))).alloc (.cells #[.int .i64 (D c), .int .i64 z] 150 (0, 0))).cell? ⟨w3.heap.size + 1, 1, none⟩ = some (.int .i64 z)) := by show _ = _; simp
      have hcn : Hid (c + 1 ≤ 1000000000000) := by show _ ≤ _; omega
      clear hp hb3 hB3 hO3 y0 y1 y2
      go_wp2_with (at_builtin; go_must (refine wpList_apP rfl (.tmp 44) (.tmp 46) rfl W1.heap.size _ c D z rfl HO5.out (w3.heap.size + 1) rfl HC0.out HC1.out hcn.out HB5.out.size W1 HB5.out ?_); intro v5 w5 hO5 hb5)
      go_ret
      have e := HO.out
      subst e
      exact ⟨_, rfl, (hO5.row (by omega)).lower HB1.out.size, HB1.out.trans (hb5.mono HB1.out.size)⟩

end Go.Proofs.YtegmeoghonolcaaGreat

/-
  The stripe's iterator over a segment's rows, by contract.
-/
namespace Go.Proofs.YtegmeoghonolcaaGreat
open Go.RowKit Go.Maps
set_option linter.unusedVariables false
attribute [local go_sem] Oper.semAt_some

/-- The two boxes of a closure over a geometry and a segment. -/
structure Bgs (pg ps : Nat) (n : Nat) (r s g : Int) (C : Nat) (X : World) : Prop where
  geo : Bx X pg n r s
  seg : X.cell? ⟨ps, 0, none⟩ = some (.int .i64 g)
  lts : ps < X.heap.size
  le : C ≤ X.heap.size
theorem Bgs.next {pg ps n C : Nat} {r s g : Int} {X X' : World} (h : Bgs pg ps n r s g C X) (hb : Below X.heap.size X X') : Bgs pg ps n r s g C X' :=
  ⟨h.geo.next hb, (hb.cell (p := ⟨ps, 0, none⟩) h.lts).trans h.seg, Nat.lt_of_lt_of_le h.lts hb.size, Nat.le_trans h.le hb.size⟩
theorem Bx.aside {w w' : World} {b l : Nat} {d r s : Int} (h : Bx w b d r s) (ha : Aside l w w') : Bx w' b d r s := ⟨Nat.lt_of_lt_of_le h.lt ha.turn.size, ha.cell h.c0, ha.cell h.c1, ha.cell h.c2⟩
theorem Bx.turn {w w' : World} {b : Nat} {d r s : Int} {N : Nat → Prop} (h : Bx w b d r s) (ht : Turn N w w') (hn : ¬ N b) : Bx w' b d r s :=
  ⟨Nat.lt_of_lt_of_le h.lt ht.size, (ht.cell (a := ⟨b, 0, none⟩) h.lt hn).trans h.c0, (ht.cell (a := ⟨b, 1, none⟩) h.lt hn).trans h.c1, (ht.cell (a := ⟨b, 2, none⟩) h.lt hn).trans h.c2⟩
theorem Bgs.turn {pg ps n C : Nat} {r s g : Int} {X X' : World} {N : Nat → Prop} (h : Bgs pg ps n r s g C X) (ht : Turn N X X') (h1 : ¬ N pg) (h2 : ¬ N ps) : Bgs pg ps n r s g C X' :=
  ⟨h.geo.turn ht h1, (ht.cell (a := ⟨ps, 0, none⟩) h.lts h2).trans h.seg, Nat.lt_of_lt_of_le h.lts ht.size, Nat.le_trans h.le ht.size⟩
theorem Bgs.aside {pg ps n C : Nat} {r s g : Int} {X X' : World} {l : Nat} (h : Bgs pg ps n r s g C X) (ha : Aside l X X') : Bgs pg ps n r s g C X' :=
  ⟨h.geo.aside ha, ha.cell h.seg, Nat.lt_of_lt_of_le h.lts ha.turn.size, Nat.le_trans h.le ha.turn.size⟩
theorem rows_any (n : Nat) (r s g : Int) (w : World) :
    Calls Tryz.prog 54 #[gv n r s, .int .i64 g] w fun e w' => ∃ pg ps, e = .returned (.func (.func 102) #[] #[.pointer (some ⟨pg, 0, none⟩), .pointer (some ⟨ps, 0, none⟩)]) ∧
      Bgs pg ps n r s g w.heap.size w' ∧ w.heap.size ≤ pg ∧ w.heap.size ≤ ps ∧ Below w.heap.size w w' := by
  go_enter Tryz.func54, Tryz.ntmps54
  go_wp2_with (fail)
  go_ret
  refine ⟨w.heap.size, w.heap.size + 1, rfl, ⟨⟨by simp; omega, by simp, by simp, by simp⟩, by simp, by simp, by simp; omega⟩, Nat.le_refl _, by omega, ((Below.refl _ _).alloc (Nat.le_refl _) _).alloc (by simp) _⟩

set_option maxHeartbeats 1000000 in
theorem rows_rounds (pg ps n C m : Nat) (r s g : Int) (h : Sg n r s g) (hm : r = (m : Int)) :
    Rounds2 102 #[.pointer (some ⟨pg, 0, none⟩), .pointer (some ⟨ps, 0, none⟩)] m (fun _ => false) (fun i v X => RowAt X C v n (rowD n (g * r + i)) (5 + (g * r + i))) (fun i X => Bgs pg ps n r s g C X) := by
  intro l N J Jx W _ _ hA hAx hB hS hY h0
  have HA := Lib.hid hA
  have HB := Lib.hid hB
  have HY := Lib.hid hY
  have hb0 := hB 0 W h0
  have HSg := Lib.hid h
  clear hB hY hA hAx hS
  have y1 := hb0.geo.c1
  rw [hm] at y1
  have hrf : Hid (∀ (i : Nat) (w : World), i < m → Calls Tryz.prog 103 #[gv n m s, .int .i64 g, .int .i64 i] w fun e w' => ∃ v, e = .returned v ∧ RowAt w' w.heap.size v n (rowD n (g * r + i)) (5 + (g * r + i)) ∧ Below w.heap.size w w') := fun i w hi => by
    have := rowOf_any n r s g i w h (by omega)
    rw [hm] at this ⊢
    exact this
  have hm4 : m ≤ 4 := by have := h.r2; omega
  have HM := Lib.hid hm
  clear h hm
  refine callsIn_of_wp Tryz.func102 rfl trivial ?_ rfl
  simp only [Tryz.ntmps102, List.size_toArray, List.length_cons, List.length_nil, Nat.reduceAdd, Nat.reduceSub, Array.replicate_succ, Array.replicate_zero, List.push_toArray, List.append_toArray, List.nil_append, List.cons_append]
  gi_wp2
  gi_loopw [4, 7] (fun _ i wr => ∃ k : Nat, k ≤ m ∧ i = .int .i64 k ∧ J k wr) (fun _ i _ => m - (RowKit.intOf i).toNat)
  case atStart => exact ⟨0, Nat.zero_le _, rfl, h0⟩
  case round =>
    obtain ⟨k, hk, rfl, hJ⟩ := hrel
    clear y1
    have hbk := HB.out k wr hJ
    have y0 := hbk.geo.c0
    have y1 := hbk.geo.c1
    have y2 := hbk.geo.c2
    have y3 := hbk.seg
    have hle := hbk.le
    rw [HM.out] at y1
    by_cases hlt : k < m
    · have hrk := hrf.out k wr hlt
      have HJ := Lib.hid hJ
      have HLE : Hid (C ≤ wr.heap.size) := hle
      clear hbk hle hJ
      have HYk : Hid (∀ v w', RowAt w' C v n (rowD n (g * r + k)) (5 + (g * r + k)) → Below wr.heap.size wr w' → YieldAt Fence.wide 1 Tryz.prog l #[v] w' fun e X' => ((e = .returned (.bool true) ∧ J (k + 1) X') ∨ (e = .returned (.bool false) ∧ Jx X')) ∧ Turn (fun k => N k ∨ k = l) w' X') := fun v w' hrw hb =>
        HY.out k v w' hlt (by simp) ((HA.out k).below _ _ HJ.out hb) hrw
      gi_wp2_with (refine ⟨trivial, ?_⟩; gi_at_call 103; refine (callsIn_wide.2 hrk).mono ?_; clear hrk; rintro e w' ⟨v, rfl, hrow, hb⟩; obtain ⟨fn, tmps, assign, body, hy, hR⟩ := HYk.out v w' (hrow.lower HLE.out) hb; clear hrow hb HYk)
      refine hR.mono ?_
      rintro e W' ⟨(⟨rfl, hJ'⟩ | ⟨rfl, hx⟩), _⟩
      · gi_wp2
        go_roundw
        case rel => exact ⟨k + 1, by omega, by go_num, hJ'⟩
        case measure => simp [RowKit.intOf]; omega
      · gi_wp2
        refine bodyPost_ret (results_none rfl _ _ _) rfl ?_
        exact ⟨⟨_, rfl⟩, .inr hx⟩
    · obtain rfl : k = m := by omega
      clear hbk hle
      gi_wp2
      go_end0
      exact ⟨⟨_, rfl⟩, .inl hJ⟩

end Go.Proofs.YtegmeoghonolcaaGreat

/-
  The stripe's iterator over what a slot lacks, by contract.
-/
namespace Go.Proofs.YtegmeoghonolcaaGreat
open Go.RowKit Go.Maps
set_option linter.unusedVariables false
attribute [local go_sem] Oper.semAt_some

section
variable {pb pg pl pq b C : Nat} {g i q : Int} {X X' : World}
end
theorem RackAt.abides {M : Nat → Prop} {L : Lay} {R : Rk} {K : Nat} (hK : ∀ k, L.M R.n k → k < K) : Abides K (fun X => RackAt X M L R) :=
  ⟨fun X X' h hb => h.below hb, fun l X X' hl h ha => h.aside ha (fun x => by have := hK l x; omega)⟩
theorem RowAt.abides {C n : Nat} {v : Value} {D : Nat → Int} {s : Int} (K : Nat) : Abides K (fun X => RowAt X C v n D s) :=
  ⟨fun X X' h hb => h.next hb, fun l X X' hl h ha => by
    obtain ⟨g, c, e, h1, h2, h3, h4, h5⟩ := h.val
    exact ⟨g, c, e, h1, Nat.lt_of_lt_of_le h2 ha.turn.size, h3, h4, fun j hj => ⟨ha.cell (h5 j hj).1, ha.cell (h5 j hj).2⟩⟩⟩
end Go.Proofs.YtegmeoghonolcaaGreat

/-
  The stripe's isSound and Sound, by contract.
-/
namespace Go.Proofs.YtegmeoghonolcaaGreat
open Go.RowKit Go.Maps
set_option linter.unusedVariables false
attribute [local go_sem] Oper.semAt_some

section
variable {M : Nat → Prop} {L : Lay} {R : Rk} {w : World} {b : Nat} {B : Bn}
theorem segO_yes {B : Bn} {g : Int} (h : segO B g = true) : Sg B.d B.r B.s g := by
  classical
  unfold segO at h
  by_cases hh : Sg B.d B.r B.s g
  · exact hh
  · rw [decide_eq_false hh] at h; cases h
/-- A box of one cell, free to be written. -/
def Cel (p : Nat) (v : Value) (X : World) : Prop := X.cell? ⟨p, 0, none⟩ = some v ∧ X.frozen? ⟨p, 0, none⟩ = false
theorem Cel.lt {p : Nat} {v : Value} {X : World} (h : Cel p v X) : p < X.heap.size := World.block_lt_of_cell? X _ h.1
theorem Cel.next {p : Nat} {v : Value} {X X' : World} (h : Cel p v X) (hb : Below X.heap.size X X') : Cel p v X' := ⟨(hb.cell (p := ⟨p, 0, none⟩) h.lt).trans h.1, (hb.frozen (p := ⟨p, 0, none⟩) h.lt).trans h.2⟩
theorem Cel.turn {N : Nat → Prop} {p : Nat} {v : Value} {X X' : World} (h : Cel p v X) (ht : Turn N X X') (hn : ¬ N p) : Cel p v X' := ⟨(ht.cell (a := ⟨p, 0, none⟩) h.lt hn).trans h.1, (ht.frozen (a := ⟨p, 0, none⟩) h.lt hn).trans h.2⟩
theorem Cel.aside {l p : Nat} {v : Value} {X X' : World} (h : Cel p v X) (ha : Aside l X X') : Cel p v X' := ⟨ha.cell h.1, (ha.frozen h.1).trans h.2⟩
theorem Cel.abides (K p : Nat) (v : Value) : Abides K (Cel p v) := ⟨fun X X' h hb => h.next hb, fun l X X' hl h ha => h.aside ha⟩
theorem Cel.set {p : Nat} {v : Value} {X : World} (h : Cel p v X) (u : Value) : Cel p u (X.setCell ⟨p, 0, none⟩ u) := ⟨cell_set_same _ _ _ _ _ h.1, by simpa using h.2⟩
theorem Cel.off {p k : Nat} {v : Value} {X : World} (h : Cel p v X) (u : Value) (hne : k ≠ p) : Cel p v (X.setCell ⟨k, 0, none⟩ u) := h.turn (turn_set X k 0 u) (fun e => hne e.symm)
theorem Cel.new {w X : World} {v : Value} {t : TypeId} (h : X = w.alloc (.cells #[v] t)) : Cel w.heap.size v X := by rw [h]; exact box_new w v t rfl
theorem below_abides {w : World} {K : Nat} (hK : w.heap.size ≤ K) : Abides K (fun X => Below w.heap.size w X) :=
  ⟨fun X X' h hb => h.trans (hb.mono h.size), fun l X X' hl h ha => h.trans (ha.turn.below h.size (fun k e => by subst e; omega))⟩
end

end Go.Proofs.YtegmeoghonolcaaGreat

/-
  The stripe's Missing, by contract.
-/
namespace Go.Proofs.YtegmeoghonolcaaGreat
open Go.RowKit Go.Maps
set_option linter.unusedVariables false
attribute [local go_sem] Oper.semAt_some

theorem chk_zero {R : Rk} {ok : Bool} (h : 0 = chkE R ok) : ok = true := by
  unfold chkE at h
  cases ok
  · cases h
  · rfl
section
variable {M : Nat → Prop} {L : Lay} {R : Rk} {w : World} {b : Nat} {B : Bn}
end

end Go.Proofs.YtegmeoghonolcaaGreat

/-
  The stripe's Refill, by contract.
-/
namespace Go.Proofs.YtegmeoghonolcaaGreat
open Go.RowKit Go.Maps
set_option linter.unusedVariables false
attribute [local go_sem] Oper.semAt_some

section
variable {M : Nat → Prop} {L : Lay} {R : Rk} {w : World} {b : Nat} {B : Bn}
end

end Go.Proofs.YtegmeoghonolcaaGreat
