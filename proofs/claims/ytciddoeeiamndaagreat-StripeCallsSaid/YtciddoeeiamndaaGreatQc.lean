/-
  The reference's stripe: the spots of a segment in a slot.
-/
import Derived.Test.YtciddoeeiamndaaGreatQb
import Derived.Test.YtciddoeeiamndaaGreatRke
import Derived.Test.YtciddoeeiamndaaGreatSc
namespace Go.Proofs.YtciddoeeiamndaaGreat
open Go.RowKit Go.Maps
set_option linter.unusedVariables false

/-- The cells of the first n spots. -/
def spqL (D S : Nat → Int) : Nat → List Value
  | 0 => []
  | n + 1 => spqL D S n ++ [.int .i64 (D n), .int .i64 (S n)]
theorem spqL_len (D S : Nat → Int) (n : Nat) : (spqL D S n).length = n * 2 := by
  induction n with
  | zero => rfl
  | succ n ih => rw [spqL, List.length_append, ih]; simp; omega
theorem spqL_at (D S : Nat → Int) {n j : Nat} (h : j < n) : (spqL D S n)[2 * j]? = some (.int .i64 (D j)) ∧ (spqL D S n)[2 * j + 1]? = some (.int .i64 (S j)) := by
  induction n with
  | zero => omega
  | succ n ih =>
    have hl := spqL_len D S n
    rcases Nat.lt_or_ge j n with h1 | h1
    · obtain ⟨a, b⟩ := ih h1
      rw [spqL, List.getElem?_append_left (by rw [hl]; omega), List.getElem?_append_left (by rw [hl]; omega)]
      exact ⟨a, b⟩
    · obtain rfl : j = n := by omega
      rw [spqL, List.getElem?_append_right (by rw [hl]; omega), List.getElem?_append_right (by rw [hl]; omega), hl]
      rw [show 2 * j - j * 2 = 0 by omega, show 2 * j + 1 - j * 2 = 1 by omega]
      exact ⟨rfl, rfl⟩
/-- Spots of the call's own. -/
def OwnS (w : World) (B : Nat) (v : Value) (n : Nat) (D S : Nat → Int) : Prop := w.ownsRow B 116 2 v n (spqL D S n)
theorem OwnS.below {w w' : World} {B : Nat} {v : Value} {n : Nat} {D S : Nat → Int} (h : OwnS w B v n D S) {C : Nat} (hC : w.heap.size ≤ C) (hb : Below C w w') : OwnS w' B v n D S :=
  h.kept (row := none) ⟨hb.os, hb.tape, hb.output, hb.size, fun k hk _ => hb.block k (by omega)⟩ (by cases v.ownBlock <;> simp)
theorem OwnS.next {w w' : World} {B : Nat} {v : Value} {n : Nat} {D S : Nat → Int} (h : OwnS w B v n D S) (hb : Below w.heap.size w w') : OwnS w' B v n D S := h.below (Nat.le_refl _) hb
theorem ownS_none (w : World) (B : Nat) (hB : B ≤ w.heap.size) (D S : Nat → Int) : OwnS (w.alloc (.cells #[] 116)) B (.slice (some ⟨w.heap.size, 0, none⟩) 0 0) 0 D S :=
  World.ownsRow_lit w #[] 0 hB (Nat.zero_le _) rfl
theorem OwnS.form {w : World} {B : Nat} {v : Value} {n : Nat} {D S : Nat → Int} (h : OwnS w B v n D S) : ∃ a c, v = .slice a n c := by
  rcases h.2 with ⟨rfl, rfl⟩ | ⟨g, cap, cur, rfl, _⟩
  · exact ⟨_, _, rfl⟩
  · exact ⟨_, _, rfl⟩
/-- n spots in block g, from B on. -/
structure SpAt (w : World) (B : Nat) (g n : Nat) (D S : Nat → Int) : Prop where
  lo : B ≤ g
  lt : g < w.heap.size
  cell : ∀ j, j < n → w.cell? ⟨g, 2 * j, none⟩ = some (.int .i64 (D j)) ∧ w.cell? ⟨g, 2 * j + 1, none⟩ = some (.int .i64 (S j))
theorem SpAt.next {w w' : World} {B g n : Nat} {D S : Nat → Int} (h : SpAt w B g n D S) (hb : Below w.heap.size w w') : SpAt w' B g n D S :=
  ⟨h.lo, Nat.lt_of_lt_of_le h.lt hb.size, fun j hj => ⟨(hb.cell (p := ⟨g, 2 * j, none⟩) h.lt).trans (h.cell j hj).1, (hb.cell (p := ⟨g, 2 * j + 1, none⟩) h.lt).trans (h.cell j hj).2⟩⟩
theorem SpAt.turn {w w' : World} {B g n : Nat} {D S : Nat → Int} {N : Nat → Prop} (h : SpAt w B g n D S) (ht : Turn N w w') (hN : ¬ N g) : SpAt w' B g n D S :=
  ⟨h.lo, Nat.lt_of_lt_of_le h.lt ht.size, fun j hj => ⟨(ht.cell (a := ⟨g, 2 * j, none⟩) h.lt hN).trans (h.cell j hj).1, (ht.cell (a := ⟨g, 2 * j + 1, none⟩) h.lt hN).trans (h.cell j hj).2⟩⟩
theorem OwnS.row {w : World} {B : Nat} {v : Value} {n : Nat} {D S : Nat → Int} (h : OwnS w B v n D S) (hn : 0 < n) : ∃ g c, v = .slice (some ⟨g, 0, none⟩) n c ∧ SpAt w B g n D S ∧ n ≤ c ∧ c ≤ 9223372036854775807 := by
  rcases h.2 with ⟨rfl, rfl⟩ | ⟨g, cap, cur, rfl, hb, hg, hnc, hm, hsz, htake⟩
  · omega
  · refine ⟨g, cap, rfl, ⟨hb, lt_of_block hg, fun j hj => ?_⟩, hnc, by unfold maxLen at hm; omega⟩
    have e := spqL_at D S hj
    have h1 := h.cellAt (2 * j) (by omega)
    have h2 := h.cellAt (2 * j + 1) (by omega)
    exact ⟨h1.trans e.1, h2.trans e.2⟩
/-- 'append(spots, spot)'. -/
theorem wpList_apS {w : World} {ops : Array Oper} {rest : List Oper} {o : Oper} {a : Act} {Q : Exit → Act → World → Prop} (hgd : o.guard = none) (s x : Operand)
    (ho : o.op = .call { callee := .builtin .append, args := #[s, x], argTypes := #[105, 105] })
    (B : Nat) (v : Value) (n : Nat) (D S : Nat → Int) (hs : a.eval s = v) (hown : OwnS w B v n D S) (g : Nat) (hx : a.eval x = .slice (some ⟨g, 0, none⟩) 1 1)
    (h0 : w.cell? ⟨g, 0, none⟩ = some (.int .i64 (D n))) (h1 : w.cell? ⟨g, 1, none⟩ = some (.int .i64 (S n)))
    (hn : n + 1 ≤ 1000000000000) (hB : B ≤ w.heap.size) (w0 : World) (hb : Below B w0 w)
    (h : ∀ v' w', OwnS w' B v' (n + 1) D S → Below B w0 w' → wpList Tryz.prog ops Q rest (a.put o.dst v') w') : wpList Tryz.prog ops Q (o :: rest) a w := by
  obtain ⟨i0, hi, hz0, hz1, hz2⟩ := info_parts infoSpot
  refine wpList_append_own w hgd s x 105 ho B 116 i0 (.agg #[.int .i64 0, .int .i64 0]) 2 16 Tryz.underlying105 hi hz0 hz1 hz2 rfl (by decide) v n _ hs hown ⟨g, 0, none⟩ 1 1 [.int .i64 (D n), .int .i64 (S n)] hx rfl ?_ ?_ (by unfold maxLen; omega) (by omega) hB ?_
  · intro j u hj
    match j with
    | 0 => simp at hj; subst hj; exact h0
    | 1 => simp at hj; subst hj; exact h1
    | j + 2 => simp at hj
  · intro u hu
    rcases List.mem_cons.1 hu with rfl | hu
    · rfl
    · rw [List.mem_singleton.1 hu]
      rfl
  · intro v' w' hown' hgrow _
    exact h v' w' hown' (hb.grown hgrow hB fun k hk => (hown.lt k hk).1)

/-- How many of a slot's spots are among the first i. -/
def fnd (J : Nat → Nat) (i : Nat) : Nat := i / 3 + if J (i / 3) < i % 3 then 1 else 0
theorem fnd_hit {J : Nat → Nat} {i : Nat} (h : i % 3 = J (i / 3)) (hJ : J (i / 3) < 3) : fnd J i = i / 3 ∧ fnd J (i + 1) = i / 3 + 1 := by
  unfold fnd
  rw [if_neg (by omega)]
  refine ⟨rfl, ?_⟩
  by_cases h2 : i % 3 = 2
  · rw [show (i + 1) / 3 = i / 3 + 1 by omega, show (i + 1) % 3 = 0 by omega, if_neg (by omega)]
  · rw [show (i + 1) / 3 = i / 3 by omega, show (i + 1) % 3 = i % 3 + 1 by omega, if_pos (by omega)]
theorem fnd_miss {J : Nat → Nat} {i : Nat} (h : i % 3 ≠ J (i / 3)) (hJ : J (i / 3) < 3) : fnd J (i + 1) = fnd J i := by
  unfold fnd
  by_cases h2 : i % 3 = 2
  · rw [show (i + 1) / 3 = i / 3 + 1 by omega, show (i + 1) % 3 = 0 by omega, if_neg (by omega), if_pos (by omega)]
  · rw [show (i + 1) / 3 = i / 3 by omega, show (i + 1) % 3 = i % 3 + 1 by omega]
    by_cases h3 : J (i / 3) < i % 3
    · rw [if_pos h3, if_pos (by omega)]
    · rw [if_neg h3, if_neg (by omega)]
theorem fnd_end {J : Nat → Nat} : fnd J 9 = 3 := by
  unfold fnd
  rw [if_neg (by omega)]
/-- What 'in' answers. -/
def InPost (w : World) (x : Int) (g : Int) (e : Ending) (w' : World) : Prop := ∃ p c, e = .returned (.slice (some ⟨p, 0, none⟩) 3 c) ∧ SpAt w' w.heap.size p 3 (fun _ => x) (fun t => 5 + (g * 3 + t)) ∧ 3 ≤ c ∧ c ≤ 9223372036854775807 ∧ Below w.heap.size w w'
set_option maxRecDepth 100000 in
set_option maxHeartbeats 4000000 in
theorem in_any (g : Int) (x : Nat) (w : World) (hg : Sg 3 3 12 g) (hx : x < 3) :
    Calls Tryz.prog 88 #[gv 3 3 12, .int .i64 g, .int .i64 x] w (InPost w x g) := by
  obtain ⟨J, hJ⟩ : ∃ J : Nat → Nat, ∀ a, J a < 3 ∧ rowD 3 (g * 3 + (a : Int)) (J a) = (x : Int) := ⟨fun a => Classical.choose (rowD_sur (g * 3 + (a : Int)) hx), fun a => Classical.choose_spec (rowD_sur (g * 3 + (a : Int)) hx)⟩
  have HJ := Lib.hid hJ
  obtain ⟨W1, hW1⟩ : ∃ W1, W1 = w.alloc (.cells #[.int .i64 3, .int .i64 3, .int .i64 12] 41 (0, 0)) := ⟨_, rfl⟩
  have hx1 : Bx W1 w.heap.size 3 3 12 := by rw [hW1]; exact Bx.mk' w _ _ _ _
  have hB1 : Below w.heap.size w W1 := by rw [hW1]; exact (Below.refl _ _).alloc (Nat.le_refl _) _
  obtain ⟨p, hp⟩ : ∃ p, p = w.heap.size := ⟨_, rfl⟩
  rw [← hp] at hx1
  have HX1 := Lib.hid hx1
  have HB1 := Lib.hid hB1
  have HSP : Hid (∀ i, i < 9 → ∀ w, Calls Tryz.prog 80 #[gv 3 3 12, .int .i64 g, .int .i64 (i : Nat)] w fun e w' => e = .returned (spV (qD g i) (qS g i)) ∧ Below w.heap.size w w') := fun i hi w => spot_any g i w hg hi
  clear hx1 hB1 hJ
  go_enter Tryz.func88, Tryz.ntmps88
  go_wp2_with (fail)
  rw [← hW1, ← hp]
  obtain ⟨W2, hW2⟩ : ∃ W2, W2 = W1.alloc (.cells #[] 116) := ⟨_, rfl⟩
  have hs1 : W1.heap.size = p + 1 := by rw [hW1, hp]; simp
  have ho2 : OwnS W2 W1.heap.size (.slice (some ⟨p + 1, 0, none⟩) 0 0) 0 (fun _ => (x : Int)) (fun t => 5 + (g * 3 + (t : Int))) := by rw [← hs1, hW2]; exact ownS_none _ _ (Nat.le_refl _) _ _
  have hb2 : Below W1.heap.size W1 W2 := by rw [hW2]; exact (Below.refl _ _).alloc (Nat.le_refl _) _
  have HO2 := Lib.hid ho2
  have HB2 := Lib.hid hb2
  have hf0 : fnd J 0 = 0 := by unfold fnd; rw [if_neg (by omega)]
  rw [← hW2]
  have HFN : Hid (fnd J 9 = 3) := fnd_end
  have HP := Lib.hid hp
  have HF0 := Lib.hid hf0
  clear hW1 hW2 ho2 hb2 hp hf0 hs1
  go_loopw [7, 8, 9] (fun v i _p wr => ∃ n : Nat, n ≤ 9 ∧ i = .int .i64 n ∧ OwnS wr W1.heap.size v (fnd J n) (fun _ => (x : Int)) (fun t => 5 + (g * 3 + (t : Int))) ∧ Below W1.heap.size W1 wr) (fun _ i _ _ => 9 - (RowKit.intOf i).toNat)
  case atStart => exact ⟨0, by omega, rfl, by rw [HF0.out]; exact HO2.out, HB2.out⟩
  case round =>
    obtain ⟨n, hn, rfl, ho, hb⟩ := hrel
    have hx' := HX1.out.next hb
    have c0 := hx'.c0
    have c1 := hx'.c1
    have c2 := hx'.c2
    clear hx'
    by_cases hlt : n < 9
    · have hsp := HSP.out n hlt
      have hJ := HJ.out (n / 3)
      obtain ⟨ra, rc, rfl⟩ := ho.form
      have HO := Lib.hid ho
      have HB := Lib.hid hb
      clear ho hb
      by_cases hm : n % 3 = J (n / 3)
      · have hDx : qD g n = (x : Int) := by unfold qD; rw [hm]; exact hJ.2
        obtain ⟨f1, f2⟩ := fnd_hit hm hJ.1
        obtain ⟨z, hz⟩ : ∃ z, z = qS g n := ⟨_, rfl⟩
        have HZ : Hid (z = 5 + (g * 3 + ((fnd J n : Nat) : Int))) := by show _ = _; rw [hz, f1]; rfl
        have HF1 := Lib.hid f1
        have HF2 := Lib.hid f2
        rw [hDx, ← hz] at hsp
        clear hDx hz f1 f2 hm hJ
        go_wp2_with (fail)
        refine (hsp _).mono ?_
        rintro e w3 ⟨rfl, hb3⟩
        have hb4 : Below w3.heap.size w3 ((w3.alloc (.cells #[.int .i64 x, .int .i64 z] 116)).alloc (.cells #[.int .i64 x, .int .i64 z] 116)) := ((Below.refl _ _).alloc (Nat.le_refl _) _).alloc (by simp) _
        have hb34 := hb3.trans (hb4.mono hb3.size)
        have HO4 := Lib.hid (HO.out.next hb34)
        have HB4 := Lib.hid (HB.out.trans (hb34.mono HB.out.size))
        have HC4 : Hid (((w3.alloc (.cells #[.int .i64 x, .int .i64 z] 116)).alloc (.cells #[.int .i64 x, .int .i64 z] 116)).cell? ⟨w3.heap.size + 1, 0, none⟩ = some (.int .i64 x)) := by show _ = _; simp
        have HC5 : Hid (((w3.alloc (.cells #[.int .i64 x, .int .i64 z] 116)).alloc (.cells #[.int .i64 x, .int .i64 z] 116)).cell? ⟨w3.heap.size + 1, 1, none⟩ = some (.int .i64 (5 + (g * 3 + ((fnd J n : Nat) : Int))))) := by show _ = _; rw [← HZ.out]; simp
        have hcn : Hid (fnd J n + 1 ≤ 1000000000000) := by show _ ≤ _; rw [HF1.out]; omega
        clear hsp hb3 hb4 hb34 c0 c1 c2
        go_wp2_with (at_builtin; go_must (refine wpList_apS rfl (.tmp 28) (.tmp 30) rfl W1.heap.size _ (fnd J n) _ _ rfl HO4.out (w3.heap.size + 1) rfl HC4.out HC5.out hcn.out HB4.out.size W1 HB4.out ?_); intro v5 w5 hO5 hb5)
        go_roundw
        case rel =>
          refine ⟨n + 1, by omega, by go_num, ?_, hb5⟩
          rw [HF2.out, ← HF1.out]
          exact hO5
        case measure => simp [RowKit.intOf]; omega
      · have hDx : (qD g n == (x : Int)) = false := by
          have : qD g n ≠ (x : Int) := fun e => hm (rowD_inj (by omega) hJ.1 ((show rowD 3 (g * 3 + (n / 3 : Nat)) (n % 3) = (x : Int) from e).trans hJ.2.symm))
          simpa using this
        have HF1 := Lib.hid (fnd_miss hm hJ.1)
        obtain ⟨D, hD⟩ : ∃ D, D = qD g n := ⟨_, rfl⟩
        obtain ⟨z, hz⟩ : ∃ z, z = qS g n := ⟨_, rfl⟩
        rw [← hD] at hDx
        rw [← hD, ← hz] at hsp
        clear hD hz hm hJ
        go_wp2_with (fail)
        refine (hsp _).mono ?_
        rintro e w3 ⟨rfl, hb3⟩
        have hb4 : Below w3.heap.size w3 (w3.alloc (.cells #[.int .i64 D, .int .i64 z] 116)) := (Below.refl _ _).alloc (Nat.le_refl _) _
        have hb34 := hb3.trans (hb4.mono hb3.size)
        have HO4 := Lib.hid (HO.out.next hb34)
        have HB4 := Lib.hid (HB.out.trans (hb34.mono HB.out.size))
        clear hsp hb3 hb4 hb34 c0 c1 c2
        go_wp2_with (fail)
        go_roundw
        case rel =>
          refine ⟨n + 1, by omega, by go_num, ?_, HB4.out⟩
          rw [HF1.out]
          exact HO4.out
        case measure => simp [RowKit.intOf]; omega
    · obtain rfl : n = 9 := by omega
      rw [HFN.out] at ho
      obtain ⟨q, c, rfl, hsp, h3, hcm⟩ := ho.row (by omega)
      have HB := Lib.hid hb
      have HS := Lib.hid hsp
      clear ho hb hsp hlt
      go_wp2_with (fail)
      go_ret
      exact ⟨q, c, rfl, ⟨Nat.le_trans HB1.out.size HS.out.lo, HS.out.lt, HS.out.cell⟩, h3, hcm, HB1.out.trans (HB.out.mono HB1.out.size)⟩

end Go.Proofs.YtciddoeeiamndaaGreat

/-
  The reference's stripe: what the others of a row tell.
-/
namespace Go.Proofs.YtciddoeeiamndaaGreat
open Go.RowKit Go.Maps
set_option linter.unusedVariables false

section
variable {M : Nat → Prop} {L : RLay} {R : Rk} {F : Rf} {w : World} {B : Bn} {b : Nat}
/-- Between two rounds of others. -/
structure OtI (w : World) (B : Bn) (R : Rk) (Q z q : Int) (j0 j : Nat) (v : Value) (f : Nat → Pc) (wr : World) : Prop where
  own : OwnR wr w.heap.size v (cnt j0 j) f
  all : ∀ t, t < j → t = j0 ∨ rdO B R z q (rowD 3 Q t) = true
  zs : ∀ t, t < cnt j0 j → (f t).zs = brV B R (rowD 3 Q (skp j0 t)) z
  bel : Below w.heap.size w wr
set_option maxRecDepth 100000 in
set_option maxHeartbeats 4000000 in
theorem others_any (g q : Int) (a x : Nat) (hr : RefAt w M L F) (hb : RbAt w b L.p B) (hrel : Rel R F) (hS : Sml B) (hg : Sg 3 3 12 g) (ha : a < 3) (hx : x < 3) :
    Calls Tryz.prog 83 #[.pointer (some ⟨b, 0, none⟩), .int .i64 g, .int .i64 a, spV x (5 + (g * 3 + a)), .int .i64 q] w (RetN w (resL B R (5 + (g * 3 + a)) q x 3) (resO B R (5 + (g * 3 + a)) q x 3)) := by
  obtain ⟨z, hz⟩ : ∃ z, z = 5 + (g * 3 + (a : Int)) := ⟨_, rfl⟩
  obtain ⟨Q, hQ⟩ : ∃ Q, Q = g * 3 + (a : Int) := ⟨_, rfl⟩
  obtain ⟨j0, hj0, hjx⟩ := rowD_sur Q hx
  obtain ⟨W1, hW1⟩ : ∃ W1, W1 = w.alloc (.cells #[.int .i64 x, .int .i64 z] 116 (0, 0)) := ⟨_, rfl⟩
  have hB1 : Below w.heap.size w W1 := by rw [hW1]; exact (Below.refl _ _).alloc (Nat.le_refl _) _
  obtain ⟨p, hp⟩ : ∃ p, p = w.heap.size := ⟨_, rfl⟩
  have d0 : W1.cell? ⟨p, 0, none⟩ = some (.int .i64 x) := by rw [hW1, hp]; simp
  have d1 : W1.cell? ⟨p, 1, none⟩ = some (.int .i64 z) := by rw [hW1, hp]; simp
  have hl1 : p < W1.heap.size := by rw [hW1, hp]; simp
  have HR := Lib.hid hr
  have HB := Lib.hid hb
  have HREL := Lib.hid hrel
  have HL := Lib.hid (hr.len64 hrel B)
  have HSP : Hid (∀ m j : Nat, m = 3 * a + j → j < 3 → ∀ w, Calls Tryz.prog 80 #[gv 3 3 12, .int .i64 g, .int .i64 (m : Nat)] w fun e w' => e = .returned (spV (rowD 3 Q j) z) ∧ Below w.heap.size w w') := fun m j hm hj w => by
    subst hm
    have := spot_any g (3 * a + j) w hg (by omega)
    rw [qD_at g hj, qS_at g hj, ← hz, ← hQ] at this
    exact this
  obtain ⟨A0, hA0⟩ : ∃ A0 : Nat, A0 = 3 * a := ⟨_, rfl⟩
  obtain ⟨E, hE⟩ : ∃ E : Nat, E = 3 * a + 3 := ⟨_, rfl⟩
  have c1 := hb.c1
  have c2 := hb.c2
  have c3 := hb.c3
  rw [hS.d] at c1
  rw [hS.r] at c2
  rw [hS.s] at c3
  have hbl := hb.lt
  rw [← hz]
  have a0 : (0 : Int) ≤ (a : Int) := by omega
  have a1 : (a : Int) < 3 := by omega
  have HC : Hid (∀ wr, Below W1.heap.size W1 wr → wr.cell? ⟨b, 1, none⟩ = some (.int .i64 3) ∧ wr.cell? ⟨b, 2, none⟩ = some (.int .i64 3) ∧ wr.cell? ⟨b, 3, none⟩ = some (.int .i64 12)) := fun wr hb' =>
    have h1 : Below w.heap.size w wr := hB1.trans (hb'.mono hB1.size)
    ⟨(h1.cell (p := ⟨b, 1, none⟩) hbl).trans c1, (h1.cell (p := ⟨b, 2, none⟩) hbl).trans c2, (h1.cell (p := ⟨b, 3, none⟩) hbl).trans c3⟩
  have HB1 := Lib.hid hB1
  have HD : Hid (∀ wr, Below W1.heap.size W1 wr → wr.cell? ⟨p, 0, none⟩ = some (.int .i64 x) ∧ wr.cell? ⟨p, 1, none⟩ = some (.int .i64 z)) := fun wr hb' =>
    ⟨(hb'.cell (p := ⟨p, 0, none⟩) hl1).trans d0, (hb'.cell (p := ⟨p, 1, none⟩) hl1).trans d1⟩
  have HJX := Lib.hid hjx
  have eA : IntKind.i64.wrap ((a : Int) * 3) = (A0 : Int) := by rw [IntWalk.i64_in _ (by omega)]; omega
  have eB : IntKind.i64.wrap (((a : Int) + 1) * 3) = (E : Int) := by rw [IntWalk.i64_in _ (by omega)]; omega
  have HAE : Hid (A0 = 3 * a ∧ E = 3 * a + 3 ∧ a < 3) := ⟨hA0, hE, ha⟩
  have HFR : Hid (resL B R z q x 3 = resL B R z q x 3) := rfl
  have HNO : Hid (∀ j, j < 3 → j ≠ j0 → rdO B R z q (rowD 3 Q j) = false → resO B R z q x 3 = false ∧ resL B R z q x 3 = []) := fun j hj hne hf => by
    obtain ⟨h1, h2⟩ := rowD_bd Q j
    obtain ⟨t, ht⟩ := Int.eq_ofNat_of_zero_le h1
    rw [ht] at hf h2
    exact resO_no (t := t) (by omega) (fun e => hne (rowD_inj hj hj0 (by rw [ht, hjx, e]))) hf
  have HYES : Hid (∀ f : Nat → Pc, (∀ t, t < 3 → t = j0 ∨ rdO B R z q (rowD 3 Q t) = true) → (∀ t, t < 2 → (f t).zs = brV B R (rowD 3 Q (skp j0 t)) z) → resO B R z q x 3 = oneSeq f 2 ∧ resL B R z q x 3 = parL f 2) := fun f h1 h2 => resO_yes HL.out hx hj0 hjx h1 h2
  have HNE : Hid (∀ j, j < 3 → j ≠ j0 → ¬ rowD 3 Q j = (x : Int)) := fun j hj hne e => hne (rowD_inj hj hj0 (e.trans hjx.symm))
  have HJ0 := Lib.hid hj0
  clear hz hQ hjx d0 d1 hl1 hr hb hrel hB1 hA0 hE ha hj0 hg hS hx
  go_enter Tryz.func83, Tryz.ntmps83
  go_wp2_with (fail)
  rw [← hW1, ← hp]
  obtain ⟨W2, hW2⟩ : ∃ W2, W2 = W1.alloc (.cells #[] 49) := ⟨_, rfl⟩
  have hs1 : W1.heap.size = p + 1 := by rw [hW1, hp]; simp
  have ho2 : OwnR W2 W1.heap.size (.slice (some ⟨p + 1, 0, none⟩) 0 0) 0 (fun _ => default) := by rw [← hs1, hW2]; exact ownR_none _ _ (Nat.le_refl _) _
  have hb2 : Below W1.heap.size W1 W2 := by rw [hW2]; exact (Below.refl _ _).alloc (Nat.le_refl _) _
  have HO2 := Lib.hid ho2
  have HB2 := Lib.hid hb2
  rw [← hW2]
  clear hW1 hW2 ho2 hb2 hp hs1 c1 c2 c3 hbl eA
  have hE9 : E ≤ 9 := by have := HAE.out; omega
  go_loopw [12, 13, 14, 15, 16] (fun v i _p _q _r wr => ∃ (j m : Nat) (f : Nat → Pc), j ≤ 3 ∧ m + 3 = E + j ∧ i = .int .i64 m ∧ OtI W1 B R Q z q j0 j v f wr) (fun _ i _ _ _ _ => E - (RowKit.intOf i).toNat)
  case atStart => exact ⟨0, A0, _, by omega, by have := HAE.out; omega, rfl, by rw [show cnt j0 0 = 0 from rfl]; exact HO2.out, (fun t ht => absurd ht (Nat.not_lt_zero _)), (fun t ht => by rw [show cnt j0 0 = 0 from rfl] at ht; omega), HB2.out⟩
  case round =>
    obtain ⟨j, m, f, hj, hm, rfl, hI⟩ := hrel
    obtain ⟨c1, c2, c3⟩ := HC.out wr hI.bel
    obtain ⟨ra, rc, rfl, _, _, _, _⟩ := hI.own.rws
    by_cases hlt : j < 3
    · have hmE : (m : Int) < (E : Int) := by omega
      have hsp := HSP.out m j (by have := HAE.out; omega) hlt
      have hBr := HB1.out.trans (hI.bel.mono HB1.out.size)
      by_cases hjj : j = j0
      · subst hjj
        rw [HJX.out] at hsp
        have HI := Lib.hid hI
        have HM := Lib.hid hm
        clear hI hm hBr
        go_wp2_with (fail)
        refine (hsp _).mono ?_
        rintro e w3 ⟨rfl, hb3⟩
        have hb4 : Below w3.heap.size w3 (w3.alloc (.cells #[.int .i64 x, .int .i64 z] 116)) := (Below.refl _ _).alloc (Nat.le_refl _) _
        have hb34 := hb3.trans (hb4.mono hb3.size)
        have hB4 := HI.out.bel.trans (hb34.mono HI.out.bel.size)
        have HB4 := Lib.hid hB4
        have HO4 := Lib.hid (HI.out.own.next hb34)
        obtain ⟨d0, d1⟩ := HD.out _ hB4
        clear hsp hb3 hb4 hb34 c1 c2 c3 hB4
        go_wp2_with (fail)
        go_roundw
        case rel =>
          have e1 : cnt j (j + 1) = cnt j j := by unfold cnt; split <;> split <;> omega
          refine ⟨j + 1, m + 1, f, by omega, by have := HM.out; omega, by go_num, ⟨by rw [e1]; exact HO4.out, fun t ht => ?_, fun t ht => ?_, HB4.out⟩⟩
          · by_cases e : t = j
            · exact .inl e
            · exact HI.out.all t (by omega)
          · rw [e1] at ht
            exact HI.out.zs t ht
        case measure => simp [RowKit.intOf]; omega
      · obtain ⟨D, hD⟩ : ∃ D, D = rowD 3 Q j := ⟨_, rfl⟩
        have hne := HNE.out j hlt hjj
        rw [← hD] at hsp hne
        have hne2 : (D == (x : Int)) = false := by simpa using hne
        have HI := Lib.hid hI
        have HM := Lib.hid hm
        have HDD := Lib.hid hD
        have HJJ := Lib.hid hjj
        clear hI hm hBr hD hjj
        go_wp2_with (fail)
        refine (hsp _).mono ?_
        rintro e w3 ⟨rfl, hb3⟩
        obtain ⟨W4, hW4⟩ : ∃ W4, W4 = w3.alloc (.cells #[.int .i64 D, .int .i64 z] 116) := ⟨_, rfl⟩
        have hb4 : Below w3.heap.size w3 W4 := by rw [hW4]; exact (Below.refl _ _).alloc (Nat.le_refl _) _
        have hb34 := hb3.trans (hb4.mono hb3.size)
        have hB4 := HI.out.bel.trans (hb34.mono HI.out.bel.size)
        have HB4 := Lib.hid hB4
        have HO4 := Lib.hid (HI.out.own.next hb34)
        obtain ⟨d0, d1⟩ := HD.out _ hB4
        rw [hW4] at d0 d1
        have hBw := HB1.out.trans (hB4.mono HB1.out.size)
        have hgd := good_any (B := B) D z q (HR.out.below hBw) (HB.out.next hBw) HREL.out
        rw [HDD.out, ← HDD.out] at hgd
        clear hsp hb3 hb4 hb34 c1 c2 c3 hB4 hBw
        cases hok : rdO B R z q (rowD 3 Q j) with
        | false =>
          rw [HDD.out, hok] at hgd
          rw [← HDD.out] at hgd
          obtain ⟨n1, n2⟩ := HNO.out j hlt HJJ.out hok
          have HN1 := Lib.hid n1
          have HN2 := Lib.hid n2
          clear hok n1 n2
          go_wp2_with (fail)
          rw [← hW4]
          clear hW4 d0 d1
          refine hgd.mono ?_
          rintro e w5 ⟨a5, n5, c5, rfl, hp5, hlo5, hb5⟩
          have HBX := Lib.hid (HB1.out.trans ((HB4.out.trans (hb5.mono HB4.out.size)).mono HB1.out.size))
          clear hgd hp5 hlo5 hb5
          go_wp2_with (fail)
          go_ret2
          rw [HN1.out, HN2.out]
          exact ⟨none, 0, 0, rfl, Pin.zero _, (fun x hx => by cases hx), HBX.out⟩
        | true =>
          rw [HDD.out, hok] at hgd
          rw [← HDD.out] at hgd
          have HOK := Lib.hid hok
          clear hok
          go_wp2_with (fail)
          rw [← hW4]
          clear hW4 d0 d1
          refine hgd.mono ?_
          rintro e w5 ⟨a5, n5, c5, rfl, hp5, hlo5, hb5⟩
          have hB5 : Below W1.heap.size W1 w5 := HB4.out.trans (hb5.mono HB4.out.size)
          have hO5 := HO4.out.next hb5
          have hap : Hid (n5 = 0 ∨ ∀ y, a5 = some y → some y.block ≠ (Value.slice ra (cnt j0 j) rc).ownBlock) := .inr fun y hy e2 => by
            have h5 := hlo5 y hy
            have h6 := (HO4.out.row.lt _ e2.symm).2
            omega
          have HO6 : Hid (OwnR (w5.alloc (.cells #[.slice a5 n5 c5] 49 (0, 0))) W1.heap.size (.slice ra (cnt j0 j) rc) (cnt j0 j) f) := hO5.next ((Below.refl _ _).alloc (Nat.le_refl _) _)
          have HP6 : Hid (Pin (w5.alloc (.cells #[.slice a5 n5 c5] 49 (0, 0))) a5 n5 c5 (brV B R D z)) := hp5.alloc _
          have HB6 : Hid (Below W1.heap.size W1 (w5.alloc (.cells #[.slice a5 n5 c5] 49 (0, 0)))) := hB5.alloc hB5.size _
          have HC6 : Hid ((w5.alloc (.cells #[.slice a5 n5 c5] 49 (0, 0))).cell? ⟨w5.heap.size, 0, none⟩ = some (.slice a5 n5 c5)) := by show _ = _; simp
          have hcn : Hid (cnt j0 j + 1 ≤ 1000000000000) := by show _ ≤ _; unfold cnt; split <;> omega
          clear hgd hp5 hlo5 hb5 hB5 hO5
          go_wp2_with (at_builtin; go_must (refine wpList_apR rfl (.tmp 56) (.tmp 58) rfl W1.heap.size _ (cnt j0 j) f rfl HO6.out w5.heap.size rfl a5 n5 c5 (brV B R D z) HC6.out HP6.out hap.out hcn.out HB6.out.size W1 HB6.out ?_); intro v7 w7 hO7 hb7 hgr7 hat7)
          go_roundw
          case rel =>
            have e1 : cnt j0 (j + 1) = cnt j0 j + 1 := by have := HJJ.out; unfold cnt; split <;> split <;> omega
            have e2 : skp j0 (cnt j0 j) = j := by have := HJJ.out; unfold skp cnt; split <;> split <;> omega
            refine ⟨j + 1, m + 1, _, by omega, by have := HM.out; omega, by go_num, ⟨by rw [e1]; exact hO7, fun t ht => ?_, fun t ht => ?_, hb7⟩⟩
            · by_cases e : t = j
              · subst e; exact .inr HOK.out
              · exact HI.out.all t (by omega)
            · rw [e1] at ht
              rcases Nat.lt_or_ge t (cnt j0 j) with h1 | h1
              · rw [snoc_old h1]; exact HI.out.zs t h1
              · obtain rfl : t = cnt j0 j := by omega
                rw [snoc_new, e2, HDD.out]
          case measure => simp [RowKit.intOf]; omega
    · obtain rfl : j = 3 := by omega
      have hmE : (m : Int) = (E : Int) := by omega
      have e1 : cnt j0 3 = 2 := by have := HJ0.out; unfold cnt; split <;> omega
      have hI' := hI.own
      rw [e1] at hI'
      obtain ⟨ra', rc', he, hrw, hnc, hcm, _⟩ := hI'.rws
      cases he
      rw [e1]
      have hpr := refPar_any ra 2 rc f wr hrw (by omega)
      obtain ⟨y1, y2⟩ := HYES.out f (fun t ht => hI.all t ht) (fun t ht => hI.zs t (by rw [e1]; exact ht))
      rw [← y1, ← y2] at hpr
      have HI := Lib.hid hI
      clear hI hI' hrw y1 y2 e1 hlt
      have hmE2 : m = E := by omega
      subst hmE2
      clear hmE hm
      go_wp2_with (fail)
      refine hpr.mono ?_
      rintro e w6 ⟨a6, n6, c6, rfl, hp6, hlo6, hb6⟩
      have HBX : Hid (Below w.heap.size w w6) := (HB1.out.trans (HI.out.bel.mono HB1.out.size)).trans (hb6.mono (Nat.le_trans HB1.out.size HI.out.bel.size))
      have HLO : Hid (∀ x, a6 = some x → w.heap.size ≤ x.block) := fun y hy => Nat.le_trans (Nat.le_trans HB1.out.size HI.out.bel.size) (hlo6 y hy)
      clear hpr hb6 hlo6 c1 c2 c3
      go_wp2_with (fail)
      go_ret2
      exact ⟨a6, n6, c6, rfl, hp6, HLO.out, HBX.out⟩
end

end Go.Proofs.YtciddoeeiamndaaGreat

/-
  The reference's Missing and Sound, by contract.
-/
namespace Go.Proofs.YtciddoeeiamndaaGreat
open Go.RowKit Go.Maps
set_option linter.unusedVariables false

theorem sg_small {g : Int} (h0 : 0 ≤ g) (h1 : g < 12) : Sg 3 3 12 g := by
  refine ⟨⟨⟨by omega, by omega, by omega, by omega, by omega, by omega⟩, by unfold QC PL; omega⟩, h0, by omega⟩
section
variable {B : Bn} {g i : Int}
theorem segO_in (hS : Sml B) (h0 : 0 ≤ g) (h1 : g < 12) : segO B g = true := by
  classical
  unfold segO
  refine decide_eq_true ?_
  rw [hS.d, hS.r, hS.s]
  exact sg_small h0 h1
theorem segO_out (hS : Sml B) (h : g < 0 ∨ 12 ≤ g) : segO B g = false := by
  cases hc : segO B g with
  | false => rfl
  | true =>
    have := segO_yes hc
    have h0 := this.g0
    have h1 := this.g1
    rw [hS.s] at h1
    omega
theorem thO_out (hS : Sml B) (h : g < 0 ∨ 12 ≤ g ∨ i < 0 ∨ 3 ≤ i) : thO B g i = false := by
  cases hc : thO B g i with
  | false => rfl
  | true =>
    obtain ⟨this, h2, h3⟩ := thO_yes hc
    have h0 := this.g0
    have h1 := this.g1
    rw [hS.s] at h1
    rw [hS.d] at h3
    omega
theorem thO_in (hS : Sml B) (h0 : 0 ≤ g) (h1 : g < 12) (h2 : 0 ≤ i) (h3 : i < 3) : thO B g i = true := by
  unfold thO
  rw [segO_in hS h0 h1, Bool.true_and]
  exact decide_eq_true ⟨h2, by rw [hS.d]; exact h3⟩
end
theorem RefAt.c7 {w : World} {M : Nat → Prop} {L : RLay} {F : Rf} (h : RefAt w M L F) : w.cell? ⟨L.p, 7, none⟩ = some (.bool F.dead) := by obtain ⟨fl, fc, h⟩ := h; exact h.c7

section
variable {M : Nat → Prop} {L : RLay} {R : Rk} {F : Rf} {w : World} {B : Bn} {b : Nat}
set_option maxRecDepth 100000 in
set_option maxHeartbeats 4000000 in
theorem missing_any (g i q : Int) (hr : RefAt w M L F) (hb : RbAt w b L.p B) (hrel : Rel R F) (hS : Sml B) :
    Calls Tryz.prog 35 #[.pointer (some ⟨b, 0, none⟩), .int .i64 g, .int .i64 i, .int .i64 q] w fun e w' => e = .returned (.tuple #[.bool (misV B R 3 g q i), .int .i64 (chkE R (thO B g i))]) ∧ Below w.heap.size w w' := by
  have c0 := hb.c0
  have c1 := hb.c1
  have c2 := hb.c2
  have c3 := hb.c3
  rw [hS.d] at c1
  rw [hS.r] at c2
  rw [hS.s] at c3
  have c7 := hr.c7
  rw [← hrel.off] at c7
  have HNO : thO B g i = false → Hid (misV B R 3 g q i = false ∧ chkE R (thO B g i) = 28) := fun h => by
    have hc : chkE R (thO B g i) = 28 := by rw [h]; rfl
    exact ⟨by unfold misV; rw [hc]; rfl, hc⟩
  by_cases g0 : g < 0
  · have H := HNO (thO_out hS (.inl g0))
    clear HNO hr hb hrel hS
    go_enter Tryz.func35, Tryz.ntmps35
    go_wp2_with (fail)
    go_ret2
    rw [H.out.1, H.out.2]
    exact ⟨rfl, Below.refl _ _⟩
  by_cases g1 : 12 ≤ g
  · have H := HNO (thO_out hS (.inr (.inl g1)))
    have d0 : decide (g < 0) = false := decide_eq_false g0
    clear HNO hr hb hrel hS g0
    go_enter Tryz.func35, Tryz.ntmps35
    go_wp2_with (fail)
    go_ret2
    rw [H.out.1, H.out.2]
    exact ⟨rfl, Below.refl _ _⟩
  by_cases i0 : i < 0
  · have H := HNO (thO_out hS (.inr (.inr (.inl i0))))
    have d0 : decide (g < 0) = false := decide_eq_false g0
    have d1 : decide (12 ≤ g) = false := decide_eq_false g1
    clear HNO hr hb hrel hS g0 g1
    go_enter Tryz.func35, Tryz.ntmps35
    go_wp2_with (fail)
    go_ret2
    rw [H.out.1, H.out.2]
    exact ⟨rfl, Below.refl _ _⟩
  by_cases i1 : 3 ≤ i
  · have H := HNO (thO_out hS (.inr (.inr (.inr i1))))
    have d0 : decide (g < 0) = false := decide_eq_false g0
    have d1 : decide (12 ≤ g) = false := decide_eq_false g1
    have d2 : decide (i < 0) = false := decide_eq_false i0
    clear HNO hr hb hrel hS g0 g1 i0
    go_enter Tryz.func35, Tryz.ntmps35
    go_wp2_with (fail)
    go_ret2
    rw [H.out.1, H.out.2]
    exact ⟨rfl, Below.refl _ _⟩
  have hth := thO_in hS (g := g) (i := i) (by omega) (by omega) (by omega) (by omega)
  have d0 : decide (g < 0) = false := decide_eq_false g0
  have d1 : decide (12 ≤ g) = false := decide_eq_false g1
  have d2 : decide (i < 0) = false := decide_eq_false i0
  have d3 : decide (3 ≤ i) = false := decide_eq_false i1
  have hg := sg_small (g := g) (by omega) (by omega)
  obtain ⟨x, rfl⟩ := Int.eq_ofNat_of_zero_le (show 0 ≤ i by omega)
  have hx3 : x < 3 := by omega
  clear HNO g0 g1 i0 i1
  cases hoff : R.off with
  | true =>
    rw [hoff] at c7
    have H : Hid (misV B R 3 g q x = false ∧ chkE R (thO B g x) = 12) := by
      have hc : chkE R (thO B g x) = 12 := by unfold chkE; rw [hth, hoff]; rfl
      exact ⟨by unfold misV; rw [hc]; rfl, hc⟩
    clear hr hb hrel hS hth hoff hg
    go_enter Tryz.func35, Tryz.ntmps35
    go_wp2_with (fail)
    go_ret2
    rw [H.out.1, H.out.2]
    exact ⟨rfl, Below.refl _ _⟩
  | false =>
    rw [hoff] at c7
    have H : Hid (misV B R 3 g q x = lkG B R g q x 3 ∧ chkE R (thO B g x) = 0) := by
      have hc : chkE R (thO B g x) = 0 := by unfold chkE; rw [hth, hoff]; rfl
      exact ⟨by unfold misV; rw [if_pos hc], hc⟩
    have hin := in_any g x w hg hx3
    have HR := Lib.hid hr
    have HB := Lib.hid hb
    have HREL := Lib.hid hrel
    have HZ : Hid (∀ t : Nat, 5 + (g * B.r + (t : Int)) = 5 + (g * 3 + (t : Int))) := fun t => by rw [hS.r]
    clear hr hb hrel hS hth hoff hg
    go_enter Tryz.func35, Tryz.ntmps35
    go_wp2_with (fail)
    refine hin.mono ?_
    rintro e w1 ⟨p, c, rfl, hsp, h3, hcm, hb1⟩
    have HSP := Lib.hid hsp
    have HB1 := Lib.hid hb1
    clear hin hsp hb1 c0 c1 c2 c3 c7
    go_wp2_with (fail)
    clear d0 d1 d2 d3
    go_loopw [11, 12, 13] (fun v _p _q wr => ∃ t : Nat, t ≤ 3 ∧ v = .int .i64 t ∧ lkG B R g q x t = false ∧ Below w1.heap.size w1 wr) (fun v _ _ _ => 3 - (RowKit.intOf v).toNat)
    case atStart => exact ⟨0, by omega, rfl, rfl, Below.refl _ _⟩
    case round =>
      obtain ⟨t, ht, rfl, hlk, hb2⟩ := hrel
      by_cases hlt : t < 3
      · obtain ⟨k0, k1⟩ := (HSP.out.next hb2).cell t hlt
        have hBw := HB1.out.trans (hb2.mono HB1.out.size)
        obtain ⟨z, hz⟩ : ∃ z, z = 5 + (g * 3 + (t : Int)) := ⟨_, rfl⟩
        have hgd := good_any (B := B) (x : Int) z q (HR.out.below hBw) (HB.out.next hBw) HREL.out
        rw [← hz] at k1
        rw [Nat.mul_comm] at k0 k1
        have hst : Hid (lkG B R g q x (t + 1) = !rdO B R z q x) := by show _ = _; rw [lkG, hlk, HZ.out, ← hz]; rfl
        have HB2 := Lib.hid hb2
        clear hz hBw hlk hb2
        cases hok : rdO B R z q x with
        | false =>
          rw [hok] at hgd
          have HY : Hid (lkG B R g q x 3 = true) := lkG_yes (a := t + 1) hlt (by rw [hst.out, hok]; rfl)
          clear hok hst
          go_wp2_with (fail)
          refine hgd.mono ?_
          rintro e w3 ⟨a3, n3, c3, rfl, _, _, hb3⟩
          have HB3 := Lib.hid (HB1.out.trans ((HB2.out.trans (hb3.mono HB2.out.size)).mono HB1.out.size))
          clear hgd hb3 k0 k1
          go_wp2_with (fail)
          go_ret2
          rw [H.out.1, H.out.2, HY.out]
          exact ⟨rfl, HB3.out⟩
        | true =>
          rw [hok] at hgd
          have HY : Hid (lkG B R g q x (t + 1) = false) := by show _ = _; rw [hst.out, hok]; rfl
          clear hok hst
          go_wp2_with (fail)
          refine hgd.mono ?_
          rintro e w3 ⟨a3, n3, c3, rfl, _, _, hb3⟩
          have HB3 := Lib.hid (HB2.out.trans (hb3.mono HB2.out.size))
          clear hgd hb3 k0 k1
          go_wp2_with (fail)
          go_roundw
          case rel => exact ⟨t + 1, by omega, by go_num, HY.out, HB3.out⟩
          case measure => simp [RowKit.intOf]; omega
      · obtain rfl : t = 3 := by omega
        have HL := Lib.hid hlk
        have HB3 := Lib.hid (HB1.out.trans (hb2.mono HB1.out.size))
        clear hlk hb2 hlt
        go_wp2_with (fail)
        go_ret2
        rw [H.out.1, H.out.2, HL.out]
        exact ⟨rfl, HB3.out⟩
end

end Go.Proofs.YtciddoeeiamndaaGreat
