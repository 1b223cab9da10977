/-
  The law's 'told': a Read of both banks.
-/
import Derived.Test.YtoiidhpohghiaaaGreatRel3
import Derived.Test.YtoiidhpohghiaaaGreatRows4
namespace Go.Proofs.YtoiidhpohghiaaaGreat
open Go.RowKit Go.Maps
set_option linter.unusedVariables false

/-- A call, as a value. -/
abbrev cl (q i m : Int) (a : Option Addr) (n c : Nat) (e sl st : Int) : Value := .agg #[.int .i64 q, .int .i64 i, .int .i64 m, .slice a n c, .int .i64 e, .int .i64 sl, .int .i64 st]
/-- Its cells lie in block p. -/
structure Clb (w : World) (p : Nat) (q i m : Int) (a : Option Addr) (n c : Nat) (e sl st : Int) : Prop where
  lt : p < w.heap.size
  c0 : w.cell? ⟨p, 0, none⟩ = some (.int .i64 q)
  c1 : w.cell? ⟨p, 1, none⟩ = some (.int .i64 i)
  c2 : w.cell? ⟨p, 2, none⟩ = some (.int .i64 m)
  c3 : w.cell? ⟨p, 3, none⟩ = some (.slice a n c)
  c4 : w.cell? ⟨p, 4, none⟩ = some (.int .i64 e)
  c5 : w.cell? ⟨p, 5, none⟩ = some (.int .i64 sl)
  c6 : w.cell? ⟨p, 6, none⟩ = some (.int .i64 st)
section
variable {w0 w w' : World} {M : Nat → Prop} {L : Lay} {K : RLay} {b y n : Nat} {R : Rk} {F : Rf} {B : Bn} {q i m e sl st : Int} {a : Option Addr} {l c p : Nat}
theorem Clb.next (h : Clb w p q i m a l c e sl st) (hb : Below w.heap.size w w') : Clb w' p q i m a l c e sl st :=
  have g := fun j => hb.cell (p := ⟨p, j, none⟩) h.lt
  ⟨Nat.lt_of_lt_of_le h.lt hb.size, (g 0).trans h.c0, (g 1).trans h.c1, (g 2).trans h.c2, (g 3).trans h.c3, (g 4).trans h.c4, (g 5).trans h.c5, (g 6).trans h.c6⟩
theorem Clb.turn {N : Nat → Prop} (h : Clb w p q i m a l c e sl st) (ht : Turn N w w') (hn : ¬ N p) : Clb w' p q i m a l c e sl st :=
  have g := fun j => ht.cell (a := ⟨p, j, none⟩) h.lt hn
  ⟨Nat.lt_of_lt_of_le h.lt ht.size, (g 0).trans h.c0, (g 1).trans h.c1, (g 2).trans h.c2, (g 3).trans h.c3, (g 4).trans h.c4, (g 5).trans h.c5, (g 6).trans h.c6⟩
theorem Clb.new (w : World) (q i m : Int) (a : Option Addr) (l c : Nat) (e sl st : Int) (t : TypeId) : Clb (w.alloc (.cells #[.int .i64 q, .int .i64 i, .int .i64 m, .slice a l c, .int .i64 e, .int .i64 sl, .int .i64 st] t)) w.heap.size q i m a l c e sl st := by
  refine ⟨by simp, ?_, ?_, ?_, ?_, ?_, ?_, ?_⟩ <;> simp


theorem rdV_len (h : RackAt w M L R) (i k : Int) : (R.rdV i k).length ≤ 64 := by
  unfold Rk.rdV
  split
  · rename_i e
    have g : hasB R.n R.S i k = true := by
      unfold Rk.rdE at e
      by_cases ho : R.off = true
      · rw [if_pos ho] at e; omega
      · rw [if_neg ho] at e
        by_cases g : hasB R.n R.S i k = true
        · exact g
        · rw [if_neg g] at e; omega
    obtain ⟨x, y, rfl, rfl, hx, hy⟩ := hasB_nat g
    exact Nat.le_of_eq (h.lens _ _ hx hy)
  · exact Nat.zero_le _
theorem brV_len (h : RackAt w M L R) (B : Bn) (i k : Int) : (brV B R i k).length ≤ 64 := by
  unfold brV
  split
  · exact rdV_len h _ _
  · exact Nat.zero_le _
/-- The beginning: the call's box. -/
theorem Two.box (h : Two w0 M L K b y R F B w) (q i m : Int) (a : Option Addr) (l c : Nat) (e sl st : Int) : ∃ wb p, wb = w.alloc (.cells #[.int .i64 q, .int .i64 i, .int .i64 m, .slice a l c, .int .i64 e, .int .i64 sl, .int .i64 st] 28) ∧ p = w.heap.size ∧ Hid (Two w0 M L K b y R F B wb) ∧ Hid (Clb wb p q i m a l c e sl st) ∧ Hid (¬ M p) ∧ Hid (Below w.heap.size w wb) := by
  have hb : Below w.heap.size w (w.alloc (.cells #[.int .i64 q, .int .i64 i, .int .i64 m, .slice a l c, .int .i64 e, .int .i64 sl, .int .i64 st] 28)) := (Below.refl _ _).alloc (Nat.le_refl _) _
  exact ⟨_, _, rfl, rfl, h.next hb, Clb.new w q i m a l c e sl st _, fun x => Nat.lt_irrefl _ (h.st.rk.low _ x), hb⟩

set_option maxRecDepth 100000 in
set_option maxHeartbeats 4000000 in
theorem told_read (h : Two w0 M L K b y R F B w) :
    Calls Tryz.prog 11 #[.pointer (some ⟨L.p, 0, none⟩), .pointer (some ⟨b, 0, none⟩), .pointer (some ⟨K.p, 0, none⟩), .pointer (some ⟨y, 0, none⟩), cl 0 i m a l c e sl st] w fun en w' => en = .returned (.bool true) ∧ Two w0 M L K b y R F B w' := by
  obtain ⟨wb, p, hwb, hp, HT, HC, HP, _⟩ := h.box 0 i m a l c e sl st
  have c1 := HC.out.c1
  have c2 := HC.out.c2
  rw [hwb, hp] at c1 c2
  clear h
  go_enter Tryz.func11, Tryz.ntmps11
  go_wp2_with (fail)
  rw [← hwb, ← hp]
  clear hwb hp c1 c2
  refine (bread_any i m HT.out.st.rk HT.out.st.bk).mono ?_
  rintro e1 w1 ⟨v1, rfl, ho1, hb1⟩
  have HT1 := Lib.hid (HT.out.next hb1)
  have hc1 := HC.out.next hb1
  have c1 := hc1.c1
  have c2 := hc1.c2
  obtain ⟨a1, x1, rfl, hp1, _⟩ := ho1.pin
  have HP1 := Lib.hid hp1
  clear ho1 hb1 hc1 hp1
  have hrb := rbread_any i m HT1.out.rf HT1.out.rb
  rw [← HT1.out.rel.brE B i m, ← HT1.out.rel.brV B i m] at hrb
  go_wp2_with (fail)
  refine hrb.mono ?_
  clear hrb
  rintro e2 w2 ⟨v2, rfl, ho2, hb2⟩
  have HT2 := Lib.hid (HT1.out.next hb2)
  have hp1' := HP1.out.next hb2
  obtain ⟨a2, x2, rfl, hp2, _⟩ := ho2.pin
  have hl := brV_len HT2.out.st.rk B i m
  have hsm := same_any a1 a2 (brV B R i m).length x1 (brV B R i m).length x2 _ _ w2 hp1'.bys hp2.bys (by omega)
  rw [sameB_true rfl] at hsm
  clear ho2 hb2 hp1' hp2 hl c1 c2
  go_wp2_with (go_at_call 25; refine hsm.mono ?_; clear hsm; rintro e3 w3 ⟨rfl, q, rfl⟩; have HT3 := Lib.hid (HT2.out.drewN q))
  go_ret
  exact ⟨rfl, HT3.out⟩
end

end Go.Proofs.YtoiidhpohghiaaaGreat
