/-
  Both maps at once; a call on each of them.
-/
import Derived.Test.YtgedgkdnjnbijaaBq
namespace Go.Proofs.Ytgedgkdnjnbijaa
open Go.RowKit
set_option linter.unusedVariables false
set_option linter.unusedSimpArgs false

/-- The program's map (what it may turn: T, what it hangs on: D) and the document's (in b; its bytes in G). -/
structure Two (Pmp : Pred) (w : World) (p b : Nat) (T D G : Nat → Prop) (A : Nat → Int) (X : Nat → List Int) (B : Nat → Int) (Y : Nat → List Int) : Prop where
  pm : Pmp w p T D A X
  rm : Bmp w b G B Y
  nb : ¬ D b
  ng : ∀ j, G j → ¬ D j
/-- What may have been turned since. -/
structure Inc (w w' : World) (b : Nat) (T D G T' D' G' : Nat → Prop) : Prop where
  turn : Turn (fun j => T j ∨ j = b) w w'
  t : ∀ j, T' j → T j ∨ w.heap.size ≤ j
  d : ∀ j, D' j → D j ∨ w.heap.size ≤ j
  g : ∀ j, G' j → G j ∨ w.heap.size ≤ j
section
variable {Pmp : Pred} {w w1 w' : World} {p b : Nat} {T D G T1 D1 G1 T' D' G' : Nat → Prop} {A : Nat → Int} {X : Nat → List Int} {B : Nat → Int} {Y : Nat → List Int}
theorem Inc.next (h : Below w.heap.size w w') : Inc w w' b T D G T D G := ⟨Turn.of_below h, fun _ h => .inl h, fun _ h => .inl h, fun _ h => .inl h⟩
theorem Inc.trans (h : Inc w w1 b T D G T1 D1 G1) (k : Inc w1 w' b T1 D1 G1 T' D' G') : Inc w w' b T D G T' D' G' := by
  refine ⟨⟨k.turn.os.trans h.turn.os, k.turn.tape.trans h.turn.tape, k.turn.output.trans h.turn.output, Nat.le_trans h.turn.size k.turn.size, fun j hj hn => (k.turn.block j (Nat.lt_of_lt_of_le hj h.turn.size) (fun x => ?_)).trans (h.turn.block j hj hn)⟩, fun j hj => ?_, fun j hj => ?_, fun j hj => ?_⟩
  · rcases x with x | x
    · rcases h.t j x with y | y
      · exact hn (.inl y)
      · exact absurd hj (Nat.not_lt.2 y)
    · exact hn (.inr x)
  · exact (k.t j hj).elim (h.t j) fun y => .inr (Nat.le_trans h.turn.size y)
  · exact (k.d j hj).elim (h.d j) fun y => .inr (Nat.le_trans h.turn.size y)
  · exact (k.g j hj).elim (h.g j) fun y => .inr (Nat.le_trans h.turn.size y)
theorem Inc.below (h : Inc w w' b T D G T' D' G') {B0 : Nat} (hB : B0 ≤ w.heap.size) (hT : ∀ j, T j → B0 ≤ j) (hb : B0 ≤ b) : Below B0 w w' := h.turn.below hB fun j hj => hj.elim (hT j) fun e => e ▸ hb
theorem Two.next (H : MapOk Pmp) (h : Two Pmp w p b T D G A X B Y) (hb : Below w.heap.size w w') : Two Pmp w' p b T D G A X B Y := ⟨H.next h.pm hb, h.rm.next hb, h.nb, h.ng⟩
theorem Two.nt (H : MapOk Pmp) (h : Two Pmp w p b T D G A X B Y) : ¬ T b := fun x => h.nb (H.td h.pm _ x)
theorem Two.tlt (H : MapOk Pmp) (h : Two Pmp w p b T D G A X B Y) (j : Nat) (hj : T j) : j < w.heap.size := H.lt h.pm _ (H.td h.pm _ hj)
def ProgP (Pmp : Pred) (w : World) (p b : Nat) (T D G : Nat → Prop) (A : Nat → Int) (X : Nat → List Int) (B : Nat → Int) (Y : Nat → List Int) (v : Int) (e : Ending) (w' : World) : Prop :=
  e = .returned (.int .i64 v) ∧ Turn T w w' ∧ ∃ T' D', Two Pmp w' p b T' D' G A X B Y ∧ Inc w w' b T D G T' D' G
def RefP (Pmp : Pred) (w : World) (p b : Nat) (T D G : Nat → Prop) (A : Nat → Int) (X : Nat → List Int) (B : Nat → Int) (Y : Nat → List Int) (v : Int) (e : Ending) (w' : World) : Prop :=
  e = .returned (.int .i64 v) ∧ Turn (· = b) w w' ∧ ∃ G', Two Pmp w' p b T D G' A X B Y ∧ Inc w w' b T D G T D G'
theorem Two.prog (H : MapOk Pmp) (h : Two Pmp w p b T D G A X B Y) {A' : Nat → Int} {X' : Nat → List Int} (hl : Left Pmp w p T D A' X' w') : Turn T w w' ∧ ∃ T' D', Two Pmp w' p b T' D' G A' X' B Y ∧ Inc w w' b T D G T' D' G := by
  obtain ⟨ht, T', D', hp, h1, h2⟩ := hl
  refine ⟨ht, T', D', ⟨hp, h.rm.turn ht (h.nt H) (fun j hj x => h.ng j hj (H.td h.pm _ x)), fun x => ?_, fun j hj x => ?_⟩, ⟨ht.mono fun _ x => .inl x, h1, h2, fun _ x => .inl x⟩⟩
  · exact (h2 _ x).elim h.nb (Nat.not_le.2 h.rm.lt)
  · exact (h2 _ x).elim (h.ng j hj) (Nat.not_le.2 (h.rm.gl j hj))
theorem Two.ref (H : MapOk Pmp) (h : Two Pmp w p b T D G A X B Y) {B' : Nat → Int} {Y' : Nat → List Int} (ht : Turn (· = b) w w') (hm : Bmp w' b G' B' Y') (hg : ∀ j, G' j → G j ∨ w.heap.size ≤ j) : ∃ G', Two Pmp w' p b T D G' A X B' Y' ∧ Inc w w' b T D G T D G' := by
  refine ⟨G', ⟨H.turn h.pm ht (fun j hj e => h.nb (e ▸ hj)), hm, h.nb, fun j hj x => ?_⟩, ⟨ht.mono fun _ x => .inr x, fun _ x => .inl x, fun _ x => .inl x, hg⟩⟩
  exact (hg j hj).elim (fun y => h.ng j y x) (Nat.not_le.2 (H.lt h.pm _ x))
/-- A block's bytes are few. -/
def Sml (X : Nat → List Int) : Prop := ∀ i, i < 828 → (X i).length ≤ 1000000
theorem Sml.nil : Sml fun _ => [] := fun _ _ => by simp
theorem Sml.upd {X : Nat → List Int} (h : Sml X) {k : Nat} {x : List Int} (hx : x.length ≤ 1000000) : Sml (upd X k x) := fun i hi => by
  by_cases e : i = k
  · subst e; rw [upd_at]; exact hx
  · rw [upd_off _ _ e]; exact h i hi
theorem Sml.put {X : Nat → List Int} (h : Sml X) (k : Int) (x : List Int) : Sml (if puO k x then Go.Proofs.Ytgedgkdnjnbijaa.upd X k.toNat (bnO x) else X) := by
  cases hp : puO k x with
  | false => exact h
  | true =>
    refine h.upd ?_
    rw [puO, Bool.and_eq_true] at hp
    have := of_decide_eq_true hp.2
    unfold bnO
    split
    · simp
    · omega
theorem Sml.place {X : Nat → List Int} (h : Sml X) (k t : Int) : Sml (if plO X k t then Go.Proofs.Ytgedgkdnjnbijaa.upd X k.toNat [] else X) := by
  split
  · exact h.upd (by simp)
  · exact h
theorem Sml.cut {X : Nat → List Int} (h : Sml X) (n m : Nat) : Sml (cutF [] X n m) := fun i hi => by
  unfold cutF
  split
  · simp
  · exact h i hi
def puE (k : Int) (x : List Int) : Int := if puO k x then 0 else 28
def plE (X : Nat → List Int) (k t : Int) : Int := if plO X k t then 0 else 28
def moE (A : Nat → Int) (f t : Int) : Int := if moO f t then mvN A f 828 else 0
theorem prog_put (H : MapOk Pmp) (h : Two Pmp w p b T D G A X B Y) (k : Int) {a : Option Addr} {n c : Nat} {x : List Int} (hx : Pin w a n c x) (hb : 0 < n → ∀ y, a = some y → ¬ T y.block) :
    Calls Try.prog 16 #[.pointer (some ⟨p, 0, none⟩), .int .i64 k, .slice a n c] w (ProgP Pmp w p b T D G (if puO k x then upd A k.toNat 0 else A) (if puO k x then upd X k.toNat (bnO x) else X) B Y (puE k x)) :=
  (H.put h.pm k a n c x hx hb).mono fun e w' ⟨he, hl⟩ => ⟨he, h.prog H hl⟩
theorem ref_put (H : MapOk Pmp) (h : Two Pmp w p b T D G A X B Y) (k : Int) {a : Option Addr} {n c : Nat} {x : List Int} (hx : Pin w a n c x) (hb : 0 < n → ∀ y, a = some y → y.block ≠ b) :
    Calls Try.prog 30 #[.pointer (some ⟨b, 0, none⟩), .int .i64 k, .slice a n c] w (RefP Pmp w p b T D G A X (if puO k x then upd B k.toNat 0 else B) (if puO k x then upd Y k.toNat (bnO x) else Y) (puE k x)) := by
  refine (rput_any b G B Y k a n c x w h.rm hx hb).mono fun e w' ⟨h0, h1⟩ => ?_
  cases hp : puO k x with
  | false =>
    obtain ⟨rfl, rfl⟩ := h0 hp
    refine ⟨by rw [puE, hp]; rfl, Turn.refl _ _, ?_⟩
    exact h.ref H (Turn.refl _ _) h.rm fun _ x => .inl x
  | true =>
    obtain ⟨rfl, ht, G', hm, hg⟩ := h1 hp
    refine ⟨by rw [puE, hp]; rfl, ht, ?_⟩
    exact h.ref H ht hm hg
theorem prog_place (H : MapOk Pmp) (h : Two Pmp w p b T D G A X B Y) (k t : Int) :
    Calls Try.prog 21 #[.pointer (some ⟨p, 0, none⟩), .int .i64 k, .int .i64 t] w (ProgP Pmp w p b T D G (if plO X k t then upd A k.toNat t else A) (if plO X k t then upd X k.toNat [] else X) B Y (plE X k t)) :=
  (H.place h.pm k t).mono fun e w' ⟨he, hl⟩ => ⟨he, h.prog H hl⟩
theorem ref_place (H : MapOk Pmp) (h : Two Pmp w p b T D G A X B Y) (hs : Sml Y) (k t : Int) :
    Calls Try.prog 34 #[.pointer (some ⟨b, 0, none⟩), .int .i64 k, .int .i64 t] w (RefP Pmp w p b T D G A X (if plO Y k t then upd B k.toNat t else B) (if plO Y k t then upd Y k.toNat [] else Y) (plE Y k t)) := by
  refine (rplace_any b G B Y k t w h.rm hs).mono fun e w' ⟨h0, h1⟩ => ?_
  cases hp : plO Y k t with
  | false =>
    obtain ⟨rfl, hb⟩ := h0 hp
    refine ⟨by rw [plE, hp]; rfl, Turn.of_below hb, ?_⟩
    exact h.ref H (Turn.of_below hb) (h.rm.next hb) fun _ x => .inl x
  | true =>
    obtain ⟨rfl, ht, hm⟩ := h1 hp
    refine ⟨by rw [plE, hp]; rfl, ht, ?_⟩
    exact h.ref H ht hm fun _ x => .inl x
theorem prog_move (H : MapOk Pmp) (h : Two Pmp w p b T D G A X B Y) (f t : Int) :
    Calls Try.prog 24 #[.pointer (some ⟨p, 0, none⟩), .int .i64 f, .int .i64 t] w (ProgP Pmp w p b T D G (if moO f t then mvA A f t 828 else A) X B Y (moE A f t)) :=
  (H.move h.pm f t).mono fun e w' ⟨he, hl⟩ => ⟨he, h.prog H hl⟩
theorem ref_move (H : MapOk Pmp) (h : Two Pmp w p b T D G A X B Y) (f t : Int) :
    Calls Try.prog 35 #[.pointer (some ⟨b, 0, none⟩), .int .i64 f, .int .i64 t] w (RefP Pmp w p b T D G A X (if moO f t then mvA B f t 828 else B) Y (moE B f t)) :=
  (rmove_any b G B Y f t w h.rm).mono fun e w' ⟨he, ht, hm⟩ => ⟨he, ht, h.ref H ht hm fun _ x => .inl x⟩
theorem prog_cut (H : MapOk Pmp) (h : Two Pmp w p b T D G A X B Y) (n : Int) (hn : (Lit.int .i64 n).wf = true) :
    Calls Try.prog 22 #[.pointer (some ⟨p, 0, none⟩), .int .i64 n] w fun e w' => e = .returned (.tuple #[]) ∧ Turn T w w' ∧ ∃ T' D', Two Pmp w' p b T' D' G (cutF 0 A (ctN n) 828) (cutF [] X (ctN n) 828) B Y ∧ Inc w w' b T D G T' D' G :=
  (H.cut h.pm n hn).mono fun e w' ⟨he, hl⟩ => ⟨he, h.prog H hl⟩
theorem ref_cut (H : MapOk Pmp) (h : Two Pmp w p b T D G A X B Y) (n : Int) (hn : (Lit.int .i64 n).wf = true) :
    Calls Try.prog 33 #[.pointer (some ⟨b, 0, none⟩), .int .i64 n] w fun e w' => e = .returned (.tuple #[]) ∧ Turn (· = b) w w' ∧ ∃ G', Two Pmp w' p b T D G' A X (cutF 0 B (ctN n) 828) (cutF [] Y (ctN n) 828) ∧ Inc w w' b T D G T D G' :=
  (rcut_any b G B Y n w h.rm hn).mono fun e w' ⟨he, ht, hm⟩ => ⟨he, ht, h.ref H ht hm fun _ x => .inl x⟩
/-- A call, as a value; its cells lie in block q. -/
abbrev cl (q k n : Int) (a : Option Addr) (l c : Nat) : Value := .agg #[.int .i64 q, .int .i64 k, .int .i64 n, .slice a l c]
structure Clb (w : World) (g : Nat) (q k n : Int) (a : Option Addr) (l c : Nat) : Prop where
  lt : g < w.heap.size
  c0 : w.cell? ⟨g, 0, none⟩ = some (.int .i64 q)
  c1 : w.cell? ⟨g, 1, none⟩ = some (.int .i64 k)
  c2 : w.cell? ⟨g, 2, none⟩ = some (.int .i64 n)
  c3 : w.cell? ⟨g, 3, none⟩ = some (.slice a l c)
section
variable {g : Nat} {q k n : Int} {a : Option Addr} {l c : Nat}
theorem Clb.turn {N : Nat → Prop} (h : Clb w g q k n a l c) (ht : Turn N w w') (hn : ¬ N g) : Clb w' g q k n a l c :=
  have e := fun j => ht.cell (a := ⟨g, j, none⟩) h.lt hn
  ⟨Nat.lt_of_lt_of_le h.lt ht.size, (e 0).trans h.c0, (e 1).trans h.c1, (e 2).trans h.c2, (e 3).trans h.c3⟩
theorem Clb.next (h : Clb w g q k n a l c) (hb : Below w.heap.size w w') : Clb w' g q k n a l c := h.turn (N := fun _ => False) (Turn.of_below hb) id
theorem Two.box (H : MapOk Pmp) (h : Two Pmp w p b T D G A X B Y) (q k n : Int) (a : Option Addr) (l c : Nat) : ∃ wb g, wb = w.alloc (.cells #[.int .i64 q, .int .i64 k, .int .i64 n, .slice a l c] 38) ∧ g = w.heap.size ∧ Hid (Two Pmp wb p b T D G A X B Y) ∧ Hid (Clb wb g q k n a l c) ∧ Hid (¬ T g ∧ g ≠ b) ∧ Hid (Below w.heap.size w wb) := by
  have hb : Below w.heap.size w (w.alloc (.cells #[.int .i64 q, .int .i64 k, .int .i64 n, .slice a l c] 38)) := (Below.refl _ _).alloc (Nat.le_refl _) _
  refine ⟨_, _, rfl, rfl, h.next H hb, ⟨by simp, ?_, ?_, ?_, ?_⟩, ⟨fun x => Nat.lt_irrefl _ (h.tlt H _ x), fun e => Nat.lt_irrefl _ (e ▸ h.rm.lt)⟩, hb⟩ <;> simp
end
/-- What 'told' leaves. -/
def ToldP (Pmp : Pred) (w : World) (p b : Nat) (T D G : Nat → Prop) (e : Ending) (w' : World) : Prop :=
  e = .returned (.bool true) ∧ ∃ A X T' D' G', Two Pmp w' p b T' D' G' A X A X ∧ Sml X ∧ Inc w w' b T D G T' D' G'
end
end Go.Proofs.Ytgedgkdnjnbijaa
