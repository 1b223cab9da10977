/-
  The document's map in memory.
-/
import Derived.Test.YtgedgkdnjnbijaaBp
import Derived.Test.YtgedgkdnjnbijaaRet
import Derived.Test.YtgedgkdnjnbijaaPc
namespace Go.Proofs.Ytgedgkdnjnbijaa
open Go.RowKit
set_option linter.unusedVariables false
set_option linter.unusedSimpArgs false

/-- The document's map lies in block b; what its bytes lie in is of G. -/
structure Rfm (w : World) (b : Nat) (G : Nat → Prop) (A : Nat → Int) (F : Nat → Pc) : Prop where
  lt : b < w.heap.size
  ad : ∀ k, k < 828 → w.cell? ⟨b, k, none⟩ = some (.int .i64 (A k))
  sl : ∀ k, k < 828 → w.cell? ⟨b, 828 + k, none⟩ = some (.slice (F k).a (F k).n (F k).c)
  fr : ∀ i, w.frozen? ⟨b, i, none⟩ = false
  pin : ∀ k, k < 828 → Pin w (F k).a (F k).n (F k).c (F k).zs
  own : ∀ k, k < 828 → ∀ x, (F k).a = some x → G x.block
  ng : ¬ G b
  gl : ∀ j, G j → j < w.heap.size
theorem pin_turn {M : Nat → Prop} {w w' : World} {a : Option Addr} {n c : Nat} {zs : List Int} (h : Pin w a n c zs) (ht : Turn M w w') (hm : 0 < n → ∀ x, a = some x → ¬ M x.block) : Pin w' a n c zs := by
  refine ⟨?_, h.nil, h.cap, h.max⟩
  by_cases h0 : n = 0
  · exact ⟨h.bys.len, h.bys.small, .inl h0⟩
  · exact bys_turn h.bys ht fun b off e => hm (by omega) _ e
section
variable {w w' : World} {b : Nat} {G : Nat → Prop} {A : Nat → Int} {F : Nat → Pc}
theorem Rfm.turn (h : Rfm w b G A F) {M : Nat → Prop} (ht : Turn M w w') (hb : ¬ M b) (hG : ∀ j, G j → ¬ M j) : Rfm w' b G A F :=
  ⟨Nat.lt_of_lt_of_le h.lt ht.size, fun k hk => (ht.cell (a := ⟨b, k, none⟩) h.lt hb).trans (h.ad k hk), fun k hk => (ht.cell (a := ⟨b, 828 + k, none⟩) h.lt hb).trans (h.sl k hk),
    fun i => (ht.frozen (a := ⟨b, i, none⟩) h.lt hb).trans (h.fr i), fun k hk => pin_turn (h.pin k hk) ht fun _ x e => hG _ (h.own k hk x e), h.own, h.ng, fun j hj => Nat.lt_of_lt_of_le (h.gl j hj) ht.size⟩
theorem Rfm.next (h : Rfm w b G A F) (hb : Below w.heap.size w w') : Rfm w' b G A F := h.turn (M := fun _ => False) (Turn.of_below hb) (fun h => h) (fun _ _ h => h)
theorem Rfm.setA (h : Rfm w b G A F) {k : Nat} (hk : k < 828) (z : Int) : Rfm (w.setCell ⟨b, k, none⟩ (.int .i64 z)) b G (upd A k z) F := by
  have ht := turn_set w b k (.int .i64 z)
  refine ⟨by simpa using h.lt, fun i hi => ?_, fun i hi => ?_, fun i => by simpa using h.fr i, fun i hi => pin_turn (h.pin i hi) ht fun _ x e hx => h.ng (hx ▸ h.own i hi x e), h.own, h.ng, fun j hj => by simpa using h.gl j hj⟩
  · by_cases e : i = k
    · subst e; rw [World.cell?_setCell_same _ _ _ (h.ad i hi), upd_at]
    · rw [World.cell?_setCell_other _ _ _ _ (by simp [Ne.symm e]), h.ad i hi, upd_off _ _ e]
  · rw [World.cell?_setCell_other _ _ _ _ (by first | (simp; done) | (simp; omega)), h.sl i hi]
theorem Rfm.setF (h : Rfm w b G A F) {k : Nat} (hk : k < 828) (p : Pc) (hp : Pin w p.a p.n p.c p.zs) (ho : ∀ x, p.a = some x → G x.block) : Rfm (w.setCell ⟨b, 828 + k, none⟩ (.slice p.a p.n p.c)) b G A (upd F k p) := by
  have ht := turn_set w b (828 + k) (.slice p.a p.n p.c)
  refine ⟨by simpa using h.lt, fun i hi => ?_, fun i hi => ?_, fun i => by simpa using h.fr i, fun i hi => ?_, fun i hi => ?_, h.ng, fun j hj => by simpa using h.gl j hj⟩
  · rw [World.cell?_setCell_other _ _ _ _ (by first | (simp; done) | (simp; omega)), h.ad i hi]
  · by_cases e : i = k
    · subst e; rw [World.cell?_setCell_same _ _ _ (h.sl i hi), upd_at]
    · rw [World.cell?_setCell_other _ _ _ _ (by first | (simp; done) | (simp; omega)), h.sl i hi, upd_off _ _ e]
  · by_cases e : i = k
    · subst e; rw [upd_at]; exact pin_turn hp ht fun _ x e hx => h.ng (hx ▸ ho x e)
    · rw [upd_off _ _ e]; exact pin_turn (h.pin i hi) ht fun _ x e hx => h.ng (hx ▸ h.own i hi x e)
  · by_cases e : i = k
    · subst e; rw [upd_at]; exact ho
    · rw [upd_off _ _ e]; exact h.own i hi
theorem Rfm.more (h : Rfm w b G A F) {G' : Nat → Prop} (hs : ∀ j, G j → G' j) (hn : ¬ G' b) (hl : ∀ j, G' j → j < w.heap.size) : Rfm w b G' A F :=
  ⟨h.lt, h.ad, h.sl, h.fr, h.pin, fun k hk x e => hs _ (h.own k hk x e), hn, hl⟩
end
/-- The document's map, by what it tells. -/
def Bmp (w : World) (b : Nat) (G : Nat → Prop) (A : Nat → Int) (X : Nat → List Int) : Prop := ∃ F, Rfm w b G A F ∧ ∀ k, k < 828 → (F k).zs = X k
def noPc : Pc := ⟨none, 0, 0, []⟩
theorem pin_no (w : World) : Pin w noPc.a noPc.n noPc.c noPc.zs := Pin.zero w
section
variable {w w' : World} {b : Nat} {G : Nat → Prop} {A : Nat → Int} {X : Nat → List Int}
theorem Bmp.turn (h : Bmp w b G A X) {M : Nat → Prop} (ht : Turn M w w') (hb : ¬ M b) (hG : ∀ j, G j → ¬ M j) : Bmp w' b G A X := by
  obtain ⟨F, h1, h2⟩ := h
  exact ⟨F, h1.turn ht hb hG, h2⟩
theorem Bmp.next (h : Bmp w b G A X) (hb : Below w.heap.size w w') : Bmp w' b G A X := by
  obtain ⟨F, h1, h2⟩ := h
  exact ⟨F, h1.next hb, h2⟩
theorem Bmp.lt (h : Bmp w b G A X) : b < w.heap.size := by
  obtain ⟨F, h1, h2⟩ := h
  exact h1.lt
theorem Bmp.congr (h : Bmp w b G A X) {X' : Nat → List Int} (he : ∀ k, k < 828 → X k = X' k) : Bmp w b G A X' := by
  obtain ⟨F, h1, h2⟩ := h
  exact ⟨F, h1, fun k hk => (h2 k hk).trans (he k hk)⟩
theorem Bmp.setA (h : Bmp w b G A X) {k : Nat} (hk : k < 828) (z : Int) : Bmp (w.setCell ⟨b, k, none⟩ (.int .i64 z)) b G (upd A k z) X := by
  obtain ⟨F, h1, h2⟩ := h
  exact ⟨F, h1.setA hk z, h2⟩
theorem Bmp.setX (h : Bmp w b G A X) {k : Nat} (hk : k < 828) (p : Pc) (hp : Pin w p.a p.n p.c p.zs) (ho : ∀ x, p.a = some x → G x.block) : Bmp (w.setCell ⟨b, 828 + k, none⟩ (.slice p.a p.n p.c)) b G A (upd X k p.zs) := by
  obtain ⟨F, h1, h2⟩ := h
  refine ⟨_, h1.setF hk p hp ho, fun i hi => ?_⟩
  by_cases e : i = k
  · subst e; rw [upd_at, upd_at]
  · rw [upd_off _ _ e, upd_off _ _ e]; exact h2 i hi
theorem Bmp.none (h : Bmp w b G A X) {k : Nat} (hk : k < 828) : Bmp (w.setCell ⟨b, 828 + k, .none⟩ (.slice .none 0 0)) b G A (upd X k []) :=
  h.setX hk noPc (pin_no w) (fun x e => by cases e)
theorem Bmp.more (h : Bmp w b G A X) {G' : Nat → Prop} (hs : ∀ j, G j → G' j) (hn : ¬ G' b) (hl : ∀ j, G' j → j < w.heap.size) : Bmp w b G' A X := by
  obtain ⟨F, h1, h2⟩ := h
  exact ⟨F, h1.more hs hn hl, h2⟩
theorem Bmp.ad (h : Bmp w b G A X) {k : Nat} (hk : k < 828) : w.cell? ⟨b, k, .none⟩ = some (.int .i64 (A k)) := by
  obtain ⟨F, h1, h2⟩ := h
  exact h1.ad k hk
theorem Bmp.fr (h : Bmp w b G A X) (i : Nat) : w.frozen? ⟨b, i, .none⟩ = false := by
  obtain ⟨F, h1, h2⟩ := h
  exact h1.fr i
theorem Bmp.sl (h : Bmp w b G A X) {k : Nat} (hk : k < 828) : ∃ a n c, w.cell? ⟨b, 828 + k, .none⟩ = some (.slice a n c) ∧ Pin w a n c (X k) ∧ (∀ x, a = some x → G x.block) := by
  obtain ⟨F, h1, h2⟩ := h
  exact ⟨_, _, _, h1.sl k hk, by rw [← h2 k hk]; exact h1.pin k hk, h1.own k hk⟩
theorem Bmp.gl (h : Bmp w b G A X) : ∀ j, G j → j < w.heap.size := by
  obtain ⟨F, h1, h2⟩ := h
  exact h1.gl
theorem Bmp.ng (h : Bmp w b G A X) : ¬ G b := by
  obtain ⟨F, h1, h2⟩ := h
  exact h1.ng
end
end Go.Proofs.Ytgedgkdnjnbijaa
