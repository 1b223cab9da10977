/-
  The program's Decode, by contract.
-/
import Derived.Test.YtegllnjncpaipaaEnc
namespace Go.Proofs.Ytegllnjncpaipaa
open Go.RowKit

def decO (x : List Int) : Bool := decide (x.length = 64)
def decN (x : List Int) (p m : Nat) : Int := if decO x then getN x p m else 0
def decL (x : List Int) : List Int := if decO x then x.drop 8 else []
/-- What Decode answers. -/
def DecPost (w0 : World) (x : List Int) (e : Ending) (w' : World) : Prop :=
  ∃ a n c, e = .returned (.tuple #[hv (decN x 0 4) (decN x 4 2) (decN x 6 2), .slice a n c, .bool (decO x)]) ∧ Pin w' a n c (decL x) ∧ Below w0.heap.size w0 w'

/-- A head's cells of the call's own, free to be written. -/
structure Rc (w : World) (b : Nat) : Prop where
  lt : b < w.heap.size
  c0 : ∃ v, w.cell? ⟨b, 0, none⟩ = some v
  c1 : ∃ v, w.cell? ⟨b, 1, none⟩ = some v
  c2 : ∃ v, w.cell? ⟨b, 2, none⟩ = some v
  f0 : w.frozen? ⟨b, 0, none⟩ = false
  f1 : w.frozen? ⟨b, 1, none⟩ = false
  f2 : w.frozen? ⟨b, 2, none⟩ = false
theorem Rc.mk' (w : World) (t : TypeId) : Rc (w.alloc (.cells #[.int .i64 0, .int .i64 0, .int .i64 0] t (0, 0))) w.heap.size :=
  ⟨by simp, ⟨_, by simp; rfl⟩, ⟨_, by simp; rfl⟩, ⟨_, by simp; rfl⟩, by go_simp, by go_simp, by go_simp⟩
theorem Rc.next {w w' : World} {b : Nat} (h : Rc w b) (hb : Below w.heap.size w w') : Rc w' b := by
  have hl := h.lt
  obtain ⟨x, hx⟩ := h.c0
  obtain ⟨y, hy⟩ := h.c1
  obtain ⟨z, hz⟩ := h.c2
  exact ⟨Nat.lt_of_lt_of_le hl hb.size, ⟨x, (hb.cell (p := ⟨b, 0, none⟩) hl).trans hx⟩, ⟨y, (hb.cell (p := ⟨b, 1, none⟩) hl).trans hy⟩, ⟨z, (hb.cell (p := ⟨b, 2, none⟩) hl).trans hz⟩,
    (hb.frozen (p := ⟨b, 0, none⟩) hl).trans h.f0, (hb.frozen (p := ⟨b, 1, none⟩) hl).trans h.f1, (hb.frozen (p := ⟨b, 2, none⟩) hl).trans h.f2⟩
theorem Rc.alloc {w : World} {b : Nat} (h : Rc w b) (o : Obj) : Rc (w.alloc o) b := h.next ((Below.refl _ _).alloc (Nat.le_refl _) o)
theorem Rc.drew {w : World} {b : Nat} (h : Rc w b) : Rc w.drew b := ⟨h.lt, h.c0, h.c1, h.c2, h.f0, h.f1, h.f2⟩

theorem set_oth {w : World} {a b : Addr} {v : Value} (h : a ≠ b) : (w.setCell a v).cell? b = w.cell? b := World.cell?_setCell_other _ _ _ _ h
theorem set_same {w : World} {a : Addr} {v u : Value} (h : w.cell? a = some u) : (w.setCell a v).cell? a = some v := World.cell?_setCell_same _ _ _ h
/-- A head is stored into block b. -/
def setH (w : World) (b : Nat) (p q r : Int) : World := ((w.setCell ⟨b, 0, none⟩ (.int .i64 p)).setCell ⟨b, 1, none⟩ (.int .i64 q)).setCell ⟨b, 2, none⟩ (.int .i64 r)
theorem Rc.set {w : World} {b : Nat} (h : Rc w b) (p q r : Int) : Hx (setH w b p q r) b p q r := by
  obtain ⟨x, hx⟩ := h.c0
  obtain ⟨y, hy⟩ := h.c1
  obtain ⟨z, hz⟩ := h.c2
  refine ⟨by simpa [setH] using h.lt, ?_, ?_, ?_⟩
  · rw [setH, set_oth (by simp), set_oth (by simp), set_same hx]
  · rw [setH, set_oth (by simp), set_same ((set_oth (by simp)).trans hy)]
  · rw [setH, set_same ((set_oth (by simp)).trans ((set_oth (by simp)).trans hz))]
theorem setH_other {w : World} {b : Nat} (p q r : Int) {x : Addr} (h : b ≠ x.block) : (setH w b p q r).cell? x = w.cell? x := by
  have : ∀ k, (⟨b, k, none⟩ : Addr) ≠ x := fun k e => h (by rw [← e])
  rw [setH, set_oth (this 2), set_oth (this 1), set_oth (this 0)]
theorem Hx.setOther {w : World} {b b' : Nat} {p q r s o i : Int} (h : Hx w b' s o i) (hne : b ≠ b') : Hx (setH w b p q r) b' s o i :=
  ⟨by simpa [setH] using h.lt, (setH_other p q r hne).trans h.c0, (setH_other p q r hne).trans h.c1, (setH_other p q r hne).trans h.c2⟩
theorem Rc.setOther {w : World} {b b' : Nat} {p q r : Int} (h : Rc w b') (hne : b ≠ b') : Rc (setH w b p q r) b' := by
  obtain ⟨x, hx⟩ := h.c0
  obtain ⟨y, hy⟩ := h.c1
  obtain ⟨z, hz⟩ := h.c2
  exact ⟨by simpa [setH] using h.lt, ⟨x, (setH_other p q r hne).trans hx⟩, ⟨y, (setH_other p q r hne).trans hy⟩, ⟨z, (setH_other p q r hne).trans hz⟩, by simpa [setH] using h.f0, by simpa [setH] using h.f1, by simpa [setH] using h.f2⟩
theorem Own.setH {w : World} {B b : Nat} {p q r : Int} {v : Value} {n : Nat} {zs : List Int} (h : Own w B v n zs) (hb : b < B) : Own (setH w b p q r) B v n zs := ((h.setLow (p := ⟨b, 0, none⟩) hb _).setLow (p := ⟨b, 1, none⟩) hb _).setLow (p := ⟨b, 2, none⟩) hb _
theorem _root_.Go.RowKit.Below.setH {w0 w : World} {B b : Nat} {p q r : Int} (h : Below B w0 w) (hb : B ≤ b) : Below B w0 (setH w b p q r) := ((h.setCell (p := ⟨b, 0, none⟩) hb _).setCell (p := ⟨b, 1, none⟩) hb _).setCell (p := ⟨b, 2, none⟩) hb _

set_option maxHeartbeats 1000000 in
theorem dec_no (a : Option Addr) (n c : Nat) (x : List Int) (w : World) (hx : Pin w a n c x) (hn : n ≠ 64) :
    Calls Try.prog 12 #[.slice a n c] w (DecPost w x) := by
  have ho : Hid (decO x = false) := by show _ = _; simp [decO, hx.len, hn]
  have hi : is64 n = false := by simp [is64, hn]
  clear hx hn
  go_enter Try.func12, Try.ntmps12
  go_wp2_with (fail)
  refine (isSector_any a n c _).mono ?_
  rintro e w1 ⟨rfl, rfl⟩
  rw [hi]
  go_wp2_with (fail)
  exact bodyPost_ret (v := .tuple #[hv 0 0 0, .slice none 0 0, .bool false]) (by simp [results, Try.results12, go_sem]) rfl (by
    rw [DecPost, decN, decN, decN, decL, ho.out]
    exact ⟨_, _, _, rfl, Pin.zero _, ((Below.refl _ _).alloc (Nat.le_refl _) _)⟩)

set_option maxHeartbeats 1000000 in
theorem dec_yes (a : Option Addr) (c : Nat) (x : List Int) (w : World) (hx : Pin w a 64 c x) :
    Calls Try.prog 12 #[.slice a 64 c] w (DecPost w x) := by
  have ho : Hid (decO x = true) := by show _ = _; simp [decO, hx.len]
  have hi : is64 64 = true := rfl
  obtain ⟨b, off, rfl, hlt, _⟩ := hx.at (by omega)
  have hcap := hx.cap
  have hmax := hx.max
  have hc8 : ¬ c = 8 := by omega
  go_enter Try.func12, Try.ntmps12
  go_wp2_with (fail)
  refine (isSector_any _ 64 c _).mono ?_
  rintro e w1 ⟨rfl, rfl⟩
  rw [hi]
  clear hi
  have hx1 := hx.alloc (.cells #[.int .i64 0, .int .i64 0, .int .i64 0] 23 (0, 0))
  go_wp2_with (fail)
  refine (number_any _ 64 c 0 4 x _ hx1.bys (by omega) (by omega) (by omega) (by omega)).mono ?_
  rintro e w1 ⟨rfl, rfl⟩
  go_wp2_with (fail)
  refine (number_any _ 64 c 4 2 x _ hx1.bys (by omega) (by omega) (by omega) (by omega)).mono ?_
  rintro e w1 ⟨rfl, rfl⟩
  go_wp2_with (fail)
  refine (number_any _ 64 c 6 2 x _ hx1.bys (by omega) (by omega) (by omega) (by omega)).mono ?_
  rintro e w1 ⟨rfl, rfl⟩
  go_wp2_with (fail)
  obtain ⟨p, hp⟩ : ∃ p, p = getN x 0 4 := ⟨_, rfl⟩
  obtain ⟨q, hq⟩ : ∃ p, p = getN x 4 2 := ⟨_, rfl⟩
  obtain ⟨r, hr⟩ : ∃ p, p = getN x 6 2 := ⟨_, rfl⟩
  rw [← hp, ← hq, ← hr]
  obtain ⟨w2, hw2⟩ : ∃ w2, w2 = (w.alloc (.cells #[.int .i64 0, .int .i64 0, .int .i64 0] 23)).alloc (.cells #[.int .i64 p, .int .i64 q, .int .i64 r] 23) := ⟨_, rfl⟩
  have hd : Hx w2.drew (w.heap.size + 1) p q r := by rw [hw2]; have := Hx.mk' (w.alloc (.cells #[.int .i64 0, .int .i64 0, .int .i64 0] 23)) p q r 23; simpa using this.drew
  have hz : Rc w2.drew w.heap.size := by rw [hw2]; exact ((Rc.mk' w 23).alloc _).drew
  have hx2 : Pin w2.drew (some ⟨b, off, none⟩) 64 c x := by rw [hw2]; exact (hx1.alloc _).drewN 1
  have hB2 : Below w.heap.size w w2.drew := by rw [hw2]; exact below_drewN (((Below.refl _ _).alloc (Nat.le_refl _) _).alloc (by simp) _) 1
  rw [← hw2]
  clear hw2 hx hx1
  have hc0 := hd.c0
  have hc1 := hd.c1
  have hc2 := hd.c2
  have hP := Lib.hid hp
  have hQ := Lib.hid hq
  have hR := Lib.hid hr
  clear hp hq hr
  refine wp_region_held_drew (S := (fun w' => w'.cell? ⟨w.heap.size + 1, 0, none⟩ = some (.int .i64 p) ∧ w'.cell? ⟨w.heap.size + 1, 1, none⟩ = some (.int .i64 q) ∧ w'.cell? ⟨w.heap.size + 1, 2, none⟩ = some (.int .i64 r))) (by kernel_rfl) ?_ (fun hHeld => ?_)
  · exact ⟨hc0, hc1, hc2⟩
  refine wpAnyH_take (i := 0) (v := ?_) rfl (by kernel_rfl) (by kernel_rfl) (by kernel_rfl) (fun _ _ _ h => h) (Or.inl ⟨by rfl, fun w hSw => ?_⟩) (by assumption) ?_
  rotate_left
  · (try dsimp only at hSw); go_simp; try with_reducible rfl
  simp only [Act.put, List.setIfInBounds_toArray, List.set_cons_zero, List.set_cons_succ, List.getElem_toArray, List.getElem_cons_zero]
  refine wpAnyH_take (i := 1) (v := ?_) rfl (by kernel_rfl) (by kernel_rfl) (by kernel_rfl) (fun _ _ _ h => h) (Or.inl ⟨by rfl, fun w hSw => ?_⟩) (by assumption) ?_
  rotate_left
  · (try dsimp only at hSw); go_simp; try with_reducible rfl
  simp only [Act.put, List.setIfInBounds_toArray, List.set_cons_zero, List.set_cons_succ, List.getElem_toArray, List.getElem_cons_succ, List.getElem_cons_zero]
  refine wpAnyH_take (i := 2) (v := ?_) rfl (by kernel_rfl) (by kernel_rfl) (by kernel_rfl) (fun _ _ _ h => h) (Or.inl ⟨by rfl, fun w hSw => ?_⟩) (by assumption) ?_
  rotate_left
  · (try dsimp only at hSw); go_simp; try with_reducible rfl
  simp only [Act.put, List.setIfInBounds_toArray, List.set_cons_zero, List.set_cons_succ, List.getElem_toArray, List.getElem_cons_succ, List.getElem_cons_zero]
  refine wpAnyH_ready (rs := [3]) (by kernel_rfl) (by simp) ?_
  refine AllReadyH.cons rfl (fun K hK => ?_) AllReadyH.nil
  simp only [List.getElem_toArray, List.getElem_cons_succ, List.getElem_cons_zero]
  go_simp
  refine (clone_any _ 56 (c - 8) (x.drop 8) _ (hx2.rest 8) (by omega)).mono ?_
  rintro e w3 ⟨v3, rfl, ho3, hb3⟩
  have hd3 := hd.next hb3
  have hz3 := hz.next hb3
  have hB3 := hB2.trans (hb3.mono hB2.size)
  have hz2lt := hz.lt
  clear hd hz hB2 hb3 hx2
  obtain ⟨v0, z0⟩ := hz3.c0
  obtain ⟨v1, z1⟩ := hz3.c1
  obtain ⟨v2, z2⟩ := hz3.c2
  have f0 := hz3.f0
  have f1 := hz3.f1
  have f2 := hz3.f2
  go_wp2_with (fail)
  refine hK.out _ _ ⟨hd3.c0, hd3.c1, hd3.c2⟩ (fun hHeld => ?_)
  clear hK K
  refine wpAnyH_ready (rs := [4]) (by kernel_rfl) (by simp) ?_
  refine AllReadyH.cons rfl (fun K hK => ?_) AllReadyH.nil
  simp only [List.getElem_toArray, List.getElem_cons_succ, List.getElem_cons_zero]
  go_simp
  have hd4 : Hx (setH w3 w.heap.size p q r) (w.heap.size + 1) p q r := hd3.setOther (by omega)
  have hr4 : Hx (setH w3 w.heap.size p q r) w.heap.size p q r := hz3.set p q r
  have ho4 : Own (setH w3 w.heap.size p q r) w2.drew.heap.size v3 (x.drop 8).length (x.drop 8) := ho3.setH hz2lt
  have hB4 : Below w.heap.size w (setH w3 w.heap.size p q r) := hB3.setH (Nat.le_refl _)
  refine hK.out _ (setH w3 w.heap.size p q r) ⟨hd4.c0, hd4.c1, hd4.c2⟩ (fun hHeld => ?_)
  clear hK K
  obtain ⟨w4, hw4⟩ : ∃ w4, w4 = setH w3 w.heap.size p q r := ⟨_, rfl⟩
  rw [← hw4] at hd4 hr4 ho4 hB4 hHeld ⊢
  clear hw4
  obtain ⟨a4, c4, rfl, hp4, _⟩ := ho4.pin
  refine wpAnyH_take (i := 5) (v := ?_) rfl (by kernel_rfl) (by kernel_rfl) (by kernel_rfl) (fun _ _ _ h => h) (Or.inl ⟨by rfl, fun w hSw => ?_⟩) (by assumption) ?_
  rotate_left
  · (try dsimp only at hSw); go_simp; try with_reducible rfl
  simp only [Act.put, List.setIfInBounds_toArray, List.set_cons_zero, List.set_cons_succ, List.getElem_toArray, List.getElem_cons_succ, List.getElem_cons_zero]
  refine wpAnyH_take (i := 6) (v := ?_) rfl (by kernel_rfl) (by kernel_rfl) (by kernel_rfl) (fun _ _ _ h => h) (Or.inl ⟨by rfl, fun w hSw => ?_⟩) (by assumption) ?_
  rotate_left
  · (try dsimp only at hSw); go_simp; try with_reducible rfl
  simp only [Act.put, List.setIfInBounds_toArray, List.set_cons_zero, List.set_cons_succ, List.getElem_toArray, List.getElem_cons_succ, List.getElem_cons_zero]
  refine wpAnyH_done (by kernel_rfl) ?_ _
  go_wp2_with (fail)
  have g0 := hr4.c0
  have g1 := hr4.c1
  have g2 := hr4.c2
  exact bodyPost_ret (v := .tuple #[hv p q r, .slice a4 (x.drop 8).length c4, .bool true]) (by simp [results, Try.results12, go_sem, g0, g1, g2]) rfl (by
    rw [DecPost, decN, decN, decN, decL, ho.out, ← hP.out, ← hQ.out, ← hR.out]
    exact ⟨_, _, _, rfl, hp4, hB4⟩)

end Go.Proofs.Ytegllnjncpaipaa
