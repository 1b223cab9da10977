/-
  The program's Puts, by contract.
-/
import Derived.Test.YtgdkcdgomopnfaaRec
import Derived.Test.YtgdkcdgomopnfaaRefG
namespace Go.Proofs.Ytgdkcdgomopnfaa
open Go.RowKit

abbrev mv (s : Int) : Value := .agg #[.int .i64 s]
abbrev bv (e s t : Int) : Value := .agg #[.int .i64 e, .int .i64 s, .int .i64 t]
/-- Three numbers lie in block b. -/
structure Bx (w : World) (b : Nat) (d r s : Int) : Prop where
  lt : b < w.heap.size
  c0 : w.cell? ⟨b, 0, none⟩ = some (.int .i64 d)
  c1 : w.cell? ⟨b, 1, none⟩ = some (.int .i64 r)
  c2 : w.cell? ⟨b, 2, none⟩ = some (.int .i64 s)
theorem Bx.below {w w' : World} {b B : Nat} {d r s : Int} (h : Bx w b d r s) (hb : Below B w w') (hB : w.heap.size ≤ B) : Bx w' b d r s := by
  have hl := Nat.lt_of_lt_of_le h.lt hB
  exact ⟨Nat.lt_of_lt_of_le h.lt hb.size, (hb.cell (p := ⟨b, 0, none⟩) hl).trans h.c0, (hb.cell (p := ⟨b, 1, none⟩) hl).trans h.c1, (hb.cell (p := ⟨b, 2, none⟩) hl).trans h.c2⟩
theorem Bx.next {w w' : World} {b : Nat} {d r s : Int} (h : Bx w b d r s) (hb : Below w.heap.size w w') : Bx w' b d r s := h.below hb (Nat.le_refl _)
theorem Bx.mk' (w : World) (d r s : Int) (t : TypeId) : Bx (w.alloc (.cells #[.int .i64 d, .int .i64 r, .int .i64 s] t (0, 0))) w.heap.size d r s :=
  ⟨by simp, by go_simp, by go_simp, by go_simp⟩
theorem Bx.alloc {w : World} {b : Nat} {d r s : Int} (h : Bx w b d r s) (o : Obj) : Bx (w.alloc o) b d r s := h.below (((Below.refl _ _).alloc (Nat.le_refl _) o)) (Nat.le_refl _)
theorem Bx.drew {w : World} {b : Nat} {d r s : Int} (h : Bx w b d r s) : Bx w.drew b d r s := ⟨h.lt, h.c0, h.c1, h.c2⟩
theorem bel_alloc {w0 w : World} {B : Nat} (h : Below B w0 w) (hB : B ≤ w.heap.size) (o : Obj) : Below B w0 (w.alloc o) := h.alloc hB o
theorem bel_a1 (w : World) (o : Obj) : Below w.heap.size w (w.alloc o) := (Below.refl _ _).alloc (Nat.le_refl _) o
theorem bel_a2 (w : World) (o o2 : Obj) : Below w.heap.size w ((w.alloc o).alloc o2) := (bel_a1 w o).alloc (by simp) o2
theorem PutPost.up {w w1 w' : World} {ok : Bool} {zs : List Int} {e : Ending} (h : PutPost w1 ok zs e w') (hb : Below w.heap.size w w1) : PutPost w ok zs e w' := by
  refine ⟨?_, hb.trans (h.2.mono hb.size)⟩
  rcases h.1 with ⟨h1, g, h2, h3, h4⟩ | h1
  · exact .inl ⟨h1, g, h2, Nat.le_trans hb.size h3, h4⟩
  · exact .inr h1
/-- What a Put answers: the value. -/
theorem PutPost.val {w w' : World} {ok : Bool} {zs : List Int} {e : Ending} (h : PutPost w ok zs e w') : ∃ a n, e = .returned (.tuple #[.slice a n n, .bool ok]) ∧ PutPost w ok zs (.returned (.tuple #[.slice a n n, .bool ok])) w' := by
  rcases h.1 with ⟨h1, g, h2, h3⟩ | ⟨h1, h2, h3⟩
  · refine ⟨some ⟨g, 0, none⟩, 64, by rw [h1]; exact h2, ?_⟩
    rw [h1] at h ⊢; rw [← h2]; exact h
  · refine ⟨none, 0, by rw [h1]; exact h3, ?_⟩
    rw [h1] at h ⊢; rw [← h3]; exact h

theorem wl1 : 3 = (wids 1).length := by decide
theorem wl2 : 1 = (wids 2).length := by decide
theorem wl3 : 3 = (wids 3).length := by decide
def markO (s : Int) : Bool := recO 2 [s]
def markL (s : Int) : List Int := recL 2 [s]
set_option maxHeartbeats 1000000 in
theorem putMark_any (s : Int) (w : World) : Calls Try.prog 12 #[mv s] w (PutPost w (markO s) (markL s)) := by
  obtain ⟨O, hO⟩ : ∃ O, O = markO s := ⟨_, rfl⟩
  obtain ⟨L, hL⟩ : ∃ L, L = markL s := ⟨_, rfl⟩
  rw [← hO, ← hL]
  have HO := Lib.hid hO
  have HL := Lib.hid hL
  clear hO hL
  go_enter Try.func12, Try.ntmps12
  go_wp2_with (fail)
  refine (record_any 2 _ 1 1 [s] _ (.inr (.inl rfl)) (ins_one' s (by simp)) wl2 (Nat.le_refl _) (by omega)).mono ?_
  intro e w1 h1
  change PutPost _ (markO s) (markL s) e w1 at h1
  rw [← HO.out, ← HL.out] at h1
  obtain ⟨a, n, rfl, h2⟩ := h1.val
  have h3 := h2.up (bel_a2 w _ _)
  clear h1 h2
  go_wp2_with (fail)
  go_ret2
  exact h3

/-- Are Slot and State a member's, as far as the program asks ahead? -/
def memB (s t : Int) : Bool := decide (s < 16 ∧ t ≤ 2 ∧ (t ≠ 0 ∨ s = 0))
theorem isMember_any (e s t : Int) (w : World) : Calls Try.prog 35 #[bv e s t] w fun e w' => e = .returned (.bool (memB s t)) ∧ Below w.heap.size w w' := by
  obtain ⟨m, hm⟩ : ∃ m, m = memB s t := ⟨_, rfl⟩
  rw [← hm]
  have hM : Hid (m = decide (s < 16 ∧ t ≤ 2 ∧ (t ≠ 0 ∨ s = 0))) := hm
  clear hm
  go_enter Try.func35, Try.ntmps35
  go_wp2_with (fail)
  all_goals go_ret
  all_goals (refine ⟨ret_bool ?_, bel_a1 w _⟩; rw [hM.out])
  all_goals first | (simp; omega) | (simp_all; rfl) | (simp_all; omega) | simp_all

def rtB (d r s : Int) : Bool := decide ((3 ≤ d ∧ d ≤ 16) ∧ (1 ≤ r ∧ r ≤ 4) ∧ (12 ≤ s ∧ s ≤ 64) ∧ 8 ≤ QC s * PL d r)
theorem rtB_yes {d r s : Int} (h : Rt d r s) : rtB d r s = true := decide_eq_true ⟨⟨h.d1, h.d2⟩, ⟨h.r1, h.r2⟩, ⟨h.s1, h.s2⟩, h.q⟩
theorem rtB_rt {d r s : Int} (h : rtB d r s = true) : Rt d r s := by
  have := of_decide_eq_true h
  exact ⟨⟨this.1.1, this.1.2, this.2.1.1, this.2.1.2, this.2.2.1.1, this.2.2.1.2⟩, this.2.2.2⟩
theorem right_any (d r s : Int) (w : World) : Calls Try.prog 31 #[gv d r s] w fun e w' => e = .returned (.bool (rtB d r s)) ∧ Below w.heap.size w w' := by
  by_cases h : Rt d r s
  · rw [rtB_yes h]; exact right_yes d r s w h
  · rw [show rtB d r s = false by cases hb : rtB d r s; rfl; exact absurd (rtB_rt hb) h]; exact right_no d r s w h
theorem rright_any (d r s : Int) (w : World) : Calls Try.prog 33 #[gv d r s] w fun e w' => e = .returned (.bool (rtB d r s)) ∧ Below w.heap.size w w' := by
  by_cases h : Rt d r s
  · rw [rtB_yes h]; exact rright_yes d r s w h
  · rw [show rtB d r s = false by cases hb : rtB d r s; rfl; exact absurd (rtB_rt hb) h]; exact rright_no d r s w h
theorem hasW_yes {n : Int} {k : Nat} (h0 : 0 ≤ n) (h1 : n < 2 ^ (8 * k)) : hasW n k = true := by
  unfold hasW
  rw [decide_eq_true_eq]
  refine ⟨h0, ?_⟩
  rwa [show (8 * (k : Int)).toNat = 8 * k by omega]
theorem recO_super {d r s : Int} (h : rtB d r s = true) : recO 1 [d, r, s] = true := by
  have h := rtB_rt h
  show (((true && hasW d 1) && hasW r 1) && hasW s 1) = true
  have hd := h.d1; have hd2 := h.d2; have hr := h.r1; have hr2 := h.r2; have hs := h.s1; have hs2 := h.s2
  rw [show hasW d 1 = true from hasW_yes (k := 1) (by omega) (by omega), show hasW r 1 = true from hasW_yes (k := 1) (by omega) (by omega), show hasW s 1 = true from hasW_yes (k := 1) (by omega) (by omega)]
  rfl
def superL (d r s : Int) : List Int := if rtB d r s then recL 1 [d, r, s] else []
abbrev sv (d r s : Int) : Value := .agg #[.int .i64 d, .int .i64 r, .int .i64 s]
set_option maxHeartbeats 1000000 in
theorem putSuper_any (d r s : Int) (w : World) : Calls Try.prog 10 #[sv d r s] w (PutPost w (rtB d r s) (superL d r s)) := by
  have x1 := Bx.mk' w d r s 25
  have hB1 := bel_a1 w (.cells #[.int .i64 d, .int .i64 r, .int .i64 s] 25 (0, 0))
  go_enter Try.func10, Try.ntmps10
  go_wp2_with (fail)
  refine (right_any d r s _).mono ?_
  rintro e w2 ⟨rfl, hb2⟩
  have x2 := x1.next hb2
  have hB2 := hB1.trans (hb2.mono (Nat.le_of_lt x1.lt))
  clear x1 hB1 hb2
  have y1 := x2.c0
  have y2 := x2.c1
  have y3 := x2.c2
  cases hr : rtB d r s
  · have hL : Hid (superL d r s = []) := by show _ = _; rw [superL, hr]; rfl
    have HR := Lib.hid hr
    clear hr
    go_wp2_with (fail)
    go_ret2
    exact ⟨.inr ⟨HR.out, hL.out, rfl⟩, hB2⟩
  · have hL : Hid (superL d r s = recL 1 [d, r, s]) := by show _ = _; rw [superL, hr]; rfl
    have hO := Lib.hid ((recO_super hr).trans hr.symm)
    clear hr
    go_wp2_with (fail)
    refine (record_any 1 _ 3 3 [d, r, s] _ (.inl rfl) (ins_three _ d r s) wl1 (Nat.le_refl _) (by omega)).mono ?_
    intro e w3 h1
    rw [hO.out, ← hL.out] at h1
    obtain ⟨a, n, rfl, h2⟩ := h1.val
    have h3 := h2.up (hB2.alloc (Nat.le_of_lt x2.lt) _)
    clear h1 h2
    go_wp2_with (fail)
    go_ret2
    exact h3
def memO (e s t : Int) : Bool := memB s t && recO 3 [e, s, t]
def memL (e s t : Int) : List Int := if memO e s t then recL 3 [e, s, t] else []
set_option maxHeartbeats 1000000 in
theorem putMember_any (m s t : Int) (w : World) : Calls Try.prog 14 #[bv m s t] w (PutPost w (memO m s t) (memL m s t)) := by
  have x1 := Bx.mk' w m s t 29
  have hB1 := bel_a1 w (.cells #[.int .i64 m, .int .i64 s, .int .i64 t] 29 (0, 0))
  go_enter Try.func14, Try.ntmps14
  go_wp2_with (fail)
  refine (isMember_any m s t _).mono ?_
  rintro e w2 ⟨rfl, hb2⟩
  have x2 := x1.next hb2
  have hB2 := hB1.trans (hb2.mono (Nat.le_of_lt x1.lt))
  clear x1 hB1 hb2
  have y1 := x2.c0
  have y2 := x2.c1
  have y3 := x2.c2
  cases hr : memB s t
  · have hO : Hid (memO m s t = false) := by show _ = _; rw [memO, hr]; rfl
    have hL : Hid (memL m s t = []) := by show _ = _; rw [memL, hO.out]; rfl
    clear hr
    go_wp2_with (fail)
    go_ret2
    exact ⟨.inr ⟨hO.out, hL.out, rfl⟩, hB2⟩
  · have hO : Hid (recO 3 [m, s, t] = memO m s t) := by show _ = _; rw [memO, hr]; rfl
    have hL : Hid (recL 3 [m, s, t] = memL m s t) := by
      show _ = _
      rw [memL, ← hO.out]
      cases hh : recO 3 [m, s, t]
      · rw [recL, hh]; rfl
      · rfl
    clear hr
    go_wp2_with (fail)
    refine (record_any 3 _ 3 3 [m, s, t] _ (.inr (.inr rfl)) (ins_three _ m s t) wl3 (Nat.le_refl _) (by omega)).mono ?_
    intro e w3 h1
    rw [hO.out, hL.out] at h1
    obtain ⟨a, n, rfl, h2⟩ := h1.val
    have h3 := h2.up (hB2.alloc (Nat.le_of_lt x2.lt) _)
    clear h1 h2
    go_wp2_with (fail)
    go_ret2
    exact h3

end Go.Proofs.Ytgdkcdgomopnfaa
