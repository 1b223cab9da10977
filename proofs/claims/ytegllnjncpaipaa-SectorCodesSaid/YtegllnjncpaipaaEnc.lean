/-
  The program's Encode, by contract.
-/
import Derived.Test.YtegllnjncpaipaaHead
import Derived.Deep.RegionHeld3
namespace Go.Proofs.Ytegllnjncpaipaa
open Go.RowKit

/-- A head, as a value. -/
abbrev hv (s o i : Int) : Value := .agg #[.int .i64 s, .int .i64 o, .int .i64 i]
/-- A head stands in block b. -/
structure Hx (w : World) (b : Nat) (s o i : Int) : Prop where
  lt : b < w.heap.size
  c0 : w.cell? ⟨b, 0, none⟩ = some (.int .i64 s)
  c1 : w.cell? ⟨b, 1, none⟩ = some (.int .i64 o)
  c2 : w.cell? ⟨b, 2, none⟩ = some (.int .i64 i)
theorem Hx.below {w w' : World} {b B : Nat} {s o i : Int} (h : Hx w b s o i) (hb : Below B w w') (hB : w.heap.size ≤ B) : Hx w' b s o i := by
  have hl := h.lt
  exact ⟨Nat.lt_of_lt_of_le hl hb.size, (hb.cell (p := ⟨b, 0, none⟩) (by show b < B; omega)).trans h.c0, (hb.cell (p := ⟨b, 1, none⟩) (by show b < B; omega)).trans h.c1, (hb.cell (p := ⟨b, 2, none⟩) (by show b < B; omega)).trans h.c2⟩
theorem Hx.next {w w' : World} {b : Nat} {s o i : Int} (h : Hx w b s o i) (hb : Below w.heap.size w w') : Hx w' b s o i := h.below hb (Nat.le_refl _)
theorem Hx.mk' (w : World) (s o i : Int) (t : TypeId) : Hx (w.alloc (.cells #[.int .i64 s, .int .i64 o, .int .i64 i] t (0, 0))) w.heap.size s o i :=
  ⟨by simp, by simp, by simp, by simp⟩
theorem Hx.alloc {w : World} {b : Nat} {s o i : Int} (h : Hx w b s o i) (x : Obj) : Hx (w.alloc x) b s o i := h.below (((Below.refl _ _).alloc (Nat.le_refl _) x)) (Nat.le_refl _)
theorem Hx.drew {w : World} {b : Nat} {s o i : Int} (h : Hx w b s o i) : Hx w.drew b s o i := ⟨h.lt, h.c0, h.c1, h.c2⟩

/-- All numbers of a head have their widths. -/
def okH (s o i : Int) : Bool := hasW s 4 && hasW o 2 && hasW i 2
def headL (s o i : Int) : List Int := putL 4 s ++ putL 2 o ++ putL 2 i
def encO (s o i : Int) (x : List Int) : Bool := decide (x.length ≤ 56) && okH s o i
def encL (s o i : Int) (x : List Int) : List Int := if encO s o i x then headL s o i ++ padL x 56 else []
theorem putL_len (k : Nat) (n : Int) (h1 : 1 ≤ k) (h4 : k ≤ 4) : (putL k n).length = if hasW n k then k else 0 := by
  cases h : hasW n k
  · rw [putL_no (.inr h)]; rfl
  · rw [putL_yes h1 h4 h, digs_len]; rfl
theorem headL_len (s o i : Int) : (headL s o i).length ≤ 8 ∧ ((headL s o i).length = 8 ↔ okH s o i = true) := by
  have h1 : (putL 4 s).length = if hasW s 4 then 4 else 0 := putL_len 4 s (by omega) (by omega)
  have h2 : (putL 2 o).length = if hasW o 2 then 2 else 0 := putL_len 2 o (by omega) (by omega)
  have h3 : (putL 2 i).length = if hasW i 2 then 2 else 0 := putL_len 2 i (by omega) (by omega)
  unfold headL okH
  rw [List.length_append, List.length_append, h1, h2, h3]
  cases hasW s 4 <;> cases hasW o 2 <;> cases hasW i 2 <;> simp
theorem headL_small (s o i : Int) : AllB (headL s o i) := ((putL_small 4 s).app (putL_small 2 o)).app (putL_small 2 i)

/-- Two and three pieces, as a row. -/
def row2 (p q : Pc) : Nat → Pc := fun i => if i = 0 then p else q
def row3 (p q r : Pc) : Nat → Pc := fun i => if i = 0 then p else if i = 1 then q else r
theorem catL_two (p q : Pc) : catL (row2 p q) 2 = p.zs ++ q.zs := by simp [catL, row2]
theorem catL_three (p q r : Pc) : catL (row3 p q r) 3 = p.zs ++ q.zs ++ r.zs := by simp [catL, row3]
theorem rws_two {w : World} {t : TypeId} {a0 a1 : Option Addr} {n0 c0 n1 c1 : Nat} {x0 x1 : List Int} (h0 : Pin w a0 n0 c0 x0) (h1 : Pin w a1 n1 c1 x1) :
    Rws (w.alloc (.cells #[.slice a0 n0 c0, .slice a1 n1 c1] t (0, 0))) (some ⟨w.heap.size, 0, none⟩) 2 (row2 ⟨a0, n0, c0, x0⟩ ⟨a1, n1, c1, x1⟩) := by
  refine ⟨.inr ⟨w.heap.size, 0, rfl, by simp, fun i hi => ?_⟩, fun i hi => ?_⟩
  · rcases (by omega : i = 0 ∨ i = 1) with rfl | rfl <;> simp [row2]
  · rcases (by omega : i = 0 ∨ i = 1) with rfl | rfl
    · exact h0.alloc _
    · exact h1.alloc _
theorem rws_three {w : World} {t : TypeId} {a0 a1 a2 : Option Addr} {n0 c0 n1 c1 n2 c2 : Nat} {x0 x1 x2 : List Int} (h0 : Pin w a0 n0 c0 x0) (h1 : Pin w a1 n1 c1 x1) (h2 : Pin w a2 n2 c2 x2) :
    Rws (w.alloc (.cells #[.slice a0 n0 c0, .slice a1 n1 c1, .slice a2 n2 c2] t (0, 0))) (some ⟨w.heap.size, 0, none⟩) 3 (row3 ⟨a0, n0, c0, x0⟩ ⟨a1, n1, c1, x1⟩ ⟨a2, n2, c2, x2⟩) := by
  refine ⟨.inr ⟨w.heap.size, 0, rfl, by simp, fun i hi => ?_⟩, fun i hi => ?_⟩
  · rcases (by omega : i = 0 ∨ i = 1 ∨ i = 2) with rfl | rfl | rfl <;> simp [row3]
  · rcases (by omega : i = 0 ∨ i = 1 ∨ i = 2) with rfl | rfl | rfl
    · exact h0.alloc _
    · exact h1.alloc _
    · exact h2.alloc _

set_option maxHeartbeats 2000000 in
theorem enc_n (s o i : Int) (a : Option Addr) (n c : Nat) (x : List Int) (w : World) (hx : Bys w a n x) :
    Calls Try.prog 10 #[hv s o i, .slice a n c] w (RetN w (encL s o i x) (encO s o i x)) := by
  obtain ⟨wb, hwb⟩ : ∃ wb, wb = w.alloc (.cells #[.int .i64 s, .int .i64 o, .int .i64 i] 23 (0, 0)) := ⟨_, rfl⟩
  have h0 : Hx wb w.heap.size s o i := by rw [hwb]; exact Hx.mk' w s o i _
  have hB : Below w.heap.size w wb := by rw [hwb]; exact (Below.refl _ _).alloc (Nat.le_refl _) _
  have hxb : Bys wb a n x := hx.next hB
  have hxl := hx.len
  have HXL := Lib.hid hxl
  clear hx hxl
  go_enter Try.func10, Try.ntmps10
  go_wp2_with (fail)
  rw [← hwb]
  clear hwb
  with_reducible refine (pad_s a n c 56 x wb hxb).mono ?_
  rintro e w1 ⟨ap, np, cp, rfl, hp1, hb1⟩
  have h1 := h0.next hb1
  have hB1 := hB.trans (hb1.mono (Nat.le_of_lt h0.lt))
  clear h0 hxb hb1 hB
  by_cases hn : n ≤ 56
  · have ho : padO n 56 = true := by simp only [padO, decide_eq_true_eq]; omega
    rw [ho]
    have hd := h1.drew
    have hc0 := hd.c0
    have hc1 := hd.c1
    have hc2 := hd.c2
    go_wp2_with (fail)
    refine wp_region_held_drew (S := (fun w' => w'.cell? ⟨w.heap.size, 0, none⟩ = some (.int .i64 s) ∧ w'.cell? ⟨w.heap.size, 1, none⟩ = some (.int .i64 o) ∧ w'.cell? ⟨w.heap.size, 2, none⟩ = some (.int .i64 i))) (by kernel_rfl) ?_ (fun hHeld => ?_)
    · exact ⟨hc0, hc1, hc2⟩
    refine wpAnyH_take (i := 0) (v := ?_) rfl (by kernel_rfl) (by kernel_rfl) (by kernel_rfl) (fun _ _ _ h => h) (Or.inl ⟨by rfl, fun w hSw => ?_⟩) (by assumption) ?_
    rotate_left
    · (try dsimp only at hSw); go_simp; try with_reducible rfl
    simp only [Act.put, List.setIfInBounds_toArray, List.set_cons_zero, List.set_cons_succ, List.getElem_toArray, List.getElem_cons_zero]
    refine wpAnyH_take (i := 1) (v := ?_) rfl (by kernel_rfl) (by kernel_rfl) (by kernel_rfl) (fun _ _ _ h => h) (Or.inl ⟨by rfl, fun w hSw => ?_⟩) (by assumption) ?_
    rotate_left
    · (try dsimp only at hSw); go_simp; try with_reducible rfl
    simp only [Act.put, List.setIfInBounds_toArray, List.set_cons_zero, List.set_cons_succ, List.getElem_toArray, List.getElem_cons_succ, List.getElem_cons_zero]
    refine wpAnyH_take (i := 3) (v := ?_) rfl (by kernel_rfl) (by kernel_rfl) (by kernel_rfl) (fun _ _ _ h => h) (Or.inl ⟨by rfl, fun w hSw => ?_⟩) (by assumption) ?_
    rotate_left
    · (try dsimp only at hSw); go_simp; try with_reducible rfl
    simp only [Act.put, List.setIfInBounds_toArray, List.set_cons_zero, List.set_cons_succ, List.getElem_toArray, List.getElem_cons_succ, List.getElem_cons_zero]
    refine wpAnyH_take (i := 4) (v := ?_) rfl (by kernel_rfl) (by kernel_rfl) (by kernel_rfl) (fun _ _ _ h => h) (Or.inl ⟨by rfl, fun w hSw => ?_⟩) (by assumption) ?_
    rotate_left
    · (try dsimp only at hSw); go_simp; try with_reducible rfl
    simp only [Act.put, List.setIfInBounds_toArray, List.set_cons_zero, List.set_cons_succ, List.getElem_toArray, List.getElem_cons_succ, List.getElem_cons_zero]
    refine wpAnyH_take (i := 6) (v := ?_) rfl (by kernel_rfl) (by kernel_rfl) (by kernel_rfl) (fun _ _ _ h => h) (Or.inl ⟨by rfl, fun w hSw => ?_⟩) (by assumption) ?_
    rotate_left
    · (try dsimp only at hSw); go_simp; try with_reducible rfl
    simp only [Act.put, List.setIfInBounds_toArray, List.set_cons_zero, List.set_cons_succ, List.getElem_toArray, List.getElem_cons_succ, List.getElem_cons_zero]
    refine wpAnyH_take (i := 7) (v := ?_) rfl (by kernel_rfl) (by kernel_rfl) (by kernel_rfl) (fun _ _ _ h => h) (Or.inl ⟨by rfl, fun w hSw => ?_⟩) (by assumption) ?_
    rotate_left
    · (try dsimp only at hSw); go_simp; try with_reducible rfl
    simp only [Act.put, List.setIfInBounds_toArray, List.set_cons_zero, List.set_cons_succ, List.getElem_toArray, List.getElem_cons_succ, List.getElem_cons_zero]
    refine wpAnyH_ready (rs := [2]) (by kernel_rfl) (by simp) ?_
    refine AllReadyH.cons rfl (fun K hK => ?_) AllReadyH.nil
    simp only [List.getElem_toArray, List.getElem_cons_succ, List.getElem_cons_zero]
    go_simp
    refine (put_s 4 s _).mono ?_
    rintro e w2 ⟨a2, n2, d2, rfl, hp2, hb2⟩
    have hd2 := hd.next hb2
    have hB2 : Below w.heap.size w w2 := (below_drewN hB1 1).trans (hb2.mono (Nat.le_of_lt hd.lt))
    have hq2 : Pin w2 ap np cp (padF x 56) := (hp1.drewN 1).next hb2
    clear hd hB1 hp1 hb2 h1
    go_wp2_with (fail)
    refine hK.out _ _ ⟨hd2.c0, hd2.c1, hd2.c2⟩ (fun hHeld => ?_)
    clear hK K
    refine wpAnyH_ready (rs := [5]) (by kernel_rfl) (by simp) ?_
    refine AllReadyH.cons rfl (fun K hK => ?_) AllReadyH.nil
    simp only [List.getElem_toArray, List.getElem_cons_succ, List.getElem_cons_zero]
    go_simp
    refine (put_s 2 o _).mono ?_
    rintro e w3 ⟨a3, n3, d3, rfl, hp3, hb3⟩
    have hd3 := hd2.next hb3
    have hB3 := hB2.trans (hb3.mono (Nat.le_of_lt hd2.lt))
    have hq3 := hq2.next hb3
    have hp2 := hp2.next hb3
    clear hd2 hB2 hq2 hb3
    go_wp2_with (fail)
    refine hK.out _ _ ⟨hd3.c0, hd3.c1, hd3.c2⟩ (fun hHeld => ?_)
    clear hK K
    refine wpAnyH_ready (rs := [8]) (by kernel_rfl) (by simp) ?_
    refine AllReadyH.cons rfl (fun K hK => ?_) AllReadyH.nil
    simp only [List.getElem_toArray, List.getElem_cons_succ, List.getElem_cons_zero]
    go_simp
    refine (put_s 2 i _).mono ?_
    rintro e w4 ⟨a4, n4, d4, rfl, hp4, hb4⟩
    have hd4 := hd3.next hb4
    have hB4 := hB3.trans (hb4.mono (Nat.le_of_lt hd3.lt))
    have hq4 := hq3.next hb4
    have hp2 := hp2.next hb4
    have hp3 := hp3.next hb4
    clear hd3 hB3 hq3 hb4
    go_wp2_with (fail)
    refine hK.out _ _ ⟨hd4.c0, hd4.c1, hd4.c2⟩ (fun hHeld => ?_)
    clear hK K
    refine wpAnyH_ready (rs := [9]) (by kernel_rfl) (by simp) ?_
    refine AllReadyH.cons rfl (fun K hK => ?_) AllReadyH.nil
    simp only [List.getElem_toArray, List.getElem_cons_succ, List.getElem_cons_zero]
    go_simp
    have hd5 := hd4.alloc (.cells #[.slice a2 n2 d2, .slice a3 n3 d3, .slice a4 n4 d4] 24 (0, 0))
    refine hK.out _ _ ⟨hd5.c0, hd5.c1, hd5.c2⟩ (fun hHeld => ?_)
    clear hK K
    refine wpAnyH_ready (rs := [10]) (by kernel_rfl) (by simp) ?_
    refine AllReadyH.cons rfl (fun K hK => ?_) AllReadyH.nil
    simp only [List.getElem_toArray, List.getElem_cons_succ, List.getElem_cons_zero]
    go_simp
    have hcl : (catL (row3 ⟨a2, n2, d2, putL 4 s⟩ ⟨a3, n3, d3, putL 2 o⟩ ⟨a4, n4, d4, putL 2 i⟩) 3).length ≤ 1000000000000 := by
      rw [catL_three]; have := (headL_len s o i).1; unfold headL at this; simp only [] at *; omega
    refine (concat_any _ 3 3 _ _ (rws_three hp2 hp3 hp4) (by omega) hcl).mono ?_
    rintro e w6 ⟨v6, rfl, ho6, hb6⟩
    rw [catL_three] at ho6
    have hh6 : (headL s o i).length ≤ 8 ∧ ((headL s o i).length = 8 ↔ okH s o i = true) := headL_len s o i
    have ho6' : Own w6 (w4.alloc (.cells #[.slice a2 n2 d2, .slice a3 n3 d3, .slice a4 n4 d4] 24 (0, 0))).heap.size v6 (headL s o i).length (headL s o i) := ho6
    clear ho6
    obtain ⟨n6, hn6⟩ : ∃ m, m = (headL s o i).length := ⟨_, rfl⟩
    rw [← hn6] at ho6' hh6
    obtain ⟨a6, d6, rfl, hp6, _⟩ := ho6'.pin
    have hd6 := hd5.next hb6
    have hB6 : Below w.heap.size w w6 := (hB4.alloc (Nat.le_of_lt hd4.lt) _).trans (hb6.mono (by have := hd4.lt; simp; omega))
    have hq6 := (hq4.alloc (.cells #[.slice a2 n2 d2, .slice a3 n3 d3, .slice a4 n4 d4] 24 (0, 0))).next hb6
    clear hd5 hd4 hB4 hq4 hb6 hp2 hp3 hp4 hn6 ho6' hcl
    go_wp2_with (fail)
    refine hK.out _ _ ⟨hd6.c0, hd6.c1, hd6.c2⟩ (fun hHeld => ?_)
    clear hK K
    refine wpAnyH_take (i := 11) (v := ?_) rfl (by kernel_rfl) (by kernel_rfl) (by kernel_rfl) (fun _ _ _ h => h) (Or.inl ⟨by rfl, fun w hSw => ?_⟩) (by assumption) ?_
    rotate_left
    · (try dsimp only at hSw); go_simp; try with_reducible rfl
    simp only [Act.put, List.setIfInBounds_toArray, List.set_cons_zero, List.set_cons_succ, List.getElem_toArray, List.getElem_cons_succ, List.getElem_cons_zero]
    refine wpAnyH_done (by kernel_rfl) ?_ _
    by_cases h8 : n6 = 8
    · subst h8
      have hL : Hid (encO s o i x = true) := by show _ = _; simp [encO, HXL.out, hn, hh6.2.1 rfl]
      have hF : Hid (padF x 56 = padL x 56) := by show _ = _; unfold padF; rw [HXL.out, ho]; rfl
      have hlow := hd6.lt
      clear hh6 hd6 ho
      go_wp2_with (fail)
      have hcl : (catL (row2 ⟨a6, 8, d6, headL s o i⟩ ⟨ap, np, cp, padF x 56⟩) 2).length ≤ 1000000000000 := by
        rw [catL_two, List.length_append]; simp only []; rw [hp6.len, hF.out, padL_len (by rw [HXL.out]; omega)]; omega
      refine (concat_any _ 2 2 _ _ (rws_two hp6 hq6) (by omega) hcl).mono ?_
      rintro e w8 ⟨v8, rfl, ho8, hb8⟩
      rw [catL_two] at ho8
      have hB8 : Below w.heap.size w w8 := (hB6.alloc (Nat.le_of_lt hlow) _).trans (hb8.mono (by simp; omega))
      obtain ⟨a8, d8, rfl, hp8, hnew⟩ := ho8.pin
      have hs6 := hB6.size
      clear hcl hp6 hq6 hB6 hb8 ho8
      go_wp2_with (fail)
      go_ret2
      rw [encL, hL.out]
      refine ⟨_, _, _, rfl, ?_, (fun x hx => by have := (hnew x hx).1; simp at this; omega), hB8⟩
      rw [← hF.out, if_pos rfl, ← List.length_append]
      exact hp8
    · have hL : Hid (encO s o i x = false) := by
        show _ = _
        have : okH s o i = false := by
          cases hk : okH s o i
          · rfl
          · exact absurd (hh6.2.2 hk) h8
        simp [encO, this]
      have h8' : ((n6 : Int) != 8) = true := by simp; omega
      clear hh6 h8
      go_wp2_with (fail)
      go_ret2
      rw [encL, hL.out]
      exact ⟨_, _, _, rfl, Pin.zero _, (fun x h => by cases h), hB6⟩
  · have ho : padO n 56 = false := by simp only [padO, decide_eq_false_iff_not]; omega
    have hL : Hid (encO s o i x = false) := by show _ = _; simp [encO, HXL.out, hn]
    rw [ho]
    go_wp2_with (fail)
    go_ret2
    rw [encL, hL.out]
    exact ⟨_, _, _, rfl, Pin.zero _, (fun x h => by cases h), hB1⟩

theorem enc_any (s o i : Int) (a : Option Addr) (n c : Nat) (x : List Int) (w : World) (hx : Bys w a n x) :
    Calls Try.prog 10 #[hv s o i, .slice a n c] w (RetT w (encL s o i x) (encO s o i x)) := (enc_n s o i a n c x w hx).mono fun _ _ h => h.t

end Go.Proofs.Ytegllnjncpaipaa
