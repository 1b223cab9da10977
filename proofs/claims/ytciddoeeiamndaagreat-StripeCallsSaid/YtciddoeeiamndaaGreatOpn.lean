/-
  The bank's Open and Join, by contract.
-/
import Derived.Test.YtciddoeeiamndaaGreatBop
namespace Go.Proofs.YtciddoeeiamndaaGreat
open Go.RowKit Go.Maps
set_option linter.unusedVariables false

instance (d r s : Int) : Decidable (Rt d r s) := decidable_of_iff ((3 ≤ d ∧ d ≤ 16) ∧ (1 ≤ r ∧ r ≤ 4) ∧ (12 ≤ s ∧ s ≤ 64) ∧ 8 ≤ QC s * PL d r)
  ⟨fun h => ⟨⟨h.1.1, h.1.2, h.2.1.1, h.2.1.2, h.2.2.1.1, h.2.2.1.2⟩, h.2.2.2⟩, fun h => ⟨⟨h.d1, h.d2⟩, ⟨h.r1, h.r2⟩, ⟨h.s1, h.s2⟩, h.q⟩⟩
/-- Is the rack one for this geometry? -/
noncomputable def rackOk (R : Rk) (d r s : Int) : Bool := ((R.n : Int) == d + 1) && ((R.S : Int) == sect d r s)

section
variable {M : Nat → Prop} {L : Lay} {R : Rk} {w : World}
set_option maxHeartbeats 1000000 in
theorem rackOf_any (d r s : Int) (h1 : 3 ≤ d) (h2 : d ≤ 16) (hr : RackAt w M L R) :
    Calls Tryz.prog 72 #[.pointer (some ⟨L.p, 0, none⟩), gv d r s] w fun e w' => e = .returned (.bool (rackOk R d r s)) ∧ Below w.heap.size w w' := by
  have hb : ∀ x : Obj, Below w.heap.size w (w.alloc x) := fun x => (Below.refl _ _).alloc (Nat.le_refl _) _
  have HB := Lib.hid hb
  have hS := fun o : Obj => size_rack M L R (w.alloc o) (hr.below (hb o))
  have HS := Lib.hid hS
  have HT : Hid (∀ w, Calls Tryz.prog 9 #[gv d r s] w fun e w' => e = .returned (.int .i64 (sect d r s)) ∧ Below w.heap.size w w') := fun w => sectors_all d r s w
  have ed : IntKind.i64.wrap (d + 1) = d + 1 := IntWalk.i64_in _ (by omega)
  clear hr hb hS
  unfold rackOk
  by_cases hn : (R.n : Int) = d + 1
  · have hz : ((R.n : Int) == d + 1) = true := by simpa using hn
    rw [hz, Bool.true_and]
    clear hn
    go_enter Tryz.func72, Tryz.ntmps72
    go_wp2_with (fail)
    refine (HS.out _).mono ?_
    rintro e w1 ⟨rfl, hb1⟩
    have hB1 := (HB.out _).trans (hb1.mono (HB.out (.cells #[.int .i64 d, .int .i64 r, .int .i64 s] 41)).size)
    have c0 := (hb1.cell (p := ⟨w.heap.size, 0, none⟩) (by simp)).trans (show _ = some (.int .i64 d) by simp)
    have c1 := (hb1.cell (p := ⟨w.heap.size, 1, none⟩) (by simp)).trans (show _ = some (.int .i64 r) by simp)
    have c2 := (hb1.cell (p := ⟨w.heap.size, 2, none⟩) (by simp)).trans (show _ = some (.int .i64 s) by simp)
    go_wp2_with (fail)
    refine (HT.out _).mono ?_
    rintro e w2 ⟨rfl, hb2⟩
    go_wp2_with (fail)
    go_ret
    exact ⟨rfl, hB1.trans (hb2.mono hB1.size)⟩
  · have hz : ((R.n : Int) == d + 1) = false := by simpa using hn
    rw [hz, Bool.false_and]
    clear hn
    go_enter Tryz.func72, Tryz.ntmps72
    go_wp2_with (fail)
    refine (HS.out _).mono ?_
    rintro e w1 ⟨rfl, hb1⟩
    have hB1 := (HB.out _).trans (hb1.mono (HB.out (.cells #[.int .i64 d, .int .i64 r, .int .i64 s] 41)).size)
    have c0 := (hb1.cell (p := ⟨w.heap.size, 0, none⟩) (by simp)).trans (show _ = some (.int .i64 d) by simp)
    go_wp2_with (fail)
    go_ret
    exact ⟨rfl, hB1⟩
/-- A geometry's box at p, a member's behind it. -/
structure Bx6 (w : World) (p : Nat) (d r s e sl st : Int) : Prop where
  lt : p + 1 < w.heap.size
  g0 : w.cell? ⟨p, 0, none⟩ = some (.int .i64 d)
  g1 : w.cell? ⟨p, 1, none⟩ = some (.int .i64 r)
  g2 : w.cell? ⟨p, 2, none⟩ = some (.int .i64 s)
  m0 : w.cell? ⟨p + 1, 0, none⟩ = some (.int .i64 e)
  m1 : w.cell? ⟨p + 1, 1, none⟩ = some (.int .i64 sl)
  m2 : w.cell? ⟨p + 1, 2, none⟩ = some (.int .i64 st)
theorem Bx6.new (w : World) (d r s e sl st : Int) (t u : TypeId) : Bx6 ((w.alloc (.cells #[.int .i64 d, .int .i64 r, .int .i64 s] t)).alloc (.cells #[.int .i64 e, .int .i64 sl, .int .i64 st] u)) w.heap.size d r s e sl st := by
  refine ⟨by simp, ?_, ?_, ?_, ?_, ?_, ?_⟩ <;> simp
theorem Bx6.next {w w' : World} {p : Nat} {d r s e sl st : Int} (h : Bx6 w p d r s e sl st) (hb : Below w.heap.size w w') : Bx6 w' p d r s e sl st := by
  have hl := h.lt
  have hp : p < w.heap.size := by omega
  exact ⟨Nat.lt_of_lt_of_le hl hb.size, (hb.cell (p := ⟨p, 0, none⟩) hp).trans h.g0, (hb.cell (p := ⟨p, 1, none⟩) hp).trans h.g1, (hb.cell (p := ⟨p, 2, none⟩) hp).trans h.g2, (hb.cell (p := ⟨p + 1, 0, none⟩) hl).trans h.m0, (hb.cell (p := ⟨p + 1, 1, none⟩) hl).trans h.m1, (hb.cell (p := ⟨p + 1, 2, none⟩) hl).trans h.m2⟩

/-- What Open asks. -/
noncomputable def openOk (R : Rk) (d r s sl st : Int) : Bool := decide (Rt d r s) && (rackOk R d r s && memOk d sl st)
/-- What Open answers. -/
noncomputable def OpenPost (p : Nat) (R : Rk) (d r s e sl st : Int) (w : World) (en : Ending) (w' : World) : Prop :=
  Below w.heap.size w w' ∧ if openOk R d r s sl st then ∃ b, en = .returned (.tuple #[.pointer (some ⟨b, 0, none⟩), .int .i64 0]) ∧ w.heap.size ≤ b ∧ BnAt w' b p ⟨d, r, s, e, sl, st⟩
    else en = .returned (.tuple #[.pointer none, .int .i64 10])
theorem OpenPost.no {p : Nat} {d r s e sl st : Int} {w' : World} (hb : Below w.heap.size w w') (h : openOk R d r s sl st = false) : OpenPost p R d r s e sl st w (.returned (.tuple #[.pointer none, .int .i64 10])) w' :=
  ⟨hb, by rw [h]; rfl⟩
theorem OpenPost.yes {p b : Nat} {d r s e sl st : Int} {w' : World} (hb : Below w.heap.size w w') (h : openOk R d r s sl st = true) (hlt : w.heap.size ≤ b) (hB : BnAt w' b p ⟨d, r, s, e, sl, st⟩) : OpenPost p R d r s e sl st w (.returned (.tuple #[.pointer (some ⟨b, 0, none⟩), .int .i64 0])) w' :=
  ⟨hb, by rw [h]; exact ⟨b, rfl, hlt, hB⟩⟩
set_option maxHeartbeats 2000000 in
theorem open_any (d r s e sl st : Int) (hr : RackAt w M L R) :
    Calls Tryz.prog 26 #[.pointer (some ⟨L.p, 0, none⟩), gv d r s, mb e sl st] w (OpenPost L.p R d r s e sl st w) := by
  have HR := Lib.hid hr
  have hb2 : Hid (∀ x y : Obj, Below w.heap.size w ((w.alloc x).alloc y)) := fun x y => ((Below.refl _ _).alloc (Nat.le_refl _) _).alloc (by simp) _
  clear hr
  by_cases hR : Rt d r s
  · have HOK : Hid (openOk R d r s sl st = (rackOk R d r s && memOk d sl st)) := by unfold Hid openOk; rw [decide_eq_true hR, Bool.true_and]
    have hg := hR.d1
    have hg2 := hR.d2
    have HG : Hid (∀ w, Calls Tryz.prog 27 #[gv d r s] w fun e w' => e = .returned (.bool true) ∧ Below w.heap.size w w') := fun w => right_yes d r s w hR
    clear hR
    go_enter Tryz.func26, Tryz.ntmps26
    go_wp2_with (fail)
    refine (HG.out _).mono ?_
    rintro e1 w1 ⟨rfl, hb1⟩
    have hx1 := (Bx6.new w d r s e sl st 41 23).next hb1
    have hB1 := (hb2.out (.cells #[.int .i64 d, .int .i64 r, .int .i64 s] 41) (.cells #[.int .i64 e, .int .i64 sl, .int .i64 st] 23)).trans (hb1.mono (hb2.out _ _).size)
    obtain ⟨p, hp⟩ : ∃ p, p = w.heap.size := ⟨_, rfl⟩
    rw [← hp] at hx1
    have HP := Lib.hid hp
    have hro := rackOf_any (w := w1) d r s hg hg2 (HR.out.below hB1)
    have HM : Hid (∀ w, Calls Tryz.prog 73 #[mb e sl st, gv d r s] w fun e w' => e = .returned (.bool (memOk d sl st)) ∧ Below w.heap.size w w') := fun w => memberOf_any d r s e sl st w
    have HRO := Lib.hid hro
    have HX1 := Lib.hid hx1
    have g0 := hx1.g0
    have g1 := hx1.g1
    have g2 := hx1.g2
    have HB1 := Lib.hid hB1
    clear hro hx1 hB1 hb1 hg hg2
    cases hrk : rackOk R d r s with
    | false =>
      rw [hrk] at HRO HOK
      clear hrk
      rw [← hp]
      clear hp
      go_wp2_with (fail)
      refine HRO.out.mono ?_
      rintro e2 w2 ⟨rfl, hb22⟩
      go_wp2_with (fail)
      go_ret2
      exact OpenPost.no (HB1.out.trans (hb22.mono HB1.out.size)) (HOK.out.trans (Bool.false_and _))
    | true =>
      rw [hrk] at HRO HOK
      clear hrk
      rw [← hp]
      clear hp
      go_wp2_with (fail)
      refine HRO.out.mono ?_
      rintro e2 w2 ⟨rfl, hb22⟩
      have HB2 := Lib.hid (HB1.out.trans (hb22.mono HB1.out.size))
      have hx2 := HX1.out.next hb22
      have HX2 := Lib.hid hx2
      clear g0 g1 g2
      have g0 := hx2.g0
      have g1 := hx2.g1
      have g2 := hx2.g2
      have m0 := hx2.m0
      have m1 := hx2.m1
      have m2 := hx2.m2
      clear hx2 HX1 hb22
      cases hm : memOk d sl st with
      | false =>
        rw [hm] at HM HOK
        clear hm
        go_wp2_with (fail)
        refine (HM.out _).mono ?_
        rintro e3 w3 ⟨rfl, hb33⟩
        go_wp2_with (fail)
        go_ret2
        exact OpenPost.no (HB2.out.trans (hb33.mono HB2.out.size)) (HOK.out.trans rfl)
      | true =>
        rw [hm] at HM HOK
        clear hm
        go_wp2_with (fail)
        refine (HM.out _).mono ?_
        rintro e3 w3 ⟨rfl, hb33⟩
        have HB3 := Lib.hid (HB2.out.trans (hb33.mono HB2.out.size))
        have hx3 := HX2.out.next hb33
        clear g0 g1 g2 m0 m1 m2
        have g0 := hx3.g0
        have g1 := hx3.g1
        have g2 := hx3.g2
        have m0 := hx3.m0
        have m1 := hx3.m1
        have m2 := hx3.m2
        clear hx3 HX2 hb33
        go_wp2_with (fail)
        go_ret2
        exact OpenPost.yes (HB3.out.alloc HB3.out.size _) (HOK.out.trans rfl) HB3.out.size ⟨heap_alloc_new w3 _⟩
  · have HOK : Hid (openOk R d r s sl st = false) := by unfold Hid openOk; rw [decide_eq_false hR, Bool.false_and]
    have HG : Hid (∀ w, Calls Tryz.prog 27 #[gv d r s] w fun e w' => e = .returned (.bool false) ∧ Below w.heap.size w w') := fun w => right_no d r s w hR
    clear hR
    go_enter Tryz.func26, Tryz.ntmps26
    go_wp2_with (fail)
    refine (HG.out _).mono ?_
    rintro e1 w1 ⟨rfl, hb1⟩
    go_wp2_with (fail)
    go_ret2
    exact OpenPost.no ((hb2.out _ _).trans (hb1.mono (hb2.out (.cells #[.int .i64 d, .int .i64 r, .int .i64 s] 41) (.cells #[.int .i64 e, .int .i64 sl, .int .i64 st] 23)).size)) HOK.out
/-- The bank behind a Join. -/
def Bn.join (B : Bn) (e sl st : Int) : Bn := if memOk B.d sl st then ⟨B.d, B.r, B.s, e, sl, st⟩ else B
set_option maxHeartbeats 2000000 in
theorem join_any {b : Nat} {B : Bn} (e sl st : Int) (hb : BnAt w b L.p B) :
    Calls Tryz.prog 42 #[.pointer (some ⟨b, 0, none⟩), mb e sl st] w fun en w' => en = .returned (.tuple #[]) ∧ BnAt w' b L.p (B.join e sl st) ∧ Turn (· = b) w w' := by
  have HB := Lib.hid hb
  have hbl : ∀ o : Obj, Below w.heap.size w (w.alloc o) := fun o => (Below.refl _ _).alloc (Nat.le_refl _) _
  have hbk := fun o : Obj => ((hb.next (hbl o)).drew)
  have HBK := Lib.hid hbk
  have HBL := Lib.hid hbl
  have HM : Hid (∀ w, Calls Tryz.prog 73 #[mb e sl st, gv B.d B.r B.s] w fun e w' => e = .returned (.bool (memOk B.d sl st)) ∧ Below w.heap.size w w') := fun w => memberOf_any B.d B.r B.s e sl st w
  clear hb hbl hbk
  cases hm : memOk B.d sl st with
  | false =>
    rw [hm] at HM
    have HJ : Hid (B.join e sl st = B) := by unfold Hid Bn.join; rw [hm]; rfl
    clear hm
    go_enter Tryz.func42, Tryz.ntmps42
    go_wp2_with (fail)
    obtain ⟨W0, hW0⟩ : ∃ W0, W0 = w.alloc (.cells #[.int .i64 e, .int .i64 sl, .int .i64 st] 23) := ⟨_, rfl⟩
    have x0 : W0.cell? ⟨w.heap.size, 0, none⟩ = some (.int .i64 e) := by rw [hW0]; simp
    have x1 : W0.cell? ⟨w.heap.size, 1, none⟩ = some (.int .i64 sl) := by rw [hW0]; simp
    have x2 : W0.cell? ⟨w.heap.size, 2, none⟩ = some (.int .i64 st) := by rw [hW0]; simp
    have hlt : w.heap.size < W0.heap.size := by rw [hW0]; simp
    have hB0 : Below w.heap.size w W0 := by rw [hW0]; exact HBL.out _
    have hbk : BnAt W0.drew b L.p B := by rw [hW0]; exact HBK.out _
    rw [← hW0]
    clear hW0
    have k1 := hbk.c1
    have k2 := hbk.c2
    have k3 := hbk.c3
    refine wp_region_held_drew (S := fun w' => w'.cell? ⟨w.heap.size, 0, none⟩ = some (.int .i64 e) ∧ w'.cell? ⟨w.heap.size, 1, none⟩ = some (.int .i64 sl) ∧ w'.cell? ⟨w.heap.size, 2, none⟩ = some (.int .i64 st) ∧ w'.cell? ⟨b, 1, none⟩ = some (.int .i64 B.d) ∧ w'.cell? ⟨b, 2, none⟩ = some (.int .i64 B.r) ∧ w'.cell? ⟨b, 3, none⟩ = some (.int .i64 B.s)) (by kernel_rfl) ?_ (fun hHeld => ?_)
    · exact ⟨x0, x1, x2, k1, k2, k3⟩
    refine wpAnyH_take (i := 0) (v := ?_) rfl (by kernel_rfl) (by kernel_rfl) (by kernel_rfl) (fun _ _ _ h => h) (Or.inl ⟨by rfl, fun w hSw => ?_⟩) (by assumption) ?_
    rotate_left
    · (try dsimp only at hSw); go_simp; try with_reducible rfl
    simp only [Act.put, List.setIfInBounds_toArray, List.set_cons_zero, List.set_cons_succ, List.getElem_toArray, List.getElem_cons_zero]
    refine wpAnyH_take (i := 1) (v := ?_) rfl (by kernel_rfl) (by kernel_rfl) (by kernel_rfl) (fun _ _ _ h => h) (Or.inl ⟨by rfl, fun w hSw => ?_⟩) (by assumption) ?_
    rotate_left
    · (try dsimp only at hSw); go_simp; try with_reducible rfl
    simp only [Act.put, List.setIfInBounds_toArray, List.set_cons_zero, List.set_cons_succ, List.getElem_toArray, List.getElem_cons_succ, List.getElem_cons_zero]
    refine wpAnyH_take (i := 2) (v := ?_) rfl (by kernel_rfl) (by kernel_rfl) (by kernel_rfl) (fun _ _ _ h => h) (Or.inl ⟨by rfl, fun w hSw => ?_⟩) (by assumption) ?_
    rotate_left
    · (try dsimp only at hSw); go_simp; try with_reducible rfl
    simp only [Act.put, List.setIfInBounds_toArray, List.set_cons_zero, List.set_cons_succ, List.getElem_toArray, List.getElem_cons_succ, List.getElem_cons_zero]
    refine wpAnyH_take (i := 3) (v := ?_) rfl (by kernel_rfl) (by kernel_rfl) (by kernel_rfl) (fun _ _ _ h => h) (Or.inl ⟨by rfl, fun w hSw => ?_⟩) (by assumption) ?_
    rotate_left
    · (try dsimp only at hSw); go_simp; try with_reducible rfl
    simp only [Act.put, List.setIfInBounds_toArray, List.set_cons_zero, List.set_cons_succ, List.getElem_toArray, List.getElem_cons_succ, List.getElem_cons_zero]
    refine wpAnyH_take (i := 4) (v := ?_) rfl (by kernel_rfl) (by kernel_rfl) (by kernel_rfl) (fun _ _ _ h => h) (Or.inl ⟨by rfl, fun w hSw => ?_⟩) (by assumption) ?_
    rotate_left
    · (try dsimp only at hSw); go_simp; try with_reducible rfl
    simp only [Act.put, List.setIfInBounds_toArray, List.set_cons_zero, List.set_cons_succ, List.getElem_toArray, List.getElem_cons_succ, List.getElem_cons_zero]
    refine wpAnyH_ready (rs := [5]) (by kernel_rfl) (by simp) ?_
    refine AllReadyH.cons rfl (fun K hK => ?_) AllReadyH.nil
    simp only [List.getElem_toArray, List.getElem_cons_succ, List.getElem_cons_zero]
    go_simp
    refine (HM.out _).mono ?_
    rintro e1 w1 ⟨rfl, hb1⟩
    have hbk1 := hbk.next hb1
    have y0 := (hb1.cell (p := ⟨w.heap.size, 0, none⟩) hlt).trans x0
    have y1 := (hb1.cell (p := ⟨w.heap.size, 1, none⟩) hlt).trans x1
    have y2 := (hb1.cell (p := ⟨w.heap.size, 2, none⟩) hlt).trans x2
    go_wp2_with (fail)
    refine hK.out _ _ ⟨y0, y1, y2, hbk1.c1, hbk1.c2, hbk1.c3⟩ (fun hHeld => ?_)
    clear hK K
    refine wpAnyH_done (by kernel_rfl) ?_ _
    have hB1 : Below w.heap.size w w1 := hB0.trans ((undrew hb1).mono hB0.size)
    clear x0 x1 x2 k1 k2 k3 hHeld hb1 hlt hB0 hbk
    go_wp2_with (fail)
    go_end0
    exact ⟨rfl, by rw [HJ.out]; exact hbk1, Turn.of_below hB1⟩
  | true =>
    rw [hm] at HM
    have HJ : Hid (B.join e sl st = ⟨B.d, B.r, B.s, e, sl, st⟩) := by unfold Hid Bn.join; rw [hm]; rfl
    clear hm
    go_enter Tryz.func42, Tryz.ntmps42
    go_wp2_with (fail)
    obtain ⟨W0, hW0⟩ : ∃ W0, W0 = w.alloc (.cells #[.int .i64 e, .int .i64 sl, .int .i64 st] 23) := ⟨_, rfl⟩
    have x0 : W0.cell? ⟨w.heap.size, 0, none⟩ = some (.int .i64 e) := by rw [hW0]; simp
    have x1 : W0.cell? ⟨w.heap.size, 1, none⟩ = some (.int .i64 sl) := by rw [hW0]; simp
    have x2 : W0.cell? ⟨w.heap.size, 2, none⟩ = some (.int .i64 st) := by rw [hW0]; simp
    have hlt : w.heap.size < W0.heap.size := by rw [hW0]; simp
    have hB0 : Below w.heap.size w W0 := by rw [hW0]; exact HBL.out _
    have hbk : BnAt W0.drew b L.p B := by rw [hW0]; exact HBK.out _
    rw [← hW0]
    clear hW0
    have k1 := hbk.c1
    have k2 := hbk.c2
    have k3 := hbk.c3
    refine wp_region_held_drew (S := fun w' => w'.cell? ⟨w.heap.size, 0, none⟩ = some (.int .i64 e) ∧ w'.cell? ⟨w.heap.size, 1, none⟩ = some (.int .i64 sl) ∧ w'.cell? ⟨w.heap.size, 2, none⟩ = some (.int .i64 st) ∧ w'.cell? ⟨b, 1, none⟩ = some (.int .i64 B.d) ∧ w'.cell? ⟨b, 2, none⟩ = some (.int .i64 B.r) ∧ w'.cell? ⟨b, 3, none⟩ = some (.int .i64 B.s)) (by kernel_rfl) ?_ (fun hHeld => ?_)
    · exact ⟨x0, x1, x2, k1, k2, k3⟩
    refine wpAnyH_take (i := 0) (v := ?_) rfl (by kernel_rfl) (by kernel_rfl) (by kernel_rfl) (fun _ _ _ h => h) (Or.inl ⟨by rfl, fun w hSw => ?_⟩) (by assumption) ?_
    rotate_left
    · (try dsimp only at hSw); go_simp; try with_reducible rfl
    simp only [Act.put, List.setIfInBounds_toArray, List.set_cons_zero, List.set_cons_succ, List.getElem_toArray, List.getElem_cons_zero]
    refine wpAnyH_take (i := 1) (v := ?_) rfl (by kernel_rfl) (by kernel_rfl) (by kernel_rfl) (fun _ _ _ h => h) (Or.inl ⟨by rfl, fun w hSw => ?_⟩) (by assumption) ?_
    rotate_left
    · (try dsimp only at hSw); go_simp; try with_reducible rfl
    simp only [Act.put, List.setIfInBounds_toArray, List.set_cons_zero, List.set_cons_succ, List.getElem_toArray, List.getElem_cons_succ, List.getElem_cons_zero]
    refine wpAnyH_take (i := 2) (v := ?_) rfl (by kernel_rfl) (by kernel_rfl) (by kernel_rfl) (fun _ _ _ h => h) (Or.inl ⟨by rfl, fun w hSw => ?_⟩) (by assumption) ?_
    rotate_left
    · (try dsimp only at hSw); go_simp; try with_reducible rfl
    simp only [Act.put, List.setIfInBounds_toArray, List.set_cons_zero, List.set_cons_succ, List.getElem_toArray, List.getElem_cons_succ, List.getElem_cons_zero]
    refine wpAnyH_take (i := 3) (v := ?_) rfl (by kernel_rfl) (by kernel_rfl) (by kernel_rfl) (fun _ _ _ h => h) (Or.inl ⟨by rfl, fun w hSw => ?_⟩) (by assumption) ?_
    rotate_left
    · (try dsimp only at hSw); go_simp; try with_reducible rfl
    simp only [Act.put, List.setIfInBounds_toArray, List.set_cons_zero, List.set_cons_succ, List.getElem_toArray, List.getElem_cons_succ, List.getElem_cons_zero]
    refine wpAnyH_take (i := 4) (v := ?_) rfl (by kernel_rfl) (by kernel_rfl) (by kernel_rfl) (fun _ _ _ h => h) (Or.inl ⟨by rfl, fun w hSw => ?_⟩) (by assumption) ?_
    rotate_left
    · (try dsimp only at hSw); go_simp; try with_reducible rfl
    simp only [Act.put, List.setIfInBounds_toArray, List.set_cons_zero, List.set_cons_succ, List.getElem_toArray, List.getElem_cons_succ, List.getElem_cons_zero]
    refine wpAnyH_ready (rs := [5]) (by kernel_rfl) (by simp) ?_
    refine AllReadyH.cons rfl (fun K hK => ?_) AllReadyH.nil
    simp only [List.getElem_toArray, List.getElem_cons_succ, List.getElem_cons_zero]
    go_simp
    refine (HM.out _).mono ?_
    rintro e1 w1 ⟨rfl, hb1⟩
    have hbk1 := hbk.next hb1
    have y0 := (hb1.cell (p := ⟨w.heap.size, 0, none⟩) hlt).trans x0
    have y1 := (hb1.cell (p := ⟨w.heap.size, 1, none⟩) hlt).trans x1
    have y2 := (hb1.cell (p := ⟨w.heap.size, 2, none⟩) hlt).trans x2
    go_wp2_with (fail)
    refine hK.out _ _ ⟨y0, y1, y2, hbk1.c1, hbk1.c2, hbk1.c3⟩ (fun hHeld => ?_)
    clear hK K
    refine wpAnyH_done (by kernel_rfl) ?_ _
    have hB1 : Below w.heap.size w w1 := hB0.trans ((undrew hb1).mono hB0.size)
    clear x0 x1 x2 k1 k2 k3 hHeld hb1 hlt hB0 hbk
    have k4 := hbk1.c4
    have k5 := hbk1.c5
    have k6 := hbk1.c6
    have f4 := hbk1.fr 4
    have f5 := hbk1.fr 5
    have f6 := hbk1.fr 6
    have hltb := hbk1.lt
    go_wp2_with (fail)
    go_end0
    refine ⟨rfl, ⟨?_⟩, (Turn.of_below hB1).trans (((turn_set _ b 4 _).trans (turn_set _ b 5 _)).trans (turn_set _ b 6 _))⟩
    rw [HJ.out]
    exact cells_set (cells_set (cells_set hbk1.row))
end

end Go.Proofs.YtciddoeeiamndaaGreat
