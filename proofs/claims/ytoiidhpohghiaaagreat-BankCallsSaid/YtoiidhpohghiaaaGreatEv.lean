/-
  The bank's Everywhere, by contract.
-/
import Derived.Test.YtoiidhpohghiaaaGreatFl
import Derived.Test.YtoiidhpohghiaaaGreatEvB
namespace Go.Proofs.YtoiidhpohghiaaaGreat
open Go.RowKit Go.Maps
attribute [local go_sem] Oper.semAt_some

/-- A sector written on disk by disk. -/
def evG (B : Bn) (k : Int) (zs : List Int) (R : Rk) (i : Nat) : Bool × Int × Rk := goN (fun R d => R.wr d k zs) (fun R d => R.wrE d k zs) (fun i => B.disk (i : Int)) R i
theorem evG_n (B : Bn) (k : Int) (zs : List Int) (R : Rk) (i : Nat) : (evG B k zs R i).2.2.n = R.n := goN_keep (fun x : Rk => x.n = R.n) rfl (fun x d h => (x.wr_n d k zs).trans h) i
theorem evG_go {B : Bn} {k : Int} {zs : List Int} {R : Rk} {i : Nat} (h : (evG B k zs R i).1 = false) (h2 : (evG B k zs R i).2.2.wrE (B.disk (i : Int)) k zs ≠ 12) :
    evG B k zs R (i + 1) = (false, if (evG B k zs R i).2.2.wrE (B.disk (i : Int)) k zs = 11 then 11 else (evG B k zs R i).2.1, (evG B k zs R i).2.2.wr (B.disk (i : Int)) k zs) := goN_go h h2
theorem evG_stop {B : Bn} {k : Int} {zs : List Int} {R : Rk} {i : Nat} (h : (evG B k zs R i).1 = false) (h2 : (evG B k zs R i).2.2.wrE (B.disk (i : Int)) k zs = 12) :
    evG B k zs R (i + 1) = (true, 12, (evG B k zs R i).2.2.wr (B.disk (i : Int)) k zs) := goN_stop h h2

theorem Turn.undrew {N : Nat → Prop} {w w' : World} (h : Turn N w.drew w') : Turn N w w' := ⟨h.os, h.tape, h.output, h.size, h.block⟩
theorem bys_turn2 {N : Nat → Prop} {w w' : World} {a : Option Addr} {n : Nat} {zs : List Int} (h : Bys w a n zs) (ht : Turn N w w') (hm : n = 0 ∨ ∀ b off, a = some ⟨b, off, none⟩ → ¬ N b) : Bys w' a n zs := by
  rcases hm with h0 | hm
  · exact ⟨h.len, h.small, .inl h0⟩
  · exact bys_turn h ht hm

/-- Between two rounds of Everywhere. -/
structure EvI (M : Nat → Prop) (L : Lay) (R : Rk) (w : World) (b p : Nat) (B : Bn) (k : Int) (a : Option Addr) (m c : Nat) (zs : List Int) (i : Nat) (X : World) : Prop where
  on : (evG B k zs R i).1 = false
  rk : RackAt X (also M (fun j => j = p + 3 ∨ j = p + 4)) L (evG B k zs R i).2.2
  bk : BnAt X b L.p B
  c0 : X.cell? ⟨p, 0, none⟩ = some (.pointer (some ⟨b, 0, none⟩))
  c1 : X.cell? ⟨p + 1, 0, none⟩ = some (.int .i64 k)
  c2 : X.cell? ⟨p + 2, 0, none⟩ = some (.slice a m c)
  c3 : X.cell? ⟨p + 3, 0, none⟩ = some (.int .i64 0)
  c4 : X.cell? ⟨p + 4, 0, none⟩ = some (.int .i64 (evG B k zs R i).2.1)
  f3 : X.frozen? ⟨p + 3, 0, none⟩ = false
  f4 : X.frozen? ⟨p + 4, 0, none⟩ = false
  bys : Bys X a m zs
  tn : Turn (L.M R.n) w X
theorem EvI.aside {M : Nat → Prop} {L : Lay} {R : Rk} {w : World} {b p : Nat} {B : Bn} {k : Int} {a : Option Addr} {m c : Nat} {zs : List Int} {i : Nat} {X X' : World} {l : Nat} (h : EvI M L R w b p B k a m c zs i X) (ha : Aside l X X') (hl : w.heap.size ≤ l) (hM : ∀ j, L.M R.n j → j < p) (hp : p ≤ l) : EvI M L R w b p B k a m c zs i X' :=
  ⟨h.on, h.rk.aside ha (fun x => by rw [evG_n] at x; have := hM l x; omega), h.bk.aside ha, ha.cell h.c0, ha.cell h.c1, ha.cell h.c2, ha.cell h.c3, ha.cell h.c4, (ha.frozen h.c3).trans h.f3, (ha.frozen h.c4).trans h.f4, h.bys.aside ha, h.tn.aside ha hl⟩

set_option maxRecDepth 100000 in
set_option maxHeartbeats 4000000 in
theorem every_bank (M : Nat → Prop) (L : Lay) (R : Rk) (w : World) (b n : Nat) (B : Bn) (k : Int) (a : Option Addr) (m c : Nat) (zs : List Int) (hr : RackAt w M L R) (hb : BnAt w b L.p B) (hbM : ¬ L.M R.n b) (hd : B.d = (n : Int)) (hn : n ≤ 16)
    (hz : Bys w a m zs) (hzM : m = 0 ∨ ∀ b off, a = some ⟨b, off, none⟩ → ¬ M b) :
    Calls Tryz.prog 30 #[.pointer (some ⟨b, 0, none⟩), .int .i64 k, .slice a m c] w (CallPost M L R (evG B k zs R B.num).2.2 w (.int .i64 (evG B k zs R B.num).2.1)) := by
  have hMlow : Hid (∀ k, L.M R.n k → k < w.heap.size) := fun k hk => hr.low k (hr.sub k hk)
  have HbM := Lib.hid hbM
  refine (callsIn_wide (n := 3)).1 ?_
  refine callsIn_of_wp_marks Tryz.func30 rfl trivial ?_ rfl
  simp only [Tryz.ntmps30, List.size_toArray, List.length_cons, List.length_nil, Nat.reduceAdd, Nat.reduceSub, Array.replicate_succ, Array.replicate_zero, List.push_toArray, List.append_toArray, List.nil_append, List.cons_append]
  gi_wp2
  obtain ⟨p, hp⟩ : ∃ p, p = w.heap.size := ⟨_, rfl⟩
  obtain ⟨W0, hW0⟩ : ∃ W0, W0 = ((((w.alloc (Obj.cells #[Value.pointer (some { block := b, off := 0 })] 44)).alloc (Obj.cells #[Value.int IntKind.i64 k] 3)).alloc (Obj.cells #[Value.slice a m c] 26)).alloc (Obj.cells #[Value.int IntKind.i64 0] 33)).alloc (Obj.cells #[Value.int IntKind.i64 0] 33) := ⟨_, rfl⟩
  have hsz : W0.heap.size = p + 5 := by rw [hW0, hp]; simp
  have hbl : Below w.heap.size w W0 := by rw [hW0]; exact (((((Below.refl _ _).alloc (Nat.le_refl _) _).alloc (by simp) _).alloc (by simp; omega) _).alloc (by simp; omega) _).alloc (by simp; omega) _
  have q0 : W0.cell? ⟨p, 0, none⟩ = some (.pointer (some ⟨b, 0, none⟩)) := by rw [hW0]; exact cell_alloc_l _ (cell_alloc_l _ (cell_alloc_l _ (cell_alloc_l _ (box_new w _ _ hp.symm).1)))
  have q1 : W0.cell? ⟨p + 1, 0, none⟩ = some (.int .i64 k) := by rw [hW0]; exact cell_alloc_l _ (cell_alloc_l _ (cell_alloc_l _ (box_new _ _ _ (by simp; omega)).1))
  have q2 : W0.cell? ⟨p + 2, 0, none⟩ = some (.slice a m c) := by rw [hW0]; exact cell_alloc_l _ (cell_alloc_l _ (box_new _ _ _ (by simp; omega)).1)
  have q3 : W0.cell? ⟨p + 3, 0, none⟩ = some (.int .i64 0) := by rw [hW0]; exact cell_alloc_l _ (box_new _ _ _ (by simp; omega)).1
  have q4 : W0.cell? ⟨p + 4, 0, none⟩ = some (.int .i64 0) := by rw [hW0]; exact (box_new _ _ _ (by simp; omega)).1
  have r3 : W0.frozen? ⟨p + 3, 0, none⟩ = false := by rw [hW0]; exact frozen_alloc_l _ (box_new _ _ _ (by simp; omega)).1 (box_new _ _ _ (by simp; omega)).2
  have r4 : W0.frozen? ⟨p + 4, 0, none⟩ = false := by rw [hW0]; exact (box_new _ _ _ (by simp; omega)).2
  have hq : p + 1 + 1 = p + 2 ∧ p + 1 + 1 + 1 = p + 3 ∧ p + 1 + 1 + 1 + 1 = p + 4 := ⟨rfl, rfl, rfl⟩
  rw [← hW0, ← hp]
  clear hW0
  have hp' : ∀ k, L.M R.n k → k < p := fun k hk => by rw [hp]; exact hMlow.out k hk
  have HP := Lib.hid hp'
  have HEQ := Lib.hid hp
  clear hp' hp
  refine wp_over (Kp := Turn (fun j => L.M R.n j ∨ j = p + 3 ∨ j = p + 4)) rfl (enters_of Tryz.func63 (by kernel_rfl) rfl) (disks_rounds b L.p n B hd hn) rfl
    (fun i X => EvI M L R w b p B k a m c zs i X)
    (fun c X => c = .ret ∧ RackAt X (also M (fun j => j = p + 3 ∨ j = p + 4)) L (evG B k zs R B.num).2.2 ∧ (evG B k zs R B.num).2.1 = 12 ∧ X.cell? ⟨p + 3, 0, none⟩ = some (.int .i64 12) ∧ Turn (L.M R.n) w X)
    (fun i X h => h.bk)
    (fun i X X' l hl ha h => h.aside ha (by rw [← HEQ.out]; omega) HP.out (by omega))
    (fun c X X' l hl ha h => ⟨h.1, h.2.1.aside ha (fun x => by rw [evG_n] at x; have := HP.out l x; omega), h.2.2.1, ha.cell h.2.2.2.1, h.2.2.2.2.aside ha (by rw [← HEQ.out]; omega)⟩)
    (fun X X' h => keeps_of_turn h (fun k hk => hk.elim (fun x => by have := HP.out k x; omega) (fun x => by omega)))
    ⟨rfl, hr.also hbl (fun k (e : k = p + 3 ∨ k = p + 4) => by have := HEQ.out; omega), hb.next hbl, q0, q1, q2, q3, q4, r3, r4, hz.below (Nat.le_refl _) hbl, Turn.of_below hbl⟩
    (fun i => { tmps := #[.pointer (some ⟨b, 0, none⟩), .int .i64 k, .slice a m c, .pointer (some ⟨p, 0, none⟩), .pointer (some ⟨p + 1, 0, none⟩), .pointer (some ⟨p + 1 + 1, 0, none⟩), .pointer (some ⟨p + 1 + 1 + 1, 0, none⟩), .pointer (some ⟨p + 1 + 1 + 1 + 1, 0, none⟩), .int .i64 (B.disk (i : Int)), .pointer (some ⟨b, 0, none⟩), .func (.func 63) #[.pointer (some ⟨b, 0, none⟩)] #[], .int .i64 (B.disk (i : Int)), undef, undef, undef, undef, undef, undef, undef, undef, undef, undef, undef, undef, undef], defers := [] }) ?assign ?body ?done ?stop
  case assign =>
    intro l i X K hi hK
    gi_wp2
    exact hK
  case body =>
    rintro l i X hi hle ⟨hs, hrX, hbX, c0, c1, c2, c3, c4, f3, f4, hzX, hT⟩
    have hne : m = 0 ∨ ∀ b off, a = some ⟨b, off, none⟩ → ¬ also M (fun j => j = p + 3 ∨ j = p + 4) b := by
      rcases hzM with h0 | hzM
      · exact .inl h0
      rcases hz.place with h0 | ⟨b', off', e', hlt, _⟩
      · exact .inl h0
      · refine .inr fun b off e x => ?_
        rcases x with x | x
        · exact hzM b off e x
        · rw [e] at e'; cases e'; have := HEQ.out; omega
    have HLOW : Hid (m = 0 ∨ ∀ b off, a = some ⟨b, off, none⟩ → b ≠ p + 4) := by
      rcases hz.place with h0 | ⟨b', off', e', hlt, _⟩
      · exact .inl h0
      · exact .inr fun b off e x => by rw [e] at e'; cases e'; have := HEQ.out; omega
    have HNZ : Hid (m = 0 ∨ ∀ b off, a = some ⟨b, off, none⟩ → ¬ L.M R.n b) := hzM.imp id fun h b off e x => h b off e (hr.sub _ x)
    have HBP : Hid (b ≠ p + 4) := by have := hb.lt; have := HEQ.out; unfold Hid; omega
    have hfl := write_all (w := X.drew) (B.disk (i : Int)) k a m c zs hrX.drew (hzX.below (Nat.le_refl _) (below_drewN (Below.refl _ _) 1)) hne
    have k0 := hbX.c0
    have hst := fun h2 => evG_stop (B := B) (k := k) (zs := zs) (R := R) (i := i) hs h2
    have hgo := fun h2 => evG_go (B := B) (k := k) (zs := zs) (R := R) (i := i) hs h2
    have hEnd := fun h1 => goN_end (st := fun R d => R.wr d k zs) (er := fun R d => R.wrE d k zs) (ds := fun i => B.disk (i : Int)) (s := R) (i := i + 1) h1 B.num hi
    have hn1 := evG_n B k zs R i
    obtain ⟨x, hx⟩ : ∃ x, x = (evG B k zs R i).2.2.wrE (B.disk (i : Int)) k zs := ⟨_, rfl⟩
    rw [← hx] at hfl hst hgo
    have HST := Lib.hid hst
    have HGO := Lib.hid hgo
    have HE := Lib.hid hEnd
    have HN := Lib.hid hn1
    have HFL := Lib.hid hfl
    have HT := Lib.hid hT
    have HZ := Lib.hid hzX
    have HNM : Hid (∀ j, p ≤ j → ¬ L.M (evG B k zs R i).2.2.n j) := fun j hj x => by rw [evG_n] at x; have := HP.out j x; omega
    have hl0 : p + 4 < X.heap.size := by omega
    clear hx hst hgo hEnd hn1 hs hr hb hfl hT hzX hne hz hzM
    gi_wp2
    rename_i K hK
    have hRest : ∀ W', RackAt W' (also M (fun j => j = p + 3 ∨ j = p + 4)) L ((evG B k zs R i).2.2.wr (B.disk (i : Int)) k zs) → Turn (L.M (evG B k zs R i).2.2.n) X.drew W' →
        K { tmps := #[.pointer (some ⟨b, 0, none⟩), .int .i64 k, .slice a m c, .pointer (some ⟨p, 0, none⟩), .pointer (some ⟨p + 1, 0, none⟩), .pointer (some ⟨p + 1 + 1, 0, none⟩), .pointer (some ⟨p + 1 + 1 + 1, 0, none⟩), .pointer (some ⟨p + 1 + 1 + 1 + 1, 0, none⟩), .int .i64 (B.disk (i : Int)), .pointer (some ⟨b, 0, none⟩), .func (.func 63) #[.pointer (some ⟨b, 0, none⟩)] #[], .int .i64 (B.disk (i : Int)), .pointer (some ⟨b, 0, none⟩), .pointer (some ⟨b, 0, none⟩), .pointer (some ⟨b, 0, none⟩), .pointer (some ⟨L.p, 0, none⟩), .int .i64 (B.disk (i : Int)), .int .i64 k, .slice a m c, .int .i64 x, undef, undef, undef, undef, undef], defers := [] } W' := by
      intro W' hr' ht'
      refine hK _ _ ?_
      have HR' := Lib.hid hr'
      have HT' := Lib.hid ht'
      have nm := fun j (hj : p ≤ j) => (show ¬ L.M (evG B k zs R i).2.2.n j from fun x => by rw [HN.out] at x; have := HP.out j x; omega)
      have d0 := (ht'.cell (a := ⟨p, 0, none⟩) (show p < X.heap.size by omega) (nm p (Nat.le_refl _))).trans c0
      have d1 := (ht'.cell (a := ⟨p + 1, 0, none⟩) (show p + 1 < X.heap.size by omega) (nm (p + 1) (by omega))).trans c1
      have d2 := (ht'.cell (a := ⟨p + 2, 0, none⟩) (show p + 2 < X.heap.size by omega) (nm (p + 2) (by omega))).trans c2
      have d3 := (ht'.cell (a := ⟨p + 3, 0, none⟩) (show p + 3 < X.heap.size by omega) (nm (p + 3) (by omega))).trans c3
      have d4 := (ht'.cell (a := ⟨p + 4, 0, none⟩) (show p + 4 < X.heap.size by omega) (nm (p + 4) (by omega))).trans c4
      have e3 := (ht'.frozen (a := ⟨p + 3, 0, none⟩) (show p + 3 < X.heap.size by omega) (nm (p + 3) (by omega))).trans f3
      have e4 := (ht'.frozen (a := ⟨p + 4, 0, none⟩) (show p + 4 < X.heap.size by omega) (nm (p + 4) (by omega))).trans f4
      have D0 := Lib.hid d0
      have D1 := Lib.hid d1
      have D2 := Lib.hid d2
      have HBK := Lib.hid (hbX.turn (N := L.M (evG B k zs R i).2.2.n) (w' := W') ⟨ht'.os, ht'.tape, ht'.output, ht'.size, ht'.block⟩ (by rw [HN.out]; exact HbM.out))
      clear nm d0 d1 d2 c0 c1 c2 c3 c4 f3 f4 hbX hrX k0 hr' ht'
      by_cases h12 : x = 12
      · have HE1 := Lib.hid (HST.out h12)
        clear HST HGO
        subst h12
        gi_wp2
        have ht' := HT'.out
        rw [HN.out] at ht'
        have hfin : evG B k zs R B.num = evG B k zs R (i + 1) := HE.out (by show (evG B k zs R (i + 1)).1 = true; rw [HE1.out])
        rw [HE1.out] at hfin
        refine ⟨(ht'.undrew.mono fun k hk => .inl hk).trans (Turn.setCell _ (by exact .inr (.inl rfl)) _), rfl, ?_, by rw [hfin], cell_set_same _ _ _ _ _ d3, (HT.out.trans ht'.undrew).off (by have := HEQ.out; omega) _⟩
        rw [hfin]
        exact HR'.out.store (.inr (.inl rfl)) (by rw [Rk.wr_n]; exact HNM.out (p + 3) (by omega)) _
      · by_cases h11 : x = 11
        · have HE1 := Lib.hid (HGO.out h12)
          clear HST HGO
          subst h11
          gi_wp2
          have ht' := HT'.out
          rw [HN.out] at ht'
          have hne : ∀ j, j ≠ p + 4 → (⟨p + 4, 0, none⟩ : Addr) ≠ ⟨j, 0, none⟩ := fun j hj e => hj (by cases e; rfl)
          refine ⟨(ht'.undrew.mono fun k hk => .inl hk).trans (Turn.setCell _ (by exact .inr (.inr rfl)) _), by rw [HE1.out], ?_, HBK.out.turn (turn_set _ _ _ _) HBP.out, (World.cell?_setCell_other _ _ _ _ (hne p (by omega))).trans D0.out, (World.cell?_setCell_other _ _ _ _ (hne (p + 1) (by omega))).trans D1.out, (World.cell?_setCell_other _ _ _ _ (hne (p + 2) (by omega))).trans D2.out, (World.cell?_setCell_other _ _ _ _ (hne (p + 3) (by omega))).trans d3, ?_, by simpa using e3, by simpa using e4, ?_, (HT.out.trans ht'.undrew).off (by have := HEQ.out; omega) _⟩
          · rw [HE1.out]
            exact HR'.out.store (.inr (.inr rfl)) (by rw [Rk.wr_n]; exact HNM.out (p + 4) (by omega)) _
          · rw [HE1.out]
            exact cell_set_same _ _ _ _ _ d4
          · exact bys_turn2 (bys_turn2 HZ.out ht'.undrew HNZ.out) (turn_set _ _ _ _) HLOW.out
        · have HE1 := Lib.hid (HGO.out h12)
          have z1 : (x == 12) = false := by simpa using h12
          have z2 : (x == 11) = false := by simpa using h11
          have HN11 := Lib.hid h11
          clear HST HGO h12 h11
          gi_wp2
          have ht' := HT'.out
          rw [HN.out] at ht'
          refine ⟨ht'.undrew.mono fun k hk => .inl hk, by rw [HE1.out], by rw [HE1.out]; exact HR'.out, HBK.out, D0.out, D1.out, D2.out, d3, ?_, e3, e4, bys_turn2 HZ.out ht'.undrew HNZ.out, HT.out.trans ht'.undrew⟩
          rw [HE1.out, d4]
          show _ = some (Value.int .i64 (if _ then _ else _))
          rw [if_neg HN11.out]
    have hmx : Tryz.prog.follows .mixedOrders = true := by kernel_rfl
    have hfl := HFL.out
    clear HST HGO HE HN HT HZ HNM HbM HP
    gi_region_with_o (refine ⟨trivial, ?_⟩; gi_at_call 50; refine (CallsIn.inRound l (callsIn_wide.2 hfl)).mono ?_; rintro e w' ⟨rfl, hr', ht'⟩)
    all_goals exact hRest _ (by assumption) (by assumption)
  case done =>
    rintro D X hD h hK
    have c3 := h.c3
    have c4 := h.c4
    have f3 := h.f3
    have hT := h.tn
    have hrX := h.rk
    have hlt := World.block_lt_of_cell? X _ c4
    obtain ⟨v, hv⟩ : ∃ v, v = (evG B k zs R B.num).2.1 := ⟨_, rfl⟩
    rw [← hv] at c4
    have HV := Lib.hid hv
    clear h hv
    gi_wp2
    have hDn : D ≠ p + 3 := by omega
    have hK' := (Below.heap_setCell X ⟨p + 3, 0, none⟩ (.int .i64 v) D hDn).trans hK
    refine ⟨by simp, .inl ⟨_, _, rfl, run_takeDeferred hK', ?_⟩⟩
    have hA := aside_put hK' rfl (.deferred none)
    have c2 := hA.cell (cell_set_same X (p + 3) 0 (.int .i64 v) _ c3)
    have hr2 := hrX.store (b := p + 3) (i := 0) (.inr (.inl rfl)) (by rw [evG_n]; exact fun x => by have := HP.out _ x; omega) (.int .i64 v)
    have hr3 := (hr2.aside hA (fun x => by rw [evG_n] at x; have := HP.out _ x; omega)).narrow (M := M) (fun k hk => .inl hk) (by rw [evG_n]; exact hr.sub)
    refine ⟨.int .i64 v, ?_, by rw [HV.out], hr3, (hT.off (by have := HEQ.out; omega) _).put (by have := HEQ.out; omega) _⟩
    simp [results, Tryz.f30, go_sem, c2]
  case stop =>
    rintro D c X hD ⟨rfl, hrX, h12, c1, hT⟩ hK
    gi_wp2
    refine ⟨by simp, .inl ⟨_, _, rfl, run_takeDeferred hK, ?_⟩⟩
    have hA := aside_put hK rfl (.deferred none)
    have c2 := hA.cell c1
    have hr3 := (hrX.aside hA (fun x => by rw [evG_n] at x; have := HP.out _ x; omega)).narrow (M := M) (fun k hk => .inl hk) (by rw [evG_n]; exact hr.sub)
    refine ⟨.int .i64 12, ?_, by first | rfl | rw [h12], hr3, hT.put (by have := HEQ.out; omega) _⟩
    simp [results, Tryz.f30, go_sem, c2]

end Go.Proofs.YtoiidhpohghiaaaGreat
