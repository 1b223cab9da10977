/-
  The library's Contains of numbers, by contract.
-/
import Derived.Test.YtegmeoghonolcaaGreatDva
import Derived.Test.YtegmeoghonolcaaGreatRwa
set_option linter.unusedSimpArgs false
set_option linter.unusedVariables false
namespace Go.Proofs.YtegmeoghonolcaaGreat
open Go.RowKit
set_option linter.unusedVariables false

theorem index_any (a : Option Addr) (n c : Nat) (ks : List Int) (v : Int) (w : World) (h : Ins w a n ks) (hn : n ≤ 1000000000000) :
    Calls Tryz.prog 162 #[.slice a n c, .int .i64 v] w fun e w' => (∃ r : Int, e = .returned (.int .i64 r) ∧ (0 ≤ r ↔ v ∈ ks)) ∧ w = w' := by
  have HI := Lib.hid h
  have hl : Hid (ks.length = n) := h.1
  clear h
  go_enter Tryz.func162, Tryz.ntmps162
  go_wp2
  go_loop [5, 8] (fun _ i => ∃ k : Nat, k ≤ n ∧ i = .int .i64 k ∧ ∀ j, j < k → ks.getD j 0 ≠ v) (fun _ i => n - (RowKit.intOf i).toNat)
  case atStart => exact ⟨0, Nat.zero_le _, rfl, fun j hj => by omega⟩
  case round =>
    obtain ⟨k, hk, rfl, hno⟩ := hrel
    have HNO := Lib.hid hno
    clear hno
    by_cases hlt : k < n
    · obtain ⟨b, off, rfl, hc⟩ : ∃ b off, a = some ⟨b, off, none⟩ ∧ w.cell? ⟨b, off + k, none⟩ = some (.int .i64 (ks.getD k 0)) := by
        rcases HI.out.2 with h0 | ⟨b, off, e, _, hc⟩
        · omega
        · exact ⟨b, off, e, hc k hlt⟩
      obtain ⟨u, hu⟩ : ∃ u, u = ks.getD k 0 := ⟨_, rfl⟩
      rw [← hu] at hc
      have HU := Lib.hid hu
      clear hu
      by_cases hv : v = u
      · subst hv
        have hin : Hid (v ∈ ks) := by
          show _ ∈ _
          rw [HU.out]
          have : k < ks.length := by rw [hl.out]; exact hlt
          rw [show ks.getD k 0 = ks[k] by simp [List.getD, this]]
          exact List.getElem_mem this
        go_wp2
        go_ret
        exact ⟨⟨k, rfl, ⟨fun _ => hin.out, fun _ => by omega⟩⟩, rfl⟩
      · have hv0 : (v == u) = false := by simpa using hv
        have HV := Lib.hid hv
        clear hv
        go_wp2
        go_round
        case rel => exact ⟨k + 1, by omega, by go_num, fun j hj => by
          rcases Nat.lt_or_ge j k with h1 | h1
          · exact HNO.out j h1
          · obtain rfl : j = k := by omega
            rw [← HU.out]; exact fun e => HV.out e.symm⟩
        case measure => simp [RowKit.intOf]; omega
    · obtain rfl : k = n := by omega
      have hin : Hid (¬ v ∈ ks) := by
        intro hc
        obtain ⟨j, hj, e⟩ := List.mem_iff_getElem.1 hc
        refine HNO.out j (by rw [← hl.out]; exact hj) ?_
        simp [List.getD, hj, e]
      go_wp2
      go_ret
      exact ⟨⟨-1, rfl, ⟨fun h => by omega, fun h => absurd h hin.out⟩⟩, rfl⟩
theorem contains_any (a : Option Addr) (n c : Nat) (ks : List Int) (v : Int) (w : World) (h : Ins w a n ks) (hn : n ≤ 1000000000000) :
    Calls Tryz.prog 118 #[.slice a n c, .int .i64 v] w fun e w' => e = .returned (.bool (decide (v ∈ ks))) ∧ w = w' := by
  have hx := index_any a n c ks v w h hn
  clear h
  go_enter Tryz.func118, Tryz.ntmps118
  go_wp2_with (fail)
  refine hx.mono ?_
  rintro e w1 ⟨⟨r, rfl, hr⟩, rfl⟩
  have HR := Lib.hid hr
  clear hr hx
  go_wp2_with (fail)
  go_ret
  exact ⟨by rw [show decide (v ∈ ks) = decide (0 ≤ r) by rw [decide_eq_decide]; exact HR.out.symm]; simp, rfl⟩

end Go.Proofs.YtegmeoghonolcaaGreat

/-
  The stripe's Whole, by contract.
-/
namespace Go.Proofs.YtegmeoghonolcaaGreat
open Go.RowKit Go.Maps
set_option linter.unusedVariables false
attribute [local go_sem] Oper.semAt_some

/-- One sector more of a segment whose sectors have told u (0: none yet). -/
def whS (B : Bn) (R : Rk) (ks : List Int) (z i u : Int) : Option Int :=
  if i ∈ ks then some u else if ldO B R i z = false then none else
    if decN (brV B R i z) 0 4 = 0 ∨ (u ≠ 0 ∧ decN (brV B R i z) 0 4 ≠ u) then none else some (decN (brV B R i z) 0 4)
/-- .. the first c of a row, on the disks D .. -/
def whC (B : Bn) (R : Rk) (ks : List Int) (D : Nat → Int) (z u : Int) : Nat → Option Int
  | 0 => some u
  | c + 1 => (whC B R ks D z u c).bind (whS B R ks z (D c))
/-- .. the first a rows. -/
def whG (B : Bn) (R : Rk) (n : Nat) (g : Int) : Nat → Option Int
  | 0 => some 0
  | a + 1 => (whG B R n g a).bind fun u => whC B R (badL B R n) (rowD n (g * B.r + a)) (5 + (g * B.r + a)) u n
theorem whC_none {B : Bn} {R : Rk} {ks : List Int} {D : Nat → Int} {z u : Int} {c n : Nat} (h : c ≤ n) (hc : whC B R ks D z u c = none) : whC B R ks D z u n = none := by
  induction n with
  | zero => obtain rfl : c = 0 := by omega
            exact hc
  | succ n ih =>
    rcases Nat.lt_or_ge n c with h1 | h1
    · obtain rfl : c = n + 1 := by omega
      exact hc
    · rw [whC, ih h1]; rfl
theorem whG_none {B : Bn} {R : Rk} {g : Int} {a n m : Nat} (h : a ≤ m) (hc : whG B R n g a = none) : whG B R n g m = none := by
  induction m with
  | zero => obtain rfl : a = 0 := by omega
            exact hc
  | succ m ih =>
    rcases Nat.lt_or_ge m a with h1 | h1
    · obtain rfl : a = m + 1 := by omega
      exact hc
    · rw [whG, ih h1]; rfl
/-- What Whole answers. -/
noncomputable def whR (B : Bn) (R : Rk) (n m : Nat) (g : Int) : Option Int := if chkE R (segO B g) = 0 then (if twoB B R n then none else whG B R n g m) else none
theorem three_set {p1 p2 p3 : Nat} {w W : World} {v1 v2 v3 : Value} (u1 u2 u3 : Value) (n12 : p1 ≠ p2) (n13 : p1 ≠ p3) (n23 : p2 ≠ p3) (k1 : Cel p1 v1 W) (k2 : Cel p2 v2 W) (k3 : Cel p3 v3 W) (hb : Below w.heap.size w W) (l1 : w.heap.size ≤ p1) (l2 : w.heap.size ≤ p2) (l3 : w.heap.size ≤ p3) :
    (Cel p2 v2 (W.setCell ⟨p1, 0, none⟩ u1) ∧ Cel p3 v3 (W.setCell ⟨p1, 0, none⟩ u1) ∧ Cel p3 v3 ((W.setCell ⟨p1, 0, none⟩ u1).setCell ⟨p2, 0, none⟩ u2)) ∧
    (Cel p1 u1 (((W.setCell ⟨p1, 0, none⟩ u1).setCell ⟨p2, 0, none⟩ u2).setCell ⟨p3, 0, none⟩ u3) ∧ Cel p2 u2 (((W.setCell ⟨p1, 0, none⟩ u1).setCell ⟨p2, 0, none⟩ u2).setCell ⟨p3, 0, none⟩ u3) ∧ Cel p3 u3 (((W.setCell ⟨p1, 0, none⟩ u1).setCell ⟨p2, 0, none⟩ u2).setCell ⟨p3, 0, none⟩ u3) ∧
      Below w.heap.size w (((W.setCell ⟨p1, 0, none⟩ u1).setCell ⟨p2, 0, none⟩ u2).setCell ⟨p3, 0, none⟩ u3)) :=
  ⟨⟨k2.off u1 n12, k3.off u1 n13, (k3.off u1 n13).off u2 n23⟩, ((k1.set u1).off u2 n12.symm).off u3 n13.symm, ((k2.off u1 n12).set u2).off u3 n23.symm, ((k3.off u1 n13).off u2 n23).set u3,
    ((hb.setCell (p := ⟨p1, 0, none⟩) l1 _).setCell (p := ⟨p2, 0, none⟩) l2 _).setCell (p := ⟨p3, 0, none⟩) l3 _⟩
/-- Between two sectors of Whole. -/
structure WhI (w : World) (M : Nat → Prop) (L : Lay) (R : Rk) (b : Nat) (B : Bn) (xg xs n : Nat) (g : Int) (C p0 p1 p2 p3 p8 p9 : Nat) (ka : Option Addr) (kn kc : Nat) (ks : List Int) (u : Int) (X : World) : Prop where
  rk : RackAt X (also M (· = p9)) L R
  bn : BnAt X b L.p B
  bx : Bgs xg xs n B.r B.s g C X
  k0 : Cel p0 (.pointer (some ⟨b, 0, none⟩)) X
  k1 : Cel p1 (.int .i64 0) X
  k2 : Cel p2 (.bool false) X
  k3 : Cel p3 (.int .i64 0) X
  k8 : Cel p8 (.slice ka kn kc) X
  k9 : Cel p9 (.int .i64 u) X
  ins : Ins X ka kn ks
  bel : Below w.heap.size w X
section
variable {w : World} {M : Nat → Prop} {L : Lay} {R : Rk} {b : Nat} {B : Bn} {xg xs n : Nat} {g : Int} {C p0 p1 p2 p3 p8 p9 : Nat} {ka : Option Addr} {kn kc : Nat} {ks : List Int} {u : Int} {X X' : World}
theorem Ins.next {a : Option Addr} {n : Nat} {ks : List Int} (h : Ins X a n ks) (hb : Below X.heap.size X X') : Ins X' a n ks := ins_turn' (M := fun _ => False) h (Turn.of_below hb) (.inr fun _ _ _ x => x)
theorem Ins.aside {l : Nat} {a : Option Addr} {n : Nat} {ks : List Int} (h : Ins X a n ks) (ha : Aside l X X') : Ins X' a n ks := by
  refine ⟨h.1, ?_⟩
  rcases h.2 with h0 | ⟨b, off, e, hlt, hc⟩
  · exact .inl h0
  · exact .inr ⟨b, off, e, Nat.lt_of_lt_of_le hlt ha.turn.size, fun i hi => ha.cell (hc i hi)⟩
theorem WhI.next (h : WhI w M L R b B xg xs n g C p0 p1 p2 p3 p8 p9 ka kn kc ks u X) (hb : Below X.heap.size X X') : WhI w M L R b B xg xs n g C p0 p1 p2 p3 p8 p9 ka kn kc ks u X' :=
  ⟨h.rk.below hb, h.bn.next hb, h.bx.next hb, h.k0.next hb, h.k1.next hb, h.k2.next hb, h.k3.next hb, h.k8.next hb, h.k9.next hb, h.ins.next hb, h.bel.trans (hb.mono h.bel.size)⟩
theorem WhI.abides {K : Nat} (hK : ∀ k, L.M R.n k → k < K) (hw : w.heap.size ≤ K) : Abides K (WhI w M L R b B xg xs n g C p0 p1 p2 p3 p8 p9 ka kn kc ks u) :=
  ⟨fun X X' h hb => h.next hb, fun l X X' hl h ha => ⟨h.rk.aside ha (fun x => by have := hK l x; omega), h.bn.aside ha, h.bx.aside ha, h.k0.aside ha, h.k1.aside ha, h.k2.aside ha, h.k3.aside ha, h.k8.aside ha, h.k9.aside ha, h.ins.aside ha, (below_abides hw).aside l _ _ hl h.bel ha⟩⟩
theorem WhI.put (h : WhI w M L R b B xg xs n g C p0 p1 p2 p3 p8 p9 ka kn kc ks u X) (u' : Int) (hM : ¬ L.M R.n p9) (hb : b ≠ p9) (hg : xg ≠ p9) (hs : xs ≠ p9) (h0 : p0 ≠ p9) (h1 : p1 ≠ p9) (h2 : p2 ≠ p9) (h3 : p3 ≠ p9) (h8 : p8 ≠ p9) (hk : kn = 0 ∨ ∀ b off, ka = some ⟨b, off, none⟩ → b ≠ p9) (hw : w.heap.size ≤ p9) :
    WhI w M L R b B xg xs n g C p0 p1 p2 p3 p8 p9 ka kn kc ks u' (X.setCell ⟨p9, 0, none⟩ (.int .i64 u')) :=
  ⟨h.rk.store (.inr rfl) hM _, h.bn.turn (turn_set _ _ _ _) hb, h.bx.turn (turn_set _ _ _ _) hg hs, h.k0.off _ h0.symm, h.k1.off _ h1.symm, h.k2.off _ h2.symm, h.k3.off _ h3.symm, h.k8.off _ h8.symm, h.k9.set _, ins_turn' h.ins (turn_set _ p9 0 _) hk, h.bel.setCell (p := ⟨p9, 0, none⟩) hw _⟩
end
section
variable {M : Nat → Prop} {L : Lay} {R : Rk} {w : World} {b : Nat} {B : Bn}
set_option maxRecDepth 100000 in
set_option maxHeartbeats 8000000 in
theorem sWhole_any {n m : Nat} (g : Int) (hr : RackAt w M L R) (hb : BnAt w b L.p B) (hd : B.d = (n : Int)) (hn : n ≤ 16) (hm : B.r = (m : Int)) :
    Calls Tryz.prog 80 #[.pointer (some ⟨b, 0, none⟩), .int .i64 g] w fun e w' => e = .returned (.tuple #[.int .i64 ((whR B R n m g).getD 0), .bool (whR B R n m g).isSome, .int .i64 (chkE R (segO B g))]) ∧ Below w.heap.size w w' := by
  have HR := Lib.hid hr
  have HB := Lib.hid hb
  obtain ⟨vv, hvv⟩ : ∃ v, v = whR B R n m g := ⟨_, rfl⟩
  obtain ⟨c, hc⟩ : ∃ c, c = chkE R (segO B g) := ⟨_, rfl⟩
  rw [← hvv, ← hc]
  unfold whR at hvv
  rw [← hc] at hvv
  have HV := Lib.hid hvv
  have HC := Lib.hid hc
  clear hvv
  refine (callsIn_wide (n := 3)).1 ?_
  refine callsIn_of_wp_marks Tryz.func80 rfl trivial ?_ rfl
  simp only [Tryz.ntmps80, List.size_toArray, List.length_cons, List.length_nil, Nat.reduceAdd, Nat.reduceSub, Array.replicate_succ, Array.replicate_zero, List.push_toArray, List.append_toArray, List.nil_append, List.cons_append]
  refine wpIn_wide.2 (wp_calm ?_)
  obtain ⟨W1, hW1⟩ : ∃ W1, W1 = w.alloc (.cells #[.pointer (some ⟨b, 0, none⟩)] 44) := ⟨_, rfl⟩
  obtain ⟨W2, hW2⟩ : ∃ W2, W2 = W1.alloc (.cells #[.int .i64 0] 3) := ⟨_, rfl⟩
  obtain ⟨W3, hW3⟩ : ∃ W3, W3 = W2.alloc (.cells #[.bool false] 4) := ⟨_, rfl⟩
  obtain ⟨W4, hW4⟩ : ∃ W4, W4 = W3.alloc (.cells #[.int .i64 0] 28) := ⟨_, rfl⟩
  obtain ⟨p0, hp0⟩ : ∃ p, p = w.heap.size := ⟨_, rfl⟩
  obtain ⟨p1, hp1⟩ : ∃ p, p = p0 + 1 := ⟨_, rfl⟩
  obtain ⟨p2, hp2⟩ : ∃ p, p = p1 + 1 := ⟨_, rfl⟩
  obtain ⟨p3, hp3⟩ : ∃ p, p = p2 + 1 := ⟨_, rfl⟩
  have e1 : W1.heap.size = p1 := by rw [hW1, hp1, hp0]; simp
  have e2 : W2.heap.size = p2 := by rw [hW2, hp2, ← e1]; simp
  have e3 : W3.heap.size = p3 := by rw [hW3, hp3, ← e2]; simp
  have b4 : Below W3.heap.size W3 W4 := by rw [hW4]; exact (Below.refl _ _).alloc (Nat.le_refl _) _
  have b3 : Below W2.heap.size W2 W4 := by
    have : Below W2.heap.size W2 W3 := by rw [hW3]; exact (Below.refl _ _).alloc (Nat.le_refl _) _
    exact this.trans (b4.mono this.size)
  have b2 : Below W1.heap.size W1 W4 := by
    have : Below W1.heap.size W1 W2 := by rw [hW2]; exact (Below.refl _ _).alloc (Nat.le_refl _) _
    exact this.trans (b3.mono this.size)
  have b1 : Below w.heap.size w W4 := by
    have : Below w.heap.size w W1 := by rw [hW1]; exact (Below.refl _ _).alloc (Nat.le_refl _) _
    exact this.trans (b2.mono this.size)
  have k0 : Cel p0 (.pointer (some ⟨b, 0, none⟩)) W4 := by rw [hp0]; exact (Cel.new hW1).next b2
  have k1 : Cel p1 (.int .i64 0) W4 := by rw [← e1]; exact (Cel.new hW2).next b3
  have k2 : Cel p2 (.bool false) W4 := by rw [← e2]; exact (Cel.new hW3).next b4
  have k3 : Cel p3 (.int .i64 0) W4 := by rw [← e3]; exact Cel.new hW4
  have hsg := shasSeg_any g (hb.next b1).drew
  have c0 := k0.1
  have HP : Hid (p0 = w.heap.size ∧ p1 = p0 + 1 ∧ p2 = p1 + 1 ∧ p3 = p2 + 1) := ⟨hp0, hp1, hp2, hp3⟩
  have HB1 := Lib.hid b1
  have K0 := Lib.hid k0
  have K1 := Lib.hid k1
  have K2 := Lib.hid k2
  have K3 := Lib.hid k3
  have hlt0 := k0.lt
  clear k0 k1 k2 k3 b4 b3 b2 hr hb
  go_wp2_with (fail)
  rw [← hW1, ← hW2, ← hW3, ← hW4, ← hp0, ← hp1, ← hp2, ← hp3]
  clear hW1 hW2 hW3 hW4 hp0 hp1 hp2 hp3 e1 e2 e3 b1
  refine wp_region_held_drew (S := fun w' => w'.cell? ⟨p0, 0, none⟩ = some (.pointer (some ⟨b, 0, none⟩))) (by kernel_rfl) ?_ (fun hHeld => ?_)
  · exact c0
  refine rgY 0 ?_ rfl (by kernel_rfl) (fun _ _ _ h => h) (.inl ⟨by rfl, fun w hSw => ?_⟩) (by assumption) ?_
  rotate_left
  · (try dsimp only at hSw); go_simp; try with_reducible rfl
  simp only [Act.put, rg1, rg2, rg3, rg4, rg6]
  refine rgY 1 ?_ rfl (by kernel_rfl) (fun _ _ _ h => h) (.inl ⟨by rfl, fun w hSw => ?_⟩) (by assumption) ?_
  rotate_left
  · (try dsimp only at hSw); go_simp; try with_reducible rfl
  simp only [Act.put, rg1, rg2, rg3, rg4, rg5, rg6]
  refine rgY 2 ?_ rfl (by kernel_rfl) (fun _ _ _ h => h) (.inl ⟨by rfl, fun w hSw => ?_⟩) (by assumption) ?_
  rotate_left
  · (try dsimp only at hSw); go_simp; try with_reducible rfl
  simp only [Act.put, rg1, rg2, rg3, rg4, rg5, rg6]
  refine wpAnyH_ready (rs := [3]) (by kernel_rfl) (by simp) ?_
  refine AllReadyH.cons rfl (fun K hK => ?_) AllReadyH.nil
  simp only [List.getElem_toArray, List.getElem_cons_succ, List.getElem_cons_zero]
  go_simp
  refine hsg.mono ?_
  rintro e W5 ⟨rfl, b5⟩
  have b5 := undrew b5
  have c0' := (b5.cell (p := ⟨p0, 0, none⟩) hlt0).trans c0
  have hck := check_any (segO B g) (HR.out.below (HB1.out.trans (b5.mono HB1.out.size))) (HB.out.next (HB1.out.trans (b5.mono HB1.out.size)))
  have HB5 := Lib.hid b5
  rw [← hc] at hck
  clear hsg b5 hc
  go_wp2_with (fail)
  refine hK.out _ _ c0' (fun hHeld => ?_)
  clear hK K
  refine wpAnyH_ready (rs := [4]) (by kernel_rfl) (by simp) ?_
  refine AllReadyH.cons rfl (fun K hK => ?_) AllReadyH.nil
  simp only [List.getElem_toArray, List.getElem_cons_succ, List.getElem_cons_zero]
  go_simp
  refine hck.mono ?_
  rintro e W6 ⟨rfl, rfl⟩
  go_wp2_with (fail)
  refine hK.out _ _ c0' (fun hHeld => ?_)
  clear hK K hck
  refine rgY 5 ?_ rfl (by kernel_rfl) (fun _ _ _ h => h) (.inl ⟨by rfl, fun w hSw => ?_⟩) (by assumption) ?_
  rotate_left
  · (try dsimp only at hSw); go_simp; try with_reducible rfl
  simp only [Act.put, rg1, rg2, rg3, rg4, rg5, rg6]
  refine wpAnyH_done (by kernel_rfl) ?_ _
  have K0' := Lib.hid (K0.out.next HB5.out)
  have K1' := Lib.hid (K1.out.next HB5.out)
  have K2' := Lib.hid (K2.out.next HB5.out)
  have K3' := Lib.hid (K3.out.next HB5.out)
  have HB6 := Lib.hid (HB1.out.trans (HB5.out.mono HB1.out.size))
  have HPL : Hid (p1 ≠ p2 ∧ p1 ≠ p3 ∧ p2 ≠ p3 ∧ w.heap.size ≤ p1 ∧ w.heap.size ≤ p2 ∧ w.heap.size ≤ p3) := by have := HP.out; exact ⟨by omega, by omega, by omega, by omega, by omega, by omega⟩
  clear hHeld K0 K1 K2 K3 HB1 HB5 c0 c0' hlt0
  by_cases h0 : c = 0
  · subst h0
    have hSg := segO_yes (chk_zero HC.out)
    have hby := beyond_any (HR.out.below HB6.out) (HB.out.next HB6.out) hd hn
    have c0 := K0'.out.1
    cases hbe : twoB B R n with
    | true =>
      have hV : Hid (vv = none) := by show _ = _; rw [HV.out, if_pos rfl, if_pos hbe]
      rw [hbe] at hby
      have HT : Hid (∀ W', Below W6.heap.size W6 W' → (Cel p1 (.int .i64 0) W' ∧ Cel p2 (.bool false) W' ∧ Cel p3 (.int .i64 0) W') ∧ ((Cel p2 (.bool false) (W'.setCell ⟨p1, 0, none⟩ (.int .i64 0)) ∧ Cel p3 (.int .i64 0) (W'.setCell ⟨p1, 0, none⟩ (.int .i64 0)) ∧ Cel p3 (.int .i64 0) ((W'.setCell ⟨p1, 0, none⟩ (.int .i64 0)).setCell ⟨p2, 0, none⟩ (.bool false))) ∧
          (Cel p1 (.int .i64 0) (((W'.setCell ⟨p1, 0, none⟩ (.int .i64 0)).setCell ⟨p2, 0, none⟩ (.bool false)).setCell ⟨p3, 0, none⟩ (.int .i64 0)) ∧ Cel p2 (.bool false) (((W'.setCell ⟨p1, 0, none⟩ (.int .i64 0)).setCell ⟨p2, 0, none⟩ (.bool false)).setCell ⟨p3, 0, none⟩ (.int .i64 0)) ∧ Cel p3 (.int .i64 0) (((W'.setCell ⟨p1, 0, none⟩ (.int .i64 0)).setCell ⟨p2, 0, none⟩ (.bool false)).setCell ⟨p3, 0, none⟩ (.int .i64 0)) ∧
            Below w.heap.size w (((W'.setCell ⟨p1, 0, none⟩ (.int .i64 0)).setCell ⟨p2, 0, none⟩ (.bool false)).setCell ⟨p3, 0, none⟩ (.int .i64 0))))) := fun W' b' =>
        ⟨⟨K1'.out.next b', K2'.out.next b', K3'.out.next b'⟩, three_set (.int .i64 0) (.bool false) (.int .i64 0) HPL.out.1 HPL.out.2.1 HPL.out.2.2.1 (K1'.out.next b') (K2'.out.next b') (K3'.out.next b') (HB6.out.trans (b'.mono HB6.out.size)) HPL.out.2.2.2.1 HPL.out.2.2.2.2.1 HPL.out.2.2.2.2.2⟩
      clear hbe
      go_wp2_with (go_at_call 53; refine hby.mono ?_; clear hby; rintro e W7 ⟨rfl, b7⟩; obtain ⟨⟨⟨c1, f1⟩, ⟨c2, f2⟩, ⟨c3, f3⟩⟩, ⟨⟨c2', f2'⟩, ⟨c3', f3'⟩, ⟨c3'', f3''⟩⟩, hF⟩ := HT.out W7 b7; have HF := Lib.hid hF; clear hF b7 HT)
      rw [hV.out]
      have r1 := HF.out.1.1
      have r2 := HF.out.2.1.1
      have r3 := HF.out.2.2.1.1
      refine ⟨.tuple #[.int .i64 0, .bool false, .int .i64 0], ?_, rfl, HF.out.2.2.2⟩
      simp [results, Tryz.f80, go_sem, r1, r2, r3]
    | false =>
      have hV : Hid (vv = whG B R n g m) := by show _ = _; rw [HV.out, if_pos rfl, if_neg (by rw [hbe]; simp)]
      rw [hbe] at hby
      clear hbe
      have HD := Lib.hid hd
      have HM := Lib.hid hm
      have HSg := Lib.hid hSg
      clear hd hm hSg
      go_wp2_with (fail)
      refine hby.mono ?_
      rintro e W7 ⟨rfl, b7⟩
      have HB7 := Lib.hid (HB6.out.trans (b7.mono HB6.out.size))
      have K0 := Lib.hid (K0'.out.next b7)
      have K1 := Lib.hid (K1'.out.next b7)
      have K2 := Lib.hid (K2'.out.next b7)
      have K3 := Lib.hid (K3'.out.next b7)
      have hbad := bad_any M L R W7 b n B (HR.out.below HB7.out) (HB.out.next HB7.out) HD.out hn
      have c0' := K0.out.1
      clear hby b7 K0' K1' K2' K3' HB6 c0
      go_wp2_with (fail)
      refine hbad.mono ?_
      rintro e W8 ⟨v8, rfl, ho8, b8⟩
      obtain ⟨ka, kc, rfl, hins, hknc, hkc, hkb⟩ := ho8.ins
      obtain ⟨kn, hkn⟩ : ∃ k, k = (badL B R n).length := ⟨_, rfl⟩
      rw [← hkn] at hins hknc ⊢
      have hkn16 : kn ≤ 16 := by rw [hkn]; exact Nat.le_trans (badL_len B R n) hn
      obtain ⟨W9, hW9⟩ : ∃ W9, W9 = W8.alloc (.cells #[.slice ka kn kc] 36) := ⟨_, rfl⟩
      obtain ⟨W10, hW10⟩ : ∃ W10, W10 = W9.alloc (.cells #[.int .i64 0] 3) := ⟨_, rfl⟩
      obtain ⟨p8, hp8⟩ : ∃ p, p = W8.heap.size := ⟨_, rfl⟩
      obtain ⟨p9, hp9⟩ : ∃ p, p = p8 + 1 := ⟨_, rfl⟩
      have e9 : W9.heap.size = p9 := by rw [hW9, hp9, hp8]; simp
      have b10 : Below W9.heap.size W9 W10 := by rw [hW10]; exact (Below.refl _ _).alloc (Nat.le_refl _) _
      have b9 : Below W8.heap.size W8 W10 := by
        have : Below W8.heap.size W8 W9 := by rw [hW9]; exact (Below.refl _ _).alloc (Nat.le_refl _) _
        exact this.trans (b10.mono this.size)
      have k8 : Cel p8 (.slice ka kn kc) W10 := by rw [hp8]; exact (Cel.new hW9).next b10
      have k9 : Cel p9 (.int .i64 0) W10 := by rw [← e9]; exact Cel.new hW10
      have b710 : Below W7.heap.size W7 W10 := b8.trans (b9.mono b8.size)
      have HB10 := Lib.hid (HB7.out.trans (b710.mono HB7.out.size))
      have K0' := Lib.hid (K0.out.next b710)
      have K1' := Lib.hid (K1.out.next b710)
      have K2' := Lib.hid (K2.out.next b710)
      have K3' := Lib.hid (K3.out.next b710)
      have K8 := Lib.hid k8
      have K9 := Lib.hid k9
      have HINS := Lib.hid (hins.next b9)
      have HKB : Hid (kn = 0 ∨ ∀ b off, ka = some ⟨b, off, none⟩ → b ≠ p9) := .inr fun b' off e => by have := (hkb _ e).2; simp only at this; omega
      have HP8 : Hid (p3 < p8 ∧ p9 = p8 + 1 ∧ b ≠ p9 ∧ w.heap.size ≤ p9) := by
        have h3 := K3.out.lt
        have h4 := b8.size
        have h5 := (HB.out).lt
        have h6 := HP.out
        exact ⟨by omega, hp9, by omega, by omega⟩
      have hge := geo_any (HB.out.next HB10.out)
      rw [HD.out, HM.out] at hge
      have c0 : ((W8.alloc (.cells #[.slice ka kn kc] 36)).alloc (.cells #[.int .i64 0] 3)).cell? ⟨p0, 0, none⟩ = some (.pointer (some ⟨b, 0, none⟩)) := by rw [← hW9, ← hW10]; exact K0'.out.1
      have HKN := Lib.hid hkn
      clear hkn hbad ho8 hins hkb k8 k9 b10 b9 b8 b710 K0 K1 K2 K3 HB7 c0'
      go_wp2_with (fail)
      rw [← hW9, ← hW10, ← hp8, ← hp9]
      clear hW9 hW10 hp8 hp9 e9 c0
      refine hge.mono ?_
      rintro e W11 ⟨rfl, b11⟩
      go_wp2_with (fail)
      refine (rows_any n m B.s g W11).mono ?_
      rintro e W12 ⟨xg, xs, rfl, hbx, hxg, hxs, b12⟩
      have b102 := b11.trans (b12.mono b11.size)
      have HB12 := Lib.hid (HB10.out.trans (b102.mono HB10.out.size))
      have hMlow : Hid (∀ k, L.M R.n k → k < w.heap.size) := fun k hk => HR.out.low k (HR.out.sub k hk)
      have hI0 : WhI w M L R b B xg xs n g W11.heap.size p0 p1 p2 p3 p8 p9 ka kn kc (badL B R n) 0 W12 :=
        ⟨HR.out.also HB12.out (fun k e => by subst e; have := HP8.out; have := (K9.out.next b102).lt; exact ⟨by omega, by omega⟩), HB.out.next HB12.out, by rw [HM.out]; exact hbx, K0'.out.next b102, K1'.out.next b102, K2'.out.next b102, K3'.out.next b102, K8.out.next b102, K9.out.next b102, by rw [HKN.out] at HINS ⊢; exact HINS.out.next b102, HB12.out⟩
      have HI0 := Lib.hid hI0
      have HXL : Hid (p9 < xg ∧ p9 < xs ∧ p9 < W11.heap.size) := by have := K9.out.lt; have := b11.size; exact ⟨by omega, by omega, by omega⟩
      have hsz12 := HB12.out.size
      clear hge b11 b12 b102 hbx hxg hxs hI0 HINS K0' K1' K2' K3' K8 K9
      go_wp2_with (fail)
      refine (wpIn_wide (n := 3)).1 ?_
      refine wp_over2 (N := fun k => k = p1 ∨ k = p2 ∨ k = p3 ∨ k = p9) rfl (enters_of Tryz.func102 (by kernel_rfl) rfl) (rows_rounds xg xs n W11.heap.size m B.r B.s g (by rw [← HD.out]; exact HSg.out) HM.out) rfl
        (fun a X => ∃ u, whG B R n g a = some u ∧ WhI w M L R b B xg xs n g W11.heap.size p0 p1 p2 p3 p8 p9 ka kn kc (badL B R n) u X)
        (fun c X => c = .ret ∧ whG B R n g m = none ∧ Cel p1 (.int .i64 0) X ∧ Cel p2 (.bool false) X ∧ Cel p3 (.int .i64 0) X ∧ Below w.heap.size w X)
        (fun a a' X => ∃ v, RowAt X W11.heap.size v n (rowD n (g * B.r + a)) (5 + (g * B.r + a)) ∧ a' = { tmps := #[.pointer (some ⟨b, 0, none⟩), .int .i64 g, .pointer (some ⟨p0, 0, none⟩), undef, .pointer (some ⟨p1, 0, none⟩), .pointer (some ⟨p2, 0, none⟩), .pointer (some ⟨p3, 0, none⟩), .int .i64 0, .pointer (some ⟨p8, 0, none⟩), .pointer (some ⟨p9, 0, none⟩), v, undef, undef, undef, undef, undef, .pointer (some ⟨b, 0, none⟩), .pointer (some ⟨b, 0, none⟩), .int .i64 g, .bool (segO B g), .int .i64 0, .int .i64 0, .bool false, undef, .pointer (some ⟨b, 0, none⟩), .bool false, .pointer (some ⟨b, 0, none⟩), .slice ka kn kc, .pointer (some ⟨b, 0, none⟩), gv n m B.s, .int .i64 g, .func (.func 102) #[] #[.pointer (some ⟨xg, 0, none⟩), .pointer (some ⟨xs, 0, none⟩)], v, undef, undef, undef, undef, undef, undef, undef, undef, undef, undef, undef, undef, undef, undef, undef, undef, undef, undef, undef, undef, undef, undef, undef, undef, undef, undef, undef, undef, undef, undef, undef, undef, undef, undef, undef], defers := [] })
        (fun a X h => by obtain ⟨u, _, h⟩ := h; exact h.bx) ?hI ?hIx ?hAx ?hN ?h0 ?assign (fun a X ha hs _ => by cases hs) ?body ?done ?stop
      case hI => exact fun a => Abides.ex fun u => (Abides.pure _ _).and (WhI.abides (fun k hk => by have := hMlow.out k hk; omega) hsz12)
      case hIx => exact fun c => (Abides.pure _ _).and ((Abides.pure _ _).and ((Cel.abides _ _ _).and ((Cel.abides _ _ _).and ((Cel.abides _ _ _).and (below_abides hsz12)))))
      case hAx => exact fun a a' => Abides.ex fun v => (RowAt.abides _).and (Abides.pure _ _)
      case hN =>
        rintro k (rfl | rfl | rfl | rfl)
        · exact HI0.out.k1.lt
        · exact HI0.out.k2.lt
        · exact HI0.out.k3.lt
        · exact HI0.out.k9.lt
      case h0 => exact ⟨0, rfl, HI0.out⟩
      case assign =>
        intro l2 a v X K ha hle hI hD hK
        gi_wp2
        exact hK _ _ (Below.refl _ _) ⟨v, hD, rfl⟩
      case body =>
        rintro l2 a a' X ha _ hle ⟨u0, hu0, hI⟩ ⟨v, hrow, rfl⟩
        obtain ⟨D, hD⟩ : ∃ D, D = rowD n (g * B.r + a) := ⟨_, rfl⟩
        obtain ⟨z, hz⟩ : ∃ z, z = 5 + (g * B.r + (a : Int)) := ⟨_, rfl⟩
        have hwg : whG B R n g (a + 1) = whC B R (badL B R n) D z u0 n := by rw [whG, hu0, hD, hz]; rfl
        rw [← hD, ← hz] at hrow
        obtain ⟨gr, cr, rfl, _⟩ := hrow.val
        have HWG := Lib.hid hwg
        have HROW := Lib.hid hrow
        have HIX := Lib.hid hI
        have HU0 := Lib.hid hu0
        clear hD hz hwg hrow hI hu0
        gi_wp2
        gi_loopw [12, 13, 14, 15, 35] (fun _p _q _r _s i wr => ∃ (k : Nat) (u : Int), k ≤ n ∧ i = .int .i64 k ∧ whC B R (badL B R n) D z u0 k = some u ∧ WhI w M L R b B xg xs n g W11.heap.size p0 p1 p2 p3 p8 p9 ka kn kc (badL B R n) u wr ∧ RowAt wr W11.heap.size (.slice (some ⟨gr, 0, none⟩) n cr) n D z ∧ Turn (· = p9) X wr) (fun _ _ _ _ i _ => n - (RowKit.intOf i).toNat)
        case atStart => exact ⟨0, u0, Nat.zero_le _, rfl, rfl, HIX.out, HROW.out, Turn.refl _ _⟩
        case round =>
          obtain ⟨k, u, hk, rfl, hwc, hI, hrow, htn⟩ := hrel
          have HI := Lib.hid hI
          have HRW := Lib.hid hrow
          have HTN := Lib.hid htn
          have HWC := Lib.hid hwc
          clear hwc hI hrow htn
          by_cases hlt : k < n
          · obtain ⟨x, hx⟩ : ∃ x, x = D k := ⟨_, rfl⟩
            obtain ⟨g', c', e', hg1, hg2, hg3, hg4, hg5⟩ := HRW.out.val
            cases e'
            have r0 := (hg5 k hlt).1
            have r1 := (hg5 k hlt).2
            rw [← hx, Nat.mul_comm] at r0
            rw [Nat.mul_comm] at r1
            obtain ⟨Ws, hWs⟩ : ∃ Ws, Ws = wr.alloc (.cells #[.int .i64 x, .int .i64 z] 150 (0, 0)) := ⟨_, rfl⟩
            have hbs : Below wr.heap.size wr Ws := by rw [hWs]; exact (Below.refl _ _).alloc (Nat.le_refl _) _
            have hIs := HI.out.next hbs
            have hct := contains_any ka kn kc (badL B R n) x Ws hIs.ins (by omega)
            have hld := sload_any x z hIs.rk hIs.bn
            rw [hWs] at hct hld
            have c8 : (wr.alloc (.cells #[.int .i64 x, .int .i64 z] 150 (0, 0))).cell? ⟨p8, 0, none⟩ = some (.slice ka kn kc) := by rw [← hWs]; exact hIs.k8.1
            have c0 : (wr.alloc (.cells #[.int .i64 x, .int .i64 z] 150 (0, 0))).cell? ⟨p0, 0, none⟩ = some (.pointer (some ⟨b, 0, none⟩)) := by rw [← hWs]; exact hIs.k0.1
            rw [hWs] at hIs hbs
            have HIs := Lib.hid hIs
            have HBs := Lib.hid hbs
            have HSC : Hid (∀ o, whS B R (badL B R n) z (D k) u = o → (some u).bind (whS B R (badL B R n) z (D k)) = o) := fun o h => h
            rw [← hx] at HSC
            have HX := Lib.hid hx
            have HPU : Hid (¬ L.M R.n p9 ∧ b ≠ p9 ∧ xg ≠ p9 ∧ xs ≠ p9 ∧ p0 ≠ p9 ∧ p1 ≠ p9 ∧ p2 ≠ p9 ∧ p3 ≠ p9 ∧ p8 ≠ p9 ∧ w.heap.size ≤ p9) := by
              have h1 := HP8.out
              have h2 := HP.out
              have h3 := HXL.out
              exact ⟨fun x => by have := hMlow.out _ x; omega, h1.2.2.1, by omega, by omega, by omega, by omega, by omega, by omega, by omega, h1.2.2.2⟩
            have HT : Hid (∀ W', Below (wr.alloc (.cells #[.int .i64 x, .int .i64 z] 150 (0, 0))).heap.size (wr.alloc (.cells #[.int .i64 x, .int .i64 z] 150 (0, 0))) W' → (Cel p1 (.int .i64 0) W' ∧ Cel p2 (.bool false) W' ∧ Cel p3 (.int .i64 0) W') ∧ ((Cel p2 (.bool false) (W'.setCell ⟨p1, 0, none⟩ (.int .i64 0)) ∧ Cel p3 (.int .i64 0) (W'.setCell ⟨p1, 0, none⟩ (.int .i64 0)) ∧ Cel p3 (.int .i64 0) ((W'.setCell ⟨p1, 0, none⟩ (.int .i64 0)).setCell ⟨p2, 0, none⟩ (.bool false))) ∧
                (Cel p1 (.int .i64 0) (((W'.setCell ⟨p1, 0, none⟩ (.int .i64 0)).setCell ⟨p2, 0, none⟩ (.bool false)).setCell ⟨p3, 0, none⟩ (.int .i64 0)) ∧ Cel p2 (.bool false) (((W'.setCell ⟨p1, 0, none⟩ (.int .i64 0)).setCell ⟨p2, 0, none⟩ (.bool false)).setCell ⟨p3, 0, none⟩ (.int .i64 0)) ∧ Cel p3 (.int .i64 0) (((W'.setCell ⟨p1, 0, none⟩ (.int .i64 0)).setCell ⟨p2, 0, none⟩ (.bool false)).setCell ⟨p3, 0, none⟩ (.int .i64 0)) ∧
                  Below w.heap.size w (((W'.setCell ⟨p1, 0, none⟩ (.int .i64 0)).setCell ⟨p2, 0, none⟩ (.bool false)).setCell ⟨p3, 0, none⟩ (.int .i64 0))))) := fun W' b' => by
              have hi := HIs.out.next b'
              exact ⟨⟨hi.k1, hi.k2, hi.k3⟩, three_set (.int .i64 0) (.bool false) (.int .i64 0) HPL.out.1 HPL.out.2.1 HPL.out.2.2.1 hi.k1 hi.k2 hi.k3 hi.bel HPL.out.2.2.2.1 HPL.out.2.2.2.2.1 HPL.out.2.2.2.2.2⟩
            obtain ⟨sq, hsq⟩ : ∃ sq, sq = decN (brV B R x z) 0 4 := ⟨_, rfl⟩
            rw [← hsq] at hld
            have HSQ := Lib.hid hsq
            clear hWs hbs hIs hg1 hg2 hg5 hx hsq
            by_cases hin : x ∈ badL B R n
            · have hst : whC B R (badL B R n) D z u0 (k + 1) = some u := by rw [whC, HWC.out]; show whS B R _ z (D k) u = _; rw [← HX.out, whS, if_pos hin]
              have HST := Lib.hid hst
              rw [decide_eq_true hin] at hct
              clear hin hst hld
              gi_wp2_with (refine ⟨trivial, ?_⟩; gi_at_call 118; refine (CallsIn.inRound l2 (callsIn_wide.2 hct)).mono ?_; clear hct; rintro e W' ⟨rfl, rfl⟩)
              go_roundw
              case rel => exact ⟨k + 1, u, by omega, by go_num, HST.out, HIs.out, HRW.out.next HBs.out, HTN.out.trans (Turn.of_below HBs.out)⟩
              case measure => simp [RowKit.intOf]; omega
            · have hws : ∀ o, (if ldO B R x z = false then none else if sq = 0 ∨ (u ≠ 0 ∧ sq ≠ u) then none else some sq) = o → (some u).bind (whS B R (badL B R n) z (D k)) = o := fun o h => by
                show whS B R _ z (D k) u = o
                rw [← HX.out, whS, if_neg hin, ← HSQ.out]
                exact h
              rw [decide_eq_false hin] at hct
              clear hin
              cases hlo : ldO B R x z with
              | false =>
                rw [hlo] at hld
                have hst := hws none (by rw [if_pos hlo])
                clear hws hlo
                have hN : Hid (whG B R n g m = none) := by show _ = _; exact whG_none (a := a + 1) ha (by rw [HWG.out]; exact whC_none (c := k + 1) hlt (by rw [whC, HWC.out]; exact hst))
                clear hst
                gi_wp2_with (first | (refine ⟨trivial, ?_⟩; gi_at_call 118; refine (CallsIn.inRound l2 (callsIn_wide.2 hct)).mono ?_; clear hct; rintro e W' ⟨rfl, rfl⟩) | (refine ⟨trivial, ?_⟩; gi_at_call 119; refine (CallsIn.inRound l2 (callsIn_wide.2 hld)).mono ?_; clear hld; rintro e Wl ⟨al, nl, cl, rfl, _, _, bl⟩; obtain ⟨⟨⟨c1, f1⟩, ⟨c2, f2⟩, ⟨c3, f3⟩⟩, ⟨⟨c2', f2'⟩, ⟨c3', f3'⟩, ⟨c3'', f3''⟩⟩, hF⟩ := HT.out Wl bl; have HF := Lib.hid hF; have HBL := Lib.hid bl; have c9 := (HIs.out.next bl).k9.1; clear hF bl HT))
                refine ⟨((((HTN.out.mono fun k e => .inr (.inr (.inr e))).trans (Turn.of_below HBs.out)).trans (Turn.of_below HBL.out)).trans (Turn.setCell (a := ⟨p1, 0, none⟩) _ (.inl rfl) _)).trans ((Turn.setCell (a := ⟨p2, 0, none⟩) _ (.inr (.inl rfl)) _).trans (Turn.setCell (a := ⟨p3, 0, none⟩) _ (.inr (.inr (.inl rfl))) _)), rfl, hN.out, HF.out.1, HF.out.2.1, HF.out.2.2.1, HF.out.2.2.2⟩
              | true =>
                rw [hlo] at hld
                have hws2 : ∀ o, (if sq = 0 ∨ (u ≠ 0 ∧ sq ≠ u) then none else some sq) = o → (some u).bind (whS B R (badL B R n) z (D k)) = o := fun o h => hws o (by rw [if_neg (by rw [hlo]; simp)]; exact h)
                clear hws hlo
                by_cases h1 : sq = 0
                · have q1 : (sq == 0) = true := by simpa using h1
                  have hst := hws2 none (by rw [if_pos (.inl h1)])
                  clear hws2 h1
                  have hN : Hid (whG B R n g m = none) := by show _ = _; exact whG_none (a := a + 1) ha (by rw [HWG.out]; exact whC_none (c := k + 1) hlt (by rw [whC, HWC.out]; exact hst))
                  clear hst
                  gi_wp2_with (first | (refine ⟨trivial, ?_⟩; gi_at_call 118; refine (CallsIn.inRound l2 (callsIn_wide.2 hct)).mono ?_; clear hct; rintro e W' ⟨rfl, rfl⟩) | (refine ⟨trivial, ?_⟩; gi_at_call 119; refine (CallsIn.inRound l2 (callsIn_wide.2 hld)).mono ?_; clear hld; rintro e Wl ⟨al, nl, cl, rfl, _, _, bl⟩; obtain ⟨⟨⟨c1, f1⟩, ⟨c2, f2⟩, ⟨c3, f3⟩⟩, ⟨⟨c2', f2'⟩, ⟨c3', f3'⟩, ⟨c3'', f3''⟩⟩, hF⟩ := HT.out Wl bl; have HF := Lib.hid hF; have HBL := Lib.hid bl; have c9 := (HIs.out.next bl).k9.1; clear hF bl HT))
                  refine ⟨((((HTN.out.mono fun k e => .inr (.inr (.inr e))).trans (Turn.of_below HBs.out)).trans (Turn.of_below HBL.out)).trans (Turn.setCell (a := ⟨p1, 0, none⟩) _ (.inl rfl) _)).trans ((Turn.setCell (a := ⟨p2, 0, none⟩) _ (.inr (.inl rfl)) _).trans (Turn.setCell (a := ⟨p3, 0, none⟩) _ (.inr (.inr (.inl rfl))) _)), rfl, hN.out, HF.out.1, HF.out.2.1, HF.out.2.2.1, HF.out.2.2.2⟩
                · have q1 : (sq == 0) = false := by simpa using h1
                  by_cases h2 : u = 0
                  · have q2 : (u != 0) = false := by simpa using h2
                    have q3 : (u == 0) = true := by simpa using h2
                    have hst := hws2 (some sq) (by rw [if_neg (fun x => x.elim h1 (fun y => y.1 h2))])
                    clear hws2 h1 h2
                    have HST : Hid (whC B R (badL B R n) D z u0 (k + 1) = some sq) := by show _ = _; rw [whC, HWC.out]; exact hst
                    clear hst
                    gi_wp2_with (first | (refine ⟨trivial, ?_⟩; gi_at_call 118; refine (CallsIn.inRound l2 (callsIn_wide.2 hct)).mono ?_; clear hct; rintro e W' ⟨rfl, rfl⟩) | (refine ⟨trivial, ?_⟩; gi_at_call 119; refine (CallsIn.inRound l2 (callsIn_wide.2 hld)).mono ?_; clear hld; rintro e Wl ⟨al, nl, cl, rfl, _, _, bl⟩; obtain ⟨c9, f9⟩ := (HIs.out.next bl).k9; have HBL := Lib.hid bl; clear bl))
                    go_roundw
                    case rel =>
                      refine ⟨k + 1, sq, by omega, by go_num, HST.out, (HIs.out.next HBL.out).put sq HPU.out.1 HPU.out.2.1 HPU.out.2.2.1 HPU.out.2.2.2.1 HPU.out.2.2.2.2.1 HPU.out.2.2.2.2.2.1 HPU.out.2.2.2.2.2.2.1 HPU.out.2.2.2.2.2.2.2.1 HPU.out.2.2.2.2.2.2.2.2.1 HKB.out HPU.out.2.2.2.2.2.2.2.2.2, ?_, ((HTN.out.trans (Turn.of_below HBs.out)).trans (Turn.of_below HBL.out)).trans (turn_set _ p9 0 _)⟩
                      exact ((HRW.out.next HBs.out).next HBL.out).turn (turn_set _ p9 0 _) (fun k e => by subst e; exact HXL.out.2.2)
                    case measure => simp [RowKit.intOf]; omega
                  · have q2 : (u != 0) = true := by simpa using h2
                    have q3 : (u == 0) = false := by simpa using h2
                    by_cases h3 : sq = u
                    · have q4 : (sq != u) = false := by simpa using h3
                      have q5 : (sq == u) = true := by simpa using h3
                      have hst := hws2 (some sq) (by rw [if_neg (fun x => x.elim h1 (fun y => y.2 h3))])
                      clear hws2 h1 h2 h3
                      have HST : Hid (whC B R (badL B R n) D z u0 (k + 1) = some sq) := by show _ = _; rw [whC, HWC.out]; exact hst
                      clear hst
                      gi_wp2_with (first | (refine ⟨trivial, ?_⟩; gi_at_call 118; refine (CallsIn.inRound l2 (callsIn_wide.2 hct)).mono ?_; clear hct; rintro e W' ⟨rfl, rfl⟩) | (refine ⟨trivial, ?_⟩; gi_at_call 119; refine (CallsIn.inRound l2 (callsIn_wide.2 hld)).mono ?_; clear hld; rintro e Wl ⟨al, nl, cl, rfl, _, _, bl⟩; obtain ⟨c9, f9⟩ := (HIs.out.next bl).k9; have HBL := Lib.hid bl; clear bl))
                      go_roundw
                      case rel =>
                        refine ⟨k + 1, sq, by omega, by go_num, HST.out, (HIs.out.next HBL.out).put sq HPU.out.1 HPU.out.2.1 HPU.out.2.2.1 HPU.out.2.2.2.1 HPU.out.2.2.2.2.1 HPU.out.2.2.2.2.2.1 HPU.out.2.2.2.2.2.2.1 HPU.out.2.2.2.2.2.2.2.1 HPU.out.2.2.2.2.2.2.2.2.1 HKB.out HPU.out.2.2.2.2.2.2.2.2.2, ?_, ((HTN.out.trans (Turn.of_below HBs.out)).trans (Turn.of_below HBL.out)).trans (turn_set _ p9 0 _)⟩
                        exact ((HRW.out.next HBs.out).next HBL.out).turn (turn_set _ p9 0 _) (fun k e => by subst e; exact HXL.out.2.2)
                      case measure => simp [RowKit.intOf]; omega
                    · have q4 : (sq != u) = true := by simpa using h3
                      have q5 : (sq == u) = false := by simpa using h3
                      have hst := hws2 none (by rw [if_pos (.inr ⟨h2, h3⟩)])
                      clear hws2 h1 h2 h3
                      have hN : Hid (whG B R n g m = none) := by show _ = _; exact whG_none (a := a + 1) ha (by rw [HWG.out]; exact whC_none (c := k + 1) hlt (by rw [whC, HWC.out]; exact hst))
                      clear hst
                      gi_wp2_with (first | (refine ⟨trivial, ?_⟩; gi_at_call 118; refine (CallsIn.inRound l2 (callsIn_wide.2 hct)).mono ?_; clear hct; rintro e W' ⟨rfl, rfl⟩) | (refine ⟨trivial, ?_⟩; gi_at_call 119; refine (CallsIn.inRound l2 (callsIn_wide.2 hld)).mono ?_; clear hld; rintro e Wl ⟨al, nl, cl, rfl, _, _, bl⟩; obtain ⟨⟨⟨c1, f1⟩, ⟨c2, f2⟩, ⟨c3, f3⟩⟩, ⟨⟨c2', f2'⟩, ⟨c3', f3'⟩, ⟨c3'', f3''⟩⟩, hF⟩ := HT.out Wl bl; have HF := Lib.hid hF; have HBL := Lib.hid bl; have c9 := (HIs.out.next bl).k9.1; clear hF bl HT))
                      refine ⟨((((HTN.out.mono fun k e => .inr (.inr (.inr e))).trans (Turn.of_below HBs.out)).trans (Turn.of_below HBL.out)).trans (Turn.setCell (a := ⟨p1, 0, none⟩) _ (.inl rfl) _)).trans ((Turn.setCell (a := ⟨p2, 0, none⟩) _ (.inr (.inl rfl)) _).trans (Turn.setCell (a := ⟨p3, 0, none⟩) _ (.inr (.inr (.inl rfl))) _)), rfl, hN.out, HF.out.1, HF.out.2.1, HF.out.2.2.1, HF.out.2.2.2⟩
          · obtain rfl : k = n := by omega
            gi_wp2
            exact ⟨HTN.out.mono fun k e => .inr (.inr (.inr e)), u, by rw [HWG.out]; exact HWC.out, HI.out⟩
      case done =>
        rintro D X hD ⟨u, hu, hI⟩ hK
        have hl3 := HI0.out.k3.lt
        have hp := HP.out
        have hn1 : p1 ≠ D := by omega
        have hn2 : p2 ≠ D := by omega
        have hn3 : p3 ≠ D := by omega
        obtain ⟨hF1, hF2⟩ := three_set (.int .i64 u) (.bool true) (.int .i64 0) HPL.out.1 HPL.out.2.1 HPL.out.2.2.1 hI.k1 hI.k2 hI.k3 hI.bel HPL.out.2.2.2.1 HPL.out.2.2.2.2.1 HPL.out.2.2.2.2.2
        have HK : Hid ((((X.setCell ⟨p1, 0, none⟩ (.int .i64 u)).setCell ⟨p2, 0, none⟩ (.bool true)).setCell ⟨p3, 0, none⟩ (.int .i64 0)).heap[D]? = some (.deferred (some []))) :=
          (Below.heap_setCell _ ⟨p3, 0, none⟩ (.int .i64 0) D hn3.symm).trans ((Below.heap_setCell _ ⟨p2, 0, none⟩ (.bool true) D hn2.symm).trans ((Below.heap_setCell X ⟨p1, 0, none⟩ (.int .i64 u) D hn1.symm).trans hK))
        have HU := Lib.hid hu
        have HF := Lib.hid hF2
        obtain ⟨⟨c2', f2'⟩, ⟨c3', f3'⟩, ⟨c3'', f3''⟩⟩ := hF1
        obtain ⟨c1, f1⟩ := hI.k1
        obtain ⟨c2, f2⟩ := hI.k2
        obtain ⟨c3, f3⟩ := hI.k3
        have c9 := hI.k9.1
        clear hl3 hp hn1 hn2 hn3 hF2 hu hI hK
        go_wp2_with (fail)
        refine ⟨by simp, .inl ⟨_, _, rfl, run_takeDeferred HK.out, ?_⟩⟩
        have hA := aside_put HK.out rfl (.deferred none)
        have r1 := (HF.out.1.aside hA).1
        have r2 := (HF.out.2.1.aside hA).1
        have r3 := (HF.out.2.2.1.aside hA).1
        rw [hV.out, HU.out]
        refine ⟨.tuple #[.int .i64 u, .bool true, .int .i64 0], ?_, rfl, ((below_abides (K := w.heap.size) (Nat.le_refl _)).aside D _ _ (by omega) HF.out.2.2.2 hA)⟩
        simp [results, Tryz.f80, go_sem, r1, r2, r3]
      case stop =>
        rintro D c X hD ⟨rfl, h0, h1, h2, h3, hbl⟩ hK
        gi_wp2
        refine ⟨by simp, .inl ⟨_, _, rfl, run_takeDeferred hK, ?_⟩⟩
        have hA := aside_put hK rfl (.deferred none)
        have r1 := (h1.aside hA).1
        have r2 := (h2.aside hA).1
        have r3 := (h3.aside hA).1
        rw [hV.out, h0]
        refine ⟨.tuple #[.int .i64 0, .bool false, .int .i64 0], ?_, rfl, ((below_abides (K := w.heap.size) (Nat.le_refl _)).aside D _ _ (by omega) hbl hA)⟩
        simp [results, Tryz.f80, go_sem, r1, r2, r3]
  · have hc0 : (c == 0) = false := by simpa using h0
    have hc1 : (c != 0) = true := by simpa using h0
    have hV : Hid (vv = none) := by show _ = _; rw [HV.out, if_neg h0]
    obtain ⟨hF1, hF2⟩ := three_set (.int .i64 0) (.bool false) (.int .i64 c) HPL.out.1 HPL.out.2.1 HPL.out.2.2.1 K1'.out K2'.out K3'.out HB6.out HPL.out.2.2.2.1 HPL.out.2.2.2.2.1 HPL.out.2.2.2.2.2
    obtain ⟨⟨c2', f2'⟩, ⟨c3', f3'⟩, ⟨c3'', f3''⟩⟩ := hF1
    have HF := Lib.hid hF2
    obtain ⟨c1, f1⟩ := K1'.out
    obtain ⟨c2, f2⟩ := K2'.out
    obtain ⟨c3, f3⟩ := K3'.out
    clear hF2 h0
    go_wp2_with (fail)
    rw [hV.out]
    have r1 := HF.out.1.1
    have r2 := HF.out.2.1.1
    have r3 := HF.out.2.2.1.1
    refine ⟨.tuple #[.int .i64 0, .bool false, .int .i64 c], ?_, rfl, HF.out.2.2.2⟩
    simp [results, Tryz.f80, go_sem, r1, r2, r3]
end

end Go.Proofs.YtegmeoghonolcaaGreat
