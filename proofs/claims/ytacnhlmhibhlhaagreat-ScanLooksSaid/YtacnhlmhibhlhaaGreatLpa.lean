/-
  ScanLooks' walk: a loop of Loads of both racks, both banks, both Looks.
-/
import Derived.Test.YtacnhlmhibhlhaaGreatRw
import Derived.Test.YtacnhlmhibhlhaaGreatRkd
import Derived.Test.YtacnhlmhibhlhaaGreatRkb
import Derived.Test.YtacnhlmhibhlhaaGreatRlka
import Derived.Test.YtacnhlmhibhlhaaGreatAl8
import Derived.BigQuiet
set_option linter.unusedSimpArgs false
set_option linter.unusedVariables false
namespace Go.Proofs.YtacnhlmhibhlhaaGreat
open Go.RowKit Go.Maps
set_option linter.unusedVariables false

theorem new_two {w w6 : World} {B p n S : Nat} {v : Nat → Value} {xs : Nat → List Value} {L : Lay} {R : Rk} (hr : RackAt w (L.M R.n) L R) (hb : Below w.heap.size w w6)
    (hD : NewD w6 B p n S (fun i => if i < 2 then n * S else n) v xs) (hx1 : xs 1 = List.replicate (n * S) (.slice none 0 0)) (hx2 : xs 2 = List.replicate n (.bool false)) (hx3 : xs 3 = List.replicate n (.int .i64 (-1)))
    (hB : w.heap.size ≤ B) (h1 : 1 ≤ n) (h2 : n ≤ 17) (h3 : 1 ≤ S) (h4 : S ≤ 4096) (hBp : B ≤ w6.heap.size) :
    ∃ (K : RLay) (g0 m0 g1 m1 g2 m2 g3 m3 : Nat), v 0 = .slice (some ⟨g0, 0, none⟩) (n * S) m0 ∧ v 1 = .slice (some ⟨g1, 0, none⟩) (n * S) m1 ∧ v 2 = .slice (some ⟨g2, 0, none⟩) n m2 ∧ v 3 = .slice (some ⟨g3, 0, none⟩) n m3 ∧ K.p = w6.heap.size ∧ (∀ k, K.M k → w.heap.size ≤ k) ∧
      Both (w6.alloc (.cells #[.int .i64 n, .int .i64 S, .slice (some ⟨g0, 0, none⟩) (n * S) m0, .slice (some ⟨g1, 0, none⟩) (n * S) m1, .slice (some ⟨g2, 0, none⟩) n m2, .slice (some ⟨g3, 0, none⟩) n m3, .int .i64 (-1), .bool false] 38 (0, 0))) L K R (newRf n S) := by
  obtain ⟨K, e1, e2, e3⟩ := both_new2 (R := R) hr hb hD hx1 hx2 hx3 hB hBp h1 h2 h3 h4
  have hkp : 0 < n * S := Nat.mul_pos h1 h3
  obtain ⟨g0, m0, f0⟩ := hD.form 0 (by omega) hkp
  obtain ⟨g1', m1, f1⟩ := hD.form 1 (by omega) hkp
  obtain ⟨g2', m2, f2⟩ := hD.form 2 (by omega) h1
  obtain ⟨g3', m3, f3⟩ := hD.form 3 (by omega) h1
  rw [f0, f1, f2, f3] at e3
  exact ⟨K, g0, m0, g1', m1, g2', m2, g3', m3, f0, f1, f2, f3, e1, e2, e3⟩

/-- A member's cells in block p. -/
structure Mbx (w : World) (p : Nat) (e sl st : Int) : Prop where
  lt : p < w.heap.size
  c0 : w.cell? ⟨p, 0, none⟩ = some (.int .i64 e)
  c1 : w.cell? ⟨p, 1, none⟩ = some (.int .i64 sl)
  c2 : w.cell? ⟨p, 2, none⟩ = some (.int .i64 st)
theorem Mbx.next {w w' : World} {p : Nat} {e sl st : Int} (h : Mbx w p e sl st) (hb : Below w.heap.size w w') : Mbx w' p e sl st :=
  ⟨Nat.lt_of_lt_of_le h.lt hb.size, (hb.cell (p := ⟨p, 0, none⟩) h.lt).trans h.c0, (hb.cell (p := ⟨p, 1, none⟩) h.lt).trans h.c1, (hb.cell (p := ⟨p, 2, none⟩) h.lt).trans h.c2⟩

/-- Both racks, of four disks of 41 sectors, and what has changed since w0. -/
structure Ld2 (w0 : World) (L : Lay) (K : RLay) (R : Rk) (F : Rf) (w : World) : Prop where
  both : Both w L K R F
  rel : Rel R F
  n : R.n = 4
  S : R.S = 41
  low : ∀ k, L.M 4 k ∨ K.M k → w0.heap.size ≤ k
  bel : Below w0.heap.size w0 w
/-- The program's rack has been called, the reference's not yet. -/
structure Ld1 (w0 : World) (L : Lay) (K : RLay) (R : Rk) (F : Rf) (w : World) : Prop where
  both : Both w L K R F
  n : R.n = 4
  S : R.S = 41
  low : ∀ k, L.M 4 k ∨ K.M k → w0.heap.size ≤ k
  bel : Below w0.heap.size w0 w
section
variable {w0 w w' : World} {L : Lay} {K : RLay} {R R' : Rk} {F F' : Rf}
theorem Ld2.next (h : Ld2 w0 L K R F w) (hb : Below w.heap.size w w') : Ld2 w0 L K R F w' := ⟨h.both.below hb, h.rel, h.n, h.S, h.low, h.bel.trans (hb.mono h.bel.size)⟩
theorem Ld2.drew (h : Ld2 w0 L K R F w) : Ld2 w0 L K R F w.drew := h.next (below_drewN (Below.refl _ _) 1)
theorem Ld2.prog (h : Ld2 w0 L K R F w) (hn : R'.n = R.n) (hS : R'.S = R.S) {v : Value} {e : Ending} (hp : CallPost (fun k => L.M R.n k ∨ K.M k) L R R' w v e w') : e = .returned v ∧ Ld1 w0 L K R' F w' ∧ Turn (L.M R.n) w w' := by
  obtain ⟨he, hr, ht⟩ := hp
  exact ⟨he, ⟨h.both.rack hn hr ht, hn.trans h.n, hS.trans h.S, h.low, h.bel.trans (ht.below h.bel.size (fun k hk => h.low k (.inl (by rw [← h.n]; exact hk))))⟩, ht⟩
theorem Ld1.ref (h : Ld1 w0 L K R F w) {v : Value} {e : Ending} (hp : RefPost (fun k => L.M R.n k ∨ K.M k) K F' w v e w') (hr : Rel R F') : e = .returned v ∧ Ld2 w0 L K R F' w' := by
  obtain ⟨he, hs, ht⟩ := hp
  exact ⟨he, ⟨h.both.ref hs ht, hr, h.n, h.S, h.low, h.bel.trans (ht.below h.bel.size (fun k hk => h.low k (.inr hk)))⟩⟩
end
theorem Rk.ld_n (R : Rk) (i : Int) (zs : List Int) : (R.ld i zs).n = R.n := by unfold Rk.ld; split <;> rfl
theorem Rk.ld_S (R : Rk) (i : Int) (zs : List Int) : (R.ld i zs).S = R.S := by unfold Rk.ld; split <;> rfl
theorem Rk.doom_S (R : Rk) (i n : Int) : (R.doom i n).S = R.S := by unfold Rk.doom; split <;> rfl
theorem Pin.away {w : World} {a : Option Addr} {n c : Nat} {zs : List Int} {M : Nat → Prop} (h : Pin w a n c zs) (hM : ∀ k, M k → w.heap.size ≤ k) : n = 0 ∨ ∀ b off, a = some ⟨b, off, none⟩ → ¬ M b := by
  rcases h.bys.place with h0 | ⟨b2, off2, e2, hl2, _⟩
  · exact .inl h0
  · refine .inr fun b' off' e' x => ?_
    rw [e2] at e'
    cases e'
    have := hM _ x
    omega
/-- A row of pieces, each at the address that the law looks at. -/
theorem Rws.look {w0 w : World} {a : Option Addr} {n i : Nat} {f : Nat → Pc} (h : Rws w0 a n f) (hi : i < n) (hb : Below w0.heap.size w0 w) :
    ∃ b off x m d zs, a = some ⟨b, off, none⟩ ∧ b < w0.heap.size ∧ (∀ w', Below w0.heap.size w0 w' → w'.cell? ⟨b, off + i, none⟩ = some (.slice x m d)) ∧ Pin w0 x m d zs ∧ (f i).n = m := by
  obtain ⟨b, off, x, m, d, zs, e, hl, hc, hp, _, hn⟩ := h.at hi
  exact ⟨b, off, x, m, d, zs, e, hl, fun w' hb => (hb.cell (p := ⟨b, off + i, none⟩) hl).trans hc, hp, hn⟩
theorem OpenPost.on {p : Nat} {R : Rk} {d r s e sl st : Int} {w w1 w2 : World} {en : Ending} (h : OpenPost p R d r s e sl st w en w1) (hb : Below w1.heap.size w1 w2) : OpenPost p R d r s e sl st w en w2 := by
  obtain ⟨h1, h2⟩ := h
  refine ⟨h1.trans (hb.mono h1.size), ?_⟩
  split at h2
  · rename_i hk
    rw [if_pos hk]
    obtain ⟨b, e1, hl, hB⟩ := h2
    exact ⟨b, e1, hl, hB.next hb⟩
  · rename_i hk
    rw [if_neg hk]
    exact h2
theorem Ld2.cells {w0 w : World} {L : Lay} {K : RLay} {R : Rk} {F : Rf} (h : Ld2 w0 L K R F w) : w.cell? ⟨K.p, 0, none⟩ = some (.int .i64 (4 : Nat)) ∧ w.cell? ⟨K.p, 1, none⟩ = some (.int .i64 (41 : Nat)) := by
  obtain ⟨fl, fc, hx⟩ := h.both.rf
  have e1 : F.n = 4 := by rw [← h.rel.n]; exact h.n
  have e2 : F.S = 41 := by rw [← h.rel.S]; exact h.S
  have c0 := hx.c0
  have c1 := hx.c1
  rw [e1] at c0
  rw [e2] at c1
  exact ⟨c0, c1⟩
/-- What both Looks answer. -/
def LoP (LL : List Inf) (G E : Int) (w0 : World) (e : Ending) (w' : World) : Prop := ∃ v n, e = .returned (.tuple #[v, .int .i64 G, .int .i64 E]) ∧ OwnF w' w0.heap.size v n LL ∧ Below w0.heap.size w0 w'
theorem both_look {w0 w : World} {M : Nat → Prop} {L : Lay} {K : RLay} {b y : Nat} {R : Rk} {F : Rf} {B : Bn} (hS : Sml B) : ∃ LL G E, LL.length ≤ 12 ∧ ∀ w', Two w0 M L K b y R F B w' →
    Calls Tryz.prog 19 #[.pointer (some ⟨b, 0, none⟩)] w' (LoP LL G E w') ∧ Calls Tryz.prog 20 #[.pointer (some ⟨y, 0, none⟩)] w' (LoP LL G E w') :=
  ⟨_, _, _, (by
    split
    · exact Nat.zero_le _
    · exact lkL_len _ _ _), fun w' h => ⟨look_any hS h.st, rlook_any h.rf h.rb h.rel hS⟩⟩
end Go.Proofs.YtacnhlmhibhlhaaGreat

/-
  ScanLooks' walk.
-/
namespace Go.Proofs.YtacnhlmhibhlhaaGreat
open Go.RowKit Go.Maps
set_option linter.unusedVariables false

set_option maxRecDepth 100000 in
set_option maxHeartbeats 4000000 in
theorem looks_any (e sl st : Int) (a : Option Addr) (n c : Nat) (f : Nat → Pc) (q : Int) (w : World) (h : Rws w a n f) (hn : n ≤ 9223372036854775807) (hb : ∀ i, i < n → (f i).n ≤ reachBytes) :
    Calls Tryz.prog 3 #[mb e sl st, .slice a n c, .int .i64 q] w fun en w' => en = .returned (.bool true) ∧ Below w.heap.size w w' := by
  obtain ⟨w0, hw0⟩ : ∃ w0, w0 = w.alloc (.cells #[.int .i64 e, .int .i64 sl, .int .i64 st] 23) := ⟨_, rfl⟩
  obtain ⟨p, hp⟩ : ∃ p, p = w.heap.size := ⟨_, rfl⟩
  have HB0 : Hid (Below w.heap.size w w0) := by rw [hw0]; exact (Below.refl _ _).alloc (Nat.le_refl _) _
  have HX0 : Hid (Mbx w0 p e sl st) := by rw [hw0, hp]; refine ⟨by simp, ?_, ?_, ?_⟩ <;> simp
  have HW0 := Lib.hid (h.next HB0.out)
  have HN := Lib.hid hn
  have HR := Lib.hid hb
  clear h hn hb
  go_enter Tryz.func3, Tryz.ntmps3
  go_wp2_with (fail)
  rw [← hw0, ← hp]
  clear hw0 hp
  refine (alive_any _).mono ?_
  rintro e1 w1 ⟨rfl, hb1⟩
  have HB1 := Lib.hid hb1
  clear hb1
  go_wp2_with (fail)
  refine (weighL_any 20000 (by omega) a n c f w1 (HW0.out.next HB1.out) HN.out HR.out).mono ?_
  rintro e2 w2 ⟨t, ht, rfl, rfl, hfew⟩
  by_cases hlt : 20000 < t
  · have g1 : (20000 : Int) < (t : Int) := by omega
    clear hfew
    go_wp2_with (fail)
    go_ret
    exact ⟨rfl, HB0.out.trans (HB1.out.mono HB0.out.size)⟩
  have g1 : decide ((20000 : Int) < (t : Int)) = false := decide_eq_false (by omega)
  have HF := Lib.hid (hfew (by omega))
  clear hfew hlt ht
  go_wp2_with (fail)
  refine (small8_any w1).mono ?_
  rintro e3 w3 ⟨rfl, hb3⟩
  have HB3 := Lib.hid (HB1.out.trans (hb3.mono HB1.out.size))
  clear hb3 HB1
  go_wp2_with (fail)
  refine (sectors_all 3 3 12 w3).mono ?_
  rintro e4 w4 ⟨rfl, hb4⟩
  rw [sect_small]
  have HB4 := Lib.hid (HB3.out.trans (hb4.mono HB3.out.size))
  clear hb4 HB3
  go_wp2_with (fail)
  refine (new_ok 4 41 w4 (by omega) (by omega) (by omega) (by omega)).mono ?_
  rintro e5 w5 ⟨L, rfl, hr5, hM5, hb5⟩
  have HB5 := Lib.hid (HB4.out.trans (hb5.mono HB4.out.size))
  have HR5 := Lib.hid hr5
  have HM5 : Hid (∀ k, L.M 4 k → w0.heap.size ≤ k) := fun k hk => Nat.le_trans HB4.out.size (hM5 k hk)
  clear hr5 hM5 hb5 HB4
  go_wp2_with (fail)
  refine (small8_any w5).mono ?_
  rintro e6 w6 ⟨rfl, hb6⟩
  have HB6 := Lib.hid (HB5.out.trans (hb6.mono HB5.out.size))
  have HR6 := Lib.hid (HR5.out.below hb6)
  clear hb6 HB5 HR5
  go_wp2_with (fail)
  refine (sectors_all 3 3 12 w6).mono ?_
  rintro e7 w7 ⟨rfl, hb7⟩
  rw [sect_small]
  have HB7 := Lib.hid (HB6.out.trans (hb7.mono HB6.out.size))
  have HR7 := Lib.hid (HR6.out.below hb7)
  clear hb7 HB6 HR6
  go_wp2_with (fail)
  refine (rnew_ok 4 41 w7 (by omega) (by omega) (by omega) (by omega)).mono ?_
  rintro e8 w8 ⟨v, xs, rfl, hD, hx1, hx2, hx3, hb8⟩
  obtain ⟨K, g0, m0, g1', m1, g2, m2, g3, m3, f0, f1, f2, f3, hKp, hKlo, hboth⟩ := new_two (R := newRk 4 41) HR7.out hb8 hD hx1 hx2 hx3 (by omega) (by omega) (by omega) (by omega) (by omega) (by have := lt_of_block hD.row; omega)
  rw [f0, f1, f2, f3]
  obtain ⟨W9, hW9⟩ : ∃ W9, W9 = w8.alloc (.cells #[.int .i64 4, .int .i64 41, .slice (some ⟨g0, 0, none⟩) 164 m0, .slice (some ⟨g1', 0, none⟩) 164 m1, .slice (some ⟨g2, 0, none⟩) 4 m2, .slice (some ⟨g3, 0, none⟩) 4 m3, .int .i64 (-1), .bool false] 38 (0, 0)) := ⟨_, rfl⟩
  have hbA : Below w8.heap.size w8 W9 := by rw [hW9]; exact (Below.refl _ _).alloc (Nat.le_refl _) _
  have hb9 := hb8.trans (hbA.mono hb8.size)
  have HLD : Hid (Ld2 w0 L K (newRk 4 41) (newRf 4 41) W9) := by
    refine ⟨?_, Rel.new 4 41, rfl, rfl, fun k hk => ?_, HB7.out.trans (hb9.mono HB7.out.size)⟩
    · rw [hW9]; exact hboth
    · exact hk.elim (HM5.out k) fun x => Nat.le_trans HB7.out.size (hKlo k x)
  clear hD hx1 hx2 hx3 hb8 hKlo hboth f0 f1 f2 f3 hbA hb9 HR7 HM5 HB7 g1
  go_wp2_with (fail)
  rw [← hW9, ← hKp]
  clear hW9 hKp
  go_loopw [11] (fun v wr => ∃ (i : Nat) (R : Rk) (F : Rf), i ≤ n ∧ v = .int .i64 i ∧ Ld2 w0 L K R F wr) (fun v _ => n - (RowKit.intOf v).toNat)
  case atStart => exact ⟨0, _, _, by omega, rfl, HLD.out⟩
  case round =>
    obtain ⟨i, R, F, i1, rfl, hld⟩ := hrel
    clear HLD
    by_cases hlt : i < n
    · obtain ⟨b, off, x, m, d, zs, rfl, hbl, hc, hpin, hm⟩ := HW0.out.look hlt hld.bel
      have HC := Lib.hid hc
      have HPN := Lib.hid hpin
      have HM : Hid (m ≤ 1000000000000) := by
        have := HF.out.2 i hlt
        rw [hm] at this
        exact Nat.le_trans this (by omega)
      have HL := Lib.hid hld.drew
      have HREL := Lib.hid hld.rel
      have hn2 : n ≤ 20000 := HF.out.1
      have i0 : (0 : Int) ≤ (i : Int) := by omega
      have i2 : (i : Int) < (n : Int) := by omega
      have k1 := hc _ hld.bel
      have k2 := hc _ hld.drew.bel
      clear hc hpin hm hld
      go_wp2_with (fail)
      refine wp_region_held_drew (S := fun w' => w'.cell? ⟨b, off + i, none⟩ = some (.slice x m d)) (by kernel_rfl) ?_ (fun hHeld => ?_)
      · exact k1
      refine rgY 0 ?_ rfl (by kernel_rfl) (fun _ _ _ h => h) (.inl ⟨by rfl, fun w hSw => ?_⟩) (by assumption) ?_
      rotate_left
      · (try dsimp only at hSw); go_simp; try with_reducible rfl
      simp only [Act.put, rg1, rg2, rg3, rg4, rg6]
      refine rgY 1 ?_ rfl (by kernel_rfl) (fun _ _ _ h => h) (.inl ⟨by rfl, fun w hSw => ?_⟩) (by assumption) ?_
      rotate_left
      · (try dsimp only at hSw); go_simp; try with_reducible rfl
      simp only [Act.put, rg1, rg2, rg3, rg4, rg5, rg6]
      refine rgY 2 ?_ rfl (by kernel_rfl) (fun _ _ _ h => h) (.inl ⟨by rfl, fun w hSw => ?_⟩) (by assumption) ?_
      rotate_left
      · (try dsimp only at hSw); go_simp; try with_reducible rfl
      simp only [Act.put, rg1, rg2, rg3, rg4, rg5, rg6]
      refine rgY 3 ?_ rfl (by kernel_rfl) (fun _ _ _ h => h) (.inl ⟨by rfl, fun w hSw => ?_⟩) (by assumption) ?_
      rotate_left
      · (try dsimp only at hSw); go_simp; try with_reducible rfl
      simp only [Act.put, rg1, rg2, rg3, rg4, rg5, rg6]
      refine rgY 4 ?_ rfl (by kernel_rfl) (fun _ _ _ h => h) (.inl ⟨by rfl, fun w hSw => ?_⟩) (by assumption) ?_
      rotate_left
      · (try dsimp only at hSw); go_simp; try with_reducible rfl
      simp only [Act.put, rg1, rg2, rg3, rg4, rg5, rg6]
      refine rgY 5 ?_ rfl (by kernel_rfl) (fun _ _ _ h => h) (.inl ⟨by rfl, fun w hSw => ?_⟩) (by assumption) ?_
      rotate_left
      · (try dsimp only at hSw); go_simp; try with_reducible rfl
      simp only [Act.put, rg1, rg2, rg3, rg4, rg5, rg6]
      refine rgY 7 ?_ rfl (by kernel_rfl) (fun _ _ _ h => h) (.inl ⟨by rfl, fun w hSw => ?_⟩) (by assumption) ?_
      rotate_left
      · (try dsimp only at hSw); go_simp; try with_reducible rfl
      simp only [Act.put, rg1, rg2, rg3, rg4, rg5, rg6]
      refine rgY 8 ?_ rfl (by kernel_rfl) (fun _ _ _ h => h) (.inl ⟨by rfl, fun w hSw => ?_⟩) (by assumption) ?_
      rotate_left
      · (try dsimp only at hSw); go_simp; try with_reducible rfl
      simp only [Act.put, rg1, rg2, rg3, rg4, rg5, rg6]
      refine rgY 9 ?_ rfl (by kernel_rfl) (fun _ _ _ h => h) (.inl ⟨by rfl, fun w hSw => ?_⟩) (by assumption) ?_
      rotate_left
      · (try dsimp only at hSw); go_simp; try with_reducible rfl
      simp only [Act.put, rg1, rg2, rg3, rg4, rg5, rg6]
      refine rgY 10 ?_ rfl (by kernel_rfl) (fun _ _ _ h => h) (.inl ⟨by rfl, fun w hSw => ?_⟩) (by assumption) ?_
      rotate_left
      · (try dsimp only at hSw); go_simp; try with_reducible rfl
      simp only [Act.put, rg1, rg2, rg3, rg4, rg5, rg6]
      refine rgY 11 ?_ rfl (by kernel_rfl) (fun _ _ _ h => h) (.inl ⟨by rfl, fun w hSw => ?_⟩) (by assumption) ?_
      rotate_left
      · (try dsimp only at hSw); go_simp; try with_reducible rfl
      simp only [Act.put, rg1, rg2, rg3, rg4, rg5, rg6]
      refine wpAnyH_ready (rs := [6]) (by kernel_rfl) (by simp) ?_
      refine AllReadyH.cons rfl (fun K hK => ?_) AllReadyH.nil
      simp only [List.getElem_toArray, List.getElem_cons_succ, List.getElem_cons_zero]
      go_simp
      refine (load_all (i : Int) x m d zs HL.out.both.rk (HPN.out.next HL.out.bel).bys HM.out).mono ?_
      rintro e10 w10 hpo
      obtain ⟨rfl, hl1, _⟩ := HL.out.prog (R.ld_n _ _) (R.ld_S _ _) hpo
      have HL1 := Lib.hid hl1
      clear hpo hl1
      go_wp2_with (fail)
      refine hK.out _ _ (HC.out _ HL1.out.bel) (fun hHeld => ?_)
      clear hK K
      refine wpAnyH_ready (rs := [12]) (by kernel_rfl) (by simp) ?_
      refine AllReadyH.cons rfl (fun K hK => ?_) AllReadyH.nil
      simp only [List.getElem_toArray, List.getElem_cons_succ, List.getElem_cons_zero]
      go_simp
      have hrf := rload_all (i : Int) x m d zs HL1.out.both.rf (HPN.out.next HL1.out.bel).bys (HPN.out.away (fun k hk => HL1.out.low k (.inr hk))) HM.out
      rw [← HREL.out.dkE] at hrf
      refine hrf.mono ?_
      clear hrf
      rintro e11 w11 hpo
      obtain ⟨rfl, hl2⟩ := HL1.out.ref hpo (HREL.out.ld _ _)
      have HL2 := Lib.hid hl2
      clear hpo hl2
      go_wp2_with (fail)
      refine hK.out _ _ (HC.out _ HL2.out.bel) (fun hHeld => ?_)
      clear hK K
      refine rgY 13 ?_ rfl (by kernel_rfl) (fun _ _ _ h => h) (.inl ⟨by rfl, fun w hSw => ?_⟩) (by assumption) ?_
      rotate_left
      · (try dsimp only at hSw); go_simp; try with_reducible rfl
      simp only [Act.put, rg1, rg2, rg3, rg4, rg5, rg6]
      refine wpAnyH_done (by kernel_rfl) ?_ _
      clear hHeld k1 k2
      go_wp2_with (fail)
      go_roundw
      case rel => exact ⟨i + 1, _, _, by omega, by go_num, HL2.out⟩
      case measure => simp [RowKit.intOf]; omega
    · have e9 : i = n := by omega
      clear i1 hlt
      subst e9
      have HL := Lib.hid hld
      have HREL := Lib.hid hld.rel
      clear hld
      go_wp2_with (fail)
      refine (doom_all q 0 HL.out.both.rk (by omega)).mono ?_
      rintro e12 w12 hpo
      obtain ⟨rfl, hl1, _⟩ := HL.out.prog (R.doom_n _ _) (R.doom_S _ _) hpo
      have HL1 := Lib.hid hl1
      clear hpo hl1
      go_wp2_with (fail)
      have hrf := rdoom_all q 0 HL1.out.both.rf (by omega)
      rw [← HREL.out.dkE] at hrf
      refine hrf.mono ?_
      clear hrf
      rintro e13 w13 hpo
      obtain ⟨rfl, hl2⟩ := HL1.out.ref hpo (HREL.out.dm _ _)
      obtain ⟨R2, F2, hl3⟩ : ∃ R2 F2, Ld2 w0 L K R2 F2 w13 := ⟨_, _, hl2⟩
      have HL2 := Lib.hid hl3
      clear hpo hl2 hl3 HL HL1 HREL
      have hX := HX0.out.next HL2.out.bel
      have x0 := hX.c0
      have x1 := hX.c1
      have x2 := hX.c2
      clear hX
      go_wp2_with (fail)
      refine wp_region_held_drew (S := fun w' => w'.cell? ⟨p, 0, none⟩ = some (.int .i64 e) ∧ w'.cell? ⟨p, 1, none⟩ = some (.int .i64 sl) ∧ w'.cell? ⟨p, 2, none⟩ = some (.int .i64 st)) (by kernel_rfl) ?_ (fun hHeld => ?_)
      · exact ⟨x0, x1, x2⟩
      refine rgY 0 ?_ rfl (by kernel_rfl) (fun _ _ _ h => h) (.inl ⟨by rfl, fun w hSw => ?_⟩) (by assumption) ?_
      rotate_left
      · (try dsimp only at hSw); go_simp; try with_reducible rfl
      simp only [Act.put, rg1, rg2, rg3, rg4, rg6]
      refine rgY 2 ?_ rfl (by kernel_rfl) (fun _ _ _ h => h) (.inl ⟨by rfl, fun w hSw => ?_⟩) (by assumption) ?_
      rotate_left
      · (try dsimp only at hSw); go_simp; try with_reducible rfl
      simp only [Act.put, rg1, rg2, rg3, rg4, rg5, rg6]
      refine wpAnyH_ready (rs := [1]) (by kernel_rfl) (by simp) ?_
      refine AllReadyH.cons rfl (fun K hK => ?_) AllReadyH.nil
      simp only [List.getElem_toArray, List.getElem_cons_succ, List.getElem_cons_zero]
      go_simp
      refine (small8_any _).mono ?_
      rintro e14 w14 ⟨rfl, hb14⟩
      have HL4 := Lib.hid (HL2.out.drew.next hb14)
      clear hb14
      go_wp2_with (fail)
      refine hK.out _ _ ⟨(HX0.out.next HL4.out.bel).c0, (HX0.out.next HL4.out.bel).c1, (HX0.out.next HL4.out.bel).c2⟩ (fun hHeld => ?_)
      clear hK K
      refine wpAnyH_ready (rs := [3]) (by kernel_rfl) (by simp) ?_
      refine AllReadyH.cons rfl (fun K hK => ?_) AllReadyH.nil
      simp only [List.getElem_toArray, List.getElem_cons_succ, List.getElem_cons_zero]
      go_simp
      refine (open_any 3 3 12 e sl st HL4.out.both.rk).mono ?_
      rintro e15 w15 hop
      have HL5 := Lib.hid (HL4.out.next hop.1)
      have HOP := Lib.hid hop
      have hok := openOk_small HL4.out.n HL4.out.S sl st
      cases hmo : memOk 3 sl st with
      | false =>
        rw [hmo] at hok
        have hop' := hop.2
        rw [hok, if_neg Bool.false_ne_true] at hop'
        subst hop'
        have HOK := Lib.hid hok
        clear hmo hok hop
        go_wp2_with (fail)
        refine hK.out _ _ ⟨(HX0.out.next HL5.out.bel).c0, (HX0.out.next HL5.out.bel).c1, (HX0.out.next HL5.out.bel).c2⟩ (fun hHeld => ?_)
        clear hK K
        refine rgY 4 ?_ rfl (by kernel_rfl) (fun _ _ _ h => h) (.inl ⟨by rfl, fun w hSw => ?_⟩) (by assumption) ?_
        rotate_left
        · (try dsimp only at hSw); go_simp; try with_reducible rfl
        simp only [Act.put, rg1, rg2, rg3, rg4, rg5, rg6]
        refine rgY 5 ?_ rfl (by kernel_rfl) (fun _ _ _ h => h) (.inl ⟨by rfl, fun w hSw => ?_⟩) (by assumption) ?_
        rotate_left
        · (try dsimp only at hSw); go_simp; try with_reducible rfl
        simp only [Act.put, rg1, rg2, rg3, rg4, rg5, rg6]
        refine rgY 6 ?_ rfl (by kernel_rfl) (fun _ _ _ h => h) (.inl ⟨by rfl, fun w hSw => ?_⟩) (by assumption) ?_
        rotate_left
        · (try dsimp only at hSw); go_simp; try with_reducible rfl
        simp only [Act.put, rg1, rg2, rg3, rg4, rg5, rg6]
        refine rgY 7 ?_ rfl (by kernel_rfl) (fun _ _ _ h => h) (.inl ⟨by rfl, fun w hSw => ?_⟩) (by assumption) ?_
        rotate_left
        · (try dsimp only at hSw); go_simp; try with_reducible rfl
        simp only [Act.put, rg1, rg2, rg3, rg4, rg5, rg6]
        refine rgY 8 ?_ rfl (by kernel_rfl) (fun _ _ _ h => h) (.inl ⟨by rfl, fun w hSw => ?_⟩) (by assumption) ?_
        rotate_left
        · (try dsimp only at hSw); go_simp; try with_reducible rfl
        simp only [Act.put, rg1, rg2, rg3, rg4, rg5, rg6]
        refine wpAnyH_done (by kernel_rfl) ?_ _
        clear hHeld x0 x1 x2
        have hX := HX0.out.next HL5.out.bel
        have x0 := hX.c0
        have x1 := hX.c1
        have x2 := hX.c2
        clear hX
        go_wp2_with (fail)
        refine wp_region_held_drew (S := fun w' => w'.cell? ⟨p, 0, none⟩ = some (.int .i64 e) ∧ w'.cell? ⟨p, 1, none⟩ = some (.int .i64 sl) ∧ w'.cell? ⟨p, 2, none⟩ = some (.int .i64 st)) (by kernel_rfl) ?_ (fun hHeld => ?_)
        · exact ⟨x0, x1, x2⟩
        refine rgY 1 ?_ rfl (by kernel_rfl) (fun _ _ _ h => h) (.inl ⟨by rfl, fun w hSw => ?_⟩) (by assumption) ?_
        rotate_left
        · (try dsimp only at hSw); go_simp; try with_reducible rfl
        simp only [Act.put, rg1, rg2, rg3, rg4, rg5, rg6]
        refine wpAnyH_ready (rs := [0]) (by kernel_rfl) (by simp) ?_
        refine AllReadyH.cons rfl (fun K hK => ?_) AllReadyH.nil
        simp only [List.getElem_toArray, List.getElem_cons_succ, List.getElem_cons_zero]
        go_simp
        refine (small8_any _).mono ?_
        rintro e16 w16 ⟨rfl, hb16⟩
        have HL6 := Lib.hid (HL5.out.drew.next hb16)
        have HB6 : Hid (Below w15.heap.size w15 w16) := undrew hb16
        clear hb16
        go_wp2_with (fail)
        refine hK.out _ _ ⟨(HX0.out.next HL6.out.bel).c0, (HX0.out.next HL6.out.bel).c1, (HX0.out.next HL6.out.bel).c2⟩ (fun hHeld => ?_)
        clear hK K
        refine wpAnyH_ready (rs := [2]) (by kernel_rfl) (by simp) ?_
        refine AllReadyH.cons rfl (fun K hK => ?_) AllReadyH.nil
        simp only [List.getElem_toArray, List.getElem_cons_succ, List.getElem_cons_zero]
        go_simp
        refine (ropen_any R2 _ 4 41 3 3 12 e sl st _ HL6.out.n HL6.out.S HL6.out.cells).mono ?_
        rintro e17 w17 ⟨hb17, hop6⟩
        rw [HOK.out, if_neg Bool.false_ne_true] at hop6
        subst hop6
        have HL7 := Lib.hid (HL6.out.next hb17)
        clear hb17
        go_wp2_with (fail)
        refine hK.out _ _ ⟨(HX0.out.next HL7.out.bel).c0, (HX0.out.next HL7.out.bel).c1, (HX0.out.next HL7.out.bel).c2⟩ (fun hHeld => ?_)
        clear hK K
        refine rgY 3 ?_ rfl (by kernel_rfl) (fun _ _ _ h => h) (.inl ⟨by rfl, fun w hSw => ?_⟩) (by assumption) ?_
        rotate_left
        · (try dsimp only at hSw); go_simp; try with_reducible rfl
        simp only [Act.put, rg1, rg2, rg3, rg4, rg5, rg6]
        refine rgY 4 ?_ rfl (by kernel_rfl) (fun _ _ _ h => h) (.inl ⟨by rfl, fun w hSw => ?_⟩) (by assumption) ?_
        rotate_left
        · (try dsimp only at hSw); go_simp; try with_reducible rfl
        simp only [Act.put, rg1, rg2, rg3, rg4, rg5, rg6]
        refine rgY 5 ?_ rfl (by kernel_rfl) (fun _ _ _ h => h) (.inl ⟨by rfl, fun w hSw => ?_⟩) (by assumption) ?_
        rotate_left
        · (try dsimp only at hSw); go_simp; try with_reducible rfl
        simp only [Act.put, rg1, rg2, rg3, rg4, rg5, rg6]
        refine rgY 6 ?_ rfl (by kernel_rfl) (fun _ _ _ h => h) (.inl ⟨by rfl, fun w hSw => ?_⟩) (by assumption) ?_
        rotate_left
        · (try dsimp only at hSw); go_simp; try with_reducible rfl
        simp only [Act.put, rg1, rg2, rg3, rg4, rg5, rg6]
        refine rgY 7 ?_ rfl (by kernel_rfl) (fun _ _ _ h => h) (.inl ⟨by rfl, fun w hSw => ?_⟩) (by assumption) ?_
        rotate_left
        · (try dsimp only at hSw); go_simp; try with_reducible rfl
        simp only [Act.put, rg1, rg2, rg3, rg4, rg5, rg6]
        refine wpAnyH_done (by kernel_rfl) ?_ _
        clear hHeld x0 x1 x2
        go_wp2_with (fail)
        go_ret
        exact ⟨rfl, HB0.out.trans (HL7.out.bel.mono HB0.out.size)⟩
      | true =>
        rw [hmo] at hok
        have hop' := hop.2
        rw [hok, if_pos rfl] at hop'
        obtain ⟨b, rfl, _, _⟩ := hop'
        have HOK := Lib.hid hok
        clear hmo hok hop
        go_wp2_with (fail)
        refine hK.out _ _ ⟨(HX0.out.next HL5.out.bel).c0, (HX0.out.next HL5.out.bel).c1, (HX0.out.next HL5.out.bel).c2⟩ (fun hHeld => ?_)
        clear hK K
        refine rgY 4 ?_ rfl (by kernel_rfl) (fun _ _ _ h => h) (.inl ⟨by rfl, fun w hSw => ?_⟩) (by assumption) ?_
        rotate_left
        · (try dsimp only at hSw); go_simp; try with_reducible rfl
        simp only [Act.put, rg1, rg2, rg3, rg4, rg5, rg6]
        refine rgY 5 ?_ rfl (by kernel_rfl) (fun _ _ _ h => h) (.inl ⟨by rfl, fun w hSw => ?_⟩) (by assumption) ?_
        rotate_left
        · (try dsimp only at hSw); go_simp; try with_reducible rfl
        simp only [Act.put, rg1, rg2, rg3, rg4, rg5, rg6]
        refine rgY 6 ?_ rfl (by kernel_rfl) (fun _ _ _ h => h) (.inl ⟨by rfl, fun w hSw => ?_⟩) (by assumption) ?_
        rotate_left
        · (try dsimp only at hSw); go_simp; try with_reducible rfl
        simp only [Act.put, rg1, rg2, rg3, rg4, rg5, rg6]
        refine rgY 7 ?_ rfl (by kernel_rfl) (fun _ _ _ h => h) (.inl ⟨by rfl, fun w hSw => ?_⟩) (by assumption) ?_
        rotate_left
        · (try dsimp only at hSw); go_simp; try with_reducible rfl
        simp only [Act.put, rg1, rg2, rg3, rg4, rg5, rg6]
        refine rgY 8 ?_ rfl (by kernel_rfl) (fun _ _ _ h => h) (.inl ⟨by rfl, fun w hSw => ?_⟩) (by assumption) ?_
        rotate_left
        · (try dsimp only at hSw); go_simp; try with_reducible rfl
        simp only [Act.put, rg1, rg2, rg3, rg4, rg5, rg6]
        refine wpAnyH_done (by kernel_rfl) ?_ _
        clear hHeld x0 x1 x2
        have hX := HX0.out.next HL5.out.bel
        have x0 := hX.c0
        have x1 := hX.c1
        have x2 := hX.c2
        clear hX
        go_wp2_with (fail)
        refine wp_region_held_drew (S := fun w' => w'.cell? ⟨p, 0, none⟩ = some (.int .i64 e) ∧ w'.cell? ⟨p, 1, none⟩ = some (.int .i64 sl) ∧ w'.cell? ⟨p, 2, none⟩ = some (.int .i64 st)) (by kernel_rfl) ?_ (fun hHeld => ?_)
        · exact ⟨x0, x1, x2⟩
        refine rgY 1 ?_ rfl (by kernel_rfl) (fun _ _ _ h => h) (.inl ⟨by rfl, fun w hSw => ?_⟩) (by assumption) ?_
        rotate_left
        · (try dsimp only at hSw); go_simp; try with_reducible rfl
        simp only [Act.put, rg1, rg2, rg3, rg4, rg5, rg6]
        refine wpAnyH_ready (rs := [0]) (by kernel_rfl) (by simp) ?_
        refine AllReadyH.cons rfl (fun K hK => ?_) AllReadyH.nil
        simp only [List.getElem_toArray, List.getElem_cons_succ, List.getElem_cons_zero]
        go_simp
        refine (small8_any _).mono ?_
        rintro e16 w16 ⟨rfl, hb16⟩
        have HL6 := Lib.hid (HL5.out.drew.next hb16)
        have HB6 : Hid (Below w15.heap.size w15 w16) := undrew hb16
        clear hb16
        go_wp2_with (fail)
        refine hK.out _ _ ⟨(HX0.out.next HL6.out.bel).c0, (HX0.out.next HL6.out.bel).c1, (HX0.out.next HL6.out.bel).c2⟩ (fun hHeld => ?_)
        clear hK K
        refine wpAnyH_ready (rs := [2]) (by kernel_rfl) (by simp) ?_
        refine AllReadyH.cons rfl (fun K hK => ?_) AllReadyH.nil
        simp only [List.getElem_toArray, List.getElem_cons_succ, List.getElem_cons_zero]
        go_simp
        refine (ropen_any R2 _ 4 41 3 3 12 e sl st _ HL6.out.n HL6.out.S HL6.out.cells).mono ?_
        rintro e17 w17 hop6
        obtain ⟨M, b', y, hen, rfl, htwo⟩ := Two.opened (w0 := w0) HL4.out.both HL4.out.rel (fun k hk => HL4.out.low k (by rw [HL4.out.n] at hk; exact hk)) HL4.out.bel (HOP.out.on HB6.out) hop6 HOK.out
        cases hen
        obtain ⟨B, hB⟩ : ∃ B : Bn, B = ⟨3, 3, 12, e, sl, st⟩ := ⟨_, rfl⟩
        have HS : Hid (Sml B) := by rw [hB]; exact ⟨rfl, rfl, rfl⟩
        rw [← hB] at htwo
        have HTW := Lib.hid htwo
        clear hop6 htwo HOP HOK HL2 HL4 HL5 HL6 HB6 hB
        go_wp2_with (fail)
        refine hK.out _ _ ⟨(HX0.out.next HTW.out.st.bel).c0, (HX0.out.next HTW.out.st.bel).c1, (HX0.out.next HTW.out.st.bel).c2⟩ (fun hHeld => ?_)
        clear hK K
        refine rgY 3 ?_ rfl (by kernel_rfl) (fun _ _ _ h => h) (.inl ⟨by rfl, fun w hSw => ?_⟩) (by assumption) ?_
        rotate_left
        · (try dsimp only at hSw); go_simp; try with_reducible rfl
        simp only [Act.put, rg1, rg2, rg3, rg4, rg5, rg6]
        refine rgY 4 ?_ rfl (by kernel_rfl) (fun _ _ _ h => h) (.inl ⟨by rfl, fun w hSw => ?_⟩) (by assumption) ?_
        rotate_left
        · (try dsimp only at hSw); go_simp; try with_reducible rfl
        simp only [Act.put, rg1, rg2, rg3, rg4, rg5, rg6]
        refine rgY 5 ?_ rfl (by kernel_rfl) (fun _ _ _ h => h) (.inl ⟨by rfl, fun w hSw => ?_⟩) (by assumption) ?_
        rotate_left
        · (try dsimp only at hSw); go_simp; try with_reducible rfl
        simp only [Act.put, rg1, rg2, rg3, rg4, rg5, rg6]
        refine rgY 6 ?_ rfl (by kernel_rfl) (fun _ _ _ h => h) (.inl ⟨by rfl, fun w hSw => ?_⟩) (by assumption) ?_
        rotate_left
        · (try dsimp only at hSw); go_simp; try with_reducible rfl
        simp only [Act.put, rg1, rg2, rg3, rg4, rg5, rg6]
        refine rgY 7 ?_ rfl (by kernel_rfl) (fun _ _ _ h => h) (.inl ⟨by rfl, fun w hSw => ?_⟩) (by assumption) ?_
        rotate_left
        · (try dsimp only at hSw); go_simp; try with_reducible rfl
        simp only [Act.put, rg1, rg2, rg3, rg4, rg5, rg6]
        refine wpAnyH_done (by kernel_rfl) ?_ _
        clear hHeld x0 x1 x2
        have HD : Hid (B.d = ((3 : Nat) : Int)) := HS.out.d
        have HG := Lib.hid (HTW.out.rel.flG HTW.out.st.rk.lens B B.num)
        go_wp2_with (fail)
        refine (st_flush HTW.out.st HD.out (by omega)).mono ?_
        rintro e18 w18 hpo
        obtain ⟨rfl, hm1, _⟩ := HTW.out.prog (flG_n B R2 _) hpo
        have HM1 := Lib.hid hm1
        have hrf := rflush_bank 3 hm1.rf hm1.rb hm1.ky HD.out (by omega)
        rw [← HG.out.1] at hrf
        clear hpo hm1
        go_wp2_with (fail)
        refine hrf.mono ?_
        clear hrf
        rintro e19 w19 hpo
        obtain ⟨rfl, ht2⟩ := HM1.out.ref hpo HG.out.2
        obtain ⟨R3, F3, ht3⟩ : ∃ R3 F3, Two w0 M L K b y R3 F3 B w19 := ⟨_, _, ht2⟩
        have HT3 := Lib.hid ht3
        clear hpo ht2 ht3 HM1 HG HTW
        go_wp2_with (fail)
        obtain ⟨LL, G, E, hll, hlk⟩ := both_look (w0 := w0) (w := w0) (M := M) (L := L) (K := K) (b := b) (y := y) (R := R3) (F := F3) HS.out
        have HLK := Lib.hid hlk
        have HLL := Lib.hid hll
        clear hll
        refine (hlk _ HT3.out).1.mono ?_
        clear hlk
        rintro e20 w20 ⟨v1, n1, rfl, hf1, hb20⟩
        obtain ⟨a1, c1, rfl, hi1, _, _, _⟩ := hf1.ifs
        have HT4 := Lib.hid (HT3.out.next hb20)
        have HI1 := Lib.hid hi1
        have HN1 := Lib.hid hf1.len
        clear hi1 hf1 hb20 HT3
        go_wp2_with (fail)
        refine (HLK.out _ HT4.out).2.mono ?_
        rintro e21 w21 ⟨v2, n2, rfl, hf2, hb21⟩
        obtain ⟨a2, c2, rfl, hi2, _, _, _⟩ := hf2.ifs
        obtain rfl : n1 = n2 := HN1.out.symm.trans hf2.len
        have HI2 := Lib.hid (HI1.out.next hb21)
        have HI3 := Lib.hid hi2
        have HB5 := Lib.hid (HT4.out.next hb21).st.bel
        clear hi2 hf2 hb21 HT4 HI1 HN1 HLK
        go_wp2_with (fail)
        go_loopw [19] (fun v wr => ∃ i : Nat, i ≤ n1 ∧ v = .int .i64 i ∧ Ifs wr a1 n1 LL ∧ Ifs wr a2 n1 LL ∧ Below w0.heap.size w0 wr) (fun v _ => n1 - (RowKit.intOf v).toNat)
        case atStart => exact ⟨0, by omega, rfl, HI2.out, HI3.out, HB5.out⟩
        case round =>
          obtain ⟨i, i1, rfl, hi1, hi2, hb⟩ := hrel
          have HI4 := Lib.hid hi1
          have HI5 := Lib.hid hi2
          have HB := Lib.hid hb
          clear hb HI2 HI3 HB5
          by_cases hlt : i < n1
          · obtain ⟨b1, o1, s0, s1, s2, s3, s4, s5, rfl, hl1, hx1, y0, y1, y2, y3, y4, y5⟩ := hi1.at hlt
            obtain ⟨b2, o2, t0, t1, t2, t3, t4, t5, rfl, hl2, hx2, z0, z1, z2, z3, z4, z5⟩ := hi2.at hlt
            rw [hx1] at hx2
            cases hx2
            have i0 : (0 : Int) ≤ (i : Int) := by omega
            have i2 : (i : Int) < (n1 : Int) := by omega
            have hn2 : n1 ≤ 12 := by rw [← hi1.len]; exact HLL.out
            clear hi1 hi2 hx1
            go_wp2_with (fail)
            go_quiet (fail)
            go_wp2_with (fail)
            go_roundw
            case rel => exact ⟨i + 1, by omega, by go_num, HI4.out.next (below_drewN (Below.refl _ _) nq), HI5.out.next (below_drewN (Below.refl _ _) nq), HB.out.trans ((below_drewN (Below.refl _ _) nq).mono HB.out.size)⟩
            case measure => simp [RowKit.intOf]; omega
          · have e9 : i = n1 := by omega
            clear i1 hlt hi1 hi2
            subst e9
            go_wp2_with (fail)
            go_ret
            exact ⟨rfl, HB0.out.trans (HB.out.mono HB0.out.size)⟩
end Go.Proofs.YtacnhlmhibhlhaaGreat
