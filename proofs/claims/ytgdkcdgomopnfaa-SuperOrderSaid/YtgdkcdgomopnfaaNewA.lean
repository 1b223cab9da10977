/-
  The newest of a list, in plain words; the numbers that marks and members are held against.
-/
import Derived.Test.YtgdkcdgomopnfaaAl5
import Derived.Test.YtgdkcdgomopnfaaRowO
namespace Go.Proofs.Ytgdkcdgomopnfaa
open Go.RowKit

/-- The greatest Seq of the first k. -/
def nmV (f : Nat → Pc) : Nat → Int
  | 0 => 0
  | k + 1 => if nmV f k < gmV (f k).zs then gmV (f k).zs else nmV f k
theorem gmV_nn {x : List Int} (hx : AllB x) : 0 ≤ gmV x := by
  unfold gmV
  split
  · exact (getV_w (m := 4) hx (by omega) (by omega)).1
  · exact Int.le_refl _
theorem nmV_nn (f : Nat → Pc) (k : Nat) : 0 ≤ nmV f k := by
  induction k with
  | zero => exact Int.le_refl _
  | succ k ih => rw [nmV]; split <;> omega
/-- The first member with the greatest Epoch, of the first k: is there one, which. -/
structure Nb where
  some : Bool
  e : Int
  s : Int
  t : Int
def nbS (f : Nat → Pc) : Nat → Nb
  | 0 => ⟨false, 0, 0, 0⟩
  | k + 1 => if gbO (f k).zs = true ∧ ((nbS f k).some = false ∨ (nbS f k).e < gb1 (f k).zs) then ⟨true, gb1 (f k).zs, gb2 (f k).zs, gb3 (f k).zs⟩ else nbS f k
theorem gb1_nn {x : List Int} (hx : AllB x) : 0 ≤ gb1 x := (getV_w (m := 4) hx (by omega) (by omega)).1

theorem numK_any (s : Int) (w : World) : Calls Try.prog 45 #[mv s] w fun e w' => e = .returned (.int .i64 s) ∧ Below w.heap.size w w' := by
  go_enter Try.func45, Try.ntmps45
  go_wp2_with (fail)
  go_ret
  exact ⟨rfl, bel_a1 w _⟩
theorem numM_any (d r s : Int) (w : World) : Calls Try.prog 47 #[bv d r s] w fun e w' => e = .returned (.int .i64 d) ∧ Below w.heap.size w w' := by
  go_enter Try.func47, Try.ntmps47
  go_wp2_with (fail)
  go_ret
  exact ⟨rfl, bel_a1 w _⟩

theorem M1.setP {w : World} {b : Nat} {s : Int} {g i : Nat} {v : Value} (h : M1 w b s) (hne : g ≠ b) : M1 (w.setCell ⟨g, i, none⟩ v) b s :=
  ⟨by simpa using h.lt, (set_oth (by simp only [ne_eq, Addr.mk.injEq, hne, false_and, not_false_eq_true])).trans h.c0, by simpa using h.f0⟩
theorem nmV_step {f : Nat → Pc} {k : Nat} {G s : Int} (hG : G = nmV f k ∨ (G = -1 ∧ nmV f k = 0)) (hs : gmV (f k).zs = s) (h0 : 0 ≤ s) (h : G < s) : nmV f (k + 1) = s := by
  rw [nmV, hs]
  split <;> omega
theorem nmV_stay {f : Nat → Pc} {k : Nat} {G s : Int} (hG : G = nmV f k ∨ (G = -1 ∧ nmV f k = 0)) (hs : gmV (f k).zs = s) (_ : 0 ≤ s) (h : ¬ G < s) : nmV f (k + 1) = nmV f k := by
  rw [nmV, hs]
  split <;> omega
/-- The program's loop's relation, for marks. -/
def NkRel (f : Nat → Pc) (n : Nat) (w0 : World) (u v : Value) (w : World) : Prop :=
  ∃ (k : Nat) (G : Int), k ≤ n ∧ v = .int .i64 k ∧ u = .int .i64 G ∧ (G = nmV f k ∨ (G = -1 ∧ nmV f k = 0)) ∧ M1 w w0.heap.size 0 ∧ M1 w (w0.heap.size + 1) (nmV f k) ∧ Below w0.heap.size w0 w
set_option maxHeartbeats 4000000 in
theorem newestK_any (a : Option Addr) (n c : Nat) (f : Nat → Pc) (w : World) (h : Rws w a n f) (hn : n ≤ 1000000000000) (hb : ∀ i, i < n → (f i).n ≤ 1000000000000) :
    Calls Try.prog 44 #[.slice a n c, fv 20, fv 45] w fun e w' => e = .returned (mv (nmV f n)) ∧ Below w.heap.size w w' := by
  have HB := Lib.hid hb
  clear hb
  have m6 := (M1.mk' w 0 27).alloc (.cells #[.int .i64 0] 27 (0, 0))
  have m7 : M1 ((w.alloc (.cells #[.int .i64 0] 27 (0, 0))).alloc (.cells #[.int .i64 0] 27 (0, 0))) (w.heap.size + 1) 0 := by
    have := M1.mk' (w.alloc (.cells #[.int .i64 0] 27 (0, 0))) 0 27; simpa using this
  have hB := bel_a2 w (.cells #[.int .i64 0] 27 (0, 0)) (.cells #[.int .i64 0] 27 (0, 0))
  go_enter Try.func44, Try.ntmps44
  go_wp2_with (fail)
  go_loopw [8, 10, 11, 12, 15] (fun u _p _q _r v wr => NkRel f n w u v wr) (fun _ _ _ _ v _ => n - (intOf v).toNat)
  case atStart => exact ⟨0, -1, by omega, rfl, rfl, .inr ⟨rfl, rfl⟩, m6, m7, hB⟩
  case round =>
    clear m6 m7 hB
    obtain ⟨k, G, hk, rfl, rfl, hG, m6, m7, hB⟩ := hrel
    have HG := Lib.hid hG
    clear hG
    by_cases hlt : k < n
    · obtain ⟨b, off, x, m, d, zs, rfl, hbl, hc, hp, hfz, hfn⟩ := (h.next hB).at hlt
      have hm := HB.out k hlt
      rw [hfn] at hm
      have HF := Lib.hid hfz
      have hsm := hp.bys.small
      have hvn := gmV_nn hsm
      have hnn := nmV_nn f k
      clear hfz hfn
      go_wp2_with (fail)
      refine (getMark_any x m d zs wr hp.bys hm).mono ?_
      rintro e w2 ⟨rfl, hb2⟩
      replace m6 := m6.next hb2
      replace m7 := m7.next hb2
      replace hB := hB.trans (hb2.mono hB.size)
      obtain ⟨s, hs⟩ : ∃ s, s = gmV zs := ⟨_, rfl⟩
      rw [← hs] at hvn ⊢
      have HS := Lib.hid (show gmV (f k).zs = s by rw [HF.out]; exact hs.symm)
      have m8 := M1.mk' w2 s 27
      have hl6 := m6.lt
      have hl7 := m7.lt
      replace m6 := m6.alloc (.cells #[.int .i64 s] 27 (0, 0))
      replace m7 := m7.alloc (.cells #[.int .i64 s] 27 (0, 0))
      replace hB := hB.alloc hB.size (.cells #[.int .i64 s] 27 (0, 0))
      clear hb2 hp hc hbl
      cases ho : gmO zs
      · have h0 := Lib.hid (show s = 0 by rw [hs, gmV, ho]; rfl)
        clear ho hs
        go_wp2_with (fail)
        go_roundw
        case rel =>
          have e : nmV f (k + 1) = nmV f k := by rw [nmV, HS.out, if_neg (by have := h0.out; omega)]
          exact ⟨k + 1, G, by omega, by go_num, rfl, by rw [e]; exact HG.out, m6, by rw [e]; exact m7, hB⟩
        case measure => simp [intOf]; omega
      · clear ho hs
        go_wp2_with (fail)
        refine (numK_any s _).mono ?_
        rintro e w3 ⟨rfl, hb3⟩
        replace m6 := m6.next hb3
        replace m7 := m7.next hb3
        replace m8 := m8.next hb3
        replace hB := hB.trans (hb3.mono hB.size)
        clear hb3
        by_cases hgt : G < s
        · have m6d := m6.drew
          have m7d := m7.drew
          have m8d := m8.drew
          have hBd : Below w.heap.size w w3.drew := below_drewN hB 1
          go_wp2_with (fail)
          refine wp_region_held_drew (S := (fun w' => w'.cell? ⟨w2.heap.size, 0, none⟩ = some (.int .i64 s))) (by kernel_rfl) ?_ (fun hHeld => ?_)
          · exact m8d.c0
          generalize hw4 : w3.drew = w4 at *
          clear hw4 m6 m7 m8 hB
          refine wpAnyH_take (i := 0) (v := ?_) rfl (by kernel_rfl) (by kernel_rfl) (by kernel_rfl) (fun _ _ _ h => h) (Or.inl ⟨by rfl, fun w hSw => ?_⟩) (by assumption) ?_
          rotate_left
          · (try dsimp only at hSw); go_simp; try with_reducible rfl
          simp only [Act.put, List.setIfInBounds_toArray, List.set_cons_zero, List.set_cons_succ, List.getElem_toArray, List.getElem_cons_zero]
          refine wpAnyH_take (i := 1) (v := ?_) rfl (by kernel_rfl) (by kernel_rfl) (by kernel_rfl) (fun _ _ _ h => h) (Or.inl ⟨by rfl, fun w hSw => ?_⟩) (by assumption) ?_
          rotate_left
          · (try dsimp only at hSw); go_simp; try with_reducible rfl
          simp only [Act.put, List.setIfInBounds_toArray, List.set_cons_zero, List.set_cons_succ, List.getElem_toArray, List.getElem_cons_succ, List.getElem_cons_zero]
          refine wpAnyH_take (i := 2) (v := ?_) rfl (by kernel_rfl) (by kernel_rfl) (by kernel_rfl) (fun _ _ _ h => h) (Or.inl ⟨by rfl, fun w hSw => ?_⟩) (by assumption) ?_
          rotate_left
          · (try dsimp only at hSw); go_simp; try with_reducible rfl
          simp only [Act.put, List.setIfInBounds_toArray, List.set_cons_zero, List.set_cons_succ, List.getElem_toArray, List.getElem_cons_succ, List.getElem_cons_zero]
          refine wpAnyH_ready (rs := [3]) (by kernel_rfl) (by simp) ?_
          refine AllReadyH.cons rfl (fun K hK => ?_) AllReadyH.nil
          simp only [List.getElem_toArray, List.getElem_cons_succ, List.getElem_cons_zero]
          go_simp
          refine (numK_any s w4).mono ?_
          rintro e w5 ⟨rfl, hb5⟩
          replace m6d := m6d.next hb5
          replace m7d := m7d.next hb5
          replace m8d := m8d.next hb5
          replace hBd := hBd.trans (hb5.mono hBd.size)
          clear hb5 hHeld
          go_wp2_with (fail)
          refine hK.out _ _ m8d.c0 (fun hHeld => ?_)
          clear hK K
          have z0 := m7d.c0
          have f0 := m7d.f0
          refine wpAnyH_ready (rs := [4]) (by kernel_rfl) (by simp) ?_
          refine AllReadyH.cons rfl (fun K hK => ?_) AllReadyH.nil
          simp only [List.getElem_toArray, List.getElem_cons_succ, List.getElem_cons_zero]
          go_simp
          have m7s := m7d.set s
          have m6s := m6d.setP (g := w.heap.size + 1) (i := 0) (v := .int .i64 s) (by omega)
          have m8s := m8d.setP (g := w.heap.size + 1) (i := 0) (v := .int .i64 s) (by omega)
          have hBs := hBd.setCell (p := ⟨w.heap.size + 1, 0, none⟩) (by show w.heap.size ≤ w.heap.size + 1; omega) (.int .i64 s)
          refine hK.out _ _ m8s.c0 (fun hHeld => ?_)
          clear hK K
          obtain ⟨w6, hw6⟩ : ∃ w6, w6 = w5.setCell ⟨w.heap.size + 1, 0, none⟩ (.int .i64 s) := ⟨_, rfl⟩
          rw [← hw6] at m7s m6s hBs hHeld ⊢
          clear hw6 m8s m6d m7d m8d hBd z0 f0
          refine wpAnyH_take (i := 5) (v := ?_) rfl (by kernel_rfl) (by kernel_rfl) (by kernel_rfl) (fun _ _ _ h => h) (Or.inl ⟨by rfl, fun w hSw => ?_⟩) (by assumption) ?_
          rotate_left
          · (try dsimp only at hSw); go_simp; try with_reducible rfl
          simp only [Act.put, List.setIfInBounds_toArray, List.set_cons_zero, List.set_cons_succ, List.getElem_toArray, List.getElem_cons_succ, List.getElem_cons_zero]
          refine wpAnyH_done (by kernel_rfl) ?_ _
          clear hHeld
          go_wp2_with (fail)
          go_roundw
          case rel =>
            have e := nmV_step HG.out HS.out hvn hgt
            exact ⟨k + 1, s, by omega, by go_num, rfl, .inl e.symm, m6s, by rw [e]; exact m7s, hBs⟩
          case measure => simp [intOf]; omega
        · go_wp2_with (fail)
          go_roundw
          case rel =>
            have e := nmV_stay HG.out HS.out hvn (by omega)
            exact ⟨k + 1, G, by omega, by go_num, rfl, by rw [e]; exact HG.out, m6, by rw [e]; exact m7, hB⟩
          case measure => simp [intOf]; omega
    · obtain rfl : k = n := by omega
      have z0 := m7.c0
      have y0 := m6.c0
      have f0 := m6.f0
      clear h
      obtain ⟨s, hs⟩ : ∃ s, s = nmV f k := ⟨_, rfl⟩
      rw [← hs] at z0
      have HSn := Lib.hid hs
      clear hs HG m7
      go_wp2_with (fail)
      have k0 := (m6.set s).c0
      exact bodyPost_ret (v := mv s) (by simp [results, Try.results44, go_sem, k0]) rfl ⟨by rw [HSn.out], hB.setCell (Nat.le_refl _) _⟩
set_option maxHeartbeats 1000000 in
theorem newestMark_any (a : Option Addr) (n c : Nat) (f : Nat → Pc) (w : World) (h : Rws w a n f) (hn : n ≤ 1000000000000) (hb : ∀ i, i < n → (f i).n ≤ 1000000000000) :
    Calls Try.prog 26 #[.slice a n c] w fun e w' => e = .returned (mv (nmV f n)) ∧ Below w.heap.size w w' := by
  obtain ⟨wa, hwa⟩ : ∃ wa, wa = w.alloc (.cells #[.int .i64 0] 27 (0, 0)) := ⟨_, rfl⟩
  have h1 : M1 wa w.heap.size 0 := by rw [hwa]; exact M1.mk' w 0 _
  have hB1 : Below w.heap.size w wa := by rw [hwa]; exact bel_a1 w _
  have hx1 := h.next hB1
  clear h
  go_enter Try.func26, Try.ntmps26
  go_wp2_with (fail)
  rw [← hwa]
  clear hwa
  refine (newestK_any a n c f wa hx1 hn hb).mono ?_
  rintro e w2 ⟨rfl, hb2⟩
  have h2 := h1.next hb2
  have hB2 := hB1.trans (hb2.mono (Nat.le_of_lt h1.lt))
  clear h1 hB1 hx1 hb2
  obtain ⟨s, hs⟩ : ∃ s, s = nmV f n := ⟨_, rfl⟩
  rw [← hs]
  have HSn := Lib.hid hs
  clear hs
  have z1 := h2.c0
  have f1 := h2.f0
  go_wp2_with (fail)
  have k0 := (h2.set s).c0
  exact bodyPost_ret (v := mv s) (by simp [results, Try.results26, go_sem, k0]) rfl ⟨by rw [HSn.out], hB2.setCell (Nat.le_refl _) _⟩

end Go.Proofs.Ytgdkcdgomopnfaa
