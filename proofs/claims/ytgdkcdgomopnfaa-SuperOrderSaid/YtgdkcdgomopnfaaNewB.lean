/-
  The newest member of a list: the program's, by contract.
-/
import Derived.Test.YtgdkcdgomopnfaaNewA
namespace Go.Proofs.Ytgdkcdgomopnfaa
open Go.RowKit

theorem M3.setHo {w : World} {b b' : Nat} {p q r d s t : Int} (h : M3 w b' d s t) (hne : b ≠ b') : M3 (setH w b p q r) b' d s t :=
  ⟨h.toBx.setOther hne, by simpa [setH] using h.f0, by simpa [setH] using h.f1, by simpa [setH] using h.f2⟩
/-- The number that a member is held against. -/
def nbG (b : Nb) : Int := if b.some then b.e else -1
theorem nbS_step {f : Nat → Pc} {k : Nat} {zs : List Int} (hz : (f k).zs = zs) (ho : gbO zs = true) (h : nbG (nbS f k) < gb1 zs) : nbS f (k + 1) = ⟨true, gb1 zs, gb2 zs, gb3 zs⟩ := by
  have hc : (nbS f k).some = false ∨ (nbS f k).e < gb1 zs := by
    unfold nbG at h
    cases hs : (nbS f k).some
    · exact .inl rfl
    · rw [hs, if_pos rfl] at h; exact .inr h
  rw [nbS, hz, if_pos ⟨ho, hc⟩]
theorem nbS_stay {f : Nat → Pc} {k : Nat} {zs : List Int} (hz : (f k).zs = zs) (hx : AllB zs) (h : gbO zs = false ∨ ¬ nbG (nbS f k) < gb1 zs) : nbS f (k + 1) = nbS f k := by
  rw [nbS, hz, if_neg ?_]
  intro ⟨h1, h2⟩
  rcases h with h | h
  · rw [h] at h1; cases h1
  · apply h
    unfold nbG
    cases hs : (nbS f k).some
    · have := gb1_nn hx; simp; omega
    · rcases h2 with h2 | h2
      · rw [hs] at h2; cases h2
      · simpa using h2

/-- The program's loop's relation, for members. -/
def NmRel (f : Nat → Pc) (n : Nat) (w0 : World) (u v : Value) (w : World) : Prop :=
  ∃ (k : Nat), k ≤ n ∧ v = .int .i64 k ∧ u = .int .i64 (nbG (nbS f k)) ∧ M3 w w0.heap.size 0 0 0 ∧ M3 w (w0.heap.size + 1) (nbS f k).e (nbS f k).s (nbS f k).t ∧ Below w0.heap.size w0 w
set_option maxHeartbeats 4000000 in
theorem newestM_any (a : Option Addr) (n c : Nat) (f : Nat → Pc) (w : World) (h : Rws w a n f) (hn : n ≤ 1000000000000) (hb : ∀ i, i < n → (f i).n ≤ 1000000000000) :
    Calls Try.prog 46 #[.slice a n c, fv 22, fv 47] w fun e w' => e = .returned (bv (nbS f n).e (nbS f n).s (nbS f n).t) ∧ Below w.heap.size w w' := by
  have HB := Lib.hid hb
  clear hb
  have m6 := (M3.mk' w 0 0 0 29).alloc (.cells #[.int .i64 0, .int .i64 0, .int .i64 0] 29 (0, 0))
  have m7 : M3 ((w.alloc (.cells #[.int .i64 0, .int .i64 0, .int .i64 0] 29 (0, 0))).alloc (.cells #[.int .i64 0, .int .i64 0, .int .i64 0] 29 (0, 0))) (w.heap.size + 1) 0 0 0 := by
    have := M3.mk' (w.alloc (.cells #[.int .i64 0, .int .i64 0, .int .i64 0] 29 (0, 0))) 0 0 0 29; simpa using this
  have hB := bel_a2 w (.cells #[.int .i64 0, .int .i64 0, .int .i64 0] 29 (0, 0)) (.cells #[.int .i64 0, .int .i64 0, .int .i64 0] 29 (0, 0))
  go_enter Try.func46, Try.ntmps46
  go_wp2_with (fail)
  go_loopw [8, 10, 11, 12, 15] (fun u _p _q _r v wr => NmRel f n w u v wr) (fun _ _ _ _ v _ => n - (intOf v).toNat)
  case atStart => exact ⟨0, by omega, rfl, rfl, m6, m7, hB⟩
  case round =>
    clear m6 m7 hB
    obtain ⟨k, hk, rfl, rfl, m6, m7, hB⟩ := hrel
    obtain ⟨G, hG⟩ : ∃ G, G = nbG (nbS f k) := ⟨_, rfl⟩
    rw [← hG]
    have HG := Lib.hid hG
    clear hG
    by_cases hlt : k < n
    · obtain ⟨b, off, x, m, d, zs, rfl, hbl, hc, hp, hfz, hfn⟩ := (h.next hB).at hlt
      have hm := HB.out k hlt
      rw [hfn] at hm
      have HF := Lib.hid hfz
      have HSM := Lib.hid hp.bys.small
      clear hfz hfn
      go_wp2_with (fail)
      refine (getMember_any x m d zs wr hp.bys hm).mono ?_
      rintro e w2 ⟨rfl, hb2⟩
      replace m6 := m6.next hb2
      replace m7 := m7.next hb2
      replace hB := hB.trans (hb2.mono hB.size)
      have hl6 := m6.lt
      have hl7 := m7.lt
      clear hb2 hp hc hbl
      cases ho : gbO zs
      · rw [show gbV zs = bv 0 0 0 by rw [gbV, ho]; rfl]
        have HO := Lib.hid ho
        replace m6 := m6.alloc (.cells #[.int .i64 0, .int .i64 0, .int .i64 0] 29 (0, 0))
        replace m7 := m7.alloc (.cells #[.int .i64 0, .int .i64 0, .int .i64 0] 29 (0, 0))
        replace hB := hB.alloc hB.size (.cells #[.int .i64 0, .int .i64 0, .int .i64 0] 29 (0, 0))
        clear ho
        go_wp2_with (fail)
        go_roundw
        case rel =>
          have e := nbS_stay HF.out HSM.out (.inl HO.out)
          exact ⟨k + 1, by omega, by go_num, by rw [e, ← HG.out], m6, by rw [e]; exact m7, hB⟩
        case measure => simp [intOf]; omega
      · rw [show gbV zs = bv (gb1 zs) (gb2 zs) (gb3 zs) by rw [gbV, ho]; rfl]
        have HO := Lib.hid ho
        obtain ⟨p, hp⟩ : ∃ z, z = gb1 zs := ⟨_, rfl⟩
        obtain ⟨r, hr⟩ : ∃ z, z = gb2 zs := ⟨_, rfl⟩
        obtain ⟨s, hs⟩ : ∃ z, z = gb3 zs := ⟨_, rfl⟩
        rw [← hp, ← hr, ← hs]
        have HP := Lib.hid (And.intro hp (And.intro hr hs))
        clear ho hp hr hs
        have m8 := M3.mk' w2 p r s 29
        replace m6 := m6.alloc (.cells #[.int .i64 p, .int .i64 r, .int .i64 s] 29 (0, 0))
        replace m7 := m7.alloc (.cells #[.int .i64 p, .int .i64 r, .int .i64 s] 29 (0, 0))
        replace hB := hB.alloc hB.size (.cells #[.int .i64 p, .int .i64 r, .int .i64 s] 29 (0, 0))
        go_wp2_with (fail)
        refine (numM_any p r s _).mono ?_
        rintro e w3 ⟨rfl, hb3⟩
        replace m6 := m6.next hb3
        replace m7 := m7.next hb3
        replace m8 := m8.next hb3
        replace hB := hB.trans (hb3.mono hB.size)
        clear hb3
        by_cases hgt : G < p
        · have m6d := m6.drew
          have m7d := m7.drew
          have m8d := m8.drew
          have hBd : Below w.heap.size w w3.drew := below_drewN hB 1
          go_wp2_with (fail)
          refine wp_region_held_drew (S := (fun w' => w'.cell? ⟨w2.heap.size, 0, none⟩ = some (.int .i64 p) ∧ w'.cell? ⟨w2.heap.size, 1, none⟩ = some (.int .i64 r) ∧ w'.cell? ⟨w2.heap.size, 2, none⟩ = some (.int .i64 s))) (by kernel_rfl) ?_ (fun hHeld => ?_)
          · exact ⟨m8d.c0, m8d.c1, m8d.c2⟩
          generalize hw4 : w3.drew = w4 at *
          clear hw4 m6 m7 m8 hB
          refine wpAnyH_take (i := 0) (v := ?_) rfl (by kernel_rfl) (by kernel_rfl) (by kernel_rfl) (fun _ _ _ h => h) (Or.inl ⟨by rfl, fun w hSw => ?_⟩) (by assumption) ?_
          rotate_left
          · (try dsimp only at hSw); go_simp; try with_reducible rfl
          simp only [Act.put, List.setIfInBounds_toArray, List.set_cons_zero, List.set_cons_succ, List.getElem_toArray, List.getElem_cons_zero]
          refine wpAnyH_take (i := 1) (v := ?_) rfl (by kernel_rfl) (by kernel_rfl) (by kernel_rfl) (fun _ _ _ h => h) (Or.inl ⟨by rfl, fun w hSw => ?_⟩) (by assumption) ?_
          rotate_left
          · (try dsimp only at hSw); go_simp; try with_reducible rfl
          simp only [Act.put, List.setIfInBounds_toArray, List.set_cons_zero, List.set_cons_succ, List.getElem_toArray, List.getElem_cons_succ, List.getElem_cons_zero]
          refine wpAnyH_take (i := 2) (v := ?_) rfl (by kernel_rfl) (by kernel_rfl) (by kernel_rfl) (fun _ _ _ h => h) (Or.inl ⟨by rfl, fun w hSw => ?_⟩) (by assumption) ?_
          rotate_left
          · (try dsimp only at hSw); go_simp; try with_reducible rfl
          simp only [Act.put, List.setIfInBounds_toArray, List.set_cons_zero, List.set_cons_succ, List.getElem_toArray, List.getElem_cons_succ, List.getElem_cons_zero]
          refine wpAnyH_ready (rs := [3]) (by kernel_rfl) (by simp) ?_
          refine AllReadyH.cons rfl (fun K hK => ?_) AllReadyH.nil
          simp only [List.getElem_toArray, List.getElem_cons_succ, List.getElem_cons_zero]
          go_simp
          refine (numM_any p r s w4).mono ?_
          rintro e w5 ⟨rfl, hb5⟩
          replace m6d := m6d.next hb5
          replace m7d := m7d.next hb5
          replace m8d := m8d.next hb5
          replace hBd := hBd.trans (hb5.mono hBd.size)
          clear hb5 hHeld
          go_wp2_with (fail)
          refine hK.out _ _ ⟨m8d.c0, m8d.c1, m8d.c2⟩ (fun hHeld => ?_)
          clear hK K
          have z0 := m7d.c0
          have z1 := m7d.c1
          have z2 := m7d.c2
          have f0 := m7d.f0
          have f1 := m7d.f1
          have f2 := m7d.f2
          refine wpAnyH_ready (rs := [4]) (by kernel_rfl) (by simp) ?_
          refine AllReadyH.cons rfl (fun K hK => ?_) AllReadyH.nil
          simp only [List.getElem_toArray, List.getElem_cons_succ, List.getElem_cons_zero]
          go_simp
          have m7s := m7d.set p r s
          have m6s := m6d.setHo (b := w.heap.size + 1) (p := p) (q := r) (r := s) (by omega)
          have m8s := m8d.setHo (b := w.heap.size + 1) (p := p) (q := r) (r := s) (by omega)
          have hBs := hBd.setH (b := w.heap.size + 1) (p := p) (q := r) (r := s) (by omega)
          refine hK.out _ (setH w5 (w.heap.size + 1) p r s) ⟨m8s.c0, m8s.c1, m8s.c2⟩ (fun hHeld => ?_)
          clear hK K
          obtain ⟨w6, hw6⟩ : ∃ w6, w6 = setH w5 (w.heap.size + 1) p r s := ⟨_, rfl⟩
          rw [← hw6] at m7s m6s hBs hHeld ⊢
          clear hw6 m8s m6d m7d m8d hBd z0 z1 z2 f0 f1 f2
          refine wpAnyH_take (i := 5) (v := ?_) rfl (by kernel_rfl) (by kernel_rfl) (by kernel_rfl) (fun _ _ _ h => h) (Or.inl ⟨by rfl, fun w hSw => ?_⟩) (by assumption) ?_
          rotate_left
          · (try dsimp only at hSw); go_simp; try with_reducible rfl
          simp only [Act.put, List.setIfInBounds_toArray, List.set_cons_zero, List.set_cons_succ, List.getElem_toArray, List.getElem_cons_succ, List.getElem_cons_zero]
          refine wpAnyH_done (by kernel_rfl) ?_ _
          clear hHeld
          go_wp2_with (fail)
          go_roundw
          case rel =>
            have e := nbS_step HF.out HO.out (by rw [← HG.out, ← HP.out.1]; exact hgt)
            rw [← HP.out.1, ← HP.out.2.1, ← HP.out.2.2] at e
            exact ⟨k + 1, by omega, by go_num, by rw [e]; rfl, m6s, by rw [e]; exact m7s, hBs⟩
          case measure => simp [intOf]; omega
        · go_wp2_with (fail)
          go_roundw
          case rel =>
            have e := nbS_stay HF.out HSM.out (.inr (by rw [← HG.out, ← HP.out.1]; omega))
            exact ⟨k + 1, by omega, by go_num, by rw [e, ← HG.out], m6, by rw [e]; exact m7, hB⟩
          case measure => simp [intOf]; omega
    · obtain rfl : k = n := by omega
      clear h
      obtain ⟨B, hBq⟩ : ∃ s, s = nbS f k := ⟨_, rfl⟩
      obtain ⟨o, p, r, s⟩ := B
      rw [← hBq] at m7
      have HSn := Lib.hid hBq
      have z0 := m7.c0
      have z1 := m7.c1
      have z2 := m7.c2
      have y0 := m6.c0
      have y1 := m6.c1
      have y2 := m6.c2
      have f0 := m6.f0
      have f1 := m6.f1
      have f2 := m6.f2
      simp only [] at z0 z1 z2
      clear hBq HG m7
      go_wp2_with (fail)
      have q := m6.set p r s
      have k0 := q.c0
      have k1 := q.c1
      have k2 := q.c2
      unfold setH at k0 k1 k2
      exact bodyPost_ret (v := bv p r s) (by simp [results, Try.results46, go_sem, k0, k1, k2]) rfl ⟨by rw [← HSn.out], hB.setH (Nat.le_refl _)⟩
set_option maxHeartbeats 1000000 in
theorem newestMember_any (a : Option Addr) (n c : Nat) (f : Nat → Pc) (w : World) (h : Rws w a n f) (hn : n ≤ 1000000000000) (hb : ∀ i, i < n → (f i).n ≤ 1000000000000) :
    Calls Try.prog 28 #[.slice a n c] w fun e w' => e = .returned (bv (nbS f n).e (nbS f n).s (nbS f n).t) ∧ Below w.heap.size w w' := by
  obtain ⟨wa, hwa⟩ : ∃ wa, wa = w.alloc (.cells #[.int .i64 0, .int .i64 0, .int .i64 0] 29 (0, 0)) := ⟨_, rfl⟩
  have h1 : M3 wa w.heap.size 0 0 0 := by rw [hwa]; exact M3.mk' w 0 0 0 _
  have hB1 : Below w.heap.size w wa := by rw [hwa]; exact bel_a1 w _
  have hx1 := h.next hB1
  clear h
  go_enter Try.func28, Try.ntmps28
  go_wp2_with (fail)
  rw [← hwa]
  clear hwa
  refine (newestM_any a n c f wa hx1 hn hb).mono ?_
  rintro e w2 ⟨rfl, hb2⟩
  have h2 := h1.next hb2
  have hB2 := hB1.trans (hb2.mono (Nat.le_of_lt h1.lt))
  clear h1 hB1 hx1 hb2
  obtain ⟨B, hBq⟩ : ∃ s, s = nbS f n := ⟨_, rfl⟩
  obtain ⟨o, p, r, s⟩ := B
  rw [← hBq]
  have HSn := Lib.hid hBq
  clear hBq
  have z1 := h2.c0
  have z2 := h2.c1
  have z3 := h2.c2
  have f1 := h2.f0
  have f2 := h2.f1
  have f3 := h2.f2
  go_wp2_with (fail)
  have q := h2.set p r s
  have k0 := q.c0
  have k1 := q.c1
  have k2 := q.c2
  unfold setH at k0 k1 k2
  exact bodyPost_ret (v := bv p r s) (by simp [results, Try.results28, go_sem, k0, k1, k2]) rfl ⟨by rw [← HSn.out], hB2.setH (Nat.le_refl _)⟩

end Go.Proofs.Ytgdkcdgomopnfaa
