/-
  The newest of a list: the reference's, by contract.
-/
import Derived.Test.YtgdkcdgomopnfaaNewB
namespace Go.Proofs.Ytgdkcdgomopnfaa
open Go.RowKit

/-- The reference's loop's relation, for marks. -/
def RkRel (f : Nat → Pc) (n : Nat) (w0 : World) (v : Value) (w : World) : Prop :=
  ∃ (k : Nat), k ≤ n ∧ v = .int .i64 k ∧ M1 w w0.heap.size 0 ∧ M1 w (w0.heap.size + 1) (nmV f k) ∧ Below w0.heap.size w0 w
set_option maxHeartbeats 4000000 in
theorem refNewestMark_any (a : Option Addr) (n c : Nat) (f : Nat → Pc) (w : World) (h : Rws w a n f) (hn : n ≤ 1000000000000) :
    Calls Try.prog 27 #[.slice a n c] w fun e w' => e = .returned (mv (nmV f n)) ∧ Below w.heap.size w w' := by
  have m6 := (M1.mk' w 0 27).alloc (.cells #[.int .i64 0] 27 (0, 0))
  have m7 : M1 ((w.alloc (.cells #[.int .i64 0] 27 (0, 0))).alloc (.cells #[.int .i64 0] 27 (0, 0))) (w.heap.size + 1) 0 := by
    have := M1.mk' (w.alloc (.cells #[.int .i64 0] 27 (0, 0))) 0 27; simpa using this
  have hB := bel_a2 w (.cells #[.int .i64 0] 27 (0, 0)) (.cells #[.int .i64 0] 27 (0, 0))
  go_enter Try.func27, Try.ntmps27
  go_wp2_with (fail)
  go_loopw [4, 5, 6] (fun v _p _q wr => RkRel f n w v wr) (fun v _ _ _ => n - (intOf v).toNat)
  case atStart => exact ⟨0, by omega, rfl, m6, m7, hB⟩
  case round =>
    clear m6 m7 hB
    obtain ⟨k, hk, rfl, m6, m7, hB⟩ := hrel
    by_cases hlt : k < n
    · obtain ⟨b, off, x, m, d, zs, rfl, hbl, hc, hp, hfz, hfn⟩ := (h.next hB).at hlt
      have HF := Lib.hid hfz
      have hsm := hp.bys.small
      have hvn := gmV_nn hsm
      clear hfz hfn
      go_wp2_with (fail)
      refine (refGetMark_any x m d zs wr hp).mono ?_
      rintro e w2 ⟨rfl, hb2⟩
      replace m6 := m6.next hb2
      replace m7 := m7.next hb2
      replace hB := hB.trans (hb2.mono hB.size)
      obtain ⟨s, hs⟩ : ∃ s, s = gmV zs := ⟨_, rfl⟩
      rw [← hs] at hvn ⊢
      have HS := Lib.hid (show gmV (f k).zs = s by rw [HF.out]; exact hs.symm)
      have hl6 := m6.lt
      have hl7 := m7.lt
      obtain ⟨G, hG⟩ : ∃ G, G = nmV f k := ⟨_, rfl⟩
      rw [← hG] at m7
      have hnn : 0 ≤ G := by rw [hG]; exact nmV_nn f k
      have HG := Lib.hid hG
      clear hb2 hp hc hbl hG
      have z0 := m7.c0
      have f0 := m7.f0
      cases ho : gmO zs
      · have h0 := Lib.hid (show s = 0 by rw [hs, gmV, ho]; rfl)
        clear ho hs
        go_wp2_with (fail)
        go_roundw
        case rel =>
          have e : nmV f (k + 1) = G := by rw [nmV, HS.out, ← HG.out, if_neg (by have := h0.out; omega)]
          exact ⟨k + 1, by omega, by go_num, m6.alloc _, by rw [e]; exact m7.alloc _, hB.alloc hB.size _⟩
        case measure => simp [intOf]; omega
      · clear ho hs
        by_cases hgt : G < s
        · go_wp2_with (fail)
          go_roundw
          case rel =>
            have e : nmV f (k + 1) = s := by rw [nmV, HS.out, ← HG.out, if_pos hgt]
            exact ⟨k + 1, by omega, by go_num, (m6.setP (by omega)).alloc _, by rw [e]; exact (m7.set s).alloc _, (hB.setCell (p := ⟨w.heap.size + 1, 0, none⟩) (by show w.heap.size ≤ w.heap.size + 1; omega) (.int .i64 s)).alloc (by simpa using hB.size) _⟩
          case measure => simp [intOf]; omega
        · go_wp2_with (fail)
          go_roundw
          case rel =>
            have e : nmV f (k + 1) = G := by rw [nmV, HS.out, ← HG.out, if_neg (by omega)]
            exact ⟨k + 1, by omega, by go_num, m6.alloc _, by rw [e]; exact m7.alloc _, hB.alloc hB.size _⟩
          case measure => simp [intOf]; omega
    · obtain rfl : k = n := by omega
      have z0 := m7.c0
      have y0 := m6.c0
      have f0 := m6.f0
      clear h
      obtain ⟨s, hs⟩ : ∃ s, s = nmV f k := ⟨_, rfl⟩
      rw [← hs] at z0
      have HSn := Lib.hid hs
      clear hs m7
      go_wp2_with (fail)
      have k0 := (m6.set s).c0
      exact bodyPost_ret (v := mv s) (by simp [results, Try.results27, go_sem, k0]) rfl ⟨by rw [HSn.out], hB.setCell (Nat.le_refl _) _⟩

/-- The reference's loop's relation, for members. -/
def RmRel (f : Nat → Pc) (n : Nat) (w0 : World) (u v : Value) (w : World) : Prop :=
  ∃ (k : Nat), k ≤ n ∧ v = .int .i64 k ∧ u = .bool (nbS f k).some ∧ M3 w w0.heap.size 0 0 0 ∧ M3 w (w0.heap.size + 1) (nbS f k).e (nbS f k).s (nbS f k).t ∧ Below w0.heap.size w0 w
theorem nbS_rstep {f : Nat → Pc} {k : Nat} {zs : List Int} (hz : (f k).zs = zs) (ho : gbO zs = true) (h : (nbS f k).some = false ∨ (nbS f k).e < gb1 zs) : nbS f (k + 1) = ⟨true, gb1 zs, gb2 zs, gb3 zs⟩ := by
  rw [nbS, hz, if_pos ⟨ho, h⟩]
theorem nbS_rstay {f : Nat → Pc} {k : Nat} {zs : List Int} (hz : (f k).zs = zs) (h : gbO zs = false ∨ ((nbS f k).some = true ∧ ¬ (nbS f k).e < gb1 zs)) : nbS f (k + 1) = nbS f k := by
  rw [nbS, hz, if_neg ?_]
  intro ⟨h1, h2⟩
  rcases h with h | ⟨h3, h4⟩
  · rw [h] at h1; cases h1
  · rcases h2 with h2 | h2
    · rw [h3] at h2; cases h2
    · exact h4 h2
set_option maxHeartbeats 4000000 in
theorem refNewestMember_any (a : Option Addr) (n c : Nat) (f : Nat → Pc) (w : World) (h : Rws w a n f) (hn : n ≤ 1000000000000) :
    Calls Try.prog 29 #[.slice a n c] w fun e w' => e = .returned (bv (nbS f n).e (nbS f n).s (nbS f n).t) ∧ Below w.heap.size w w' := by
  have m6 := (M3.mk' w 0 0 0 29).alloc (.cells #[.int .i64 0, .int .i64 0, .int .i64 0] 29 (0, 0))
  have m7 : M3 ((w.alloc (.cells #[.int .i64 0, .int .i64 0, .int .i64 0] 29 (0, 0))).alloc (.cells #[.int .i64 0, .int .i64 0, .int .i64 0] 29 (0, 0))) (w.heap.size + 1) 0 0 0 := by
    have := M3.mk' (w.alloc (.cells #[.int .i64 0, .int .i64 0, .int .i64 0] 29 (0, 0))) 0 0 0 29; simpa using this
  have hB := bel_a2 w (.cells #[.int .i64 0, .int .i64 0, .int .i64 0] 29 (0, 0)) (.cells #[.int .i64 0, .int .i64 0, .int .i64 0] 29 (0, 0))
  go_enter Try.func29, Try.ntmps29
  go_wp2_with (fail)
  go_loopw [4, 5, 6, 7] (fun u v _p _q wr => RmRel f n w u v wr) (fun _ v _ _ _ => n - (intOf v).toNat)
  case atStart => exact ⟨0, by omega, rfl, rfl, m6, m7, hB⟩
  case round =>
    clear m6 m7 hB
    obtain ⟨k, hk, rfl, rfl, m6, m7, hB⟩ := hrel
    obtain ⟨B, hBq⟩ : ∃ s, s = nbS f k := ⟨_, rfl⟩
    obtain ⟨o, p, r, s⟩ := B
    rw [← hBq] at m7 ⊢
    have HQ := Lib.hid hBq
    simp only [] at m7 ⊢
    clear hBq
    by_cases hlt : k < n
    · obtain ⟨b, off, x, m, d, zs, rfl, hbl, hc, hp, hfz, hfn⟩ := (h.next hB).at hlt
      have HF := Lib.hid hfz
      clear hfz hfn
      go_wp2_with (fail)
      refine (refGetMember_any x m d zs wr hp).mono ?_
      rintro e w2 ⟨rfl, hb2⟩
      replace m6 := m6.next hb2
      replace m7 := m7.next hb2
      replace hB := hB.trans (hb2.mono hB.size)
      have hl6 := m6.lt
      have hl7 := m7.lt
      clear hb2 hp hc hbl
      have z0 := m7.c0
      have z1 := m7.c1
      have z2 := m7.c2
      have f0 := m7.f0
      have f1 := m7.f1
      have f2 := m7.f2
      cases ho : gbO zs
      · rw [show gbV zs = bv 0 0 0 by rw [gbV, ho]; rfl]
        have HO := Lib.hid ho
        clear ho
        go_wp2_with (fail)
        go_roundw
        case rel =>
          have e := nbS_rstay HF.out (.inl HO.out)
          rw [← HQ.out] at e
          exact ⟨k + 1, by omega, by go_num, by rw [e], m6.alloc _, by rw [e]; exact m7.alloc _, hB.alloc hB.size _⟩
        case measure => simp [intOf]; omega
      · rw [show gbV zs = bv (gb1 zs) (gb2 zs) (gb3 zs) by rw [gbV, ho]; rfl]
        have HO := Lib.hid ho
        obtain ⟨P, hp⟩ : ∃ z, z = gb1 zs := ⟨_, rfl⟩
        obtain ⟨R, hr⟩ : ∃ z, z = gb2 zs := ⟨_, rfl⟩
        obtain ⟨S, hs⟩ : ∃ z, z = gb3 zs := ⟨_, rfl⟩
        rw [← hp, ← hr, ← hs]
        have HP := Lib.hid (And.intro hp (And.intro hr hs))
        clear ho hp hr hs
        cases o
        · go_wp2_with (fail)
          go_roundw
          case rel =>
            have e := nbS_rstep HF.out HO.out (.inl (by rw [← HQ.out]))
            rw [← HP.out.1, ← HP.out.2.1, ← HP.out.2.2] at e
            exact ⟨k + 1, by omega, by go_num, by rw [e], (m6.setHo (b := w.heap.size + 1) (by omega)).alloc _, by rw [e]; exact (m7.set P R S).alloc _, (hB.setH (b := w.heap.size + 1) (by omega)).alloc (by simpa [setH] using hB.size) _⟩
          case measure => simp [intOf]; omega
        · by_cases hgt : p < P
          · go_wp2_with (fail)
            go_roundw
            case rel =>
              have e := nbS_rstep HF.out HO.out (.inr (by rw [← HQ.out, ← HP.out.1]; exact hgt))
              rw [← HP.out.1, ← HP.out.2.1, ← HP.out.2.2] at e
              exact ⟨k + 1, by omega, by go_num, by rw [e], (m6.setHo (b := w.heap.size + 1) (by omega)).alloc _, by rw [e]; exact (m7.set P R S).alloc _, (hB.setH (b := w.heap.size + 1) (by omega)).alloc (by simpa [setH] using hB.size) _⟩
            case measure => simp [intOf]; omega
          · go_wp2_with (fail)
            go_roundw
            case rel =>
              have e := nbS_rstay HF.out (.inr ⟨by rw [← HQ.out], by rw [← HQ.out, ← HP.out.1]; simp only []; omega⟩)
              rw [← HQ.out] at e
              exact ⟨k + 1, by omega, by go_num, by rw [e], m6.alloc _, by rw [e]; exact m7.alloc _, hB.alloc hB.size _⟩
            case measure => simp [intOf]; omega
    · obtain rfl : k = n := by omega
      clear h
      have z0 := m7.c0
      have z1 := m7.c1
      have z2 := m7.c2
      have y0 := m6.c0
      have y1 := m6.c1
      have y2 := m6.c2
      have f0 := m6.f0
      have f1 := m6.f1
      have f2 := m6.f2
      clear m7
      go_wp2_with (fail)
      have q := m6.set p r s
      have k0 := q.c0
      have k1 := q.c1
      have k2 := q.c2
      unfold setH at k0 k1 k2
      exact bodyPost_ret (v := bv p r s) (by simp [results, Try.results29, go_sem, k0, k1, k2]) rfl ⟨by rw [← HQ.out], hB.setH (Nat.le_refl _)⟩

end Go.Proofs.Ytgdkcdgomopnfaa
