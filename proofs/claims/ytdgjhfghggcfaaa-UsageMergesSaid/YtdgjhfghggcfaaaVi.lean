/-
  The victims: the program's.
-/
import Derived.Test.YtdgjhfghggcfaaaIu
import Derived.Test.YtdgjhfghggcfaaaRu3
namespace Go.Proofs.Ytdgjhfghggcfaaa
open Go.RowKit Go.Maps
set_option linter.unusedVariables false

theorem rowU_at {w : World} {B n : Nat} {v : Value} {L : List Usd} (h : RowU w B v n L) {k : Nat} {x : Usd} (hx : L[k]? = some x) :
    ∃ g cap, v = .slice (some ⟨g, 0, none⟩) n cap ∧ g < w.heap.size ∧ w.cell? ⟨g, k * 2, none⟩ = some (.int .i64 x.s) ∧ w.cell? ⟨g, k * 2 + 1, none⟩ = some (.int .i64 x.c) := by
  have hk : k < L.length := by
    rcases Nat.lt_or_ge k L.length with h1 | h1
    · exact h1
    · rw [List.getElem?_eq_none h1] at hx; cases hx
  have hl : L.length = n := by
    have := h.1
    rw [fm_len usc_len] at this
    omega
  rcases h.2 with ⟨rfl, h0⟩ | ⟨g, cap, cur, rfl, _, hg, _⟩
  · omega
  · have hc : ∀ j u, j < 2 → (usc x)[j]? = some u → w.cell? ⟨g, k * 2 + j, none⟩ = some u := by
      intro j u hj hu
      have hf := fm_get (enc := usc) (k := 2) (by decide) usc_len L (k * 2 + j) (by omega)
      rw [show (k * 2 + j) / 2 = k by omega, show (k * 2 + j) % 2 = j by omega, getElem!_pos L k hk] at hf
      rw [List.getElem?_eq_getElem hk] at hx
      cases hx
      rw [getElem!_pos _ j (by rw [usc_len]; exact hj)] at hf
      rw [List.getElem?_eq_getElem (by rw [usc_len]; exact hj)] at hu
      cases hu
      have := World.ownsRow.cells h (g := g) rfl (k * 2 + j) _ hf
      rw [show (⟨g, 0, none⟩ : Addr).add (k * 2 + j) = ⟨g, k * 2 + j, none⟩ by unfold Addr.add; split <;> simp_all] at this
      exact this
    exact ⟨g, cap, rfl, lt_of_block hg, hc 0 _ (by omega) rfl, hc 1 _ (by omega) rfl⟩
set_option maxRecDepth 100000 in
set_option maxHeartbeats 8000000 in
theorem vic_walk (d r s D : Int) (us : List Usd) (a1 a2 : Option Addr) (n1 c1 n2 c2 : Nat) (w : World) (hD : 0 ≤ D) (hD2 : D ≤ 59) (hc0 : ∀ x ∈ us, 0 < x.c) (hul : us.length ≤ 64)
    (hpl : ∀ w, Calls Try.prog 21 #[gv d r s] w fun e w' => e = .returned (.int .i64 D) ∧ Below w.heap.size w w')
    (hus : ∀ w', Below w.heap.size w w' → Calls Try.prog 29 #[gv d r s, .slice a1 n1 c1, .slice a2 n2 c2] w' (UsePost w' us)) :
    Calls Try.prog 17 #[gv d r s, .slice a1 n1 c1, .slice a2 n2 c2] w fun e w' => ∃ L, L.Perm us ∧ L.Pairwise ltU ∧ RetL w (vres (gr D L)) e w' := by
  have x1 := Bx.mk' w d r s 23
  have HP := Lib.hid hpl
  have HU := Lib.hid hus
  clear hpl hus
  go_enter Try.func17, Try.ntmps17
  go_wp2_with (fail)
  refine (HP.out _).mono ?_
  rintro e w2 ⟨rfl, hb⟩
  have hB := bel_box' _ (by simp) hb
  have x2 := x1.next hb
  have y0 := x2.c0
  have y1 := x2.c1
  have y2 := x2.c2
  have hu := HU.out w2 hB
  have HB := Lib.hid hB
  clear x1 hb x2 hB
  go_wp2_with (fail)
  refine hu.mono ?_
  clear hu
  rintro e W ⟨v, L, rfl, hr, hp, hs, hb⟩
  have hB := HB.out.trans (hb.mono HB.out.size)
  have hv : ∃ a c, v = .slice a L.length c := by
    rcases hr.2 with ⟨rfl, h0⟩ | ⟨g, cap, cur, rfl, _⟩
    · exact ⟨none, 0, by rw [h0]⟩
    · exact ⟨_, _, rfl⟩
  obtain ⟨av, cv, rfl⟩ := hv
  have hll : L.length ≤ 64 := by rw [hp.length_eq]; exact hul
  have hcc : Hid (∀ x ∈ L, 0 < x.c) := Lib.hid fun x hx => hc0 x (hp.mem_iff.1 hx)
  have HR := Lib.hid hr
  have HW := Lib.hid hB
  have HPm := Lib.hid hp
  have HS := Lib.hid hs
  clear hr hp hs hb hB y0 y1 y2 HB
  go_wp2_with (fail)
  go_loopw [7, 8, 10, 18] (fun u l _ i wr => ∃ (k : Nat) (left : Int) (G : List Usd), k ≤ L.length ∧ i = .int .i64 k ∧ l = .int .i64 left ∧ 0 ≤ left ∧ left ≤ 59 ∧ G.length ≤ k ∧ gr D L = G ++ gr left (L.drop k) ∧ OwnI wr W.heap.size u G.length (G.map Usd.s) ∧ Below W.heap.size W wr) (fun _ _ _ i _ => L.length - (RowKit.intOf i).toNat)
  case atStart => exact ⟨0, D, [], by omega, rfl, rfl, hD, hD2, Nat.le_refl _, by simp, ownI_nil _ _, Below.refl _ _⟩
  case round =>
    obtain ⟨k, left, G, hk, rfl, rfl, l0, l1, hG, hgr, ho, hb⟩ := hrel
    have HG := Lib.hid hgr
    have HO := Lib.hid ho
    have HBk := Lib.hid hb
    have hWr : W.heap.size ≤ wr.heap.size := hb.size
    have k0 : (0 : Int) ≤ (k : Int) := by omega
    by_cases hlt : k < L.length
    · have k1 : (k : Int) < (L.length : Int) := by omega
      obtain ⟨x, hx⟩ : ∃ x, L[k]? = some x := ⟨L[k], List.getElem?_eq_getElem hlt⟩
      obtain ⟨g, cap, e, hgl, z0, z1⟩ := rowU_at HR.out hx
      cases e
      have hxc := hcc.out x (List.mem_of_getElem? hx)
      have hdr : Hid (L.drop k = x :: L.drop (k + 1)) := Lib.hid (by
        rw [List.drop_eq_getElem_cons hlt]
        rw [List.getElem?_eq_getElem hlt] at hx
        cases hx
        rfl)
      have q0 := (hb.cell (p := ⟨g, k * 2, none⟩) hgl).trans z0
      have q1 := (hb.cell (p := ⟨g, k * 2 + 1, none⟩) hgl).trans z1
      obtain ⟨sx, cx⟩ := x
      simp only at q0 q1 hxc
      have hgw : g < wr.heap.size := by omega
      obtain ⟨ua, uc, rfl, _, _, _, _⟩ := ho.ins
      clear hgr ho hb hx z0 z1
      by_cases hz : left < cx
      · have hz' : decide (left < cx) = true := decide_eq_true hz
        have HE : Hid (gr D L = G) := Lib.hid (by
          rw [HG.out, hdr.out]
          unfold gr
          rw [if_pos hz, List.append_nil])
        by_cases h2 : G.length < 2
        · have h2' : (G.length : Int) < 2 := by omega
          have HV : Hid (vres (gr D L) = []) := Lib.hid (by rw [HE.out]; exact if_pos h2)
          go_wp2_with (fail)
          go_ret
          refine ⟨L, HPm.out, HS.out, ?_⟩
          rw [HV.out]
          exact RetL.nil _ (HW.out.trans ((HBk.out.alloc hWr (.cells #[.int .i64 sx, .int .i64 cx] 51)).mono HW.out.size))
        · have h2' : decide ((G.length : Int) < 2) = false := decide_eq_false (by omega)
          have HV : Hid (vres (gr D L) = G.map Usd.s) := Lib.hid (by rw [HE.out]; exact if_neg h2)
          go_wp2_with (fail)
          go_ret
          refine ⟨L, HPm.out, HS.out, ?_⟩
          rw [HV.out]
          exact RetL.own (HO.out.alloc _) (by simp) (HW.out.trans ((HBk.out.alloc hWr (.cells #[.int .i64 sx, .int .i64 cx] 51)).mono HW.out.size))
      · have hz' : decide (left < cx) = false := decide_eq_false hz
        have HE : Hid (gr D L = (G ++ [⟨sx, cx⟩]) ++ gr (left - cx) (L.drop (k + 1))) := Lib.hid (by
          rw [HG.out, hdr.out]
          conv => lhs; unfold gr
          rw [if_neg hz]
          simp)
        have HO4 := Lib.hid ((HO.out.alloc (.cells #[.int .i64 sx, .int .i64 cx] 51)).alloc (.cells #[.int .i64 sx] 3))
        have HB4 := Lib.hid ((HBk.out.alloc hWr (.cells #[.int .i64 sx, .int .i64 cx] 51)).alloc (by simp; omega) (.cells #[.int .i64 sx] 3))
        go_wp2_with (at_builtin; go_must (refine wpList_api rfl (.tmp 30) (.tmp 33) rfl W.heap.size _ G.length (G.map Usd.s) rfl HO4.out (wr.heap.size + 1) sx rfl (by go_simp) (by omega) (by simp; omega) W HB4.out ?_); intro v2 w5 ho5 hb5)
        go_roundw
        case rel => exact ⟨k + 1, left - cx, G ++ [⟨sx, cx⟩], by omega, by go_num, rfl, by omega, by omega, by simp; omega, HE.out, by simpa using ho5, hb5⟩
        case measure => simp [RowKit.intOf]; omega
    · obtain rfl : k = L.length := by omega
      have k1 : decide ((L.length : Int) < (L.length : Int)) = false := decide_eq_false (by omega)
      obtain ⟨ua, uc, rfl, _, _, _, _⟩ := ho.ins
      have HE : Hid (gr D L = G) := Lib.hid (by rw [HG.out, List.drop_length]; simp [gr])
      clear hgr ho hb
      by_cases h2 : G.length < 2
      · have h2' : (G.length : Int) < 2 := by omega
        have HV : Hid (vres (gr D L) = []) := Lib.hid (by rw [HE.out]; exact if_pos h2)
        go_wp2_with (fail)
        go_ret
        refine ⟨L, HPm.out, HS.out, ?_⟩
        rw [HV.out]
        exact RetL.nil _ (HW.out.trans (HBk.out.mono HW.out.size))
      · have h2' : decide ((G.length : Int) < 2) = false := decide_eq_false (by omega)
        have HV : Hid (vres (gr D L) = G.map Usd.s) := Lib.hid (by rw [HE.out]; exact if_neg h2)
        go_wp2_with (fail)
        go_ret
        refine ⟨L, HPm.out, HS.out, ?_⟩
        rw [HV.out]
        exact RetL.own HO.out (by simp) (HW.out.trans (HBk.out.mono HW.out.size))
theorem victims_any (d r s : Int) (a1 a2 : Option Addr) (n1 c1 n2 c2 : Nat) (ks ts : List Int) (w : World) (hk : Ins w a1 n1 ks) (ht : Ins w a2 n2 ts) (hn1 : n1 ≤ 1000000000000) (hn2 : n2 ≤ 1000000000000) :
    Calls Try.prog 17 #[gv d r s, .slice a1 n1 c1, .slice a2 n2 c2] w fun e w' => ∃ l, RetL w l e w' ∧ VicR d r s ks ts l ∧ (Rt d r s → IsVic (PL d r) s.toNat ks ts l) := by
  have hin : ∀ w', Below w.heap.size w w' → _ := fun w' hb => inUse_any d r s a1 a2 n1 c1 n2 c2 ks ts w' (hk.below (Nat.le_refl _) hb) (ht.below (Nat.le_refl _) hb) hn1 hn2
  by_cases h : Rt d r s
  · obtain ⟨p1, p2, _, _⟩ := PL_bd h.d1 h.d2 h.r1 h.r2
    have s2 := h.s2
    refine (vic_walk d r s (PL d r) (usL s.toNat ks ts) a1 a2 n1 c1 n2 c2 w (by omega) p2 (fun x hx => ?_) ?_ (fun w => places_yes d r s w h) (fun w' hb => (hin w' hb).mono fun e w2 hu => ?_)).mono ?_
    · obtain ⟨j, _, h0, _, rfl⟩ := usL_mem.1 hx
      exact h0
    · have := usL_len s.toNat ks ts
      omega
    · obtain ⟨us, h1, h2, _⟩ := hu
      rw [h2 h] at h1
      exact h1
    · rintro e w' ⟨L, hp, hs, hr⟩
      have hi : IsVic (PL d r) s.toNat ks ts (vres (gr (PL d r) L)) := ⟨L, hp, hs, rfl⟩
      refine ⟨_, hr, ⟨(fun x => absurd h x), fun _ => ?_⟩, fun _ => hi⟩
      have e1 : PL d r = ((PL d r).toNat : Int) := by omega
      rw [e1] at hi
      have := hi.eq
      rw [← e1] at this
      exact this
  · refine (vic_walk d r s 0 [] a1 a2 n1 c1 n2 c2 w (by omega) (by omega) (fun x hx => by cases hx) (by simp) (fun w => places_no d r s w h) (fun w' hb => (hin w' hb).mono fun e w2 hu => ?_)).mono ?_
    · obtain ⟨us, h1, _, h2⟩ := hu
      rw [h2 h] at h1
      exact h1
    · rintro e w' ⟨L, hp, hs, hr⟩
      rw [hp.eq_nil] at hr
      exact ⟨_, hr, ⟨(fun _ => rfl), fun x => absurd x h⟩, fun x => absurd x h⟩
end Go.Proofs.Ytdgjhfghggcfaaa
