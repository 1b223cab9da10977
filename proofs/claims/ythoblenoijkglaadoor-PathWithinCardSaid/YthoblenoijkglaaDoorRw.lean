/-
  Within, of the document, by contract.
-/
import Derived.Test.YthoblenoijkglaaDoorRt
import Derived.Test.YthoblenoijkglaaDoorTs
namespace Go.Proofs.YthoblenoijkglaaDoor
open Go.RowKit
set_option linter.unusedVariables false
set_option linter.unusedSimpArgs false

set_option maxHeartbeats 2000000 in
theorem rwithin_any (s t : ByteArray) (w : World) (hs : s.size ≤ 1000000) (ht : t.size ≤ 1000000) :
    Calls Tryd.prog 17 #[.string s, .string t] w fun e w' => e = .returned (.bool (wit s.data.toList t.data.toList)) ∧ Below w.heap.size w w' := by
  have hc1 := rsplit_any s w hs
  obtain ⟨x, hx⟩ : ∃ x, s.data.toList = x := ⟨_, rfl⟩
  obtain ⟨y, hy⟩ : ∃ y, t.data.toList = y := ⟨_, rfl⟩
  rw [hx] at hc1
  rw [hx, hy]
  have hc2 : ∀ w1, Calls Tryd.prog 9 #[.string t] w1 (SplPost w1 (spl y)) := fun w1 => by rw [← hy]; exact rsplit_any t w1 ht
  clear hx hy hs ht
  cases hA : spl x with
  | none =>
    have hw := Lib.hid (wit_left hA y)
    rw [hA] at hc1
    clear hA
    cases hB : spl y with
    | none =>
      rw [hB] at hc2
      clear hB
      go_enter Tryd.func17, Tryd.ntmps17
      go_wp2_with (fail)
      refine hc1.mono ?_
      rintro e w1 ⟨h1, hb1⟩
      cases h1
      have h2 := hc2 w1
      have HB1 := Lib.hid hb1
      clear hc1 hc2 hb1
      go_wp2_with (fail)
      refine h2.mono ?_
      rintro e w2 ⟨h3, hb2⟩
      cases h3
      have HB2 := Lib.hid (HB1.out.trans (hb2.mono HB1.out.size))
      clear h2 hb2
      go_wp2_with (fail)
      go_ret
      exact ⟨by rw [hw.out]; rfl, HB2.out⟩
    | some M =>
      rw [hB] at hc2
      clear hB
      go_enter Tryd.func17, Tryd.ntmps17
      go_wp2_with (fail)
      refine hc1.mono ?_
      rintro e w1 ⟨h1, hb1⟩
      cases h1
      have h2 := hc2 w1
      have HB1 := Lib.hid hb1
      clear hc1 hc2 hb1
      go_wp2_with (fail)
      refine h2.mono ?_
      rintro e w2 ⟨⟨v, he, ho⟩, hb2⟩
      subst he
      obtain ⟨a2, c2, rfl, _⟩ := ho.sts
      have HB2 := Lib.hid (HB1.out.trans (hb2.mono HB1.out.size))
      clear h2 hb2 ho
      go_wp2_with (fail)
      go_ret
      exact ⟨by rw [hw.out]; rfl, HB2.out⟩
  | some L =>
    rw [hA] at hc1
    cases hB : spl y with
    | none =>
      have hw := Lib.hid (show wit x y = false by unfold wit; rw [hA, hB])
      rw [hB] at hc2
      clear hB hA
      go_enter Tryd.func17, Tryd.ntmps17
      go_wp2_with (fail)
      refine hc1.mono ?_
      rintro e w1 ⟨⟨v, he, ho⟩, hb1⟩
      subst he
      obtain ⟨a1, c1, rfl, _⟩ := ho.sts
      have h2 := hc2 w1
      have HB1 := Lib.hid hb1
      clear hc1 hc2 hb1 ho
      go_wp2_with (fail)
      refine h2.mono ?_
      rintro e w2 ⟨h3, hb2⟩
      cases h3
      have HB2 := Lib.hid (HB1.out.trans (hb2.mono HB1.out.size))
      clear h2 hb2
      go_wp2_with (fail)
      go_ret
      exact ⟨by rw [hw.out]; rfl, HB2.out⟩
    | some M =>
      have hw := Lib.hid (wit_eq hA hB)
      have h8 := arP_len (spl_arP hA)
      have h9 := arP_len (spl_arP hB)
      rw [hB] at hc2
      clear hB hA
      by_cases hlt : L.length < M.length
      · have k3 : (L.length : Int) < (M.length : Int) := by omega
        go_enter Tryd.func17, Tryd.ntmps17
        go_wp2_with (fail)
        refine hc1.mono ?_
        rintro e w1 ⟨⟨v, he, ho⟩, hb1⟩
        subst he
        obtain ⟨a1, c1, rfl, _⟩ := ho.sts
        have h2 := hc2 w1
        have HB1 := Lib.hid hb1
        clear hc1 hc2 hb1 ho
        go_wp2_with (fail)
        refine h2.mono ?_
        rintro e w2 ⟨⟨v, he, ho⟩, hb2⟩
        subst he
        obtain ⟨a2, c2, rfl, _⟩ := ho.sts
        have HB2 := Lib.hid (HB1.out.trans (hb2.mono HB1.out.size))
        clear h2 hb2 ho
        go_wp2_with (fail)
        go_ret
        exact ⟨by rw [hw.out, decide_eq_false (by omega)]; rfl, HB2.out⟩
      · have k3 : ¬ (L.length : Int) < (M.length : Int) := by omega
        go_enter Tryd.func17, Tryd.ntmps17
        go_wp2_with (fail)
        refine hc1.mono ?_
        rintro e w1 ⟨⟨v, he, ho⟩, hb1⟩
        subst he
        obtain ⟨a1, c1, rfl, hS1, hnc, hcm, hz, _⟩ := ho.sts
        have h2 := hc2 w1
        have HB1 := Lib.hid hb1
        have HS1 := Lib.hid hS1
        clear hc1 hc2 hb1 ho hS1
        go_wp2_with (fail)
        refine h2.mono ?_
        rintro e w2 ⟨⟨v, he, ho⟩, hb2⟩
        subst he
        obtain ⟨a2, c2, rfl, hS2, _⟩ := ho.sts
        have HB2 := Lib.hid (HB1.out.trans (hb2.mono HB1.out.size))
        have HS1' := Lib.hid (HS1.out.next hb2)
        clear h2 hb2 ho
        go_wp2_with (fail)
        go_loopw [9] (fun v wr => ∃ k : Nat, k ≤ M.length ∧ v = .int .i64 k ∧ (∃ q, wr = w2.drewN q) ∧ LikeTo L M k) (fun v _ => M.length - (RowKit.intOf v).toNat)
        case atStart => exact ⟨0, by omega, rfl, ⟨0, rfl⟩, LikeTo.zero _ _⟩
        case round =>
          obtain ⟨k, hk, rfl, ⟨q, hq⟩, hI⟩ := hrel
          have HI := Lib.hid hI
          have hB : Below w2.heap.size w2 wr := by rw [hq]; exact below_drewN (Below.refl _ _) q
          have HQ := Lib.hid hq
          have HB3 := Lib.hid (HB2.out.trans (hB.mono HB2.out.size))
          clear hq hI
          by_cases hlk : k < M.length
          · obtain ⟨g1, o1, rfl, l1, e1⟩ := HS1'.out.at (by omega)
            obtain ⟨g2, o2, rfl, l2, e2⟩ := hS2.at (by omega)
            have k0 : (0 : Int) ≤ (k : Int) := by omega
            have k1 : (k : Int) < (M.length : Int) := by omega
            have k2 : (k : Int) < (L.length : Int) := by omega
            have x1 := (hB.cell (p := ⟨g1, o1 + k, none⟩) l1).trans (e1 k (by omega))
            have x2 := (hB.cell (p := ⟨g2, o2 + k, none⟩) l2).trans (e2 k hlk)
            clear e1 e2 hB hS2 hz
            by_cases he : tat L k = tat M k
            · have ht := text_eq (tat M k)
              rw [he] at x1
              go_wp2_with (fail)
              go_quiet (fail)
              go_wp2_with (fail)
              go_roundw
              case rel => exact ⟨k + 1, by omega, by go_num, ⟨q + nq, by rw [HQ.out, World.drewN_drewN]⟩, HI.out.succ he⟩
              case measure => simp [RowKit.intOf]; omega
            · have ht := text_neq he
              have hne := Lib.hid (show wit x y = false by
                rw [hw.out, Bool.and_eq_false_iff]
                refine .inr (beq_eq_false_iff_ne.2 fun e => he ?_)
                rw [← tat_take (L := L) hlk, e])
              clear he
              go_wp2_with (fail)
              go_quiet (fail)
              go_wp2_with (fail)
              go_ret
              exact ⟨by rw [hne.out]; rfl, below_drewN HB3.out _⟩
          · obtain rfl : k = M.length := by omega
            clear hB hS2 hz
            have heq := Lib.hid (show wit x y = true by
              rw [hw.out, decide_eq_true (by omega), Bool.true_and, beq_iff_eq]
              refine tat_ext (by rw [List.length_take]; omega) fun i hi => ?_
              rw [List.length_take] at hi
              rw [tat_take (by omega)]
              exact HI.out i (by omega))
            go_wp2_with (fail)
            go_ret
            exact ⟨by rw [heq.out]; rfl, HB3.out⟩
end Go.Proofs.YthoblenoijkglaaDoor
